/- The program's Apart of layer 7. -/
import Derived.Test.YtoeknophfcfahaaGreatDoorNa
import Derived.Laws.MakeOwn
namespace Go.Proofs.YtoeknophfcfahaaGreatDoor
open Go.RowKit Go.Maps Go.Sort
set_option linter.unusedVariables false

/-- How far two texts are apart. -/
def apartN (a b : ByteArray) : Nat := lev (ints (cds a)).reverse (ints (cds b)).reverse
theorem apartN_tab (a b : ByteArray) : tabN (cds a) (cds b) (cds a).length (cds b).length = apartN a b := by
  unfold tabN apartN
  have := tab_all (ints (cds a)) (ints (cds b))
  rwa [ints_len, ints_len] at this
theorem apartN_sym (a b : ByteArray) : apartN a b = apartN b a := lev_sym _ _
theorem runes_run' (s : ByteArray) (w : World) (hs : s.size ≤ 16777216) : ∃ cap W1, (convert 9 123 (.string s)).run Tryz.prog w = .ok (.slice (some ⟨w.heap.size, 0, none⟩) (cds s).length cap) W1 ∧
    RdR W1 w.heap.size (cds s) ∧ Below w.heap.size w W1 ∧ W1.heap.size = w.heap.size + 1 := by
  obtain ⟨cap, C, h1, h2⟩ := runes_run s w hs
  exact ⟨cap, _, h1, h2, ((Below.refl _ w).drew).alloc (Nat.le_refl _) _, by simp⟩
theorem RdR.block {W W' : World} {b : Nat} {ys : List Nat} (h : RdR W b ys) (hs : W.heap.size ≤ W'.heap.size) (e : W'.heap[b]? = W.heap[b]?) : RdR W' b ys :=
  ⟨Nat.lt_of_lt_of_le h.1 hs, fun j hj => (World.cell?_of_block (a := ⟨b, j, none⟩) e).trans (h.2 j hj)⟩
theorem RowN.any {W : World} {g m n : Nat} {f : Nat → Nat} (h : RowN W g m n f) (f' : Nat → Nat) : RowN W g m 0 f' := by
  obtain ⟨cur, h1, h2, h3⟩ := h
  exact ⟨cur, h1, h2, fun k hk => absurd hk (Nat.not_lt_zero _)⟩

/-- What Apart holds: two rows, an array of both, the code points of the shorter text. -/
structure AS (w : World) (y : List Nat) (R g0 g1 n : Nat) (f : Nat → Nat) (W : World) : Prop where
  box : W.heap[R]? = some (.cells #[.slice (some ⟨g0, 0, none⟩) (y.length + 1) (y.length + 1), .slice (some ⟨g1, 0, none⟩) (y.length + 1) (y.length + 1)] 124 (0, 0))
  r0 : RowN W g0 y.length n f
  r1 : RowN W g1 y.length 0 f
  ys : RdR W w.heap.size y
  ne : g0 ≠ g1
  lo0 : w.heap.size < g0
  lo1 : w.heap.size < g1
  loR : w.heap.size < R
  hi0 : g0 < w.heap.size + 4
  hi1 : g1 < w.heap.size + 4
  hiR : R < w.heap.size + 4
  bl : Below w.heap.size w W
namespace AS
variable {w W W' : World} {y : List Nat} {R g0 g1 n : Nat} {f : Nat → Nat}
theorem neR0 (h : AS w y R g0 g1 n f W) : R ≠ g0 := by
  obtain ⟨cur, h1, _⟩ := h.r0
  rintro rfl
  rw [h.box] at h1
  cases h1
theorem neR1 (h : AS w y R g0 g1 n f W) : R ≠ g1 := by
  obtain ⟨cur, h1, _⟩ := h.r1
  rintro rfl
  rw [h.box] at h1
  cases h1
theorem c0 (h : AS w y R g0 g1 n f W) : W.cell? ⟨R, 0, none⟩ = some (.slice (some ⟨g0, 0, none⟩) (y.length + 1) (y.length + 1)) := by simp [World.cell?, h.box]
theorem c1 (h : AS w y R g0 g1 n f W) : W.cell? ⟨R, 1, none⟩ = some (.slice (some ⟨g1, 0, none⟩) (y.length + 1) (y.length + 1)) := by simp [World.cell?, h.box]
theorem f0 (h : AS w y R g0 g1 n f W) : W.frozen? ⟨R, 0, none⟩ = false := by simp [World.frozen?, h.box]
theorem f1 (h : AS w y R g0 g1 n f W) : W.frozen? ⟨R, 1, none⟩ = false := by simp [World.frozen?, h.box]
/-- What leaves all these blocks as they are. -/
theorem kept (h : AS w y R g0 g1 n f W) (hb : Below (w.heap.size + 4) W W') : AS w y R g0 g1 n f W' :=
  ⟨(hb.block R h.hiR).trans h.box, h.r0.block (hb.block _ h.hi0), h.r1.block (hb.block _ h.hi1), h.ys.block hb.size (hb.block _ (by omega)), h.ne, h.lo0, h.lo1, h.loR, h.hi0, h.hi1, h.hiR, h.bl.trans (hb.mono (by omega))⟩
theorem set (h : AS w y R g0 g1 n f W) (hn : n ≤ y.length) : AS w y R g0 g1 (n + 1) f (W.setCell ⟨g0, n, none⟩ (.int .i64 (f n : Nat))) := by
  have k : ∀ c, c ≠ g0 → (W.setCell ⟨g0, n, none⟩ (.int .i64 (f n : Nat))).heap[c]? = W.heap[c]? := fun c hc => Below.heap_setCell _ _ _ _ hc
  have hlo := h.lo0
  exact ⟨(k R h.neR0).trans h.box, h.r0.set hn, h.r1.block (k g1 (fun e => h.ne e.symm)), h.ys.block (by simp [World.setCell]) (k _ (by omega)), h.ne, h.lo0, h.lo1, h.loR, h.hi0, h.hi1, h.hiR, h.bl.setCell (p := ⟨g0, n, none⟩) (by show w.heap.size ≤ g0; omega) _⟩
/-- Behind a new row, and the exchange of both. -/
theorem turn (h : AS w y R g0 g1 n f W) {f' : Nat → Nat} (hg : W.grownBy W' (some g1)) (hr : RowN W' g1 y.length (y.length + 1) f') :
    AS w y R g1 g0 (y.length + 1) f' ((W'.setCell ⟨R, 0, none⟩ (.slice (some ⟨g1, 0, none⟩) (y.length + 1) (y.length + 1))).setCell ⟨R, 1, none⟩ (.slice (some ⟨g0, 0, none⟩) (y.length + 1) (y.length + 1))) := by
  have hlt : ∀ c, c < w.heap.size + 4 → c = R ∨ c = g0 ∨ c = w.heap.size → c < W.heap.size := fun c _ hc => by
    rcases hc with rfl | rfl | rfl
    · exact (Array.getElem?_eq_some_iff.1 h.box).1
    · exact h.r0.lt
    · exact h.ys.1
  have hbox := (hg.block R (hlt R h.hiR (.inl rfl)) (by simpa using h.neR1)).trans h.box
  have k : ∀ c, c ≠ R → ((W'.setCell ⟨R, 0, none⟩ (.slice (some ⟨g1, 0, none⟩) (y.length + 1) (y.length + 1))).setCell ⟨R, 1, none⟩ (.slice (some ⟨g0, 0, none⟩) (y.length + 1) (y.length + 1))).heap[c]? = W'.heap[c]? := fun c hc => (Below.heap_setCell _ _ _ _ hc).trans (Below.heap_setCell _ _ _ _ hc)
  have hlo1 := h.lo1
  have hloR := h.loR
  refine ⟨?_, hr.block (k _ (fun e => h.neR1 e.symm)), ((h.r0.block (hg.block g0 h.r0.lt (by simpa using h.ne))).any f').block (k _ (fun e => h.neR0 e.symm)), (h.ys.block hg.size (hg.block _ h.ys.1 (by simp; omega))).block (by simp [World.setCell]) (k _ (by omega)), fun e => h.ne e.symm, h.lo1, h.lo0, h.loR, h.hi1, h.hi0, h.hiR, ?_⟩
  · have h1 := setCell_row hbox 0 (.slice (some ⟨g1, 0, none⟩) (y.length + 1) (y.length + 1))
    have h2 := setCell_row h1 1 (.slice (some ⟨g0, 0, none⟩) (y.length + 1) (y.length + 1))
    simpa using h2
  · exact ((h.bl.grown hg (by have := h.bl.size; omega) (fun r e => by cases e; omega)).setCell (p := ⟨R, 0, none⟩) (by show _ ≤ R; omega) _).setCell (p := ⟨R, 1, none⟩) (by show _ ≤ R; omega) _
end AS

theorem three (W : World) (o1 o2 o3 : Obj) : (((W.alloc o1).alloc o2).alloc o3).drew.heap[W.heap.size]? = some o1 ∧ (((W.alloc o1).alloc o2).alloc o3).drew.heap[W.heap.size + 1]? = some o2 ∧ (((W.alloc o1).alloc o2).alloc o3).drew.heap[W.heap.size + 1 + 1]? = some o3 ∧
    Below W.heap.size W (((W.alloc o1).alloc o2).alloc o3).drew := by
  have h1 := World.alloc_heap_new W o1
  have h2 := World.alloc_heap_new (W.alloc o1) o2
  have h3 := World.alloc_heap_new ((W.alloc o1).alloc o2) o3
  rw [World.size_alloc] at h2
  rw [World.size_alloc, World.size_alloc] at h3
  refine ⟨?_, ?_, h3, ((((Below.refl _ W).alloc (Nat.le_refl _) o1).alloc (by simp) o2).alloc (by simp; omega) o3).drew⟩
  · exact (Below.heap_alloc _ _ _ (by simp; omega)).trans ((Below.heap_alloc _ _ _ (by simp)).trans h1)
  · exact (Below.heap_alloc _ _ _ (by simp)).trans h2
theorem as_start {w W1 W' : World} {y : List Nat} {R g0 g1 : Nat} {f : Nat → Nat} (hsz : W1.heap.size = w.heap.size + 1) (hys : RdR W1 w.heap.size y) (hbl : Below w.heap.size w W1) (hB : Below W1.heap.size W1 W')
    (hR : W'.heap[R]? = some (.cells #[.slice (some ⟨g0, 0, none⟩) (y.length + 1) (y.length + 1), .slice (some ⟨g1, 0, none⟩) (y.length + 1) (y.length + 1)] 124 (0, 0)))
    (h0 : W'.heap[g0]? = some (.cells (madeCells #[.int .i64 0] (y.length + 1)) 3 (0, 0))) (h1 : W'.heap[g1]? = some (.cells (madeCells #[.int .i64 0] (y.length + 1)) 3 (0, 0))) (ne : g0 ≠ g1)
    (l0 : W1.heap.size ≤ g0 ∧ g0 < W1.heap.size + 3) (l1 : W1.heap.size ≤ g1 ∧ g1 < W1.heap.size + 3) (lR : W1.heap.size ≤ R ∧ R < W1.heap.size + 3) : AS w y R g0 g1 0 f W' :=
  ⟨hR, ⟨_, h0, size_madeCells _ _, fun k hk => absurd hk (Nat.not_lt_zero _)⟩, ⟨_, h1, size_madeCells _ _, fun k hk => absurd hk (Nat.not_lt_zero _)⟩, hys.block hB.size (hB.block _ (by omega)), ne, by omega, by omega, by omega, by omega, by omega, by omega, hbl.trans (hB.mono (by omega))⟩
theorem as1 {w W1 : World} {y : List Nat} (f : Nat → Nat) (hsz : W1.heap.size = w.heap.size + 1) (hys : RdR W1 w.heap.size y) (hbl : Below w.heap.size w W1) : AS w y (W1.heap.size + 1 + 1) (W1.heap.size) (W1.heap.size + 1) 0 f (((W1.alloc (.cells (madeCells #[.int .i64 0] (y.length + 1)) 3)).alloc (.cells (madeCells #[.int .i64 0] (y.length + 1)) 3)).alloc (.cells #[.slice (some ⟨W1.heap.size, 0, none⟩) (y.length + 1) (y.length + 1), .slice (some ⟨W1.heap.size + 1, 0, none⟩) (y.length + 1) (y.length + 1)] 124)).drew := by
  obtain ⟨e0, e1, e2, hB⟩ := three W1 (.cells (madeCells #[.int .i64 0] (y.length + 1)) 3) (.cells (madeCells #[.int .i64 0] (y.length + 1)) 3) (.cells #[.slice (some ⟨W1.heap.size, 0, none⟩) (y.length + 1) (y.length + 1), .slice (some ⟨W1.heap.size + 1, 0, none⟩) (y.length + 1) (y.length + 1)] 124)
  exact as_start hsz hys hbl hB e2 e0 e1 (by omega) (by omega) (by omega) (by omega)
theorem as2 {w W1 : World} {y : List Nat} (f : Nat → Nat) (hsz : W1.heap.size = w.heap.size + 1) (hys : RdR W1 w.heap.size y) (hbl : Below w.heap.size w W1) : AS w y (W1.heap.size + 1) (W1.heap.size) (W1.heap.size + 1 + 1) 0 f (((W1.alloc (.cells (madeCells #[.int .i64 0] (y.length + 1)) 3)).alloc (.cells #[.slice (some ⟨W1.heap.size, 0, none⟩) (y.length + 1) (y.length + 1), .slice (some ⟨W1.heap.size + 1 + 1, 0, none⟩) (y.length + 1) (y.length + 1)] 124)).alloc (.cells (madeCells #[.int .i64 0] (y.length + 1)) 3)).drew := by
  obtain ⟨e0, e1, e2, hB⟩ := three W1 (.cells (madeCells #[.int .i64 0] (y.length + 1)) 3) (.cells #[.slice (some ⟨W1.heap.size, 0, none⟩) (y.length + 1) (y.length + 1), .slice (some ⟨W1.heap.size + 1 + 1, 0, none⟩) (y.length + 1) (y.length + 1)] 124) (.cells (madeCells #[.int .i64 0] (y.length + 1)) 3)
  exact as_start hsz hys hbl hB e1 e0 e2 (by omega) (by omega) (by omega) (by omega)
theorem as3 {w W1 : World} {y : List Nat} (f : Nat → Nat) (hsz : W1.heap.size = w.heap.size + 1) (hys : RdR W1 w.heap.size y) (hbl : Below w.heap.size w W1) : AS w y (W1.heap.size + 1 + 1) (W1.heap.size + 1) (W1.heap.size) 0 f (((W1.alloc (.cells (madeCells #[.int .i64 0] (y.length + 1)) 3)).alloc (.cells (madeCells #[.int .i64 0] (y.length + 1)) 3)).alloc (.cells #[.slice (some ⟨W1.heap.size + 1, 0, none⟩) (y.length + 1) (y.length + 1), .slice (some ⟨W1.heap.size, 0, none⟩) (y.length + 1) (y.length + 1)] 124)).drew := by
  obtain ⟨e0, e1, e2, hB⟩ := three W1 (.cells (madeCells #[.int .i64 0] (y.length + 1)) 3) (.cells (madeCells #[.int .i64 0] (y.length + 1)) 3) (.cells #[.slice (some ⟨W1.heap.size + 1, 0, none⟩) (y.length + 1) (y.length + 1), .slice (some ⟨W1.heap.size, 0, none⟩) (y.length + 1) (y.length + 1)] 124)
  exact as_start hsz hys hbl hB e2 e1 e0 (by omega) (by omega) (by omega) (by omega)
theorem as4 {w W1 : World} {y : List Nat} (f : Nat → Nat) (hsz : W1.heap.size = w.heap.size + 1) (hys : RdR W1 w.heap.size y) (hbl : Below w.heap.size w W1) : AS w y (W1.heap.size + 1) (W1.heap.size + 1 + 1) (W1.heap.size) 0 f (((W1.alloc (.cells (madeCells #[.int .i64 0] (y.length + 1)) 3)).alloc (.cells #[.slice (some ⟨W1.heap.size + 1 + 1, 0, none⟩) (y.length + 1) (y.length + 1), .slice (some ⟨W1.heap.size, 0, none⟩) (y.length + 1) (y.length + 1)] 124)).alloc (.cells (madeCells #[.int .i64 0] (y.length + 1)) 3)).drew := by
  obtain ⟨e0, e1, e2, hB⟩ := three W1 (.cells (madeCells #[.int .i64 0] (y.length + 1)) 3) (.cells #[.slice (some ⟨W1.heap.size + 1 + 1, 0, none⟩) (y.length + 1) (y.length + 1), .slice (some ⟨W1.heap.size, 0, none⟩) (y.length + 1) (y.length + 1)] 124) (.cells (madeCells #[.int .i64 0] (y.length + 1)) 3)
  exact as_start hsz hys hbl hB e1 e2 e0 (by omega) (by omega) (by omega) (by omega)
theorem as5 {w W1 : World} {y : List Nat} (f : Nat → Nat) (hsz : W1.heap.size = w.heap.size + 1) (hys : RdR W1 w.heap.size y) (hbl : Below w.heap.size w W1) : AS w y (W1.heap.size) (W1.heap.size + 1) (W1.heap.size + 1 + 1) 0 f (((W1.alloc (.cells #[.slice (some ⟨W1.heap.size + 1, 0, none⟩) (y.length + 1) (y.length + 1), .slice (some ⟨W1.heap.size + 1 + 1, 0, none⟩) (y.length + 1) (y.length + 1)] 124)).alloc (.cells (madeCells #[.int .i64 0] (y.length + 1)) 3)).alloc (.cells (madeCells #[.int .i64 0] (y.length + 1)) 3)).drew := by
  obtain ⟨e0, e1, e2, hB⟩ := three W1 (.cells #[.slice (some ⟨W1.heap.size + 1, 0, none⟩) (y.length + 1) (y.length + 1), .slice (some ⟨W1.heap.size + 1 + 1, 0, none⟩) (y.length + 1) (y.length + 1)] 124) (.cells (madeCells #[.int .i64 0] (y.length + 1)) 3) (.cells (madeCells #[.int .i64 0] (y.length + 1)) 3)
  exact as_start hsz hys hbl hB e0 e1 e2 (by omega) (by omega) (by omega) (by omega)
theorem as6 {w W1 : World} {y : List Nat} (f : Nat → Nat) (hsz : W1.heap.size = w.heap.size + 1) (hys : RdR W1 w.heap.size y) (hbl : Below w.heap.size w W1) : AS w y (W1.heap.size) (W1.heap.size + 1 + 1) (W1.heap.size + 1) 0 f (((W1.alloc (.cells #[.slice (some ⟨W1.heap.size + 1 + 1, 0, none⟩) (y.length + 1) (y.length + 1), .slice (some ⟨W1.heap.size + 1, 0, none⟩) (y.length + 1) (y.length + 1)] 124)).alloc (.cells (madeCells #[.int .i64 0] (y.length + 1)) 3)).alloc (.cells (madeCells #[.int .i64 0] (y.length + 1)) 3)).drew := by
  obtain ⟨e0, e1, e2, hB⟩ := three W1 (.cells #[.slice (some ⟨W1.heap.size + 1 + 1, 0, none⟩) (y.length + 1) (y.length + 1), .slice (some ⟨W1.heap.size + 1, 0, none⟩) (y.length + 1) (y.length + 1)] 124) (.cells (madeCells #[.int .i64 0] (y.length + 1)) 3) (.cells (madeCells #[.int .i64 0] (y.length + 1)) 3)
  exact as_start hsz hys hbl hB e0 e2 e1 (by omega) (by omega) (by omega) (by omega)
set_option maxRecDepth 100000 in
set_option maxHeartbeats 4000000 in
theorem apart_pro (a b : ByteArray) (w : World) (ha : a.size ≤ 16777216) (hb : b.size ≤ 16777216) : Calls Tryz.prog 27 #[.string a, .string b] w (Says (.int .i64 (apartN a b)) w) := by
  by_cases hab : a.size < b.size
  · have habz : (a.size : Int) < b.size := by omega
    obtain ⟨cp, W1, hconv, hys, hbl, hsz⟩ := runes_run' a w ha
    obtain ⟨i0, hi, hz0, hz1, hz2⟩ := info_parts infoI
    have hlb := cds_len a
    have hla := cds_len b
    obtain ⟨y, hy⟩ : ∃ y, cds a = y := ⟨_, rfl⟩
    obtain ⟨x, hx⟩ : ∃ x, cds b = x := ⟨_, rfl⟩
    have hxy := apartN_tab b a
    rw [hy] at hconv hys hlb
    rw [hx] at hla
    rw [hx, hy] at hxy
    have hmk : ∀ w : World, (Instr.makeSlice 36 (.int .i64 ((y.length : Int) + 1)) (.int .i64 ((y.length : Int) + 1))).run Tryz.prog w = .ok (.slice (some ⟨w.heap.size, 0, none⟩) (y.length + 1) (y.length + 1)) (w.alloc (.cells (madeCells #[.int .i64 0] (y.length + 1)) 3)) := by
      intro w
      have h := run_make (P := Tryz.prog) w 36 3 i0 (.int .i64 0) Tryz.underlying36 hi hz0 .i64 .i64 ((y.length : Int) + 1) ((y.length : Int) + 1) (by omega) (by omega) (by rw [hz2]; omega) (by omega)
      rw [hz1, Nat.mul_one, show ((y.length : Int) + 1).toNat = y.length + 1 by omega] at h
      exact h
    have v1 : IntKind.i64.wrap ((y.length : Int) + 1) = y.length + 1 := IntWalk.i64_in _ (by omega)
    have HSZ := Lib.hid hsz
    have HYS := Lib.hid hys
    have HBL := Lib.hid hbl
    have HLB := Lib.hid (show y.length ≤ 16777216 by omega)
    have HLA := Lib.hid (show x.length ≤ 16777216 by omega)
    have HX := Lib.hid hx
    have HXY := Lib.hid (show apartN a b = tabN x y x.length y.length by rw [apartN_sym]; exact hxy.symm)
    clear hsz hys hbl hlb hla hy hx hxy ha hb hab
    go_enter Tryz.func27, Tryz.ntmps27
    go_upto_region 4 with fail
    go_cut [6] from 19 to 63 (fun s6 wx => ∃ R g0 g1, s6 = .pointer (some ⟨R, 0, none⟩) ∧ AS w y R g0 g1 0 (tabN x y 0) wx ∧ wx.heap.size = w.heap.size + 4)
    case first =>
      go_region
      all_goals
        go_wp2_with fail
        go_meet
        first | exact ⟨_, _, _, rfl, as1 _ HSZ.out HYS.out HBL.out, by simp [HSZ.out]⟩ | exact ⟨_, _, _, rfl, as2 _ HSZ.out HYS.out HBL.out, by simp [HSZ.out]⟩ | exact ⟨_, _, _, rfl, as3 _ HSZ.out HYS.out HBL.out, by simp [HSZ.out]⟩ | exact ⟨_, _, _, rfl, as4 _ HSZ.out HYS.out HBL.out, by simp [HSZ.out]⟩ | exact ⟨_, _, _, rfl, as5 _ HSZ.out HYS.out HBL.out, by simp [HSZ.out]⟩ | exact ⟨_, _, _, rfl, as6 _ HSZ.out HYS.out HBL.out, by simp [HSZ.out]⟩
    case rest =>
      obtain ⟨R, g0, g1, rfl, hA, hs⟩ := hcut
      have HA := Lib.hid hA
      have HS4 := Lib.hid hs
      have c0 := hA.c0
      clear hA hs v1 hmk
      obtain ⟨wo, rfl⟩ : ∃ wo : World, wo = wc := ⟨_, rfl⟩
      go_wp2_with fail
      go_loopw [31] (fun j wr => ∃ k : Nat, j = .int .i64 k ∧ k ≤ y.length + 1 ∧ AS w y R g0 g1 k (tabN x y 0) wr ∧ wr.heap.size = w.heap.size + 4) (fun j _ => y.length + 1 - (intOf j).toNat)
      case atStart => exact ⟨0, rfl, Nat.zero_le _, HA.out, HS4.out⟩
      case round =>
        obtain ⟨k, rfl, hk, hA1, hs1⟩ := hrel
        have HA1 := Lib.hid hA1
        have HS1 := Lib.hid hs1
        have d0 := hA1.c0
        have hLB := HLB.out
        by_cases hlt : k < y.length + 1
        · obtain ⟨v2, r2⟩ := hA1.r0.some (k := k) (by omega)
          have f2 := hA1.r0.frozen k
          have k1 : (k : Int) < (y.length : Int) + 1 := by omega
          have k2 : (k : Int) ≤ 16777216 := by omega
          have HT := Lib.hid (show tabN x y 0 k = k from tab_top _ _ (by rw [ints_len]; omega))
          have HN := Lib.hid (hA1.set (by omega))
          clear hA1 hs1 hLB
          go_wp2_with fail
          go_roundw
          case measure => simp [intOf]; omega
          case rel =>
            have h9 := HN.out
            rw [HT.out] at h9
            exact ⟨k + 1, by go_num, by omega, h9, by simp [World.setCell, HS1.out]⟩
        · obtain rfl : k = y.length + 1 := by omega
          have hlz : ¬ ((y.length + 1 : Nat) : Int) < ((y.length + 1 : Nat) : Int) := by omega
          have hlz2 : ¬ ((y.length : Int) + 1 < (y.length : Int) + 1) := by omega
          clear hA1 hs1 hlt
          obtain ⟨W5, rfl⟩ : ∃ W5 : World, W5 = wr := ⟨_, rfl⟩
          go_wp2_with fail
          go_loopw [] (fun wr => ∃ (pos fuel : Nat) (acc : List Ch) (g0 g1 : Nat), wr.heap[W5.heap.size]? = some (.stringIter b pos) ∧ AS w y R g0 g1 (y.length + 1) (tabN x y acc.length) wr ∧ acc ++ chs b fuel pos = chars b ∧ b.size ≤ pos + fuel) (fun wr => b.size - wr.iterPos W5.heap.size)
          case atStart =>
            refine ⟨0, b.size, [], g0, g1, ?_, HA1.out.kept ((Below.refl _ W5).alloc (by rw [HS1.out]; exact Nat.le_refl _) _), rfl, by omega⟩
            have := World.iter_heap W5 b 0
            simpa using this
          case round =>
            obtain ⟨pos, fuel, acc, h0, h1, hit, hA2, hacc, hfu⟩ := hrel
            have HI := Lib.hid hit
            have HS5 := Lib.hid HS1.out
            by_cases hp : pos < b.size
            · have hnx : ∀ ty, (Instr.next (.pointer (some ⟨W5.heap.size, 0, none⟩)) true ty).run Tryz.prog wr = _ := fun ty => Lib.run_next_any_at wr W5.heap.size b pos ty hit hp
              have hwd := width_pos b pos hp
              have hit2 := Lib.iterAt_heap wr W5.heap.size b pos (pos + (Utf8.decode b pos).2) hit
              have hbw2 := Lib.below_iterAt (Below.refl W5.heap.size wr) (k := W5.heap.size) (Nat.le_refl _) b (pos + (Utf8.decode b pos).2)
              obtain ⟨f, rfl⟩ : ∃ f, fuel = f + 1 := ⟨fuel - 1, by omega⟩
              have hac := chs_split hp hacc
              have hA3 := hA2.kept (by rw [← HS5.out]; exact hbw2)
              have HI2 := Lib.hid hit2
              have HP := Lib.hid hp
              obtain ⟨c, hcd⟩ : ∃ c : Nat × Nat, Utf8.decode b pos = c := ⟨_, rfl⟩
              rw [hcd] at hnx hwd HI2 hac hA3
              clear hcd hit hbw2 hacc hp hit2 hA2
              obtain ⟨Wn, hWn⟩ : ∃ Wn, wr.iterAt W5.heap.size b (pos + c.2) = Wn := ⟨_, rfl⟩
              rw [hWn] at hnx HI2 hA3
              have hxc : x[acc.length]? = some c.1 := by
                rw [← HX.out]
                unfold cds
                rw [← hac]
                simp
              have hra := hA3.c0
              have hrb := hA3.c1
              have hLA := HLA.out
              have hLB2 := HLB.out
              have hal : acc.length < x.length := (List.getElem?_eq_some_iff.1 hxc).1
              have HNR := Lib.hid (next_row x y acc.length h1 h0 (y.length + 1) (y.length + 1) w.heap.size cp c.1 Wn hxc (hA3.r1.any _) hA3.r0 hA3.ys (fun e => hA3.ne e.symm) (by have := hA3.lo1; omega) hLA hLB2)
              have HA3 := Lib.hid hA3
              have HAC := Lib.hid hac
              clear hA3 hac hxc hLA hLB2 hal hWn
              go_wp2_with fail
              refine HNR.out.mono ?_
              rintro e w3 ⟨rfl, hr3, hg3⟩
              have hRlt := (Array.getElem?_eq_some_iff.1 HA3.out.box).1
              have hbox3 := (hg3.block R hRlt (by simpa using HA3.out.neR1)).trans HA3.out.box
              have q0 : w3.cell? ⟨R, 0, none⟩ = some (.slice (some ⟨h0, 0, none⟩) (y.length + 1) (y.length + 1)) := by simp [World.cell?, hbox3]
              have q1 : w3.cell? ⟨R, 1, none⟩ = some (.slice (some ⟨h1, 0, none⟩) (y.length + 1) (y.length + 1)) := by simp [World.cell?, hbox3]
              have q2 : w3.frozen? ⟨R, 0, none⟩ = false := by simp [World.frozen?, hbox3]
              have q3 : w3.frozen? ⟨R, 1, none⟩ = false := by simp [World.frozen?, hbox3]
              have HTN := Lib.hid (HA3.out.turn hg3 hr3)
              have hh1 := HA3.out.hi1
              have hhR := HA3.out.hiR
              have hS5 := HS5.out
              have hit3 := (hg3.block W5.heap.size (Array.getElem?_eq_some_iff.1 HI2.out).1 (by simp; omega)).trans HI2.out
              have HIT := Lib.hid ((Below.heap_setCell (w3.setCell ⟨R, 0, none⟩ (.slice (some ⟨h1, 0, none⟩) (y.length + 1) (y.length + 1))) ⟨R, 1, none⟩ (.slice (some ⟨h0, 0, none⟩) (y.length + 1) (y.length + 1)) W5.heap.size (by show W5.heap.size ≠ R; omega)).trans ((Below.heap_setCell w3 ⟨R, 0, none⟩ (.slice (some ⟨h1, 0, none⟩) (y.length + 1) (y.length + 1)) W5.heap.size (by show W5.heap.size ≠ R; omega)).trans hit3))
              clear hr3 hg3 hbox3 hh1 hhR hS5 hit3 hRlt
              go_wp2_with fail
              go_roundw
              case rel => exact ⟨pos + c.2, f, acc ++ [(pos, c.1, c.2)], h1, h0, HIT.out, by rw [List.length_append]; exact HTN.out, chs_join HAC.out, by omega⟩
              case measure =>
                have hpp := HP.out
                simp only [World.iterPos, HIT.out, HI.out]
                omega
            · have hnx : ∀ ty, (Instr.next (.pointer (some ⟨W5.heap.size, 0, none⟩)) true ty).run Tryz.prog wr = _ := fun ty => Lib.run_next_end_at wr W5.heap.size b pos ty hit hp
              rw [chs_end b fuel _ hp, List.append_nil] at hacc
              have hal : acc.length = x.length := by
                rw [← HX.out, hacc]
                unfold cds
                rw [List.length_map]
              rw [hal] at hA2
              have e0 := hA2.c0
              have e1 := hA2.r0.cell (k := y.length) (by omega)
              rw [← HXY.out] at e1
              have k3 : (y.length : Int) < (y.length : Int) + 1 := by omega
              have HB9 := Lib.hid hA2.bl
              clear hA2 hacc hal hp hit
              go_wp2_with fail
              go_ret
              exact ⟨rfl, HB9.out⟩
  · have habz : ¬ (a.size : Int) < b.size := by omega
    obtain ⟨cp, W1, hconv, hys, hbl, hsz⟩ := runes_run' b w hb
    obtain ⟨i0, hi, hz0, hz1, hz2⟩ := info_parts infoI
    have hlb := cds_len b
    have hla := cds_len a
    obtain ⟨y, hy⟩ : ∃ y, cds b = y := ⟨_, rfl⟩
    obtain ⟨x, hx⟩ : ∃ x, cds a = x := ⟨_, rfl⟩
    have hxy := apartN_tab a b
    rw [hy] at hconv hys hlb
    rw [hx] at hla
    rw [hx, hy] at hxy
    have hmk : ∀ w : World, (Instr.makeSlice 36 (.int .i64 ((y.length : Int) + 1)) (.int .i64 ((y.length : Int) + 1))).run Tryz.prog w = .ok (.slice (some ⟨w.heap.size, 0, none⟩) (y.length + 1) (y.length + 1)) (w.alloc (.cells (madeCells #[.int .i64 0] (y.length + 1)) 3)) := by
      intro w
      have h := run_make (P := Tryz.prog) w 36 3 i0 (.int .i64 0) Tryz.underlying36 hi hz0 .i64 .i64 ((y.length : Int) + 1) ((y.length : Int) + 1) (by omega) (by omega) (by rw [hz2]; omega) (by omega)
      rw [hz1, Nat.mul_one, show ((y.length : Int) + 1).toNat = y.length + 1 by omega] at h
      exact h
    have v1 : IntKind.i64.wrap ((y.length : Int) + 1) = y.length + 1 := IntWalk.i64_in _ (by omega)
    have HSZ := Lib.hid hsz
    have HYS := Lib.hid hys
    have HBL := Lib.hid hbl
    have HLB := Lib.hid (show y.length ≤ 16777216 by omega)
    have HLA := Lib.hid (show x.length ≤ 16777216 by omega)
    have HX := Lib.hid hx
    have HXY := Lib.hid (show apartN a b = tabN x y x.length y.length by exact hxy.symm)
    clear hsz hys hbl hlb hla hy hx hxy ha hb hab
    go_enter Tryz.func27, Tryz.ntmps27
    go_upto_region 4 with fail
    go_cut [6] from 19 to 63 (fun s6 wx => ∃ R g0 g1, s6 = .pointer (some ⟨R, 0, none⟩) ∧ AS w y R g0 g1 0 (tabN x y 0) wx ∧ wx.heap.size = w.heap.size + 4)
    case first =>
      go_region
      all_goals
        go_wp2_with fail
        go_meet
        first | exact ⟨_, _, _, rfl, as1 _ HSZ.out HYS.out HBL.out, by simp [HSZ.out]⟩ | exact ⟨_, _, _, rfl, as2 _ HSZ.out HYS.out HBL.out, by simp [HSZ.out]⟩ | exact ⟨_, _, _, rfl, as3 _ HSZ.out HYS.out HBL.out, by simp [HSZ.out]⟩ | exact ⟨_, _, _, rfl, as4 _ HSZ.out HYS.out HBL.out, by simp [HSZ.out]⟩ | exact ⟨_, _, _, rfl, as5 _ HSZ.out HYS.out HBL.out, by simp [HSZ.out]⟩ | exact ⟨_, _, _, rfl, as6 _ HSZ.out HYS.out HBL.out, by simp [HSZ.out]⟩
    case rest =>
      obtain ⟨R, g0, g1, rfl, hA, hs⟩ := hcut
      have HA := Lib.hid hA
      have HS4 := Lib.hid hs
      have c0 := hA.c0
      clear hA hs v1 hmk
      obtain ⟨wo, rfl⟩ : ∃ wo : World, wo = wc := ⟨_, rfl⟩
      go_wp2_with fail
      go_loopw [31] (fun j wr => ∃ k : Nat, j = .int .i64 k ∧ k ≤ y.length + 1 ∧ AS w y R g0 g1 k (tabN x y 0) wr ∧ wr.heap.size = w.heap.size + 4) (fun j _ => y.length + 1 - (intOf j).toNat)
      case atStart => exact ⟨0, rfl, Nat.zero_le _, HA.out, HS4.out⟩
      case round =>
        obtain ⟨k, rfl, hk, hA1, hs1⟩ := hrel
        have HA1 := Lib.hid hA1
        have HS1 := Lib.hid hs1
        have d0 := hA1.c0
        have hLB := HLB.out
        by_cases hlt : k < y.length + 1
        · obtain ⟨v2, r2⟩ := hA1.r0.some (k := k) (by omega)
          have f2 := hA1.r0.frozen k
          have k1 : (k : Int) < (y.length : Int) + 1 := by omega
          have k2 : (k : Int) ≤ 16777216 := by omega
          have HT := Lib.hid (show tabN x y 0 k = k from tab_top _ _ (by rw [ints_len]; omega))
          have HN := Lib.hid (hA1.set (by omega))
          clear hA1 hs1 hLB
          go_wp2_with fail
          go_roundw
          case measure => simp [intOf]; omega
          case rel =>
            have h9 := HN.out
            rw [HT.out] at h9
            exact ⟨k + 1, by go_num, by omega, h9, by simp [World.setCell, HS1.out]⟩
        · obtain rfl : k = y.length + 1 := by omega
          have hlz : ¬ ((y.length + 1 : Nat) : Int) < ((y.length + 1 : Nat) : Int) := by omega
          have hlz2 : ¬ ((y.length : Int) + 1 < (y.length : Int) + 1) := by omega
          clear hA1 hs1 hlt
          obtain ⟨W5, rfl⟩ : ∃ W5 : World, W5 = wr := ⟨_, rfl⟩
          go_wp2_with fail
          go_loopw [] (fun wr => ∃ (pos fuel : Nat) (acc : List Ch) (g0 g1 : Nat), wr.heap[W5.heap.size]? = some (.stringIter a pos) ∧ AS w y R g0 g1 (y.length + 1) (tabN x y acc.length) wr ∧ acc ++ chs a fuel pos = chars a ∧ a.size ≤ pos + fuel) (fun wr => a.size - wr.iterPos W5.heap.size)
          case atStart =>
            refine ⟨0, a.size, [], g0, g1, ?_, HA1.out.kept ((Below.refl _ W5).alloc (by rw [HS1.out]; exact Nat.le_refl _) _), rfl, by omega⟩
            have := World.iter_heap W5 a 0
            simpa using this
          case round =>
            obtain ⟨pos, fuel, acc, h0, h1, hit, hA2, hacc, hfu⟩ := hrel
            have HI := Lib.hid hit
            have HS5 := Lib.hid HS1.out
            by_cases hp : pos < a.size
            · have hnx : ∀ ty, (Instr.next (.pointer (some ⟨W5.heap.size, 0, none⟩)) true ty).run Tryz.prog wr = _ := fun ty => Lib.run_next_any_at wr W5.heap.size a pos ty hit hp
              have hwd := width_pos a pos hp
              have hit2 := Lib.iterAt_heap wr W5.heap.size a pos (pos + (Utf8.decode a pos).2) hit
              have hbw2 := Lib.below_iterAt (Below.refl W5.heap.size wr) (k := W5.heap.size) (Nat.le_refl _) a (pos + (Utf8.decode a pos).2)
              obtain ⟨f, rfl⟩ : ∃ f, fuel = f + 1 := ⟨fuel - 1, by omega⟩
              have hac := chs_split hp hacc
              have hA3 := hA2.kept (by rw [← HS5.out]; exact hbw2)
              have HI2 := Lib.hid hit2
              have HP := Lib.hid hp
              obtain ⟨c, hcd⟩ : ∃ c : Nat × Nat, Utf8.decode a pos = c := ⟨_, rfl⟩
              rw [hcd] at hnx hwd HI2 hac hA3
              clear hcd hit hbw2 hacc hp hit2 hA2
              obtain ⟨Wn, hWn⟩ : ∃ Wn, wr.iterAt W5.heap.size a (pos + c.2) = Wn := ⟨_, rfl⟩
              rw [hWn] at hnx HI2 hA3
              have hxc : x[acc.length]? = some c.1 := by
                rw [← HX.out]
                unfold cds
                rw [← hac]
                simp
              have hra := hA3.c0
              have hrb := hA3.c1
              have hLA := HLA.out
              have hLB2 := HLB.out
              have hal : acc.length < x.length := (List.getElem?_eq_some_iff.1 hxc).1
              have HNR := Lib.hid (next_row x y acc.length h1 h0 (y.length + 1) (y.length + 1) w.heap.size cp c.1 Wn hxc (hA3.r1.any _) hA3.r0 hA3.ys (fun e => hA3.ne e.symm) (by have := hA3.lo1; omega) hLA hLB2)
              have HA3 := Lib.hid hA3
              have HAC := Lib.hid hac
              clear hA3 hac hxc hLA hLB2 hal hWn
              go_wp2_with fail
              refine HNR.out.mono ?_
              rintro e w3 ⟨rfl, hr3, hg3⟩
              have hRlt := (Array.getElem?_eq_some_iff.1 HA3.out.box).1
              have hbox3 := (hg3.block R hRlt (by simpa using HA3.out.neR1)).trans HA3.out.box
              have q0 : w3.cell? ⟨R, 0, none⟩ = some (.slice (some ⟨h0, 0, none⟩) (y.length + 1) (y.length + 1)) := by simp [World.cell?, hbox3]
              have q1 : w3.cell? ⟨R, 1, none⟩ = some (.slice (some ⟨h1, 0, none⟩) (y.length + 1) (y.length + 1)) := by simp [World.cell?, hbox3]
              have q2 : w3.frozen? ⟨R, 0, none⟩ = false := by simp [World.frozen?, hbox3]
              have q3 : w3.frozen? ⟨R, 1, none⟩ = false := by simp [World.frozen?, hbox3]
              have HTN := Lib.hid (HA3.out.turn hg3 hr3)
              have hh1 := HA3.out.hi1
              have hhR := HA3.out.hiR
              have hS5 := HS5.out
              have hit3 := (hg3.block W5.heap.size (Array.getElem?_eq_some_iff.1 HI2.out).1 (by simp; omega)).trans HI2.out
              have HIT := Lib.hid ((Below.heap_setCell (w3.setCell ⟨R, 0, none⟩ (.slice (some ⟨h1, 0, none⟩) (y.length + 1) (y.length + 1))) ⟨R, 1, none⟩ (.slice (some ⟨h0, 0, none⟩) (y.length + 1) (y.length + 1)) W5.heap.size (by show W5.heap.size ≠ R; omega)).trans ((Below.heap_setCell w3 ⟨R, 0, none⟩ (.slice (some ⟨h1, 0, none⟩) (y.length + 1) (y.length + 1)) W5.heap.size (by show W5.heap.size ≠ R; omega)).trans hit3))
              clear hr3 hg3 hbox3 hh1 hhR hS5 hit3 hRlt
              go_wp2_with fail
              go_roundw
              case rel => exact ⟨pos + c.2, f, acc ++ [(pos, c.1, c.2)], h1, h0, HIT.out, by rw [List.length_append]; exact HTN.out, chs_join HAC.out, by omega⟩
              case measure =>
                have hpp := HP.out
                simp only [World.iterPos, HIT.out, HI.out]
                omega
            · have hnx : ∀ ty, (Instr.next (.pointer (some ⟨W5.heap.size, 0, none⟩)) true ty).run Tryz.prog wr = _ := fun ty => Lib.run_next_end_at wr W5.heap.size a pos ty hit hp
              rw [chs_end a fuel _ hp, List.append_nil] at hacc
              have hal : acc.length = x.length := by
                rw [← HX.out, hacc]
                unfold cds
                rw [List.length_map]
              rw [hal] at hA2
              have e0 := hA2.c0
              have e1 := hA2.r0.cell (k := y.length) (by omega)
              rw [← HXY.out] at e1
              have k3 : (y.length : Int) < (y.length : Int) + 1 := by omega
              have HB9 := Lib.hid hA2.bl
              clear hA2 hacc hal hp hit
              go_wp2_with fail
              go_ret
              exact ⟨rfl, HB9.out⟩
end Go.Proofs.YtoeknophfcfahaaGreatDoor
