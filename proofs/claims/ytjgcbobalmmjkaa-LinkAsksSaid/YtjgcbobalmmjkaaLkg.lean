/- The document's grid of layer 8: which topic refers to which. -/
import Derived.Test.YtjgcbobalmmjkaaLkm
namespace Go.Proofs.Ytjgcbobalmmjkaa
open Go.RowKit Go.Maps Go.Sort
set_option linter.unusedVariables false

/-- Block S is a row of n values. -/
def Vec (W : World) (S : Nat) (t : TypeId) (n : Nat) (f : Nat → Value) : Prop := ∃ cur : Array Value, W.heap[S]? = some (.cells cur t (0, 0)) ∧ cur.size = n ∧ ∀ k, k < n → cur[k]? = some (f k)
theorem Vec.cell {W : World} {S n : Nat} {t : TypeId} {f : Nat → Value} (h : Vec W S t n f) {k : Nat} (hk : k < n) : W.cell? ⟨S, k, none⟩ = some (f k) := by
  obtain ⟨cur, h1, h2, h3⟩ := h
  rw [cell_of_row _ _ _ _ _ _ h1]
  exact h3 k hk
theorem Vec.free {W : World} {S n : Nat} {t : TypeId} {f : Nat → Value} (h : Vec W S t n f) (k : Nat) : W.frozen? ⟨S, k, none⟩ = false := by
  obtain ⟨cur, h1, _⟩ := h
  exact frozen_of_row W S k _ _ h1
theorem Vec.lt {W : World} {S n : Nat} {t : TypeId} {f : Nat → Value} (h : Vec W S t n f) : S < W.heap.size := by
  obtain ⟨cur, h1, _⟩ := h
  exact (Array.getElem?_eq_some_iff.1 h1).1
theorem Vec.block {W W' : World} {S n : Nat} {t : TypeId} {f : Nat → Value} (h : Vec W S t n f) (e : W'.heap[S]? = W.heap[S]?) : Vec W' S t n f := by
  obtain ⟨cur, h1, h2⟩ := h
  exact ⟨cur, e.trans h1, h2⟩
theorem Vec.below {W W' : World} {S n : Nat} {t : TypeId} {f : Nat → Value} (h : Vec W S t n f) (hb : Below W.heap.size W W') : Vec W' S t n f := h.block (hb.block S h.lt)
theorem Vec.congr {W : World} {S n : Nat} {t : TypeId} {f g : Nat → Value} (h : Vec W S t n f) (e : ∀ k, k < n → f k = g k) : Vec W S t n g := by
  obtain ⟨cur, h1, h2, h3⟩ := h
  exact ⟨cur, h1, h2, fun k hk => by rw [h3 k hk, e k hk]⟩
theorem Vec.set {W : World} {S n : Nat} {t : TypeId} {f : Nat → Value} (h : Vec W S t n f) (i : Nat) (z : Value) (hz : z.oneCell' = true) : Vec (W.setCell ⟨S, i, none⟩ z) S t n (fun k => if k = i then z else f k) := by
  obtain ⟨cur, h1, h2, h3⟩ := h
  refine ⟨_, heap_setCell_same W S i _ _ _ h1, by simpa using h2, fun k hk => ?_⟩
  by_cases e : k = i
  · subst e
    rw [Array.getElem?_setIfInBounds_self_of_lt (by omega)]
    simp
  · rw [Array.getElem?_setIfInBounds_ne (fun h => e h.symm), h3 k hk]
    simp [e]
theorem Vec.other {W : World} {S n : Nat} {t : TypeId} {f : Nat → Value} (h : Vec W S t n f) {p : Addr} (z : Value) (hp : S ≠ p.block) : Vec (W.setCell p z) S t n f := h.block (Below.heap_setCell W p z S hp)
theorem Vec.start (W : World) (t : TypeId) (n : Nat) (z : Value) : Vec (W.alloc (.cells (madeCells #[z] n) t)) W.heap.size t n (fun _ => z) := by
  refine ⟨madeCells #[z] n, World.alloc_heap_new W _, by simp [size_madeCells], fun j hj => ?_⟩
  unfold madeCells
  simp [hj, Nat.mod_one]
/-- Block S is a row of n rows, of which the first m are laid. -/
structure Grid (W : World) (D S n m : Nat) (rows : Nat → Nat) (g : Nat → Nat → Bool) : Prop where
  top : Vec W S 50 n (fun i => if i < m then .slice (some ⟨rows i, 0, none⟩) n n else .slice none 0 0)
  low : D ≤ S
  row : ∀ i, i < m → Vec W (rows i) 4 n (fun k => .bool (g i k))
  lows : ∀ i, i < m → D ≤ rows i
  ne : ∀ i, i < m → rows i ≠ S
  inj : ∀ i j, i < m → j < m → rows i = rows j → i = j
theorem Grid.below {W W' : World} {D S n m : Nat} {rows : Nat → Nat} {g : Nat → Nat → Bool} (h : Grid W D S n m rows g) (hb : Below W.heap.size W W') : Grid W' D S n m rows g :=
  ⟨h.top.below hb, h.low, fun i hi => (h.row i hi).below hb, h.lows, h.ne, h.inj⟩
theorem Grid.set {W : World} {D S n m : Nat} {rows : Nat → Nat} {g : Nat → Nat → Bool} (h : Grid W D S n m rows g) {i : Nat} (hi : i < m) (k : Nat) : Grid (W.setCell ⟨rows i, k, none⟩ (.bool true)) D S n m rows (fun a b => g a b || (decide (a = i) && decide (b = k))) := by
  refine ⟨h.top.other _ (fun e => h.ne i hi e.symm), h.low, fun j hj => ?_, h.lows, h.ne, h.inj⟩
  by_cases e : j = i
  · subst e
    refine ((h.row j hj).set k _ rfl).congr fun b hb => ?_
    by_cases e2 : b = k <;> simp [e2]
  · refine ((h.row j hj).other _ (fun e2 => e (h.inj j i hj hi e2))).congr fun b hb => ?_
    simp [e]
theorem Grid.start (W : World) (n : Nat) (rows : Nat → Nat) (g : Nat → Nat → Bool) : Grid (W.alloc (.cells (madeCells #[.slice none 0 0] n) 50)) W.heap.size W.heap.size n 0 rows g :=
  ⟨(Vec.start W _ n _).congr fun k hk => by simp, Nat.le_refl _, fun i hi => absurd hi (Nat.not_lt_zero _), fun i hi => absurd hi (Nat.not_lt_zero _), fun i hi => absurd hi (Nat.not_lt_zero _), fun i j hi => absurd hi (Nat.not_lt_zero _)⟩
theorem Grid.more {W : World} {D S n m : Nat} {rows : Nat → Nat} (h : Grid W D S n m rows (fun _ _ => false)) (hm : m < n) :
    Grid ((W.alloc (.cells (madeCells #[.bool false] n) 4)).setCell ⟨S, m, none⟩ (.slice (some ⟨W.heap.size, 0, none⟩) n n)) D S n (m + 1) (fun i => if i = m then W.heap.size else rows i) (fun _ _ => false) := by
  have hA : Below W.heap.size W (W.alloc (.cells (madeCells #[.bool false] n) 4)) := (Below.refl _ W).alloc (Nat.le_refl _) _
  have hS := h.top.lt
  have h2 := h.below hA
  refine ⟨(h2.top.set m _ rfl).congr fun i hi => ?_, h.low, fun i hi => ?_, fun i hi => ?_, fun i hi => ?_, fun i j hi hj e => ?_⟩
  · by_cases e : i = m
    · subst e; simp
    · by_cases e2 : i < m
      · simp [e, e2, show i < m + 1 by omega]
      · simp [e, e2, show ¬ i < m + 1 by omega]
  · by_cases e : i = m
    · subst e
      simp only [if_true]
      exact (Vec.start W _ n _).other _ (by show W.heap.size ≠ S; omega)
    · simp only [e, if_false]
      exact (h2.row i (by omega)).other _ (h.ne i (by omega))
  · by_cases e : i = m
    · simp only [e, if_true]; have := h.low; omega
    · simp only [e, if_false]; exact h.lows i (by omega)
  · by_cases e : i = m
    · simp only [e, if_true]; omega
    · simp only [e, if_false]; exact h.ne i (by omega)
  · by_cases e1 : i = m <;> by_cases e2 : j = m
    · omega
    · simp only [e1, e2, if_true, if_false] at e
      have := (h.row j (by omega)).lt
      omega
    · simp only [e1, e2, if_true, if_false] at e
      have := (h.row i (by omega)).lt
      omega
    · simp only [e1, e2, if_false] at e
      exact h.inj i j (by omega) (by omega) e
/-- A grid in memory, to read. -/
def GrA (W : World) (S : Nat) (rows : Nat → Nat) (n : Nat) (g : Nat → Nat → Bool) : Prop :=
  ∀ i, i < n → W.cell? ⟨S, i, none⟩ = some (.slice (some ⟨rows i, 0, none⟩) n n) ∧ ∀ k, k < n → W.cell? ⟨rows i, k, none⟩ = some (.bool (g i k))
theorem GrA.below {W W' : World} {S : Nat} {rows : Nat → Nat} {n : Nat} {g : Nat → Nat → Bool} (h : GrA W S rows n g) (hb : Below W.heap.size W W') : GrA W' S rows n g := fun i hi =>
  ⟨(hb.cell (p := ⟨S, i, none⟩) (cellInL (h i hi).1)).trans (h i hi).1, fun k hk => (hb.cell (p := ⟨rows i, k, none⟩) (cellInL ((h i hi).2 k hk))).trans ((h i hi).2 k hk)⟩
theorem Grid.read {W : World} {D S n : Nat} {rows : Nat → Nat} {g : Nat → Nat → Bool} (h : Grid W D S n n rows g) : GrA W S rows n g := fun i hi =>
  ⟨by have := h.top.cell hi; simpa [hi] using this, fun k hk => (h.row i hi).cell hk⟩
theorem edge_snoc (l : List Rf) (r : Rf) (n i k : Nat) : edge (l ++ [r]) n i k = (edge l n i k || ((cn1 n r).any fun x => x.fr == i && x.to == k)) := by
  unfold edge
  rw [cnt_snoc, List.any_append]
  cases cn1 n r <;> simp
theorem edge_of {n : Nat} (x : Cn n) (a k : Nat) : (x.fr == a && x.to == k) = (decide (a = x.fr) && decide (k = x.to)) := by
  rw [Bool.eq_iff_iff]
  simp only [Bool.and_eq_true, beq_iff_eq, decide_eq_true_eq]
  exact ⟨fun h => ⟨h.1.symm, h.2.symm⟩, fun h => ⟨h.1.symm, h.2.symm⟩⟩
/-- What grid answers. -/
def GridIs (l : List Rf) (n : Int) (zs : List Int) (w : World) (e : Ending) (w' : World) : Prop :=
  (lookE l.length n zs ≠ 0 ∧ e = .returned (.tuple #[.slice none 0 0, .int .i64 (lookE l.length n zs)]) ∧ Below w.heap.size w w') ∨
  (lookE l.length n zs = 0 ∧ ∃ S rows, e = .returned (.tuple #[.slice (some ⟨S, 0, none⟩) n.toNat n.toNat, .int .i64 0]) ∧ Below w.heap.size w w' ∧ GrA w' S rows n.toNat (edge l n.toNat))
theorem infoB : (Try.prog.info? 4).map (fun i => (i.zero, i.size, i.bytes)) = some (some (.bool false), 1, 1) := by kernel_rfl
theorem infoBL : (Try.prog.info? 50).map (fun i => (i.zero, i.size, i.bytes)) = some (some (.slice none 0 0), 1, 24) := by kernel_rfl
theorem make_bools (N : Nat) (hN : N ≤ 1000) (w : World) : (Instr.makeSlice 50 (.int .i64 (N : Int)) (.int .i64 (N : Int))).run Try.prog w = .ok (.slice (some ⟨w.heap.size, 0, none⟩) N N) (w.alloc (.cells (madeCells #[.bool false] N) 4)) := by
  obtain ⟨i0, hi0, hz0, hz1, hz2⟩ := info_parts infoB
  have h := run_make (P := Try.prog) w 50 4 i0 (.bool false) Try.underlying50 hi0 hz0 .i64 .i64 (N : Int) (N : Int) (by omega) (by omega) (by rw [hz2]; omega) (by omega)
  rw [hz1, Nat.mul_one, show (N : Int).toNat = N by omega] at h
  exact h
theorem make_lists (N : Nat) (hN : N ≤ 1000) (w : World) : (Instr.makeSlice 47 (.int .i64 (N : Int)) (.int .i64 (N : Int))).run Try.prog w = .ok (.slice (some ⟨w.heap.size, 0, none⟩) N N) (w.alloc (.cells (madeCells #[.slice none 0 0] N) 50)) := by
  obtain ⟨i0, hi0, hz0, hz1, hz2⟩ := info_parts infoBL
  have h := run_make (P := Try.prog) w 47 50 i0 (.slice none 0 0) Try.underlying47 hi0 hz0 .i64 .i64 (N : Int) (N : Int) (by omega) (by omega) (by rw [hz2]; omega) (by omega)
  rw [hz1, Nat.mul_one, show (N : Int).toNat = N by omega] at h
  exact h
theorem make_ints (N : Nat) (hN : N ≤ 1000) (w : World) : (Instr.makeSlice 23 (.int .i64 (N : Int)) (.int .i64 (N : Int))).run Try.prog w = .ok (.slice (some ⟨w.heap.size, 0, none⟩) N N) (w.alloc (.cells (madeCells #[.int .i64 0] N) 3)) := by
  obtain ⟨i0, hi0, hz0, hz1, hz2⟩ := info_parts infoI
  have h := run_make (P := Try.prog) w 23 3 i0 (.int .i64 0) Try.underlying23 hi0 hz0 .i64 .i64 (N : Int) (N : Int) (by omega) (by omega) (by rw [hz2]; omega) (by omega)
  rw [hz1, Nat.mul_one, show (N : Int).toNat = N by omega] at h
  exact h
set_option maxRecDepth 100000 in
set_option maxHeartbeats 4000000 in
theorem grid_pro (l : List Rf) (v : Value) (n : Int) (va : Value) (zs : List Int) (w : World) (hv : RdR w v l) (hl : l.length ≤ 140737488355328) (hz : RdZ w va zs) (hz2 : zs.length ≤ 2) :
    Calls Try.prog 23 #[v, .int .i64 n, va] w (GridIs l n zs w) := by
  obtain ⟨pa, cap, rfl, hcl, hcm⟩ := hv.form
  obtain ⟨pz, cz, rfl, hc⟩ := hz
  by_cases h1 : 65536 < l.length
  · have h1' : (65536 : Int) < l.length := by omega
    clear hc hcl hcm hv
    go_enter Try.func23, Try.ntmps23
    go_wp2_with fail
    go_ret2
    exact .inl ⟨by rw [lookE_long h1]; omega, by rw [lookE_long h1]; rfl, Below.refl _ _⟩
  · have h1' : ¬ (65536 : Int) < l.length := by omega
    by_cases h2 : n < 0
    · have HE := Lib.hid (lookE_range (n := n) (asked := zs) h1 (.inl h2))
      clear hc h1 hcl hcm hv
      go_enter Try.func23, Try.ntmps23
      go_wp2_with fail
      go_ret2
      exact .inl ⟨by rw [HE.out]; omega, by rw [HE.out]; rfl, Below.refl _ _⟩
    · by_cases h3 : 1000 < n
      · have HE := Lib.hid (lookE_range (n := n) (asked := zs) h1 (.inr h3))
        have h2' : 0 ≤ n := by omega
        clear hc h1 hcl hcm hv
        go_enter Try.func23, Try.ntmps23
        go_wp2_with fail
        go_ret2
        exact .inl ⟨by rw [HE.out]; omega, by rw [HE.out]; rfl, Below.refl _ _⟩
      · have he := lookE_all (asked := zs) h1 (show ¬ (n < 0 ∨ 1000 < n) by omega)
        have HC := Lib.hid hc
        have HV := Lib.hid hv
        have HLL := Lib.hid (show l.length ≤ 65536 by omega)
        have h2' : 0 ≤ n := by omega
        have h3' : n ≤ 1000 := by omega
        obtain ⟨N, rfl⟩ : ∃ N : Nat, n = N := ⟨n.toNat, by omega⟩
        have hN : N ≤ 1000 := by omega
        rw [Int.toNat_natCast] at he
        have HE := Lib.hid he
        clear he
        have hll9 : l.length ≤ 65536 := HLL.out
        have mL := make_lists N hN
        have mB := make_bools N hN
        clear hc h1 h2 h3 hcl hcm hv hl
        go_enter Try.func23, Try.ntmps23
        go_wp2_with fail
        go_loop [8] (fun i => ∃ k : Nat, i = .int .i64 k ∧ k ≤ zs.length ∧ Hid ((zs.take k).all (fun x => isT x N) = true)) (fun i => zs.length - (intOf i).toNat)
        case atStart => exact ⟨0, rfl, Nat.zero_le _, by show _ = _; simp⟩
        case round =>
          obtain ⟨k, rfl, hk, HA⟩ := hrel
          by_cases hlt : k < zs.length
          · obtain ⟨b, off, rfl, hcc⟩ := HC.out k hlt
            obtain ⟨x, hx⟩ : ∃ x, zs[k] = x := ⟨_, rfl⟩
            have HT := Lib.hid (all_take (n := N) hlt)
            have hxm : x ∈ zs := by rw [← hx]; exact List.getElem_mem _
            rw [hx] at hcc HT
            have hk1 : (k : Int) < zs.length := by omega
            by_cases hx0 : x < 0
            · have HNO := Lib.hid (show lookE l.length N zs = 1 by
                rw [HE.out, if_neg]
                intro e
                have h5 := List.all_eq_true.1 e x hxm
                unfold isT at h5
                have := of_decide_eq_true h5
                omega)
              clear hxm hx
              go_wp2_with fail
              go_ret2
              exact .inl ⟨by rw [HNO.out]; omega, by rw [HNO.out]; rfl, Below.refl _ _⟩
            · by_cases hxn : x < N
              · have HN := Lib.hid (show (zs.take (k + 1)).all (fun x => isT x N) = true by rw [HT.out, HA.out]; exact decide_eq_true ⟨by omega, hxn⟩)
                have hx0' : 0 ≤ x := by omega
                have hxn' : ¬ (N : Int) ≤ x := by omega
                clear hxm hx hx0
                go_wp2_with fail
                go_round
                case rel => exact ⟨k + 1, by go_num, by omega, HN⟩
                case measure => simp [intOf]; omega
              · have HNO := Lib.hid (show lookE l.length N zs = 1 by
                  rw [HE.out, if_neg]
                  intro e
                  have h5 := List.all_eq_true.1 e x hxm
                  unfold isT at h5
                  have := of_decide_eq_true h5
                  omega)
                have hx0' : 0 ≤ x := by omega
                have hxn' : (N : Int) ≤ x := by omega
                clear hxm hx hx0 hxn
                go_wp2_with fail
                go_ret2
                exact .inl ⟨by rw [HNO.out]; omega, by rw [HNO.out]; rfl, Below.refl _ _⟩
          · obtain rfl : k = zs.length := by omega
            have hlz : ¬ (zs.length : Int) < zs.length := by omega
            have HYES := Lib.hid (show lookE l.length N zs = 0 by
              have h6 := HA.out
              rw [List.take_length] at h6
              rw [HE.out, if_pos h6])
            clear hlt
            go_wp2_with fail
            have HG0 := Lib.hid (Grid.start w N (fun _ => 0) (fun _ _ => false))
            have HB0 := Lib.hid ((Below.refl w.heap.size w).alloc (Nat.le_refl _) (.cells (madeCells #[.slice none 0 0] N) 50))
            obtain ⟨w1, hw1⟩ : ∃ w1, w.alloc (.cells (madeCells #[.slice none 0 0] N) 50) = w1 := ⟨_, rfl⟩
            rw [hw1] at HG0 HB0 ⊢
            clear hw1
            go_loopw [10] (fun i wr => ∃ (m : Nat) (rows : Nat → Nat), i = .int .i64 m ∧ m ≤ N ∧ Hid (Grid wr w.heap.size w.heap.size N m rows (fun _ _ => false)) ∧ Hid (Below w.heap.size w wr)) (fun i _ => N - (intOf i).toNat)
            case atStart => exact ⟨0, _, rfl, Nat.zero_le _, HG0, HB0⟩
            case round =>
              obtain ⟨m, rows, rfl, hm, HG, HB⟩ := hrel
              by_cases hmn : m < N
              · have hm1 : (m : Int) < N := by omega
                have HM := Lib.hid hmn
                have hA : Below wr.heap.size wr (wr.alloc (.cells (madeCells #[.bool false] N) 4)) := (Below.refl _ wr).alloc (Nat.le_refl _) _
                have hg2 := HG.out.below hA
                have c0 := hg2.top.cell hmn
                rw [if_neg (Nat.lt_irrefl _)] at c0
                have f0 := hg2.top.free m
                have HA2 := Lib.hid hA
                clear hA hg2 hmn
                go_wp2_with fail
                go_roundw
                case measure => have := HM.out; first | (simp [intOf]; done) | (simp [intOf]; omega)
                case rel => exact ⟨m + 1, _, by go_num, by have := HM.out; omega, Lib.hid (HG.out.more HM.out), Lib.hid ((HB.out.alloc HB.out.size _).setCell (p := ⟨w.heap.size, m, none⟩) (Nat.le_refl _) _)⟩
              · obtain rfl : m = N := by omega
                have hlz : ¬ ((m : Int) < m) := by omega
                clear hmn
                go_wp2_with fail
                go_loopw [11] (fun i wq => ∃ j : Nat, i = .int .i64 j ∧ j ≤ l.length ∧ Hid (Grid wq w.heap.size w.heap.size m m rows (edge (l.take j) m)) ∧ Hid (Below w.heap.size w wq)) (fun i _ => l.length - (intOf i).toNat)
                case atStart => exact ⟨0, rfl, Nat.zero_le _, HG, HB⟩
                case round =>
                  obtain ⟨j, rfl, hj, HG, HB⟩ := hrel
                  by_cases hjl : j < l.length
                  · have hj1 : (j : Int) < l.length := by omega
                    have HJ := Lib.hid hjl
                    obtain ⟨b, off, rfl, hcs⟩ := (HV.out.below HB.out).cell hjl
                    have htk : l.take (j + 1) = l.take j ++ [l[j]] := List.take_succ_eq_append_getElem hjl
                    obtain ⟨r, hr⟩ : ∃ r, l[j] = r := ⟨_, rfl⟩
                    have c0 : wr.cell? ⟨b, off + j * 6 + 0, none⟩ = some (.int .i64 r.fr) := by rw [← hr]; exact hcs 0 _ rfl
                    have c1 : wr.cell? ⟨b, off + j * 6 + 1, none⟩ = some (.int .i64 r.to) := by rw [← hr]; exact hcs 1 _ rfl
                    rw [hr] at htk
                    rw [Nat.add_zero] at c0
                    have hbw : b < w.heap.size := by
                      obtain ⟨_, _, e, hc9⟩ := HV.out.cell hjl
                      cases e
                      exact cellInL (hc9 0 _ rfl)
                    have HBW := Lib.hid hbw
                    by_cases hok : (0 ≤ r.fr ∧ r.fr < m) ∧ (0 ≤ r.to ∧ r.to < m)
                    · obtain ⟨x, hx, e1, e2, _⟩ := cn1_some (n := m) hok
                      rw [← e1] at c0
                      rw [← e2] at c1
                      have hxf := x.hf
                      have hxt := x.ht
                      have HTK := Lib.hid (show ∀ a k, edge (l.take (j + 1)) m a k = (edge (l.take j) m a k || (decide (a = x.fr) && decide (k = x.to))) by
                        intro a k
                        rw [htk, edge_snoc, hx]
                        exact congrArg _ (edge_of x a k))
                      obtain ⟨xf, hxf0⟩ : ∃ q, x.fr = q := ⟨_, rfl⟩
                      obtain ⟨xt, hxt0⟩ : ∃ q, x.to = q := ⟨_, rfl⟩
                      rw [hxf0] at c0 hxf HTK
                      rw [hxt0] at c1 hxt HTK
                      have i0 : (xf : Int) < m := by omega
                      have i1 : (xt : Int) < m := by omega
                      have i2 : (0 : Int) ≤ xf := by omega
                      have i3 : (0 : Int) ≤ xt := by omega
                      have HXF := Lib.hid hxf
                      have HXT := Lib.hid hxt
                      clear hcs htk hr hjl hok hx e1 e2 hxf hxt hxf0 hxt0 hbw
                      go_wp2_with fail
                      have ct := HG.out.top.cell HXF.out
                      rw [if_pos HXF.out] at ct
                      obtain ⟨rx, hrx⟩ : ∃ q, rows xf = q := ⟨_, rfl⟩
                      rw [hrx] at ct
                      have hS0 : wr.drew.cell? ⟨b, off + j * 6, none⟩ = some (.int .i64 (xf : Nat)) ∧ wr.drew.cell? ⟨b, off + j * 6 + 1, none⟩ = some (.int .i64 (xt : Nat)) ∧ wr.drew.cell? ⟨w.heap.size, xf, none⟩ = some (.slice (some ⟨rx, 0, none⟩) m m) := ⟨c0, c1, ct⟩
                      refine region_just (S := fun w' => w'.cell? ⟨b, off + j * 6, none⟩ = some (.int .i64 (xf : Nat)) ∧ w'.cell? ⟨b, off + j * 6 + 1, none⟩ = some (.int .i64 (xt : Nat)) ∧ w'.cell? ⟨w.heap.size, xf, none⟩ = some (.slice (some ⟨rx, 0, none⟩) m m)) (by kernel_rfl) ?_
                      refine wpAnyH_take (i := 0) (v := .slice (some ⟨w.heap.size, 0, none⟩) m m) rfl (by kernel_rfl) (by kernel_rfl) (by kernel_rfl) (fun _ _ _ h => h) (.inl ⟨by rfl, fun w' hS => by obtain ⟨h1, h2, h3⟩ := hS; go_simp⟩) hS0 ?_
                      refine wpAnyH_take (i := 1) (v := .slice (some ⟨b, off, none⟩) l.length cap) rfl (by kernel_rfl) (by kernel_rfl) (by kernel_rfl) (fun _ _ _ h => h) (.inl ⟨by rfl, fun w' hS => by obtain ⟨h1, h2, h3⟩ := hS; go_simp⟩) hS0 ?_
                      refine wpAnyH_take (i := 2) (v := .int .i64 (j : Nat)) rfl (by kernel_rfl) (by kernel_rfl) (by kernel_rfl) (fun _ _ _ h => h) (.inl ⟨by rfl, fun w' hS => by obtain ⟨h1, h2, h3⟩ := hS; go_simp⟩) hS0 ?_
                      refine wpAnyH_take (i := 3) (v := .pointer (some ⟨b, off + j * 6, none⟩)) rfl (by kernel_rfl) (by kernel_rfl) (by kernel_rfl) (fun _ _ _ h => h) (.inl ⟨by rfl, fun w' hS => by obtain ⟨h1, h2, h3⟩ := hS; go_simp⟩) hS0 ?_
                      refine wpAnyH_take (i := 4) (v := .pointer (some ⟨b, off + j * 6, none⟩)) rfl (by kernel_rfl) (by kernel_rfl) (by kernel_rfl) (fun _ _ _ h => h) (.inl ⟨by rfl, fun w' hS => by obtain ⟨h1, h2, h3⟩ := hS; go_simp⟩) hS0 ?_
                      refine wpAnyH_take (i := 5) (v := .int .i64 (xf : Nat)) rfl (by kernel_rfl) (by kernel_rfl) (by kernel_rfl) (fun _ _ _ h => h) (.inl ⟨by rfl, fun w' hS => by obtain ⟨h1, h2, h3⟩ := hS; go_simp⟩) hS0 ?_
                      refine wpAnyH_take (i := 6) (v := .pointer (some ⟨w.heap.size, xf, none⟩)) rfl (by kernel_rfl) (by kernel_rfl) (by kernel_rfl) (fun _ _ _ h => h) (.inl ⟨by rfl, fun w' hS => by obtain ⟨h1, h2, h3⟩ := hS; go_simp⟩) hS0 ?_
                      refine wpAnyH_take (i := 7) (v := .slice (some ⟨rx, 0, none⟩) m m) rfl (by kernel_rfl) (by kernel_rfl) (by kernel_rfl) (fun _ _ _ h => h) (.inl ⟨by rfl, fun w' hS => by obtain ⟨h1, h2, h3⟩ := hS; go_simp⟩) hS0 ?_
                      refine wpAnyH_take (i := 8) (v := .slice (some ⟨b, off, none⟩) l.length cap) rfl (by kernel_rfl) (by kernel_rfl) (by kernel_rfl) (fun _ _ _ h => h) (.inl ⟨by rfl, fun w' hS => by obtain ⟨h1, h2, h3⟩ := hS; go_simp⟩) hS0 ?_
                      refine wpAnyH_take (i := 9) (v := .int .i64 (j : Nat)) rfl (by kernel_rfl) (by kernel_rfl) (by kernel_rfl) (fun _ _ _ h => h) (.inl ⟨by rfl, fun w' hS => by obtain ⟨h1, h2, h3⟩ := hS; go_simp⟩) hS0 ?_
                      refine wpAnyH_take (i := 10) (v := .pointer (some ⟨b, off + j * 6, none⟩)) rfl (by kernel_rfl) (by kernel_rfl) (by kernel_rfl) (fun _ _ _ h => h) (.inl ⟨by rfl, fun w' hS => by obtain ⟨h1, h2, h3⟩ := hS; go_simp⟩) hS0 ?_
                      refine wpAnyH_take (i := 11) (v := .pointer (some ⟨b, off + j * 6 + 1, none⟩)) rfl (by kernel_rfl) (by kernel_rfl) (by kernel_rfl) (fun _ _ _ h => h) (.inl ⟨by rfl, fun w' hS => by obtain ⟨h1, h2, h3⟩ := hS; go_simp⟩) hS0 ?_
                      refine wpAnyH_take (i := 12) (v := .int .i64 (xt : Nat)) rfl (by kernel_rfl) (by kernel_rfl) (by kernel_rfl) (fun _ _ _ h => h) (.inl ⟨by rfl, fun w' hS => by obtain ⟨h1, h2, h3⟩ := hS; go_simp⟩) hS0 ?_
                      refine wpAnyH_take (i := 13) (v := .pointer (some ⟨rx, xt, none⟩)) rfl (by kernel_rfl) (by kernel_rfl) (by kernel_rfl) (fun _ _ _ h => h) (.inl ⟨by rfl, fun w' hS => by obtain ⟨h1, h2, h3⟩ := hS; go_simp⟩) hS0 ?_
                      have hGd : Grid wr.drew w.heap.size w.heap.size m m rows (edge (l.take j) m) := HG.out.below ((Below.refl _ wr).drew)
                      have cs := (hGd.row xf HXF.out).cell HXT.out
                      have fs := (hGd.row xf HXF.out).free xt
                      have HNE := Lib.hid (hGd.ne xf HXF.out)
                      have HLO := Lib.hid (hGd.lows xf HXF.out)
                      have HG2 := Lib.hid ((hGd.set HXF.out xt))
                      rw [hrx] at cs fs HNE HLO HG2
                      clear hGd hrx
                      refine wpAnyH_all (rs := [14]) (by kernel_rfl) (by simp) ?_
                      intro i' hi'
                      obtain rfl : i' = 14 := by simpa using hi'
                      refine op_via rfl (by rfl) (fun K hK => ?_)
                      go_simp
                      refine hK _ _ ⟨⟨(World.cell?_of_block (a := ⟨b, off + j * 6, none⟩) (Below.heap_setCell _ _ _ b (by have := HBW.out; have := HLO.out; show b ≠ rx; omega))).trans hS0.1, (World.cell?_of_block (a := ⟨b, off + j * 6 + 1, none⟩) (Below.heap_setCell _ _ _ b (by have := HBW.out; have := HLO.out; show b ≠ rx; omega))).trans hS0.2.1, (World.cell?_of_block (a := ⟨w.heap.size, xf, none⟩) (Below.heap_setCell _ _ _ w.heap.size (fun e => HNE.out e.symm))).trans hS0.2.2⟩, ?_⟩
                      clear hK K
                      refine wpAnyH_done (by kernel_rfl) ?_ _
                      simp only [Just]
                      clear cs fs hS0 ct c0 c1
                      go_wp2_with fail
                      go_roundw
                      case measure => have := HJ.out; first | (simp [intOf]; done) | (simp [intOf]; omega)
                      case rel => exact ⟨j + 1, by go_num, by have := HJ.out; omega, Lib.hid (by rw [show edge (l.take (j + 1)) m = fun a k => (edge (l.take j) m a k || (decide (a = xf) && decide (k = xt))) from funext fun a => funext fun k => HTK.out a k]; exact HG2.out), Lib.hid (HB.out.drew.setCell (p := ⟨rx, xt, none⟩) HLO.out _)⟩
                    · have hno : cn1 m r = none := cn1_none hok
                      have HTK := Lib.hid (show edge (l.take (j + 1)) m = edge (l.take j) m from funext fun a => funext fun k => by rw [htk, edge_snoc, hno]; simp)
                      obtain ⟨rf, hrf⟩ : ∃ q, r.fr = q := ⟨_, rfl⟩
                      obtain ⟨rt, hrt⟩ : ∃ q, r.to = q := ⟨_, rfl⟩
                      rw [hrf] at c0 hok
                      rw [hrt] at c1 hok
                      clear hcs htk hr hjl hno hbw hrf hrt
                      by_cases k0 : 0 ≤ rf
                      · by_cases k1 : rf < m
                        · by_cases k2 : 0 ≤ rt
                          · have k3 : ¬ rt < m := fun k3 => hok ⟨⟨k0, k1⟩, k2, k3⟩
                            clear hok
                            go_wp2_with fail
                            go_roundw
                            case measure => have := HJ.out; first | (simp [intOf]; done) | (simp [intOf]; omega)
                            case rel => exact ⟨j + 1, by go_num, by have := HJ.out; omega, Lib.hid (by rw [HTK.out]; exact HG.out), HB⟩
                          · clear hok
                            go_wp2_with fail
                            go_roundw
                            case measure => have := HJ.out; first | (simp [intOf]; done) | (simp [intOf]; omega)
                            case rel => exact ⟨j + 1, by go_num, by have := HJ.out; omega, Lib.hid (by rw [HTK.out]; exact HG.out), HB⟩
                        · clear hok
                          go_wp2_with fail
                          go_roundw
                          case measure => have := HJ.out; first | (simp [intOf]; done) | (simp [intOf]; omega)
                          case rel => exact ⟨j + 1, by go_num, by have := HJ.out; omega, Lib.hid (by rw [HTK.out]; exact HG.out), HB⟩
                      · clear hok
                        go_wp2_with fail
                        go_roundw
                        case measure => have := HJ.out; first | (simp [intOf]; done) | (simp [intOf]; omega)
                        case rel => exact ⟨j + 1, by go_num, by have := HJ.out; omega, Lib.hid (by rw [HTK.out]; exact HG.out), HB⟩
                  · obtain rfl : j = l.length := by omega
                    have hlz2 : ¬ ((l.length : Int) < l.length) := by omega
                    have hG := HG.out
                    rw [List.take_length] at hG
                    have HG2 := Lib.hid hG
                    clear hjl hG
                    go_wp2_with fail
                    go_ret2
                    exact .inr ⟨HYES.out, _, rows, rfl, HB.out, HG2.out.read⟩
end Go.Proofs.Ytjgcbobalmmjkaa
