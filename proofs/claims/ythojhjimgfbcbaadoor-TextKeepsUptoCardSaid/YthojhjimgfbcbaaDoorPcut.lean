/- The program's Cut of layer 2: a loop over its iterator that may end early. -/
import Derived.Test.YthojhjimgfbcbaaDoorPwid
import Derived.Test.YthojhjimgfbcbaaDoorRound
namespace Go.Proofs.YthojhjimgfbcbaaDoor
open Go.RowKit Go.Shelf

attribute [local go_sem] Oper.semAt_some

/-- What a beginning of the cells tells of where the text is cut. -/
def NoCut (m : Int) (pre : List Cel) : Prop := (pre = [] ∨ sumW pre ≤ m) ∧ ∀ rest, cutAt m (pre ++ rest) 0 = cutAt m rest (sumW pre)
theorem noCut_nil (m : Int) : NoCut m [] := ⟨.inl rfl, fun _ => rfl⟩
theorem noCut_snoc {m : Int} {pre : List Cel} {y : Cel} (h : NoCut m pre) (hy : sumW pre + y.2.2 ≤ m) : NoCut m (pre ++ [y]) := by
  refine ⟨.inr (by rw [sumW_snoc]; exact hy), fun rest => ?_⟩
  rw [List.append_assoc, h.2, List.singleton_append]
  simp only [cutAt]
  rw [if_neg (by omega), sumW_snoc]
theorem cut_hit {m : Int} {pre : List Cel} {y : Cel} (h : NoCut m pre) (hy : m < sumW pre + y.2.2) (rest : List Cel) : cutAt m ((pre ++ [y]) ++ rest) 0 = some y := by
  rw [List.append_assoc, h.2, List.singleton_append]
  simp only [cutAt]
  rw [if_pos hy]
theorem noCut_all {s : ByteArray} {m : Int} {l : List Cel} (h : NoCut m l) (e : l = cells s) : cutAt m (cells s) 0 = none := by
  have := h.2 []
  rw [List.append_nil] at this
  rw [← e, this]; rfl

/-- What a loop's variables hold between two rounds of Cut, and behind its return from one. -/
def CutI (s : ByteArray) (m : Int) (w : World) (pre : List (SCel s)) (W : World) : Prop :=
  ((((NoCut m (pre.map (·.1)) ∧ Boxed W w.heap.size 9 (.string s)) ∧ Boxed W (w.heap.size + 1) 9 (.string ⟨#[]⟩)) ∧ Boxed W (w.heap.size + 1 + 1) 9 (.string ⟨#[]⟩)) ∧ Boxed W (w.heap.size + 1 + 1 + 1) 3 (.int .i64 (m - sumS pre))) ∧ Below w.heap.size w W
def CutX (s : ByteArray) (m : Int) (w : World) (c : Code) (pre : List (SCel s)) (W : World) : Prop :=
  ∃ y : Cel, ((c = .ret ∧ ∀ rest, cutAt m (pre.map (·.1) ++ rest) 0 = some y) ∧ Boxed W (w.heap.size + 1) 9 (.string (s.extract 0 y.1)) ∧ Boxed W (w.heap.size + 1 + 1) 9 (.string (s.extract y.1 s.size))) ∧ Below w.heap.size w W

theorem cell_else (w : World) {b b' : Nat} {o o' : Nat} (h : b ≠ b') (v : Value) : (w.setCell ⟨b', o', none⟩ v).cell? ⟨b, o, none⟩ = w.cell? ⟨b, o, none⟩ := by
  have e : (w.setCell ⟨b', o', none⟩ v).heap[b]? = w.heap[b]? := Below.heap_setCell _ _ _ b h
  unfold World.cell?
  simp only []
  rw [e]

set_option maxRecDepth 100000 in
set_option maxHeartbeats 4000000 in
theorem cut_in (s : ByteArray) (m : Int) (w : World) (hs : s.size ≤ 16777216) (hm : -9223372036854775808 ≤ m ∧ m ≤ 9223372036854775807) :
    CallsIn Fence.wide 8 Tryd.prog 30 #[.string s, .int .i64 m] w (IsCut s m w) := by
  have hfc : Fence.wide.fn 49 := trivial
  have hf1 : Fence.wide.fn 69 := trivial
  have hl := cells_len s
  refine callsIn_of_wp_marks Tryd.func30 rfl trivial ?_ rfl
  simp only [Tryd.ntmps30, List.size_toArray, List.length_cons, List.length_nil, Nat.reduceAdd, Nat.reduceSub, Array.replicate_succ, Array.replicate_zero, List.push_toArray, List.append_toArray, List.nil_append, List.cons_append]
  gi_wp2_with (gi_at_call 49; refine (cells_in _ _ _).mono ?_; rintro e w' ⟨rfl, rfl⟩)
  have bT := (((Boxed.new w 9 (.string s)).alloc (.cells #[.string ⟨#[]⟩] 9)).alloc (.cells #[.string ⟨#[]⟩] 9)).alloc (.cells #[.int .i64 m] 3) |>.alloc (.cells #[.string s] 9)
  have bX := (((Boxed.new (w.alloc (.cells #[.string s] 9)) 9 (.string ⟨#[]⟩)).alloc (.cells #[.string ⟨#[]⟩] 9)).alloc (.cells #[.int .i64 m] 3)).alloc (.cells #[.string s] 9)
  have bY := ((Boxed.new ((w.alloc (.cells #[.string s] 9)).alloc (.cells #[.string ⟨#[]⟩] 9)) 9 (.string ⟨#[]⟩)).alloc (.cells #[.int .i64 m] 3)).alloc (.cells #[.string s] 9)
  have bR := (Boxed.new (((w.alloc (.cells #[.string s] 9)).alloc (.cells #[.string ⟨#[]⟩] 9)).alloc (.cells #[.string ⟨#[]⟩] 9)) 3 (.int .i64 m)).alloc (.cells #[.string s] 9)
  have bA := Boxed.new ((((w.alloc (.cells #[.string s] 9)).alloc (.cells #[.string ⟨#[]⟩] 9)).alloc (.cells #[.string ⟨#[]⟩] 9)).alloc (.cells #[.int .i64 m] 3)) 9 (.string s)
  simp only [World.size_alloc] at bX bY bR bA
  have hB0 : Below w.heap.size w (((((w.alloc (.cells #[.string s] 9)).alloc (.cells #[.string ⟨#[]⟩] 9)).alloc (.cells #[.string ⟨#[]⟩] 9)).alloc (.cells #[.int .i64 m] 3)).alloc (.cells #[.string s] 9)) := ((((((Below.refl _ w).alloc (Nat.le_refl _) _).alloc (by simp) _).alloc (by simp; omega) _).alloc (by simp; omega) _).alloc (by simp; omega) _)
  have hsz : (((((w.alloc (.cells #[.string s] 9)).alloc (.cells #[.string ⟨#[]⟩] 9)).alloc (.cells #[.string ⟨#[]⟩] 9)).alloc (.cells #[.int .i64 m] 3)).alloc (.cells #[.string s] 9)).heap.size = w.heap.size + 5 := by simp
  obtain ⟨W0, hW0⟩ : ∃ W0, ((((w.alloc (.cells #[.string s] 9)).alloc (.cells #[.string ⟨#[]⟩] 9)).alloc (.cells #[.string ⟨#[]⟩] 9)).alloc (.cells #[.int .i64 m] 3)).alloc (.cells #[.string s] 9) = W0 := ⟨_, rfl⟩
  rw [hW0] at bT bX bY bR bA hB0 hsz ⊢
  clear hW0
  refine wpIn_rangeFunc_ownH rfl (by omega) (gf := 69) (lb := #[.pointer (some ⟨w.heap.size + 1 + 1 + 1 + 1, 0, none⟩)]) rfl trivial (enters_of Tryd.func69 (by kernel_rfl) rfl)
    (cells_stops (8 - 1) (by omega) (w.heap.size + 1 + 1 + 1 + 1) s hs W0 bA.cell) KpS.t (fun W l o o' _ h hc hw => KpS.put W l o o' h hc hw) (Below.refl _ _) (fun _ => rfl)
    (CutI s m w) (CutX s m w)
    (OwnFrom.and (OwnFrom.and (OwnFrom.and (OwnFrom.and (OwnFrom.and (ownFrom_pure _ _) (Own.from (boxed_own _ _ _) _)) (Own.from (boxed_own _ _ _) _)) (Own.from (boxed_own _ _ _) _)) (Own.from (boxed_own _ _ _) _)) (ownFrom_below (Nat.le_refl _) (by omega)))
    (fun c pre X Y row ⟨y, hp, hb⟩ hg hr => ⟨y, ⟨hp.1, Own.from (boxed_own _ 9 (fun (_ : Unit) => Value.string (s.extract 0 y.1))) W0.heap.size () X Y row hp.2.1 hg hr, Own.from (boxed_own _ 9 (fun (_ : Unit) => Value.string (s.extract y.1 s.size))) W0.heap.size () X Y row hp.2.2 hg hr⟩, ownFrom_below (β := Unit) (B := W0.heap.size) (n₀ := w.heap.size) (w₀ := w) (Nat.le_refl _) (by omega) () X Y row hb hg hr⟩)
    ⟨⟨⟨⟨⟨noCut_nil m, bT⟩, bX⟩, bY⟩, by simpa [sumS, sumW] using bR⟩, hB0⟩
    (fun x a' W => ∃ Bx, w.heap.size + 4 ≤ Bx ∧ W.heap[Bx]? = some (.cells #[.string (s.extract x.1.1 x.1.2.1), .int .i64 x.1.1, .int .i64 x.1.2.2] 36 (0, 0)) ∧ a' = { tmps := #[.string s, .int .i64 m, .pointer (some ⟨w.heap.size, 0, none⟩), undef, .pointer (some ⟨w.heap.size + 1, 0, none⟩), .pointer (some ⟨w.heap.size + 1 + 1, 0, none⟩), .pointer (some ⟨w.heap.size + 1 + 1 + 1, 0, none⟩), .pointer (some ⟨Bx, 0, none⟩), .int .i64 m, .string s, .func (.func 69) #[] #[.pointer (some ⟨w.heap.size + 1 + 1 + 1 + 1, 0, none⟩)], Value.agg #[.string (s.extract x.1.1 x.1.2.1), .int .i64 x.1.1, .int .i64 x.1.2.2], undef, undef, undef, undef, undef, undef, undef, undef, undef, undef, undef, undef, undef, undef, undef, undef, undef], defers := [] })
    (fun x a' _ X Y row hs hg hr => by
      obtain ⟨Bx, h1, h2, h3⟩ := hs
      refine ⟨Bx, h1, (hg.block Bx (Array.getElem?_eq_some_iff.1 h2).1 (fun e => ?_)).trans h2, h3⟩
      obtain ⟨_, o, ho, hc⟩ := hr Bx e.symm
      rw [h2] at ho; cases ho; cases hc)
    ?assign ?body ?done ?stop
  case assign =>
    rintro l pre x W K ⟨⟨⟨⟨⟨hp1, bT1⟩, bX1⟩, bY1⟩, bR1⟩, hB1⟩ hK
    simp only [celA]
    gi_wp2
    exact hK _ _ ((KeepsOthers.alloc _ _).from _) (KpS.alloc _ _) ⟨⟨⟨⟨⟨hp1, bT1.alloc _⟩, bX1.alloc _⟩, bY1.alloc _⟩, bR1.alloc _⟩, hB1.alloc hB1.size _⟩ ⟨W.heap.size, (by have := bR1.lt; omega), World.alloc_heap_new W _, rfl⟩
  case body =>
    rintro l pre x a' W hl ⟨r, hr⟩ ⟨⟨⟨⟨⟨hp1, bT1⟩, bX1⟩, bY1⟩, bR1⟩, hB1⟩ ⟨Bx, hBx, bC, rfl⟩ hlt
    have HN := Lib.hid hp1
    have cT := bT1.cell
    have cX := bX1.cell
    have cY := bY1.cell
    have cR := bR1.cell
    have fX := bX1.frozen
    have fY := bY1.frozen
    have fR := bR1.frozen
    have c1 : W.cell? ⟨Bx, 1, none⟩ = some (.int .i64 x.1.1) := by simp [World.cell?, bC]
    have c2 : W.cell? ⟨Bx, 2, none⟩ = some (.int .i64 x.1.2.2) := by simp [World.cell?, bC]
    have hsm := sumS_bd pre
    have hx2 := x.2.1
    have hx3 := x.2.2
    have s1 : 0 ≤ sumS pre := hsm.1
    have s2 : sumS pre ≤ 33554432 := by omega
    have x1 : 1 ≤ x.1.2.2 := by omega
    have x2 : x.1.2.2 ≤ 2 := by omega
    have x3 : (x.1.1 : Int) ≤ s.size := by omega
    have x4 : (0 : Int) ≤ x.1.1 := by omega
    have x5 : (s.size : Int) ≤ 16777216 := by omega
    clear hx2 hx3 hsm hp1
    by_cases hc : m - sumS pre < x.1.2.2
    · gi_wp2
      refine region_inRound (by kernel_rfl) (by kernel_rfl) ?_
      refine wpAny_of_held (S := fun w' => w'.cell? ⟨w.heap.size, 0, none⟩ = some (.string s) ∧ w'.cell? ⟨Bx, 1, none⟩ = some (.int .i64 x.1.1)) _ _ _ _ ?_
      have hS : W.drew.cell? ⟨w.heap.size, 0, none⟩ = some (.string s) ∧ W.drew.cell? ⟨Bx, 1, none⟩ = some (.int .i64 x.1.1) := ⟨cT, c1⟩
      refine wpAnyH_take (i := 0) (v := .string s) rfl (by kernel_rfl) (by kernel_rfl) (by kernel_rfl) (fun _ _ _ h => h) (.inl ⟨by rfl, fun w' hS => by have h1 := hS.1; have h2 := hS.2; go_simp⟩) hS ?_
      refine wpAnyH_take (i := 1) (v := .pointer (some ⟨Bx, 1, none⟩)) rfl (by kernel_rfl) (by kernel_rfl) (by kernel_rfl) (fun _ _ _ h => h) (.inl ⟨by rfl, fun w' hS => by have h1 := hS.1; have h2 := hS.2; go_simp⟩) hS ?_
      refine wpAnyH_take (i := 2) (v := .int .i64 x.1.1) rfl (by kernel_rfl) (by kernel_rfl) (by kernel_rfl) (fun _ _ _ h => h) (.inl ⟨by rfl, fun w' hS => by have h1 := hS.1; have h2 := hS.2; go_simp⟩) hS ?_
      refine wpAnyH_take (i := 3) (v := .string (s.extract 0 x.1.1)) rfl (by kernel_rfl) (by kernel_rfl) (by kernel_rfl) (fun _ _ _ h => h) (.inl ⟨by rfl, fun w' hS => by have h1 := hS.1; have h2 := hS.2; go_simp⟩) hS ?_
      refine wpAnyH_take (i := 4) (v := .string s) rfl (by kernel_rfl) (by kernel_rfl) (by kernel_rfl) (fun _ _ _ h => h) (.inl ⟨by rfl, fun w' hS => by have h1 := hS.1; have h2 := hS.2; go_simp⟩) hS ?_
      refine wpAnyH_take (i := 5) (v := .pointer (some ⟨Bx, 1, none⟩)) rfl (by kernel_rfl) (by kernel_rfl) (by kernel_rfl) (fun _ _ _ h => h) (.inl ⟨by rfl, fun w' hS => by have h1 := hS.1; have h2 := hS.2; go_simp⟩) hS ?_
      refine wpAnyH_take (i := 6) (v := .int .i64 x.1.1) rfl (by kernel_rfl) (by kernel_rfl) (by kernel_rfl) (fun _ _ _ h => h) (.inl ⟨by rfl, fun w' hS => by have h1 := hS.1; have h2 := hS.2; go_simp⟩) hS ?_
      refine wpAnyH_take (i := 7) (v := .string (s.extract x.1.1 s.size)) rfl (by kernel_rfl) (by kernel_rfl) (by kernel_rfl) (fun _ _ _ h => h) (.inl ⟨by rfl, fun w' hS => by have h1 := hS.1; have h2 := hS.2; go_simp⟩) hS ?_
      refine wpAnyH_all (rs := [8]) (by kernel_rfl) (by simp) ?_
      intro i hi
      obtain rfl : i = 8 := by simpa using hi
      refine op_via rfl (by rfl) (fun K hK => ?_)
      go_simp
      refine hK _ _ ⟨⟨(Boxed.other (W := W) bT1 (by omega) _).cell, ?_⟩, ?_⟩
      · exact (cell_else W (by omega) _).trans c1
      clear hK K
      refine wpAnyH_all (rs := [9]) (by kernel_rfl) (by simp) ?_
      intro i hi
      obtain rfl : i = 9 := by simpa using hi
      have bY2 := (Boxed.other (W := W) bY1 (B' := w.heap.size + 1) (by omega) (.string (s.extract 0 x.1.1)))
      have cY2 := bY2.cell
      have fY2 := bY2.frozen
      refine op_via rfl (by rfl) (fun K hK => ?_)
      go_simp
      refine hK _ _ ⟨⟨((Boxed.other (W := W) bT1 (by omega) _).other (by omega) _).cell, ?_⟩, ?_⟩
      · exact (cell_else _ (by omega) _).trans ((cell_else W (by omega) _).trans c1)
      clear hK K
      refine wpAnyH_done (by kernel_rfl) ?_ _
      simp only [Just]
      gi_wp2
      have hcut : ∀ rest, cutAt m ((pre ++ [x]).map (·.1) ++ rest) 0 = some x.1 := by
        rw [List.map_append]
        exact cut_hit HN.out (show m < sumS pre + x.1.2.2 by omega)
      exact ⟨(((KeepsOthers.drew W).trans (KeepsOthers.setCell _ _ _)).trans (KeepsOthers.setCell _ _ _)).from _, x.1, ⟨⟨rfl, hcut⟩, (Boxed.set (W := W.drew) _ bX1).other (by omega) _, (Boxed.other (W := W.drew) bY1 (by omega) _).set _⟩, ((Below.drew hB1).setCell (p := ⟨w.heap.size + 1, 0, none⟩) (by simp) _).setCell (p := ⟨w.heap.size + 1 + 1, 0, none⟩) (by simp; omega) _⟩
    · gi_wp2
      exact ⟨(KeepsOthers.setCell _ _ _).from _, KpS.set _ _ _ _ (by omega), ⟨⟨⟨⟨⟨by rw [List.map_append]; exact noCut_snoc HN.out (show sumS pre + x.1.2.2 ≤ m by omega), bT1.other (by omega) _⟩, bX1.other (by omega) _⟩, bY1.other (by omega) _⟩, by rw [sumS_snoc, ← Int.sub_sub]; exact bR1.set _⟩, hB1.setCell (p := ⟨w.heap.size + 1 + 1 + 1, 0, none⟩) (by simp; omega) _⟩⟩
  case done =>
    rintro D ys W hD hys ⟨⟨⟨⟨⟨hp1, bT1⟩, bX1⟩, bY1⟩, bR1⟩, hB1⟩ hK
    have cT := bT1.cell
    have cX := bX1.cell
    have cY := bY1.cell
    have fX := bX1.frozen
    have fY := bY1.frozen
    have HC := Lib.hid (noCut_all hp1 hys)
    clear hp1 hys
    have hK1 := (KeepsOthers.setCell W ⟨w.heap.size + 1, 0, none⟩ (.string s)).same D _ hK rfl
    have hK2 := (KeepsOthers.setCell (W.setCell ⟨w.heap.size + 1, 0, none⟩ (.string s)) ⟨w.heap.size + 1 + 1, 0, none⟩ (.string ⟨#[]⟩)).same D _ hK1 rfl
    have k4 := cell_kept (((bX1.set (.string s)).other (B' := w.heap.size + 1 + 1) (by omega) (.string ⟨#[]⟩)).cell) (grownBy_putObj' _ D (.deferred none)) (fun r e => by cases e; exact ⟨_, hK2, rfl⟩)
    have k5 := cell_kept (((bY1.other (B' := w.heap.size + 1) (by omega) (.string s)).set (.string ⟨#[]⟩)).cell) (grownBy_putObj' _ D (.deferred none)) (fun r e => by cases e; exact ⟨_, hK2, rfl⟩)
    have K4 := Lib.hid k4
    have K5 := Lib.hid k5
    have HK2 := Lib.hid hK2
    clear k4 k5 hK1 hK2
    gi_wp2
    refine ⟨by simp, .inl ⟨_, _, rfl, run_takeDeferred HK2.out, ?_⟩⟩
    refine ⟨.tuple #[.string s, .string ⟨#[]⟩], ?_, isCut_none HC.out (((hB1.setCell (p := ⟨w.heap.size + 1, 0, none⟩) (by simp) _).setCell (p := ⟨w.heap.size + 1 + 1, 0, none⟩) (by simp; omega) _).trans (belowK_b (w := w) (Nat.le_refl _) _ D _ _ (by omega) HK2.out rfl rfl))⟩
    have k4 := K4.out
    have k5 := K5.out
    simp [results, Tryd.f30, go_sem, k4, k5]
  case stop =>
    rintro D c pre W hD hpre ⟨y, ⟨⟨rfl, hcut⟩, bX1, bY1⟩, hB1⟩ hK
    obtain ⟨rest, hrest⟩ := hpre
    have HC := Lib.hid (show cutAt m (cells s) 0 = some y by rw [← hrest]; exact hcut rest)
    clear hcut hrest
    gi_wp2
    refine ⟨by simp, .inl ⟨_, _, rfl, run_takeDeferred hK, ?_⟩⟩
    have k4 := cell_kept bX1.cell (grownBy_putObj' _ D (.deferred none)) (fun r e => by cases e; exact ⟨_, hK, rfl⟩)
    have k5 := cell_kept bY1.cell (grownBy_putObj' _ D (.deferred none)) (fun r e => by cases e; exact ⟨_, hK, rfl⟩)
    refine ⟨.tuple #[.string (s.extract 0 y.1), .string (s.extract y.1 s.size)], ?_, isCut_some HC.out (hB1.trans (belowK_b (w := w) (Nat.le_refl _) W D _ _ (by omega) hK rfl rfl))⟩
    simp [results, Tryd.f30, go_sem, k4, k5]
end Go.Proofs.YthojhjimgfbcbaaDoor
