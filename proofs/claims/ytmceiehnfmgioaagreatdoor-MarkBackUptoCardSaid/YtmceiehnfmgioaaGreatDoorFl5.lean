/- All of an error that is one fault that was made: a list of one. -/
import Derived.Test.YtmceiehnfmgioaaGreatDoorFl4
import Derived.Test.YtmceiehnfmgioaaGreatDoorRound
import Derived.Deep.AppendLies
namespace Go.Proofs.YtmceiehnfmgioaaGreatDoor
open Go.RowKit Go.Shelf
set_option linter.unusedVariables false
attribute [local go_sem] Oper.semAt_some

theorem infoF : (Tryz.prog.info? 55).map (fun i => (i.zero, i.size, i.bytes)) = some (some (.agg #[.int .i64 0, .int .i64 0, .int .i64 0, .int .i64 0, .string .empty, .slice none 0 0]), 6, 72) := by kernel_rfl
theorem cells_lie (w : World) (cs : Array Value) (t : TypeId) (j : Nat) (u : Value) (h : cs.toList[j]? = some u) : (w.alloc (.cells cs t)).cell? ((⟨w.heap.size, 0, none⟩ : Addr).add j) = some u := by
  have h' : cs[j]? = some u := by simpa using h
  by_cases hj : j = 0
  · subst hj; simp [Addr.add, h']
  · simp [Addr.add, hj, h']
theorem cell_away (w : World) {b b' : Nat} {o o' : Nat} (h : b ≠ b') (v : Value) : (w.setCell ⟨b', o', none⟩ v).cell? ⟨b, o, none⟩ = w.cell? ⟨b, o, none⟩ := by
  have e : (w.setCell ⟨b', o', none⟩ v).heap[b]? = w.heap[b]? := Below.heap_setCell _ _ _ b h
  unfold World.cell?
  simp only []
  rw [e]
/-- The list of faults in the box at B, when these have come. -/
def AllI (B : Nat) (pre : List Unit) (W : World) : Prop :=
  ∃ v, Boxed W B 101 v ∧ ((pre = [] ∧ v = .slice none 0 0) ∨ (pre = [()] ∧ ∃ b cap, v = .slice (some ⟨b, 0, none⟩) 1 cap))
theorem allI_own (B : Nat) : Own (AllI B) := by
  rintro pre X Y row ⟨v, hb, h⟩ hg hr
  exact ⟨v, boxed_own B 101 (fun (_ : Unit) => v) () X Y row hb hg hr, h⟩

set_option maxRecDepth 100000 in
set_option maxHeartbeats 2000000 in
theorem allof_in (g : Nat) (f : Flt) (w : World) (he : Erd w g f) :
    CallsIn Fence.wide 8 Tryz.prog 51 #[errAt g] w fun e W' => (∃ b cap, e = .returned (.slice (some ⟨b, 0, none⟩) 1 cap)) ∧ Below w.heap.size w W' := by
  have hfc : Fence.wide.fn 65 := trivial
  have hf1 : Fence.wide.fn 116 := trivial
  have hf2 : Fence.wide.fn 66 := trivial
  unfold errAt
  refine callsIn_of_wp_marks Tryz.func51 rfl trivial ?_ rfl
  simp only [Tryz.ntmps51, List.size_toArray, List.length_cons, List.length_nil, Nat.reduceAdd, Nat.reduceSub, Array.replicate_succ, Array.replicate_zero, List.push_toArray, List.append_toArray, List.nil_append, List.cons_append]
  gi_wp2_with (gi_at_call 65; refine (faults_in _ _ g _ rfl).mono ?_; rintro e w' ⟨rfl, rfl⟩)
  have XB := (Boxed.new w 101 (.slice none 0 0)).alloc (.cells #[errAt g] 24)
  obtain ⟨W0, hW0⟩ : ∃ W0, (w.alloc (.cells #[.slice none 0 0] 101)).alloc (.cells #[errAt g] 24) = W0 := ⟨_, rfl⟩
  have XE : W0.cell? ⟨w.heap.size + 1, 0, none⟩ = some (errAt g) := by
    have h := (Boxed.new (w.alloc (.cells #[.slice none 0 0] 101)) 24 (errAt g)).cell
    rw [World.size_alloc, hW0] at h; exact h
  have hB0 : Below w.heap.size w W0 := by rw [← hW0]; exact ((Below.refl _ w).alloc (Nat.le_refl _) _).alloc (by simp) _
  have hsz : W0.heap.size = w.heap.size + 2 := by rw [← hW0]; simp
  rw [hW0] at XB ⊢
  clear hW0
  refine wpIn_rangeFunc_ownH rfl (by omega) (gf := 116) (lb := #[.pointer (some ⟨w.heap.size + 1, 0, none⟩)]) rfl trivial (enters_of Tryz.func116 (by kernel_rfl) rfl)
    (faults_stops (8 - 1) (by omega) (w.heap.size + 1) g f W0 XE (he.below hB0)) (fun _ _ => trivial) (fun _ _ _ _ _ _ _ _ => trivial) (Below.refl _ _) (fun _ => rfl)
    (fun pre W => AllI w.heap.size pre W ∧ Below w.heap.size w W)
    (fun c pre W => False)
    (OwnFrom.and (Own.from (allI_own _) _) (ownFrom_below (Nat.le_refl _) (by omega)))
    (fun c _ _ _ _ h _ _ => h)
    ⟨⟨_, XB, .inl ⟨rfl, rfl⟩⟩, hB0⟩
    (fun x a' W => ∃ Bx, w.heap.size + 1 ≤ Bx ∧ W.heap[Bx]? = some (.cells #[.bool false, .int .i64 0, .slice none 0 0] 129 (0, 0)) ∧ a' = { tmps := #[.iface 127 (.pointer (some ⟨g, 0, none⟩)), undef, .slice none 0 0, .pointer (some ⟨w.heap.size, 0, none⟩), .pointer (some ⟨g, 0, none⟩), .pointer (some ⟨Bx, 0, none⟩), .iface 127 (.pointer (some ⟨g, 0, none⟩)), .bool false, .iface 127 (.pointer (some ⟨g, 0, none⟩)), .func (.func 116) #[] #[.pointer (some ⟨w.heap.size + 1, 0, none⟩)], .pointer (some ⟨g, 0, none⟩), .agg #[.bool false, .int .i64 0, .slice none 0 0], undef, undef, undef, undef, undef, undef, undef, undef, undef, undef, undef, undef, undef, undef, undef], defers := [] })
    (fun x a' _ X Y row hs hg hr => by
      obtain ⟨Bx, h1, h2, h3⟩ := hs
      refine ⟨Bx, h1, (hg.block Bx (Array.getElem?_eq_some_iff.1 h2).1 (fun e => ?_)).trans h2, h3⟩
      obtain ⟨_, o, ho, hc⟩ := hr Bx e.symm
      rw [h2] at ho; cases ho; cases hc)
    ?assign ?body ?done ?stop
  case assign =>
    rintro l pre x W K ⟨⟨v, hb, hv⟩, hB⟩ hK
    unfold noWay
    gi_wp2
    exact hK _ _ ((KeepsOthers.alloc _ _).from _) trivial ⟨⟨v, hb.alloc _, hv⟩, hB.alloc hB.size _⟩ ⟨W.heap.size, hb.lt, World.alloc_heap_new W _, rfl⟩
  case body =>
    rintro l pre x a' W hl ⟨r, hr⟩ ⟨⟨v, hb, hv⟩, hB⟩ ⟨Bx, hBx, bC, rfl⟩ hlt
    obtain ⟨rfl, rfl⟩ : pre = [] ∧ v = .slice none 0 0 := by
      rcases hv with h | ⟨rfl, _⟩
      · exact h
      · simp at hlt
    have heW := he.below hB
    have cT := hb.cell
    have c0 : W.cell? ⟨Bx, 0, none⟩ = some (.bool false) := by simp [World.cell?, bC]
    have c1 : W.cell? ⟨Bx, 1, none⟩ = some (.int .i64 0) := by simp [World.cell?, bC]
    have c2 : W.cell? ⟨Bx, 2, none⟩ = some (.slice none 0 0) := by simp [World.cell?, bC]
    have TP := Lib.hid (told_pro f g W.drew heW)
    unfold noWay at TP
    gi_wp2
    refine region_inRound (by kernel_rfl) (by kernel_rfl) ?_
    obtain ⟨i0, hi0, hz0, hz1, hz2⟩ := info_parts infoF
    have HI := Lib.hid hi0
    have ST : ∀ w', Below W.heap.size W w' → (fun w' => w'.cell? ⟨Bx, 0, none⟩ = some (.bool false) ∧ w'.cell? ⟨Bx, 1, none⟩ = some (.int .i64 0) ∧ w'.cell? ⟨Bx, 2, none⟩ = some (.slice none 0 0)) w' := fun w' h => ⟨(h.cell (p := ⟨Bx, 0, none⟩) (Array.getElem?_eq_some_iff.1 bC).1).trans c0, (h.cell (p := ⟨Bx, 1, none⟩) (Array.getElem?_eq_some_iff.1 bC).1).trans c1, (h.cell (p := ⟨Bx, 2, none⟩) (Array.getElem?_eq_some_iff.1 bC).1).trans c2⟩
    have SH := Lib.hid ST
    have HB := Lib.hid hb
    have HBel := Lib.hid hB
    have bD : Below W.heap.size W W.drew := (Below.refl _ W).drew
    refine wpAny_of_held (S := (fun w' => w'.cell? ⟨Bx, 0, none⟩ = some (.bool false) ∧ w'.cell? ⟨Bx, 1, none⟩ = some (.int .i64 0) ∧ w'.cell? ⟨Bx, 2, none⟩ = some (.slice none 0 0))) _ _ _ _ ?_
    have hS := ST W.drew bD
    clear ST
    refine wpAnyH_take (i := 1) (v := .agg #[.bool false, .int .i64 0, .slice none 0 0]) rfl (by kernel_rfl) (by kernel_rfl) (by kernel_rfl) (fun _ _ _ h => h) (.inl ⟨by rfl, fun w' hS => by obtain ⟨h1, h2, h3⟩ := hS; go_simp⟩) hS ?_
    refine wpAnyH_take (i := 2) (v := .pointer (some ⟨g, 0, none⟩)) rfl (by kernel_rfl) (by kernel_rfl) (by kernel_rfl) (fun _ _ _ h => h) (.inl ⟨by rfl, fun w' hS => by obtain ⟨h1, h2, h3⟩ := hS; go_simp⟩) hS ?_
    clear hS c0 c1 c2
    refine wpAnyH_all (rs := [0, 3]) (by kernel_rfl) (by simp) ?_
    intro i hi
    rcases (by simpa using hi : i = 0 ∨ i = 3) with rfl | rfl
    · refine op_via rfl (by rfl) (fun K hK => ?_)
      have cL := (bD.cell (p := ⟨w.heap.size, 0, none⟩) HB.out.lt).trans cT
      go_simp
      refine hK _ _ ⟨SH.out _ bD, ?_⟩
      clear hK K cL
      refine wpAnyH_all (rs := [3]) (by kernel_rfl) (by simp) ?_
      intro i hi
      obtain rfl : i = 3 := by simpa using hi
      refine op_via rfl (by rfl) (fun K hK => ?_)
      go_simp
      go_at_call 66
      refine TP.out.mono ?_
      rintro e w5 ⟨rfl, hb5⟩
      simp only [Flt.val]
      have hb6 : Below W.heap.size W w5 := bD.trans (show Below W.heap.size W.drew w5 from hb5)
      refine hK _ _ ⟨SH.out w5 hb6, ?_⟩
      clear hK K hb5
      refine wpAnyH_all (rs := [4]) (by kernel_rfl) (by simp) ?_
      intro i hi
      obtain rfl : i = 4 := by simpa using hi
      refine op_via rfl (by rfl) (fun K hK => ?_)
      go_simp
      have hb7 := hb6.alloc hb6.size (.cells #[.int .i64 f.code, .int .i64 f.source, .int .i64 f.line, .int .i64 f.col, .string f.word, .slice none 0 0] 55)
      refine hK _ _ ⟨SH.out _ hb7, ?_⟩
      clear hK K
      refine wpAnyH_all (rs := [5]) (by kernel_rfl) (by simp) ?_
      intro i hi
      obtain rfl : i = 5 := by simpa using hi
      refine op_via rfl (by rfl) (fun K hK => ?_)
      refine wp_append_lies _ (.tmp 12) (.tmp 16) 101 rfl w.heap.size 55 i0 _ 6 72 Tryz.underlying101 HI.out hz0 hz1 hz2 rfl (by decide) (.slice none 0 0) 0 [] (by simp [Act.eval]) (World.ownsRow_nil _ _ _ _) ⟨w5.heap.size, 0, none⟩ 1 1 [.int .i64 f.code, .int .i64 f.source, .int .i64 f.line, .int .i64 f.col, .string f.word, .slice none 0 0] (by simp [Act.eval]) rfl (fun j u hu => cells_lie w5 #[.int .i64 f.code, .int .i64 f.source, .int .i64 f.line, .int .i64 f.col, .string f.word, .slice none 0 0] _ j u hu) (by intro u hu; simp only [List.mem_cons, List.mem_nil_iff, or_false] at hu; rcases hu with rfl | rfl | rfl | rfl | rfl | rfl <;> rfl) (by decide) (by decide) (by decide) (Nat.le_trans HBel.out.size hb7.size) _ rfl ?_
      intro b cap w6 _ hgrow _ _
      have hb8 : Below W.heap.size W w6 := hb7.grown hgrow hb7.size (fun j h => by cases h)
      refine hK _ _ ⟨SH.out _ hb8, ?_⟩
      clear hK K
      refine wpAnyH_all (rs := [6]) (by kernel_rfl) (by simp) ?_
      intro i hi
      obtain rfl : i = 6 := by simpa using hi
      have cL := (hb8.cell (p := ⟨w.heap.size, 0, none⟩) HB.out.lt).trans cT
      have fL := (hb8.frozen (p := ⟨w.heap.size, 0, none⟩) HB.out.lt).trans HB.out.frozen
      refine op_via rfl (by rfl) (fun K hK => ?_)
      go_simp
      obtain ⟨s1, s2, s3⟩ := SH.out _ hb8
      refine hK _ _ ⟨⟨(cell_away _ (by omega) _).trans s1, (cell_away _ (by omega) _).trans s2, (cell_away _ (by omega) _).trans s3⟩, ?_⟩
      clear hK K
      refine wpAnyH_done (by kernel_rfl) ?_ _
      simp only [Just]
      have KF : KeepsFrom W0.heap.size W w6 := ⟨hb8.size, fun k o _ hk _ => (hb8.block k (Array.getElem?_eq_some_iff.1 hk).1).trans hk⟩
      have bx8 : Boxed w6 w.heap.size 101 (.slice none 0 0) := (hb8.block w.heap.size HB.out.lt).trans HB.out
      rw [hsz] at KF
      gi_wp2
      exact ⟨KF.trans ((KeepsOthers.setCell _ _ _).from _), trivial, ⟨_, Boxed.set _ bx8, .inr ⟨rfl, b, cap, rfl⟩⟩, (HBel.out.trans (hb8.mono HBel.out.size)).setCell (p := ⟨w.heap.size, 0, none⟩) (Nat.le_refl _) _⟩
    · refine op_via rfl (by rfl) (fun K hK => ?_)
      go_simp
      go_at_call 66
      refine TP.out.mono ?_
      rintro e w5 ⟨rfl, hb5⟩
      simp only [Flt.val]
      have hb6 : Below W.heap.size W w5 := bD.trans (show Below W.heap.size W.drew w5 from hb5)
      refine hK _ _ ⟨SH.out w5 hb6, ?_⟩
      clear hK K hb5
      refine wpAnyH_all (rs := [0, 4]) (by kernel_rfl) (by simp) ?_
      intro i hi
      rcases (by simpa using hi : i = 0 ∨ i = 4) with rfl | rfl
      · refine op_via rfl (by rfl) (fun K hK => ?_)
        have cL := (hb6.cell (p := ⟨w.heap.size, 0, none⟩) HB.out.lt).trans cT
        go_simp
        refine hK _ _ ⟨SH.out _ hb6, ?_⟩
        clear hK K cL
        refine wpAnyH_all (rs := [4]) (by kernel_rfl) (by simp) ?_
        intro i hi
        obtain rfl : i = 4 := by simpa using hi
        refine op_via rfl (by rfl) (fun K hK => ?_)
        go_simp
        have hb7 := hb6.alloc hb6.size (.cells #[.int .i64 f.code, .int .i64 f.source, .int .i64 f.line, .int .i64 f.col, .string f.word, .slice none 0 0] 55)
        refine hK _ _ ⟨SH.out _ hb7, ?_⟩
        clear hK K
        refine wpAnyH_all (rs := [5]) (by kernel_rfl) (by simp) ?_
        intro i hi
        obtain rfl : i = 5 := by simpa using hi
        refine op_via rfl (by rfl) (fun K hK => ?_)
        refine wp_append_lies _ (.tmp 12) (.tmp 16) 101 rfl w.heap.size 55 i0 _ 6 72 Tryz.underlying101 HI.out hz0 hz1 hz2 rfl (by decide) (.slice none 0 0) 0 [] (by simp [Act.eval]) (World.ownsRow_nil _ _ _ _) ⟨w5.heap.size, 0, none⟩ 1 1 [.int .i64 f.code, .int .i64 f.source, .int .i64 f.line, .int .i64 f.col, .string f.word, .slice none 0 0] (by simp [Act.eval]) rfl (fun j u hu => cells_lie w5 #[.int .i64 f.code, .int .i64 f.source, .int .i64 f.line, .int .i64 f.col, .string f.word, .slice none 0 0] _ j u hu) (by intro u hu; simp only [List.mem_cons, List.mem_nil_iff, or_false] at hu; rcases hu with rfl | rfl | rfl | rfl | rfl | rfl <;> rfl) (by decide) (by decide) (by decide) (Nat.le_trans HBel.out.size hb7.size) _ rfl ?_
        intro b cap w6 _ hgrow _ _
        have hb8 : Below W.heap.size W w6 := hb7.grown hgrow hb7.size (fun j h => by cases h)
        refine hK _ _ ⟨SH.out _ hb8, ?_⟩
        clear hK K
        refine wpAnyH_all (rs := [6]) (by kernel_rfl) (by simp) ?_
        intro i hi
        obtain rfl : i = 6 := by simpa using hi
        have cL := (hb8.cell (p := ⟨w.heap.size, 0, none⟩) HB.out.lt).trans cT
        have fL := (hb8.frozen (p := ⟨w.heap.size, 0, none⟩) HB.out.lt).trans HB.out.frozen
        refine op_via rfl (by rfl) (fun K hK => ?_)
        go_simp
        obtain ⟨s1, s2, s3⟩ := SH.out _ hb8
        refine hK _ _ ⟨⟨(cell_away _ (by omega) _).trans s1, (cell_away _ (by omega) _).trans s2, (cell_away _ (by omega) _).trans s3⟩, ?_⟩
        clear hK K
        refine wpAnyH_done (by kernel_rfl) ?_ _
        simp only [Just]
        have KF : KeepsFrom W0.heap.size W w6 := ⟨hb8.size, fun k o _ hk _ => (hb8.block k (Array.getElem?_eq_some_iff.1 hk).1).trans hk⟩
        have bx8 : Boxed w6 w.heap.size 101 (.slice none 0 0) := (hb8.block w.heap.size HB.out.lt).trans HB.out
        rw [hsz] at KF
        gi_wp2
        exact ⟨KF.trans ((KeepsOthers.setCell _ _ _).from _), trivial, ⟨_, Boxed.set _ bx8, .inr ⟨rfl, b, cap, rfl⟩⟩, (HBel.out.trans (hb8.mono HBel.out.size)).setCell (p := ⟨w.heap.size, 0, none⟩) (Nat.le_refl _) _⟩
      · refine op_via rfl (by rfl) (fun K hK => ?_)
        go_simp
        have hb7 := hb6.alloc hb6.size (.cells #[.int .i64 f.code, .int .i64 f.source, .int .i64 f.line, .int .i64 f.col, .string f.word, .slice none 0 0] 55)
        refine hK _ _ ⟨SH.out _ hb7, ?_⟩
        clear hK K
        refine wpAnyH_all (rs := [0]) (by kernel_rfl) (by simp) ?_
        intro i hi
        obtain rfl : i = 0 := by simpa using hi
        refine op_via rfl (by rfl) (fun K hK => ?_)
        have cL := (hb7.cell (p := ⟨w.heap.size, 0, none⟩) HB.out.lt).trans cT
        go_simp
        refine hK _ _ ⟨SH.out _ hb7, ?_⟩
        clear hK K cL
        refine wpAnyH_all (rs := [5]) (by kernel_rfl) (by simp) ?_
        intro i hi
        obtain rfl : i = 5 := by simpa using hi
        refine op_via rfl (by rfl) (fun K hK => ?_)
        refine wp_append_lies _ (.tmp 12) (.tmp 16) 101 rfl w.heap.size 55 i0 _ 6 72 Tryz.underlying101 HI.out hz0 hz1 hz2 rfl (by decide) (.slice none 0 0) 0 [] (by simp [Act.eval]) (World.ownsRow_nil _ _ _ _) ⟨w5.heap.size, 0, none⟩ 1 1 [.int .i64 f.code, .int .i64 f.source, .int .i64 f.line, .int .i64 f.col, .string f.word, .slice none 0 0] (by simp [Act.eval]) rfl (fun j u hu => cells_lie w5 #[.int .i64 f.code, .int .i64 f.source, .int .i64 f.line, .int .i64 f.col, .string f.word, .slice none 0 0] _ j u hu) (by intro u hu; simp only [List.mem_cons, List.mem_nil_iff, or_false] at hu; rcases hu with rfl | rfl | rfl | rfl | rfl | rfl <;> rfl) (by decide) (by decide) (by decide) (Nat.le_trans HBel.out.size hb7.size) _ rfl ?_
        intro b cap w6 _ hgrow _ _
        have hb8 : Below W.heap.size W w6 := hb7.grown hgrow hb7.size (fun j h => by cases h)
        refine hK _ _ ⟨SH.out _ hb8, ?_⟩
        clear hK K
        refine wpAnyH_all (rs := [6]) (by kernel_rfl) (by simp) ?_
        intro i hi
        obtain rfl : i = 6 := by simpa using hi
        have cL := (hb8.cell (p := ⟨w.heap.size, 0, none⟩) HB.out.lt).trans cT
        have fL := (hb8.frozen (p := ⟨w.heap.size, 0, none⟩) HB.out.lt).trans HB.out.frozen
        refine op_via rfl (by rfl) (fun K hK => ?_)
        go_simp
        obtain ⟨s1, s2, s3⟩ := SH.out _ hb8
        refine hK _ _ ⟨⟨(cell_away _ (by omega) _).trans s1, (cell_away _ (by omega) _).trans s2, (cell_away _ (by omega) _).trans s3⟩, ?_⟩
        clear hK K
        refine wpAnyH_done (by kernel_rfl) ?_ _
        simp only [Just]
        have KF : KeepsFrom W0.heap.size W w6 := ⟨hb8.size, fun k o _ hk _ => (hb8.block k (Array.getElem?_eq_some_iff.1 hk).1).trans hk⟩
        have bx8 : Boxed w6 w.heap.size 101 (.slice none 0 0) := (hb8.block w.heap.size HB.out.lt).trans HB.out
        rw [hsz] at KF
        gi_wp2
        exact ⟨KF.trans ((KeepsOthers.setCell _ _ _).from _), trivial, ⟨_, Boxed.set _ bx8, .inr ⟨rfl, b, cap, rfl⟩⟩, (HBel.out.trans (hb8.mono HBel.out.size)).setCell (p := ⟨w.heap.size, 0, none⟩) (Nat.le_refl _) _⟩
  case done =>
    rintro D xs W hD rfl ⟨⟨v, hb, hv⟩, hB⟩ hK
    obtain ⟨b, cap, rfl⟩ : ∃ b cap, v = .slice (some ⟨b, 0, none⟩) 1 cap := by
      rcases hv with ⟨h, _⟩ | ⟨_, h⟩
      · cases h
      · exact h
    have cT := hb.cell
    gi_wp2
    refine ⟨by simp, .inl ⟨_, _, rfl, run_takeDeferred hK, ?_⟩⟩
    exact ⟨_, results_tmp rfl _ _ _, ⟨b, cap, rfl⟩, hB.trans (belowK_b (w := w) (Nat.le_refl _) W D _ _ (by omega) hK rfl rfl)⟩
  case stop =>
    rintro D c pre W hD hS h hK
    exact h.elim
theorem allof_pro (g : Nat) (f : Flt) (w : World) (he : Erd w g f) :
    Calls Tryz.prog 51 #[errAt g] w fun e W' => (∃ b cap, e = .returned (.slice (some ⟨b, 0, none⟩) 1 cap)) ∧ Below w.heap.size w W' :=
  callsIn_wide.1 (allof_in g f w he)
end Go.Proofs.YtmceiehnfmgioaaGreatDoor
