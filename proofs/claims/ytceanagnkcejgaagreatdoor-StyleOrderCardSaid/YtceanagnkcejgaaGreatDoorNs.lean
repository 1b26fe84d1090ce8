/- The program's Whole. -/
import Derived.Test.YtceanagnkcejgaaGreatDoorWh
namespace Go.Proofs.YtceanagnkcejgaaGreatDoor
open Go.RowKit
set_option linter.unusedVariables false

theorem whole_pro (l : List Sty) (i : Nat) (v : Value) (w : World) (h : Sh w v l) (hi : i < l.length) (p : List Nat) (hp : path l 8 i = some p) :
    Calls Tryz.prog 35 #[v, .int .i64 i] w (Says (chgVal (wholeP l p)) w) := callsIn_wide.1 (whole_in l i v w h hi p hp)
/-- Behind a store into a box of three cells, of two. -/
theorem set3 {w1 : World} {b : Nat} {u0 u1 u2 : Value} {t : TypeId} (hx : w1.heap[b]? = some (.cells #[u0, u1, u2] t (0, 0))) (a0 a1 a2 : Value) :
    ∃ W, ((w1.setCell ⟨b, 0, none⟩ a0).setCell ⟨b, 1, none⟩ a1).setCell ⟨b, 2, none⟩ a2 = W ∧ W.heap[b]? = some (.cells #[a0, a1, a2] t (0, 0)) ∧ W.cell? ⟨b, 0, none⟩ = some a0 ∧ W.cell? ⟨b, 1, none⟩ = some a1 ∧ W.cell? ⟨b, 2, none⟩ = some a2 ∧ Below b w1 W := by
  have h3 := heap_setCell_same _ b 2 _ _ a2 (heap_setCell_same _ b 1 _ _ a1 (heap_setCell_same w1 b 0 _ _ a0 hx))
  exact ⟨_, rfl, h3, (cell_of_row _ _ 0 _ _ _ h3).trans rfl, (cell_of_row _ _ 1 _ _ _ h3).trans rfl, (cell_of_row _ _ 2 _ _ _ h3).trans rfl,
    (((Below.refl b w1).setCell (p := ⟨b, 0, none⟩) (Nat.le_refl _) _).setCell (p := ⟨b, 1, none⟩) (Nat.le_refl _) _).setCell (p := ⟨b, 2, none⟩) (Nat.le_refl _) _⟩
theorem set2 {w1 : World} {b : Nat} {u0 u1 : Value} {t : TypeId} (hx : w1.heap[b]? = some (.cells #[u0, u1] t (0, 0))) (a0 a1 : Value) :
    ∃ W, (w1.setCell ⟨b, 0, none⟩ a0).setCell ⟨b, 1, none⟩ a1 = W ∧ W.heap[b]? = some (.cells #[a0, a1] t (0, 0)) ∧ W.cell? ⟨b, 0, none⟩ = some a0 ∧ W.cell? ⟨b, 1, none⟩ = some a1 ∧ Below b w1 W := by
  have h3 := heap_setCell_same _ b 1 _ _ a1 (heap_setCell_same w1 b 0 _ _ a0 hx)
  exact ⟨_, rfl, h3, (cell_of_row _ _ 0 _ _ _ h3).trans rfl, (cell_of_row _ _ 1 _ _ _ h3).trans rfl,
    ((Below.refl b w1).setCell (p := ⟨b, 0, none⟩) (Nat.le_refl _) _).setCell (p := ⟨b, 1, none⟩) (Nat.le_refl _) _⟩
def chgE (p : Chg × Nat) : Value := .tuple #[chgVal p.1, .int .i64 p.2]
theorem wholeM_bad {l : List Sty} {x : List UInt8} (h : ¬ (checkM l).2 = 0) : wholeM l x = (zeroC, (checkM l).2) := by unfold wholeM; rw [if_pos h]
theorem wholeM_no {l : List Sty} {x : List UInt8} (h : (checkM l).2 = 0) (h2 : fnd l x = none) : wholeM l x = (zeroC, 66) := by unfold wholeM; rw [if_neg (by simpa using h), h2]
theorem wholeM_ok {l : List Sty} {x : List UInt8} {i : Nat} {p : List Nat} (h : (checkM l).2 = 0) (h2 : fnd l x = some i) (hp : path l 8 i = some p) : wholeM l x = (wholeP l p, 0) := by
  unfold wholeM; rw [if_neg (by simpa using h), h2]; simp [wholeI, hp]

set_option maxRecDepth 100000 in
set_option maxHeartbeats 4000000 in
theorem Whole_pro (l : List Sty) (x : List UInt8) (v : Value) (w : World) (h : Sh w v l) (hf : Fit l) :
    Calls Tryz.prog 18 #[v, .string (bs x)] w (Says (chgE (wholeM l x)) w) := by
  obtain ⟨pa, cap, rfl, hc1, hc2⟩ := h.form
  have hA := (Below.refl _ w).alloc (Nat.le_refl _) (.cells #[.int .i64 0, .int .i64 0, .int .i64 0] 27)
  have HS := Lib.hid h
  have HFt := Lib.hid hf
  have HA := Lib.hid hA
  have HX := Lib.hid (heap_alloc_new w (.cells #[.int .i64 0, .int .i64 0, .int .i64 0] 27))
  have HC := Lib.hid (check_pro' l _ _ (h.below hA) hf)
  obtain ⟨⟨at', ec⟩, hc⟩ : ∃ c, checkM l = c := ⟨_, rfl⟩
  have hbad := @wholeM_bad l x
  have hno := @wholeM_no l x
  have hok := @wholeM_ok l x
  have hgood := @checkM_good l
  rw [hc] at HC hbad hno hok hgood
  unfold ckV at HC
  dsimp only at HC hbad hno hok hgood
  clear h hf hA hc
  by_cases he : ec = 0
  · subst he
    have G := Lib.hid (hgood.1 rfl)
    have hno' := hno rfl
    have hok' := fun i p => hok (i := i) (p := p) rfl
    clear hbad hgood hno hok
    obtain ⟨o, ho⟩ : ∃ o, fnd l x = o := ⟨_, rfl⟩
    rw [ho] at hno' hok'
    rcases Option.eq_none_or_eq_some o with e | ⟨j, e⟩
    · have HV := Lib.hid (hno' e)
      have to : o.isSome = false := by rw [e]; rfl
      have HO := Lib.hid ho
      clear hno' hok' e ho
      go_enter Tryz.func18, Tryz.ntmps18
      go_wp2_with fail
      refine HC.out.mono ?_
      rintro e w1 ⟨rfl, hb⟩
      have HB := Lib.hid (HA.out.trans (hb.mono HA.out.size))
      have hx := (hb.block w.heap.size (Array.getElem?_eq_some_iff.1 HX.out).1).trans HX.out
      have HX1 := Lib.hid hx
      have z0 := frozen_of_row w1 w.heap.size 0 _ _ hx
      have z1 := frozen_of_row w1 w.heap.size 1 _ _ hx
      have z2 := frozen_of_row w1 w.heap.size 2 _ _ hx
      have c0 : w1.cell? ⟨w.heap.size, 0, none⟩ = some (.int .i64 0) := by rw [cell_of_row _ _ _ _ _ _ hx]; rfl
      have c1 : w1.cell? ⟨w.heap.size, 1, none⟩ = some (.int .i64 0) := by rw [cell_of_row _ _ _ _ _ _ hx]; rfl
      have c2 : w1.cell? ⟨w.heap.size, 2, none⟩ = some (.int .i64 0) := by rw [cell_of_row _ _ _ _ _ _ hx]; rfl
      clear hb hx
      go_wp2_with fail
      refine (find_pro l x _ w1 (HS.out.below HB.out)).mono ?_
      rw [HO.out]
      unfold fndV
      rintro e w2 ⟨rfl, rfl⟩
      go_wp2_with fail
      obtain ⟨W, hW, hr, k0, k1, k2, hbW⟩ := set3 HX1.out (.int .i64 (zeroC).on) (.int .i64 (zeroC).off) (.int .i64 (zeroC).col)
      simp only [zeroC] at hW
      rw [hW]
      simp only [zeroC] at k0 k1 k2
      rw [HV.out]
      exact bodyPost_ret (v := chgE (zeroC, 66)) (by simp [results, Tryz.results18, go_sem, k0, k1, k2, chgE, chgVal, zeroC]) rfl ⟨rfl, HB.out.trans hbW⟩
    · have HJ := Lib.hid (fnd_some (ho.trans e)).1
      obtain ⟨p, hp⟩ := G.out.path HJ.out
      have HP := Lib.hid hp
      have HV := Lib.hid (hok' j p e hp)
      have to : o.isSome = true := by rw [e]; rfl
      have HG := Lib.hid (show o.getD 0 = j by rw [e]; rfl)
      have HO := Lib.hid ho
      clear hno' hok' e ho hp
      go_enter Tryz.func18, Tryz.ntmps18
      go_wp2_with fail
      refine HC.out.mono ?_
      rintro e w1 ⟨rfl, hb⟩
      have HB := Lib.hid (HA.out.trans (hb.mono HA.out.size))
      have hx := (hb.block w.heap.size (Array.getElem?_eq_some_iff.1 HX.out).1).trans HX.out
      clear hb
      have HXq := Lib.hid hx
      clear hx
      go_wp2_with fail
      refine (find_pro l x _ w1 (HS.out.below HB.out)).mono ?_
      rw [HO.out]
      unfold fndV
      rintro e w2 ⟨rfl, rfl⟩
      go_wp2_with fail
      rw [HG.out]
      refine (whole_pro l j _ w1 (HS.out.below HB.out) HJ.out p HP.out).mono ?_
      rintro e w2 ⟨rfl, hb⟩
      have HB2 := Lib.hid (HB.out.trans (hb.mono HB.out.size))
      have hx := (hb.block w.heap.size (Array.getElem?_eq_some_iff.1 HXq.out).1).trans HXq.out
      have HX1 := Lib.hid hx
      have z0 := frozen_of_row w2 w.heap.size 0 _ _ hx
      have z1 := frozen_of_row w2 w.heap.size 1 _ _ hx
      have z2 := frozen_of_row w2 w.heap.size 2 _ _ hx
      have c0 : w2.cell? ⟨w.heap.size, 0, none⟩ = some (.int .i64 0) := by rw [cell_of_row _ _ _ _ _ _ hx]; rfl
      have c1 : w2.cell? ⟨w.heap.size, 1, none⟩ = some (.int .i64 0) := by rw [cell_of_row _ _ _ _ _ _ hx]; rfl
      have c2 : w2.cell? ⟨w.heap.size, 2, none⟩ = some (.int .i64 0) := by rw [cell_of_row _ _ _ _ _ _ hx]; rfl
      clear hb hx
      unfold chgVal
      go_wp2_with fail
      obtain ⟨W, hW, hr, k0, k1, k2, hbW⟩ := set3 HX1.out (.int .i64 (wholeP l p).on) (.int .i64 (wholeP l p).off) (.int .i64 (wholeP l p).col)
      rw [hW]
      rw [HV.out]
      exact bodyPost_ret (v := chgE (wholeP l p, 0)) (by simp [results, Tryz.results18, go_sem, k0, k1, k2, chgE, chgVal]) rfl ⟨rfl, HB2.out.trans hbW⟩
  · have HV := Lib.hid (hbad he)
    have t := natne he
    clear hbad hno hok hgood he
    go_enter Tryz.func18, Tryz.ntmps18
    go_wp2_with fail
    refine HC.out.mono ?_
    rintro e w1 ⟨rfl, hb⟩
    have HB := Lib.hid (HA.out.trans (hb.mono HA.out.size))
    have hx := (hb.block w.heap.size (Array.getElem?_eq_some_iff.1 HX.out).1).trans HX.out
    have HX1 := Lib.hid hx
    have z0 := frozen_of_row w1 w.heap.size 0 _ _ hx
    have z1 := frozen_of_row w1 w.heap.size 1 _ _ hx
    have z2 := frozen_of_row w1 w.heap.size 2 _ _ hx
    have c0 : w1.cell? ⟨w.heap.size, 0, none⟩ = some (.int .i64 0) := by rw [cell_of_row _ _ _ _ _ _ hx]; rfl
    have c1 : w1.cell? ⟨w.heap.size, 1, none⟩ = some (.int .i64 0) := by rw [cell_of_row _ _ _ _ _ _ hx]; rfl
    have c2 : w1.cell? ⟨w.heap.size, 2, none⟩ = some (.int .i64 0) := by rw [cell_of_row _ _ _ _ _ _ hx]; rfl
    clear hb hx
    go_wp2_with fail
    obtain ⟨W, hW, hr, k0, k1, k2, hbW⟩ := set3 HX1.out (.int .i64 (zeroC).on) (.int .i64 (zeroC).off) (.int .i64 (zeroC).col)
    simp only [zeroC] at hW
    rw [hW]
    simp only [zeroC] at k0 k1 k2
    rw [HV.out]
    exact bodyPost_ret (v := chgE (zeroC, ec)) (by simp [results, Tryz.results18, go_sem, k0, k1, k2, chgE, chgVal, zeroC]) rfl ⟨rfl, HB.out.trans hbW⟩
end Go.Proofs.YtceanagnkcejgaaGreatDoor
