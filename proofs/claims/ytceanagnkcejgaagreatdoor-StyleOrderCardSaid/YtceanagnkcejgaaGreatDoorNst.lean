/- The program's Nest. -/
import Derived.Test.YtceanagnkcejgaaGreatDoorNs
import Derived.Deep.RegionHeld3
import Derived.Deep.RegionLaw
namespace Go.Proofs.YtceanagnkcejgaaGreatDoor
open Go.RowKit
set_option linter.unusedVariables false

/-- A list of texts in memory. -/
def RdS (w : World) (v : Value) (xs : List (List UInt8)) : Prop :=
  ∃ (pa : Option Addr) (cap : Nat), v = .slice pa xs.length cap ∧ xs.length ≤ cap ∧ cap ≤ maxLen ∧ ∀ j (hj : j < xs.length), ∃ b off, pa = some ⟨b, off, none⟩ ∧ w.cell? ⟨b, off + j, none⟩ = some (.string (bs xs[j]))
theorem RdS.below {w w' : World} {v : Value} {xs : List (List UInt8)} (h : RdS w v xs) (hb : Below w.heap.size w w') : RdS w' v xs := by
  obtain ⟨pa, cap, e, h1, h2, h4⟩ := h
  refine ⟨pa, cap, e, h1, h2, fun j hj => ?_⟩
  obtain ⟨b, off, e, hc⟩ := h4 j hj
  exact ⟨b, off, e, (hb.cell (p := ⟨b, off + j, none⟩) (cell_in hc)).trans hc⟩
theorem RdS.form {w : World} {v : Value} {xs : List (List UInt8)} (h : RdS w v xs) : ∃ (pa : Option Addr) (cap : Nat), v = .slice pa xs.length cap ∧ xs.length ≤ cap ∧ cap ≤ maxLen := by
  obtain ⟨pa, cap, e, h1, h2, _⟩ := h
  exact ⟨pa, cap, e, h1, h2⟩
theorem RdS.cell {w : World} {pa : Option Addr} {n cap : Nat} {xs : List (List UInt8)} (h : RdS w (.slice pa n cap) xs) {j : Nat} (hj : j < xs.length) : ∃ b off, pa = some ⟨b, off, none⟩ ∧ w.cell? ⟨b, off + j, none⟩ = some (.string (bs xs[j])) := by
  obtain ⟨pa', cap', e, _, _, h4⟩ := h
  cases e
  exact h4 j hj
def lkE (p : Lk × Nat × Nat) : Value := .tuple #[lkVal p.1, .int .i64 p.2.1, .int .i64 p.2.2]
theorem nestM_bad {l : List Sty} {xs : List (List UInt8)} (h : ¬ (checkM l).2 = 0) : nestM l xs = (zeroL, 0, (checkM l).2) := by unfold nestM; rw [if_pos h]
theorem nestM_long {l : List Sty} {xs : List (List UInt8)} (h : (checkM l).2 = 0) (h2 : 32 < xs.length) : nestM l xs = (zeroL, 0, 2) := by unfold nestM; rw [if_neg (by simpa using h), if_pos h2]
theorem nestM_run {l : List Sty} {xs : List (List UInt8)} (h : (checkM l).2 = 0) (h2 : ¬ 32 < xs.length) : nestM l xs = nestL l xs 0 plain0 := by unfold nestM; rw [if_neg (by simpa using h), if_neg h2]
theorem nest_step {l : List Sty} {xs : List (List UInt8)} {k : Nat} (hk : k < xs.length) (c : Lk) : nestL l (xs.drop k) k c = (match fnd l xs[k] with
    | none => (zeroL, k, 66)
    | some j => nestL l (xs.drop (k + 1)) (k + 1) (applyL c (wholeI l j))) := by
  rw [List.drop_eq_getElem_cons hk]; rfl
theorem nest_end {l : List Sty} {xs : List (List UInt8)} {k : Nat} (hk : xs.length ≤ k) (c : Lk) : nestL l (xs.drop k) k c = (c, 0, 0) := by
  rw [List.drop_eq_nil_of_le hk]; rfl
def lkCells (c : Lk) : Array Value := #[.int .i64 c.att, .int .i64 c.col]

set_option maxRecDepth 100000 in
set_option maxHeartbeats 8000000 in
theorem Nest_pro (l : List Sty) (xs : List (List UInt8)) (v u : Value) (w : World) (h : Sh w v l) (hf : Fit l) (hu : RdS w u xs) :
    Calls Tryz.prog 21 #[v, u] w (Says (lkE (nestM l xs)) w) := by
  obtain ⟨pa, cap, rfl, hc1, hc2⟩ := h.form
  obtain ⟨pu, cu, rfl, hd1, hd2⟩ := hu.form
  unfold maxLen at hd2
  have hA := (Below.refl _ w).alloc (Nat.le_refl _) (.cells #[.int .i64 0, .int .i64 0] 46)
  have HS := Lib.hid h
  have HU := Lib.hid hu
  have HFt := Lib.hid hf
  have HA := Lib.hid hA
  have HX := Lib.hid (heap_alloc_new w (.cells #[.int .i64 0, .int .i64 0] 46))
  have HC := Lib.hid (check_pro' l _ _ (h.below hA) hf)
  obtain ⟨⟨at', ec⟩, hc⟩ : ∃ c, checkM l = c := ⟨_, rfl⟩
  have hbad := @nestM_bad l xs
  have hlong := @nestM_long l xs
  have hrun := @nestM_run l xs
  have hgood := @checkM_good l
  rw [hc] at HC hbad hlong hrun hgood
  unfold ckV at HC
  dsimp only at HC hbad hlong hrun hgood
  clear h hf hA hc hu
  by_cases he : ec = 0
  · subst he
    have G := Lib.hid (hgood.1 rfl)
    by_cases h32 : 32 < xs.length
    · have HV := Lib.hid (hlong rfl h32)
      have h32' : (32 : Int) < xs.length := by omega
      clear hbad hlong hrun hgood h32
      go_enter Tryz.func21, Tryz.ntmps21
      go_wp2_with fail
      refine HC.out.mono ?_
      rintro e w1 ⟨rfl, hb⟩
      have HB := Lib.hid (HA.out.trans (hb.mono HA.out.size))
      have hx := (hb.block w.heap.size (Array.getElem?_eq_some_iff.1 HX.out).1).trans HX.out
      have HX1 := Lib.hid hx
      have z0 := frozen_of_row w1 w.heap.size 0 _ _ hx
      have z1 := frozen_of_row w1 w.heap.size 1 _ _ hx
      have c0 : w1.cell? ⟨w.heap.size, 0, none⟩ = some (.int .i64 0) := by rw [cell_of_row _ _ _ _ _ _ hx]; rfl
      have c1 : w1.cell? ⟨w.heap.size, 1, none⟩ = some (.int .i64 0) := by rw [cell_of_row _ _ _ _ _ _ hx]; rfl
      clear hb hx
      go_wp2_with fail
      obtain ⟨W, hW, hr, k0, k1, hbW⟩ := set2 HX1.out (.int .i64 zeroL.att) (.int .i64 zeroL.col)
      simp only [zeroL] at hW
      rw [hW]
      simp only [zeroL] at k0 k1
      rw [HV.out]
      exact bodyPost_ret (v := lkE (zeroL, 0, 2)) (by simp [results, Tryz.results21, go_sem, k0, k1, lkE, lkVal, zeroL]) rfl ⟨rfl, HB.out.trans hbW⟩
    · have HR := Lib.hid (hrun rfl h32)
      have h32' : ¬ (32 : Int) < xs.length := by omega
      clear hbad hlong hrun hgood
      have H32 := Lib.hid h32
      clear h32
      go_enter Tryz.func21, Tryz.ntmps21
      go_wp2_with fail
      refine HC.out.mono ?_
      rintro e w1 ⟨rfl, hb⟩
      have HB := Lib.hid (HA.out.trans (hb.mono HA.out.size))
      have hx := (hb.block w.heap.size (Array.getElem?_eq_some_iff.1 HX.out).1).trans HX.out
      have HX1 := Lib.hid hx
      obtain ⟨B, hB⟩ : ∃ B, w1.heap.size = B := ⟨_, rfl⟩
      have HBq := Lib.hid hB
      have hlt1 : w.heap.size < B := by rw [← hB]; exact (Array.getElem?_eq_some_iff.1 hx).1
      clear hb hx hB
      go_wp2_with fail
      rw [HBq.out]
      go_loopw [10, 11, 12, 13, 30] (fun _ _ _ _ i wr => ∃ (k : Nat) (c : Lk), k ≤ xs.length ∧ i = .int .i64 k ∧ Hid (nestL l (xs.drop k) k c = nestM l xs) ∧ wr.heap[B]? = some (.cells (lkCells c) 46 (0, 0)) ∧ Below B w1 wr) (fun _ _ _ _ i _ => xs.length - (intOf i).toNat)
      case atStart =>
        refine ⟨0, plain0, Nat.zero_le _, rfl, HR.out.symm, ?_, ?_⟩
        · rw [← HBq.out]; exact heap_alloc_new w1 _
        · rw [← HBq.out]; exact (Below.refl _ w1).alloc (Nat.le_refl _) _
      case round =>
        obtain ⟨k, c, hk, rfl, HN, hrow, hbw⟩ := hrel
        have HR0 := Lib.hid hrow
        have HBW := Lib.hid hbw
        have HB1 := Lib.hid (HB.out.trans (hbw.mono (by rw [← HBq.out]; exact HB.out.size)))
        clear hrow hbw
        by_cases hlt : k < xs.length
        · have hst := nest_step (l := l) hlt c
          obtain ⟨b, off, rfl, d0⟩ := (HU.out.below HB1.out).cell hlt
          obtain ⟨x, hx⟩ : ∃ x, xs[k] = x := ⟨_, rfl⟩
          rw [hx] at hst d0
          have hlt' : (k : Int) < xs.length := by omega
          obtain ⟨o, ho⟩ : ∃ o, fnd l x = o := ⟨_, rfl⟩
          rw [ho] at hst
          have HF := Lib.hid (find_pro l x _ wr (HS.out.below HB1.out))
          rw [ho] at HF
          unfold fndV at HF
          clear hx
          rcases Option.eq_none_or_eq_some o with e | ⟨j, e⟩
          · rw [e] at hst
            have HV := Lib.hid (HN.out.symm.trans hst)
            have to : o.isSome = false := by rw [e]; rfl
            clear e ho hst
            have hx := (HBW.out.block w.heap.size (by omega)).trans HX1.out
            have HX2 := Lib.hid hx
            have z0 := frozen_of_row wr w.heap.size 0 _ _ hx
            have z1 := frozen_of_row wr w.heap.size 1 _ _ hx
            have c0 : wr.cell? ⟨w.heap.size, 0, none⟩ = some (.int .i64 0) := by rw [cell_of_row _ _ _ _ _ _ hx]; rfl
            have c1 : wr.cell? ⟨w.heap.size, 1, none⟩ = some (.int .i64 0) := by rw [cell_of_row _ _ _ _ _ _ hx]; rfl
            clear hx
            go_wp2_with fail
            refine HF.out.mono ?_
            rintro e w2 ⟨rfl, rfl⟩
            go_wp2_with fail
            obtain ⟨W, hW, hr, k0, k1, hbW⟩ := set2 HX2.out (.int .i64 zeroL.att) (.int .i64 zeroL.col)
            simp only [zeroL] at hW
            rw [hW]
            simp only [zeroL] at k0 k1
            rw [HV.out]
            exact bodyPost_ret (v := lkE (zeroL, k, 66)) (by simp [results, Tryz.results21, go_sem, k0, k1, lkE, lkVal, zeroL]) rfl ⟨rfl, HB1.out.trans hbW⟩
          · rw [e] at hst
            have HJ := Lib.hid (fnd_some (ho.trans e)).1
            obtain ⟨p, hp⟩ := G.out.path HJ.out
            have HP := Lib.hid hp
            have hwi : wholeI l j = wholeP l p := by unfold wholeI; rw [hp]; rfl
            have HN2 := Lib.hid (show nestL l (xs.drop (k + 1)) (k + 1) (applyL c (wholeP l p)) = nestM l xs by rw [← hwi]; exact hst.symm.trans HN.out)
            have to : o.isSome = true := by rw [e]; rfl
            have HG := Lib.hid (show o.getD 0 = j by rw [e]; rfl)
            clear e ho hst hp hwi
            go_wp2_with fail
            refine HF.out.mono ?_
            rintro e w2 ⟨rfl, rfl⟩
            go_wp2_with fail
            rw [HG.out]
            have HRd := Lib.hid (show wr.drew.heap[B]? = some (.cells (lkCells c) 46 (0, 0)) from HR0.out)
            have HSd := Lib.hid (show Sh wr.drew _ l from (HS.out.below HB1.out).below ((Below.refl wr.heap.size wr).drew))
            have e0 : wr.cell? ⟨B, 0, none⟩ = some (.int .i64 c.att) := by rw [cell_of_row _ _ _ _ _ _ HR0.out]; rfl
            have e1 : wr.cell? ⟨B, 1, none⟩ = some (.int .i64 c.col) := by rw [cell_of_row _ _ _ _ _ _ HR0.out]; rfl
            have hsz1 : w1.heap.size = B := HBq.out
            have HSZ := Lib.hid hsz1
            clear hsz1
            refine wp_region_held_drew (S := fun _ => True) (by kernel_rfl) trivial (fun hHeld => ?_)
            refine wpAnyH_take (i := 1) (v := .slice pa l.length cap) rfl (by kernel_rfl) (by kernel_rfl) (by kernel_rfl) (fun _ _ _ h => h) (.inl ⟨by rfl, fun w' hS => by go_simp⟩) trivial ?_
            refine wpAnyH_take (i := 2) (v := .int .i64 (j : Nat)) rfl (by kernel_rfl) (by kernel_rfl) (by kernel_rfl) (fun _ _ _ h => h) (.inl ⟨by rfl, fun w' hS => by go_simp⟩) trivial ?_
            refine wpAnyH_all (rs := [0, 3]) (by kernel_rfl) (by simp) ?_
            intro i' hi'
            rcases (by simpa using hi' : i' = 0 ∨ i' = 3) with rfl | rfl
            · clear hi'
              refine op_via rfl (by rfl) (fun K hK => ?_)
              go_simp
              refine hK _ _ ⟨trivial, ?_⟩
              clear hK K
              refine wpAnyH_all (rs := [3]) (by kernel_rfl) (by simp) ?_
              intro i' hi'
              obtain rfl : i' = 3 := by simpa using hi'
              refine op_via rfl (by rfl) (fun K hK => ?_)
              go_simp
              refine (whole_pro l j _ _ HSd.out HJ.out p HP.out).mono ?_
              rintro e W2 ⟨rfl, hb2⟩
              have hb3 : Below wr.heap.size wr W2 := ((Below.refl wr.heap.size wr).drew).trans hb2
              have HB3 := Lib.hid hb3
              have hr2 := (hb3.block B (Array.getElem?_eq_some_iff.1 HR0.out).1).trans HR0.out
              have HR2 := Lib.hid hr2
              have f0 : W2.cell? ⟨B, 0, none⟩ = some (.int .i64 c.att) := by rw [cell_of_row _ _ _ _ _ _ hr2]; rfl
              have f1 : W2.cell? ⟨B, 1, none⟩ = some (.int .i64 c.col) := by rw [cell_of_row _ _ _ _ _ _ hr2]; rfl
              clear hb2 hb3 hr2
              refine hK _ _ ⟨trivial, ?_⟩
              clear hK K
              refine wpAnyH_all (rs := [4]) (by kernel_rfl) (by simp) ?_
              intro i' hi'
              obtain rfl : i' = 4 := by simpa using hi'
              refine op_via rfl (by rfl) (fun K hK => ?_)
              go_simp
              refine (apply_pro c (wholeP l p) W2).mono ?_
              rintro e W4 ⟨rfl, hb4⟩
              have HB4 := Lib.hid (HB3.out.trans (hb4.mono HB3.out.size))
              have hr4 := (hb4.block B (Array.getElem?_eq_some_iff.1 HR2.out).1).trans HR2.out
              have HR4 := Lib.hid hr4
              have f0' : W4.cell? ⟨B, 0, none⟩ = some (.int .i64 c.att) := by rw [cell_of_row _ _ _ _ _ _ hr4]; rfl
              have f1' : W4.cell? ⟨B, 1, none⟩ = some (.int .i64 c.col) := by rw [cell_of_row _ _ _ _ _ _ hr4]; rfl
              have z0 := frozen_of_row W4 B 0 _ _ hr4
              have z1 := frozen_of_row W4 B 1 _ _ hr4
              clear hb4 hr4
              refine hK _ _ ⟨trivial, ?_⟩
              clear hK K
              refine wpAnyH_all (rs := [5]) (by kernel_rfl) (by simp) ?_
              intro i' hi'
              obtain rfl : i' = 5 := by simpa using hi'
              refine op_via rfl (by rfl) (fun K hK => ?_)
              unfold lkVal
              go_simp
              refine hK _ _ ⟨trivial, ?_⟩
              clear hK K
              obtain ⟨W, hW, hr, k0, k1, hbW⟩ := set2 HR4.out (.int .i64 (applyL c (wholeP l p)).att) (.int .i64 (applyL c (wholeP l p)).col)
              rw [hW]
              have HRW := Lib.hid hr
              have HBWW := Lib.hid ((HBW.out.trans (HB4.out.mono (by have := (Array.getElem?_eq_some_iff.1 HR0.out).1; omega))).trans hbW)
              clear hW hr k0 k1 hbW f0 f1 f0' f1' z0 z1
              refine wpAnyH_done (by kernel_rfl) ?_ _
              go_wp2_with fail
              go_roundw
              case rel => exact ⟨k + 1, applyL c (wholeP l p), by omega, by go_num, HN2, HRW.out, HBWW.out⟩
              case measure => simp [intOf]; omega
            · clear hi'
              refine op_via rfl (by rfl) (fun K hK => ?_)
              go_simp
              refine (whole_pro l j _ _ HSd.out HJ.out p HP.out).mono ?_
              rintro e W2 ⟨rfl, hb2⟩
              have hb3 : Below wr.heap.size wr W2 := ((Below.refl wr.heap.size wr).drew).trans hb2
              have HB3 := Lib.hid hb3
              have hr2 := (hb3.block B (Array.getElem?_eq_some_iff.1 HR0.out).1).trans HR0.out
              have HR2 := Lib.hid hr2
              have f0 : W2.cell? ⟨B, 0, none⟩ = some (.int .i64 c.att) := by rw [cell_of_row _ _ _ _ _ _ hr2]; rfl
              have f1 : W2.cell? ⟨B, 1, none⟩ = some (.int .i64 c.col) := by rw [cell_of_row _ _ _ _ _ _ hr2]; rfl
              clear hb2 hb3 hr2
              refine hK _ _ ⟨trivial, ?_⟩
              clear hK K
              refine wpAnyH_all (rs := [0]) (by kernel_rfl) (by simp) ?_
              intro i' hi'
              obtain rfl : i' = 0 := by simpa using hi'
              refine op_via rfl (by rfl) (fun K hK => ?_)
              go_simp
              refine hK _ _ ⟨trivial, ?_⟩
              clear hK K
              refine wpAnyH_all (rs := [4]) (by kernel_rfl) (by simp) ?_
              intro i' hi'
              obtain rfl : i' = 4 := by simpa using hi'
              refine op_via rfl (by rfl) (fun K hK => ?_)
              go_simp
              refine (apply_pro c (wholeP l p) W2).mono ?_
              rintro e W4 ⟨rfl, hb4⟩
              have HB4 := Lib.hid (HB3.out.trans (hb4.mono HB3.out.size))
              have hr4 := (hb4.block B (Array.getElem?_eq_some_iff.1 HR2.out).1).trans HR2.out
              have HR4 := Lib.hid hr4
              have f0' : W4.cell? ⟨B, 0, none⟩ = some (.int .i64 c.att) := by rw [cell_of_row _ _ _ _ _ _ hr4]; rfl
              have f1' : W4.cell? ⟨B, 1, none⟩ = some (.int .i64 c.col) := by rw [cell_of_row _ _ _ _ _ _ hr4]; rfl
              have z0 := frozen_of_row W4 B 0 _ _ hr4
              have z1 := frozen_of_row W4 B 1 _ _ hr4
              clear hb4 hr4
              refine hK _ _ ⟨trivial, ?_⟩
              clear hK K
              refine wpAnyH_all (rs := [5]) (by kernel_rfl) (by simp) ?_
              intro i' hi'
              obtain rfl : i' = 5 := by simpa using hi'
              refine op_via rfl (by rfl) (fun K hK => ?_)
              unfold lkVal
              go_simp
              refine hK _ _ ⟨trivial, ?_⟩
              clear hK K
              obtain ⟨W, hW, hr, k0, k1, hbW⟩ := set2 HR4.out (.int .i64 (applyL c (wholeP l p)).att) (.int .i64 (applyL c (wholeP l p)).col)
              rw [hW]
              have HRW := Lib.hid hr
              have HBWW := Lib.hid ((HBW.out.trans (HB4.out.mono (by have := (Array.getElem?_eq_some_iff.1 HR0.out).1; omega))).trans hbW)
              clear hW hr k0 k1 hbW f0 f1 f0' f1' z0 z1
              refine wpAnyH_done (by kernel_rfl) ?_ _
              go_wp2_with fail
              go_roundw
              case rel => exact ⟨k + 1, applyL c (wholeP l p), by omega, by go_num, HN2, HRW.out, HBWW.out⟩
              case measure => simp [intOf]; omega
        · have hst := nest_end (l := l) (xs := xs) (k := k) (by omega) c
          have HV := Lib.hid (HN.out.symm.trans hst)
          have hge : ¬ (k : Int) < xs.length := by omega
          have hx := (HBW.out.block w.heap.size (by omega)).trans HX1.out
          have HX2 := Lib.hid hx
          have z0 := frozen_of_row wr w.heap.size 0 _ _ hx
          have z1 := frozen_of_row wr w.heap.size 1 _ _ hx
          have c0 : wr.cell? ⟨w.heap.size, 0, none⟩ = some (.int .i64 0) := by rw [cell_of_row _ _ _ _ _ _ hx]; rfl
          have c1 : wr.cell? ⟨w.heap.size, 1, none⟩ = some (.int .i64 0) := by rw [cell_of_row _ _ _ _ _ _ hx]; rfl
          have e0 : wr.cell? ⟨B, 0, none⟩ = some (.int .i64 c.att) := by rw [cell_of_row _ _ _ _ _ _ HR0.out]; rfl
          have e1 : wr.cell? ⟨B, 1, none⟩ = some (.int .i64 c.col) := by rw [cell_of_row _ _ _ _ _ _ HR0.out]; rfl
          clear hx hst
          go_wp2_with fail
          obtain ⟨W, hW, hr, k0, k1, hbW⟩ := set2 HX2.out (.int .i64 c.att) (.int .i64 c.col)
          rw [hW, HV.out]
          exact bodyPost_ret (v := lkE (c, 0, 0)) (by simp [results, Tryz.results21, go_sem, k0, k1, lkE, lkVal]) rfl ⟨rfl, HB1.out.trans hbW⟩
  · have HV := Lib.hid (hbad he)
    have t := natne he
    clear hbad hlong hrun hgood he
    go_enter Tryz.func21, Tryz.ntmps21
    go_wp2_with fail
    refine HC.out.mono ?_
    rintro e w1 ⟨rfl, hb⟩
    have HB := Lib.hid (HA.out.trans (hb.mono HA.out.size))
    have hx := (hb.block w.heap.size (Array.getElem?_eq_some_iff.1 HX.out).1).trans HX.out
    have HX1 := Lib.hid hx
    have z0 := frozen_of_row w1 w.heap.size 0 _ _ hx
    have z1 := frozen_of_row w1 w.heap.size 1 _ _ hx
    have c0 : w1.cell? ⟨w.heap.size, 0, none⟩ = some (.int .i64 0) := by rw [cell_of_row _ _ _ _ _ _ hx]; rfl
    have c1 : w1.cell? ⟨w.heap.size, 1, none⟩ = some (.int .i64 0) := by rw [cell_of_row _ _ _ _ _ _ hx]; rfl
    clear hb hx
    go_wp2_with fail
    obtain ⟨W, hW, hr, k0, k1, hbW⟩ := set2 HX1.out (.int .i64 zeroL.att) (.int .i64 zeroL.col)
    simp only [zeroL] at hW
    rw [hW]
    simp only [zeroL] at k0 k1
    rw [HV.out]
    exact bodyPost_ret (v := lkE (zeroL, 0, ec)) (by simp [results, Tryz.results21, go_sem, k0, k1, lkE, lkVal, zeroL]) rfl ⟨rfl, HB.out.trans hbW⟩
end Go.Proofs.YtceanagnkcejgaaGreatDoor
