/- What is proved: StyleNests holds of any sheet and any names: the program's Whole and Nest say what the document's do, with the base ahead of the sheet and without it. No condition but the form's own. -/
import Derived.Test.YtceanagnkcejgaaGreatDoorSaw
import Derived.Test.YtceanagnkcejgaaGreatDoorDc
import Derived.Test.YtceanagnkcejgaaGreatDoorDe
import Derived.Test.YtceanagnkcejgaaGreatDoorArg
import Derived.Test.YtceanagnkcejgaaGreatDoorPost
import Derived.Test.YtceanagnkcejgaaGreatDoorSLftz
import Derived.Test.YtceanagnkcejgaaGreatDoorCards
import Derived.Test.YtceanagnkcejgaaGreatDoorTie
import Derived.ProofKit
import Derived.OpenShut
import Derived.Deep.DeepHandedRow
import Derived.WideKeyArgs
import Derived.Deep.CutRange
import Derived.Deep.Cut
namespace Go.Proofs.YtceanagnkcejgaaGreatDoor.styleNests
open Go.ChangeShapes Go.WideShapes Go.ChangeAt Go.RowKit
open Go.ChangeMaps (open_string shut_string)
set_option linter.unusedVariables false

theorem fit_app {a b : List Sty} (ha : Fit a) (hb : Fit b) : Fit (a ++ b) := by
  intro s hs
  rcases List.mem_append.1 hs with h | h
  · exact ha s h
  · exact hb s h

set_option maxRecDepth 100000 in
set_option maxHeartbeats 16000000 in
theorem walk (v : Value) (l : List Sty) (u : Value) (xs : List (List UInt8)) (W : World) (hs : Sh W v l ∧ Fit l) (hsz : l.length * 56 ≤ 140737488351232) (hu : RdS W u xs ∧ ∀ x ∈ xs, x.length ≤ maxLen) (hxz : xs.length * 16 ≤ 140737488351232) (hT : Tabs W) :
    Calls Tryz.prog 4 #[v, u] W fun e W' => e = .returned (.bool true) ∧ Below W.heap.size W W' := by
  obtain ⟨i0, hi0, hz0, hz1, hz2⟩ := info_parts infoStr
  have AG := Lib.hid (show (Value.string .empty).cells.size = 1 from rfl)
  have HT := Lib.hid hT
  have HS := Lib.hid hs.1
  have HF := Lib.hid hs.2
  have HZ := Lib.hid hsz
  have HZ2 := Lib.hid (show l.length * 56 ≤ 140737488352000 by omega)
  have HU := Lib.hid hu.1
  have M1 := Lib.hid (show 0 + xs.length ≤ maxLen by unfold maxLen; omega)
  have M2 := Lib.hid (show (0 + xs.length) * 16 ≤ 140737488355328 by omega)
  obtain ⟨pu, cu, rfl, hd1, hd2⟩ := hu.1.form
  unfold maxLen at hd2
  clear hs hsz hT hu hxz
  go_enter Tryz.func4, Tryz.ntmps4
  go_wp2_with fail
  go_loopw [5, 6, 7, 8, 9, 10, 11, 12, 13, 14, 15, 16, 17] (fun i _ _ _ _ _ _ _ _ _ _ _ _ wr => ∃ k : Nat, k ≤ 2 ∧ i = .int .i64 k ∧ Below W.heap.size W wr) (fun i _ _ _ _ _ _ _ _ _ _ _ _ _ => 2 - (intOf i).toNat)
  case atStart => exact ⟨0, Nat.zero_le _, rfl, Below.refl _ _⟩
  case round =>
    obtain ⟨k, hk, rfl, hbw⟩ := hrel
    have HB := Lib.hid hbw
    clear hbw
    obtain ⟨wo, hwo⟩ : ∃ wo : World, wo = wr := ⟨_, rfl⟩
    subst hwo
    rcases (by omega : k = 0 ∨ k = 1 ∨ k = 2) with rfl | rfl | rfl
    · as_aux_lemma =>
      go_wp2_with fail
      refine (twin_law l v wo (HS.out.below HB.out) HZ2.out).mono ?_
      rintro e w4 ⟨v4, rfl, ho4, hb⟩
      have HS4 := Lib.hid (Sh.own ho4)
      have HB4 := Lib.hid (HB.out.trans (hb.mono HB.out.size))
      have HF4 := Lib.hid HF.out
      have HZ4 := Lib.hid HZ2.out
      clear hb ho4
      obtain ⟨p4, c4, rfl, cc1, cc2⟩ := HS4.out.form
      unfold maxLen at cc2
      go_wp2_with fail
      go_loopw [7, 8, 9, 10, 11] (fun i _ _ _ _ wr => ∃ j : Nat, j ≤ xs.length ∧ i = .int .i64 j ∧ Below w4.heap.size w4 wr) (fun i _ _ _ _ _ => xs.length - (intOf i).toNat)
      case atStart => exact ⟨0, Nat.zero_le _, rfl, Below.refl _ _⟩
      case round =>
        obtain ⟨j, hj, rfl, hbw⟩ := hrel
        have HBW := Lib.hid hbw
        have HB5 := Lib.hid (HB4.out.trans (hbw.mono HB4.out.size))
        have HS5 := Lib.hid (HS4.out.below hbw)
        clear hbw
        by_cases hlt : j < xs.length
        · obtain ⟨b, off, rfl, d0⟩ := (HU.out.below HB5.out).cell hlt
          obtain ⟨x, hx⟩ : ∃ x, xs[j] = x := ⟨_, rfl⟩
          rw [hx] at d0
          have HD := Lib.hid d0
          have hlt2 : (j : Int) < xs.length := by omega
          obtain ⟨⟨c, n⟩, hc⟩ : ∃ c, wholeM (l) x = c := ⟨_, rfl⟩
          have HC := Lib.hid hc
          have tn : ((n : Int) != n) = false := by simp
          clear hx hc d0
          go_wp2_with fail
          go_cut [8, 9] from 28 to 61 (fun s8 s9 wx => (∃ B : Nat, s8 = .pointer (some ⟨B, 0, none⟩) ∧ wx.heap[B]? = some (.cells #[.int .i64 c.on, .int .i64 c.off, .int .i64 c.col] 27 (0, 0)) ∧ wr.heap.size ≤ B) ∧ s9 = .int .i64 (n : Nat) ∧ Below wr.heap.size wr wx)
          case first =>
           have hS : Below wr.heap.size wr wr.drew := (Below.refl _ _).drew
           refine wp_region_held_drew (S := fun w' => Below wr.heap.size wr w') (by kernel_rfl) hS (fun hS => ?_)
           obtain ⟨wd, hwd⟩ : ∃ wd, wr.drew = wd := ⟨_, rfl⟩
           rw [hwd] at hS ⊢
           clear hwd
           refine wpAnyH_take (i := 0) (v := .slice p4 (l).length c4) rfl (by kernel_rfl) (by kernel_rfl) (by kernel_rfl) (fun _ _ _ h => h) (.inl ⟨by kernel_rfl, fun w' hS => by go_simp⟩) hS ?_
           refine wpAnyH_take (i := 2) (v := .slice (some ⟨b, off, none⟩) xs.length cu) rfl (by kernel_rfl) (by kernel_rfl) (by kernel_rfl) (fun _ _ _ h => h) (.inl ⟨by kernel_rfl, fun w' hS => by go_simp⟩) hS ?_
           refine wpAnyH_take (i := 3) (v := .int .i64 (j : Nat)) rfl (by kernel_rfl) (by kernel_rfl) (by kernel_rfl) (fun _ _ _ h => h) (.inl ⟨by kernel_rfl, fun w' hS => by go_simp⟩) hS ?_
           refine wpAnyH_take (i := 4) (v := .pointer (some ⟨b, off + j, none⟩)) rfl (by kernel_rfl) (by kernel_rfl) (by kernel_rfl) (fun _ _ _ h => h) (.inl ⟨by kernel_rfl, fun w' hS => by go_simp⟩) hS ?_
           refine wpAnyH_take (i := 5) (v := .string (bs x)) rfl (by kernel_rfl) (by kernel_rfl) (by kernel_rfl) (fun _ _ _ h => h) (.inl ⟨by kernel_rfl, fun w' hS => by have hh := (hS.cell (p := ⟨b, off + j, none⟩) (cell_in HD.out)).trans HD.out; go_simp⟩) hS ?_
           refine wpAnyH_all (rs := [1, 10]) (by kernel_rfl) (by simp) ?_
           intro i' hi'
           rcases (by simpa using hi' : i' = 1 ∨ i' = 10) with rfl | rfl
           · clear hi'
             refine op_via rfl (by kernel_rfl) (fun K hK => ?_)
             go_simp
             refine (twin_law (l) _ _ (HS5.out.below hS) HZ4.out).mono ?_
             rintro e wq5 ⟨v5, rfl, ho5, hb⟩
             have hs5 := Sh.own ho5
             replace hS : Below wr.heap.size wr wq5 := hS.trans (hb.mono hS.size)
             refine hK _ _ ⟨hS, ?_⟩
             clear hK K hb ho5
             refine wpAnyH_all (rs := [6, 10]) (by kernel_rfl) (by simp) ?_
             intro i' hi'
             rcases (by simpa using hi' : i' = 6 ∨ i' = 10) with rfl | rfl
             · clear hi'
               refine op_via rfl (by kernel_rfl) (fun K hK => ?_)
               go_simp
               refine (Whole_pro (l) x v5 _ hs5 HF4.out).mono ?_
               rw [HC.out]
               rintro e wq7 ⟨rfl, hb⟩
               replace hS : Below wr.heap.size wr wq7 := hS.trans (hb.mono hS.size)
               refine hK _ _ ⟨hS, ?_⟩
               clear hK K hb hs5
               unfold chgE chgVal
               refine wpAnyH_take (i := 7) (v := .tuple #[.agg #[.int .i64 c.on, .int .i64 c.off, .int .i64 c.col], .int .i64 (n : Nat)]) rfl (by kernel_rfl) (by kernel_rfl) (by kernel_rfl) (fun _ _ _ h => h) (.inl ⟨by kernel_rfl, fun w' hS => by go_simp⟩) hS ?_
               refine wpAnyH_take (i := 8) (v := .agg #[.int .i64 c.on, .int .i64 c.off, .int .i64 c.col]) rfl (by kernel_rfl) (by kernel_rfl) (by kernel_rfl) (fun _ _ _ h => h) (.inl ⟨by kernel_rfl, fun w' hS => by go_simp⟩) hS ?_
               refine wpAnyH_take (i := 9) (v := .int .i64 (n : Nat)) rfl (by kernel_rfl) (by kernel_rfl) (by kernel_rfl) (fun _ _ _ h => h) (.inl ⟨by kernel_rfl, fun w' hS => by go_simp⟩) hS ?_
               refine wpAnyH_all (rs := [10]) (by kernel_rfl) (by simp) ?_
               intro i' hi'
               obtain rfl : i' = 10 := by simpa using hi'
               refine op_via rfl (by kernel_rfl) (fun K hK => ?_)
               go_simp
               obtain ⟨B, hB⟩ : ∃ B, (wq7).heap.size = B := ⟨_, rfl⟩
               have hA := (Below.refl _ (wq7)).alloc (Nat.le_refl _) (.cells #[.int .i64 0, .int .i64 0, .int .i64 0] 27)
               have hX := heap_alloc_new (wq7) (.cells #[.int .i64 0, .int .i64 0, .int .i64 0] 27)
               obtain ⟨wq9, hw7⟩ : ∃ w7, World.alloc (wq7) (.cells #[.int .i64 0, .int .i64 0, .int .i64 0] 27) = w7 := ⟨_, rfl⟩
               rw [hw7] at hA hX
               rw [hw7, hB]
               rw [hB] at hX hA
               have hBw : wr.heap.size ≤ B := by rw [← hB]; exact hS.size
               replace hS : Below wr.heap.size wr wq9 := hS.trans (hA.mono hBw)
               refine hK _ _ ⟨hS, ?_⟩
               clear hK K hA hw7 hB
               have HX := Lib.hid hX
               have HBw := Lib.hid hBw
               have z0 := frozen_of_row wq9 B 0 _ _ hX
               have z1 := frozen_of_row wq9 B 1 _ _ hX
               have z2 := frozen_of_row wq9 B 2 _ _ hX
               have y0 : World.cell? wq9 ⟨B, 0, none⟩ = some (.int .i64 0) := by rw [cell_of_row _ _ _ _ _ _ hX]; rfl
               have y1 : World.cell? wq9 ⟨B, 1, none⟩ = some (.int .i64 0) := by rw [cell_of_row _ _ _ _ _ _ hX]; rfl
               have y2 : World.cell? wq9 ⟨B, 2, none⟩ = some (.int .i64 0) := by rw [cell_of_row _ _ _ _ _ _ hX]; rfl
               clear hX hBw
               refine wpAnyH_all (rs := [11]) (by kernel_rfl) (by simp) ?_
               intro i' hi'
               obtain rfl : i' = 11 := by simpa using hi'
               refine op_via rfl (by kernel_rfl) (fun K hK => ?_)
               go_simp
               obtain ⟨w8, hw8, hr8, k0, k1, k2, hbW⟩ := set3 HX.out (.int .i64 c.on) (.int .i64 c.off) (.int .i64 c.col)
               rw [hw8]
               replace hS : Below wr.heap.size wr w8 := hS.trans (hbW.mono HBw.out)
               refine hK _ _ ⟨hS, ?_⟩
               clear hK K z0 z1 z2 y0 y1 y2 k0 k1 k2 hbW hw8
               refine wpAnyH_take (i := 12) (v := .int .i64 (n : Nat)) rfl (by kernel_rfl) (by kernel_rfl) (by kernel_rfl) (fun _ _ _ h => h) (.inl ⟨by kernel_rfl, fun w' hS => by go_simp⟩) hS ?_
               refine wpAnyH_done (by kernel_rfl) ?_ _
               go_wp2_with fail
               go_meet
               case rel => exact ⟨⟨B, rfl, hr8, HBw.out⟩, rfl, hS⟩
             · clear hi'
               refine op_via rfl (by kernel_rfl) (fun K hK => ?_)
               go_simp
               replace hs5 := hs5.below ((Below.refl _ (wq5)).alloc (Nat.le_refl _) (.cells #[.int .i64 0, .int .i64 0, .int .i64 0] 27))
               obtain ⟨B, hB⟩ : ∃ B, (wq5).heap.size = B := ⟨_, rfl⟩
               have hA := (Below.refl _ (wq5)).alloc (Nat.le_refl _) (.cells #[.int .i64 0, .int .i64 0, .int .i64 0] 27)
               have hX := heap_alloc_new (wq5) (.cells #[.int .i64 0, .int .i64 0, .int .i64 0] 27)
               obtain ⟨wq8, hw7⟩ : ∃ w7, World.alloc (wq5) (.cells #[.int .i64 0, .int .i64 0, .int .i64 0] 27) = w7 := ⟨_, rfl⟩
               rw [hw7] at hA hX hs5
               rw [hw7, hB]
               rw [hB] at hX hA
               have hBw : wr.heap.size ≤ B := by rw [← hB]; exact hS.size
               replace hS : Below wr.heap.size wr wq8 := hS.trans (hA.mono hBw)
               refine hK _ _ ⟨hS, ?_⟩
               clear hK K hA hw7 hB
               refine wpAnyH_all (rs := [6]) (by kernel_rfl) (by simp) ?_
               intro i' hi'
               obtain rfl : i' = 6 := by simpa using hi'
               refine op_via rfl (by kernel_rfl) (fun K hK => ?_)
               go_simp
               refine (Whole_pro (l) x v5 _ hs5 HF4.out).mono ?_
               rw [HC.out]
               rintro e wq10 ⟨rfl, hb⟩
               replace hX := (hb.block B (Array.getElem?_eq_some_iff.1 hX).1).trans hX
               replace hS : Below wr.heap.size wr wq10 := hS.trans (hb.mono hS.size)
               refine hK _ _ ⟨hS, ?_⟩
               clear hK K hb hs5
               unfold chgE chgVal
               refine wpAnyH_take (i := 7) (v := .tuple #[.agg #[.int .i64 c.on, .int .i64 c.off, .int .i64 c.col], .int .i64 (n : Nat)]) rfl (by kernel_rfl) (by kernel_rfl) (by kernel_rfl) (fun _ _ _ h => h) (.inl ⟨by kernel_rfl, fun w' hS => by go_simp⟩) hS ?_
               refine wpAnyH_take (i := 8) (v := .agg #[.int .i64 c.on, .int .i64 c.off, .int .i64 c.col]) rfl (by kernel_rfl) (by kernel_rfl) (by kernel_rfl) (fun _ _ _ h => h) (.inl ⟨by kernel_rfl, fun w' hS => by go_simp⟩) hS ?_
               refine wpAnyH_take (i := 9) (v := .int .i64 (n : Nat)) rfl (by kernel_rfl) (by kernel_rfl) (by kernel_rfl) (fun _ _ _ h => h) (.inl ⟨by kernel_rfl, fun w' hS => by go_simp⟩) hS ?_
               have HX := Lib.hid hX
               have HBw := Lib.hid hBw
               have z0 := frozen_of_row wq10 B 0 _ _ hX
               have z1 := frozen_of_row wq10 B 1 _ _ hX
               have z2 := frozen_of_row wq10 B 2 _ _ hX
               have y0 : World.cell? wq10 ⟨B, 0, none⟩ = some (.int .i64 0) := by rw [cell_of_row _ _ _ _ _ _ hX]; rfl
               have y1 : World.cell? wq10 ⟨B, 1, none⟩ = some (.int .i64 0) := by rw [cell_of_row _ _ _ _ _ _ hX]; rfl
               have y2 : World.cell? wq10 ⟨B, 2, none⟩ = some (.int .i64 0) := by rw [cell_of_row _ _ _ _ _ _ hX]; rfl
               clear hX hBw
               refine wpAnyH_all (rs := [11]) (by kernel_rfl) (by simp) ?_
               intro i' hi'
               obtain rfl : i' = 11 := by simpa using hi'
               refine op_via rfl (by kernel_rfl) (fun K hK => ?_)
               go_simp
               obtain ⟨w8, hw8, hr8, k0, k1, k2, hbW⟩ := set3 HX.out (.int .i64 c.on) (.int .i64 c.off) (.int .i64 c.col)
               rw [hw8]
               replace hS : Below wr.heap.size wr w8 := hS.trans (hbW.mono HBw.out)
               refine hK _ _ ⟨hS, ?_⟩
               clear hK K z0 z1 z2 y0 y1 y2 k0 k1 k2 hbW hw8
               refine wpAnyH_take (i := 12) (v := .int .i64 (n : Nat)) rfl (by kernel_rfl) (by kernel_rfl) (by kernel_rfl) (fun _ _ _ h => h) (.inl ⟨by kernel_rfl, fun w' hS => by go_simp⟩) hS ?_
               refine wpAnyH_done (by kernel_rfl) ?_ _
               go_wp2_with fail
               go_meet
               case rel => exact ⟨⟨B, rfl, hr8, HBw.out⟩, rfl, hS⟩
           · clear hi'
             refine op_via rfl (by kernel_rfl) (fun K hK => ?_)
             go_simp
             obtain ⟨B, hB⟩ : ∃ B, (wd).heap.size = B := ⟨_, rfl⟩
             have hA := (Below.refl _ (wd)).alloc (Nat.le_refl _) (.cells #[.int .i64 0, .int .i64 0, .int .i64 0] 27)
             have hX := heap_alloc_new (wd) (.cells #[.int .i64 0, .int .i64 0, .int .i64 0] 27)
             obtain ⟨wq6, hw7⟩ : ∃ w7, World.alloc (wd) (.cells #[.int .i64 0, .int .i64 0, .int .i64 0] 27) = w7 := ⟨_, rfl⟩
             rw [hw7] at hA hX
             rw [hw7, hB]
             rw [hB] at hX hA
             have hBw : wr.heap.size ≤ B := by rw [← hB]; exact hS.size
             replace hS : Below wr.heap.size wr wq6 := hS.trans (hA.mono hBw)
             refine hK _ _ ⟨hS, ?_⟩
             clear hK K hA hw7 hB
             refine wpAnyH_all (rs := [1]) (by kernel_rfl) (by simp) ?_
             intro i' hi'
             obtain rfl : i' = 1 := by simpa using hi'
             refine op_via rfl (by kernel_rfl) (fun K hK => ?_)
             go_simp
             refine (twin_law (l) _ _ (HS5.out.below hS) HZ4.out).mono ?_
             rintro e wq11 ⟨v5, rfl, ho5, hb⟩
             have hs5 := Sh.own ho5
             replace hX := (hb.block B (Array.getElem?_eq_some_iff.1 hX).1).trans hX
             replace hS : Below wr.heap.size wr wq11 := hS.trans (hb.mono hS.size)
             refine hK _ _ ⟨hS, ?_⟩
             clear hK K hb ho5
             refine wpAnyH_all (rs := [6]) (by kernel_rfl) (by simp) ?_
             intro i' hi'
             obtain rfl : i' = 6 := by simpa using hi'
             refine op_via rfl (by kernel_rfl) (fun K hK => ?_)
             go_simp
             refine (Whole_pro (l) x v5 _ hs5 HF4.out).mono ?_
             rw [HC.out]
             rintro e wq12 ⟨rfl, hb⟩
             replace hX := (hb.block B (Array.getElem?_eq_some_iff.1 hX).1).trans hX
             replace hS : Below wr.heap.size wr wq12 := hS.trans (hb.mono hS.size)
             refine hK _ _ ⟨hS, ?_⟩
             clear hK K hb hs5
             unfold chgE chgVal
             refine wpAnyH_take (i := 7) (v := .tuple #[.agg #[.int .i64 c.on, .int .i64 c.off, .int .i64 c.col], .int .i64 (n : Nat)]) rfl (by kernel_rfl) (by kernel_rfl) (by kernel_rfl) (fun _ _ _ h => h) (.inl ⟨by kernel_rfl, fun w' hS => by go_simp⟩) hS ?_
             refine wpAnyH_take (i := 8) (v := .agg #[.int .i64 c.on, .int .i64 c.off, .int .i64 c.col]) rfl (by kernel_rfl) (by kernel_rfl) (by kernel_rfl) (fun _ _ _ h => h) (.inl ⟨by kernel_rfl, fun w' hS => by go_simp⟩) hS ?_
             refine wpAnyH_take (i := 9) (v := .int .i64 (n : Nat)) rfl (by kernel_rfl) (by kernel_rfl) (by kernel_rfl) (fun _ _ _ h => h) (.inl ⟨by kernel_rfl, fun w' hS => by go_simp⟩) hS ?_
             have HX := Lib.hid hX
             have HBw := Lib.hid hBw
             have z0 := frozen_of_row wq12 B 0 _ _ hX
             have z1 := frozen_of_row wq12 B 1 _ _ hX
             have z2 := frozen_of_row wq12 B 2 _ _ hX
             have y0 : World.cell? wq12 ⟨B, 0, none⟩ = some (.int .i64 0) := by rw [cell_of_row _ _ _ _ _ _ hX]; rfl
             have y1 : World.cell? wq12 ⟨B, 1, none⟩ = some (.int .i64 0) := by rw [cell_of_row _ _ _ _ _ _ hX]; rfl
             have y2 : World.cell? wq12 ⟨B, 2, none⟩ = some (.int .i64 0) := by rw [cell_of_row _ _ _ _ _ _ hX]; rfl
             clear hX hBw
             refine wpAnyH_all (rs := [11]) (by kernel_rfl) (by simp) ?_
             intro i' hi'
             obtain rfl : i' = 11 := by simpa using hi'
             refine op_via rfl (by kernel_rfl) (fun K hK => ?_)
             go_simp
             obtain ⟨w8, hw8, hr8, k0, k1, k2, hbW⟩ := set3 HX.out (.int .i64 c.on) (.int .i64 c.off) (.int .i64 c.col)
             rw [hw8]
             replace hS : Below wr.heap.size wr w8 := hS.trans (hbW.mono HBw.out)
             refine hK _ _ ⟨hS, ?_⟩
             clear hK K z0 z1 z2 y0 y1 y2 k0 k1 k2 hbW hw8
             refine wpAnyH_take (i := 12) (v := .int .i64 (n : Nat)) rfl (by kernel_rfl) (by kernel_rfl) (by kernel_rfl) (fun _ _ _ h => h) (.inl ⟨by kernel_rfl, fun w' hS => by go_simp⟩) hS ?_
             refine wpAnyH_done (by kernel_rfl) ?_ _
             go_wp2_with fail
             go_meet
             case rel => exact ⟨⟨B, rfl, hr8, HBw.out⟩, rfl, hS⟩
          case rest =>
           obtain ⟨⟨B, rfl, hr8, hBw⟩, rfl, hS⟩ := hcut
           obtain ⟨w8, hw8⟩ : ∃ w8 : World, w8 = wc := ⟨_, rfl⟩
           subst hw8
           have HX8 := Lib.hid hr8
           have HB8 := Lib.hid hS
           have d8 := (hS.cell (p := ⟨b, off + j, none⟩) (cell_in HD.out)).trans HD.out
           have HWR := Lib.hid (Whole_ref (l) x (.slice p4 (l).length c4) w8 (HS5.out.below HB8.out) HF4.out)
           rw [HC.out] at HWR
           unfold chgE chgVal at HWR
           clear hr8 hS hBw
           go_wp2_with fail
           refine HWR.out.mono ?_
           rintro e w9 ⟨rfl, hb⟩
           have hx9 := (hb.block B (Array.getElem?_eq_some_iff.1 HX8.out).1).trans HX8.out
           have hlt9 := (Array.getElem?_eq_some_iff.1 hx9).1
           have y0 : w9.cell? ⟨B, 0, none⟩ = some (.int .i64 c.on) := by rw [cell_of_row _ _ _ _ _ _ hx9]; rfl
           have y1 : w9.cell? ⟨B, 1, none⟩ = some (.int .i64 c.off) := by rw [cell_of_row _ _ _ _ _ _ hx9]; rfl
           have y2 : w9.cell? ⟨B, 2, none⟩ = some (.int .i64 c.col) := by rw [cell_of_row _ _ _ _ _ _ hx9]; rfl
           have HB9 := Lib.hid (HB8.out.trans (hb.mono HB8.out.size))
           have HA9 := Lib.hid (HB9.out.alloc HB9.out.size (.cells #[.int .i64 c.on, .int .i64 c.off, .int .i64 c.col] 27))
           clear hb hx9 d8
           go_wp2_with fail
           refine (same_law c _).mono ?_
           rintro e w10 ⟨rfl, hb⟩
           have HB10 := Lib.hid (HA9.out.trans (hb.mono HA9.out.size))
           clear hb y0 y1 y2 hlt9
           go_wp2_with fail
           go_roundw
           case rel => exact ⟨j + 1, by omega, by go_num, HBW.out.trans (HB10.out.mono HBW.out.size)⟩
           case measure => simp [intOf]; omega
        · have hge : ¬ (j : Int) < xs.length := by omega
          obtain ⟨w5, hw5⟩ : ∃ w5 : World, w5 = wr := ⟨_, rfl⟩
          subst hw5
          obtain ⟨⟨lk, a1, a2⟩, hn⟩ : ∃ c, nestM (l) xs = c := ⟨_, rfl⟩
          have HN := Lib.hid hn
          have ta1 : ((a1 : Int) != a1) = false := by simp
          have ta2 : ((a2 : Int) != a2) = false := by simp
          clear hn
          go_wp2_with fail
          refine (twin_law (l) _ w5 HS5.out HZ4.out).mono ?_
          rintro e w6 ⟨v6, rfl, ho6, hb⟩
          have HS6 := Lib.hid (Sh.own ho6)
          have HB6 := Lib.hid (HB5.out.trans (hb.mono HB5.out.size))
          have HQ6 := Lib.hid hb
          have HL6 := Lib.hid (HU.out.below HB6.out).lies
          have E1 := Lib.hid (World.ownsRow_lit (e := 9) (size := 1) (base := w6.heap.size) w6 #[] 0 (Nat.le_refl _) (Nat.zero_le _) rfl)
          have E1s := Lib.hid (show w6.heap.size ≤ (w6.alloc (.cells #[] 9)).heap.size by simp)
          clear hb ho6
          go_wp2_with (at_builtin; go_loud (refine wpList_append_lies' rfl _ _ 39 rfl w6.heap.size 9 i0 (.string .empty) 1 16 Tryz.underlying39 hi0 hz0 hz1 hz2 rfl (by decide) _ _ _ rfl E1.out _ _ _ rfl (HL6.out.alloc _) M1.out M2.out E1s.out ?_); intro v7 w7 hown7 hg7; have HO7 := Lib.hid hown7; have B7 := Lib.hid (((Below.refl w6.heap.size w6).alloc (Nat.le_refl _) _).grown hg7 E1s.out (fun k hk => (E1.out.lt k hk).1)); clear hown7 hg7)
          have HB7 := Lib.hid (HB6.out.trans (B7.out.mono HB6.out.size))
          have hr7 : RdS w7 v7 xs := RdS.own (by have := HO7.out; rwa [Nat.zero_add] at this)
          refine (Nest_pro (l) xs v6 v7 w7 (HS6.out.below B7.out) HF4.out hr7).mono ?_
          rw [HN.out]
          unfold lkE lkVal
          rintro e w8 ⟨rfl, hb⟩
          have HB8 := Lib.hid (HB7.out.trans (hb.mono HB7.out.size))
          have HA8 := Lib.hid (HB8.out.alloc HB8.out.size (.cells #[.int .i64 lk.att, .int .i64 lk.col] 46))
          have HX8 := Lib.hid (heap_alloc_new w8 (.cells #[.int .i64 lk.att, .int .i64 lk.col] 46))
          have hbb : Below w5.heap.size w5 (w8.alloc (.cells #[.int .i64 lk.att, .int .i64 lk.col] 46)) := by
            have q7 := HQ6.out.trans (B7.out.mono HQ6.out.size)
            have q8 := q7.trans (hb.mono q7.size)
            exact q8.alloc q8.size _
          have HBB := Lib.hid hbb
          clear hb hr7 hbb
          go_wp2_with fail
          refine (Nest_ref (l) xs _ _ _ (HS5.out.below HBB.out) HF4.out (HU.out.below HA8.out)).mono ?_
          rw [HN.out]
          unfold lkE lkVal
          rintro e w9 ⟨rfl, hb⟩
          have hx9 := (hb.block w8.heap.size (Array.getElem?_eq_some_iff.1 HX8.out).1).trans HX8.out
          have hlt9 := (Array.getElem?_eq_some_iff.1 hx9).1
          have y0 : w9.cell? ⟨w8.heap.size, 0, none⟩ = some (.int .i64 lk.att) := by rw [cell_of_row _ _ _ _ _ _ hx9]; rfl
          have y1 : w9.cell? ⟨w8.heap.size, 1, none⟩ = some (.int .i64 lk.col) := by rw [cell_of_row _ _ _ _ _ _ hx9]; rfl
          have HB9 := Lib.hid (HA8.out.trans (hb.mono HA8.out.size))
          have HA9 := Lib.hid (HB9.out.alloc HB9.out.size (.cells #[.int .i64 lk.att, .int .i64 lk.col] 46))
          clear hb hx9
          go_wp2_with fail
          refine (look_law lk _).mono ?_
          rintro e w10 ⟨rfl, hb⟩
          have HB10 := Lib.hid (HA9.out.trans (hb.mono HA9.out.size))
          clear hb y0 y1 hlt9
          go_wp2_with fail
          go_roundw
          case rel => exact ⟨0 + 1, by omega, by go_num, HB10.out⟩
          case measure => simp [intOf]
    · as_aux_lemma =>
      go_wp2_with fail
      refine (twin_law l v wo (HS.out.below HB.out) HZ2.out).mono ?_
      rintro e w3 ⟨v3, rfl, ho3, hb⟩
      have HB3 := Lib.hid (HB.out.trans (hb.mono HB.out.size))
      clear hb ho3
      go_wp2_with fail
      refine (lwhole_law l v w3 (HS.out.below HB3.out) HZ.out).mono ?_
      rintro e w4 ⟨v4, rfl, ho4, hb⟩
      have HS4 := Lib.hid (Sh.own ho4)
      have HB4 := Lib.hid (HB3.out.trans (hb.mono HB3.out.size))
      have HF4 := Lib.hid (fit_app fit_base HF.out)
      have HZ4 := Lib.hid (show (baseL ++ l).length * 56 ≤ 140737488352000 by have := HZ.out; rw [List.length_append]; have e : baseL.length = 6 := rfl; omega)
      obtain ⟨L, hL⟩ : ∃ L, baseL ++ l = L := ⟨_, rfl⟩
      rw [hL] at HS4 HF4 HZ4
      clear hb ho4 hL
      obtain ⟨p4, c4, rfl, cc1, cc2⟩ := HS4.out.form
      unfold maxLen at cc2
      go_wp2_with fail
      go_loopw [7, 8, 9, 10, 11] (fun i _ _ _ _ wr => ∃ j : Nat, j ≤ xs.length ∧ i = .int .i64 j ∧ Below w4.heap.size w4 wr) (fun i _ _ _ _ _ => xs.length - (intOf i).toNat)
      case atStart => exact ⟨0, Nat.zero_le _, rfl, Below.refl _ _⟩
      case round =>
        obtain ⟨j, hj, rfl, hbw⟩ := hrel
        have HBW := Lib.hid hbw
        have HB5 := Lib.hid (HB4.out.trans (hbw.mono HB4.out.size))
        have HS5 := Lib.hid (HS4.out.below hbw)
        clear hbw
        by_cases hlt : j < xs.length
        · obtain ⟨b, off, rfl, d0⟩ := (HU.out.below HB5.out).cell hlt
          obtain ⟨x, hx⟩ : ∃ x, xs[j] = x := ⟨_, rfl⟩
          rw [hx] at d0
          have HD := Lib.hid d0
          have hlt2 : (j : Int) < xs.length := by omega
          obtain ⟨⟨c, n⟩, hc⟩ : ∃ c, wholeM (L) x = c := ⟨_, rfl⟩
          have HC := Lib.hid hc
          have tn : ((n : Int) != n) = false := by simp
          clear hx hc d0
          go_wp2_with fail
          go_cut [8, 9] from 28 to 61 (fun s8 s9 wx => (∃ B : Nat, s8 = .pointer (some ⟨B, 0, none⟩) ∧ wx.heap[B]? = some (.cells #[.int .i64 c.on, .int .i64 c.off, .int .i64 c.col] 27 (0, 0)) ∧ wr.heap.size ≤ B) ∧ s9 = .int .i64 (n : Nat) ∧ Below wr.heap.size wr wx)
          case first =>
           have hS : Below wr.heap.size wr wr.drew := (Below.refl _ _).drew
           refine wp_region_held_drew (S := fun w' => Below wr.heap.size wr w') (by kernel_rfl) hS (fun hS => ?_)
           obtain ⟨wd, hwd⟩ : ∃ wd, wr.drew = wd := ⟨_, rfl⟩
           rw [hwd] at hS ⊢
           clear hwd
           refine wpAnyH_take (i := 0) (v := .slice p4 (L).length c4) rfl (by kernel_rfl) (by kernel_rfl) (by kernel_rfl) (fun _ _ _ h => h) (.inl ⟨by kernel_rfl, fun w' hS => by go_simp⟩) hS ?_
           refine wpAnyH_take (i := 2) (v := .slice (some ⟨b, off, none⟩) xs.length cu) rfl (by kernel_rfl) (by kernel_rfl) (by kernel_rfl) (fun _ _ _ h => h) (.inl ⟨by kernel_rfl, fun w' hS => by go_simp⟩) hS ?_
           refine wpAnyH_take (i := 3) (v := .int .i64 (j : Nat)) rfl (by kernel_rfl) (by kernel_rfl) (by kernel_rfl) (fun _ _ _ h => h) (.inl ⟨by kernel_rfl, fun w' hS => by go_simp⟩) hS ?_
           refine wpAnyH_take (i := 4) (v := .pointer (some ⟨b, off + j, none⟩)) rfl (by kernel_rfl) (by kernel_rfl) (by kernel_rfl) (fun _ _ _ h => h) (.inl ⟨by kernel_rfl, fun w' hS => by go_simp⟩) hS ?_
           refine wpAnyH_take (i := 5) (v := .string (bs x)) rfl (by kernel_rfl) (by kernel_rfl) (by kernel_rfl) (fun _ _ _ h => h) (.inl ⟨by kernel_rfl, fun w' hS => by have hh := (hS.cell (p := ⟨b, off + j, none⟩) (cell_in HD.out)).trans HD.out; go_simp⟩) hS ?_
           refine wpAnyH_all (rs := [1, 10]) (by kernel_rfl) (by simp) ?_
           intro i' hi'
           rcases (by simpa using hi' : i' = 1 ∨ i' = 10) with rfl | rfl
           · clear hi'
             refine op_via rfl (by kernel_rfl) (fun K hK => ?_)
             go_simp
             refine (twin_law (L) _ _ (HS5.out.below hS) HZ4.out).mono ?_
             rintro e wq5 ⟨v5, rfl, ho5, hb⟩
             have hs5 := Sh.own ho5
             replace hS : Below wr.heap.size wr wq5 := hS.trans (hb.mono hS.size)
             refine hK _ _ ⟨hS, ?_⟩
             clear hK K hb ho5
             refine wpAnyH_all (rs := [6, 10]) (by kernel_rfl) (by simp) ?_
             intro i' hi'
             rcases (by simpa using hi' : i' = 6 ∨ i' = 10) with rfl | rfl
             · clear hi'
               refine op_via rfl (by kernel_rfl) (fun K hK => ?_)
               go_simp
               refine (Whole_pro (L) x v5 _ hs5 HF4.out).mono ?_
               rw [HC.out]
               rintro e wq7 ⟨rfl, hb⟩
               replace hS : Below wr.heap.size wr wq7 := hS.trans (hb.mono hS.size)
               refine hK _ _ ⟨hS, ?_⟩
               clear hK K hb hs5
               unfold chgE chgVal
               refine wpAnyH_take (i := 7) (v := .tuple #[.agg #[.int .i64 c.on, .int .i64 c.off, .int .i64 c.col], .int .i64 (n : Nat)]) rfl (by kernel_rfl) (by kernel_rfl) (by kernel_rfl) (fun _ _ _ h => h) (.inl ⟨by kernel_rfl, fun w' hS => by go_simp⟩) hS ?_
               refine wpAnyH_take (i := 8) (v := .agg #[.int .i64 c.on, .int .i64 c.off, .int .i64 c.col]) rfl (by kernel_rfl) (by kernel_rfl) (by kernel_rfl) (fun _ _ _ h => h) (.inl ⟨by kernel_rfl, fun w' hS => by go_simp⟩) hS ?_
               refine wpAnyH_take (i := 9) (v := .int .i64 (n : Nat)) rfl (by kernel_rfl) (by kernel_rfl) (by kernel_rfl) (fun _ _ _ h => h) (.inl ⟨by kernel_rfl, fun w' hS => by go_simp⟩) hS ?_
               refine wpAnyH_all (rs := [10]) (by kernel_rfl) (by simp) ?_
               intro i' hi'
               obtain rfl : i' = 10 := by simpa using hi'
               refine op_via rfl (by kernel_rfl) (fun K hK => ?_)
               go_simp
               obtain ⟨B, hB⟩ : ∃ B, (wq7).heap.size = B := ⟨_, rfl⟩
               have hA := (Below.refl _ (wq7)).alloc (Nat.le_refl _) (.cells #[.int .i64 0, .int .i64 0, .int .i64 0] 27)
               have hX := heap_alloc_new (wq7) (.cells #[.int .i64 0, .int .i64 0, .int .i64 0] 27)
               obtain ⟨wq9, hw7⟩ : ∃ w7, World.alloc (wq7) (.cells #[.int .i64 0, .int .i64 0, .int .i64 0] 27) = w7 := ⟨_, rfl⟩
               rw [hw7] at hA hX
               rw [hw7, hB]
               rw [hB] at hX hA
               have hBw : wr.heap.size ≤ B := by rw [← hB]; exact hS.size
               replace hS : Below wr.heap.size wr wq9 := hS.trans (hA.mono hBw)
               refine hK _ _ ⟨hS, ?_⟩
               clear hK K hA hw7 hB
               have HX := Lib.hid hX
               have HBw := Lib.hid hBw
               have z0 := frozen_of_row wq9 B 0 _ _ hX
               have z1 := frozen_of_row wq9 B 1 _ _ hX
               have z2 := frozen_of_row wq9 B 2 _ _ hX
               have y0 : World.cell? wq9 ⟨B, 0, none⟩ = some (.int .i64 0) := by rw [cell_of_row _ _ _ _ _ _ hX]; rfl
               have y1 : World.cell? wq9 ⟨B, 1, none⟩ = some (.int .i64 0) := by rw [cell_of_row _ _ _ _ _ _ hX]; rfl
               have y2 : World.cell? wq9 ⟨B, 2, none⟩ = some (.int .i64 0) := by rw [cell_of_row _ _ _ _ _ _ hX]; rfl
               clear hX hBw
               refine wpAnyH_all (rs := [11]) (by kernel_rfl) (by simp) ?_
               intro i' hi'
               obtain rfl : i' = 11 := by simpa using hi'
               refine op_via rfl (by kernel_rfl) (fun K hK => ?_)
               go_simp
               obtain ⟨w8, hw8, hr8, k0, k1, k2, hbW⟩ := set3 HX.out (.int .i64 c.on) (.int .i64 c.off) (.int .i64 c.col)
               rw [hw8]
               replace hS : Below wr.heap.size wr w8 := hS.trans (hbW.mono HBw.out)
               refine hK _ _ ⟨hS, ?_⟩
               clear hK K z0 z1 z2 y0 y1 y2 k0 k1 k2 hbW hw8
               refine wpAnyH_take (i := 12) (v := .int .i64 (n : Nat)) rfl (by kernel_rfl) (by kernel_rfl) (by kernel_rfl) (fun _ _ _ h => h) (.inl ⟨by kernel_rfl, fun w' hS => by go_simp⟩) hS ?_
               refine wpAnyH_done (by kernel_rfl) ?_ _
               go_wp2_with fail
               go_meet
               case rel => exact ⟨⟨B, rfl, hr8, HBw.out⟩, rfl, hS⟩
             · clear hi'
               refine op_via rfl (by kernel_rfl) (fun K hK => ?_)
               go_simp
               replace hs5 := hs5.below ((Below.refl _ (wq5)).alloc (Nat.le_refl _) (.cells #[.int .i64 0, .int .i64 0, .int .i64 0] 27))
               obtain ⟨B, hB⟩ : ∃ B, (wq5).heap.size = B := ⟨_, rfl⟩
               have hA := (Below.refl _ (wq5)).alloc (Nat.le_refl _) (.cells #[.int .i64 0, .int .i64 0, .int .i64 0] 27)
               have hX := heap_alloc_new (wq5) (.cells #[.int .i64 0, .int .i64 0, .int .i64 0] 27)
               obtain ⟨wq8, hw7⟩ : ∃ w7, World.alloc (wq5) (.cells #[.int .i64 0, .int .i64 0, .int .i64 0] 27) = w7 := ⟨_, rfl⟩
               rw [hw7] at hA hX hs5
               rw [hw7, hB]
               rw [hB] at hX hA
               have hBw : wr.heap.size ≤ B := by rw [← hB]; exact hS.size
               replace hS : Below wr.heap.size wr wq8 := hS.trans (hA.mono hBw)
               refine hK _ _ ⟨hS, ?_⟩
               clear hK K hA hw7 hB
               refine wpAnyH_all (rs := [6]) (by kernel_rfl) (by simp) ?_
               intro i' hi'
               obtain rfl : i' = 6 := by simpa using hi'
               refine op_via rfl (by kernel_rfl) (fun K hK => ?_)
               go_simp
               refine (Whole_pro (L) x v5 _ hs5 HF4.out).mono ?_
               rw [HC.out]
               rintro e wq10 ⟨rfl, hb⟩
               replace hX := (hb.block B (Array.getElem?_eq_some_iff.1 hX).1).trans hX
               replace hS : Below wr.heap.size wr wq10 := hS.trans (hb.mono hS.size)
               refine hK _ _ ⟨hS, ?_⟩
               clear hK K hb hs5
               unfold chgE chgVal
               refine wpAnyH_take (i := 7) (v := .tuple #[.agg #[.int .i64 c.on, .int .i64 c.off, .int .i64 c.col], .int .i64 (n : Nat)]) rfl (by kernel_rfl) (by kernel_rfl) (by kernel_rfl) (fun _ _ _ h => h) (.inl ⟨by kernel_rfl, fun w' hS => by go_simp⟩) hS ?_
               refine wpAnyH_take (i := 8) (v := .agg #[.int .i64 c.on, .int .i64 c.off, .int .i64 c.col]) rfl (by kernel_rfl) (by kernel_rfl) (by kernel_rfl) (fun _ _ _ h => h) (.inl ⟨by kernel_rfl, fun w' hS => by go_simp⟩) hS ?_
               refine wpAnyH_take (i := 9) (v := .int .i64 (n : Nat)) rfl (by kernel_rfl) (by kernel_rfl) (by kernel_rfl) (fun _ _ _ h => h) (.inl ⟨by kernel_rfl, fun w' hS => by go_simp⟩) hS ?_
               have HX := Lib.hid hX
               have HBw := Lib.hid hBw
               have z0 := frozen_of_row wq10 B 0 _ _ hX
               have z1 := frozen_of_row wq10 B 1 _ _ hX
               have z2 := frozen_of_row wq10 B 2 _ _ hX
               have y0 : World.cell? wq10 ⟨B, 0, none⟩ = some (.int .i64 0) := by rw [cell_of_row _ _ _ _ _ _ hX]; rfl
               have y1 : World.cell? wq10 ⟨B, 1, none⟩ = some (.int .i64 0) := by rw [cell_of_row _ _ _ _ _ _ hX]; rfl
               have y2 : World.cell? wq10 ⟨B, 2, none⟩ = some (.int .i64 0) := by rw [cell_of_row _ _ _ _ _ _ hX]; rfl
               clear hX hBw
               refine wpAnyH_all (rs := [11]) (by kernel_rfl) (by simp) ?_
               intro i' hi'
               obtain rfl : i' = 11 := by simpa using hi'
               refine op_via rfl (by kernel_rfl) (fun K hK => ?_)
               go_simp
               obtain ⟨w8, hw8, hr8, k0, k1, k2, hbW⟩ := set3 HX.out (.int .i64 c.on) (.int .i64 c.off) (.int .i64 c.col)
               rw [hw8]
               replace hS : Below wr.heap.size wr w8 := hS.trans (hbW.mono HBw.out)
               refine hK _ _ ⟨hS, ?_⟩
               clear hK K z0 z1 z2 y0 y1 y2 k0 k1 k2 hbW hw8
               refine wpAnyH_take (i := 12) (v := .int .i64 (n : Nat)) rfl (by kernel_rfl) (by kernel_rfl) (by kernel_rfl) (fun _ _ _ h => h) (.inl ⟨by kernel_rfl, fun w' hS => by go_simp⟩) hS ?_
               refine wpAnyH_done (by kernel_rfl) ?_ _
               go_wp2_with fail
               go_meet
               case rel => exact ⟨⟨B, rfl, hr8, HBw.out⟩, rfl, hS⟩
           · clear hi'
             refine op_via rfl (by kernel_rfl) (fun K hK => ?_)
             go_simp
             obtain ⟨B, hB⟩ : ∃ B, (wd).heap.size = B := ⟨_, rfl⟩
             have hA := (Below.refl _ (wd)).alloc (Nat.le_refl _) (.cells #[.int .i64 0, .int .i64 0, .int .i64 0] 27)
             have hX := heap_alloc_new (wd) (.cells #[.int .i64 0, .int .i64 0, .int .i64 0] 27)
             obtain ⟨wq6, hw7⟩ : ∃ w7, World.alloc (wd) (.cells #[.int .i64 0, .int .i64 0, .int .i64 0] 27) = w7 := ⟨_, rfl⟩
             rw [hw7] at hA hX
             rw [hw7, hB]
             rw [hB] at hX hA
             have hBw : wr.heap.size ≤ B := by rw [← hB]; exact hS.size
             replace hS : Below wr.heap.size wr wq6 := hS.trans (hA.mono hBw)
             refine hK _ _ ⟨hS, ?_⟩
             clear hK K hA hw7 hB
             refine wpAnyH_all (rs := [1]) (by kernel_rfl) (by simp) ?_
             intro i' hi'
             obtain rfl : i' = 1 := by simpa using hi'
             refine op_via rfl (by kernel_rfl) (fun K hK => ?_)
             go_simp
             refine (twin_law (L) _ _ (HS5.out.below hS) HZ4.out).mono ?_
             rintro e wq11 ⟨v5, rfl, ho5, hb⟩
             have hs5 := Sh.own ho5
             replace hX := (hb.block B (Array.getElem?_eq_some_iff.1 hX).1).trans hX
             replace hS : Below wr.heap.size wr wq11 := hS.trans (hb.mono hS.size)
             refine hK _ _ ⟨hS, ?_⟩
             clear hK K hb ho5
             refine wpAnyH_all (rs := [6]) (by kernel_rfl) (by simp) ?_
             intro i' hi'
             obtain rfl : i' = 6 := by simpa using hi'
             refine op_via rfl (by kernel_rfl) (fun K hK => ?_)
             go_simp
             refine (Whole_pro (L) x v5 _ hs5 HF4.out).mono ?_
             rw [HC.out]
             rintro e wq12 ⟨rfl, hb⟩
             replace hX := (hb.block B (Array.getElem?_eq_some_iff.1 hX).1).trans hX
             replace hS : Below wr.heap.size wr wq12 := hS.trans (hb.mono hS.size)
             refine hK _ _ ⟨hS, ?_⟩
             clear hK K hb hs5
             unfold chgE chgVal
             refine wpAnyH_take (i := 7) (v := .tuple #[.agg #[.int .i64 c.on, .int .i64 c.off, .int .i64 c.col], .int .i64 (n : Nat)]) rfl (by kernel_rfl) (by kernel_rfl) (by kernel_rfl) (fun _ _ _ h => h) (.inl ⟨by kernel_rfl, fun w' hS => by go_simp⟩) hS ?_
             refine wpAnyH_take (i := 8) (v := .agg #[.int .i64 c.on, .int .i64 c.off, .int .i64 c.col]) rfl (by kernel_rfl) (by kernel_rfl) (by kernel_rfl) (fun _ _ _ h => h) (.inl ⟨by kernel_rfl, fun w' hS => by go_simp⟩) hS ?_
             refine wpAnyH_take (i := 9) (v := .int .i64 (n : Nat)) rfl (by kernel_rfl) (by kernel_rfl) (by kernel_rfl) (fun _ _ _ h => h) (.inl ⟨by kernel_rfl, fun w' hS => by go_simp⟩) hS ?_
             have HX := Lib.hid hX
             have HBw := Lib.hid hBw
             have z0 := frozen_of_row wq12 B 0 _ _ hX
             have z1 := frozen_of_row wq12 B 1 _ _ hX
             have z2 := frozen_of_row wq12 B 2 _ _ hX
             have y0 : World.cell? wq12 ⟨B, 0, none⟩ = some (.int .i64 0) := by rw [cell_of_row _ _ _ _ _ _ hX]; rfl
             have y1 : World.cell? wq12 ⟨B, 1, none⟩ = some (.int .i64 0) := by rw [cell_of_row _ _ _ _ _ _ hX]; rfl
             have y2 : World.cell? wq12 ⟨B, 2, none⟩ = some (.int .i64 0) := by rw [cell_of_row _ _ _ _ _ _ hX]; rfl
             clear hX hBw
             refine wpAnyH_all (rs := [11]) (by kernel_rfl) (by simp) ?_
             intro i' hi'
             obtain rfl : i' = 11 := by simpa using hi'
             refine op_via rfl (by kernel_rfl) (fun K hK => ?_)
             go_simp
             obtain ⟨w8, hw8, hr8, k0, k1, k2, hbW⟩ := set3 HX.out (.int .i64 c.on) (.int .i64 c.off) (.int .i64 c.col)
             rw [hw8]
             replace hS : Below wr.heap.size wr w8 := hS.trans (hbW.mono HBw.out)
             refine hK _ _ ⟨hS, ?_⟩
             clear hK K z0 z1 z2 y0 y1 y2 k0 k1 k2 hbW hw8
             refine wpAnyH_take (i := 12) (v := .int .i64 (n : Nat)) rfl (by kernel_rfl) (by kernel_rfl) (by kernel_rfl) (fun _ _ _ h => h) (.inl ⟨by kernel_rfl, fun w' hS => by go_simp⟩) hS ?_
             refine wpAnyH_done (by kernel_rfl) ?_ _
             go_wp2_with fail
             go_meet
             case rel => exact ⟨⟨B, rfl, hr8, HBw.out⟩, rfl, hS⟩
          case rest =>
           obtain ⟨⟨B, rfl, hr8, hBw⟩, rfl, hS⟩ := hcut
           obtain ⟨w8, hw8⟩ : ∃ w8 : World, w8 = wc := ⟨_, rfl⟩
           subst hw8
           have HX8 := Lib.hid hr8
           have HB8 := Lib.hid hS
           have d8 := (hS.cell (p := ⟨b, off + j, none⟩) (cell_in HD.out)).trans HD.out
           have HWR := Lib.hid (Whole_ref (L) x (.slice p4 (L).length c4) w8 (HS5.out.below HB8.out) HF4.out)
           rw [HC.out] at HWR
           unfold chgE chgVal at HWR
           clear hr8 hS hBw
           go_wp2_with fail
           refine HWR.out.mono ?_
           rintro e w9 ⟨rfl, hb⟩
           have hx9 := (hb.block B (Array.getElem?_eq_some_iff.1 HX8.out).1).trans HX8.out
           have hlt9 := (Array.getElem?_eq_some_iff.1 hx9).1
           have y0 : w9.cell? ⟨B, 0, none⟩ = some (.int .i64 c.on) := by rw [cell_of_row _ _ _ _ _ _ hx9]; rfl
           have y1 : w9.cell? ⟨B, 1, none⟩ = some (.int .i64 c.off) := by rw [cell_of_row _ _ _ _ _ _ hx9]; rfl
           have y2 : w9.cell? ⟨B, 2, none⟩ = some (.int .i64 c.col) := by rw [cell_of_row _ _ _ _ _ _ hx9]; rfl
           have HB9 := Lib.hid (HB8.out.trans (hb.mono HB8.out.size))
           have HA9 := Lib.hid (HB9.out.alloc HB9.out.size (.cells #[.int .i64 c.on, .int .i64 c.off, .int .i64 c.col] 27))
           clear hb hx9 d8
           go_wp2_with fail
           refine (same_law c _).mono ?_
           rintro e w10 ⟨rfl, hb⟩
           have HB10 := Lib.hid (HA9.out.trans (hb.mono HA9.out.size))
           clear hb y0 y1 y2 hlt9
           go_wp2_with fail
           go_roundw
           case rel => exact ⟨j + 1, by omega, by go_num, HBW.out.trans (HB10.out.mono HBW.out.size)⟩
           case measure => simp [intOf]; omega
        · have hge : ¬ (j : Int) < xs.length := by omega
          obtain ⟨w5, hw5⟩ : ∃ w5 : World, w5 = wr := ⟨_, rfl⟩
          subst hw5
          obtain ⟨⟨lk, a1, a2⟩, hn⟩ : ∃ c, nestM (L) xs = c := ⟨_, rfl⟩
          have HN := Lib.hid hn
          have ta1 : ((a1 : Int) != a1) = false := by simp
          have ta2 : ((a2 : Int) != a2) = false := by simp
          clear hn
          go_wp2_with fail
          refine (twin_law (L) _ w5 HS5.out HZ4.out).mono ?_
          rintro e w6 ⟨v6, rfl, ho6, hb⟩
          have HS6 := Lib.hid (Sh.own ho6)
          have HB6 := Lib.hid (HB5.out.trans (hb.mono HB5.out.size))
          have HQ6 := Lib.hid hb
          have HL6 := Lib.hid (HU.out.below HB6.out).lies
          have E1 := Lib.hid (World.ownsRow_lit (e := 9) (size := 1) (base := w6.heap.size) w6 #[] 0 (Nat.le_refl _) (Nat.zero_le _) rfl)
          have E1s := Lib.hid (show w6.heap.size ≤ (w6.alloc (.cells #[] 9)).heap.size by simp)
          clear hb ho6
          go_wp2_with (at_builtin; go_loud (refine wpList_append_lies' rfl _ _ 39 rfl w6.heap.size 9 i0 (.string .empty) 1 16 Tryz.underlying39 hi0 hz0 hz1 hz2 rfl (by decide) _ _ _ rfl E1.out _ _ _ rfl (HL6.out.alloc _) M1.out M2.out E1s.out ?_); intro v7 w7 hown7 hg7; have HO7 := Lib.hid hown7; have B7 := Lib.hid (((Below.refl w6.heap.size w6).alloc (Nat.le_refl _) _).grown hg7 E1s.out (fun k hk => (E1.out.lt k hk).1)); clear hown7 hg7)
          have HB7 := Lib.hid (HB6.out.trans (B7.out.mono HB6.out.size))
          have hr7 : RdS w7 v7 xs := RdS.own (by have := HO7.out; rwa [Nat.zero_add] at this)
          refine (Nest_pro (L) xs v6 v7 w7 (HS6.out.below B7.out) HF4.out hr7).mono ?_
          rw [HN.out]
          unfold lkE lkVal
          rintro e w8 ⟨rfl, hb⟩
          have HB8 := Lib.hid (HB7.out.trans (hb.mono HB7.out.size))
          have HA8 := Lib.hid (HB8.out.alloc HB8.out.size (.cells #[.int .i64 lk.att, .int .i64 lk.col] 46))
          have HX8 := Lib.hid (heap_alloc_new w8 (.cells #[.int .i64 lk.att, .int .i64 lk.col] 46))
          have hbb : Below w5.heap.size w5 (w8.alloc (.cells #[.int .i64 lk.att, .int .i64 lk.col] 46)) := by
            have q7 := HQ6.out.trans (B7.out.mono HQ6.out.size)
            have q8 := q7.trans (hb.mono q7.size)
            exact q8.alloc q8.size _
          have HBB := Lib.hid hbb
          clear hb hr7 hbb
          go_wp2_with fail
          refine (Nest_ref (L) xs _ _ _ (HS5.out.below HBB.out) HF4.out (HU.out.below HA8.out)).mono ?_
          rw [HN.out]
          unfold lkE lkVal
          rintro e w9 ⟨rfl, hb⟩
          have hx9 := (hb.block w8.heap.size (Array.getElem?_eq_some_iff.1 HX8.out).1).trans HX8.out
          have hlt9 := (Array.getElem?_eq_some_iff.1 hx9).1
          have y0 : w9.cell? ⟨w8.heap.size, 0, none⟩ = some (.int .i64 lk.att) := by rw [cell_of_row _ _ _ _ _ _ hx9]; rfl
          have y1 : w9.cell? ⟨w8.heap.size, 1, none⟩ = some (.int .i64 lk.col) := by rw [cell_of_row _ _ _ _ _ _ hx9]; rfl
          have HB9 := Lib.hid (HA8.out.trans (hb.mono HA8.out.size))
          have HA9 := Lib.hid (HB9.out.alloc HB9.out.size (.cells #[.int .i64 lk.att, .int .i64 lk.col] 46))
          clear hb hx9
          go_wp2_with fail
          refine (look_law lk _).mono ?_
          rintro e w10 ⟨rfl, hb⟩
          have HB10 := Lib.hid (HA9.out.trans (hb.mono HA9.out.size))
          clear hb y0 y1 hlt9
          go_wp2_with fail
          go_roundw
          case rel => exact ⟨1 + 1, by omega, by go_num, HB10.out⟩
          case measure => simp [intOf]
    · go_wp2_with fail
      refine (awake_law wo (HT.out.at HB.out)).mono ?_
      rintro e w4 ⟨rfl, hb⟩
      have HB4 := Lib.hid (HB.out.trans (hb.mono HB.out.size))
      clear hb
      go_wp2_with fail
      go_ret
      exact ⟨rfl, HB4.out⟩

set_option maxRecDepth 100000 in
theorem contract (H : Type) (enc : TypeId × Value → H) (W : World) (base : Nat) (args : Array Value) (ds gs : List (DataW H)) (before : List MemPlace)
    (hval : ∀ (j : Nat) t v, Tryz.f4.params[j]? = some t → args[j]? = some v → Value.okWide Tryz.prog W .any base t v)
    (hW : DataW.Whole enc Tryz.prog Tryz.f4.params.toList Rows.styleNestsSpec.vars false W args.toList ds gs before) (hsz0 : (DataW.weightsEach Tryz.prog (Tryz.f4.params.toList ++ Rows.styleNestsSpec.plain.varTypes Tryz.prog) (ds ++ gs)).all (· ≤ reachBytes) = true) (hT : Tabs W) :
    Calls Tryz.prog 4 args W fun e W' => ∃ v, e = .returned v ∧ Rows.styleNestsSpec.post enc Tryz.prog Tryz.f4 false true false false W args v W' := by
  have hW' := hW
  obtain ⟨p, q, hA0, hV, rfl, hfz, hnd⟩ := hW
  have hA : DataW.TrodAll enc Tryz.prog W 0 (fun _ => true) true Tryz.f4.params.toList args.toList ds p := hA0
  rw [Tryz.params4] at hA hval
  have hsz := hsz0
  rw [Tryz.params4] at hsz
  clear hsz0
  obtain ⟨v0, vs0, d0, ds0, p0, q0, hargs, rfl, rfl, h0, r0⟩ := trodAll_cons hA
  obtain ⟨v1, vs1, d1, ds1, p1, q1, rfl, rfl, rfl, h1, r1⟩ := trodAll_cons r0
  obtain ⟨rfl, rfl, rfl⟩ := trodAll_nil r1
  obtain rfl : args = #[v0, v1] := by cases args; simp_all
  obtain ⟨rfl, rfl⟩ := trodVars_none hV
  have hk0 := h0
  obtain ⟨l0, hR0, hD0⟩ := sheet_read h0 (okWide_slice Tryz.underlying22 (hval 0 22 v0 rfl rfl))
  have hk1 := h1
  obtain ⟨l1, hR1, hD1⟩ := names_read h1 (okWide_slice Tryz.underlying39 (hval 1 39 v1 rfl rfl))
  clear hA0
  have size0 := sheet_reach hsz (j := 0) rfl rfl hD0
  have size1 := names_reach hsz (j := 1) rfl rfl hD1
  refine (walk v0 l0 v1 l1 W hR0 size0 hR1 size1 hT).mono fun e W' ⟨he, hg⟩ => ?_
  subst he
  have hlt := hW'.lt
  exact ⟨_, rfl, post_of_below (pa := (p0 ++ (p1 ++ []))) (pv := []) hW' (fun _ _ _ => trodAll_cons_mk (shut_bool Tryz.underlying4 _) trodAll_mk0) (fun sp hsp => (trodAll_cons_mk (Go.WideElems.Trod_stays (by kernel_rfl) (by kernel_rfl) (of_decide_eq_true (by kernel_rfl)) hk0 (fun p hp => hg.same (hlt p (by simp [hp]))) (fun p hp => hsp p (by simp [hp]))) (trodAll_cons_mk (Go.WideElems.Trod_stays (by kernel_rfl) (by kernel_rfl) (of_decide_eq_true (by kernel_rfl)) hk1 (fun p hp => hg.same (hlt p (by simp [hp]))) (fun p hp => hsp p (by simp [hp]))) trodAll_mk0))) (fun _ _ => rfl) rfl hg (ok_one (by kernel_rfl) rfl (okWide_bool_mk Tryz.underlying4 _))⟩

theorem witness_row (os : Os) {H : Type} (enc : TypeId × Value → H) :
    (OpenSpec.ofChange Rows.styleNestsSpec).preRow enc Tryz.prog Tryz.f4 Rows.styleNestsRow.domain false Rows.styleNestsRow.laid ((laidWorld os).forCall (fun _ _ => 0) ⟨#[], #[.slice none 0 0, .slice none 0 0], []⟩).memory #[.slice none 0 0, .slice none 0 0] := by
  have hw : (DataW.whole enc Tryz.prog ((laidWorld os).forCall (fun _ _ => 0) ⟨#[], #[.slice none 0 0, .slice none 0 0], []⟩).memory Tryz.f4.params.toList Rows.styleNestsSpec.vars false (#[.slice none 0 0, .slice none 0 0] : Array Value).toList 8).map (fun x => (x.1, x.2.1)) =
      some ([.nil, .nil], []) := by kernel_rfl
  obtain ⟨⟨x1, x2, x3⟩, hx, hx1⟩ := Option.map_eq_some_iff.1 hw
  simp only [Prod.mk.injEq] at hx1
  obtain ⟨rfl, rfl⟩ := hx1
  exact OpenSpec.preRow_of_cond 8 hx (by kernel_rfl) (fun k hk => by cases hk) (by kernel_rfl) (laid_met os _)

set_option maxRecDepth 100000 in
theorem lifted (os : Os) (started : os.Started) (H : Type) (enc : TypeId × Value → H) (F : Stop.Interp) :
    ReturnsInHanded {} Tryz.checked os 4 .any ((OpenSpec.ofChange Rows.styleNestsSpec).preRow enc Tryz.prog Tryz.f4 Rows.styleNestsRow.domain false Rows.styleNestsRow.laid) (((OpenSpec.ofChange Rows.styleNestsSpec).at F).post enc Tryz.prog Tryz.f4 false true false false) := by
  refine returnsInHanded_of_row (C := Tryz.checked) (s := (OpenSpec.ofChange Rows.styleNestsSpec)) own started (by kernel_rfl) Tryz.func4
    (witness_row_at (enc := enc) (C := Tryz.checked) false (laidWorld os) #[.slice none 0 0, .slice none 0 0] rfl (by kernel_rfl) (by kernel_rfl) (by kernel_rfl) (witness_row os enc)) ?_
  intro W base args ds gs before hval hW _ hcond hsz hL hS _
  exact contract H enc W base args ds gs before hval hW hsz (tabs_of hL hS)

set_option maxHeartbeats 16000000 in
theorem closed : joinedFacts Tryz.pinned.checked.prog 4 Tryz.f4 ((OpenSpec.ofChange Rows.styleNestsSpec)).bare Rows.styleNestsRow = true := by
  unfold joinedFacts
  repeat' (with_reducible refine Bool.and_eq_true_iff.2 ⟨?_, ?_⟩)
  all_goals (as_aux_lemma => kernel_rfl)
theorem named : Tryz.pinned.checked.prog.funcNamed Rows.styleNestsRow.func = some 4 := by kernel_rfl
theorem inst : (Tryz.f4).isInstance Tryz.pinned.checked.prog Rows.styleNestsRow.origin Rows.styleNestsRow.targs := of_decide_eq_true (by kernel_rfl)
theorem wrap : (Tryz.f4).isWrapper Tryz.pinned.checked.prog Rows.styleNestsRow.wrapper Rows.styleNestsRow.mainSum := by
  unfold Func.isWrapper
  first | (rw [if_pos (by decide +kernel)]; kernel_rfl) | (rw [if_neg (by decide +kernel)]; exact ⟨rfl, rfl⟩)
theorem row : Rows.StyleNestsSaid :=
  OpenClaim.holds_of_cond 4 Tryz.f4 rfl rfl rfl rfl rfl rfl rfl ⟨rfl, rfl, rfl, rfl, rfl⟩ rfl rfl rfl rfl rfl named Tryz.func4 closed inst wrap
    (fun os started H enc _ F => by rw [OpenClaim.pre_eq_preRow]; exact lifted os started H enc F)

theorem plain (f : FuncId) (fn : Func) (hf : Tryz.pinned.checked.prog.funcNamed Rows.styleNestsRow.func = some f) (hfn : Tryz.pinned.checked.prog.funcs[f]? = some fn) :
    true = Tryz.pinned.checked.prog.looks [] ∧ ∀ (j : Nat) t, fn.params[j]? = some t → Tryz.pinned.checked.prog.wantsStandIn t = false := by
  obtain rfl : f = 4 := Option.some.inj ((show Tryz.prog.funcNamed Rows.styleNestsRow.func = some 4 by kernel_rfl).symm.trans hf) |>.symm
  obtain rfl : fn = Tryz.f4 := (Option.some.inj (Tryz.func4.symm.trans hfn)).symm
  refine ⟨by kernel_rfl, fun j t ht => ?_⟩
  rw [Tryz.params4] at ht
  have hm : t ∈ [22, 39] := by simpa using Array.mem_of_getElem? ht
  simp only [List.mem_cons, List.mem_nil_iff, or_false] at hm
  rcases hm with rfl | rfl
  · exact (show Tryz.prog.wantsStandIn 22 = false by kernel_rfl)
  · exact (show Tryz.prog.wantsStandIn 39 = false by kernel_rfl)

theorem proved : Rows.StyleNestsCardSaid :=
  Claim7.holds_tied_plain_at .later [] _ _ _ _ row (fun _ h => by cases h) (by kernel_rfl) (fun _ h => by cases h) styleNests_row_tie rfl ⟨rfl, rfl⟩ (by kernel_rfl) rfl plain (by kernel_rfl)
end Go.Proofs.YtceanagnkcejgaaGreatDoor.styleNests
