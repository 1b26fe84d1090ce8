/- Layer 12: the program's Columns; the law's columns of like ones. -/
import Derived.Test.YtadecjjbpoaooaaUt
namespace Go.Proofs.Ytadecjjbpoaooaa.Tb
open Go.RowKit Go.Maps
set_option linter.unusedVariables false
set_option linter.unusedSimpArgs false
theorem enters_noWidth : Enters 26 := enters Try.func26 (by kernel_rfl) (by kernel_rfl)
theorem okW_within (x : Int) : within x 0 200 = okW x := rfl
set_option maxRecDepth 100000 in
theorem noWidth_pro (x : Int) (w : World) : Calls Try.prog 26 #[.int .i64 x] w fun e w' => e = .returned (.bool (!okW x)) ∧ w = w' := by
  have HW := Lib.hid (within_pro x 0 200 w)
  rw [okW_within] at HW
  go_enter Try.func26, Try.ntmps26
  go_wp2_with fail
  refine HW.out.mono ?_
  rintro e w1 ⟨rfl, rfl⟩
  go_wp2_with fail
  go_ret
  exact ⟨rfl, rfl⟩
def IdxZ (l : List Int) (w : World) (e : Ending) (w' : World) : Prop := w = w' ∧ ∃ i : Int, e = .returned (.int .i64 i) ∧ (l.any (fun x => !okW x) = decide (0 ≤ i))
set_option maxRecDepth 100000 in
set_option maxHeartbeats 1000000 in
theorem indexZ_pro {P : Nat → Prop} (l : List Int) (v : Value) (w : World) (h : RdZ P w v l) : Calls Try.prog 35 #[v, .func (.func 26) #[] #[]] w (IdxZ l w) := by
  obtain ⟨pa, cap, rfl, h1, h2⟩ := sliceZ h
  have HH := Lib.hid h
  obtain ⟨n, hn⟩ : ∃ n, l.length = n := ⟨_, rfl⟩
  have HN := Lib.hid hn
  rw [hn] at HH h1 ⊢
  have hn62 : n ≤ 9223372036854775807 := by omega
  clear h hn h1
  go_enter Try.func35, Try.ntmps35
  go_wp2_with fail
  go_loop [8] (fun i => ∃ k : Nat, i = .int .i64 k ∧ k ≤ n ∧ Hid (∀ j (hj : j < l.length), j < k → okW l[j] = true)) (fun i => n - (intOf i).toNat)
  case atStart => exact ⟨0, rfl, Nat.zero_le _, Lib.hid (fun j _ h => absurd h (Nat.not_lt_zero _))⟩
  case round =>
    obtain ⟨k, rfl, hk, HK⟩ := hrel
    by_cases hlt : k < n
    · have hkl : k < l.length := by rw [HN.out]; exact hlt
      obtain ⟨b, off, rfl, hc⟩ := HH.out.cell hkl
      obtain ⟨x, hx⟩ : ∃ x, l[k] = x := ⟨_, rfl⟩
      rw [hx] at hc
      have HX := Lib.hid hx
      have HC := Lib.hid (noWidth_pro x w)
      obtain ⟨z, hz⟩ : ∃ z, okW x = z := ⟨_, rfl⟩
      rw [hz] at HC
      have HZ := Lib.hid hz
      have hE := enters_noWidth #[.int .i64 x] w
      have k1 : (k : Int) < n := by omega
      have HLT := Lib.hid hlt
      clear hx hz hlt
      cases z with
      | false =>
        go_wp2_with fail
        refine HC.out.mono ?_
        rintro e w1 ⟨rfl, rfl⟩
        go_wp2_with fail
        go_ret
        exact ⟨rfl, _, rfl, by rw [decide_eq_true (by omega : (0 : Int) ≤ k)]; exact List.any_eq_true.2 ⟨_, List.getElem_mem hkl, by rw [HX.out, HZ.out]; rfl⟩⟩
      | true =>
        go_wp2_with fail
        refine HC.out.mono ?_
        rintro e w1 ⟨rfl, rfl⟩
        go_wp2_with fail
        go_round
        case measure => have := HLT.out; simp [intOf]; omega
        case rel =>
          refine ⟨k + 1, by go_num, HLT.out, Lib.hid (fun j hj hjk => ?_)⟩
          rcases Nat.lt_or_ge j k with h | h
          · exact HK.out j hj h
          · obtain rfl : j = k := by omega
            rw [HX.out]; exact HZ.out
    · obtain rfl : k = n := by omega
      have hz1 : ¬ (k : Int) < k := by omega
      clear hlt
      go_wp2_with fail
      go_ret
      refine ⟨rfl, _, rfl, ?_⟩
      have : l.any (fun x => !okW x) = false := by
        rw [List.any_eq_false]
        intro x hx
        obtain ⟨j, hj, rfl⟩ := List.mem_iff_getElem.1 hx
        simp [HK.out j hj (by rw [← HN.out]; exact hj)]
      rw [this]; rfl
set_option maxRecDepth 100000 in
theorem containsZ_pro {P : Nat → Prop} (l : List Int) (v : Value) (w : World) (h : RdZ P w v l) : Calls Try.prog 25 #[v, .func (.func 26) #[] #[]] w fun e w' => e = .returned (.bool (l.any (fun x => !okW x))) ∧ w = w' := by
  obtain ⟨pa, cap, rfl, h1, h2⟩ := sliceZ h
  have HI := Lib.hid (indexZ_pro l _ w h)
  clear h h1 h2
  go_enter Try.func25, Try.ntmps25
  go_wp2_with fail
  refine HI.out.mono ?_
  rintro e w1 ⟨rfl, i, rfl, hi⟩
  have HE := Lib.hid hi
  clear hi
  go_wp2_with fail
  go_ret
  exact ⟨by rw [HE.out]; rfl, rfl⟩
theorem make_cols (N : Nat) (hN : N ≤ 1000) (w : World) : (Instr.makeSlice 23 (.int .i64 (N : Int)) (.int .i64 (N : Int))).run Try.prog w = .ok (.slice (some ⟨w.heap.size, 0, none⟩) N N) (w.alloc (.cells (madeCells #[.int .i64 0, .int .i64 0] (N * 2)) 53)) := by
  obtain ⟨i0, hi0, hz0, hz1, hz2⟩ := info_parts infoC
  have h := run_make (P := Try.prog) w 23 53 i0 (.agg #[.int .i64 0, .int .i64 0]) Try.underlying23 hi0 hz0 .i64 .i64 (N : Int) (N : Int) (by omega) (by omega) (by rw [hz2]; omega) (by omega)
  rw [hz1, show (N : Int).toNat = N by omega] at h
  exact h
def zeroC (N : Nat) : List (Int × Int) := List.replicate N (0, 0)
theorem rowsC_zero : ∀ N : Nat, rowsC (zeroC N) = List.replicate (N * 2) (.int .i64 0)
  | 0 => rfl
  | N + 1 => by
    have := rowsC_zero N
    unfold zeroC rowsC at this ⊢
    rw [List.replicate_succ, List.flatMap_cons, this, show (N + 1) * 2 = N * 2 + 1 + 1 by omega, List.replicate_succ, List.replicate_succ]
    rfl
theorem made_cols (N : Nat) : (madeCells #[.int .i64 0, .int .i64 0] (N * 2)).toList = rowsC (zeroC N) := by
  rw [rowsC_zero]
  apply List.ext_getElem?
  intro j
  simp [madeCells]
  by_cases h : j < N * 2
  · have : j % 2 = 0 ∨ j % 2 = 1 := by omega
    rcases this with e | e <;> simp [h, e]
  · simp [h]
theorem rowsC_set : ∀ (l : List (Int × Int)) (i : Nat) (h : i < l.length) (c : Int × Int), ((rowsC l).set (i * 2) (.int .i64 c.1)).set (i * 2 + 1) (.int .i64 c.2) = rowsC (l.set i c)
  | [], i, h, _ => absurd h (by simp)
  | r :: l, 0, _, c => by simp [rowsC, colRow]
  | r :: l, i + 1, h, c => by
    have ih := rowsC_set l i (by simpa using h) c
    have e : ∀ (a : Int × Int) (m : List (Int × Int)), rowsC (a :: m) = colRow a ++ rowsC m := fun a m => by simp [rowsC]
    rw [List.set_cons_succ, e, e, List.set_append_right _ _ (by simp [colRow]; omega), List.set_append_right _ _ (by simp [colRow]; omega), show (colRow r).length = 2 from rfl, show (i + 1) * 2 - 2 = i * 2 by omega, show (i + 1) * 2 + 1 - 2 = i * 2 + 1 by omega, ih]
/-- What Columns answers. -/
def ColsPost (ws : List Int) (wide : Int) (w : World) (e : Ending) (w' : World) : Prop := ∃ v, e = .returned (.tuple #[v, .int .i64 (colsE ws wide)]) ∧ RdC (w.heap.size ≤ ·) w' v (colsL ws wide) ∧ Below w.heap.size w w'
theorem cols_bad {ws : List Int} {wide : Int} {w w' : World} (h : colsE ws wide = 1) (hb : Below w.heap.size w w') : ColsPost ws wide w (.returned (.tuple #[.slice none 0 0, .int .i64 1])) w' :=
  ⟨.slice none 0 0, by rw [h], ⟨none, 0, by unfold colsL; rw [h]; rfl, by unfold colsL; rw [h]; exact Nat.le_refl _, Nat.zero_le _, fun j hj => absurd hj (by unfold colsL; rw [h]; simp)⟩, hb⟩
/-- The columns so far, and empty ones. -/
def partC (gap : Int) (zs : List Int) (k : Nat) : List (Int × Int) := colsAt gap 0 (zs.take k) ++ zeroC (zs.length - k)
theorem partC_len (gap : Int) (zs : List Int) (k : Nat) (h : k ≤ zs.length) : (partC gap zs k).length = zs.length := by
  simp [partC, colsAt_len, zeroC]
  omega
theorem partC_set (gap : Int) (zs : List Int) (k : Nat) (h : k < zs.length) : (partC gap zs k).set k (sumZ (zs.take k) + gap * k, zs[k]) = partC gap zs (k + 1) := by
  unfold partC
  have hl : (colsAt gap 0 (zs.take k)).length = k := by rw [colsAt_len, List.length_take]; omega
  rw [List.set_append_right _ _ (by omega), hl, Nat.sub_self, List.take_succ_eq_append_getElem h, colsAt_snoc, List.append_assoc]
  congr 1
  rw [show zs.length - k = (zs.length - (k + 1)) + 1 by omega]
  unfold zeroC
  rw [List.replicate_succ, List.set_cons_zero, List.length_take, Nat.min_eq_left (by omega)]
  simp
end Go.Proofs.Ytadecjjbpoaooaa.Tb
