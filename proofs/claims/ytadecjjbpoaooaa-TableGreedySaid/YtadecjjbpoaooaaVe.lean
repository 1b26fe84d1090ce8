/- Layer 12: the law's letters; the document's Plain. -/
import Derived.Test.YtadecjjbpoaooaaUq
import Derived.Test.YtadecjjbpoaooaaUc
import Derived.Deep.RegionLaw
import Derived.Deep.CutRange
namespace Go.Proofs.Ytadecjjbpoaooaa.Tb
open Go.RowKit Go.Maps
set_option linter.unusedVariables false
set_option linter.unusedSimpArgs false
def letG (s : ByteArray) (i : Nat) : Gl := ⟨s.extract i (i + 1), 1, 0, 7, 0⟩
def letsK (s : ByteArray) (k : Nat) : List Gl := (List.range k).map (letG s)
def letsL (s : ByteArray) : List Gl := letsK s s.size
theorem letsK_len (s : ByteArray) (k : Nat) : (letsK s k).length = k := by simp [letsK]
theorem letsK_succ (s : ByteArray) (k : Nat) : rowsG (letsK s (k + 1)) = rowsG (letsK s k) ++ glRow (letG s k) := by
  simp [letsK, List.range_succ, rowsG]
set_option maxRecDepth 100000 in
theorem plain_ref (w : World) : Calls Try.prog 37 #[] w (fun e w' => e = .returned (.agg #[.int .i64 0, .int .i64 7]) ∧ Below w.heap.size w w') := by
  go_enter Try.func37, Try.ntmps37
  go_wp2_with fail
  refine bodyPost_ret (v := .agg #[.int .i64 0, .int .i64 7]) ?_ rfl ⟨rfl, below_box _ _⟩
  exact results_cell_row rfl _ _ w.heap.size 38 #[.int .i64 0, .int .i64 7] _ _ rfl (heap_alloc_new w _) Try.underlying38 rfl (by kernel_rfl)
set_option maxRecDepth 100000 in
set_option maxHeartbeats 4000000 in
theorem letters_law (s : ByteArray) (hs : s.size ≤ 1000) (w : World) : Calls Try.prog 28 #[.string s] w (MakesR (letsL s) w) := by
  obtain ⟨i0, hi0, hz0, hz1, hz2⟩ := info_parts infoG
  obtain ⟨n, hn⟩ : ∃ n, s.size = n := ⟨_, rfl⟩
  have HN := Lib.hid hn
  rw [hn] at hs
  have mixed : Try.prog.follows .mixedOrders = true := by kernel_rfl
  go_enter Try.func28, Try.ntmps28
  go_wp2_with fail
  go_loopw [3, 4] (fun v i wr => ∃ (k : Nat), i = .int .i64 k ∧ k ≤ n ∧ Hid (wr.ownsRow w.heap.size 40 5 v k (rowsG (letsK s k))) ∧ Hid (Below w.heap.size w wr)) (fun _ i _ => n - (intOf i).toNat)
  case atStart => exact ⟨0, rfl, Nat.zero_le _, Lib.hid (World.ownsRow_nil _ _ _ _), Lib.hid (Below.refl _ _)⟩
  case round =>
    obtain ⟨k, rfl, hk, HO, HB⟩ := hrel
    by_cases hlt : k < n
    · have HOD := Lib.hid (show wr.drew.ownsRow w.heap.size 40 5 u3 k (rowsG (letsK s k)) from HO.out)
      have k1 : (k : Int) < n := by omega
      have HLT := Lib.hid hlt
      have HBD := Lib.hid (show Below w.heap.size w wr.drew from HB.out.drew)
      have L1 := Lib.hid (show k + 1 ≤ maxLen by unfold maxLen; omega)
      have L2 := Lib.hid (show (k + 1) * 48 ≤ 140737488355328 by omega)
      have sw : IntKind.i64.wrap ((k : Int) + 1) = ((k + 1 : Nat) : Int) := by rw [IntWalk.i64_in _ (by omega)]; omega
      have kN : k + 1 ≤ n := hlt
      have kZ : ((k + 1 : Nat) : Int) ≤ (n : Int) := by omega
      have kk : (k : Int) ≤ ((k + 1 : Nat) : Int) := by omega
      have hsl : ∀ W : World, (Instr.slice 9 (.string s) (some (.int .i64 (k : Int))) (some (.int .i64 ((k : Int) + 1))) none).run Try.prog W = .ok (.string (s.extract k (k + 1))) W := fun W => by
        have h := run_slice_string (P := Try.prog) W 9 s .i64 .i64 (k : Int) ((k : Int) + 1) Try.underlying9 (by omega) (by omega) (by omega)
        rw [show ((k : Int) + 1).toNat = k + 1 by omega, show (k : Int).toNat = k by omega] at h
        exact h
      go_upto_region 5 with fail
      go_region_law (first
        | (go_simp; go_at_call 37; refine (plain_ref _).mono ?_; rintro e w2 ⟨rfl, h2⟩; have HB2 := Lib.hid (HBD.out.trans (h2.mono HBD.out.size)); have HO2 := Lib.hid (own_below HOD.out h2); clear h2)
        | (refine step_append_lies _ rfl (.tmp 11) (.tmp 19) 32 rfl w.heap.size 40 i0 _ 5 48 Try.underlying32 hi0 hz0 hz1 hz2 rfl (by decide) u3 k (rowsG (letsK s k)) (by simp [Act.eval]) (own_below HO2.out (below_box w2 _)) ⟨w2.heap.size, 0, none⟩ 1 1 (glRow (letG s k)) (by simp [Act.eval]) rfl (cells_newL _ _ _) (glRow_one (letG s k)) (by decide) L1.out L2.out (Nat.le_trans HB2.out.size (below_box w2 _).size) _ rfl ?_; intro g' cap w3 hown' hgrow hat _; have HW3 := Lib.hid hown'; have HB3 := Lib.hid ((HB2.out.trans ((below_box w2 _).mono HB2.out.size)).grown hgrow (Nat.le_trans HB2.out.size (below_box w2 _).size) (fun c hc => (own_base HO2.out hc).1)); clear hown' hgrow hat))
      all_goals
        have HW4 := Lib.hid (show w3.ownsRow w.heap.size 40 5 (.slice (some ⟨g', 0, none⟩) (k + 1) cap) (k + 1) (rowsG (letsK s (k + 1))) by rw [letsK_succ]; exact HW3.out)
        go_wp2_with fail
        go_roundw
        case measure => have := HLT.out; simp [intOf]; omega
        case rel => exact ⟨k + 1, by go_num, HLT.out, HW4, HB3⟩
    · obtain rfl : k = n := by omega
      have hzk : ¬ (k : Int) < k := by omega
      have HF := Lib.hid (show letsL s = letsK s k by unfold letsL; rw [hn])
      clear hlt
      go_wp2_with fail
      go_ret
      exact ⟨_, rfl, by have := HO.out; rw [HF.out, letsK_len]; exact this, HB.out⟩
end Go.Proofs.Ytadecjjbpoaooaa.Tb
