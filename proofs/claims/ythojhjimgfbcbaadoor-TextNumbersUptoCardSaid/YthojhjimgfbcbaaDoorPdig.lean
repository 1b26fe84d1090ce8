/- The law's own digits: noughts ahead of a number's decimal digits. -/
import Derived.Test.YthojhjimgfbcbaaDoorTkm
import Derived.Test.YthojhjimgfbcbaaDoorShelf
import Derived.IntWalk
namespace Go.Proofs.YthojhjimgfbcbaaDoor
open Go.RowKit Go.Maps
set_option linter.unusedVariables false

/-- How many noughts. -/
def nt (a : Int) : Nat := ((a.tmod 5 + 5).tmod 5).toNat
theorem nt_le (a : Int) : nt a ≤ 4 := by have := Int.tmod_lt_of_pos (a.tmod 5 + 5) (show (0 : Int) < 5 by omega); unfold nt; omega
theorem dl_step (n : Nat) (h : 10 ≤ n) : dl n = dl (n / 10) ++ [48 + n % 10] := by rw [dl, if_neg (by omega)]
theorem dl_one (n : Nat) (h : n < 10) : dl n = [48 + n] := by rw [dl, if_pos h]
theorem b8_app (a b : List Nat) : b8 (a ++ b) = b8 a ++ b8 b := by unfold b8; rw [List.map_append]
theorem rep_nought : ∀ c : Nat, Lib.repeatL [48] c = b8 (List.replicate c 48)
  | 0 => rfl
  | c + 1 => by
    rw [List.replicate_succ]
    show _ = (48 : Nat).toUInt8 :: b8 (List.replicate c 48)
    rw [← rep_nought c]
    simp [Lib.repeatL]

set_option maxRecDepth 100000 in
set_option maxHeartbeats 1000000 in
theorem digits_law (a : Int) (n : Nat) (w : World) (wa : (Lit.int .i64 a).wf = true) (hn : n < 18446744073709551616) :
    Calls Tryd.prog 43 #[.int .i64 a, .int .u64 n] w fun e w' => (∃ d : ByteArray, e = .returned (.string d) ∧ d.data.toList = b8 (nd (nt a) n)) ∧ Below w.heap.size w w' := by
  have hl := dl_len 19 n (by omega)
  have HL := Lib.hid hl
  clear hl
  go_enter Tryd.func43, Tryd.ntmps43
  go_wp2_with fail
  go_loop [1, 5] (fun i s => ∃ (k : Nat) (t : ByteArray), i = .int .u64 k ∧ s = .string t ∧ k < 18446744073709551616 ∧ b8 (dl k) ++ t.data.toList = b8 (dl n)) (fun i _ => (intOf i).toNat)
  case atStart => exact ⟨n, _, rfl, rfl, hn, by simp⟩
  case round =>
    obtain ⟨k, t, rfl, rfl, hk, ht⟩ := hrel
    have HT := Lib.hid ht
    clear ht
    have hts : t.size ≤ 20 := by
      have h1 := congrArg List.length HT.out
      rw [List.length_append, b8_len, b8_len, ← Lib.size_eq] at h1
      have := HL.out
      omega
    have hes := encode_size_le (48 + (k : Int) % 10)
    have HE := Lib.hid (show (Utf8.encode (48 + (k : Int) % 10)).data.toList = [(48 + k % 10).toUInt8] by rw [show 48 + (k : Int) % 10 = ((48 + k % 10 : Nat) : Int) by omega]; exact encD _ (by omega))
    by_cases hlt : k < 10
    · have e0 : ((k : Int) / 10 == 0) = true := by simp; omega
      have HD := Lib.hid (show ((@HAppend.hAppend ByteArray ByteArray ByteArray _ (Utf8.encode (48 + (k : Int) % 10)) t)).data.toList = b8 (dl n) by
        rw [dataApp, HE.out, ← HT.out, dl_one k hlt, show k % 10 = k by omega]; rfl)
      have hds : (Utf8.encode (48 + (k : Int) % 10) ++ t).size ≤ 24 := by rw [ByteArray.size_append]; omega
      have hN : (wrap64 (a.tmod 5 + 5)).tmod 5 = ((nt a : Nat) : Int) := by
        have h1 := Int.tmod_lt_of_pos a (show (0 : Int) < 5 by omega)
        have h2 : -5 < a.tmod 5 := Int.lt_tmod_of_pos a (by omega)
        have h3 : wrap64 (a.tmod 5 + 5) = a.tmod 5 + 5 := by unfold wrap64; omega
        rw [h3]
        have h4 : 0 ≤ (a.tmod 5 + 5).tmod 5 := Int.tmod_nonneg _ (by omega)
        unfold nt
        omega
      have hnt := nt_le a
      go_wp2_with fail
      refine (Tryd.strings_Repeat _ (nt a) _ (by omega) (by show 1 * nt a ≤ _; omega)).mono ?_
      rintro e w1 ⟨rfl, h1⟩
      have Z1 := Lib.hid h1
      have hrs : (⟨(Lib.repeatL [48] (nt a)).toArray⟩ : ByteArray).size ≤ 4 := by rw [Lib.size_eq]; simp [Lib.repeatL_length]; exact nt_le a
      clear h1
      go_wp2_with fail
      go_ret
      refine ⟨⟨_, rfl, ?_⟩, Z1.out⟩
      rw [dataApp, HD.out]
      unfold nd
      rw [b8_app, ← rep_nought]
    · have e0 : ((k : Int) / 10 == 0) = false := by simp; omega
      go_wp2_with fail
      go_round
      all_goals first | exact ⟨k / 10, _, by simp, rfl, by omega, by rw [dataApp, HE.out, ← HT.out, dl_step k (by omega), b8_app, List.append_assoc]; rfl⟩ | (simp [intOf]; done) | (simp [intOf]; omega)
end Go.Proofs.YthojhjimgfbcbaaDoor
