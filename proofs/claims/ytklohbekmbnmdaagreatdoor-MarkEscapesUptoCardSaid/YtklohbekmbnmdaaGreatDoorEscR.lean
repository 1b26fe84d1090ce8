/- Escape: the document's. -/
import Derived.Test.YtklohbekmbnmdaaGreatDoorEsc
namespace Go.Proofs.YtklohbekmbnmdaaGreatDoor
open Go.RowKit Go.Maps
set_option linter.unusedVariables false

theorem bs_app (a b : List UInt8) : bs a ++ bs b = bs (a ++ b) := by
  apply ByteArray.ext
  simp [bs]
/-- Where the document's loop stands. -/
def EscR (l : List UInt8) (o i : Value) : Prop :=
  ∃ (k : Nat) (out : List UInt8), i = .int .i64 k ∧ o = .string (bs out) ∧ k ≤ l.length ∧ out ++ escG k (l.drop k) = escM l ∧ out.length ≤ 2 * k

set_option maxRecDepth 100000 in
set_option maxHeartbeats 16000000 in
theorem escape_ref (l : List UInt8) (w : World) (hl : l.length ≤ 1048576) :
    Calls Tryz.prog 16 #[.string (bs l)] w fun e w' => e = .returned (.string (bs (escM l))) ∧ w = w' := by
  have z1 := bs_size l
  have HLL := Lib.hid hl
  have b0 : (l.length : Int) ≤ 1048576 := by omega
  clear hl
  go_enter Tryz.func16, Tryz.ntmps16
  go_wp2_with fail
  go_loop [3, 4] (fun o i => EscR l o i) (fun _ i => l.length - (intOf i).toNat)
  case atStart => exact ⟨0, [], rfl, rfl, Nat.zero_le _, rfl, Nat.zero_le _⟩
  case round =>
    obtain ⟨k, out, rfl, rfl, hk, hout, hol⟩ := hrel
    have HO := Lib.hid hout
    have HOL := Lib.hid hol
    by_cases hlt : k < l.length
    · obtain ⟨c, hc⟩ : ∃ c, l[k] = c := ⟨_, rfl⟩
      have hdk : l.drop k = c :: l.drop (k + 1) := by rw [List.drop_eq_getElem_cons hlt, hc]
      have HD := Lib.hid hdk
      have HX := Lib.hid (show (bs l).extract k (k + 1) = bs [c] by rw [bs_extract, hdk, show k + 1 - k = 1 by omega]; rfl)
      have hix : ∀ hh, (bs l)[k]'hh = c := fun _ => hc
      have bk0 : 0 ≤ (k : Int) := by omega
      have bk1 : (k : Int) + 1 ≤ l.length := by omega
      have bk2 : (1 : Int) ≤ l.length := by omega
      have bk3 : (k : Int) ≤ (k : Int) + 1 := by omega
      have HLT := Lib.hid hlt
      have y1 := bs_size out
      have bo : (out.length : Int) ≤ 2097152 := by have := HLL.out; omega
      clear hout hol hdk hc
      by_cases h92 : c = 92
      · subst h92
        have HE := Lib.hid (show escB (k == 0) 92 = [92, 92] from by unfold escB; rfl)
        go_wp2_with fail
        go_round
        case rel => exact ⟨k + 1, out ++ [92, 92], by go_num, by rw [HX.out, show (⟨#[92]⟩ : ByteArray) = bs [92] from rfl, bs_app, bs_app, List.append_assoc]; rfl, HLT.out, esc_step HD.out HO.out HE.out, by rw [List.length_append]; have := HOL.out; simp only [List.length_cons, List.length_nil]; omega⟩
        case measure => simp [intOf]; have := HLT.out; omega
      by_cases h123 : c = 123
      · subst h123
        have HE := Lib.hid (show escB (k == 0) 123 = [92, 123] from by unfold escB; rfl)
        go_wp2_with fail
        go_round
        case rel => exact ⟨k + 1, out ++ [92, 123], by go_num, by rw [HX.out, show (⟨#[92]⟩ : ByteArray) = bs [92] from rfl, bs_app, bs_app, List.append_assoc]; rfl, HLT.out, esc_step HD.out HO.out HE.out, by rw [List.length_append]; have := HOL.out; simp only [List.length_cons, List.length_nil]; omega⟩
        case measure => simp [intOf]; have := HLT.out; omega
      by_cases h125 : c = 125
      · subst h125
        have HE := Lib.hid (show escB (k == 0) 125 = [92, 125] from by unfold escB; rfl)
        go_wp2_with fail
        go_round
        case rel => exact ⟨k + 1, out ++ [92, 125], by go_num, by rw [HX.out, show (⟨#[92]⟩ : ByteArray) = bs [92] from rfl, bs_app, bs_app, List.append_assoc]; rfl, HLT.out, esc_step HD.out HO.out HE.out, by rw [List.length_append]; have := HOL.out; simp only [List.length_cons, List.length_nil]; omega⟩
        case measure => simp [intOf]; have := HLT.out; omega
      by_cases h124 : c = 124
      · subst h124
        have HE := Lib.hid (show escB (k == 0) 124 = [92, 124] from by unfold escB; rfl)
        go_wp2_with fail
        go_round
        case rel => exact ⟨k + 1, out ++ [92, 124], by go_num, by rw [HX.out, show (⟨#[92]⟩ : ByteArray) = bs [92] from rfl, bs_app, bs_app, List.append_assoc]; rfl, HLT.out, esc_step HD.out HO.out HE.out, by rw [List.length_append]; have := HOL.out; simp only [List.length_cons, List.length_nil]; omega⟩
        case measure => simp [intOf]; have := HLT.out; omega
      by_cases h46 : c = 46
      · subst h46
        rcases Nat.eq_zero_or_pos k with hz | hz
        · subst hz
          have HE := Lib.hid (show escB ((0 : Nat) == 0) 46 = [92, 46] from rfl)
          go_wp2_with fail
          go_round
          case rel => exact ⟨0 + 1, out ++ [92, 46], by go_num, by rw [HX.out, show (⟨#[92]⟩ : ByteArray) = bs [92] from rfl, bs_app, bs_app, List.append_assoc]; rfl, HLT.out, esc_step HD.out HO.out HE.out, by rw [List.length_append]; have := HOL.out; simp only [List.length_cons, List.length_nil]; omega⟩
          case measure => simp [intOf]; have := HLT.out; omega
        · have hz' : ¬ (k : Int) = 0 := by omega
          have hz3 : ((k : Int) == 0) = false := by simp; omega
          have hz4 : ¬ k = 0 := by omega
          have hz2 : (k == 0) = false := by simp; omega
          have HZ := Lib.hid hz2
          clear hz hz2
          have HE := Lib.hid (show escB (k == 0) 46 = [46] from by rw [HZ.out]; rfl)
          go_wp2_with fail
          go_round
          case rel => exact ⟨k + 1, out ++ [46], by go_num, by rw [HX.out, bs_app], HLT.out, esc_step HD.out HO.out HE.out, by rw [List.length_append]; have := HOL.out; simp only [List.length_cons, List.length_nil]; omega⟩
          case measure => simp [intOf]; have := HLT.out; omega
      by_cases h35 : c = 35
      · subst h35
        rcases Nat.eq_zero_or_pos k with hz | hz
        · subst hz
          have HE := Lib.hid (show escB ((0 : Nat) == 0) 35 = [92, 35] from rfl)
          go_wp2_with fail
          go_round
          case rel => exact ⟨0 + 1, out ++ [92, 35], by go_num, by rw [HX.out, show (⟨#[92]⟩ : ByteArray) = bs [92] from rfl, bs_app, bs_app, List.append_assoc]; rfl, HLT.out, esc_step HD.out HO.out HE.out, by rw [List.length_append]; have := HOL.out; simp only [List.length_cons, List.length_nil]; omega⟩
          case measure => simp [intOf]; have := HLT.out; omega
        · have hz' : ¬ (k : Int) = 0 := by omega
          have hz3 : ((k : Int) == 0) = false := by simp; omega
          have hz4 : ¬ k = 0 := by omega
          have hz2 : (k == 0) = false := by simp; omega
          have HZ := Lib.hid hz2
          clear hz hz2
          have HE := Lib.hid (show escB (k == 0) 35 = [35] from by rw [HZ.out]; rfl)
          go_wp2_with fail
          go_round
          case rel => exact ⟨k + 1, out ++ [35], by go_num, by rw [HX.out, bs_app], HLT.out, esc_step HD.out HO.out HE.out, by rw [List.length_append]; have := HOL.out; simp only [List.length_cons, List.length_nil]; omega⟩
          case measure => simp [intOf]; have := HLT.out; omega
      have e1 : ((c.toNat : Int) == 92) = false := num_neE h92
      have e2 : ((c.toNat : Int) == 123) = false := num_neE h123
      have e3 : ((c.toNat : Int) == 125) = false := num_neE h125
      have e4 : ((c.toNat : Int) == 124) = false := num_neE h124
      have e5 : ((c.toNat : Int) == 46) = false := num_neE h46
      have e6 : ((c.toNat : Int) == 35) = false := num_neE h35
      have HE0 := Lib.hid (show ∀ f, escB f c = [c] by intro f; unfold escB; rw [beq_eq_false_iff_ne.2 h92, beq_eq_false_iff_ne.2 h123, beq_eq_false_iff_ne.2 h125, beq_eq_false_iff_ne.2 h124, beq_eq_false_iff_ne.2 h46, beq_eq_false_iff_ne.2 h35]; simp)
      clear h92 h123 h125 h124 h46 h35
      rcases Nat.eq_zero_or_pos k with hz | hz
      · subst hz
        have HE := Lib.hid (show escB ((0 : Nat) == 0) c = [c] from HE0.out _)
        go_wp2_with fail
        go_round
        case rel => exact ⟨0 + 1, out ++ [c], by go_num, by rw [HX.out, bs_app], HLT.out, esc_step HD.out HO.out HE.out, by rw [List.length_append]; have := HOL.out; simp only [List.length_cons, List.length_nil]; omega⟩
        case measure => simp [intOf]; have := HLT.out; omega
      · have hz' : ¬ (k : Int) = 0 := by omega
        have hz3 : ((k : Int) == 0) = false := by simp; omega
        have hz4 : ¬ k = 0 := by omega
        clear hz
        have HE := Lib.hid (show escB (k == 0) c = [c] from HE0.out _)
        go_wp2_with fail
        go_round
        case rel => exact ⟨k + 1, out ++ [c], by go_num, by rw [HX.out, bs_app], HLT.out, esc_step HD.out HO.out HE.out, by rw [List.length_append]; have := HOL.out; simp only [List.length_cons, List.length_nil]; omega⟩
        case measure => simp [intOf]; have := HLT.out; omega
    · obtain rfl : k = l.length := by omega
      have HE := Lib.hid (show out = escM l by rw [← hout, List.drop_length]; simp [escG])
      clear hout hol hk
      go_wp2_with fail
      go_ret
      rw [← HE.out]
      exact ⟨rfl, rfl⟩

end Go.Proofs.YtklohbekmbnmdaaGreatDoor
