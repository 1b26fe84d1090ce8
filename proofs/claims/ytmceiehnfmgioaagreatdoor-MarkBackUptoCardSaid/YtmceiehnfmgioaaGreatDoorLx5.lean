/- What the program's lexer asks of a line: its letters, whether they are a name. -/
import Derived.Test.YtmceiehnfmgioaaGreatDoorStrs
import Derived.Test.YtmceiehnfmgioaaGreatDoorLx4
import Derived.Test.YtmceiehnfmgioaaGreatDoorMPgood
namespace Go.Proofs.YtmceiehnfmgioaaGreatDoor
open Go.RowKit
set_option linter.unusedVariables false

def az : List UInt8 := [97, 98, 99, 100, 101, 102, 103, 104, 105, 106, 107, 108, 109, 110, 111, 112, 113, 114, 115, 116, 117, 118, 119, 120, 121, 122]
theorem all_bytes {p : UInt8 → Bool} (h : (List.range 256).all (fun n => p (UInt8.ofNat n)) = true) (c : UInt8) : p c = true := by
  have := List.all_eq_true.1 h c.toNat (List.mem_range.2 c.toNat_lt)
  simpa using this
theorem az_isL (c : UInt8) : az.contains c = isL c := by
  have := all_bytes (p := fun c => az.contains c == isL c) (by decide +kernel) c
  simpa using this
theorem bs_extract (l : List UInt8) (a b : Nat) : (bs l).extract a b = bs ((l.drop a).take (b - a)) := by
  have h := Lib.extract_data (bs l) a b
  apply ByteArray.ext
  apply Array.toList_inj.1
  rw [h]
  simp [bs]
theorem letL_take (l : List UInt8) : l.take (l.length - (Lib.trimLeftS l az).length) = letL l := by
  have e : Lib.trimLeftS l az = l.dropWhile isL := by
    unfold Lib.trimLeftS
    congr 1
    funext c
    exact az_isL c
  rw [e]
  have h := List.takeWhile_append_dropWhile (p := isL) (l := l)
  have hl := congrArg List.length h
  rw [List.length_append] at hl
  unfold letL
  have : l.length - (l.dropWhile isL).length = (l.takeWhile isL).length := by omega
  rw [this]
  have h2 : l.take (l.takeWhile isL).length = (l.takeWhile isL ++ l.dropWhile isL).take (l.takeWhile isL).length := by rw [h]
  rw [h2]
  exact List.take_left
theorem drop_len (l : List UInt8) : (Lib.trimLeftS l az).length ≤ l.length := by
  unfold Lib.trimLeftS
  have h := List.takeWhile_append_dropWhile (p := (az.contains ·)) (l := l)
  have hl := congrArg List.length h
  rw [List.length_append] at hl
  omega

set_option maxRecDepth 100000 in
set_option maxHeartbeats 2000000 in
theorem letters_pro (l : List UInt8) (w : World) (hl : l.length ≤ 100000) :
    Calls Tryz.prog 137 #[.string (bs l)] w (Says (.string (bs (letL l))) w) := by
  have HE := Lib.hid (letL_take l)
  have hd := drop_len l
  obtain ⟨T, eT⟩ : ∃ T, Lib.trimLeftS l az = T := ⟨_, rfl⟩
  have HC := Lib.hid (trimLeft_pro l az w (by decide) (by decide))
  rw [eT] at HE hd HC
  clear eT
  have z1 := bs_size l
  have z2 := bs_size T
  have b1 : (l.length : Int) ≤ 100000 := by omega
  have b2 : (T.length : Int) ≤ l.length := by omega
  have b3 : 0 ≤ (l.length : Int) - T.length := by omega
  have b4 : (l.length : Int) - T.length ≤ l.length := by omega
  have b5 : 0 ≤ (T.length : Int) := by omega
  have HX := Lib.hid (show (bs l).extract 0 (l.length - T.length) = bs (letL l) by
    rw [bs_extract, Nat.sub_zero, List.drop_zero, HE.out])
  clear hl hd
  go_enter Tryz.func137, Tryz.ntmps137
  go_wp2_with fail
  refine HC.out.mono ?_
  rintro e w1 ⟨rfl, hb⟩
  have HB := Lib.hid hb
  clear hb
  go_wp2_with fail
  go_ret
  refine ⟨?_, HB.out⟩
  rw [← HX.out]
  rfl

theorem index_one (c : UInt8) : ∀ l : List UInt8, decide (0 ≤ Lib.indexByte l c) = l.contains c
  | [] => by simp [Lib.indexByte]
  | b :: l => by
    have ih := index_one c l
    have hge := Lib.indexByte_ge l c
    rw [List.contains_cons, ← ih, show Lib.indexByte (b :: l) c = if b == c then 0 else if Lib.indexByte l c == -1 then -1 else Lib.indexByte l c + 1 from rfl]
    by_cases h1 : (b == c) = true
    · have h2 : (c == b) = true := by rw [beq_iff_eq] at h1 ⊢; exact h1.symm
      rw [if_pos h1, h2]
      rfl
    · have h2 : (c == b) = false := by rw [Bool.eq_false_iff]; intro h; exact h1 (by rw [beq_iff_eq] at h ⊢; exact h.symm)
      rw [if_neg h1, h2, Bool.false_or]
      by_cases h3 : (Lib.indexByte l c == -1) = true
      · rw [if_pos h3]
        have := beq_iff_eq.1 h3
        rw [this]
      · rw [if_neg h3]
        have h4 : Lib.indexByte l c ≠ -1 := fun e => h3 (beq_iff_eq.2 e)
        rw [decide_eq_decide]
        omega
theorem toList_bs (l : List UInt8) : (bs l).toList = l := by
  rw [Lib.toList_data]
  simp [bs]

set_option maxRecDepth 100000 in
set_option maxHeartbeats 2000000 in
theorem named_pro (name rest ends : List UInt8) (w : World) :
    Calls Tryz.prog 138 #[.string (bs name), .string (bs rest), .string (bs ends)] w fun e w' => e = .returned (.bool (named name rest ends)) ∧ w = w' := by
  have z1 := bs_size name
  have z2 := bs_size rest
  have y1 := toList_bs name
  have y2 := toList_bs rest
  rcases name with _ | ⟨a, name⟩
  · go_enter Tryz.func138, Tryz.ntmps138
    go_wp2_with fail
    go_ret
    exact ⟨rfl, rfl⟩
  · by_cases hl : name.length + 1 ≤ 12
    · have q1 : ¬ (12 : Int) < (name.length : Int) + 1 := by omega
      have q2 : (name.length : Int) + 1 ≤ 12 := by omega
      rcases rest with _ | ⟨c, r⟩
      · have HE := Lib.hid (show named (a :: name) [] ends = true by simp [named]; omega)
        clear hl
        go_enter Tryz.func138, Tryz.ntmps138
        go_wp2_with fail
        go_ret
        rw [HE.out]
        exact ⟨rfl, rfl⟩
      · have HE := Lib.hid (show named (a :: name) (c :: r) ends = ends.contains c by simp [named]; intro _; omega)
        have HC := Lib.hid (Tryz.strings_Contains_one (bs ends) c w)
        have HX := Lib.hid (show (bs (c :: r)).extract 0 1 = ⟨#[c]⟩ by rw [bs_extract]; rfl)
        have hx := HX.out
        have b1 : (1 : Int) ≤ (r.length : Int) + 1 := by omega
        clear hl
        go_enter Tryz.func138, Tryz.ntmps138
        go_wp2_with fail
        refine HC.out.mono ?_
        rintro e w1 ⟨rfl, rfl⟩
        go_wp2_with fail
        go_ret
        rw [HE.out, ← index_one]
        exact ⟨rfl, rfl⟩
    · have q1 : (12 : Int) < (name.length : Int) + 1 := by omega
      have HE := Lib.hid (show named (a :: name) rest ends = false by simp [named]; intro h; omega)
      clear hl
      go_enter Tryz.func138, Tryz.ntmps138
      go_wp2_with fail
      go_ret
      rw [HE.out]
      exact ⟨rfl, rfl⟩
end Go.Proofs.YtmceiehnfmgioaaGreatDoor
