/- What the program's lexer asks of what stands behind a brace, behind a backslash, behind a point; whether a line is blank, whether it fits. -/
import Derived.Test.YtmceiehnfmgioaaGreatDoorLx5
namespace Go.Proofs.YtmceiehnfmgioaaGreatDoor
open Go.RowKit
set_option linter.unusedVariables false

/-- A text, or a fault of a column, whose line is laid later. -/
def PairE (r : Except (Nat × List UInt8) (List UInt8)) (col : Nat) (w : World) (e : Ending) (w' : World) : Prop :=
  match r with
  | .ok s => e = .returned (.tuple #[.string (bs s), .nilIface]) ∧ Below w.heap.size w w'
  | .error x => ∃ ge, e = .returned (.tuple #[.string (bs []), errAt ge]) ∧ Erd w' ge ⟨x.1, 0, (0 : Nat), col, bs x.2⟩ ∧ x.1 ≠ 0 ∧ Below w.heap.size w w'
def braceL (r : List UInt8) : Except (Nat × List UInt8) (List UInt8) :=
  if named (letL r) (r.drop (letL r).length) [32, 9, 124, 125] then .ok (letL r) else .error (43, [])
theorem letL_le (l : List UInt8) : (letL l).length ≤ l.length := by
  unfold letL
  have h := List.takeWhile_append_dropWhile (p := isL) (l := l)
  have hl := congrArg List.length h
  rw [List.length_append] at hl
  omega

set_option maxRecDepth 100000 in
set_option maxHeartbeats 2000000 in
theorem brace_pro (r : List UInt8) (col : Nat) (w : World) (hl : r.length ≤ 100000) :
    Calls Tryz.prog 222 #[.string (bs r), .int .i64 col] w (PairE (braceL r) col w) := by
  have HL := Lib.hid hl
  have hle := letL_le r
  obtain ⟨T, eT⟩ : ∃ T, letL r = T := ⟨_, rfl⟩
  have HC := Lib.hid (letters_pro r w hl)
  have HE := Lib.hid (show braceL r = if named T (r.drop T.length) [32, 9, 124, 125] then .ok T else .error (43, []) by unfold braceL; rw [eT])
  rw [eT] at hle HC
  clear eT
  have z1 := bs_size r
  have z2 := bs_size T
  have b1 : (r.length : Int) ≤ 100000 := by omega
  have b2 : (T.length : Int) ≤ r.length := by omega
  have b3 : 0 ≤ (T.length : Int) := by omega
  have hx : (bs r).extract T.length r.length = bs (r.drop T.length) := by
    rw [bs_extract, List.take_of_length_le (by simp)]
  have HX := Lib.hid hx
  clear hl hle hx
  cases hb : named T (r.drop T.length) [32, 9, 124, 125] with
  | true =>
    rw [hb] at HE
    have HN := Lib.hid hb
    clear hb
    go_enter Tryz.func222, Tryz.ntmps222
    go_wp2_with fail
    refine HC.out.mono ?_
    rintro e w1 ⟨rfl, hb⟩
    have HB := Lib.hid hb
    clear hb
    go_wp2_with fail
    rw [HX.out]
    refine (named_pro T (r.drop T.length) [32, 9, 124, 125] w1).mono ?_
    rw [HN.out]
    rintro e w2 ⟨rfl, rfl⟩
    go_wp2_with fail
    go_ret2
    unfold PairE
    rw [HE.out]
    exact ⟨rfl, HB.out⟩
  | false =>
    rw [hb] at HE
    have HN := Lib.hid hb
    clear hb
    go_enter Tryz.func222, Tryz.ntmps222
    go_wp2_with fail
    refine HC.out.mono ?_
    rintro e w1 ⟨rfl, hb⟩
    have HB := Lib.hid hb
    clear hb
    go_wp2_with fail
    rw [HX.out]
    refine (named_pro T (r.drop T.length) [32, 9, 124, 125] w1).mono ?_
    rw [HN.out]
    rintro e w2 ⟨rfl, rfl⟩
    go_wp2_with fail
    refine (wrong_pro 43 col [] w1 (by decide)).mono ?_
    rintro e w2 ⟨rfl, he, hb⟩
    have H2 := Lib.hid he
    have B2 := Lib.hid hb
    clear he hb
    unfold errAt
    go_wp2_with fail
    go_ret2
    unfold PairE
    rw [HE.out]
    exact ⟨_, rfl, H2.out, (show (43 : Nat) ≠ 0 by decide), HB.out.trans (B2.out.mono HB.out.size)⟩
end Go.Proofs.YtmceiehnfmgioaaGreatDoor
