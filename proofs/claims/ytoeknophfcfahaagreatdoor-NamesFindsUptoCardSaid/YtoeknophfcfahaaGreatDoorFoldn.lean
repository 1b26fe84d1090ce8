/- Fold of the document's answer for layer 2. -/
import Derived.Test.YtoeknophfcfahaaGreatDoorCharsn
import Derived.Deep.QuietTactic
import Derived.BigQuiet
import Derived.WalkLawsBesides
import Derived.Laws.Cover4
import Derived.IntWalk
namespace Go.Proofs.YtoeknophfcfahaaGreatDoor
open Go.RowKit Go.Maps

theorem one32 : (ByteArray.mk #[32]).size = 1 := rfl
theorem ret_strF {a b : ByteArray} (h : a = b) : Ending.returned (.string a) = Ending.returned (.string b) := by rw [h]
/-- What Fold lays for one character. -/
def foldCh (s : ByteArray) (c : Ch) : ByteArray := if badB c then s.extract c.1 (c.1 + 1) else Utf8.encode (sml c.2.1)
/-- What has been laid, and whether a blank waits. -/
def foldStep (s : ByteArray) (st : ByteArray × Bool) (c : Ch) : ByteArray × Bool :=
  if c.2.1 = 32 then (st.1, !st.1.toList.isEmpty) else ((if st.2 then st.1 ++ ⟨#[32]⟩ else st.1) ++ foldCh s c, false)
def foldOf (s : ByteArray) (l : List Ch) : ByteArray × Bool := l.foldl (foldStep s) (ByteArray.empty, false)
def fold (s : ByteArray) : ByteArray := (foldOf s (chars s)).1
theorem foldOf_take {s : ByteArray} {l : List Ch} {k : Nat} {c : Ch} (h : l[k]? = some c) : foldOf s (l.take (k + 1)) = foldStep s (foldOf s (l.take k)) c := by
  obtain ⟨hk, e⟩ := List.getElem?_eq_some_iff.1 h
  unfold foldOf
  rw [List.take_succ_eq_append_getElem hk, List.foldl_append, e]
  rfl

set_option maxRecDepth 100000 in
set_option maxHeartbeats 1000000 in
theorem fold_ref (s : ByteArray) (w : World) (hs : s.size ≤ 16777216) :
    Calls Tryz.prog 41 #[.string s] w fun e w' => e = .returned (.string (fold s)) ∧ Below w.heap.size w w' := by
  have HS := Lib.hid hs
  have hl : (chars s).length ≤ 16777216 := Nat.le_trans (chars_len s) hs
  clear hs
  go_enter Tryz.func41, Tryz.ntmps41
  go_wp2_with (go_at_call 72; refine (chars_ref s _ HS.out).mono ?_; rintro e w1 ⟨v, xs, rfl, hown, hx, hbw⟩; have HW := Lib.hid hown; have HX := Lib.hid hx; have HB := Lib.hid hbw; clear hown hx hbw)
  go_loopw [3, 4, 6] (fun u b i wr => ∃ (k : Nat) (out : ByteArray) (wt : Bool), i = .int .i64 k ∧ u = .string out ∧ b = .bool wt ∧ k ≤ (chars s).length ∧ foldOf s ((chars s).take k) = (out, wt) ∧ out.size ≤ 5 * k ∧ ∃ n, wr = w1.drewN n) (fun _ _ i _ => (chars s).length - (intOf i).toNat)
  case atStart => exact ⟨0, _, _, rfl, rfl, rfl, Nat.zero_le _, rfl, Nat.le_refl 0, 0, rfl⟩
  case round =>
    obtain ⟨k, out, wt, rfl, rfl, rfl, hk, hst, ho, nq, rfl⟩ := hrel
    have HT := Lib.hid hst
    clear hst
    by_cases hlt : k < (chars s).length
    · obtain ⟨g, cap, rfl, hg, hgl⟩ := World.ownsRow.form HW.out (by omega)
      obtain ⟨c, hc⟩ : ∃ c, (chars s)[k]? = some c := ⟨_, List.getElem?_eq_getElem hlt⟩
      obtain ⟨h0, h1, h2⟩ := HX.out.2 k c hc
      have hxl := HX.out.1
      have g0 := (World.ownsRow.cellAt HW.out (k * 4) (by omega)).trans h0
      have g1 := (World.ownsRow.cellAt HW.out (k * 4 + 1) (by omega)).trans h1
      have g3 := (World.ownsRow.cellAt HW.out (k * 4 + 3) (by omega)).trans (h2 hlt).2
      have hmem : c ∈ chars s := List.mem_of_getElem? hc
      have hw := chars_width s c hmem
      have hr := chars_rune s c hmem
      have hS := HS.out
      have HF := Lib.hid (foldOf_take (s := s) hc)
      have b1 : (0 : Int) ≤ c.1 := by omega
      have b2 : (c.1 : Int) ≤ 16777216 := by omega
      have b6 : (c.1 : Int) + 1 ≤ s.size := by omega
      have hrr : -2147483648 ≤ (c.2.1 : Int) ∧ (c.2.1 : Int) ≤ 2147483647 := by omega
      have HR := Lib.hid hrr
      clear h0 h1 h2 hxl hc hmem hS hrr
      have he := encode_size_le (sml c.2.1)
      have hx1 : (s.extract c.1 (c.1 + 1)).size ≤ 1 := by rw [ByteArray.size_extract]; omega
      have v1 := Lib.hid (show IntKind.i64.wrap ((c.1 : Int) + 1) = c.1 + 1 from IntWalk.i64_in _ (by omega))
      have v2 := Lib.hid (show ((c.1 : Int) + 1).toNat = c.1 + 1 by omega)
      have v3 : (0 : Int) ≤ c.1 + 1 := by omega
      have v4 : (c.1 : Int) ≤ c.1 + 1 := by omega
      by_cases hb : c.2.1 = 32
      · have hb1 : ((c.2.1 : Int) == 32) = true := by simp; omega
        have HC := Lib.hid hb
        clear hb
        go_wp2_with fail
        go_roundw
        case rel => exact ⟨k + 1, out, _, by go_num, rfl, rfl, by omega, by rw [HF.out, HT.out]; simp only [foldStep, HC.out, if_true], by omega, nq, rfl⟩
        case measure => simp [intOf]; omega
      · have hb1 : ((c.2.1 : Int) == 32) = false := by simp; omega
        have HC := Lib.hid hb
        clear hb
        cases wt <;> cases hbad : badB c
        all_goals (rw [hbad] at g3; have HD := Lib.hid hbad; clear hbad)
        all_goals
          go_wp2_with (first | (go_at_call 83; refine (small_ref _ _ HR.out).mono ?_; rintro e w' ⟨rfl, rfl⟩))
          try (have e1 := v1.out; have e2 := v2.out; go_quiet (fail); clear e1 e2; go_wp2_with fail)
          go_roundw
        all_goals first | (simp [intOf]; done) | (simp [intOf]; omega) | skip
        all_goals (refine ⟨k + 1, _, _, by go_num, rfl, rfl, by omega, by rw [HF.out, HT.out]; simp only [foldStep, HC.out, if_false, foldCh, HD.out, if_true, Bool.false_eq_true], by simp only [ByteArray.size_append, one32] <;> omega, ?_⟩)
        all_goals first | exact ⟨_, rfl⟩ | exact ⟨_, drewN_drewN _ _ _⟩
    · obtain rfl : k = (chars s).length := by omega
      have hst := HT.out
      rw [List.take_length] at hst
      have HF := Lib.hid (show fold s = out by unfold fold; rw [hst])
      clear hst
      rcases HW.out.2 with ⟨rfl, h0⟩ | ⟨g, cap, cur, rfl, _⟩
      · have hz : ((chars s).length : Int) ≤ 0 := by omega
        clear h0
        go_wp2_with fail
        go_ret
        exact ⟨ret_strF HF.out.symm, below_drewN HB.out _⟩
      · go_wp2_with fail
        go_ret
        exact ⟨ret_strF HF.out.symm, below_drewN HB.out _⟩
end Go.Proofs.YtoeknophfcfahaaGreatDoor
