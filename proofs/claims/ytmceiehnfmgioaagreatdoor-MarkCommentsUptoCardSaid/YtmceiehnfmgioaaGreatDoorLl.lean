/- How much there is of what Lex tells; bytes and texts. -/
import Derived.Test.YtmceiehnfmgioaaGreatDoorBr
import Derived.Test.YtmceiehnfmgioaaGreatDoorPl
import Derived.Test.YtmceiehnfmgioaaGreatDoorRow
namespace Go.Proofs.YtmceiehnfmgioaaGreatDoor
open Go.RowKit
set_option linter.unusedVariables false

theorem of_bs (s : ByteArray) : ∃ l, s = bs l ∧ l.length = s.size := ⟨s.data.toList, by unfold bs; apply ByteArray.ext; simp, by rw [Array.length_toList]; rfl⟩
theorem bs_app (a b : List UInt8) : bs a ++ bs b = bs (a ++ b) := by
  unfold bs
  apply ByteArray.ext
  simp
theorem linesF_le : ∀ (f : Nat) (l x : List UInt8), x ∈ linesF f l → x.length ≤ l.length
  | 0, _, _, h => by cases h
  | f + 1, l, x, h => by
    unfold linesF at h
    by_cases h0 : l = []
    · rw [if_pos h0] at h; cases h
    · rw [if_neg h0] at h
      obtain ⟨q1, q2⟩ := cut_len l h0
      rcases List.mem_cons.1 h with rfl | h'
      · have := chop_len (cutNL l).1; omega
      · have := linesF_le f _ x h'; omega
theorem lineM_short {n : Nat} {l : List UInt8} {m m' : Mk} (he : lineM n l m = .ok m') : l.length ≤ 4096 := by
  unfold lineM at he
  by_cases c1 : 4096 < l.length
  · rw [if_pos c1] at he; cases he
  · omega
theorem linesM_len : ∀ (ls : List (List UInt8)) (n : Nat) (m m' : Mk), linesM ls n m = .ok m' → m'.out.length ≤ m.out.length + m.run.length + 8193 * ls.length
  | [], n, m, m', he => by
    have he' : m.endPara = .ok m' := he
    unfold Mk.endPara at he'
    cases hq : m.opn.getLast? with
    | some t => rw [hq] at he'; cases he'
    | none =>
      rw [hq] at he'
      cases he'
      show m.endRun.out.length ≤ _
      unfold Mk.endRun
      split
      · omega
      · rename_i h0
        have : 0 < m.run.length := List.length_pos_iff.2 h0
        simp; omega
  | l :: r, n, m, m', he => by
    unfold linesM at he
    cases hl : lineM n l m with
    | error e => rw [hl] at he; cases he
    | ok m1 =>
      rw [hl] at he
      have h1 := linesM_len r _ m1 m' he
      have h2 := lineM_cost hl
      have h3 := lineM_short hl
      simp only [List.length_cons]
      omega
theorem lexM_len {l : List UInt8} {ts : List Tok} (h : lexM l = .ok ts) : ts.length ≤ 539000000 ∧ l.length ≤ 65536 ∧ (lines l).length ≤ 65536 ∧ ∀ t ∈ ts, t.line ≤ 65536 := by
  obtain ⟨⟨se, hrow⟩, hll⟩ := lexM_pl h
  have h2 := linesF_len l.length l
  have h4 : (lines l).length ≤ 65536 := by unfold lines; omega
  refine ⟨?_, hll, h4, fun t ht => ?_⟩
  · unfold lexM at h
    rw [if_neg (by omega)] at h
    cases hq : linesM (lines l) 1 Mk.zero with
    | error e => rw [hq] at h; cases h
    | ok m =>
      rw [hq] at h; cases h
      have h1 := linesM_len _ _ _ _ hq
      have h6 : m.out.length ≤ 8193 * (lines l).length := by simpa [Mk.zero] using h1
      show m.out.length ≤ _
      omega
  · obtain ⟨k, hk, rfl⟩ := List.mem_iff_getElem.1 ht
    obtain ⟨⟨_, _, x, hx, _⟩, _⟩ := hrow.at (List.getElem?_eq_getElem hk)
    have := (List.getElem?_eq_some_iff.1 hx).1
    have e : (ts[k].line, ts[k].col).1 - 1 = ts[k].line - 1 := rfl
    omega
theorem u8_eq {c : UInt8} {k : Nat} (h : c.toNat = k) : ((c.toNat : Int) == (k : Int)) = true := by rw [h]; simp
theorem u8_ne {c : UInt8} {k : Nat} (h : c.toNat ≠ k) : ((c.toNat : Int) == (k : Int)) = false := by
  rw [beq_eq_false_iff_ne]; omega
end Go.Proofs.YtmceiehnfmgioaaGreatDoor
