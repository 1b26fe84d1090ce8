/- Layer 11: the program's take: what is open behind an operation. -/
import Derived.Test.YtdagombmgcnofaaGreatDoorIf1
import Derived.Test.YtdagombmgcnofaaGreatDoorIf2
import Derived.Test.YtdagombmgcnofaaGreatDoorIf3
import Derived.Test.YtdagombmgcnofaaGreatDoorIf4
import Derived.BigRegion
namespace Go.Proofs.YtdagombmgcnofaaGreatDoor.Ir
open Go.RowKit Go.Maps Go.Proofs.YtdagombmgcnofaaGreatDoor
set_option linter.unusedVariables false
/-- What an operation asks of what is open, so that it can be taken. -/
structure TakeOk (s : Wk) (k : Int) : Prop where
  br : k = 2 ∨ k = 3 ∨ k = 4 → s.br.length < 16
  cl : k = 5 → 0 < s.br.length
  ls : k = 10 ∨ k = 12 → s.op.length < 8
  tp : k = 11 ∨ k = 13 ∨ k = 14 → 0 < s.op.length
theorem takeOk_of {s : Wk} {k : Int} (h : mayS s k = true) (h8 : s.op.length ≤ 8) (h16 : s.br.length ≤ 16) : TakeOk s k := by
  refine ⟨?_, ?_, ?_, ?_⟩
  · rintro (rfl | rfl | rfl)
    · simp [mayS] at h; omega
    · simp [mayS] at h; omega
    · simp [mayS] at h; omega
  · rintro rfl
    simp [mayS] at h; omega
  · intro hk
    by_cases h0 : s.op.length < 8
    · exact h0
    · exfalso
      have e : s.op.length = 8 := by omega
      rcases hk with rfl | rfl
      · simp [mayS, e] at h
      · simp [mayS] at h
        rw [h.2] at e
        simp at e
  · intro hk
    by_cases h0 : 0 < s.op.length
    · exact h0
    · exfalso
      have e : s.op.length = 0 := by omega
      rcases hk with rfl | rfl | rfl <;> simp [mayS, e] at h
theorem take_pro (M : Nat) (s : Wk) (x : Opr) (wv : Value) (pw : Option Addr) (cw : Nat) (w : World) (h : WkIs M w s) (hw : wv = .slice pw x.w.length cw) (hk : 1 ≤ x.k ∧ x.k ≤ 14) (ho : TakeOk s x.k) (hbd : ∀ l ∈ s.op, l.parts ≤ 65536 ∧ l.cells ≤ 65536) :
    Calls Tryz.prog 64 #[.pointer (some ⟨M, 0, none⟩), oprVal x wv] w (TakeIs M w s x) := by
  subst hw
  obtain ⟨k, n, t, ws⟩ := x
  dsimp only at hk ho ⊢
  unfold oprVal
  dsimp only
  obtain ⟨j, rfl⟩ : ∃ j : Nat, k = j := ⟨k.toNat, by omega⟩
  have hj : 1 ≤ j ∧ j ≤ 14 := by omega
  rcases (show j = 1 ∨ j = 2 ∨ j = 3 ∨ j = 4 ∨ j = 5 ∨ j = 6 ∨ j = 7 ∨ j = 8 ∨ j = 9 ∨ j = 10 ∨ j = 11 ∨ j = 12 ∨ j = 13 ∨ j = 14 by omega) with rfl | rfl | rfl | rfl | rfl | rfl | rfl | rfl | rfl | rfl | rfl | rfl | rfl | rfl
  · exact take_x1 M s n t ws pw cw w h
  · exact take_br2 M s n t ws pw cw w h (ho.br (by simp))
  · exact take_br3 M s n t ws pw cw w h (ho.br (by simp))
  · exact take_br4 M s n t ws pw cw w h (ho.br (by simp))
  · exact take_close M s n t ws pw cw w h (ho.cl (by simp))
  · exact take_x6 M s n t ws pw cw w h
  · exact take_x7 M s n t ws pw cw w h
  · rcases Nat.eq_zero_or_pos s.op.length with h0 | h0
    · exact take_para0 M s n t ws pw cw w h h0
    · exact take_para1 M s n t ws pw cw w h h0 hbd
  · exact take_done M s n t ws pw cw w h
  · exact take_list10 M s n t ws pw cw w h (ho.ls (by simp))
  · exact take_item11 M s n t ws pw cw w h (ho.tp (by simp)) hbd
  · exact take_list12 M s n t ws pw cw w h (ho.ls (by simp))
  · exact take_item13 M s n t ws pw cw w h (ho.tp (by simp)) hbd
  · exact take_end M s n t ws pw cw w h (ho.tp (by simp))
end Go.Proofs.YtdagombmgcnofaaGreatDoor.Ir
