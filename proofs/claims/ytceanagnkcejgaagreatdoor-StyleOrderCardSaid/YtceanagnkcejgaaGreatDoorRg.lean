/- The program's readChange. -/
import Derived.Test.YtceanagnkcejgaaGreatDoorRc
namespace Go.Proofs.YtceanagnkcejgaaGreatDoor
open Go.RowKit
set_option linter.unusedVariables false

/-- What the first of the words says: the change behind it, and how many words that took. -/
def rcM (c : Chg) : List (List UInt8) → Option Chg × Nat
  | [] => (none, 0)
  | w :: r => if w = colorW then (colC c r, 2) else (chg1 c w, 1)
theorem rc_col {c : Chg} {w : List UInt8} {r : List (List UInt8)} (h : w = colorW) : rcM c (w :: r) = (colC c r, 2) := by simp [rcM, h]
theorem rc_bit {c : Chg} {w : List UInt8} {r : List (List UInt8)} (h : ¬ w = colorW) : rcM c (w :: r) = (chg1 c w, 1) := by simp [rcM, h]
theorem RdW.only {w w' : World} {b : Nat} {s : Sty} {c : Chg} {v : Value} {ws : List (List UInt8)} (h : RdW w v ws) (ho : Only b w w') (h1 : SBox w b s) (h2 : SBox w' b ⟨s.nm, s.pr, c⟩) : RdW w' v ws := by
  refine h.keep fun b' o u hu => ?_
  by_cases e : b' = b
  · subst e
    have hc := cell_of_row _ _ o _ _ _ h1
    rw [hu] at hc
    rw [cell_of_row _ _ o _ _ _ h2]
    have ho5 : o < 5 := by
      have := (Array.getElem?_eq_some_iff.1 hc.symm).1
      simpa [styCells] using this
    have h5 : o = 0 ∨ o = 1 ∨ o = 2 ∨ o = 3 ∨ o = 4 := by omega
    rcases h5 with rfl | rfl | rfl | rfl | rfl <;> simp [styCells] at hc ⊢ <;> exact hc.symm
  · have hlt := cell_in hu
    exact (World.cell?_of_block (a := ⟨b', o, none⟩) (ho.block b' hlt (fun e2 => e (by injection e2)))).trans hu
theorem RdPost.num {b : Nat} {s : Sty} {n : Nat} {o : Option Chg} {w w' : World} {e : Ending} (h : RdPost b s n o w e w') : ∃ z : Int, Hid (z = ((if o.isSome then n else 0 : Nat) : Int)) ∧ e = .returned (.int .i64 z) ∧ Only b w w' ∧ SBox w' b ⟨s.nm, s.pr, o.getD s.ch⟩ :=
  ⟨_, rfl, h.1, h.2.1, h.2.2⟩
theorem color_bs : (⟨#[99, 111, 108, 111, 114]⟩ : ByteArray) = bs colorW := rfl

set_option maxRecDepth 100000 in
set_option maxHeartbeats 4000000 in
theorem readChange_pro (b : Nat) (s : Sty) (v : Value) (x : List UInt8) (r : List (List UInt8)) (w : World) (h : SBox w b s) (hw : RdW w v (x :: r)) (hl : ∀ y ∈ x :: r, y.length ≤ 4096 ∧ y ≠ []) (hT : Tabs w) :
    Calls Tryz.prog 41 #[.pointer (some ⟨b, 2, none⟩), v] w (RdPost b s (rcM s.ch (x :: r)).2 (rcM s.ch (x :: r)).1 w) := by
  obtain ⟨pw, cw, rfl, hc1, hc2⟩ := hw.form
  obtain ⟨bw, ow, rfl, d0⟩ := hw.first
  unfold maxLen at hc2
  simp only [List.length_cons] at hc1 hw ⊢
  have hlr : (0 : Int) < ((r.length + 1 : Nat) : Int) := by omega
  have tx := bs_toList x
  by_cases hx : x = colorW
  · rw [rc_col hx]
    subst hx
    by_cases h1 : cw = 1
    · have hr : r = [] := by cases r with | nil => rfl | cons a b => simp at hc1; omega
      subst hr
      have hq : RdW w (.slice (some ⟨bw, ow, none⟩) 0 0) [] := ⟨_, 0, rfl, Nat.le_refl _, Nat.zero_le _, fun j hj => absurd hj (by simp)⟩
      subst h1
      have HQ := Lib.hid (readColor_pro b s _ [] w h hq (fun y hy => absurd hy (by simp)) hT)
      clear h hw hT hl hq
      go_enter Tryz.func41, Tryz.ntmps41
      go_wp2_with fail
      refine HQ.out.mono ?_
      intro e w1 hh
      obtain ⟨z, HZ, rfl, ho, hs⟩ := hh.num
      clear hh
      have HO := Lib.hid ho
      have HS := Lib.hid hs
      clear ho hs
      go_wp2_with fail
      go_ret
      exact ⟨ret_i HZ.out, HO.out, HS.out⟩
    · have hq := hw.tail (some ⟨bw, ow + 3, none⟩) (fun e => rfl)
      have HQ := Lib.hid (readColor_pro b s _ r w h hq (fun y hy => (hl y (by simp [hy])).1) hT)
      clear h hw hT hl hq
      go_enter Tryz.func41, Tryz.ntmps41
      go_wp2_with fail
      refine HQ.out.mono ?_
      intro e w1 hh
      obtain ⟨z, HZ, rfl, ho, hs⟩ := hh.num
      clear hh
      have HO := Lib.hid ho
      have HS := Lib.hid hs
      clear ho hs
      go_wp2_with fail
      go_ret
      exact ⟨ret_i HZ.out, HO.out, HS.out⟩
  · rw [rc_bit hx]
    have tf : (x == [99, 111, 108, 111, 114]) = false := by simpa [colorW] using hx
    cases x with
    | nil => exact absurd rfl (hl [] (by simp)).2
    | cons g y =>
      have HQ := Lib.hid (readBit_pro b s g y w h (by have := (hl (g :: y) (by simp)).1; simp at this; omega) hT)
      have hne : ¬ (g :: y) = [99, 111, 108, 111, 114] := hx
      clear h hw hT hl hx
      obtain ⟨x, hxx⟩ : ∃ x, g :: y = x := ⟨_, rfl⟩
      rw [hxx] at d0 tx tf hne HQ ⊢
      clear hxx
      go_enter Tryz.func41, Tryz.ntmps41
      go_wp2_with fail
      refine HQ.out.mono ?_
      intro e w1 hh
      obtain ⟨z, HZ, rfl, ho, hs⟩ := hh.num
      clear hh
      have HO := Lib.hid ho
      have HS := Lib.hid hs
      clear ho hs
      go_wp2_with fail
      go_ret
      exact ⟨ret_i HZ.out, HO.out, HS.out⟩
end Go.Proofs.YtceanagnkcejgaaGreatDoor
