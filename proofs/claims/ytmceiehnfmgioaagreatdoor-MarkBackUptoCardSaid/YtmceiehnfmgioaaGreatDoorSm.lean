/- Same of the document's answer for layer 4, and moved of the law: of tokens that are alike, of tokens some lines on. -/
import Derived.Test.YtmceiehnfmgioaaGreatDoorLxi
import Derived.Test.YtmceiehnfmgioaaGreatDoorSim
import Derived.BigQuiet
import Derived.Deep.QuietTactic
namespace Go.Proofs.YtmceiehnfmgioaaGreatDoor
open Go.RowKit
set_option linter.unusedVariables false

theorem lenOf' {w : World} {base : Nat} {e : TypeId} {size : Nat} {v : Value} {n : Nat} {xs : List Value} (h : w.ownsRow base e size v n xs) : ∃ (p : Option Addr) (c : Nat), v = .slice p n c := by
  rcases h.2 with ⟨rfl, h0⟩ | ⟨g, cap, cur, rfl, _⟩
  · exact ⟨none, 0, by rw [h0]⟩
  · exact ⟨_, _, rfl⟩
theorem tokRows_at {l : List Tok} {k : Nat} {t : Tok} (h : l[k]? = some t) (j : Nat) (hj : j < 5) : (tokRows l)[k * 5 + j]? = (tokRow t)[j]? := by
  induction l generalizing k with
  | nil => simp at h
  | cons a l ih =>
    have e : tokRows (a :: l) = tokRow a ++ tokRows l := by simp [tokRows]
    rw [e]
    cases k with
    | zero =>
      simp at h; subst h
      rw [Nat.zero_mul, Nat.zero_add, List.getElem?_append_left (by show j < 5; exact hj)]
    | succ k =>
      rw [List.getElem?_append_right (by show 5 ≤ _; omega), show (k + 1) * 5 + j - (tokRow a).length = k * 5 + j by show (k + 1) * 5 + j - 5 = _; omega]
      exact ih (by simpa using h)
/-- The five cells of a token in a list. -/
theorem tok_cells {w : World} {B : Nat} {l : List Tok} {g n cap k : Nat} {t : Tok} (h : w.ownsRow B 40 5 (.slice (some ⟨g, 0, none⟩) n cap) n (tokRows l)) (ht : l[k]? = some t) :
    w.cell? ⟨g, k * 5, none⟩ = some (.int .i64 t.kind) ∧ w.cell? ⟨g, k * 5 + 1, none⟩ = some (.string (bs t.name)) ∧ w.cell? ⟨g, k * 5 + 2, none⟩ = some (.string (bs t.text)) ∧ w.cell? ⟨g, k * 5 + 3, none⟩ = some (.int .i64 t.line) ∧ w.cell? ⟨g, k * 5 + 4, none⟩ = some (.int .i64 t.col) := by
  have hl : k < n := by
    have h1 := h.1
    rw [tokRows_len] at h1
    have : k < l.length := (List.getElem?_eq_some_iff.1 ht).1
    omega
  have go : ∀ j, j < 5 → w.cell? ⟨g, k * 5 + j, none⟩ = (tokRow t)[j]? := fun j hj => (World.ownsRow.cellAt h (k * 5 + j) (by omega)).trans (tokRows_at ht j hj)
  exact ⟨go 0 (by omega), go 1 (by omega), go 2 (by omega), go 3 (by omega), go 4 (by omega)⟩
theorem blw_drewN {w w1 : World} (h : Below w.heap.size w w1) (n : Nat) : Below w.heap.size w (w1.drewN n) := ⟨h.os, h.tape, h.output, h.size, h.block⟩

set_option maxRecDepth 100000 in
set_option maxHeartbeats 4000000 in
theorem same_ref (l : List Tok) (va vb : Value) (w : World) (ha : Toks w va l) (hb : Toks w vb l) (hl : l.length ≤ 540000000) :
    Calls Tryz.prog 18 #[va, vb] w (Says (.bool true) w) := by
  obtain ⟨B1, ha⟩ := ha
  obtain ⟨B2, hb⟩ := hb
  obtain ⟨pa, ca, rfl⟩ := lenOf' ha
  obtain ⟨pb, cb, rfl⟩ := lenOf' hb
  have HA := Lib.hid ha
  have HB := Lib.hid hb
  have HL := Lib.hid hl
  clear ha hb hl
  go_enter Tryz.func18, Tryz.ntmps18
  go_wp2_with fail
  go_loopw [5] (fun iv wr => ∃ (k : Nat), iv = .int .i64 k ∧ k ≤ l.length ∧ Below w.heap.size w wr) (fun iv _ => l.length - (intOf iv).toNat)
  case atStart => exact ⟨0, rfl, Nat.zero_le _, Below.refl _ _⟩
  case round =>
    obtain ⟨k, rfl, hk, hbr⟩ := hrel
    have HBR := Lib.hid hbr
    by_cases hlt : k < l.length
    · obtain ⟨t, ht⟩ : ∃ t, l[k]? = some t := ⟨_, List.getElem?_eq_getElem hlt⟩
      have hra := own_below HA.out hbr
      have hrb := own_below HB.out hbr
      obtain ⟨g, cap, hv, hg, hgl⟩ := World.ownsRow.form hra (by omega)
      obtain ⟨rfl, -, rfl⟩ : pa = some ⟨g, 0, none⟩ ∧ l.length = l.length ∧ ca = cap := by
        injection hv with a b c
        exact ⟨a, rfl, c⟩
      obtain ⟨g2, cap2, hv2, hg2, hgl2⟩ := World.ownsRow.form hrb (by omega)
      obtain ⟨rfl, -, rfl⟩ : pb = some ⟨g2, 0, none⟩ ∧ l.length = l.length ∧ cb = cap2 := by
        injection hv2 with a b c
        exact ⟨a, rfl, c⟩
      obtain ⟨a0, a1, a2, a3, a4⟩ := tok_cells hra ht
      obtain ⟨b0, b1, b2, b3, b4⟩ := tok_cells hrb ht
      have lt1 : (k : Int) < l.length := by omega
      have ZK := Lib.hid (show wrap64 ((k : Int) + 1) = (k : Int) + 1 from IntWalk.wrap64_in _ (by have := HL.out; omega))
      have HX := Lib.hid (show ∀ (wz : World) (b : Int), b = (k : Int) + 1 → Below w.heap.size w wz → ∃ (k' : Nat), Value.int .i64 b = .int .i64 k' ∧ k' ≤ l.length ∧ Below w.heap.size w wz by
        rintro wz b rfl hz
        exact ⟨k + 1, rfl, hlt, hz⟩)
      clear hbr hra hrb hv hg hgl hv2 hg2 hgl2 ht
      go_upto_region 6 with fail
      go_quiet (fail)
      go_wp2_with fail
      go_roundw
      case measure => (first | (rw [ZK.out]; simp only [intOf]; omega) | (simp only [intOf]; omega))
      case rel => exact HX.out _ _ (by first | exact ZK.out | rfl | omega) (by repeat (first | exact HBR.out | apply blw_drewN))
    · have nlt : ¬ (k : Int) < l.length := by omega
      clear hbr
      go_wp2_with fail
      go_ret
      exact ⟨rfl, HBR.out⟩
end Go.Proofs.YtmceiehnfmgioaaGreatDoor
