/- Layer 13: lists of texts in memory; the document's Texts and the law's rects, of like lists. -/
import Derived.Test.YtjohhahfpgfjdaaGreatDoorK7
import Derived.Test.YtjohhahfpgfjdaaGreatDoorK35
import Derived.BigQuiet
namespace Go.Proofs.YtjohhahfpgfjdaaGreatDoor.Tb
open Go.RowKit Go.Maps
set_option linter.unusedVariables false
set_option linter.unusedSimpArgs false
/-- A list of texts in memory, in blocks that P holds of. -/
def RdS (P : Nat → Prop) (w : World) (v : Value) (zs : List ByteArray) : Prop :=
  ∃ (pa : Option Addr) (cap : Nat), v = .slice pa zs.length cap ∧ zs.length ≤ cap ∧ cap ≤ maxLen ∧ ∀ j (hj : j < zs.length), ∃ b off, pa = some ⟨b, off, none⟩ ∧ P b ∧ w.cell? ⟨b, off + j, none⟩ = some (.string zs[j])
section
variable {P Q : Nat → Prop} {w w' : World} {v : Value} {zs : List ByteArray}
theorem RdS.keep (h : RdS P w v zs) (hk : ∀ a : Addr, P a.block → a.block < w.heap.size → w'.cell? a = w.cell? a) : RdS P w' v zs := by
  obtain ⟨pa, cap, e, h1, h2, h4⟩ := h
  refine ⟨pa, cap, e, h1, h2, fun j hj => ?_⟩
  obtain ⟨b, off, e, hp, hc⟩ := h4 j hj
  exact ⟨b, off, e, hp, (hk ⟨b, off + j, none⟩ hp (cellInL hc)).trans hc⟩
theorem RdS.below (h : RdS P w v zs) (hb : Below w.heap.size w w') : RdS P w' v zs := h.keep fun _ _ ha => hb.cell ha
theorem RdS.form (h : RdS P w v zs) : ∃ (pa : Option Addr) (cap : Nat), v = .slice pa zs.length cap ∧ zs.length ≤ cap ∧ cap ≤ maxLen := by
  obtain ⟨pa, cap, e, h1, h2, _⟩ := h
  exact ⟨pa, cap, e, h1, h2⟩
theorem RdS.at_ {pa : Option Addr} {n cap : Nat} (h : RdS P w (.slice pa n cap) zs) {j : Nat} (hj : j < zs.length) : ∃ b off, pa = some ⟨b, off, none⟩ ∧ P b ∧ w.cell? ⟨b, off + j, none⟩ = some (.string zs[j]) := by
  obtain ⟨pa', cap', e, _, _, h4⟩ := h
  cases e
  exact h4 j hj
theorem RdS.own {base n : Nat} (h : w.ownsRow base 9 1 v n (strsV zs)) (hn : n = zs.length) : RdS (base ≤ ·) w v zs := by
  subst hn
  rcases h.2 with ⟨rfl, h0⟩ | ⟨g, cap, cur, rfl, hb, hg, h1, h2, h3, h4⟩
  · have : zs = [] := List.eq_nil_of_length_eq_zero h0
    subst this
    exact ⟨none, 0, rfl, Nat.le_refl _, Nat.zero_le _, fun i hi => absurd hi (by simp)⟩
  · refine ⟨_, cap, rfl, h1, h2, fun j hj => ⟨g, 0, rfl, hb, ?_⟩⟩
    rw [Nat.zero_add]
    have := World.ownsRow.cellAt h j (by omega)
    rw [this]
    simp [strsV, hj]
end
set_option maxRecDepth 100000 in
set_option maxHeartbeats 4000000 in
theorem lrects_law {P Q : Nat → Prop} (l : List Rc) (va vb : Value) (w : World) (ha : RdQ P w va l) (hb : RdQ Q w vb l) :
    Calls Tryz.prog 20 #[va, vb] w (SaysL (.bool true) w) := by
  obtain ⟨pa, ca, rfl, hc1, hc2⟩ := ha.form
  obtain ⟨pb, cb, rfl, _, _⟩ := hb.form
  unfold maxLen at hc2
  have HA := Lib.hid ha
  have HB := Lib.hid hb
  obtain ⟨n, hn⟩ : ∃ n, l.length = n := ⟨_, rfl⟩
  have HN := Lib.hid hn
  rw [hn] at HA HB hc1 ⊢
  have n62 : n ≤ 9223372036854775807 := by omega
  have t0 : ((n : Int) != (n : Int)) = false := by simp
  have hgd : Tryz.prog.eqGuardType Tryz.prog.depth 37 = false := by kernel_rfl
  clear ha hb hn hc1
  go_enter Tryz.func20, Tryz.ntmps20
  go_wp2_with fail
  go_loopw [13] (fun iv wr => ∃ (k : Nat), iv = .int .i64 k ∧ k ≤ n ∧ Hid (Below w.heap.size w wr)) (fun iv _ => n - (intOf iv).toNat)
  case atStart => exact ⟨0, rfl, Nat.zero_le _, Lib.hid (Below.refl _ _)⟩
  case round =>
    obtain ⟨k, rfl, hk, HBR⟩ := hrel
    by_cases hlt : k < n
    · have hkl : k < l.length := by rw [HN.out]; exact hlt
      have k1 : (k : Int) < n := by omega
      have HLT := Lib.hid hlt
      obtain ⟨b, off, rfl, _, d0, d1, d2, d3⟩ := (HA.out.below HBR.out).at_ hkl
      obtain ⟨b2, off2, rfl, _, e0, e1, e2, e3⟩ := (HB.out.below HBR.out).at_ hkl
      obtain ⟨x, hx⟩ : ∃ x, l[k] = x := ⟨_, rfl⟩
      rw [hx] at d0 d1 d2 d3 e0 e1 e2 e3
      have heq := fun w => eqRc x x w
      rw [decide_eq_true rfl] at heq
      clear hx hkl hlt
      go_upto_region 6 with fail
      go_quiet (fail)
      have HB2 := Lib.hid (dn_below HBR.out nq)
      go_wp2_with fail
      go_roundw
      case measure => have := HLT.out; simp [intOf]; omega
      case rel => exact ⟨k + 1, by go_num, HLT.out, HB2⟩
    · obtain rfl : k = n := by omega
      have hzk : ¬ (k : Int) < k := by omega
      clear hlt
      go_wp2_with fail
      go_ret
      exact ⟨rfl, HBR.out⟩
end Go.Proofs.YtjohhahfpgfjdaaGreatDoor.Tb
