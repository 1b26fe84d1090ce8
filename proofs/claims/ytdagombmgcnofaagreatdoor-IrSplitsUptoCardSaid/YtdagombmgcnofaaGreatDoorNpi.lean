/- The program's Norm and add of layer 7. -/
import Derived.Test.YtdagombmgcnofaaGreatDoorNbi
namespace Go.Proofs.YtdagombmgcnofaaGreatDoor
open Go.RowKit Go.Maps
set_option linter.unusedVariables false

/-- What Norm answers. -/
def NormIs (s : ByteArray) (w : World) (e : Ending) (w' : World) : Prop := e = .returned (.tuple #[.string (nrm s).1, .int .i64 (nrm s).2]) ∧ Below w.heap.size w w'
theorem empty_of_size {f : ByteArray} (h : f.size = 0) : f = ByteArray.empty := by
  have : f.data = #[] := Array.eq_empty_of_size_eq_zero h
  cases f; cases this; rfl

set_option maxRecDepth 100000 in
set_option maxHeartbeats 1000000 in
theorem norm_pro (s : ByteArray) (w : World) (hT : Tabs w) : Calls Tryz.prog 244 #[.string s] w (NormIs s w) := by
  by_cases h1 : 64 < s.size
  · have hn : nrm s = (ByteArray.empty, 2) := by unfold nrm; rw [if_pos h1]
    have HN := Lib.hid hn
    have h1z : (64 : Int) < s.size := by omega
    clear hn hT h1
    go_enter Tryz.func244, Tryz.ntmps244
    go_wp2_with fail
    go_ret2
    unfold NormIs
    rw [HN.out]
    exact ⟨rfl, Below.refl _ _⟩
  · have h1z : ¬ (64 : Int) < s.size := by omega
    have HS := Lib.hid (show s.size ≤ 16777216 by omega)
    have HT := Lib.hid hT
    obtain ⟨f, hf⟩ : ∃ f, fold s = f := ⟨_, rfl⟩
    obtain ⟨p, hp⟩ : ∃ p, ((chars s).find? unplain).isNone = p := ⟨_, rfl⟩
    have hn : nrm s = if p = false ∨ f.size = 0 then (ByteArray.empty, 70) else (f, 0) := by unfold nrm; rw [if_neg h1, hp, hf]
    have HN := Lib.hid hn
    have HF := Lib.hid hf
    have HP := Lib.hid hp
    clear h1 hn hf hp hT
    have HC := Lib.hid (fold_pro s w HS.out HT.out)
    cases p with
    | false =>
      go_enter Tryz.func244, Tryz.ntmps244
      go_wp2_with fail
      refine HC.out.mono ?_
      rw [HF.out]
      rintro e w1 ⟨rfl, hb1⟩
      have HB1 := Lib.hid hb1
      have HT1 := Lib.hid (HT.out.below hb1 (Nat.le_refl _))
      clear hb1
      go_wp2_with fail
      refine (plain_pro s _ HS.out HT1.out).mono ?_
      rintro e w2 ⟨he, hb2⟩
      rw [HP.out] at he
      subst he
      have HB2 := Lib.hid (HB1.out.trans (hb2.mono HB1.out.size))
      clear hb2
      go_wp2_with fail
      go_ret2
      unfold NormIs
      rw [HN.out, if_pos (.inl (by simp))]
      exact ⟨rfl, HB2.out⟩
    | true =>
      by_cases hz : f.size = 0
      · have n1 := isNil hz
        have HZ := Lib.hid hz
        clear hz
        go_enter Tryz.func244, Tryz.ntmps244
        go_wp2_with fail
        refine HC.out.mono ?_
        rw [HF.out]
        rintro e w1 ⟨rfl, hb1⟩
        have HB1 := Lib.hid hb1
        have HT1 := Lib.hid (HT.out.below hb1 (Nat.le_refl _))
        clear hb1
        go_wp2_with fail
        refine (plain_pro s _ HS.out HT1.out).mono ?_
        rintro e w2 ⟨he, hb2⟩
        rw [HP.out] at he
        subst he
        have HB2 := Lib.hid (HB1.out.trans (hb2.mono HB1.out.size))
        clear hb2
        go_wp2_with fail
        go_ret2
        unfold NormIs
        rw [HN.out, if_pos (.inr HZ.out)]
        exact ⟨rfl, HB2.out⟩
      · have n1 := notEmpty (s := f) (by omega)
        have HZ := Lib.hid (show ¬ (true = false ∨ f.size = 0) by rintro (h | h); cases h; exact hz h)
        clear hz
        go_enter Tryz.func244, Tryz.ntmps244
        go_wp2_with fail
        refine HC.out.mono ?_
        rw [HF.out]
        rintro e w1 ⟨rfl, hb1⟩
        have HB1 := Lib.hid hb1
        have HT1 := Lib.hid (HT.out.below hb1 (Nat.le_refl _))
        clear hb1
        go_wp2_with fail
        refine (plain_pro s _ HS.out HT1.out).mono ?_
        rintro e w2 ⟨he, hb2⟩
        rw [HP.out] at he
        subst he
        have HB2 := Lib.hid (HB1.out.trans (hb2.mono HB1.out.size))
        clear hb2
        go_wp2_with fail
        go_ret2
        unfold NormIs
        rw [HN.out, if_neg HZ.out]
        exact ⟨rfl, HB2.out⟩

/-- What add answers, and what it leaves of the map. -/
def AddIs (ks : List ByteArray) (M : Nat) (s : ByteArray) (w : World) (e : Ending) (w' : World) : Prop :=
  (errOn ks s ≠ 0 ∧ e = .returned (.tuple #[.string ByteArray.empty, .int .i64 (errOn ks s)]) ∧ MapIs w' M ks ∧ Below w.heap.size w w') ∨
  (errOn ks s = 0 ∧ e = .returned (.tuple #[.string (nm s), .int .i64 0]) ∧ MapIs w' M (ks ++ [nm s]) ∧ w.grownBy w' (some M))
theorem below_by {w w1 w2 : World} {B : Nat} (h : Below w.heap.size w w1) (hg : w1.grownBy w2 (some B)) : w.grownBy w2 (some B) :=
  ⟨hg.os.trans h.os, hg.tape.trans h.tape, hg.output.trans h.output, Nat.le_trans h.size hg.size, fun k hk hne => (hg.block k (Nat.lt_of_lt_of_le hk h.size) hne).trans (h.block k hk)⟩

end Go.Proofs.YtdagombmgcnofaaGreatDoor
