/- Bits of 64-bit numbers: what is laid and taken one behind the other. Nothing of the program is in it. -/
import Derived.Test.YtceanagnkcejgaaGreatDoorSt
import Derived.Laws.BitsLemmas
namespace Go.Proofs.YtceanagnkcejgaaGreatDoor
open Go Go.RowKit
set_option linter.unusedVariables false

def bv (a : Int) : BitVec 64 := BitVec.ofInt 64 a
def In64 (a : Int) : Prop := -9223372036854775808 ≤ a ∧ a ≤ 9223372036854775807
theorem wrap_in (n : Int) : In64 (IntKind.i64.wrap n) := by
  rw [IntKind.wrap_i64]; unfold In64; omega
theorem bv_wrap (r : BitVec 64) : bv (IntKind.i64.wrap (r.toNat : Int)) = r := by
  apply BitVec.eq_of_toNat_eq
  have h := r.isLt
  unfold bv
  rw [BitVec.toNat_ofInt, IntKind.wrap_i64]
  omega
theorem bv_inj {a b : Int} (ha : In64 a) (hb : In64 b) (h : bv a = bv b) : a = b := by
  have h2 := congrArg BitVec.toNat h
  unfold bv at h2
  rw [BitVec.toNat_ofInt, BitVec.toNat_ofInt] at h2
  unfold In64 at ha hb
  omega
theorem bits_in (op : BinOp) (a b : Int) : In64 (bits op .i64 a b) := by unfold bits; exact wrap_in _
theorem bv_and (a b : Int) : bv (bits .and .i64 a b) = bv a &&& bv b := bv_wrap _
theorem bv_or (a b : Int) : bv (bits .or .i64 a b) = bv a ||| bv b := bv_wrap _
theorem bv_andNot (a b : Int) : bv (bits .andNot .i64 a b) = bv a &&& ~~~bv b := bv_wrap _
theorem bv_zero : bv 0 = 0#64 := rfl
theorem and_all (x : BitVec 64) : x &&& ~~~(0#64) = x := by
  refine BitVec.eq_of_toNat_eq ?_
  rw [BitVec.toNat_and]
  have h := x.isLt
  have e : (~~~(0#64)).toNat = 2 ^ 64 - 1 := by decide
  rw [e, Nat.and_two_pow_sub_one_eq_mod]
  exact Nat.mod_eq_of_lt h
theorem then_on_in (a b : Chg) : In64 (thenC a b).on := by simp only [thenC]; exact bits_in _ _ _
theorem then_off_in (a b : Chg) : In64 (thenC a b).off := by simp only [thenC]; exact bits_in _ _ _
theorem apply_in (l : Lk) (c : Chg) : In64 (applyL l c).att := by simp only [applyL]; exact bits_in _ _ _
theorem overI_assoc (c a b : Int) : overI (overI c a) b = overI c (overI a b) := by
  unfold overI
  by_cases h1 : a = -1 <;> by_cases h2 : b = -1 <;> simp [h1, h2]
theorem overI_none (c : Int) : overI c (-1) = c := by simp [overI]
theorem overI_ahead (c : Int) : overI (-1) c = c := by unfold overI; split <;> simp_all

/-- What holds of all single bits holds of all 64. -/
theorem bv_ext3 {x y : BitVec 64} (h : ∀ i (hi : i < 64), x[i] = y[i]) : x = y := BitVec.eq_of_getElem_eq h
def Apart (c : Chg) : Prop := bv c.on &&& bv c.off = 0
theorem apart_bit {c : Chg} (h : Apart c) (i : Nat) (hi : i < 64) : ((bv c.on)[i] && (bv c.off)[i]) = false := by
  have h2 := congrArg (fun x : BitVec 64 => x[i]) h
  simpa using h2
theorem then_assoc (a b c : Chg) (hb : Apart b) (hc : Apart c) : thenC (thenC a b) c = thenC a (thenC b c) := by
  refine Chg.eq ?_ ?_ (overI_assoc _ _ _)
  · refine bv_inj (then_on_in _ _) (then_on_in _ _) ?_
    simp only [thenC, bv_or, bv_andNot]
    refine bv_ext3 fun i hi => ?_
    have h1 := apart_bit hb i hi
    have h2 := apart_bit hc i hi
    simp only [BitVec.getElem_or, BitVec.getElem_and, BitVec.getElem_not]
    generalize (bv a.on)[i] = a1 at *
    generalize (bv b.on)[i] = b1 at *
    generalize (bv b.off)[i] = b2 at *
    generalize (bv c.on)[i] = c1 at *
    generalize (bv c.off)[i] = c2 at *
    revert h1 h2
    cases a1 <;> cases b1 <;> cases b2 <;> cases c1 <;> cases c2 <;> simp
  · refine bv_inj (then_off_in _ _) (then_off_in _ _) ?_
    simp only [thenC, bv_or, bv_andNot]
    refine bv_ext3 fun i hi => ?_
    have h1 := apart_bit hb i hi
    have h2 := apart_bit hc i hi
    simp only [BitVec.getElem_or, BitVec.getElem_and, BitVec.getElem_not]
    generalize (bv a.off)[i] = a1 at *
    generalize (bv b.on)[i] = b1 at *
    generalize (bv b.off)[i] = b2 at *
    generalize (bv c.on)[i] = c1 at *
    generalize (bv c.off)[i] = c2 at *
    revert h1 h2
    cases a1 <;> cases b1 <;> cases b2 <;> cases c1 <;> cases c2 <;> simp
theorem apply_then (l : Lk) (a b : Chg) (ha : Apart a) (hb : Apart b) : applyL (applyL l a) b = applyL l (thenC a b) := by
  refine Lk.eq ?_ (overI_assoc _ _ _)
  refine bv_inj (apply_in _ _) (apply_in _ _) ?_
  simp only [thenC, applyL, bv_or, bv_andNot]
  refine bv_ext3 fun i hi => ?_
  have h1 := apart_bit ha i hi
  have h2 := apart_bit hb i hi
  simp only [BitVec.getElem_or, BitVec.getElem_and, BitVec.getElem_not]
  generalize (bv l.att)[i] = x at *
  generalize (bv a.on)[i] = a1 at *
  generalize (bv a.off)[i] = a2 at *
  generalize (bv b.on)[i] = b1 at *
  generalize (bv b.off)[i] = b2 at *
  revert h1 h2
  cases x <;> cases a1 <;> cases a2 <;> cases b1 <;> cases b2 <;> simp
theorem then_none (a : Chg) (h1 : In64 a.on) (h2 : In64 a.off) : thenC a none0 = a := by
  refine Chg.eq ?_ ?_ (overI_none _)
  · refine bv_inj (then_on_in _ _) h1 ?_
    simp only [thenC, none0, bv_or, bv_andNot, bv_zero, and_all]
    simp
  · refine bv_inj (then_off_in _ _) h2 ?_
    simp only [thenC, none0, bv_or, bv_andNot, bv_zero, and_all]
    simp
theorem none_then (a : Chg) (h1 : In64 a.on) (h2 : In64 a.off) : thenC none0 a = a := by
  refine Chg.eq ?_ ?_ (overI_ahead _)
  · refine bv_inj (then_on_in _ _) h1 ?_
    simp only [thenC, none0, bv_or, bv_andNot, bv_zero]
    simp
  · refine bv_inj (then_off_in _ _) h2 ?_
    simp only [thenC, none0, bv_or, bv_andNot, bv_zero]
    simp
theorem apply_none (l : Lk) (h1 : In64 l.att) : applyL l none0 = l := by
  refine Lk.eq ?_ (overI_none _)
  refine bv_inj (apply_in _ _) h1 ?_
  simp only [applyL, none0, bv_or, bv_andNot, bv_zero, and_all]
  simp
/-- What two changes come to has no bit in both, if neither has. -/
theorem then_apart (a b : Chg) (ha : Apart a) (hb : Apart b) : Apart (thenC a b) := by
  unfold Apart
  simp only [thenC, bv_or, bv_andNot]
  refine bv_ext3 fun i hi => ?_
  have h1 := apart_bit ha i hi
  have h2 := apart_bit hb i hi
  simp only [BitVec.getElem_or, BitVec.getElem_and, BitVec.getElem_not]
  generalize (bv a.on)[i] = a1 at *
  generalize (bv a.off)[i] = a2 at *
  generalize (bv b.on)[i] = b1 at *
  generalize (bv b.off)[i] = b2 at *
  revert h1 h2
  cases a1 <;> cases a2 <;> cases b1 <;> cases b2 <;> simp
/-- A change twice is as once. -/
theorem apply_twice (l : Lk) (c : Chg) : applyL (applyL l c) c = applyL l c := by
  refine Lk.eq ?_ ?_
  · refine bv_inj (apply_in _ _) (apply_in _ _) ?_
    simp only [applyL, bv_or, bv_andNot]
    refine bv_ext3 fun i hi => ?_
    simp only [BitVec.getElem_or, BitVec.getElem_and, BitVec.getElem_not]
    cases (bv l.att)[i] <;> cases (bv c.on)[i] <;> cases (bv c.off)[i] <;> rfl
  · simp only [applyL]; unfold overI; split <;> rfl
/-- The two ways to ask whether a change's bits are among the seven. -/
theorem mask_ok {a b : Int} (ha : In64 a) (hb : In64 b) : bits .andNot .i64 (bits .or .i64 a b) 127 = 0 ↔ 0 ≤ a ∧ a ≤ 127 ∧ 0 ≤ b ∧ b ≤ 127 := by
  have one : ∀ x : Int, In64 x → (bv x &&& ~~~bv 127 = 0 ↔ 0 ≤ x ∧ x ≤ 127) := by
    intro x hx
    constructor
    · intro h
      have h2 : bv x = bv x &&& bv 127 := by
        refine bv_ext3 fun i hi => ?_
        have h3 := congrArg (fun y : BitVec 64 => y[i]) h
        simp only [BitVec.getElem_and, BitVec.getElem_not] at h3 ⊢
        generalize (bv x)[i] = u at *
        generalize (bv 127)[i] = v at *
        revert h3
        cases u <;> cases v <;> simp
      have h4 : (bv x).toNat ≤ 127 := by
        have e : (bv x).toNat = (bv x).toNat &&& 127 := by
          have := congrArg BitVec.toNat h2
          rw [BitVec.toNat_and] at this
          exact this
        rw [e]
        exact Nat.and_le_right
      unfold bv at h4
      rw [BitVec.toNat_ofInt] at h4
      unfold In64 at hx
      omega
    · rintro ⟨h1, h2⟩
      obtain ⟨n, rfl⟩ : ∃ n : Nat, x = n := ⟨x.toNat, by omega⟩
      have hn : n < 128 := by omega
      have e : bv ((n : Nat) : Int) = BitVec.ofNat 64 n := by unfold bv; rw [BitVec.ofInt_natCast]
      rw [e]
      revert hn
      revert n
      have key : ∀ n, n < 128 → BitVec.ofNat 64 n &&& ~~~bv 127 = 0 := by decide +kernel
      intro n _ _ _ _ hn
      exact key n hn
  have split : bits .andNot .i64 (bits .or .i64 a b) 127 = 0 ↔ bv a &&& ~~~bv 127 = 0 ∧ bv b &&& ~~~bv 127 = 0 := by
    constructor
    · intro h
      have h2 := congrArg bv h
      rw [bv_andNot, bv_or, bv_zero] at h2
      constructor
      · refine bv_ext3 fun i hi => ?_
        have h3 := congrArg (fun y : BitVec 64 => y[i]) h2
        simp only [BitVec.getElem_and, BitVec.getElem_or, BitVec.getElem_not] at h3 ⊢
        generalize (bv a)[i] = u at *
        generalize (bv b)[i] = w at *
        generalize (bv 127)[i] = v at *
        revert h3
        cases u <;> cases v <;> cases w <;> simp
      · refine bv_ext3 fun i hi => ?_
        have h3 := congrArg (fun y : BitVec 64 => y[i]) h2
        simp only [BitVec.getElem_and, BitVec.getElem_or, BitVec.getElem_not] at h3 ⊢
        generalize (bv a)[i] = u at *
        generalize (bv b)[i] = w at *
        generalize (bv 127)[i] = v at *
        revert h3
        cases u <;> cases v <;> cases w <;> simp
    · rintro ⟨h1, h2⟩
      refine bv_inj (bits_in _ _ _) (by unfold In64; omega) ?_
      rw [bv_andNot, bv_or, bv_zero]
      refine bv_ext3 fun i hi => ?_
      have h3 := congrArg (fun y : BitVec 64 => y[i]) h1
      have h4 := congrArg (fun y : BitVec 64 => y[i]) h2
      simp only [BitVec.getElem_and, BitVec.getElem_or, BitVec.getElem_not] at h3 h4 ⊢
      generalize (bv a)[i] = u at *
      generalize (bv b)[i] = w at *
      generalize (bv 127)[i] = v at *
      revert h3 h4
      cases u <;> cases v <;> cases w <;> simp
  rw [split, one a ha, one b hb]
  constructor
  · rintro ⟨⟨h1, h2⟩, h3, h4⟩; exact ⟨h1, h2, h3, h4⟩
  · rintro ⟨h1, h2, h3, h4⟩; exact ⟨⟨h1, h2⟩, h3, h4⟩
theorem apart_iff (c : Chg) : bits .and .i64 c.on c.off = 0 ↔ Apart c := by
  unfold Apart
  constructor
  · intro h
    have h2 := congrArg bv h
    rw [bv_and, bv_zero] at h2
    exact h2
  · intro h
    refine bv_inj (bits_in _ _ _) (by unfold In64; omega) ?_
    rw [bv_and, bv_zero]; exact h
end Go.Proofs.YtceanagnkcejgaaGreatDoor
