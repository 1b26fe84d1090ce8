/- Layer 10: the program's mayBe, entryOf, mayLook, Find, wayTo, parentOf. -/
import Derived.Test.YtjnnkelbedmccaaToc
namespace Go.Proofs.Ytjnnkelbedmccaa
open Go.RowKit Go.Maps
set_option linter.unusedVariables false

set_option maxRecDepth 100000 in
theorem may_pro (l : List Ent) (v : Value) (w : World) (hv : RdE w v l) : Calls Try.prog 52 #[v] w (SaysL (.int .i64 (gdE l)) w) := by
  have HC := Lib.hid (check_pro l v 1000 w hv)
  obtain ⟨pa, cap, rfl, _, _⟩ := hv.form
  obtain ⟨a, ha⟩ : ∃ a, (chk 1000 l).1 = a := ⟨_, rfl⟩
  obtain ⟨b, hb⟩ : ∃ b, gdE l = b := ⟨_, rfl⟩
  have hb2 : (chk 1000 l).2 = b := hb
  rw [hb]
  have HA := Lib.hid ha
  have HB := Lib.hid hb2
  clear hv ha hb hb2
  go_enter Try.func52, Try.ntmps52
  go_wp2_with fail
  refine HC.out.mono ?_
  unfold ChkIs
  rw [HA.out, HB.out]
  rintro e w1 ⟨rfl, hb1⟩
  have HB1 := Lib.hid hb1
  clear hb1
  go_wp2_with fail
  go_ret
  exact ⟨rfl, HB1.out⟩
/-- What entryOf answers. -/
def entE (l : List Ent) (x : Int) : Int × Int := if gdE l ≠ 0 then (0, gdE l) else if atF l x < 0 then (0, 3) else (atF l x, 0)
def EntIs (l : List Ent) (x : Int) (w : World) (e : Ending) (w' : World) : Prop := e = .returned (.tuple #[.int .i64 (entE l x).1, .int .i64 (entE l x).2]) ∧ Below w.heap.size w w'
set_option maxRecDepth 100000 in
set_option maxHeartbeats 1000000 in
theorem ent_pro (l : List Ent) (v : Value) (x : Int) (w : World) (hv : RdE w v l) : Calls Try.prog 46 #[v, .int .i64 x] w (EntIs l x w) := by
  have HC := Lib.hid (may_pro l v w hv)
  have HV := Lib.hid hv
  obtain ⟨pa, cap, rfl, _, _⟩ := hv.form
  obtain ⟨g, hg⟩ : ∃ g, gdE l = g := ⟨_, rfl⟩
  rw [hg] at HC
  by_cases h0 : g = 0
  · subst h0
    have HL := Lib.hid (gd_of hg).len
    have HE := Lib.hid (show entE l x = if atF l x < 0 then (0, 3) else (atF l x, 0) by unfold entE; rw [if_neg (by simp [hg])])
    clear hv hg
    go_enter Try.func46, Try.ntmps46
    go_wp2_with fail
    refine HC.out.mono ?_
    rintro e w1 ⟨rfl, hb1⟩
    have HB1 := Lib.hid hb1
    clear hb1
    go_wp2_with fail
    go_loopw [16] (fun i wr => ∃ k : Nat, i = .int .i64 (k : Nat) ∧ k ≤ l.length ∧ Hid (∀ j, j < k → tpN l j ≠ x) ∧ Hid (Below w.heap.size w wr)) (fun i _ => l.length - (intOf i).toNat)
    case atStart => exact ⟨0, rfl, Nat.zero_le _, Lib.hid (fun j hj => absurd hj (Nat.not_lt_zero _)), HB1⟩
    case round =>
      obtain ⟨k, rfl, hk, HA, HB⟩ := hrel
      by_cases hlt : k < l.length
      · obtain ⟨b, off, rfl, c0, c1⟩ := (HV.out.below HB.out).cell hlt
        have hk1 : (k : Int) < l.length := by omega
        have hL := HL.out
        have hf : tpN l k = x → atF l x = (k : Nat) := fun e => atF_first hlt HA.out e
        obtain ⟨t, ht⟩ : ∃ t, tpN l k = t := ⟨_, rfl⟩
        obtain ⟨u, hu⟩ : ∃ u, lvN l k = u := ⟨_, rfl⟩
        rw [ht] at c0 hf
        rw [hu] at c1
        have HT := Lib.hid ht
        have HLT := Lib.hid hlt
        have HB2 := Lib.hid (HB.out.alloc HB.out.size (.cells #[.int .i64 t, .int .i64 u] 67))
        by_cases he : t = x
        · have HF := Lib.hid (show EntIs l x w (.returned (.tuple #[.int .i64 (k : Nat), .int .i64 0])) (wr.alloc (.cells #[.int .i64 t, .int .i64 u] 67)) from ⟨by rw [HE.out, hf he, if_neg (by omega)], HB2.out⟩)
          have t1 : (t == x) = true := by simp [he]
          clear he hf ht hu hlt
          go_wp2_with fail
          go_ret2
          exact HF.out
        · have t1 : (t == x) = false := by simpa using he
          have HA2 := Lib.hid (show ∀ j, j < k + 1 → tpN l j ≠ x from fun j hj => by
            rcases Nat.eq_or_lt_of_le (Nat.le_of_lt_succ hj) with e | h9
            · rw [e, HT.out]; exact he
            · exact HA.out j h9)
          clear he hf ht hu hlt
          go_wp2_with fail
          go_roundw
          case measure => have := HLT.out; first | (simp [intOf]; done) | (simp [intOf]; omega)
          case rel => exact ⟨k + 1, by go_num, by have := HLT.out; omega, HA2, HB2⟩
      · obtain rfl : k = l.length := by omega
        have hkx : ¬ ((l.length : Nat) : Int) < l.length := by omega
        have HF := Lib.hid (show EntIs l x w (.returned (.tuple #[.int .i64 0, .int .i64 3])) wr from ⟨by rw [HE.out, atF_none HA.out, if_pos (by omega)], HB.out⟩)
        clear hlt hk
        go_wp2_with fail
        go_ret2
        exact HF.out
  · have HE := Lib.hid (show entE l x = (0, g) by unfold entE; rw [hg, if_pos h0])
    have t1 : (g != 0) = true := by simpa using h0
    clear hv hg h0
    go_enter Try.func46, Try.ntmps46
    go_wp2_with fail
    refine HC.out.mono ?_
    rintro e w1 ⟨rfl, hb1⟩
    have HF := Lib.hid (show EntIs l x w (.returned (.tuple #[.int .i64 0, .int .i64 g])) w1 from ⟨by rw [HE.out], hb1⟩)
    clear hb1
    go_wp2_with fail
    go_ret2
    exact HF.out
def lookE (l : List Ent) (i : Int) : Int := if gdE l ≠ 0 then gdE l else if 0 ≤ i ∧ i < l.length then 0 else 1
set_option maxRecDepth 100000 in
theorem look_pro (l : List Ent) (v : Value) (i : Int) (w : World) (hv : RdE w v l) : Calls Try.prog 47 #[v, .int .i64 i] w (SaysL (.int .i64 (lookE l i)) w) := by
  have HC := Lib.hid (may_pro l v w hv)
  obtain ⟨pa, cap, rfl, _, _⟩ := hv.form
  obtain ⟨g, hg⟩ : ∃ g, gdE l = g := ⟨_, rfl⟩
  rw [hg] at HC
  have HQ := Lib.hid (fun w' => entry_pro pa l.length cap i w')
  by_cases h0 : g = 0
  · subst h0
    by_cases hi : 0 ≤ i ∧ i < l.length
    · have he : lookE l i = 0 := by unfold lookE; rw [if_neg (by simp [hg]), if_pos hi]
      rw [decide_eq_true hi] at HQ
      rw [he]
      clear hv hg hi he
      go_enter Try.func47, Try.ntmps47
      go_wp2_with fail
      refine HC.out.mono ?_
      rintro e w1 ⟨rfl, hb1⟩
      have HB1 := Lib.hid hb1
      clear hb1
      go_wp2_with fail
      refine (HQ.out _).mono ?_
      rintro e w2 ⟨rfl, rfl⟩
      go_wp2_with fail
      go_ret
      exact ⟨rfl, HB1.out⟩
    · have he : lookE l i = 1 := by unfold lookE; rw [if_neg (by simp [hg]), if_neg hi]
      rw [decide_eq_false hi] at HQ
      rw [he]
      clear hv hg hi he
      go_enter Try.func47, Try.ntmps47
      go_wp2_with fail
      refine HC.out.mono ?_
      rintro e w1 ⟨rfl, hb1⟩
      have HB1 := Lib.hid hb1
      clear hb1
      go_wp2_with fail
      refine (HQ.out _).mono ?_
      rintro e w2 ⟨rfl, rfl⟩
      go_wp2_with fail
      go_ret
      exact ⟨rfl, HB1.out⟩
  · have he : lookE l i = g := by unfold lookE; rw [hg, if_pos h0]
    have t1 : (g != 0) = true := by simpa using h0
    rw [he]
    clear hv hg h0 he
    go_enter Try.func47, Try.ntmps47
    go_wp2_with fail
    refine HC.out.mono ?_
    rintro e w1 ⟨rfl, hb1⟩
    have HB1 := Lib.hid hb1
    clear hb1
    go_wp2_with fail
    go_ret
    exact ⟨rfl, HB1.out⟩
/-- What Find answers. -/
def findE (l : List Ent) (x : Int) : Int × Bool := if gdE l ≠ 0 ∨ atF l x < 0 then (0, false) else (atF l x, true)
theorem find_ent (l : List Ent) (x : Int) : findE l x = ((entE l x).1, (entE l x).2 == 0) := by
  unfold findE entE
  by_cases h : gdE l ≠ 0
  · rw [if_pos (.inl h), if_pos h]; simpa using h
  · rw [if_neg h]
    by_cases h2 : atF l x < 0
    · rw [if_pos (.inr h2), if_pos h2]; rfl
    · rw [if_neg (by omega), if_neg h2]; rfl
set_option maxRecDepth 100000 in
theorem find_pro (l : List Ent) (v : Value) (x : Int) (w : World) (hv : RdE w v l) : Calls Try.prog 17 #[v, .int .i64 x] w fun e w' => e = .returned (.tuple #[.int .i64 (findE l x).1, .bool (findE l x).2]) ∧ Below w.heap.size w w' := by
  have HC := Lib.hid (ent_pro l v x w hv)
  obtain ⟨pa, cap, rfl, _, _⟩ := hv.form
  rw [find_ent]
  obtain ⟨a, ha⟩ : ∃ a, (entE l x).1 = a := ⟨_, rfl⟩
  obtain ⟨b, hb⟩ : ∃ b, (entE l x).2 = b := ⟨_, rfl⟩
  have HA := Lib.hid ha
  have HB := Lib.hid hb
  rw [ha, hb]
  clear hv ha hb
  go_enter Try.func17, Try.ntmps17
  go_wp2_with fail
  refine HC.out.mono ?_
  unfold EntIs
  rw [HA.out, HB.out]
  rintro e w1 ⟨rfl, hb1⟩
  have HB1 := Lib.hid hb1
  clear hb1
  go_wp2_with fail
  go_ret2
  exact ⟨rfl, HB1.out⟩
end Go.Proofs.Ytjnnkelbedmccaa
