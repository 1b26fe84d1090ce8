/- Layer 10: the document's Find, Parent, below, End, Kids. -/
import Derived.Test.YtjnnkelbedmccaaTol
namespace Go.Proofs.Ytjnnkelbedmccaa
open Go.RowKit Go.Maps Go.Sort
set_option linter.unusedVariables false

set_option maxRecDepth 100000 in
theorem dfind_ref (l : List Ent) (v : Value) (x : Int) (w : World) (hv : RdE w v l) : Calls Try.prog 18 #[v, .int .i64 x] w fun e w' => e = .returned (.tuple #[.int .i64 (findE l x).1, .bool (findE l x).2]) ∧ Below w.heap.size w w' := by
  have HC := Lib.hid (good_ref l v w hv)
  have HV := Lib.hid hv
  obtain ⟨pa, cap, rfl, _, _⟩ := hv.form
  unfold findE
  obtain ⟨g, hg⟩ : ∃ g, gdE l = g := ⟨_, rfl⟩
  rw [hg] at HC ⊢
  by_cases h0 : g = 0
  · subst h0
    have HAT := Lib.hid (fun w' hv => at_ref l (.slice pa l.length cap) x w' hv (gd_of hg).len)
    obtain ⟨z, hz⟩ : ∃ z, atF l x = z := ⟨_, rfl⟩
    rw [hz] at HAT ⊢
    by_cases hn : z < 0
    · rw [if_pos (.inr hn)]
      clear hv hg hz
      go_enter Try.func18, Try.ntmps18
      go_wp2_with fail
      refine HC.out.mono ?_
      rintro e w1 ⟨rfl, hb1⟩
      have HB1 := Lib.hid hb1
      clear hb1
      go_wp2_with fail
      refine (HAT.out _ (HV.out.below HB1.out)).mono ?_
      rintro e w2 ⟨rfl, rfl⟩
      go_wp2_with fail
      go_ret2
      exact ⟨rfl, HB1.out⟩
    · rw [if_neg (by omega)]
      clear hv hg hz
      go_enter Try.func18, Try.ntmps18
      go_wp2_with fail
      refine HC.out.mono ?_
      rintro e w1 ⟨rfl, hb1⟩
      have HB1 := Lib.hid hb1
      clear hb1
      go_wp2_with fail
      refine (HAT.out _ (HV.out.below HB1.out)).mono ?_
      rintro e w2 ⟨rfl, rfl⟩
      go_wp2_with fail
      refine (HAT.out _ (HV.out.below HB1.out)).mono ?_
      rintro e w2 ⟨rfl, rfl⟩
      go_wp2_with fail
      go_ret2
      exact ⟨rfl, HB1.out⟩
  · rw [if_pos (.inl h0)]
    have t1 : (g != 0) = true := by simpa using h0
    clear hv hg h0
    go_enter Try.func18, Try.ntmps18
    go_wp2_with fail
    refine HC.out.mono ?_
    rintro e w1 ⟨rfl, hb1⟩
    have HB1 := Lib.hid hb1
    clear hb1
    go_wp2_with fail
    go_ret2
    exact ⟨rfl, HB1.out⟩
theorem lookE_ok {l : List Ent} {i : Int} (hg : gdE l = 0) (h : 0 ≤ i ∧ i < l.length) : lookE l i = 0 := by unfold lookE; rw [if_neg (by simp [hg]), if_pos h]
theorem lookE_out {l : List Ent} {i : Int} (hg : gdE l = 0) (h : ¬ (0 ≤ i ∧ i < l.length)) : lookE l i = 1 := by unfold lookE; rw [if_neg (by simp [hg]), if_neg h]
theorem lookE_bad {l : List Ent} {i : Int} (hg : gdE l ≠ 0) : lookE l i = gdE l := by unfold lookE; rw [if_pos hg]
set_option maxRecDepth 100000 in
theorem dpar_ref (l : List Ent) (v : Value) (i : Int) (w : World) (hv : RdE w v l) : Calls Try.prog 20 #[v, .int .i64 i] w (TwoIs (parE l i) w) := by
  have HC := Lib.hid (good_ref l v w hv)
  have HV := Lib.hid hv
  obtain ⟨pa, cap, rfl, _, _⟩ := hv.form
  unfold parE
  by_cases hg : gdE l = 0
  · rw [hg] at HC
    by_cases hi : 0 ≤ i ∧ i < l.length
    · rw [lookE_ok hg hi, if_pos rfl]
      obtain ⟨k, rfl⟩ : ∃ k : Nat, i = k := ⟨i.toNat, by omega⟩
      rw [Int.toNat_natCast]
      have HAB := Lib.hid (fun w' hv => above_ref l (.slice pa l.length cap) k w' hv (gd_of hg) (by omega))
      obtain ⟨z, hz⟩ : ∃ z, abv l k = z := ⟨_, rfl⟩
      rw [hz] at HAB ⊢
      have h1 : (k : Int) < l.length := by omega
      clear hv hg hz hi
      go_enter Try.func20, Try.ntmps20
      go_wp2_with fail
      refine HC.out.mono ?_
      rintro e w1 ⟨rfl, hb1⟩
      have HB1 := Lib.hid hb1
      clear hb1
      go_wp2_with fail
      refine (HAB.out _ (HV.out.below HB1.out)).mono ?_
      rintro e w2 ⟨rfl, hb2⟩
      have HB2 := Lib.hid (HB1.out.trans (hb2.mono HB1.out.size))
      clear hb2
      go_wp2_with fail
      go_ret2
      exact ⟨rfl, HB2.out⟩
    · rw [lookE_out hg hi, if_neg (by decide)]
      rcases (show i < 0 ∨ (0 ≤ i ∧ (l.length : Int) ≤ i) by omega) with h1 | ⟨h1, h2⟩
      · clear hv hg hi
        go_enter Try.func20, Try.ntmps20
        go_wp2_with fail
        refine HC.out.mono ?_
        rintro e w1 ⟨rfl, hb1⟩
        have HB1 := Lib.hid hb1
        clear hb1
        go_wp2_with fail
        go_ret2
        exact ⟨rfl, HB1.out⟩
      · clear hv hg hi
        go_enter Try.func20, Try.ntmps20
        go_wp2_with fail
        refine HC.out.mono ?_
        rintro e w1 ⟨rfl, hb1⟩
        have HB1 := Lib.hid hb1
        clear hb1
        go_wp2_with fail
        go_ret2
        exact ⟨rfl, HB1.out⟩
  · rw [lookE_bad hg, if_neg hg]
    obtain ⟨g, hgg⟩ : ∃ g, gdE l = g := ⟨_, rfl⟩
    rw [hgg] at HC hg ⊢
    have t1 : (g != 0) = true := by simpa using hg
    clear hv hg hgg
    go_enter Try.func20, Try.ntmps20
    go_wp2_with fail
    refine HC.out.mono ?_
    rintro e w1 ⟨rfl, hb1⟩
    have HB1 := Lib.hid hb1
    clear hb1
    go_wp2_with fail
    go_ret2
    exact ⟨rfl, HB1.out⟩
end Go.Proofs.Ytjnnkelbedmccaa
