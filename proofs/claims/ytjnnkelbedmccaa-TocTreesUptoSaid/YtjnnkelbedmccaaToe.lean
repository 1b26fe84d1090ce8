/- Layer 10: the program's reversal, wayTo, parentOf. -/
import Derived.Test.YtjnnkelbedmccaaTod
import Derived.Test.YtjnnkelbedmccaaShelf
import Derived.Sort.OwnSortedInts
import Derived.Maps.AppendAt
namespace Go.Proofs.Ytjnnkelbedmccaa
open Go.RowKit Go.Maps Go.Sort
set_option linter.unusedVariables false

/-- slices.Reverse of a list of one's own. -/
theorem rev_pro (base : Nat) (v : Value) (zs : List Int) (W : World) (h : W.ownsRow base 3 1 v zs.length (numsZ zs)) (hl : zs.length ≤ 1000000) :
    Calls Try.prog 62 #[v] W fun e W' => e = .returned (.tuple #[]) ∧ W'.ownsRow base 3 1 v zs.length (numsZ zs.reverse) ∧ W.grownBy W' v.ownBlock := by
  rcases h.2 with ⟨rfl, h0⟩ | ⟨g, cap, cur, rfl, hb, hg, h1, h2, h3, h4⟩
  · have : zs = [] := List.eq_nil_of_length_eq_zero h0
    subst this
    refine (Try.slices_Reverse_int_empty none 0 W).mono ?_
    rintro e W' ⟨rfl, rfl⟩
    exact ⟨rfl, h, World.grownBy.refl _ _⟩
  · have hH : Holds (Value.int .i64) W g 0 zs.toArray := holds_of_blockI hg (by rw [Nat.mul_one] at h4; exact h4)
    refine (Try.slices_Reverse_int g 0 cap zs W hH (by omega)).mono ?_
    rintro e W' ⟨rfl, n, rfl⟩
    refine ⟨rfl, ?_, ?_⟩
    · have := ownsRow_sortedI (ts := zs.reverse) (n := n) (os := #[]) (ss := zs) (by simp) hb hg h1 h2 h3
      rw [Sort.grow_empty] at this
      exact this
    · have := grownBy_sortedI (w := W) (g := g) (n := n) (os := #[]) zs.reverse.toArray
      rw [Sort.grow_empty] at this
      exact this
theorem RdZ.cell' {w : World} {zs : List Int} {pa : Option Addr} {n cap : Nat} (h : RdZ w (.slice pa n cap) zs) (hn : n = zs.length) {j : Nat} (hj : j < zs.length) : ∃ b off, pa = some ⟨b, off, none⟩ ∧ w.cell? ⟨b, off + j, none⟩ = some (.int .i64 zs[j]) := h.cell hj
/-- What wayTo leaves: the numbers from the root down to an entry. -/
def WayIs (l : List Ent) (i : Nat) (w : World) (e : Ending) (w' : World) : Prop :=
  ∃ v, e = .returned v ∧ w'.ownsRow w.heap.size 3 1 v ((pth l i).length + 1) (numsZ (-1 :: natZ (pth l i))) ∧ Below w.heap.size w w'
theorem way_len {l : List Ent} (g : Gd l) {i : Nat} (hi : i < l.length) : (pth l i).length ≤ 8 := by
  have h := pth_len g (i + 1) i (by omega) (by omega) (by omega)
  have := (g.lv i hi).2.1
  rw [lvI_nat] at h
  omega
theorem level_up {l : List Ent} (g : Gd l) {n cur : Nat} (hn : n < cur) (hc : cur < l.length) (h : ∀ j : Nat, n < j → j < cur → lvN l cur ≤ lvN l j) : lvN l cur ≤ lvN l n + 1 := by
  have h3 := (g.lv (n + 1) (by omega)).2.2
  simp only [ahd] at h3
  rcases Nat.eq_or_lt_of_le (Nat.succ_le_of_lt hn) with h4 | h4
  · have : n + 1 = cur := h4
    rw [this] at h3
    exact h3
  · have := h (n + 1) (by omega) h4
    omega
theorem natZ_app (a b : List Nat) : natZ (a ++ b) = natZ a ++ natZ b := by simp [natZ]

set_option maxRecDepth 100000 in
set_option maxHeartbeats 2000000 in
theorem way_pro (l : List Ent) (v : Value) (i : Nat) (w : World) (hv : RdE w v l) (g : Gd l) (hi : i < l.length) : Calls Try.prog 57 #[v, .int .i64 (i : Nat)] w (WayIs l i w) := by
  obtain ⟨i0, hi0, hz0, hz1, hz2⟩ := info_parts infoI
  obtain ⟨pa, cap, rfl, _, _⟩ := hv.form
  have HV := Lib.hid hv
  have HG := Lib.hid g
  have HI := Lib.hid hi
  have HL := Lib.hid g.len
  have hA0 : Below w.heap.size w (w.alloc (.cells #[.int .i64 (i : Nat)] 3)) := (Below.refl _ w).alloc (Nat.le_refl _) _
  have HO0 := Lib.hid (show (w.alloc (.cells #[.int .i64 (i : Nat)] 3)).ownsRow w.heap.size 3 1 (.slice (some ⟨w.heap.size, 0, none⟩) 1 1) 1 (numsZ [(i : Int)]) from ⟨rfl, .inr ⟨w.heap.size, 1, #[.int .i64 (i : Nat)], rfl, Nat.le_refl _, heap_alloc_new w _, Nat.le_refl _, by decide, rfl, rfl⟩⟩)
  have HA0 := Lib.hid hA0
  obtain ⟨b, off, hpa, c0, c1⟩ := (hv.below hA0).cell hi
  subst hpa
  have hr := (g.lv i hi)
  have HLV : Hid (lvN l i ≤ 8) := Lib.hid hr.2.1
  obtain ⟨u, hu⟩ : ∃ u, lvN l i = u := ⟨_, rfl⟩
  rw [hu] at c1
  have HU := Lib.hid hu
  have hi1 : (i : Int) < l.length := by omega
  have hl1 : (l.length : Int) ≤ 1000 := by have := HL.out; omega
  clear hv g hA0 hi c0 hr hu
  go_enter Try.func57, Try.ntmps57
  go_wp2_with fail
  try go_step3
  try go_wp2_with fail
  try go_step3
  try go_wp2_with fail
  go_loopw [5, 6, 7] (fun s5 s6 n wr => ∃ (cur : Nat) (suf : List Nat) (n' : Int) (zs : List Int), n = .int .i64 n' ∧ s6 = .int .i64 (lvN l cur) ∧ -1 ≤ n' ∧ n' < cur ∧ cur < l.length ∧ Hid (pth l (i : Nat) = pth l (cur : Nat) ++ suf) ∧ Hid (zs.reverse = natZ (cur :: suf)) ∧ Hid (∀ j : Nat, n' < j → j < cur → lvN l cur ≤ lvN l j) ∧ Hid (wr.ownsRow w.heap.size 3 1 s5 zs.length (numsZ zs)) ∧ Hid (Below w.heap.size w wr)) (fun _ _ n _ => (intOf n + 1).toNat)
  case atStart =>
    refine ⟨i, [], (i : Int) - 1, [(i : Int)], by go_num, by rw [HU.out], by omega, by omega, HI.out, Lib.hid (by simp), Lib.hid (by simp [natZ]), Lib.hid (fun j h1 h2 => by omega), HO0, HA0⟩
  case round =>
    obtain ⟨cur, suf, n, zs, rfl, rfl, hn0, hn1, hcl, HP, HZ, HN, HO, HB⟩ := hrel
    obtain ⟨pv5, cv5, hv5⟩ := lenL HO.out
    subst hv5
    have hzl : zs.length = suf.length + 1 := by
      have := congrArg List.length HZ.out
      simpa [natZ] using this
    have hsl : suf.length ≤ 7 := by
      have h1 := congrArg List.length HP.out
      have h2 := way_len HG.out HI.out
      rw [List.length_append, pth_step l cur, List.length_append, List.length_singleton] at h1
      omega
    have M1 := Lib.hid (show zs.length + 1 ≤ maxLen by unfold maxLen; omega)
    have M2 := Lib.hid (show (zs.length + 1) * 8 ≤ 140737488355328 by omega)
    have M3 := Lib.hid (show w.heap.size ≤ (wr.alloc (.cells #[.int .i64 (-1)] 3)).heap.size by have := HB.out.size; simp; omega)
    have HZL := Lib.hid hzl
    have HSL := Lib.hid hsl
    have hroot := abv_root HG.out hcl
    have hlvl := HG.out.lv cur hcl
    by_cases h1 : lvN l cur = 1
    · have hfull : (zs ++ [-1]).reverse = -1 :: natZ (pth l (i : Nat)) := by
        rw [List.reverse_append, HZ.out, HP.out, pth_step, hroot.2 h1, pth_root]
        rfl
      have HF := Lib.hid hfull
      have t1 : (lvN l cur == 1) = true := by simp [h1]
      obtain ⟨u', hu'⟩ : ∃ u', lvN l cur = u' := ⟨_, rfl⟩
      rw [hu'] at t1 ⊢
      clear hfull h1 hzl hsl hroot hlvl hn0 hn1 hcl hu'
      go_wp2_with (at_builtin; go_loud (refine wpList_append_own_at _ rfl _ _ 28 rfl w.heap.size 3 i0 (.int .i64 0) 1 8 Try.underlying28 hi0 hz0 hz1 hz2 rfl (by decide) _ _ _ rfl (HO.out.alloc _) ⟨wr.heap.size, 0, none⟩ 1 1 [.int .i64 (-1)] rfl rfl (cells_newL _ _ _) (numsZ_one [(-1)]) M1.out M2.out M3.out ?_); intro v' w1 hown' hgrow _ hat; have HO1 := Lib.hid hown'; have HG1 := Lib.hid hgrow; obtain ⟨pv, cv, hvv⟩ := lenL hown'; subst hvv; clear hown' hgrow hat)
      refine (rev_pro w.heap.size _ (zs ++ [-1]) w1 (by rw [List.length_append, numsZ_app]; exact HO1.out) (by rw [List.length_append]; have := HZL.out; have := HSL.out; simp; omega)).mono ?_
      have HBF := Lib.hid ((HB.out.alloc HB.out.size (.cells #[.int .i64 (-1)] 3)).grown HG1.out M3.out (fun r e => (own_base HO.out e).1))
      have HPL := Lib.hid (show zs.length + 1 = (pth l (i : Nat)).length + 1 by
        have h1 := congrArg List.length HF.out
        simpa [natZ] using h1)
      rintro e w2 ⟨rfl, hrow, hgr⟩
      have HF2 := Lib.hid (show WayIs l i w (.returned (.slice pv (zs.length + 1) cv)) w2 from ⟨_, rfl, by
        rw [HF.out] at hrow
        rw [← HPL.out]
        rw [List.length_append] at hrow
        exact hrow, HBF.out.grown hgr HBF.out.size (fun r e => (own_base HO1.out e).1)⟩)
      clear hrow hgr
      go_wp2_with fail
      try rw [Exit.noGoto_ret]
      go_ret
      exact HF2.out
    · have t1 : (lvN l cur == 1) = false := by simpa using h1
      have hn2 : 0 ≤ n := by
        rcases (show n = -1 ∨ 0 ≤ n by omega) with e | e
        · exfalso
          subst e
          have h0 := (HG.out.lv 0 (by omega)).2.2
          simp only [ahd] at h0
          rcases Nat.eq_zero_or_pos cur with e0 | e0
          · subst e0; omega
          · have := HN.out 0 (by omega) e0; omega
        · exact e
      obtain ⟨m, rfl⟩ : ∃ m : Nat, n = m := ⟨n.toNat, by omega⟩
      obtain ⟨b2, off2, hpa, c2, c3⟩ := (HV.out.below HB.out).cell (j := m) (by omega)
      cases hpa
      have hup := level_up HG.out (n := m) (cur := cur) (by omega) hcl (fun j h1 h2 => HN.out j (by omega) h2)
      have hmz : (m : Int) < l.length := by omega
      by_cases hlt : lvN l m < lvN l cur
      · have hab : abv l cur = (m : Nat) := abv_one HG.out hcl (by omega) (by omega) (by rw [lvI_nat]; omega) (fun j h1 h2 => HN.out j h1 h2)
        have HP2 := Lib.hid (show pth l (i : Nat) = pth l (m : Nat) ++ (cur :: suf) by rw [HP.out, pth_step l cur, hab]; simp)
        have HZ2 := Lib.hid (show (zs ++ [(m : Int)]).reverse = natZ (m :: cur :: suf) by rw [List.reverse_append, HZ.out]; rfl)
        have HML := Lib.hid (show m < l.length by omega)
        obtain ⟨u', hu'⟩ : ∃ u', lvN l cur = u' := ⟨_, rfl⟩
        obtain ⟨x, hx⟩ : ∃ x, lvN l m = x := ⟨_, rfl⟩
        rw [hu'] at t1 hlt ⊢
        rw [hx] at c3 hlt
        have HX := Lib.hid hx
        have M3 := Lib.hid (show w.heap.size ≤ (wr.alloc (.cells #[.int .i64 (m : Nat)] 3)).heap.size by have := HB.out.size; simp; omega)
        have HBX := Lib.hid (show ∀ w1 : World, (wr.alloc (.cells #[.int .i64 (m : Nat)] 3)).grownBy w1 (Value.slice pv5 zs.length cv5).ownBlock → Below w.heap.size w w1 from fun w1 hg => (HB.out.alloc HB.out.size _).grown hg M3.out (fun r e => (own_base HO.out e).1))
        have HCX := Lib.hid (show ∀ w1 : World, Below w.heap.size w w1 → w1.cell? ⟨b, off + m * 2 + 1, none⟩ = some (.int .i64 x) from fun w1 hb => by
          obtain ⟨b3, off3, e, _, c⟩ := (HV.out.below hb).cell HML.out
          cases e
          rw [hx] at c
          exact c)
        clear h1 hup hab hu' hx hroot hlvl hzl hsl hn0 hn1 hcl hn2 c1 c2
        go_wp2_with (at_builtin; go_loud (refine wpList_append_own_at _ rfl _ _ 28 rfl w.heap.size 3 i0 (.int .i64 0) 1 8 Try.underlying28 hi0 hz0 hz1 hz2 rfl (by decide) _ _ _ rfl (HO.out.alloc _) ⟨wr.heap.size, 0, none⟩ 1 1 [.int .i64 (m : Nat)] rfl rfl (cells_newL _ _ _) (numsZ_one [(m : Nat)]) M1.out M2.out M3.out ?_); intro v' w1 hown' hgrow _ hat; have HO1 := Lib.hid hown'; have HG1 := Lib.hid hgrow; obtain ⟨pv, cv, hvv⟩ := lenL hown'; subst hvv; have hb9 := HBX.out _ hgrow; have c9 := HCX.out _ hb9; have HB9 := Lib.hid hb9; clear hb9; clear hown' hgrow hat)
        go_roundw
        case measure => first | (simp [intOf]; done) | (simp [intOf]; omega)
        case rel =>
          have hm1 := HML.out
          exact ⟨m, cur :: suf, (m : Int) - 1, zs ++ [(m : Int)], by go_num, by rw [HX.out], by omega, by omega, hm1, HP2, HZ2, Lib.hid (fun j h1 h2 => by omega), Lib.hid (by rw [List.length_append, numsZ_app]; exact HO1.out), HB9⟩
      · have HN2 := Lib.hid (show ∀ j : Nat, (m : Int) - 1 < j → j < cur → lvN l cur ≤ lvN l j from fun j h1 h2 => by
          rcases (show j = m ∨ m < j by omega) with e | e
          · rw [e]; omega
          · exact HN.out j (by omega) h2)
        have HM := Lib.hid (show (-1 : Int) ≤ (m : Int) - 1 ∧ (m : Int) - 1 < cur ∧ cur < l.length by omega)
        obtain ⟨u', hu'⟩ : ∃ u', lvN l cur = u' := ⟨_, rfl⟩
        obtain ⟨x, hx⟩ : ∃ x, lvN l m = x := ⟨_, rfl⟩
        rw [hu'] at t1 hlt ⊢
        rw [hx] at c3 hlt
        have HU2 := Lib.hid hu'
        clear h1 hup hu' hx hroot hlvl hzl hsl hn0 hn1 hcl hn2 c1 c2
        go_wp2_with fail
        go_roundw
        case measure => first | (simp [intOf]; done) | (simp [intOf]; omega)
        case rel => exact ⟨cur, suf, (m : Int) - 1, zs, by go_num, by rw [HU2.out], HM.out.1, HM.out.2.1, HM.out.2.2, HP, HZ, HN2, HO, HB⟩
/-- What parentOf answers. -/
theorem way_last {l : List Ent} (i : Nat) : (-1 :: natZ (pth l i)).length = (pth l i).length + 1 ∧ ∀ h : (pth l i).length + 1 - 2 < (-1 :: natZ (pth l i)).length, (-1 :: natZ (pth l i))[(pth l i).length + 1 - 2] = abv l i := by
  refine ⟨by simp [natZ], fun h => ?_⟩
  have e : pth l (i : Nat) = pth l (abv l i) ++ [i] := pth_step l i
  have h2 := abv_lt l i
  obtain ⟨p, hp⟩ : ∃ p, abv l i = p := ⟨_, rfl⟩
  rw [hp] at e h2 ⊢
  simp only [e, List.length_append, List.length_singleton]
  by_cases hr : p = -1
  · subst hr
    simp [pth_root, natZ]
  · obtain ⟨q, rfl⟩ : ∃ q : Nat, p = q := ⟨p.toNat, by omega⟩
    have e2 := pth_step l q
    simp [e2, natZ]
set_option maxRecDepth 100000 in
theorem parent_pro (l : List Ent) (v : Value) (i : Nat) (w : World) (hv : RdE w v l) (g : Gd l) (hi : i < l.length) : Calls Try.prog 48 #[v, .int .i64 (i : Nat)] w (SaysL (.int .i64 (abv l i)) w) := by
  have HC := Lib.hid (way_pro l v i w hv g hi)
  have h8 := way_len g hi
  have h1 : 1 ≤ (pth l (i : Nat)).length := by rw [pth_step, List.length_append, List.length_singleton]; omega
  obtain ⟨pa, cap, rfl, _, _⟩ := hv.form
  have HW := Lib.hid (way_last (l := l) i)
  obtain ⟨n, hn⟩ : ∃ n, (pth l (i : Nat)).length = n := ⟨_, rfl⟩
  have HN := Lib.hid hn
  rw [hn] at h8 h1 HW
  clear hv g hi hn
  go_enter Try.func48, Try.ntmps48
  go_wp2_with fail
  refine HC.out.mono ?_
  rintro e w1 ⟨v1, rfl, ho, hb⟩
  obtain ⟨pv, cv, rfl⟩ := lenL ho
  rw [HN.out] at ho ⊢
  have hlz : n + 1 - 2 < (-1 :: natZ (pth l (i : Nat))).length := by rw [HW.out.1]; omega
  obtain ⟨b, off, rfl, c⟩ := (RdZ.own ho HW.out.1.symm).cell' (n := n + 1) HW.out.1.symm hlz
  rw [HW.out.2 hlz] at c
  have hk : ((n + 1 : Nat) : Int) - 2 = ((n + 1 - 2 : Nat) : Int) := by omega
  have HB := Lib.hid hb
  clear ho hb hlz
  obtain ⟨q, hq⟩ : ∃ q, n + 1 - 2 = q := ⟨_, rfl⟩
  rw [hq] at c hk
  have hk1 : ((n + 1 : Nat) : Int) = q + 2 := by omega
  have hq9 : q ≤ 9 := by omega
  go_wp2_with fail
  go_ret
  exact ⟨rfl, HB.out⟩
end Go.Proofs.Ytjnnkelbedmccaa
