/- The program's checkParents and Check. -/
import Derived.Test.YtceanagnkcejgaaGreatDoorChn
namespace Go.Proofs.YtceanagnkcejgaaGreatDoor
open Go.RowKit
set_option linter.unusedVariables false

theorem chain_some {l : List Sty} {i : Nat} {w : World} {p : List Nat} (h : path l 8 i = some p) {e : Ending} {w' : World} (hc : ChainIs l i w e w') : ∃ r, e = .returned (.tuple #[r, .bool true]) ∧ w'.ownsRow w.heap.size 3 1 r p.length (natsV p) ∧ Below w.heap.size w w' := by
  unfold ChainIs at hc; rw [h] at hc
  obtain ⟨⟨r, h1, h2⟩, h3⟩ := hc
  exact ⟨r, h1, h2, h3⟩
theorem chain_none {l : List Sty} {i : Nat} {w : World} (h : path l 8 i = none) {e : Ending} {w' : World} (hc : ChainIs l i w e w') : e = .returned (.tuple #[.slice none 0 0, .bool false]) ∧ Below w.heap.size w w' := by
  unfold ChainIs at hc; rw [h] at hc; exact hc
theorem ck2_no {l : List Sty} {i : Nat} (h : ¬ (gets l i).pr = [] ∧ fnd l (gets l i).pr = none) : ck2 l i = 64 := by unfold ck2; rw [if_pos h]
theorem ck2_far {l : List Sty} {i : Nat} (h : ¬ (¬ (gets l i).pr = [] ∧ fnd l (gets l i).pr = none)) (h2 : path l 8 i = none) : ck2 l i = 65 := by unfold ck2; rw [if_neg h, if_pos h2]
theorem ck2_ok {l : List Sty} {i : Nat} {p : List Nat} (h : ¬ (¬ (gets l i).pr = [] ∧ fnd l (gets l i).pr = none)) (h2 : path l 8 i = some p) : ck2 l i = 0 := by unfold ck2; rw [if_neg h, if_neg (by rw [h2]; simp)]

set_option maxRecDepth 100000 in
set_option maxHeartbeats 4000000 in
theorem checkParents_pro (l : List Sty) (i : Nat) (v : Value) (w : World) (h : Sh w v l) (hi : i < l.length) :
    Calls Tryz.prog 31 #[v, .int .i64 i] w (Says (.int .i64 (ck2 l i : Nat)) w) := by
  have HC := Lib.hid (chain_pro l i v w h hi)
  have hc2' := @ck2_far l i
  have hc3' := @ck2_ok l i
  have hc1' := @ck2_no l i
  obtain ⟨pa, cap, rfl, hc1, hc2⟩ := h.form
  obtain ⟨b, off, rfl, c0, c1, c2, c3, c4⟩ := h.cells hi
  have HF := Lib.hid (find_pro l (gets l i).pr _ w h)
  obtain ⟨q, hq⟩ : ∃ q, (gets l i).pr = q := ⟨_, rfl⟩
  rw [hq] at c1 HF hc1' hc2' hc3'
  obtain ⟨o, ho⟩ : ∃ o, fnd l q = o := ⟨_, rfl⟩
  rw [ho] at HF hc1' hc2' hc3'
  unfold fndV at HF
  unfold maxLen at hc2
  have tq := bs_toList q
  clear h c0 c2 c3 c4 hq ho
  by_cases hb : ¬ q = [] ∧ o = none
  · have HV := Lib.hid (hc1' hb)
    have ne : q.isEmpty = false := by cases hq : q with | nil => exact absurd hq hb.1 | cons a r => rfl
    have to : o.isSome = false := by rw [hb.2]; rfl
    clear hb hc1' hc2' hc3'
    go_enter Tryz.func31, Tryz.ntmps31
    go_wp2_with fail
    refine HF.out.mono ?_
    rintro e w2 ⟨rfl, rfl⟩
    go_wp2_with fail
    go_ret
    rw [HV.out]
    exact ⟨rfl, Below.refl _ _⟩
  · have K2 := Lib.hid (hc2' hb)
    have K3 := Lib.hid (fun p => hc3' (p := p) hb)
    have hg : (!q.isEmpty && !o.isSome) = false := by
      cases hq : q with
      | nil => rfl
      | cons a r =>
        cases ho : o with
        | none => exact absurd ⟨by rw [hq]; simp, ho⟩ hb
        | some j => rfl
    clear hb hc1' hc2' hc3'
    have hg2 : q.isEmpty = true ∨ q.isEmpty = false ∧ o.isSome = true := by
      cases h1 : q.isEmpty with
      | true => exact .inl rfl
      | false => rw [h1] at hg; right; exact ⟨rfl, by simpa using hg⟩
    clear hg
    rcases hg2 with t1 | ⟨t1, t2⟩
    all_goals
      go_enter Tryz.func31, Tryz.ntmps31
      go_wp2_with fail
      refine HF.out.mono ?_
      rintro e w2 ⟨rfl, rfl⟩
      go_wp2_with fail
      refine HC.out.mono ?_
      intro e w3 hh
      cases hp : path l 8 i with
      | none =>
        obtain ⟨rfl, hb⟩ := chain_none hp hh
        have HB := Lib.hid hb
        have HV := Lib.hid (K2.out hp)
        clear hb hh hp
        go_wp2_with fail
        go_ret
        rw [HV.out]
        exact ⟨rfl, HB.out⟩
      | some p =>
        obtain ⟨r, rfl, _, hb⟩ := chain_some hp hh
        have HB := Lib.hid hb
        have HV := Lib.hid (K3.out p hp)
        clear hb hh hp
        go_wp2_with fail
        go_ret
        rw [HV.out]
        exact ⟨rfl, HB.out⟩

/-- What Check and the like answer. -/
def ckV (p : Nat × Nat) : Value := .tuple #[.int .i64 p.1, .int .i64 p.2]
theorem fb_step {f : Nat → Nat} {n k : Nat} (hk : k < n) : fb f (n - k) k = if f k = 0 then fb f (n - (k + 1)) (k + 1) else some (k, f k) := by
  obtain ⟨m, hm⟩ : ∃ m, n - k = m + 1 := ⟨n - k - 1, by omega⟩
  rw [hm, show n - (k + 1) = m by omega]; rfl
theorem fb_end {f : Nat → Nat} {n k : Nat} (hk : n ≤ k) : fb f (n - k) k = none := by rw [show n - k = 0 by omega]; rfl
theorem natne {a : Nat} (h : ¬ a = 0) : ((a : Int) != 0) = true := by simp; omega
theorem nateq {a : Nat} (h : a = 0) : ((a : Int) != 0) = false := by simp; omega

theorem checkM_1 {l : List Sty} {p : Nat × Nat} (h64 : ¬ 64 < l.length) (h : fb (ck1 l) l.length 0 = some p) : checkM l = p := by unfold checkM; rw [if_neg h64, h]
theorem checkM_2 {l : List Sty} {p : Nat × Nat} (h64 : ¬ 64 < l.length) (h : fb (ck1 l) l.length 0 = none) (h2 : fb (ck2 l) l.length 0 = some p) : checkM l = p := by unfold checkM; rw [if_neg h64, h]; simp only [h2]
theorem checkM_0 {l : List Sty} (h64 : ¬ 64 < l.length) (h : fb (ck1 l) l.length 0 = none) (h2 : fb (ck2 l) l.length 0 = none) : checkM l = (0, 0) := by unfold checkM; rw [if_neg h64, h]; simp only [h2]

set_option maxRecDepth 100000 in
set_option maxHeartbeats 4000000 in
theorem check_pro' (l : List Sty) (v : Value) (w : World) (h : Sh w v l) (hf : Fit l) :
    Calls Tryz.prog 12 #[v] w (Says (ckV (checkM l)) w) := by
  obtain ⟨pa, cap, rfl, hc1, hc2⟩ := h.form
  unfold maxLen at hc2
  have HS := Lib.hid h
  have HFt := Lib.hid hf
  clear h hf
  by_cases h64 : 64 < l.length
  · have HV := Lib.hid (show checkM l = (0, 2) by unfold checkM; rw [if_pos h64])
    have h64' : (64 : Int) < l.length := by omega
    go_enter Tryz.func12, Tryz.ntmps12
    go_wp2_with fail
    go_ret2
    rw [HV.out]
    exact ⟨rfl, Below.refl _ _⟩
  have h64' : ¬ (64 : Int) < l.length := by omega
  have HM := Lib.hid (And.intro (fun p => @checkM_1 l p h64) (And.intro (fun p => @checkM_2 l p h64) (@checkM_0 l h64)))
  clear h64
  go_enter Tryz.func12, Tryz.ntmps12
  go_wp2_with fail
  go_loopw [4, 5, 13] (fun _ _ i wr => ∃ k : Nat, k ≤ l.length ∧ i = .int .i64 k ∧ Hid (fb (ck1 l) (l.length - k) k = fb (ck1 l) l.length 0) ∧ Below w.heap.size w wr) (fun _ _ i _ => l.length - (intOf i).toNat)
  case atStart => exact ⟨0, Nat.zero_le _, rfl, rfl, Below.refl _ _⟩
  case round =>
    obtain ⟨k, hk, rfl, HF, hbw⟩ := hrel
    have HB := Lib.hid hbw
    clear hbw
    by_cases hlt : k < l.length
    · have hs := fb_step (f := ck1 l) hlt
      have HO := Lib.hid (checkOwn_pro l k _ wr (HS.out.below HB.out) HFt.out hlt)
      obtain ⟨c, hc⟩ : ∃ c, ck1 l k = c := ⟨_, rfl⟩
      rw [hc] at hs HO
      by_cases hz : c = 0
      · rw [if_pos hz] at hs
        have HN := Lib.hid (hs.symm.trans HF.out)
        have t := nateq hz
        clear hs hc hz
        go_wp2_with fail
        refine HO.out.mono ?_
        rintro e w2 ⟨rfl, hb⟩
        have HB2 := Lib.hid (HB.out.trans (hb.mono HB.out.size))
        clear hb
        go_wp2_with fail
        go_roundw
        case rel => exact ⟨k + 1, by omega, by go_num, HN.out, HB2.out⟩
        case measure => simp [intOf]; omega
      · rw [if_neg hz] at hs
        have HV := Lib.hid (HM.out.1 _ (HF.out.symm.trans hs))
        have t := natne hz
        clear hs hc hz
        go_wp2_with fail
        refine HO.out.mono ?_
        rintro e w2 ⟨rfl, hb⟩
        have HB2 := Lib.hid (HB.out.trans (hb.mono HB.out.size))
        clear hb
        go_wp2_with fail
        go_ret2
        rw [HV.out]
        exact ⟨rfl, HB2.out⟩
    · have he := fb_end (f := ck1 l) (n := l.length) (k := k) (by omega)
      have HE1 := Lib.hid (HF.out.symm.trans he)
      clear he HF
      obtain ⟨wo, hwo⟩ : ∃ wo : World, wo = wr := ⟨_, rfl⟩
      subst hwo
      go_wp2_with fail
      go_loopw [6, 7, 26] (fun _ _ i wr => ∃ k : Nat, k ≤ l.length ∧ i = .int .i64 k ∧ Hid (fb (ck2 l) (l.length - k) k = fb (ck2 l) l.length 0) ∧ Below w.heap.size w wr) (fun _ _ i _ => l.length - (intOf i).toNat)
      case atStart => exact ⟨0, Nat.zero_le _, rfl, rfl, HB.out⟩
      case round =>
        obtain ⟨k2, hk2, rfl, HF, hbw⟩ := hrel
        have HB := Lib.hid hbw
        clear hbw
        by_cases hlt2 : k2 < l.length
        · have hs := fb_step (f := ck2 l) hlt2
          have HO := Lib.hid (checkParents_pro l k2 _ wr (HS.out.below HB.out) hlt2)
          obtain ⟨c, hc⟩ : ∃ c, ck2 l k2 = c := ⟨_, rfl⟩
          rw [hc] at hs HO
          by_cases hz : c = 0
          · rw [if_pos hz] at hs
            have HN := Lib.hid (hs.symm.trans HF.out)
            have t := nateq hz
            clear hs hc hz
            go_wp2_with fail
            refine HO.out.mono ?_
            rintro e w2 ⟨rfl, hb⟩
            have HB2 := Lib.hid (HB.out.trans (hb.mono HB.out.size))
            clear hb
            go_wp2_with fail
            go_roundw
            case rel => exact ⟨k2 + 1, by omega, by go_num, HN.out, HB2.out⟩
            case measure => simp [intOf]; omega
          · rw [if_neg hz] at hs
            have HV := Lib.hid (HM.out.2.1 _ HE1.out (HF.out.symm.trans hs))
            have t := natne hz
            clear hs hc hz
            go_wp2_with fail
            refine HO.out.mono ?_
            rintro e w2 ⟨rfl, hb⟩
            have HB2 := Lib.hid (HB.out.trans (hb.mono HB.out.size))
            clear hb
            go_wp2_with fail
            go_ret2
            rw [HV.out]
            exact ⟨rfl, HB2.out⟩
        · have he := fb_end (f := ck2 l) (n := l.length) (k := k2) (by omega)
          have HV := Lib.hid (HM.out.2.2 HE1.out (HF.out.symm.trans he))
          clear he
          go_wp2_with fail
          go_ret2
          rw [HV.out]
          exact ⟨rfl, HB.out⟩
end Go.Proofs.YtceanagnkcejgaaGreatDoor
