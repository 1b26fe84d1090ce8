/- The document's Check, None, Plain, whole. -/
import Derived.Test.YtceanagnkcejgaaGreatDoorDa
import Derived.Test.YtceanagnkcejgaaGreatDoorNst
namespace Go.Proofs.YtceanagnkcejgaaGreatDoor
open Go.RowKit
set_option linter.unusedVariables false

theorem ck1_name {l : List Sty} {i : Nat} {s : Sty} (h : gets l i = s) (h2 : nameB s.nm = false) : ck1 l i = 60 := by subst h; unfold ck1; rw [if_pos h2]
theorem ck1_two {l : List Sty} {i j : Nat} {s : Sty} (h : gets l i = s) (h2 : nameB s.nm = true) (h3 : fnd l s.nm = some j) (h4 : j < i) : ck1 l i = 61 := by
  subst h; unfold ck1; rw [if_neg (by rw [h2]; decide), h3, if_pos (by simpa using h4)]
theorem ck1_own {l : List Sty} {i j : Nat} {s : Sty} (h : gets l i = s) (h2 : nameB s.nm = true) (h3 : fnd l s.nm = some j) (h4 : ¬ j < i) : ck1 l i = ownE s.ch := by
  subst h; unfold ck1; rw [if_neg (by rw [h2]; decide), h3, if_neg (by simpa using h4)]

set_option maxRecDepth 100000 in
set_option maxHeartbeats 4000000 in
theorem check_ref (l : List Sty) (v : Value) (w : World) (h : Sh w v l) (hf : Fit l) :
    Calls Tryz.prog 14 #[v] w (Says (ckV (checkM l)) w) := by
  obtain ⟨pa, cap, rfl, hc1, hc2⟩ := h.form
  unfold maxLen at hc2
  have HS := Lib.hid h
  have HFt := Lib.hid hf
  clear h hf
  by_cases h64 : 64 < l.length
  · have HV := Lib.hid (show checkM l = (0, 2) by unfold checkM; rw [if_pos h64])
    have h64' : (64 : Int) < l.length := by omega
    go_enter Tryz.func14, Tryz.ntmps14
    go_wp2_with fail
    go_ret2
    rw [HV.out]
    exact ⟨rfl, Below.refl _ _⟩
  have h64' : ¬ (64 : Int) < l.length := by omega
  have HM := Lib.hid (And.intro (fun p => @checkM_1 l p h64) (And.intro (fun p => @checkM_2 l p h64) (@checkM_0 l h64)))
  clear h64
  go_enter Tryz.func14, Tryz.ntmps14
  go_wp2_with fail
  go_loopw [4, 5, 6, 7] (fun i _ _ _ wr => ∃ k : Nat, k ≤ l.length ∧ i = .int .i64 k ∧ Hid (fb (ck1 l) (l.length - k) k = fb (ck1 l) l.length 0) ∧ Below w.heap.size w wr) (fun i _ _ _ _ => l.length - (intOf i).toNat)
  case atStart => exact ⟨0, Nat.zero_le _, rfl, rfl, Below.refl _ _⟩
  case round =>
    obtain ⟨k, hk, rfl, HF, hbw⟩ := hrel
    have HB := Lib.hid hbw
    clear hbw
    by_cases hlt : k < l.length
    · have hs := fb_step (f := ck1 l) hlt
      obtain ⟨n1, n2, n3, n4, n5⟩ := HFt.out.at hlt
      obtain ⟨b, off, rfl, c0, c1, c2, c3, c4⟩ := (HS.out.below HB.out).cells hlt
      obtain ⟨j, hj, hji⟩ := fnd_here (l := l) (x := (gets l k).nm) hlt (by rw [gets_eq hlt])
      have HFI := Lib.hid (find_ref l (gets l k).nm _ wr (HS.out.below HB.out))
      rw [hj] at HFI
      unfold fndV at HFI
      have HNM := Lib.hid (name_ref (gets l k).nm wr n1)
      have HOW := Lib.hid (own_ref (gets l k).ch wr)
      obtain ⟨s, hg⟩ : ∃ s, gets l k = s := ⟨_, rfl⟩
      have K1 := @ck1_name l k s hg
      have K2 := @ck1_two l k j s hg
      have K3 := @ck1_own l k j s hg
      rw [hg] at c0 c1 c2 c3 c4 hj HFI HNM HOW
      unfold chgVal at HOW
      have hlt2 : (k : Int) < l.length := by omega
      clear hg n1 n2 n3 n4 n5 hji
      by_cases hn : nameB s.nm = true
      · rw [hn] at HNM
        by_cases hlj : j < k
        · rw [K2 hn hj hlj, if_neg (by decide)] at hs
          have HV := Lib.hid (HM.out.1 _ (HF.out.symm.trans hs))
          clear K1 K2 K3 hs hn hj
          go_wp2_with fail
          refine HNM.out.mono ?_
          rintro e w2 ⟨rfl, rfl⟩
          go_wp2_with fail
          refine HFI.out.mono ?_
          rintro e w2 ⟨rfl, rfl⟩
          go_wp2_with fail
          go_ret2
          rw [HV.out]
          exact ⟨rfl, HB.out⟩
        · rw [K3 hn hj hlj] at hs
          obtain ⟨c, hc⟩ : ∃ c, ownE s.ch = c := ⟨_, rfl⟩
          rw [hc] at hs HOW
          by_cases hz : c = 0
          · rw [if_pos hz] at hs
            have HN := Lib.hid (hs.symm.trans HF.out)
            have t := nateq hz
            clear K1 K2 K3 hs hn hj hc hz
            go_wp2_with fail
            refine HNM.out.mono ?_
            rintro e w2 ⟨rfl, rfl⟩
            go_wp2_with fail
            refine HFI.out.mono ?_
            rintro e w2 ⟨rfl, rfl⟩
            go_wp2_with fail
            refine HOW.out.mono ?_
            rintro e w2 ⟨rfl, hb⟩
            have HB2 := Lib.hid (HB.out.trans (hb.mono HB.out.size))
            clear hb
            go_wp2_with fail
            go_roundw
            case rel => exact ⟨k + 1, by omega, by go_num, HN.out, HB2.out⟩
            case measure => simp [intOf]; omega
          · rw [if_neg hz] at hs
            have HV := Lib.hid (HM.out.1 _ (HF.out.symm.trans hs))
            have t := natne hz
            clear K1 K2 K3 hs hn hj hc hz
            go_wp2_with fail
            refine HNM.out.mono ?_
            rintro e w2 ⟨rfl, rfl⟩
            go_wp2_with fail
            refine HFI.out.mono ?_
            rintro e w2 ⟨rfl, rfl⟩
            go_wp2_with fail
            refine HOW.out.mono ?_
            rintro e w2 ⟨rfl, hb⟩
            have HB2 := Lib.hid (HB.out.trans (hb.mono HB.out.size))
            clear hb
            go_wp2_with fail
            go_ret2
            rw [HV.out]
            exact ⟨rfl, HB2.out⟩
      · have hn2 : nameB s.nm = false := by simpa using hn
        rw [hn2] at HNM
        rw [K1 hn2, if_neg (by decide)] at hs
        have HV := Lib.hid (HM.out.1 _ (HF.out.symm.trans hs))
        clear K1 K2 K3 hs hn hn2 hj
        go_wp2_with fail
        refine HNM.out.mono ?_
        rintro e w2 ⟨rfl, rfl⟩
        go_wp2_with fail
        go_ret2
        rw [HV.out]
        exact ⟨rfl, HB.out⟩
    · have he := fb_end (f := ck1 l) (n := l.length) (k := k) (by omega)
      have HE1 := Lib.hid (HF.out.symm.trans he)
      clear he HF
      obtain ⟨wo, hwo⟩ : ∃ wo : World, wo = wr := ⟨_, rfl⟩
      subst hwo
      go_wp2_with fail
      go_loopw [8, 9] (fun i _ wr => ∃ k : Nat, k ≤ l.length ∧ i = .int .i64 k ∧ Hid (fb (ck2 l) (l.length - k) k = fb (ck2 l) l.length 0) ∧ Below w.heap.size w wr) (fun i _ _ => l.length - (intOf i).toNat)
      case atStart => exact ⟨0, Nat.zero_le _, rfl, rfl, HB.out⟩
      case round =>
        obtain ⟨k2, hk2, rfl, HF, hbw⟩ := hrel
        have HB := Lib.hid hbw
        clear hbw
        by_cases hlt2 : k2 < l.length
        · have hs := fb_step (f := ck2 l) hlt2
          have HO := Lib.hid (chain_ref l k2 _ wr (HS.out.below HB.out) hlt2)
          obtain ⟨c, hc⟩ : ∃ c, ck2 l k2 = c := ⟨_, rfl⟩
          rw [hc] at hs HO
          by_cases hz : c = 0
          · rw [if_pos hz] at hs
            have HN := Lib.hid (hs.symm.trans HF.out)
            have t := nateq hz
            clear hs hc hz
            go_wp2_with fail
            refine HO.out.mono ?_
            rintro e w2 ⟨rfl, rfl⟩
            go_wp2_with fail
            go_roundw
            case rel => exact ⟨k2 + 1, by omega, by go_num, HN.out, HB.out⟩
            case measure => simp [intOf]; omega
          · rw [if_neg hz] at hs
            have HV := Lib.hid (HM.out.2.1 _ HE1.out (HF.out.symm.trans hs))
            have t := natne hz
            clear hs hc hz
            go_wp2_with fail
            refine HO.out.mono ?_
            rintro e w2 ⟨rfl, rfl⟩
            go_wp2_with fail
            go_ret2
            rw [HV.out]
            exact ⟨rfl, HB.out⟩
        · have he := fb_end (f := ck2 l) (n := l.length) (k := k2) (by omega)
          have HV := Lib.hid (HM.out.2.2 HE1.out (HF.out.symm.trans he))
          clear he
          go_wp2_with fail
          go_ret2
          rw [HV.out]
          exact ⟨rfl, HB.out⟩

set_option maxRecDepth 100000 in
theorem none_ref (w : World) : Calls Tryz.prog 43 #[] w (Says (chgVal none0) w) := by
  go_enter Tryz.func43, Tryz.ntmps43
  go_wp2_with fail
  exact bodyPost_ret (v := chgVal none0) (by simp [results, Tryz.results43, go_sem, chgVal, none0]) rfl ⟨rfl, (Below.refl _ w).alloc (Nat.le_refl _) _⟩
set_option maxRecDepth 100000 in
theorem plain_ref (w : World) : Calls Tryz.prog 37 #[] w (Says (lkVal plain0) w) := by
  go_enter Tryz.func37, Tryz.ntmps37
  go_wp2_with fail
  exact bodyPost_ret (v := lkVal plain0) (by simp [results, Tryz.results37, go_sem, lkVal, plain0]) rfl ⟨rfl, (Below.refl _ w).alloc (Nat.le_refl _) _⟩

theorem whole_last (l : List Sty) (i : Nat) : wholeP l [i] = thenC none0 (gets l i).ch := rfl
theorem whole_up (l : List Sty) (i : Nat) (q : List Nat) : wholeP l (i :: q) = thenC (wholeP l q) (gets l i).ch := rfl
theorem path_one {l : List Sty} {f i : Nat} {p : List Nat} (h : path l (f + 1) i = some p) (h2 : upS l i = none) : p = [i] := by
  simp only [path, h2] at h; exact (Option.some.inj h).symm
theorem path_more {l : List Sty} {f i j : Nat} {p : List Nat} (h : path l (f + 1) i = some p) (h2 : upS l i = some j) : ∃ q, path l f j = some q ∧ p = i :: q := by
  simp only [path, h2] at h
  obtain ⟨q, hq, rfl⟩ := Option.map_eq_some_iff.1 h
  exact ⟨q, hq, rfl⟩

set_option maxRecDepth 100000 in
set_option maxHeartbeats 4000000 in
theorem whole_ref (l : List Sty) (hG : Good l) (f : Nat) : ∀ (i : Nat) (p : List Nat) (v : Value) (w : World), Sh w v l → i < l.length → path l f i = some p →
    Calls Tryz.prog 36 #[v, .int .i64 i] w (Says (chgVal (wholeP l p)) w) := by
  induction f with
  | zero => intro i p v w h hi hp; simp [path] at hp
  | succ f ih =>
    intro i p v w h hi hp
    obtain ⟨pa, cap, rfl, hc1, hc2⟩ := h.form
    unfold maxLen at hc2
    have HS := Lib.hid h
    have hA1 := (Below.refl _ w).alloc (Nat.le_refl _) (.cells #[.int .i64 0, .int .i64 0, .int .i64 0] 27)
    have HA1 := Lib.hid hA1
    have HX1 := Lib.hid (heap_alloc_new w (.cells #[.int .i64 0, .int .i64 0, .int .i64 0] 27))
    have hi2 : (i : Int) < l.length := by omega
    obtain ⟨q, hq⟩ : ∃ q, (gets l i).pr = q := ⟨_, rfl⟩
    have HQ := Lib.hid hq
    obtain ⟨c, hc⟩ : ∃ c, (gets l i).ch = c := ⟨_, rfl⟩
    have HCH := Lib.hid hc
    clear h hA1
    by_cases hq0 : q = []
    · have hu : upS l i = none := by unfold upS; rw [hq, if_pos hq0]
      have hp1 := path_one hp hu
      have HV := Lib.hid (show wholeP l p = thenC none0 c by rw [hp1, whole_last, hc])
      have tq : (bs q).toList = [] := by rw [bs_toList, hq0]
      clear hp hu hp1 hq0 hq hc
      go_enter Tryz.func36, Tryz.ntmps36
      go_wp2_with fail
      refine (none_ref _).mono ?_
      rintro e w2 ⟨rfl, hb⟩
      have HB2 := Lib.hid (HA1.out.trans (hb.mono HA1.out.size))
      have HX2 := Lib.hid ((hb.block w.heap.size (Array.getElem?_eq_some_iff.1 HX1.out).1).trans HX1.out)
      clear hb
      unfold chgVal none0
      have hA3 := (Below.refl _ w2).alloc (Nat.le_refl _) (.cells #[.int .i64 0, .int .i64 0, .int .i64 (-1)] 27)
      have HA3 := Lib.hid hA3
      have HX3 := Lib.hid (heap_alloc_new w2 (.cells #[.int .i64 0, .int .i64 0, .int .i64 (-1)] 27))
      have HB3 := Lib.hid (HB2.out.trans (hA3.mono HB2.out.size))
      obtain ⟨b, off, rfl, c0, c1, c2, c3, c4⟩ := (HS.out.below HB3.out).cells hi
      rw [HQ.out] at c1
      rw [HCH.out] at c2 c3 c4
      clear c0 hA3
      go_wp2_with fail
      refine wp_region_still_tail 6 (by kernel_rfl) (by kernel_rfl) ?_
      simp only [List.take_succ_cons, List.take_zero, List.drop_succ_cons, List.drop_zero]
      change wpStill Tryz.prog _ (World.drew _) _ _ _
      repeat still_step
      refine wpStill_nil ?_
      change wpList _ _ _ _ _ (World.drew _)
      go_wp2_with fail
      refine (then_ref none0 c _).mono ?_
      rintro e w6 ⟨rfl, hb⟩
      have HB6 := Lib.hid (HB3.out.drew.trans (hb.mono HB3.out.drew.size))
      have hx6 := (hb.block w.heap.size (Array.getElem?_eq_some_iff.1 ((Below.heap_alloc w2 (.cells #[.int .i64 0, .int .i64 0, .int .i64 (-1)] 27) w.heap.size (Array.getElem?_eq_some_iff.1 HX2.out).1).trans HX2.out)).1).trans ((Below.heap_alloc w2 (.cells #[.int .i64 0, .int .i64 0, .int .i64 (-1)] 27) w.heap.size (Array.getElem?_eq_some_iff.1 HX2.out).1).trans HX2.out)
      have HX6 := Lib.hid hx6
      have z0 := frozen_of_row w6 w.heap.size 0 _ _ hx6
      have z1 := frozen_of_row w6 w.heap.size 1 _ _ hx6
      have z2 := frozen_of_row w6 w.heap.size 2 _ _ hx6
      have y0 : w6.cell? ⟨w.heap.size, 0, none⟩ = some (.int .i64 0) := by rw [cell_of_row _ _ _ _ _ _ hx6]; rfl
      have y1 : w6.cell? ⟨w.heap.size, 1, none⟩ = some (.int .i64 0) := by rw [cell_of_row _ _ _ _ _ _ hx6]; rfl
      have y2 : w6.cell? ⟨w.heap.size, 2, none⟩ = some (.int .i64 0) := by rw [cell_of_row _ _ _ _ _ _ hx6]; rfl
      clear hb hx6
      rw [← HV.out]
      obtain ⟨r, hr⟩ : ∃ r, wholeP l p = r := ⟨_, rfl⟩
      rw [hr]
      unfold chgVal
      go_wp2_with fail
      obtain ⟨W, hW, hrr, k0, k1, k2, hbW⟩ := set3 HX6.out (.int .i64 r.on) (.int .i64 r.off) (.int .i64 r.col)
      rw [hW]
      exact bodyPost_ret (v := chgVal r) (by simp [results, Tryz.results36, go_sem, k0, k1, k2, chgVal]) rfl ⟨by rw [hr], HB6.out.trans hbW⟩
    · obtain ⟨j, hj⟩ := hG.par hi (by rw [hq]; exact hq0)
      rw [hq] at hj
      have hu : upS l i = some j := by unfold upS; rw [hq, if_neg hq0]; exact hj
      obtain ⟨p2, hp2, hpe⟩ := path_more hp hu
      have HJ := Lib.hid (fnd_some hj).1
      have HP2 := Lib.hid hp2
      have HFJ := Lib.hid hj
      have HV := Lib.hid (show wholeP l p = thenC (wholeP l p2) c by rw [hpe, whole_up, hc])
      have tq := bs_toList q
      have ne : q.isEmpty = false := by cases q with | nil => exact absurd rfl hq0 | cons a r => rfl
      clear hp hu hp2 hpe hq0 hq hc hj
      go_enter Tryz.func36, Tryz.ntmps36
      go_wp2_with fail
      refine (none_ref _).mono ?_
      rintro e w2 ⟨rfl, hb⟩
      have HB2 := Lib.hid (HA1.out.trans (hb.mono HA1.out.size))
      have HX2 := Lib.hid ((hb.block w.heap.size (Array.getElem?_eq_some_iff.1 HX1.out).1).trans HX1.out)
      clear hb
      unfold chgVal none0
      have hA3 := (Below.refl _ w2).alloc (Nat.le_refl _) (.cells #[.int .i64 0, .int .i64 0, .int .i64 (-1)] 27)
      have HX3 := Lib.hid (heap_alloc_new w2 (.cells #[.int .i64 0, .int .i64 0, .int .i64 (-1)] 27))
      have HB3 := Lib.hid (HB2.out.trans (hA3.mono HB2.out.size))
      have HY3 := Lib.hid ((Below.heap_alloc w2 (.cells #[.int .i64 0, .int .i64 0, .int .i64 (-1)] 27) w.heap.size (Array.getElem?_eq_some_iff.1 HX2.out).1).trans HX2.out)
      obtain ⟨b, off, rfl, c0, c1, c2, c3, c4⟩ := (HS.out.below HB3.out).cells hi
      rw [HQ.out] at c1
      have HFI := Lib.hid (find_ref l q _ _ (HS.out.below HB3.out))
      rw [HFJ.out] at HFI
      unfold fndV at HFI
      have HWH := Lib.hid (ih j p2 _ _ (HS.out.below HB3.out) HJ.out HP2.out)
      have hs3 : w2.heap.size < (w2.alloc (.cells #[.int .i64 0, .int .i64 0, .int .i64 (-1)] 27)).heap.size := by simp
      have HS3 := Lib.hid hs3
      have hn0 : w.heap.size < w2.heap.size := (Array.getElem?_eq_some_iff.1 HX2.out).1
      have HN0 := Lib.hid hn0
      clear c0 c2 c3 c4 hA3 hs3 hn0
      go_wp2_with fail
      refine HFI.out.mono ?_
      rintro e w3 ⟨rfl, rfl⟩
      go_wp2_with fail
      refine HWH.out.mono ?_
      rintro e w4 ⟨rfl, hb⟩
      have hx4 := (hb.block w2.heap.size HS3.out).trans HX3.out
      have HX4 := Lib.hid hx4
      have HY4 := Lib.hid ((hb.block w.heap.size (Array.getElem?_eq_some_iff.1 HY3.out).1).trans HY3.out)
      have HB4 := Lib.hid (HB3.out.trans (hb.mono HB3.out.size))
      have z0 := frozen_of_row w4 w2.heap.size 0 _ _ hx4
      have z1 := frozen_of_row w4 w2.heap.size 1 _ _ hx4
      have z2 := frozen_of_row w4 w2.heap.size 2 _ _ hx4
      have y0 : w4.cell? ⟨w2.heap.size, 0, none⟩ = some (.int .i64 0) := by rw [cell_of_row _ _ _ _ _ _ hx4]; rfl
      have y1 : w4.cell? ⟨w2.heap.size, 1, none⟩ = some (.int .i64 0) := by rw [cell_of_row _ _ _ _ _ _ hx4]; rfl
      have y2 : w4.cell? ⟨w2.heap.size, 2, none⟩ = some (.int .i64 (-1)) := by rw [cell_of_row _ _ _ _ _ _ hx4]; rfl
      clear hb hx4
      obtain ⟨r, hr⟩ : ∃ r, wholeP l p2 = r := ⟨_, rfl⟩
      rw [hr] at HV ⊢
      clear hr
      unfold chgVal
      go_wp2_with fail
      obtain ⟨W, hW, hrr, k0, k1, k2, hbW⟩ := set3 HX4.out (.int .i64 r.on) (.int .i64 r.off) (.int .i64 r.col)
      rw [hW]
      have HYW := Lib.hid ((hbW.block w.heap.size HN0.out).trans HY4.out)
      have HBW := Lib.hid (HB4.out.trans (hbW.mono (Nat.le_of_lt HN0.out)))
      obtain ⟨b', off', e', d0, d1, d2, d3, d4⟩ := (HS.out.below HBW.out).cells hi
      cases e'
      rw [HCH.out] at d2 d3 d4
      clear hW hrr hbW d0 d1 c1 z0 z1 z2 y0 y1 y2
      refine wp_region_still_tail 6 (by kernel_rfl) (by kernel_rfl) ?_
      simp only [List.take_succ_cons, List.take_zero, List.drop_succ_cons, List.drop_zero]
      change wpStill Tryz.prog _ (World.drew _) _ _ _
      repeat still_step
      refine wpStill_nil ?_
      change wpList _ _ _ _ _ (World.drew _)
      go_wp2_with fail
      refine (then_ref r c _).mono ?_
      rintro e w6 ⟨rfl, hb⟩
      have HB6 := Lib.hid (HBW.out.drew.trans (hb.mono HBW.out.drew.size))
      have hx6 := (hb.block w.heap.size (Array.getElem?_eq_some_iff.1 HYW.out).1).trans HYW.out
      have HX6 := Lib.hid hx6
      have z0 := frozen_of_row w6 w.heap.size 0 _ _ hx6
      have z1 := frozen_of_row w6 w.heap.size 1 _ _ hx6
      have z2 := frozen_of_row w6 w.heap.size 2 _ _ hx6
      have y0 : w6.cell? ⟨w.heap.size, 0, none⟩ = some (.int .i64 0) := by rw [cell_of_row _ _ _ _ _ _ hx6]; rfl
      have y1 : w6.cell? ⟨w.heap.size, 1, none⟩ = some (.int .i64 0) := by rw [cell_of_row _ _ _ _ _ _ hx6]; rfl
      have y2 : w6.cell? ⟨w.heap.size, 2, none⟩ = some (.int .i64 0) := by rw [cell_of_row _ _ _ _ _ _ hx6]; rfl
      clear hb hx6
      rw [← HV.out]
      obtain ⟨r', hr⟩ : ∃ r', wholeP l p = r' := ⟨_, rfl⟩
      rw [hr]
      unfold chgVal
      go_wp2_with fail
      obtain ⟨W, hW, hrr, k0, k1, k2, hbW⟩ := set3 HX6.out (.int .i64 r'.on) (.int .i64 r'.off) (.int .i64 r'.col)
      rw [hW]
      exact bodyPost_ret (v := chgVal r') (by simp [results, Tryz.results36, go_sem, k0, k1, k2, chgVal]) rfl ⟨by rw [hr], HB6.out.trans hbW⟩
end Go.Proofs.YtceanagnkcejgaaGreatDoor
