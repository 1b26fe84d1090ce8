/- The document's Write. -/
import Derived.Test.YtceanagnkcejgaaGreatDoorDu
import Derived.Test.YtceanagnkcejgaaGreatDoorWri
namespace Go.Proofs.YtceanagnkcejgaaGreatDoor
open Go.RowKit
set_option linter.unusedVariables false

section
variable {P : Program} {md : Region.Mode} {ops : Array Oper} {Q : Exit → Act → World → Prop} {S : World → Prop}
/-- One operation alone may come up. -/
theorem wpAnyH_one {i : Nat} {o : Oper} {fuel : Nat} {listed : Array Bool} {a : Act} {w : World} (hr : Region.ready md ops listed = [i]) (hi : ops[i]? = some o) (hw : Region.wanted o (yielded ops a.tmps) = true)
    (h : ∀ K' : Act → World → Prop, (∀ a' w', S w' → wpAnyH P md ops Q S fuel (listed.setIfInBounds i true) a' w' → K' a' w') → o.wp P a w K' Q) : wpAnyH P md ops Q S (fuel + 1) listed a w :=
  wpAnyH_all hr (by simp) (fun j hj => by
    obtain rfl : j = i := by simpa using hj
    exact op_via hi hw (fun K hK => h K (fun a' w' h1 h2 => hK a' w' ⟨h1, h2⟩)))
end
theorem wrE_name {s : Sty} (h : nameB s.nm = false) : wrE s = 60 := by unfold wrE; rw [if_pos h]
theorem wrE_own {s : Sty} (h : nameB s.nm = true) (h2 : ¬ ownE s.ch = 0) : wrE s = ownE s.ch := by unfold wrE; rw [if_neg (by rw [h]; decide), if_pos h2]
theorem wrE_pr {s : Sty} (h : nameB s.nm = true) (h2 : ownE s.ch = 0) (h3 : ¬ s.pr = []) (h4 : nameB s.pr = false) : wrE s = 64 := by
  unfold wrE; rw [if_neg (by rw [h]; decide), if_neg (by simp [h2]), if_pos ⟨h3, h4⟩]
theorem wrE_zero {s : Sty} (h : nameB s.nm = true) (h2 : ownE s.ch = 0) (h3 : s.pr = [] ∨ nameB s.pr = true) : wrE s = 0 := wrE_ok.2 ⟨h, ownE_ok.1 h2, h3⟩

set_option maxRecDepth 100000 in
set_option maxHeartbeats 16000000 in
theorem Write_ref (s : Sty) (w : World) (hf : FitS s) (hT : Tabs w) : Calls Tryz.prog 27 #[styVal s] w (Says (wrV (writeM s)) w) := by
  obtain ⟨n1, n2, n3, n4, n5⟩ := hf
  have HT := Lib.hid hT
  have HA0 := Lib.hid ((Below.refl _ w).alloc (Nat.le_refl _) (.cells (styCells s) 29))
  have HX0 := Lib.hid (show SBox (w.alloc (.cells (styCells s) 29)) w.heap.size s from heap_alloc_new w _)
  have HNM := Lib.hid (fun w => name_ref s.nm w n1)
  have HPR := Lib.hid (fun w => name_ref s.pr w n2)
  have HOW := Lib.hid (fun w => own_ref s.ch w)
  have k1 := @wrE_name s
  have k2 := @wrE_own s
  have k3 := @wrE_pr s
  have k4 := @wrE_zero s
  unfold styCells at HA0 HX0
  unfold chgVal at HOW
  unfold styVal
  clear hT n1 n2 n3 n4 n5
  by_cases hn : nameB s.nm = true
  case neg =>
    have hn2 : nameB s.nm = false := by simpa using hn
    have HV := Lib.hid (write_bad (k1 hn2) (by decide))
    rw [hn2] at HNM
    clear k1 k2 k3 k4 hn hn2
    go_enter Tryz.func27, Tryz.ntmps27
    go_wp2_with fail
    refine (HNM.out _).mono ?_
    rintro e w1 ⟨rfl, rfl⟩
    go_wp2_with fail
    go_ret2
    rw [HV.out]
    exact ⟨rfl, HA0.out⟩
  rw [hn] at HNM
  by_cases ho : ownE s.ch = 0
  case neg =>
    have HV := Lib.hid (write_bad (k2 hn ho) ho)
    have t1 := natne ho
    obtain ⟨q, hq⟩ : ∃ q, ownE s.ch = q := ⟨_, rfl⟩
    rw [hq] at HV HOW t1
    clear k1 k2 k3 k4 hn ho hq
    go_enter Tryz.func27, Tryz.ntmps27
    go_wp2_with fail
    refine (HNM.out _).mono ?_
    rintro e w1 ⟨rfl, rfl⟩
    go_wp2_with fail
    refine (HOW.out _).mono ?_
    rintro e w1 ⟨rfl, hb⟩
    have HB1 := Lib.hid (HA0.out.trans (hb.mono HA0.out.size))
    clear hb
    go_wp2_with fail
    go_ret2
    rw [HV.out]
    exact ⟨rfl, HB1.out⟩
  have HOK := Lib.hid (ownE_ok.1 ho)
  have t1 := nateq ho
  obtain ⟨q, hq⟩ : ∃ q, ownE s.ch = q := ⟨_, rfl⟩
  rw [hq] at HOW t1
  by_cases hp : s.pr = []
  · have tq : (bs s.pr).toList = [] := by rw [bs_toList, hp]
    have HW := Lib.hid (show writeM s = (textS s, 0) from write_ok (k4 hn ho (.inl hp)))
    obtain ⟨m, o, hm, hoo, hm8, ho8, _, hc1, hc2⟩ := HOK.out
    have HM := Lib.hid hm
    have HO := Lib.hid hoo
    have HM8 := Lib.hid hm8
    have HO8 := Lib.hid ho8
    have HMN := Lib.hid (show s.ch.on.toNat = m by omega)
    have HON := Lib.hid (show s.ch.off.toNat = o by omega)
    have HCL := Lib.hid (And.intro hc1 hc2)
    have ln := name_len hn
    obtain ⟨a0, ha0⟩ : ∃ a0, s.nm = a0 := ⟨_, rfl⟩
    have HA := Lib.hid (show a0 = s.nm ++ parT s.pr by rw [hp]; unfold parT; rw [if_pos rfl, List.append_nil]; exact ha0.symm)
    have HNN := Lib.hid ha0
    have za0 := bs_len a0
    rw [ha0] at ln
    clear k1 k2 k3 k4 hn ho hq hm hoo hm8 ho8 hc1 hc2 hp ha0
    go_enter Tryz.func27, Tryz.ntmps27
    go_wp2_with fail
    refine (HNM.out _).mono ?_
    rintro e w1 ⟨rfl, rfl⟩
    go_wp2_with fail
    refine (HOW.out _).mono ?_
    rintro e w1 ⟨rfl, hb⟩
    have HB1 := Lib.hid (HA0.out.trans (hb.mono HA0.out.size))
    have hx1 := HX0.out.keep hb
    have HX1 := Lib.hid hx1
    obtain ⟨x0, x1, x2, x3, x4⟩ := hx1.get
    rw [HNN.out] at x0
    clear hb hx1
    go_wp2_with fail
    have hS : Below w.heap.size w w1.drew ∧ SBox w1.drew w.heap.size s := ⟨HB1.out.drew, HX1.out⟩
    refine wp_region_held_drew (S := fun w' => Below w.heap.size w w' ∧ SBox w' w.heap.size s) (by kernel_rfl) hS (fun hS => ?_)
    obtain ⟨B, hB⟩ : ∃ B, w.heap.size = B := ⟨_, rfl⟩
    have HBq := Lib.hid hB
    rw [hB] at hS ⊢
    clear x0 x1 x2 x3 x4 hB
    refine wpAnyH_take (i := 0) (v := .string (bs a0)) rfl (by kernel_rfl) (by kernel_rfl) (by kernel_rfl) (fun _ _ _ h => h) (.inl ⟨by kernel_rfl, fun w' hS => by go_simp⟩) hS ?_
    refine wpAnyH_take (i := 1) (v := .pointer (some ⟨B, 2, none⟩)) rfl (by kernel_rfl) (by kernel_rfl) (by kernel_rfl) (fun _ _ _ h => h) (.inl ⟨by kernel_rfl, fun w' hS => by go_simp⟩) hS ?_
    refine wpAnyH_take (i := 2) (v := .pointer (some ⟨B, 2, none⟩)) rfl (by kernel_rfl) (by kernel_rfl) (by kernel_rfl) (fun _ _ _ h => h) (.inl ⟨by kernel_rfl, fun w' hS => by go_simp⟩) hS ?_
    refine wpAnyH_take (i := 3) (v := .int .i64 s.ch.on) rfl (by kernel_rfl) (by kernel_rfl) (by kernel_rfl) (fun _ _ _ h => h) (.inl ⟨by kernel_rfl, fun w' hS => by obtain ⟨x0, x1, x2, x3, x4⟩ := hS.2.get; go_simp⟩) hS ?_
    refine wpAnyH_take (i := 6) (v := .pointer (some ⟨B, 2, none⟩)) rfl (by kernel_rfl) (by kernel_rfl) (by kernel_rfl) (fun _ _ _ h => h) (.inl ⟨by kernel_rfl, fun w' hS => by go_simp⟩) hS ?_
    refine wpAnyH_take (i := 7) (v := .pointer (some ⟨B, 3, none⟩)) rfl (by kernel_rfl) (by kernel_rfl) (by kernel_rfl) (fun _ _ _ h => h) (.inl ⟨by kernel_rfl, fun w' hS => by go_simp⟩) hS ?_
    refine wpAnyH_take (i := 8) (v := .int .i64 s.ch.off) rfl (by kernel_rfl) (by kernel_rfl) (by kernel_rfl) (fun _ _ _ h => h) (.inl ⟨by kernel_rfl, fun w' hS => by obtain ⟨x0, x1, x2, x3, x4⟩ := hS.2.get; go_simp⟩) hS ?_
    refine wpAnyH_one (i := 4) (by kernel_rfl) rfl (by kernel_rfl) (fun K hK => ?_)
    go_simp
    rw [HM.out]
    refine (bits_ref 43 m HM8.out _).mono ?_
    rintro e w2 ⟨rfl, hb⟩
    replace hS : Below B w w2 ∧ SBox w2 B s := ⟨hS.1.trans (hb.mono (Nat.le_of_lt hS.2.lt)), hS.2.keep hb⟩
    refine hK _ _ hS ?_
    clear hK K hb
    obtain ⟨b1, hb1⟩ : ∃ b, bitsT 43 m 7 = b := ⟨_, rfl⟩
    have l1 := bits_len7 43 m
    rw [hb1] at l1 ⊢
    have z1 := bs_len b1
    have g1 : ¬ 9223372036854775807 < (bs a0).size + (bs b1).size := by omega
    refine wpAnyH_take (i := 5) (v := .string (bs a0 ++ bs b1)) rfl (by kernel_rfl) (by kernel_rfl) (by kernel_rfl) (fun _ _ _ h => h) (.inl ⟨by kernel_rfl, fun w' hS => by go_simp <;> omega⟩) hS ?_
    refine wpAnyH_one (i := 9) (by kernel_rfl) rfl (by kernel_rfl) (fun K hK => ?_)
    go_simp
    rw [HO.out]
    refine (bits_ref 45 o HO8.out _).mono ?_
    rintro e w3 ⟨rfl, hb⟩
    replace hS : Below B w w3 ∧ SBox w3 B s := ⟨hS.1.trans (hb.mono (Nat.le_of_lt hS.2.lt)), hS.2.keep hb⟩
    refine hK _ _ hS ?_
    clear hK K hb
    obtain ⟨b2, hb2⟩ : ∃ b, bitsT 45 o 7 = b := ⟨_, rfl⟩
    have l2 := bits_len7 45 o
    rw [hb2] at l2 ⊢
    have z2 := bs_len b2
    have e1 := bs_app a0 b1
    obtain ⟨a1, ha1⟩ : ∃ a1, a0 ++ b1 = a1 := ⟨_, rfl⟩
    rw [ha1] at e1
    rw [e1]
    have la1 : a1.length = a0.length + b1.length := by rw [← ha1, List.length_append]
    have za1 := bs_len a1
    have g2 : ¬ 9223372036854775807 < (bs a1).size + (bs b2).size := by omega
    clear e1
    refine wpAnyH_take (i := 10) (v := .string (bs a1 ++ bs b2)) rfl (by kernel_rfl) (by kernel_rfl) (by kernel_rfl) (fun _ _ _ h => h) (.inl ⟨by kernel_rfl, fun w' hS => by go_simp <;> omega⟩) hS ?_
    refine wpAnyH_take (i := 11) (v := .string (bs a1 ++ bs b2)) rfl (by kernel_rfl) (by kernel_rfl) (by kernel_rfl) (fun _ _ _ h => h) (.inl ⟨by kernel_rfl, fun w' hS => by go_simp⟩) hS ?_
    refine wpAnyH_done (by kernel_rfl) ?_ _
    have e2 := bs_app a1 b2
    obtain ⟨a2, ha2⟩ : ∃ a2, a1 ++ b2 = a2 := ⟨_, rfl⟩
    rw [ha2] at e2
    rw [e2]
    have la2 : a2.length = a1.length + b2.length := by rw [← ha2, List.length_append]
    have za2 := bs_len a2
    obtain ⟨x0, x1, x2, x3, x4⟩ := hS.2.get
    have HS3 := Lib.hid hS
    have HTX := Lib.hid (show a2 = (s.nm ++ parT s.pr) ++ bitsT 43 m 7 ++ bitsT 45 o 7 by rw [hb1, hb2, ← ha2, ← ha1, HA.out])
    clear e2 hS ha1 ha2 hb1 hb2 g1 g2
    by_cases hc : s.ch.col = -1
    · have tc := bne_f hc
      have HV := Lib.hid (show writeM s = (a2, 0) by rw [HW.out, HTX.out]; unfold textS colT; rw [if_pos hc, HMN.out, HON.out, List.append_nil])
      clear hc
      go_wp2_with fail
      go_ret2
      rw [HV.out]
      exact ⟨rfl, by rw [HBq.out]; exact HS3.out.1⟩
    · have tc := bne_t hc
      obtain ⟨k, hk, hk16⟩ : ∃ k : Nat, s.ch.col = k ∧ k < 16 := ⟨s.ch.col.toNat, by have := HCL.out; omega, by have := HCL.out; omega⟩
      have HK := Lib.hid hk
      have HIT := Lib.hid (fun w1 hT => itoa_pro (k : Int) w1 (by omega) (by omega) hT)
      have hiis := itoa_is k hk16
      have l3 : (itoaL k).length ≤ 2 := by unfold itoaL; split <;> simp
      have HV := Lib.hid (show writeM s = (a2 ++ 32 :: (colorW ++ 32 :: itoaL k), 0) by rw [HW.out, HTX.out]; unfold textS colT; rw [if_neg hc, HMN.out, HON.out, hk]; rfl)
      rw [hiis] at HIT
      obtain ⟨d, hd⟩ : ∃ d, itoaL k = d := ⟨_, rfl⟩
      rw [hd] at HIT l3 HV
      have z3 := bs_len d
      have g3 : ¬ 9223372036854775807 < (bs a2).size + 7 := by omega
      have g4 : ¬ 9223372036854775807 < (bs a2).size + 7 + (bs d).size := by omega
      rw [hk] at x4 tc
      clear hc hk hiis hd
      go_wp2_with fail
      refine (HIT.out _ (HT.out.below HS3.out.1 (by rw [HBq.out]; exact Nat.le_refl _))).mono ?_
      rintro e w4 ⟨rfl, hb⟩
      have HB4 := Lib.hid (HS3.out.1.trans (hb.mono (Nat.le_of_lt HS3.out.2.lt)))
      clear hb
      go_wp2_with fail
      go_ret2
      rw [HV.out]
      refine ⟨?_, by rw [HBq.out]; exact HB4.out⟩
      show Ending.returned (.tuple #[.string (bs a2 ++ bs [32, 99, 111, 108, 111, 114, 32] ++ bs d), .int .i64 0]) = Ending.returned (wrV (a2 ++ 32 :: (colorW ++ 32 :: d), 0))
      rw [bs_app, bs_app]
      unfold wrV colorW
      simp
  · have tq := bs_toList s.pr
    have ne : s.pr.isEmpty = false := by cases h : s.pr with | nil => exact absurd h hp | cons a r => rfl
    by_cases hpn : nameB s.pr = true
    case neg =>
      have hpn2 : nameB s.pr = false := by simpa using hpn
      have HV := Lib.hid (write_bad (k3 hn ho hp hpn2) (by decide))
      rw [hpn2] at HPR
      clear k1 k2 k3 k4 hn ho hq hp hpn hpn2
      go_enter Tryz.func27, Tryz.ntmps27
      go_wp2_with fail
      refine (HNM.out _).mono ?_
      rintro e w1 ⟨rfl, rfl⟩
      go_wp2_with fail
      refine (HOW.out _).mono ?_
      rintro e w1 ⟨rfl, hb⟩
      have HB1 := Lib.hid (HA0.out.trans (hb.mono HA0.out.size))
      have hx1 := HX0.out.keep hb
      have HX1 := Lib.hid hx1
      obtain ⟨x0, x1, x2, x3, x4⟩ := hx1.get
      clear hb hx1
      go_wp2_with fail
      refine (HPR.out _).mono ?_
      rintro e w2 ⟨rfl, rfl⟩
      go_wp2_with fail
      go_ret2
      rw [HV.out]
      exact ⟨rfl, HB1.out⟩
    rw [hpn] at HPR
    have HW := Lib.hid (show writeM s = (textS s, 0) from write_ok (k4 hn ho (.inr hpn)))
    obtain ⟨m, o, hm, hoo, hm8, ho8, _, hc1, hc2⟩ := HOK.out
    have HM := Lib.hid hm
    have HO := Lib.hid hoo
    have HM8 := Lib.hid hm8
    have HO8 := Lib.hid ho8
    have HMN := Lib.hid (show s.ch.on.toNat = m by omega)
    have HON := Lib.hid (show s.ch.off.toNat = o by omega)
    have HCL := Lib.hid (And.intro hc1 hc2)
    have ln := name_len hn
    have lp := name_len hpn
    obtain ⟨a0, ha0⟩ : ∃ a0, s.nm ++ 58 :: s.pr = a0 := ⟨_, rfl⟩
    have HA := Lib.hid (show a0 = s.nm ++ parT s.pr by unfold parT; rw [if_neg hp]; exact ha0.symm)
    have za0 := bs_len a0
    have la0 : a0.length = s.nm.length + (s.pr.length + 1) := by rw [← ha0]; simp
    have HNN := Lib.hid (show bs s.nm ++ bs [58] ++ bs s.pr = bs a0 by rw [bs_app, bs_app, ← ha0]; simp)
    have zn := bs_len s.nm
    have zp := bs_len s.pr
    have g5 : ¬ 9223372036854775807 < (bs s.nm).size + 1 := by omega
    have g6 : ¬ 9223372036854775807 < (bs s.nm).size + 1 + (bs s.pr).size := by omega
    clear k1 k2 k3 k4 hn ho hq hm hoo hm8 ho8 hc1 hc2 hp ha0 hpn
    go_enter Tryz.func27, Tryz.ntmps27
    go_wp2_with fail
    refine (HNM.out _).mono ?_
    rintro e w1 ⟨rfl, rfl⟩
    go_wp2_with fail
    refine (HOW.out _).mono ?_
    rintro e w1 ⟨rfl, hb⟩
    have HB1 := Lib.hid (HA0.out.trans (hb.mono HA0.out.size))
    have hx1 := HX0.out.keep hb
    have HX1 := Lib.hid hx1
    obtain ⟨x0, x1, x2, x3, x4⟩ := hx1.get
    clear hb hx1
    go_wp2_with fail
    refine (HPR.out _).mono ?_
    rintro e w2 ⟨rfl, rfl⟩
    go_wp2_with fail
    rw [show bs s.nm ++ (⟨#[58]⟩ : ByteArray) ++ bs s.pr = bs a0 from HNN.out]
    have hS : Below w.heap.size w w1.drew ∧ SBox w1.drew w.heap.size s := ⟨HB1.out.drew, HX1.out⟩
    refine wp_region_held_drew (S := fun w' => Below w.heap.size w w' ∧ SBox w' w.heap.size s) (by kernel_rfl) hS (fun hS => ?_)
    obtain ⟨B, hB⟩ : ∃ B, w.heap.size = B := ⟨_, rfl⟩
    have HBq := Lib.hid hB
    rw [hB] at hS ⊢
    clear x0 x1 x2 x3 x4 hB
    refine wpAnyH_take (i := 0) (v := .string (bs a0)) rfl (by kernel_rfl) (by kernel_rfl) (by kernel_rfl) (fun _ _ _ h => h) (.inl ⟨by kernel_rfl, fun w' hS => by go_simp⟩) hS ?_
    refine wpAnyH_take (i := 1) (v := .pointer (some ⟨B, 2, none⟩)) rfl (by kernel_rfl) (by kernel_rfl) (by kernel_rfl) (fun _ _ _ h => h) (.inl ⟨by kernel_rfl, fun w' hS => by go_simp⟩) hS ?_
    refine wpAnyH_take (i := 2) (v := .pointer (some ⟨B, 2, none⟩)) rfl (by kernel_rfl) (by kernel_rfl) (by kernel_rfl) (fun _ _ _ h => h) (.inl ⟨by kernel_rfl, fun w' hS => by go_simp⟩) hS ?_
    refine wpAnyH_take (i := 3) (v := .int .i64 s.ch.on) rfl (by kernel_rfl) (by kernel_rfl) (by kernel_rfl) (fun _ _ _ h => h) (.inl ⟨by kernel_rfl, fun w' hS => by obtain ⟨x0, x1, x2, x3, x4⟩ := hS.2.get; go_simp⟩) hS ?_
    refine wpAnyH_take (i := 6) (v := .pointer (some ⟨B, 2, none⟩)) rfl (by kernel_rfl) (by kernel_rfl) (by kernel_rfl) (fun _ _ _ h => h) (.inl ⟨by kernel_rfl, fun w' hS => by go_simp⟩) hS ?_
    refine wpAnyH_take (i := 7) (v := .pointer (some ⟨B, 3, none⟩)) rfl (by kernel_rfl) (by kernel_rfl) (by kernel_rfl) (fun _ _ _ h => h) (.inl ⟨by kernel_rfl, fun w' hS => by go_simp⟩) hS ?_
    refine wpAnyH_take (i := 8) (v := .int .i64 s.ch.off) rfl (by kernel_rfl) (by kernel_rfl) (by kernel_rfl) (fun _ _ _ h => h) (.inl ⟨by kernel_rfl, fun w' hS => by obtain ⟨x0, x1, x2, x3, x4⟩ := hS.2.get; go_simp⟩) hS ?_
    refine wpAnyH_one (i := 4) (by kernel_rfl) rfl (by kernel_rfl) (fun K hK => ?_)
    go_simp
    rw [HM.out]
    refine (bits_ref 43 m HM8.out _).mono ?_
    rintro e w2 ⟨rfl, hb⟩
    replace hS : Below B w w2 ∧ SBox w2 B s := ⟨hS.1.trans (hb.mono (Nat.le_of_lt hS.2.lt)), hS.2.keep hb⟩
    refine hK _ _ hS ?_
    clear hK K hb
    obtain ⟨b1, hb1⟩ : ∃ b, bitsT 43 m 7 = b := ⟨_, rfl⟩
    have l1 := bits_len7 43 m
    rw [hb1] at l1 ⊢
    have z1 := bs_len b1
    have g1 : ¬ 9223372036854775807 < (bs a0).size + (bs b1).size := by omega
    refine wpAnyH_take (i := 5) (v := .string (bs a0 ++ bs b1)) rfl (by kernel_rfl) (by kernel_rfl) (by kernel_rfl) (fun _ _ _ h => h) (.inl ⟨by kernel_rfl, fun w' hS => by go_simp <;> omega⟩) hS ?_
    refine wpAnyH_one (i := 9) (by kernel_rfl) rfl (by kernel_rfl) (fun K hK => ?_)
    go_simp
    rw [HO.out]
    refine (bits_ref 45 o HO8.out _).mono ?_
    rintro e w3 ⟨rfl, hb⟩
    replace hS : Below B w w3 ∧ SBox w3 B s := ⟨hS.1.trans (hb.mono (Nat.le_of_lt hS.2.lt)), hS.2.keep hb⟩
    refine hK _ _ hS ?_
    clear hK K hb
    obtain ⟨b2, hb2⟩ : ∃ b, bitsT 45 o 7 = b := ⟨_, rfl⟩
    have l2 := bits_len7 45 o
    rw [hb2] at l2 ⊢
    have z2 := bs_len b2
    have e1 := bs_app a0 b1
    obtain ⟨a1, ha1⟩ : ∃ a1, a0 ++ b1 = a1 := ⟨_, rfl⟩
    rw [ha1] at e1
    rw [e1]
    have la1 : a1.length = a0.length + b1.length := by rw [← ha1, List.length_append]
    have za1 := bs_len a1
    have g2 : ¬ 9223372036854775807 < (bs a1).size + (bs b2).size := by omega
    clear e1
    refine wpAnyH_take (i := 10) (v := .string (bs a1 ++ bs b2)) rfl (by kernel_rfl) (by kernel_rfl) (by kernel_rfl) (fun _ _ _ h => h) (.inl ⟨by kernel_rfl, fun w' hS => by go_simp <;> omega⟩) hS ?_
    refine wpAnyH_take (i := 11) (v := .string (bs a1 ++ bs b2)) rfl (by kernel_rfl) (by kernel_rfl) (by kernel_rfl) (fun _ _ _ h => h) (.inl ⟨by kernel_rfl, fun w' hS => by go_simp⟩) hS ?_
    refine wpAnyH_done (by kernel_rfl) ?_ _
    have e2 := bs_app a1 b2
    obtain ⟨a2, ha2⟩ : ∃ a2, a1 ++ b2 = a2 := ⟨_, rfl⟩
    rw [ha2] at e2
    rw [e2]
    have la2 : a2.length = a1.length + b2.length := by rw [← ha2, List.length_append]
    have za2 := bs_len a2
    obtain ⟨x0, x1, x2, x3, x4⟩ := hS.2.get
    have HS3 := Lib.hid hS
    have HTX := Lib.hid (show a2 = (s.nm ++ parT s.pr) ++ bitsT 43 m 7 ++ bitsT 45 o 7 by rw [hb1, hb2, ← ha2, ← ha1, HA.out])
    clear e2 hS ha1 ha2 hb1 hb2 g1 g2
    by_cases hc : s.ch.col = -1
    · have tc := bne_f hc
      have HV := Lib.hid (show writeM s = (a2, 0) by rw [HW.out, HTX.out]; unfold textS colT; rw [if_pos hc, HMN.out, HON.out, List.append_nil])
      clear hc
      go_wp2_with fail
      go_ret2
      rw [HV.out]
      exact ⟨rfl, by rw [HBq.out]; exact HS3.out.1⟩
    · have tc := bne_t hc
      obtain ⟨k, hk, hk16⟩ : ∃ k : Nat, s.ch.col = k ∧ k < 16 := ⟨s.ch.col.toNat, by have := HCL.out; omega, by have := HCL.out; omega⟩
      have HK := Lib.hid hk
      have HIT := Lib.hid (fun w1 hT => itoa_pro (k : Int) w1 (by omega) (by omega) hT)
      have hiis := itoa_is k hk16
      have l3 : (itoaL k).length ≤ 2 := by unfold itoaL; split <;> simp
      have HV := Lib.hid (show writeM s = (a2 ++ 32 :: (colorW ++ 32 :: itoaL k), 0) by rw [HW.out, HTX.out]; unfold textS colT; rw [if_neg hc, HMN.out, HON.out, hk]; rfl)
      rw [hiis] at HIT
      obtain ⟨d, hd⟩ : ∃ d, itoaL k = d := ⟨_, rfl⟩
      rw [hd] at HIT l3 HV
      have z3 := bs_len d
      have g3 : ¬ 9223372036854775807 < (bs a2).size + 7 := by omega
      have g4 : ¬ 9223372036854775807 < (bs a2).size + 7 + (bs d).size := by omega
      rw [hk] at x4 tc
      clear hc hk hiis hd
      go_wp2_with fail
      refine (HIT.out _ (HT.out.below HS3.out.1 (by rw [HBq.out]; exact Nat.le_refl _))).mono ?_
      rintro e w4 ⟨rfl, hb⟩
      have HB4 := Lib.hid (HS3.out.1.trans (hb.mono (Nat.le_of_lt HS3.out.2.lt)))
      clear hb
      go_wp2_with fail
      go_ret2
      rw [HV.out]
      refine ⟨?_, by rw [HBq.out]; exact HB4.out⟩
      show Ending.returned (.tuple #[.string (bs a2 ++ bs [32, 99, 111, 108, 111, 114, 32] ++ bs d), .int .i64 0]) = Ending.returned (wrV (a2 ++ 32 :: (colorW ++ 32 :: d), 0))
      rw [bs_app, bs_app]
      unfold wrV colorW
      simp
end Go.Proofs.YtceanagnkcejgaaGreatDoor
