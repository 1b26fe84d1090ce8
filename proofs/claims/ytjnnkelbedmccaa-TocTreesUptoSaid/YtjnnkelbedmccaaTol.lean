/- Layer 10: the document's may, at, Check, Good, above. -/
import Derived.Test.YtjnnkelbedmccaaTok
namespace Go.Proofs.Ytjnnkelbedmccaa
open Go.RowKit Go.Maps Go.Sort
set_option linter.unusedVariables false

theorem RdE.take {w : World} {pa : Option Addr} {n cap : Nat} {l : List Ent} (h : RdE w (.slice pa n cap) l) {k : Nat} (hk : k ≤ l.length) : RdE w (.slice pa k cap) (l.take k) := by
  obtain ⟨pa', cap', e, h1, h2, hf, h4⟩ := h
  cases e
  have hl : (l.take k).length = k := by rw [List.length_take]; omega
  refine ⟨pa, cap, by rw [hl], by omega, h2, fun e he => hf e (List.mem_of_mem_take he), fun j hj => ?_⟩
  rw [hl] at hj
  obtain ⟨b, off, e, hc, hd⟩ := h4 j (by omega)
  exact ⟨b, off, e, by rw [List.getElem_take]; exact hc, by rw [List.getElem_take]; exact hd⟩
theorem lvN_take {l : List Ent} {k j : Nat} (h : j < k) : lvN (l.take k) j = lvN l j := by unfold lvN; rw [List.getElem?_take_of_lt h]
theorem tpN_take {l : List Ent} {k j : Nat} (h : j < k) : tpN (l.take k) j = tpN l j := by unfold tpN; rw [List.getElem?_take_of_lt h]
theorem ahd_take {l : List Ent} {k : Nat} : ahd (l.take k) k = ahd l k := by
  rcases k with _ | k
  · rfl
  · simp only [ahd]; exact lvN_take (by omega)
theorem atF_take {l : List Ent} {k : Nat} (hk : k ≤ l.length) (x : Int) : 0 ≤ atF (l.take k) x ↔ x ∈ tops (l.take k) := by
  have hl : (l.take k).length = k := by rw [List.length_take]; omega
  rcases atF_cases (l.take k) x with ⟨i, hi, e, ha⟩ | ⟨h, ha⟩
  · rw [ha]
    refine ⟨fun _ => mem_take.2 ⟨i, by omega, by omega, ?_⟩, fun _ => by omega⟩
    rw [← e, tpN_take (by omega)]
  · rw [ha]
    refine ⟨fun h9 => by omega, fun hm => ?_⟩
    obtain ⟨j, hj, hjl, e⟩ := mem_take.1 hm
    exact absurd ((tpN_take hj).trans e) (h j (by omega))
set_option maxRecDepth 100000 in
theorem may_ref (m : List Ent) (v : Value) (u : Int) (w : World) (hv : RdE w v m) (h0 : 0 ≤ ahd m m.length) (h8 : ahd m m.length ≤ 8) (hm : m.length ≤ 1000) : Calls Try.prog 42 #[v, .int .i64 u] w fun e w' => e = .returned (.bool (mayB (ahd m m.length) u)) ∧ w = w' := by
  obtain ⟨pa, cap, rfl, _, _⟩ := hv.form
  obtain ⟨a, ha⟩ : ∃ a, ahd m m.length = a := ⟨_, rfl⟩
  rw [ha] at h0 h8 ⊢
  have key : ∀ b, mayB a u = b → Calls Try.prog 42 #[.slice pa m.length cap, .int .i64 u] w fun e w' => e = .returned (.bool b) ∧ w = w' := by
    intro b hb
    unfold mayB at hb
    rcases Nat.eq_zero_or_pos m.length with e0 | e0
    · rw [e0] at ha ⊢
      obtain rfl : a = 0 := by rw [← ha]; rfl
      clear hv ha e0
      have hw : wrap64 ((0 : Int) + 1) = 1 := by decide +kernel
      by_cases h1 : 1 ≤ u
      · by_cases h2 : u ≤ 8
        · by_cases h3 : u ≤ 1
          · obtain rfl : b = true := by rw [← hb]; exact decide_eq_true ⟨h1, h2, by omega⟩
            clear hb
            go_enter Try.func42, Try.ntmps42
            go_wp2_with fail
            go_ret
            exact ⟨rfl, rfl⟩
          · obtain rfl : b = false := by rw [← hb]; exact decide_eq_false (by omega)
            clear hb
            go_enter Try.func42, Try.ntmps42
            go_wp2_with fail
            go_ret
            exact ⟨rfl, rfl⟩
        · obtain rfl : b = false := by rw [← hb]; exact decide_eq_false (by omega)
          clear hb
          go_enter Try.func42, Try.ntmps42
          go_wp2_with fail
          go_ret
          exact ⟨rfl, rfl⟩
      · obtain rfl : b = false := by rw [← hb]; exact decide_eq_false (by omega)
        clear hb
        go_enter Try.func42, Try.ntmps42
        go_wp2_with fail
        go_ret
        exact ⟨rfl, rfl⟩
    · obtain ⟨k, hk⟩ : ∃ k, m.length = k + 1 := ⟨m.length - 1, by omega⟩
      obtain ⟨bb, off, rfl, c0, c1⟩ := hv.cell (j := k) (by omega)
      rw [hk] at ha ⊢
      simp only [ahd] at ha
      rw [ha] at c1
      have hk9 : k ≤ 1000 := by omega
      have q1 : ((k + 1 : Nat) : Int) - 1 = k := by omega
      have q2 : (0 : Int) < ((k + 1 : Nat) : Int) := by omega
      have q3 : (k : Int) < ((k + 1 : Nat) : Int) := by omega
      obtain ⟨n, hn⟩ : ∃ n : Nat, k + 1 = n := ⟨_, rfl⟩
      rw [hn] at q1 q2 q3 ⊢
      have hw : wrap64 ((n : Int) - 1) = k := by rw [q1]; exact IntWalk.wrap64_in _ (by omega)
      clear hv ha hk c0 e0 hn
      by_cases h1 : 1 ≤ u
      · by_cases h2 : u ≤ 8
        · by_cases h3 : u ≤ a + 1
          · obtain rfl : b = true := by rw [← hb]; exact decide_eq_true ⟨h1, h2, by omega⟩
            clear hb
            go_enter Try.func42, Try.ntmps42
            go_wp2_with fail
            go_ret
            exact ⟨rfl, rfl⟩
          · obtain rfl : b = false := by rw [← hb]; exact decide_eq_false (by omega)
            clear hb
            go_enter Try.func42, Try.ntmps42
            go_wp2_with fail
            go_ret
            exact ⟨rfl, rfl⟩
        · obtain rfl : b = false := by rw [← hb]; exact decide_eq_false (by omega)
          clear hb
          go_enter Try.func42, Try.ntmps42
          go_wp2_with fail
          go_ret
          exact ⟨rfl, rfl⟩
      · obtain rfl : b = false := by rw [← hb]; exact decide_eq_false (by omega)
        clear hb
        go_enter Try.func42, Try.ntmps42
        go_wp2_with fail
        go_ret
        exact ⟨rfl, rfl⟩
  exact key _ rfl
set_option maxRecDepth 100000 in
set_option maxHeartbeats 1000000 in
theorem at_ref (l : List Ent) (v : Value) (x : Int) (w : World) (hv : RdE w v l) (hl : l.length ≤ 1000) : Calls Try.prog 45 #[v, .int .i64 x] w fun e w' => e = .returned (.int .i64 (atF l x)) ∧ w = w' := by
  have HV := Lib.hid hv
  obtain ⟨pa, cap, rfl, _, _⟩ := hv.form
  clear hv
  go_enter Try.func45, Try.ntmps45
  go_wp2_with fail
  go_loop [5] (fun i => ∃ k : Nat, i = .int .i64 (k : Nat) ∧ k ≤ l.length ∧ Hid (∀ j, j < k → tpN l j ≠ x)) (fun i => l.length - (intOf i).toNat)
  case atStart => exact ⟨0, rfl, Nat.zero_le _, Lib.hid (fun j hj => absurd hj (Nat.not_lt_zero _))⟩
  case round =>
    obtain ⟨k, rfl, hk, HA⟩ := hrel
    by_cases hlt : k < l.length
    · obtain ⟨b, off, rfl, c0, c1⟩ := HV.out.cell hlt
      have hk1 : (k : Int) < l.length := by omega
      have hf : tpN l k = x → atF l x = (k : Nat) := fun e => atF_first hlt HA.out e
      obtain ⟨t, ht⟩ : ∃ t, tpN l k = t := ⟨_, rfl⟩
      rw [ht] at c0 hf
      have HT := Lib.hid ht
      by_cases he : t = x
      · have HF := Lib.hid (hf he)
        have t1 : (t == x) = true := by simp [he]
        clear he hf ht hlt c1
        go_wp2_with fail
        go_ret
        exact ⟨by rw [HF.out]; rfl, rfl⟩
      · have t1 : (t == x) = false := by simpa using he
        have HA2 := Lib.hid (show ∀ j, j < k + 1 → tpN l j ≠ x from fun j hj => by
          rcases Nat.eq_or_lt_of_le (Nat.le_of_lt_succ hj) with e | h9
          · rw [e, HT.out]; exact he
          · exact HA.out j h9)
        clear he hf ht c1
        go_wp2_with fail
        go_round
        case rel => exact ⟨k + 1, by go_num, by omega, HA2⟩
        case measure => simp [intOf]; omega
    · obtain rfl : k = l.length := by omega
      have hkx : ¬ ((l.length : Nat) : Int) < l.length := by omega
      have HF := Lib.hid (atF_none HA.out)
      clear hlt hk
      go_wp2_with fail
      go_ret
      exact ⟨by rw [HF.out]; rfl, rfl⟩
set_option maxRecDepth 100000 in
set_option maxHeartbeats 4000000 in
theorem dcheck_ref (l : List Ent) (v : Value) (N : Int) (w : World) (hv : RdE w v l) : Calls Try.prog 16 #[v, .int .i64 N] w (ChkIs N l w) := by
  have mixed : Try.prog.follows .mixedOrders = true := by kernel_rfl
  obtain ⟨pa, cap, rfl, hcl, hcm⟩ := hv.form
  by_cases hlong : 1000 < l.length
  · have HF := Lib.hid (show ChkIs N l w (.returned (.tuple #[.int .i64 0, .int .i64 2])) w from ⟨by rw [chk_long hlong], Below.refl _ _⟩)
    have h1 : (1000 : Int) < l.length := by omega
    clear hv hcl hcm
    go_enter Try.func16, Try.ntmps16
    go_wp2_with fail
    go_ret2
    exact HF.out
  · have h1 : ¬ (1000 : Int) < l.length := by omega
    have HV := Lib.hid hv
    have HL := Lib.hid (show l.length ≤ 1000 by omega)
    have HCL := Lib.hid hcl
    clear hv hcl hcm hlong
    go_enter Try.func16, Try.ntmps16
    go_wp2_with fail
    go_loopw [6] (fun i wr => ∃ k : Nat, i = .int .i64 (k : Nat) ∧ k ≤ l.length ∧ Hid (∀ j, j < k → badAt N l j = 0) ∧ Hid (Below w.heap.size w wr)) (fun i _ => l.length - (intOf i).toNat)
    case atStart => exact ⟨0, rfl, Nat.zero_le _, Lib.hid (fun j hj => absurd hj (Nat.not_lt_zero _)), Lib.hid (Below.refl _ _)⟩
    case round =>
      obtain ⟨k, rfl, hk, HA, HB⟩ := hrel
      by_cases hlt : k < l.length
      · have hR := HV.out.below HB.out
        obtain ⟨b, off, rfl, c0, c1⟩ := hR.cell hlt
        have hah := ahd_range HA.out
        have hbz := fun h1 h2 h3 h4 => bad_ok (N := N) (l := l) (k := k) h1 h2 h3 h4
        have hbr := bad_range (N := N) (l := l) (k := k)
        have hbl := bad_level (N := N) (l := l) (k := k)
        have hbt := bad_twice (N := N) (l := l) (k := k)
        have HCF := Lib.hid (show badAt N l k ≠ 0 → chk N l = (((k : Nat) : Int), badAt N l k) from fun h => chk_first HL.out hlt HA.out h)
        have htl : (l.take k).length = k := by rw [List.length_take]; omega
        obtain ⟨t, ht⟩ : ∃ t, tpN l k = t := ⟨_, rfl⟩
        obtain ⟨u, hu⟩ : ∃ u, lvN l k = u := ⟨_, rfl⟩
        obtain ⟨mb, hmb⟩ : ∃ mb, mayB (ahd l k) u = mb := ⟨_, rfl⟩
        have cM : ∀ W : World, Below wr.heap.size wr W → ∀ d os, Calls Try.prog 42 #[.slice (some ⟨b, off, none⟩) k cap, .int .i64 u] (Sort.grow (redrawn W d) os) fun e w'' => e = .returned (.bool mb) ∧ ∃ p : Regrown, w'' = Sort.grow (redrawn W p.d) p.os := fun W hW d os => by
          have h9 := may_ref (l.take k) _ u _ (((hR.take (k := k) (by omega)).below hW).below (below_regrown W d os)) (by rw [htl, ahd_take]; exact hah.1) (by rw [htl, ahd_take]; exact hah.2) (by have := HL.out; omega)
          rw [htl, ahd_take, hmb] at h9
          exact Calls.regrown_of (h9.mono fun _ _ ⟨h1, h2⟩ => ⟨h1, by rw [← h2]; exact Below.refl _ _⟩)
        have hats := atF_take (l := l) (k := k) (by omega) t
        obtain ⟨z, hz⟩ : ∃ z, atF (l.take k) t = z := ⟨_, rfl⟩
        have cA : ∀ W : World, Below wr.heap.size wr W → ∀ d os, Calls Try.prog 45 #[.slice (some ⟨b, off, none⟩) k cap, .int .i64 t] (Sort.grow (redrawn W d) os) fun e w'' => e = .returned (.int .i64 z) ∧ ∃ p : Regrown, w'' = Sort.grow (redrawn W p.d) p.os := fun W hW d os => by
          have h9 := at_ref (l.take k) _ t _ (((hR.take (k := k) (by omega)).below hW).below (below_regrown W d os)) (by have := HL.out; omega)
          rw [hz] at h9
          exact Calls.regrown_of (h9.mono fun _ _ ⟨h1, h2⟩ => ⟨h1, by rw [← h2]; exact Below.refl _ _⟩)
        rw [hz] at hats
        rw [ht] at c0 hbz hbr hbl hbt
        rw [hu] at c1 hbz hbl hbt
        rw [hmb] at hbz hbl hbt
        have HLT := Lib.hid hlt
        have hk1 : (k : Int) < l.length := by omega
        have hkc : (k : Int) ≤ cap := by have := HCL.out; omega
        have hL := HL.out
        have HC0 := Lib.hid c0
        have HC1 := Lib.hid c1
        have HCM := Lib.hid cM
        have HCA := Lib.hid cA
        by_cases hr : t < 0 ∨ N ≤ t
        · have HE := Lib.hid (hbr hr)
          have HF := Lib.hid (show ChkIs N l w (.returned (.tuple #[.int .i64 (k : Nat), .int .i64 1])) wr from ⟨by rw [HCF.out (by rw [HE.out]; decide), HE.out], HB.out⟩)
          clear hbz hbr hbl hbt ht hu hlt hah htl hmb hats hz cM cA hR
          rcases (show t < 0 ∨ (0 ≤ t ∧ N ≤ t) by omega) with h5 | ⟨h5, h6⟩
          · clear hr
            go_wp2_with fail
            go_ret2
            exact HF.out
          · clear hr
            go_wp2_with fail
            go_ret2
            exact HF.out
        · have h5 : 0 ≤ t := by omega
          have h6 : t < N := by omega
          have kr0 := cell_regrown c0
          have kr1 := cell_regrown c1
          clear hr
          cases mb with
          | false =>
            have HE := Lib.hid (hbl h5 h6 rfl)
            clear hbz hbr hbl hbt ht hu hlt hah htl hmb hats hz cM cA hR
            go_wp2_with fail
            refine wp_region_quiet_below mixed (by kernel_rfl) ?_
            repeat (quiet_step (exact HCM.out wr (Below.refl _ _) _ _))
            refine wpQuiet_nil ?_
            intro _ hw'
            obtain ⟨⟨dq, osq⟩, hw''⟩ := hw'
            subst hw''
            have HB6 := Lib.hid (HB.out.trans ((below_regrown wr dq osq).mono HB.out.size))
            clear kr0 kr1
            go_wp2_with fail
            go_ret2
            exact ⟨by rw [HCF.out (by rw [HE.out]; decide), HE.out]; rfl, HB6.out⟩
          | true =>
            by_cases hin : t ∈ tops (l.take k)
            · have HE := Lib.hid (hbt h5 h6 rfl hin)
              have hz0 : 0 ≤ z := hats.2 hin
              clear hbz hbr hbl hbt ht hu hlt hah htl hmb hats hz cM cA hR hin
              go_wp2_with fail
              refine wp_region_quiet_below mixed (by kernel_rfl) ?_
              repeat (quiet_step (exact HCM.out wr (Below.refl _ _) _ _))
              refine wpQuiet_nil ?_
              intro _ hw'
              obtain ⟨⟨dq, osq⟩, hw''⟩ := hw'
              subst hw''
              have hWq := below_regrown wr dq osq
              obtain ⟨Wq, hWe⟩ : ∃ Wq, Sort.grow (redrawn wr dq) osq = Wq := ⟨_, rfl⟩
              rw [hWe] at hWq ⊢
              have HWQ := Lib.hid hWq
              have HB6 := Lib.hid (HB.out.trans (hWq.mono HB.out.size))
              have kr5 := cell_regrown ((hWq.cell (p := ⟨b, off + k * 2, none⟩) (cellInL HC0.out)).trans HC0.out)
              have HCA2 := Lib.hid (HCA.out Wq hWq)
              clear kr0 kr1 hWe hWq
              go_wp2_with fail
              refine wp_region_quiet_below mixed (by kernel_rfl) ?_
              repeat (quiet_step (exact HCA2.out _ _))
              refine wpQuiet_nil ?_
              intro _ hw'
              obtain ⟨⟨dq2, osq2⟩, hw''⟩ := hw'
              subst hw''
              have HB7 := Lib.hid (HB6.out.trans ((below_regrown Wq dq2 osq2).mono HB6.out.size))
              clear kr5
              go_wp2_with fail
              go_ret2
              exact ⟨by rw [HCF.out (by rw [HE.out]; decide), HE.out]; rfl, HB7.out⟩
            · have HE := Lib.hid (hbz h5 h6 rfl hin)
              have hz0 : ¬ 0 ≤ z := fun h => hin (hats.1 h)
              clear hbz hbr hbl hbt ht hu hlt hah htl hmb hats hz cM cA hR hin
              go_wp2_with fail
              refine wp_region_quiet_below mixed (by kernel_rfl) ?_
              repeat (quiet_step (exact HCM.out wr (Below.refl _ _) _ _))
              refine wpQuiet_nil ?_
              intro _ hw'
              obtain ⟨⟨dq, osq⟩, hw''⟩ := hw'
              subst hw''
              have hWq := below_regrown wr dq osq
              obtain ⟨Wq, hWe⟩ : ∃ Wq, Sort.grow (redrawn wr dq) osq = Wq := ⟨_, rfl⟩
              rw [hWe] at hWq ⊢
              have HWQ := Lib.hid hWq
              have HB6 := Lib.hid (HB.out.trans (hWq.mono HB.out.size))
              have kr5 := cell_regrown ((hWq.cell (p := ⟨b, off + k * 2, none⟩) (cellInL HC0.out)).trans HC0.out)
              have HCA2 := Lib.hid (HCA.out Wq hWq)
              clear kr0 kr1 hWe hWq
              go_wp2_with fail
              refine wp_region_quiet_below mixed (by kernel_rfl) ?_
              repeat (quiet_step (exact HCA2.out _ _))
              refine wpQuiet_nil ?_
              intro _ hw'
              obtain ⟨⟨dq2, osq2⟩, hw''⟩ := hw'
              subst hw''
              have HB7 := Lib.hid (HB6.out.trans ((below_regrown Wq dq2 osq2).mono HB6.out.size))
              clear kr5
              go_wp2_with fail
              go_roundw
              case measure => have := HLT.out; first | (simp [intOf]; done) | (simp [intOf]; omega)
              case rel =>
                refine ⟨k + 1, by go_num, by have := HLT.out; omega, Lib.hid (fun j hj => ?_), HB7⟩
                rcases Nat.eq_or_lt_of_le (Nat.le_of_lt_succ hj) with e | h9
                · rw [e]; exact HE.out
                · exact HA.out j h9
      · obtain rfl : k = l.length := by omega
        have hkx : ¬ ((l.length : Nat) : Int) < l.length := by omega
        have HF := Lib.hid (show ChkIs N l w (.returned (.tuple #[.int .i64 0, .int .i64 0])) wr from ⟨by rw [chk_none HL.out HA.out], HB.out⟩)
        clear hlt hk
        go_wp2_with fail
        go_ret2
        exact HF.out
set_option maxRecDepth 100000 in
theorem good_ref (l : List Ent) (v : Value) (w : World) (hv : RdE w v l) : Calls Try.prog 36 #[v] w (SaysL (.int .i64 (gdE l)) w) := by
  have HC := Lib.hid (dcheck_ref l v 1000 w hv)
  obtain ⟨pa, cap, rfl, _, _⟩ := hv.form
  obtain ⟨a, ha⟩ : ∃ a, (chk 1000 l).1 = a := ⟨_, rfl⟩
  obtain ⟨b, hb⟩ : ∃ b, gdE l = b := ⟨_, rfl⟩
  have hb2 : (chk 1000 l).2 = b := hb
  rw [hb]
  have HA := Lib.hid ha
  have HB := Lib.hid hb2
  clear hv ha hb hb2
  go_enter Try.func36, Try.ntmps36
  go_wp2_with fail
  refine HC.out.mono ?_
  unfold ChkIs
  rw [HA.out, HB.out]
  rintro e w1 ⟨rfl, hb1⟩
  have HB1 := Lib.hid hb1
  clear hb1
  go_wp2_with fail
  go_ret
  exact ⟨rfl, HB1.out⟩
set_option maxRecDepth 100000 in
set_option maxHeartbeats 1000000 in
theorem above_ref (l : List Ent) (v : Value) (i : Nat) (w : World) (hv : RdE w v l) (g : Gd l) (hi : i < l.length) : Calls Try.prog 49 #[v, .int .i64 (i : Nat)] w (SaysL (.int .i64 (abv l i)) w) := by
  have mixed : Try.prog.follows .mixedOrders = true := by kernel_rfl
  have HV := Lib.hid hv
  obtain ⟨pa, cap, rfl, _, _⟩ := hv.form
  have hl := g.len
  have hlv := g.lv i hi
  have HI := Lib.hid hi
  have HG := Lib.hid g
  obtain ⟨b, off, rfl, _, c1⟩ := hv.cell hi
  have HC1 := Lib.hid c1
  obtain ⟨u, hu⟩ : ∃ u, lvN l i = u := ⟨_, rfl⟩
  have HU := Lib.hid hu
  rw [hu] at HC1 hlv
  have HAB := Lib.hid (show abv l i = abvF l (u - 1) i by unfold abv; rw [hu])
  have hi1 : (i : Int) < l.length := by omega
  have hi9 : (i : Int) ≤ 1000 := by omega
  clear hv g hi c1 hu
  go_enter Try.func49, Try.ntmps49
  go_wp2_with fail
  go_loopw [5] (fun s wr => ∃ n : Int, s = .int .i64 n ∧ -1 ≤ n ∧ n < i ∧ Hid (abv l i = abvF l (u - 1) (n + 1).toNat) ∧ Hid (Below w.heap.size w wr)) (fun s _ => (intOf s + 1).toNat)
  case atStart => exact ⟨(i : Int) - 1, by go_num, by omega, by omega, Lib.hid (by rw [HAB.out, show ((i : Int) - 1 + 1).toNat = i by omega]), Lib.hid (Below.refl _ _)⟩
  case round =>
    obtain ⟨n, rfl, hn0, hn1, HN, HB⟩ := hrel
    by_cases h0 : 0 ≤ n
    · obtain ⟨k, rfl⟩ : ∃ k : Nat, n = k := ⟨n.toNat, by omega⟩
      have hR := HV.out.below HB.out
      obtain ⟨b2, off2, e2, _, c1⟩ := hR.cell (j := k) (by omega)
      cases e2
      have c2 := (HB.out.cell (p := ⟨b, off + i * 2 + 1, none⟩) (cellInL HC1.out)).trans HC1.out
      have hst : abvF l (u - 1) (k + 1) = if lvN l k = u - 1 then ((k : Nat) : Int) else abvF l (u - 1) k := rfl
      have hN := HN.out
      rw [show ((k : Int) + 1).toNat = k + 1 by omega, hst] at hN
      obtain ⟨q, hq⟩ : ∃ q, lvN l k = q := ⟨_, rfl⟩
      rw [hq] at c1 hN
      have kr1 := cell_regrown c1
      have kr2 := cell_regrown c2
      have hk1 : (k : Int) < l.length := by omega
      have hw2 : IntKind.i64.wrap (u - 1) = u - 1 := IntWalk.i64_in _ (by omega)
      by_cases he : q = u - 1
      · rw [if_pos he] at hN
        have HF := Lib.hid hN
        have t1 : (q == u - 1) = true := by simp [he]
        have t2 : (q == IntKind.i64.wrap (u - 1)) = true := by rw [hw2]; exact t1
        clear he hN hst c1 c2 hq hw2 hR
        go_wp2_with fail
        refine wp_region_quiet_below mixed (by kernel_rfl) ?_
        repeat (quiet_step (fail))
        refine wpQuiet_nil ?_
        intro _ hw'
        obtain ⟨⟨dq, osq⟩, hw''⟩ := hw'
        subst hw''
        have HB6 := Lib.hid (HB.out.trans ((below_regrown wr dq osq).mono HB.out.size))
        clear kr1 kr2
        go_wp2_with fail
        go_ret
        exact ⟨by rw [HF.out]; rfl, HB6.out⟩
      · rw [if_neg he] at hN
        have HF := Lib.hid hN
        have t1 : (q == u - 1) = false := by simpa using he
        have t2 : (q == IntKind.i64.wrap (u - 1)) = false := by rw [hw2]; exact t1
        clear he hN hst c1 c2 hq hw2 hR
        go_wp2_with fail
        refine wp_region_quiet_below mixed (by kernel_rfl) ?_
        repeat (quiet_step (fail))
        refine wpQuiet_nil ?_
        intro _ hw'
        obtain ⟨⟨dq, osq⟩, hw''⟩ := hw'
        subst hw''
        have HB6 := Lib.hid (HB.out.trans ((below_regrown wr dq osq).mono HB.out.size))
        clear kr1 kr2
        go_wp2_with fail
        go_roundw
        case measure => first | (simp [intOf]; done) | (simp [intOf]; omega)
        case rel => exact ⟨(k : Int) - 1, by go_num, by omega, by omega, Lib.hid (by rw [HF.out, show ((k : Int) - 1 + 1).toNat = k by omega]), HB6⟩
    · obtain rfl : n = -1 := by omega
      have HF := Lib.hid (show abv l i = -1 by rw [HN.out]; rfl)
      clear h0
      go_wp2_with fail
      go_ret
      exact ⟨by rw [HF.out]; rfl, HB.out⟩
end Go.Proofs.Ytjnnkelbedmccaa
