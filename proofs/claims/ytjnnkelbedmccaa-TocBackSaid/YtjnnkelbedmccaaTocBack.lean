/- What is proved: TocBack holds of any contents: the way on and back, and up the way down. -/
import Derived.Test.YtjnnkelbedmccaaToo
import Derived.Test.YtjnnkelbedmccaaToq
import Derived.Test.YtjnnkelbedmccaaPost
import Derived.ProofKit
import Derived.OpenShut
import Derived.Deep.DeepHandedRow
namespace Go.Proofs.Ytjnnkelbedmccaa
open Go.ChangeShapes Go.WideShapes Go.ChangeAt Go.RowKit
open Go.ChangeMaps (open_string shut_string)
set_option linter.unusedVariables false
/-- A region that draws its order, in code of which nothing is known but that it goes on. -/
theorem region_just {P : Program} {Q : Exit → Act → World → Prop} {id : Nat} {ops : Array Oper} {a : Act} {w : World} {S : World → Prop} (hm : P.follows .mixedOrders = true)
    (h : wpAnyH P .any ops (Just Q) S ops.size (Array.replicate ops.size false) a w.drew) : (Code.region id ops true).wp P Q a w :=
  (wpIn_wide (n := 0)).1 (wpIn_mono (wpIn_wide.2 (wp_region_any hm (wpAny_of_held _ _ _ _ h))) Just.imp)
/-- Each number of a way is the parent of the next. -/
theorem pth_link {l : List Ent} : ∀ (n : Nat) (i : Int), i < n → -1 ≤ i → ∀ (k : Nat) (hk : k < (pth l i).length), abv l (pth l i)[k] = if h : k = 0 then -1 else ((pth l i)[k - 1]'(by omega) : Int)
  | 0, i, h, h0, k, hk => by obtain rfl : i = -1 := by omega
                             simp [pth_root] at hk
  | n + 1, i, h, h0, k, hk => by
    by_cases e : i = -1
    · subst e; simp [pth_root] at hk
    obtain ⟨q, rfl⟩ : ∃ q : Nat, i = q := ⟨i.toNat, by omega⟩
    have hlt := abv_lt l q
    have ih := pth_link (l := l) n (abv l q) (by omega) (by omega)
    have hst := pth_step l q
    obtain ⟨p, hp⟩ : ∃ p, abv l q = p := ⟨_, rfl⟩
    rw [hp] at hst ih hlt
    have hlen : (pth l (q : Nat)).length = (pth l p).length + 1 := by rw [hst]; simp
    rcases (show k < (pth l p).length ∨ k = (pth l p).length by omega) with h5 | h5
    · have e1 : (pth l (q : Nat))[k] = (pth l p)[k] := by simp only [hst]; rw [List.getElem_append_left h5]
      rw [e1, ih k h5]
      by_cases h6 : k = 0
      · rw [dif_pos h6, dif_pos h6]
      · rw [dif_neg h6, dif_neg h6]
        have e2 : (pth l (q : Nat))[k - 1] = (pth l p)[k - 1]'(by omega) := by simp only [hst]; rw [List.getElem_append_left (by omega)]
        rw [e2]
    · have e1 : (pth l (q : Nat))[k] = q := by simp only [hst, h5]; simp
      rw [e1, hp]
      by_cases h6 : k = 0
      · rw [dif_pos h6]
        by_cases h7 : p = -1
        · exact h7
        · obtain ⟨r, rfl⟩ : ∃ r : Nat, p = r := ⟨p.toNat, by omega⟩
          rw [pth_step] at h5
          simp at h5
          omega
      · rw [dif_neg h6]
        have h7 : p ≠ -1 := by
          rintro rfl
          rw [pth_root] at h5
          exact h6 h5
        obtain ⟨r, rfl⟩ : ∃ r : Nat, p = r := ⟨p.toNat, by omega⟩
        have h8 := pth_step l r
        have h9 : (pth l (r : Nat)).length = (pth l (abv l r)).length + 1 := by rw [h8]; simp
        have e2 : (pth l (q : Nat))[k - 1] = (pth l (r : Nat))[k - 1]'(by omega) := by simp only [hst]; rw [List.getElem_append_left (by omega)]
        rw [e2]
        have e3 : k - 1 = (pth l (abv l r)).length := by omega
        simp only [h8, e3]
        simp
theorem ent_self {l : List Ent} (g : Gd l) (hg : gdE l = 0) {i : Nat} (hi : i < l.length) : entE l (tpN l i) = (((i : Nat) : Int), 0) := by
  unfold entE
  rw [if_neg (by simp [hg]), atF_self g hi, if_neg (by omega)]
theorem next_self {l : List Ent} (g : Gd l) (hg : gdE l = 0) {i : Nat} (hi : i < l.length) : besE l (tpN l i) 1 = if i + 1 < l.length then (tpN l (i + 1), 0) else (0, 3) := by
  unfold besE
  rw [ent_self g hg hi, if_neg (by simp), atF_self g hi]
  by_cases h : i + 1 < l.length
  · rw [if_pos h, if_pos (by omega), show ((i : Int) + 1).toNat = i + 1 by omega]
  · rw [if_neg h, if_neg (by omega)]
theorem prev_self {l : List Ent} (g : Gd l) (hg : gdE l = 0) {i : Nat} (hi : i + 1 < l.length) : besE l (tpN l (i + 1)) (-1) = (tpN l i, 0) := by
  unfold besE
  rw [ent_self g hg hi, if_neg (by simp), atF_self g hi, if_pos (by omega), show (((i + 1 : Nat) : Int) + -1).toNat = i by omega]
theorem up_self {l : List Ent} (g : Gd l) (hg : gdE l = 0) {q : Nat} (hq : q < l.length) : upE l (tpN l q) = if abv l q = -1 then (0, 3) else (tpN l (abv l q).toNat, 0) := by
  unfold upE
  rw [ent_self g hg hq, if_neg (by simp), atF_self g hq, Int.toNat_natCast]
theorem path_self {l : List Ent} (g : Gd l) (hg : gdE l = 0) {i : Nat} (hi : i < l.length) : (if (entE l (tpN l i)).2 = 0 then pathM l (atF l (tpN l i)) else []) = (pth l (i : Nat)).map fun k => tpN l k := by
  rw [ent_self g hg hi, if_pos rfl, atF_self g hi]
  rfl
theorem path_up {l : List Ent} (g : Gd l) (hg : gdE l = 0) {i : Nat} (hi : i < l.length) {k : Nat} (hk : k < ((pth l (i : Nat)).map fun k => tpN l k).length) :
    upE l ((pth l (i : Nat)).map fun k => tpN l k)[k] = if h : k = 0 then (0, 3) else (((pth l (i : Nat)).map fun k => tpN l k)[k - 1]'(by omega), 0) := by
  have hk' : k < (pth l (i : Nat)).length := by simpa using hk
  have h1 := pth_link (l := l) (i + 1) (i : Nat) (by omega) (by omega) k hk'
  have hm := pth_in hi _ (List.getElem_mem hk')
  rw [List.getElem_map, up_self g hg hm, h1]
  by_cases h : k = 0
  · rw [dif_pos h, dif_pos h, if_pos rfl]
  · rw [dif_neg h, dif_neg h, if_neg (by omega), Int.toNat_natCast, List.getElem_map]
theorem path_end {l : List Ent} (g : Gd l) {i : Nat} (hi : i < l.length) : 1 ≤ (pth l (i : Nat)).length ∧ (((pth l (i : Nat)).map fun k => tpN l k).length : Int) = lvN l i ∧ ∀ h : (pth l (i : Nat)).length - 1 < ((pth l (i : Nat)).map fun k => tpN l k).length, ((pth l (i : Nat)).map fun k => tpN l k)[(pth l (i : Nat)).length - 1] = tpN l i := by
  have h1 := pth_len g (i + 1) (i : Nat) (by omega) (by omega) (by omega)
  rw [lvI_nat] at h1
  have h2 := pth_step l i
  refine ⟨by rw [h2]; simp, by rw [List.length_map]; exact h1, fun h => ?_⟩
  rw [List.getElem_map]
  congr 1
  simp [h2]
theorem path_up' {l : List Ent} (g : Gd l) (hg : gdE l = 0) {i : Nat} (hi : i < l.length) {zs : List Int} (hz : (pth l (i : Nat)).map (fun k => tpN l k) = zs) {k : Nat} (hk : k < zs.length) :
    upE l zs[k] = if h : k = 0 then (0, 3) else (zs[k - 1]'(by omega), 0) := by
  subst hz
  exact path_up g hg hi hk
namespace tocBack
set_option maxRecDepth 100000 in
set_option maxHeartbeats 16000000 in
theorem walk (v : Value) (l : List Ent) (W : World) (hs : RdE W v l) (hsz : l.length * 16 ≤ 140737488351232) :
    Calls Try.prog 7 #[v] W fun e W' => e = .returned (.bool true) ∧ Below W.heap.size W W' := by
  have mixed : Try.prog.follows .mixedOrders = true := by kernel_rfl
  obtain ⟨pl, cl, rfl, hcl, hcm⟩ := hs.form
  obtain ⟨n, hn⟩ : ∃ n : Nat, min l.length 150 = n := ⟨_, rfl⟩
  have hmin : min (l.length : Int) 150 = (n : Nat) := by omega
  have hm := hs.take (k := n) (by omega)
  have hml : (l.take n).length = n := by rw [List.length_take]; omega
  obtain ⟨m, hmm⟩ : ∃ m, l.take n = m := ⟨_, rfl⟩
  rw [hmm] at hm hml
  have hn9 : n ≤ 150 := by omega
  have hncl : (n : Int) ≤ cl := by omega
  have HM := Lib.hid hm
  have HML := Lib.hid hml
  have HLN := Lib.hid (show m.length * 16 ≤ 140737488355328 by omega)
  clear hs hsz hcl hcm hn hm hmm hml
  go_enter Try.func7, Try.ntmps7
  go_wp2_with fail
  refine (awake_law _).mono ?_
  rintro e w1 ⟨rfl, hb⟩
  have HB1 := Lib.hid hb
  have HM1 := Lib.hid (HM.out.below hb)
  clear hb
  have HGD := Lib.hid (good_ref m (.slice pl n cl) w1 HM1.out)
  obtain ⟨g, hg⟩ : ∃ g, gdE m = g := ⟨_, rfl⟩
  rw [hg] at HGD
  by_cases h0 : g = 0
  · subst h0
    have HG := Lib.hid (gd_of hg)
    have HGZ := Lib.hid hg
    clear hg
    go_wp2_with fail
    refine HGD.out.mono ?_
    rintro e w2 ⟨rfl, hb⟩
    have HB2 := Lib.hid (HB1.out.trans (hb.mono HB1.out.size))
    have HM2 := Lib.hid (HM1.out.below hb)
    clear hb HGD HM HM1 HB1
    go_wp2_with fail
    go_loopw [3] (fun s wr => ∃ i : Nat, s = .int .i64 (i : Nat) ∧ i ≤ n ∧ Hid (Below w2.heap.size w2 wr)) (fun s _ => n - (intOf s).toNat)
    case atStart => exact ⟨0, rfl, Nat.zero_le _, Lib.hid (Below.refl _ _)⟩
    case round =>
      obtain ⟨i, rfl, hi, HB⟩ := hrel
      by_cases hlt : i < n
      · obtain ⟨wo, rfl⟩ : ∃ wo : World, wo = wr := ⟨_, rfl⟩
        have HMr := Lib.hid (HM2.out.below HB.out)
        have HLT := Lib.hid hlt
        have him : i < m.length := by rw [HML.out]; exact hlt
        have HIM := Lib.hid him
        obtain ⟨b, off, hpa, c0, c1⟩ := HMr.out.cell (j := i) him
        subst hpa
        obtain ⟨x, hx⟩ : ∃ x, tpN m i = x := ⟨_, rfl⟩
        have HX := Lib.hid hx
        rw [hx] at c0
        have HC0 := Lib.hid c0
        have HC1 := Lib.hid c1
        have hi1 : (i : Int) < n := by omega
        have HLd := Lib.hid (show RdE wo.drew (.slice (some ⟨b, off, none⟩) n cl) m from HMr.out.keep (fun _ _ => rfl))
        have hns := next_self HG.out HGZ.out him
        rw [hx, HML.out] at hns
        clear hlt him hx c1
        go_wp2_with fail
        have CQ := Lib.hid (show ∀ (v : Value) (w' : World), RdE w' v m → Calls Try.prog 26 #[v, .int .i64 x] w' (TwoIs (if i + 1 < n then (tpN m (i + 1), 0) else (0, 3)) w') from fun v w' hv => by
          have := next_pro m v x w' hv
          rw [hns] at this
          exact this)
        obtain ⟨⟨a, e0⟩, hae⟩ : ∃ p, (if i + 1 < n then (tpN m (i + 1), (0 : Int)) else (0, 3)) = p := ⟨_, rfl⟩
        rw [hae] at CQ
        have HAE := Lib.hid hae
        clear hns hae
        have hS0 : wo.drew.cell? ⟨b, off + i * 2, none⟩ = some (.int .i64 x) := c0
        refine region_just (S := fun w' => w'.cell? ⟨b, off + i * 2, none⟩ = some (.int .i64 x)) (by kernel_rfl) ?_
        refine wpAnyH_take (i := 0) (v := .slice (some ⟨b, off, none⟩) n cl) rfl (by kernel_rfl) (by kernel_rfl) (by kernel_rfl) (fun _ _ _ h => h) (.inl ⟨by rfl, fun w' hS => by have h1 := hS; go_simp⟩) hS0 ?_
        refine wpAnyH_take (i := 2) (v := .slice (some ⟨b, off, none⟩) n cl) rfl (by kernel_rfl) (by kernel_rfl) (by kernel_rfl) (fun _ _ _ h => h) (.inl ⟨by rfl, fun w' hS => by have h1 := hS; go_simp⟩) hS0 ?_
        refine wpAnyH_take (i := 3) (v := .int .i64 (i : Nat)) rfl (by kernel_rfl) (by kernel_rfl) (by kernel_rfl) (fun _ _ _ h => h) (.inl ⟨by rfl, fun w' hS => by have h1 := hS; go_simp⟩) hS0 ?_
        refine wpAnyH_take (i := 4) (v := .pointer (some ⟨b, off + i * 2, none⟩)) rfl (by kernel_rfl) (by kernel_rfl) (by kernel_rfl) (fun _ _ _ h => h) (.inl ⟨by rfl, fun w' hS => by have h1 := hS; go_simp⟩) hS0 ?_
        refine wpAnyH_take (i := 5) (v := .pointer (some ⟨b, off + i * 2, none⟩)) rfl (by kernel_rfl) (by kernel_rfl) (by kernel_rfl) (fun _ _ _ h => h) (.inl ⟨by rfl, fun w' hS => by have h1 := hS; go_simp⟩) hS0 ?_
        refine wpAnyH_take (i := 6) (v := .int .i64 x) rfl (by kernel_rfl) (by kernel_rfl) (by kernel_rfl) (fun _ _ _ h => h) (.inl ⟨by rfl, fun w' hS => by have h1 := hS; go_simp⟩) hS0 ?_
        refine wpAnyH_all (rs := [1]) (by kernel_rfl) (by simp) ?_
        intro i' hi'
        obtain rfl : i' = 1 := by simpa using hi'
        refine op_via rfl (by rfl) (fun K hK => ?_)
        go_simp
        refine (twin_pro _ _ _ HLd.out HLN.out).mono ?_
        rintro e w5 ⟨v5, rfl, hR5, hb5⟩
        have hS5 := (hb5.cell (p := ⟨b, off + i * 2, none⟩) (cellInL hS0)).trans hS0
        have HR5 := Lib.hid hR5
        have HB5 := Lib.hid hb5
        clear hR5 hb5
        refine hK _ _ ⟨hS5, ?_⟩
        clear hK K
        refine wpAnyH_all (rs := [7]) (by kernel_rfl) (by simp) ?_
        intro i' hi'
        obtain rfl : i' = 7 := by simpa using hi'
        refine op_via rfl (by rfl) (fun K hK => ?_)
        go_simp
        refine (CQ.out _ _ HR5.out).mono ?_
        rintro e w6 ⟨rfl, hb6⟩
        have hS6 := (hb6.cell (p := ⟨b, off + i * 2, none⟩) (cellInL hS5)).trans hS5
        have HB7 := Lib.hid ((Below.refl _ wo).drew.trans (HB5.out.trans (hb6.mono HB5.out.size)))
        clear hb6 HB5 HR5
        refine hK _ _ ⟨hS6, ?_⟩
        clear hK K
        refine wpAnyH_take (i := 8) (v := .tuple #[.int .i64 a, .int .i64 e0]) rfl (by kernel_rfl) (by kernel_rfl) (by kernel_rfl) (fun _ _ _ h => h) (.inl ⟨by rfl, fun w' hS => by have h1 := hS; go_simp⟩) hS6 ?_
        refine wpAnyH_take (i := 9) (v := .int .i64 a) rfl (by kernel_rfl) (by kernel_rfl) (by kernel_rfl) (fun _ _ _ h => h) (.inl ⟨by rfl, fun w' hS => by have h1 := hS; go_simp⟩) hS6 ?_
        refine wpAnyH_take (i := 10) (v := .int .i64 e0) rfl (by kernel_rfl) (by kernel_rfl) (by kernel_rfl) (fun _ _ _ h => h) (.inl ⟨by rfl, fun w' hS => by have h1 := hS; go_simp⟩) hS6 ?_
        refine wpAnyH_take (i := 11) (v := .int .i64 a) rfl (by kernel_rfl) (by kernel_rfl) (by kernel_rfl) (fun _ _ _ h => h) (.inl ⟨by rfl, fun w' hS => by have h1 := hS; go_simp⟩) hS6 ?_
        refine wpAnyH_take (i := 12) (v := .int .i64 e0) rfl (by kernel_rfl) (by kernel_rfl) (by kernel_rfl) (fun _ _ _ h => h) (.inl ⟨by rfl, fun w' hS => by have h1 := hS; go_simp⟩) hS6 ?_
        refine wpAnyH_done (by kernel_rfl) ?_ _
        simp only [Just]
        clear hS0 hS5 hS6
        have HB6 := Lib.hid (HB.out.trans (HB7.out.mono HB.out.size))
        have HM6 := Lib.hid (HMr.out.below HB7.out)
        have c6 := (HB7.out.cell (p := ⟨b, off + i * 2, none⟩) (cellInL HC0.out)).trans HC0.out
        clear HB7 HLd CQ c0
        by_cases hin : i + 1 < n
        · have hae := HAE.out
          rw [if_pos hin] at hae
          cases hae
          obtain ⟨j, hj⟩ : ∃ j, i + 1 = j := ⟨_, rfl⟩
          have hjm : i + 1 < m.length := by rw [HML.out]; exact hin
          have HPR := Lib.hid (show ∀ (v : Value) (w' : World), RdE w' v m → Calls Try.prog 28 #[v, .int .i64 (tpN m (i + 1))] w' (TwoIs (x, 0) w') from fun v w' hv => by
            have := prev_pro m v (tpN m (i + 1)) w' hv
            rw [prev_self HG.out HGZ.out hjm, HX.out] at this
            exact this)
          obtain ⟨bj, oj, ej, cj, _⟩ := HM6.out.cell (j := i + 1) hjm
          cases ej
          rw [hj] at cj HPR hin ⊢
          obtain ⟨a, ha⟩ : ∃ a, tpN m j = a := ⟨_, rfl⟩
          rw [ha] at cj HPR ⊢
          have q1 : (i : Int) + 1 = j := by omega
          have q2 : wrap64 ((i : Int) + 1) = j := by rw [q1]; exact IntWalk.wrap64_in _ (by omega)
          have q3 : (j : Int) < n := by omega
          have q4 : (a != a) = false := by simp
          have q5 : (x != x) = false := by simp
          have HC6 := Lib.hid c6
          clear hjm ha hj hin c6
          go_wp2_with fail
          refine (twin_pro _ _ _ HM6.out HLN.out).mono ?_
          rintro e w7 ⟨v7, rfl, hR7, hb7⟩
          have HQ7 := Lib.hid (HPR.out _ _ hR7)
          have HB7 := Lib.hid hb7
          clear hR7 hb7 HPR cj
          go_wp2_with fail
          refine HQ7.out.mono ?_
          rintro e w8 ⟨rfl, hb8⟩
          have hb9 := HB7.out.trans (hb8.mono HB7.out.size)
          have HM8 := Lib.hid (HM6.out.below hb9)
          have HB8 := Lib.hid (HB6.out.trans (hb9.mono HB6.out.size))
          have c8 := (hb9.cell (p := ⟨b, off + i * 2, none⟩) (cellInL HC6.out)).trans HC6.out
          clear hb8 hb9 HQ7 HB7 HC6 q1 q2
          go_wp2_with fail
          clear c8
          have HMp := Lib.hid (HM8.out)
          have HBp := Lib.hid (HB8.out)
          obtain ⟨wp, rfl⟩ : ∃ wp : World, wp = w8 := ⟨_, rfl⟩
          obtain ⟨b9, o9, e9, d0, d1⟩ := HMp.out.cell (j := i) HIM.out
          cases e9
          rw [HX.out] at d0
          have hpe := path_end HG.out HIM.out
          have hps := path_self HG.out HGZ.out HIM.out
          rw [HX.out] at hps hpe
          obtain ⟨zs, hzs⟩ : ∃ zs, (pth m (i : Nat)).map (fun k => tpN m k) = zs := ⟨_, rfl⟩
          have HPU := Lib.hid (fun k hk => path_up' HG.out HGZ.out HIM.out hzs (k := k) hk)
          have hzl : zs.length = (pth m (i : Nat)).length := by rw [← hzs, List.length_map]
          rw [hzs] at hpe hps
          rw [← hpe.2.1] at d1
          have CP := Lib.hid (show ∀ (v : Value) (w' : World), RdE w' v m → Calls Try.prog 32 #[v, .int .i64 x] w' (NewZ zs 0 w') from fun v w' hv => by
            have := path_pro m v x w' hv
            rw [hps] at this
            have he : (entE m x).2 = 0 := by have h9 := ent_self HG.out HGZ.out HIM.out; rw [HX.out] at h9; rw [h9]
            rw [he] at this
            exact this)
          obtain ⟨nz, hnz⟩ : ∃ nz, zs.length = nz := ⟨_, rfl⟩
          have HNZ := Lib.hid hnz
          rw [hnz] at d1 hzl
          obtain ⟨r, hr⟩ : ∃ r, nz = r + 1 := ⟨nz - 1, by omega⟩
          have HLAST := Lib.hid (show ∀ h : r < zs.length, zs[r] = x from fun h => by
            have h9 := hpe.2.2 (by omega)
            simp only [show (pth m (i : Nat)).length - 1 = r by omega] at h9
            exact h9)
          have hz8 : nz ≤ 8 := by have := way_len HG.out HIM.out; omega
          have HR9 := Lib.hid hr
          have HLd := Lib.hid (show RdE wp.drew (.slice (some ⟨b, off, none⟩) n cl) m from HMp.out.keep (fun _ _ => rfl))
          have HD1 := Lib.hid d1
          have HD0 := Lib.hid d0
          clear d1 hpe hps hzs hzl hnz hr
          go_wp2_with fail
          have hS0 : wp.drew.cell? ⟨b, off + i * 2, none⟩ = some (.int .i64 x) := d0
          refine region_just (S := fun w' => w'.cell? ⟨b, off + i * 2, none⟩ = some (.int .i64 x)) (by kernel_rfl) ?_
          refine wpAnyH_take (i := 0) (v := .slice (some ⟨b, off, none⟩) n cl) rfl (by kernel_rfl) (by kernel_rfl) (by kernel_rfl) (fun _ _ _ h => h) (.inl ⟨by rfl, fun w' hS => by have h1 := hS; go_simp⟩) hS0 ?_
          refine wpAnyH_take (i := 2) (v := .slice (some ⟨b, off, none⟩) n cl) rfl (by kernel_rfl) (by kernel_rfl) (by kernel_rfl) (fun _ _ _ h => h) (.inl ⟨by rfl, fun w' hS => by have h1 := hS; go_simp⟩) hS0 ?_
          refine wpAnyH_take (i := 3) (v := .int .i64 (i : Nat)) rfl (by kernel_rfl) (by kernel_rfl) (by kernel_rfl) (fun _ _ _ h => h) (.inl ⟨by rfl, fun w' hS => by have h1 := hS; go_simp⟩) hS0 ?_
          refine wpAnyH_take (i := 4) (v := .pointer (some ⟨b, off + i * 2, none⟩)) rfl (by kernel_rfl) (by kernel_rfl) (by kernel_rfl) (fun _ _ _ h => h) (.inl ⟨by rfl, fun w' hS => by have h1 := hS; go_simp⟩) hS0 ?_
          refine wpAnyH_take (i := 5) (v := .pointer (some ⟨b, off + i * 2, none⟩)) rfl (by kernel_rfl) (by kernel_rfl) (by kernel_rfl) (fun _ _ _ h => h) (.inl ⟨by rfl, fun w' hS => by have h1 := hS; go_simp⟩) hS0 ?_
          refine wpAnyH_take (i := 6) (v := .int .i64 x) rfl (by kernel_rfl) (by kernel_rfl) (by kernel_rfl) (fun _ _ _ h => h) (.inl ⟨by rfl, fun w' hS => by have h1 := hS; go_simp⟩) hS0 ?_
          refine wpAnyH_all (rs := [1]) (by kernel_rfl) (by simp) ?_
          intro i' hi'
          obtain rfl : i' = 1 := by simpa using hi'
          refine op_via rfl (by rfl) (fun K hK => ?_)
          go_simp
          refine (twin_pro _ _ _ HLd.out HLN.out).mono ?_
          rintro e w5 ⟨v5, rfl, hR5, hb5⟩
          have hS5 := (hb5.cell (p := ⟨b, off + i * 2, none⟩) (cellInL hS0)).trans hS0
          have HR5 := Lib.hid hR5
          have HB5 := Lib.hid hb5
          clear hR5 hb5
          refine hK _ _ ⟨hS5, ?_⟩
          clear hK K
          refine wpAnyH_all (rs := [7]) (by kernel_rfl) (by simp) ?_
          intro i' hi'
          obtain rfl : i' = 7 := by simpa using hi'
          refine op_via rfl (by rfl) (fun K hK => ?_)
          go_simp
          refine (CP.out _ _ HR5.out).mono ?_
          rintro e w6 ⟨vp, rfl, ho6, hb6⟩
          have HZ6 := Lib.hid (RdZ.own ho6 rfl)
          clear ho6
          have hS6 := (hb6.cell (p := ⟨b, off + i * 2, none⟩) (cellInL hS5)).trans hS5
          have HB7 := Lib.hid ((Below.refl _ wp).drew.trans (HB5.out.trans (hb6.mono HB5.out.size)))
          clear hb6 HB5 HR5
          refine hK _ _ ⟨hS6, ?_⟩
          clear hK K
          refine wpAnyH_take (i := 8) (v := .tuple #[vp, .int .i64 0]) rfl (by kernel_rfl) (by kernel_rfl) (by kernel_rfl) (fun _ _ _ h => h) (.inl ⟨by rfl, fun w' hS => by have h1 := hS; go_simp⟩) hS6 ?_
          refine wpAnyH_take (i := 9) (v := vp) rfl (by kernel_rfl) (by kernel_rfl) (by kernel_rfl) (fun _ _ _ h => h) (.inl ⟨by rfl, fun w' hS => by have h1 := hS; go_simp⟩) hS6 ?_
          refine wpAnyH_take (i := 10) (v := .int .i64 0) rfl (by kernel_rfl) (by kernel_rfl) (by kernel_rfl) (fun _ _ _ h => h) (.inl ⟨by rfl, fun w' hS => by have h1 := hS; go_simp⟩) hS6 ?_
          refine wpAnyH_take (i := 11) (v := vp) rfl (by kernel_rfl) (by kernel_rfl) (by kernel_rfl) (fun _ _ _ h => h) (.inl ⟨by rfl, fun w' hS => by have h1 := hS; go_simp⟩) hS6 ?_
          refine wpAnyH_take (i := 12) (v := .int .i64 0) rfl (by kernel_rfl) (by kernel_rfl) (by kernel_rfl) (fun _ _ _ h => h) (.inl ⟨by rfl, fun w' hS => by have h1 := hS; go_simp⟩) hS6 ?_
          refine wpAnyH_done (by kernel_rfl) ?_ _
          simp only [Just]
          clear hS0 hS5 hS6
          have HB8 := Lib.hid (HBp.out.trans (HB7.out.mono HBp.out.size))
          have k0 := cell_regrown ((HB7.out.cell (p := ⟨b, off + i * 2, none⟩) (cellInL HD0.out)).trans HD0.out)
          have k1 := cell_regrown ((HB7.out.cell (p := ⟨b, off + i * 2 + 1, none⟩) (cellInL HD1.out)).trans HD1.out)
          obtain ⟨pz, cz, rfl, _, _⟩ := HZ6.out.form
          obtain ⟨bz, oz, hpz, cz2⟩ := HZ6.out.cell (j := r) (by have := HNZ.out; have := HR9.out; omega)
          subst hpz
          rw [HLAST.out (by have := HNZ.out; have := HR9.out; omega)] at cz2
          have k2 := cell_regrown cz2
          rw [HNZ.out] at HZ6 ⊢
          have q1 : (nz : Int) - 1 = r := by have := HR9.out; omega
          have q2 : IntKind.i64.wrap ((nz : Int) - 1) = r := by rw [q1]; exact IntWalk.i64_in _ (by have := HR9.out; omega)
          have q3 : (r : Int) < nz := by have := HR9.out; omega
          have q7 : IntKind.i64.wrap (r : Int) = r := IntWalk.i64_in _ (by have := HR9.out; omega)
          have q4 : ((nz : Int) != (nz : Int)) = false := by simp
          have q5 : (x != x) = false := by simp
          clear d0 HB7 HLd CP cz2
          go_wp2_with fail
          refine wp_region_quiet_below mixed (by kernel_rfl) ?_
          repeat (quiet_step (fail))
          refine wpQuiet_nil ?_
          intro _ hw'
          obtain ⟨⟨dq, osq⟩, hw''⟩ := hw'
          subst hw''
          have hWq := below_regrown w6 dq osq
          obtain ⟨Wq, hWe⟩ : ∃ Wq, Sort.grow (redrawn w6 dq) osq = Wq := ⟨_, rfl⟩
          rw [hWe] at hWq ⊢
          have HZq := Lib.hid (HZ6.out.below hWq)
          have HBq := Lib.hid (HB8.out.trans (hWq.mono HB8.out.size))
          clear k0 k1 k2 q1 q2 q7 hWe hWq HZ6 HB8
          have HMq := Lib.hid (HM2.out.below HBq.out)
          go_wp2_with fail
          go_loopw [9] (fun s wr => ∃ k : Nat, s = .int .i64 (k : Nat) ∧ k ≤ nz ∧ Hid (Below Wq.heap.size Wq wr)) (fun s _ => nz - (intOf s).toNat)
          case atStart => exact ⟨0, rfl, Nat.zero_le _, Lib.hid (Below.refl _ _)⟩
          case round =>
            obtain ⟨k, rfl, hk, HBk⟩ := hrel
            by_cases hlk : k < nz
            · obtain ⟨wk, rfl⟩ : ∃ wk : World, wk = wr := ⟨_, rfl⟩
              have hkz : k < zs.length := by rw [HNZ.out]; exact hlk
              have HZk := Lib.hid (HZq.out.below HBk.out)
              obtain ⟨by_, oy, ey, cy⟩ := HZk.out.cell' (n := nz) HNZ.out.symm hkz
              cases ey
              have hup := HPU.out k hkz
              obtain ⟨y, hy⟩ : ∃ y, zs[k] = y := ⟨_, rfl⟩
              rw [hy] at cy hup
              have HLK := Lib.hid hlk
              have hk1 : (k : Int) < nz := by omega
              have HMk := Lib.hid (HMq.out.below HBk.out)
              have HLd := Lib.hid (show RdE wk.drew (.slice (some ⟨b, off, none⟩) n cl) m from HMk.out.keep (fun _ _ => rfl))
              by_cases hk0 : k = 0
              · subst hk0
                rw [dif_pos rfl] at hup
                have CU := Lib.hid (show ∀ (v : Value) (w' : World), RdE w' v m → Calls Try.prog 30 #[v, .int .i64 y] w' (TwoIs (0, 3) w') from fun v w' hv => by
                  have := up_pro m v y w' hv
                  rw [hup] at this
                  exact this)
                clear hup hy hlk hkz
                go_wp2_with fail
                have hS0 : wk.drew.cell? ⟨bz, oz, none⟩ = some (.int .i64 y) := cy
                refine region_just (S := fun w' => w'.cell? ⟨bz, oz, none⟩ = some (.int .i64 y)) (by kernel_rfl) ?_
                refine wpAnyH_take (i := 0) (v := .slice (some ⟨b, off, none⟩) n cl) rfl (by kernel_rfl) (by kernel_rfl) (by kernel_rfl) (fun _ _ _ h => h) (.inl ⟨by rfl, fun w' hS => by have h1 := hS; go_simp⟩) hS0 ?_
                refine wpAnyH_take (i := 2) (v := .slice (some ⟨bz, oz, none⟩) nz cz) rfl (by kernel_rfl) (by kernel_rfl) (by kernel_rfl) (fun _ _ _ h => h) (.inl ⟨by rfl, fun w' hS => by have h1 := hS; go_simp⟩) hS0 ?_
                refine wpAnyH_take (i := 3) (v := .int .i64 (0 : Nat)) rfl (by kernel_rfl) (by kernel_rfl) (by kernel_rfl) (fun _ _ _ h => h) (.inl ⟨by rfl, fun w' hS => by have h1 := hS; go_simp⟩) hS0 ?_
                refine wpAnyH_take (i := 4) (v := .pointer (some ⟨bz, oz, none⟩)) rfl (by kernel_rfl) (by kernel_rfl) (by kernel_rfl) (fun _ _ _ h => h) (.inl ⟨by rfl, fun w' hS => by have h1 := hS; go_simp⟩) hS0 ?_
                refine wpAnyH_take (i := 5) (v := .int .i64 y) rfl (by kernel_rfl) (by kernel_rfl) (by kernel_rfl) (fun _ _ _ h => h) (.inl ⟨by rfl, fun w' hS => by have h1 := hS; go_simp⟩) hS0 ?_
                refine wpAnyH_all (rs := [1]) (by kernel_rfl) (by simp) ?_
                intro i' hi'
                obtain rfl : i' = 1 := by simpa using hi'
                refine op_via rfl (by rfl) (fun K hK => ?_)
                go_simp
                refine (twin_pro _ _ _ HLd.out HLN.out).mono ?_
                rintro e w5 ⟨v5, rfl, hR5, hb5⟩
                have hS5 := (hb5.cell (p := ⟨bz, oz, none⟩) (cellInL hS0)).trans hS0
                have HR5 := Lib.hid hR5
                have HB5 := Lib.hid hb5
                clear hR5 hb5
                refine hK _ _ ⟨hS5, ?_⟩
                clear hK K
                refine wpAnyH_all (rs := [6]) (by kernel_rfl) (by simp) ?_
                intro i' hi'
                obtain rfl : i' = 6 := by simpa using hi'
                refine op_via rfl (by rfl) (fun K hK => ?_)
                go_simp
                refine (CU.out _ _ HR5.out).mono ?_
                rintro e w6 ⟨rfl, hb6⟩
                have hS6 := (hb6.cell (p := ⟨bz, oz, none⟩) (cellInL hS5)).trans hS5
                have HB7 := Lib.hid ((Below.refl _ wk).drew.trans (HB5.out.trans (hb6.mono HB5.out.size)))
                clear hb6 HB5 HR5
                refine hK _ _ ⟨hS6, ?_⟩
                clear hK K
                refine wpAnyH_take (i := 7) (v := .tuple #[.int .i64 0, .int .i64 3]) rfl (by kernel_rfl) (by kernel_rfl) (by kernel_rfl) (fun _ _ _ h => h) (.inl ⟨by rfl, fun w' hS => by have h1 := hS; go_simp⟩) hS6 ?_
                refine wpAnyH_take (i := 8) (v := .int .i64 0) rfl (by kernel_rfl) (by kernel_rfl) (by kernel_rfl) (fun _ _ _ h => h) (.inl ⟨by rfl, fun w' hS => by have h1 := hS; go_simp⟩) hS6 ?_
                refine wpAnyH_take (i := 9) (v := .int .i64 3) rfl (by kernel_rfl) (by kernel_rfl) (by kernel_rfl) (fun _ _ _ h => h) (.inl ⟨by rfl, fun w' hS => by have h1 := hS; go_simp⟩) hS6 ?_
                refine wpAnyH_take (i := 10) (v := .int .i64 0) rfl (by kernel_rfl) (by kernel_rfl) (by kernel_rfl) (fun _ _ _ h => h) (.inl ⟨by rfl, fun w' hS => by have h1 := hS; go_simp⟩) hS6 ?_
                refine wpAnyH_take (i := 11) (v := .int .i64 3) rfl (by kernel_rfl) (by kernel_rfl) (by kernel_rfl) (fun _ _ _ h => h) (.inl ⟨by rfl, fun w' hS => by have h1 := hS; go_simp⟩) hS6 ?_
                refine wpAnyH_done (by kernel_rfl) ?_ _
                simp only [Just]
                clear hS0 hS5 hS6
                have HBn := Lib.hid (HBk.out.trans (HB7.out.mono HBk.out.size))
                clear HB7 HLd CU cy
                go_wp2_with fail
                go_roundw
                case measure => have := HLK.out; first | (simp [intOf]; done) | (simp [intOf]; omega)
                case rel => exact ⟨0 + 1, by go_num, by have := HLK.out; omega, HBn⟩
              · rw [dif_neg hk0] at hup
                obtain ⟨j, rfl⟩ : ∃ j, k = j + 1 := ⟨k - 1, by omega⟩
                simp only [Nat.add_sub_cancel] at hup
                obtain ⟨bj, oj, ej, cj⟩ := HZk.out.cell' (n := nz) HNZ.out.symm (j := j) (by omega)
                cases ej
                obtain ⟨u, hu⟩ : ∃ u, zs[j]'(by omega) = u := ⟨_, rfl⟩
                rw [hu] at cj hup
                have HCJ := Lib.hid cj
                have CU := Lib.hid (show ∀ (v : Value) (w' : World), RdE w' v m → Calls Try.prog 30 #[v, .int .i64 y] w' (TwoIs (u, 0) w') from fun v w' hv => by
                  have := up_pro m v y w' hv
                  rw [hup] at this
                  exact this)
                obtain ⟨k, hkk⟩ : ∃ k, j + 1 = k := ⟨_, rfl⟩
                rw [hkk] at cy hk1 HLK ⊢
                have q1 : (k : Int) - 1 = j := by omega
                have q2 : wrap64 ((k : Int) - 1) = j := by rw [q1]; exact IntWalk.wrap64_in _ (by omega)
                have q3 : (j : Int) < nz := by omega
                have q4 : (u != u) = false := by simp
                have q5 : (0 : Int) < k := by omega
                have q6 : ((k : Int) == 0) = false := by simp; omega
                clear hup hy hlk hkz hu cj hk hk0 hkk
                go_wp2_with fail
                have hS0 : wk.drew.cell? ⟨bz, oz + k, none⟩ = some (.int .i64 y) := cy
                refine region_just (S := fun w' => w'.cell? ⟨bz, oz + k, none⟩ = some (.int .i64 y)) (by kernel_rfl) ?_
                refine wpAnyH_take (i := 0) (v := .slice (some ⟨b, off, none⟩) n cl) rfl (by kernel_rfl) (by kernel_rfl) (by kernel_rfl) (fun _ _ _ h => h) (.inl ⟨by rfl, fun w' hS => by have h1 := hS; go_simp⟩) hS0 ?_
                refine wpAnyH_take (i := 2) (v := .slice (some ⟨bz, oz, none⟩) nz cz) rfl (by kernel_rfl) (by kernel_rfl) (by kernel_rfl) (fun _ _ _ h => h) (.inl ⟨by rfl, fun w' hS => by have h1 := hS; go_simp⟩) hS0 ?_
                refine wpAnyH_take (i := 3) (v := .int .i64 (k : Nat)) rfl (by kernel_rfl) (by kernel_rfl) (by kernel_rfl) (fun _ _ _ h => h) (.inl ⟨by rfl, fun w' hS => by have h1 := hS; go_simp⟩) hS0 ?_
                refine wpAnyH_take (i := 4) (v := .pointer (some ⟨bz, oz + k, none⟩)) rfl (by kernel_rfl) (by kernel_rfl) (by kernel_rfl) (fun _ _ _ h => h) (.inl ⟨by rfl, fun w' hS => by have h1 := hS; go_simp⟩) hS0 ?_
                refine wpAnyH_take (i := 5) (v := .int .i64 y) rfl (by kernel_rfl) (by kernel_rfl) (by kernel_rfl) (fun _ _ _ h => h) (.inl ⟨by rfl, fun w' hS => by have h1 := hS; go_simp⟩) hS0 ?_
                refine wpAnyH_all (rs := [1]) (by kernel_rfl) (by simp) ?_
                intro i' hi'
                obtain rfl : i' = 1 := by simpa using hi'
                refine op_via rfl (by rfl) (fun K hK => ?_)
                go_simp
                refine (twin_pro _ _ _ HLd.out HLN.out).mono ?_
                rintro e w5 ⟨v5, rfl, hR5, hb5⟩
                have hS5 := (hb5.cell (p := ⟨bz, oz + k, none⟩) (cellInL hS0)).trans hS0
                have HR5 := Lib.hid hR5
                have HB5 := Lib.hid hb5
                clear hR5 hb5
                refine hK _ _ ⟨hS5, ?_⟩
                clear hK K
                refine wpAnyH_all (rs := [6]) (by kernel_rfl) (by simp) ?_
                intro i' hi'
                obtain rfl : i' = 6 := by simpa using hi'
                refine op_via rfl (by rfl) (fun K hK => ?_)
                go_simp
                refine (CU.out _ _ HR5.out).mono ?_
                rintro e w6 ⟨rfl, hb6⟩
                have hS6 := (hb6.cell (p := ⟨bz, oz + k, none⟩) (cellInL hS5)).trans hS5
                have HB7 := Lib.hid ((Below.refl _ wk).drew.trans (HB5.out.trans (hb6.mono HB5.out.size)))
                clear hb6 HB5 HR5
                refine hK _ _ ⟨hS6, ?_⟩
                clear hK K
                refine wpAnyH_take (i := 7) (v := .tuple #[.int .i64 u, .int .i64 0]) rfl (by kernel_rfl) (by kernel_rfl) (by kernel_rfl) (fun _ _ _ h => h) (.inl ⟨by rfl, fun w' hS => by have h1 := hS; go_simp⟩) hS6 ?_
                refine wpAnyH_take (i := 8) (v := .int .i64 u) rfl (by kernel_rfl) (by kernel_rfl) (by kernel_rfl) (fun _ _ _ h => h) (.inl ⟨by rfl, fun w' hS => by have h1 := hS; go_simp⟩) hS6 ?_
                refine wpAnyH_take (i := 9) (v := .int .i64 0) rfl (by kernel_rfl) (by kernel_rfl) (by kernel_rfl) (fun _ _ _ h => h) (.inl ⟨by rfl, fun w' hS => by have h1 := hS; go_simp⟩) hS6 ?_
                refine wpAnyH_take (i := 10) (v := .int .i64 u) rfl (by kernel_rfl) (by kernel_rfl) (by kernel_rfl) (fun _ _ _ h => h) (.inl ⟨by rfl, fun w' hS => by have h1 := hS; go_simp⟩) hS6 ?_
                refine wpAnyH_take (i := 11) (v := .int .i64 0) rfl (by kernel_rfl) (by kernel_rfl) (by kernel_rfl) (fun _ _ _ h => h) (.inl ⟨by rfl, fun w' hS => by have h1 := hS; go_simp⟩) hS6 ?_
                refine wpAnyH_done (by kernel_rfl) ?_ _
                simp only [Just]
                clear hS0 hS5 hS6
                have cj := (HB7.out.cell (p := ⟨bz, oz + j, none⟩) (cellInL HCJ.out)).trans HCJ.out
                have HBn := Lib.hid (HBk.out.trans (HB7.out.mono HBk.out.size))
                clear HB7 HLd CU cy HCJ
                go_wp2_with fail
                go_roundw
                case measure => have := HLK.out; first | (simp [intOf]; done) | (simp [intOf]; omega)
                case rel => exact ⟨k + 1, by go_num, by have := HLK.out; omega, HBn⟩
            · obtain rfl : k = nz := by omega
              have hlz : ¬ ((k : Int) < k) := by omega
              have HBn := Lib.hid (HBq.out.trans (HBk.out.mono HBq.out.size))
              clear hlk hk
              go_wp2_with fail
              go_roundw
              case measure => have := HLT.out; first | (simp [intOf]; done) | (simp [intOf]; omega)
              case rel => exact ⟨i + 1, by go_num, by have := HLT.out; omega, HBn⟩
        · have hae := HAE.out
          rw [if_neg hin] at hae
          cases hae
          have q1 : ¬ (i : Int) + 1 < n := by omega
          have hi9 : i ≤ 1000 := by omega
          clear hin c6
          go_wp2_with fail
          have HMp := Lib.hid (HM6.out)
          have HBp := Lib.hid (HB6.out)
          obtain ⟨wp, rfl⟩ : ∃ wp : World, wp = w6 := ⟨_, rfl⟩
          obtain ⟨b9, o9, e9, d0, d1⟩ := HMp.out.cell (j := i) HIM.out
          cases e9
          rw [HX.out] at d0
          have hpe := path_end HG.out HIM.out
          have hps := path_self HG.out HGZ.out HIM.out
          rw [HX.out] at hps hpe
          obtain ⟨zs, hzs⟩ : ∃ zs, (pth m (i : Nat)).map (fun k => tpN m k) = zs := ⟨_, rfl⟩
          have HPU := Lib.hid (fun k hk => path_up' HG.out HGZ.out HIM.out hzs (k := k) hk)
          have hzl : zs.length = (pth m (i : Nat)).length := by rw [← hzs, List.length_map]
          rw [hzs] at hpe hps
          rw [← hpe.2.1] at d1
          have CP := Lib.hid (show ∀ (v : Value) (w' : World), RdE w' v m → Calls Try.prog 32 #[v, .int .i64 x] w' (NewZ zs 0 w') from fun v w' hv => by
            have := path_pro m v x w' hv
            rw [hps] at this
            have he : (entE m x).2 = 0 := by have h9 := ent_self HG.out HGZ.out HIM.out; rw [HX.out] at h9; rw [h9]
            rw [he] at this
            exact this)
          obtain ⟨nz, hnz⟩ : ∃ nz, zs.length = nz := ⟨_, rfl⟩
          have HNZ := Lib.hid hnz
          rw [hnz] at d1 hzl
          obtain ⟨r, hr⟩ : ∃ r, nz = r + 1 := ⟨nz - 1, by omega⟩
          have HLAST := Lib.hid (show ∀ h : r < zs.length, zs[r] = x from fun h => by
            have h9 := hpe.2.2 (by omega)
            simp only [show (pth m (i : Nat)).length - 1 = r by omega] at h9
            exact h9)
          have hz8 : nz ≤ 8 := by have := way_len HG.out HIM.out; omega
          have HR9 := Lib.hid hr
          have HLd := Lib.hid (show RdE wp.drew (.slice (some ⟨b, off, none⟩) n cl) m from HMp.out.keep (fun _ _ => rfl))
          have HD1 := Lib.hid d1
          have HD0 := Lib.hid d0
          clear d1 hpe hps hzs hzl hnz hr
          go_wp2_with fail
          have hS0 : wp.drew.cell? ⟨b, off + i * 2, none⟩ = some (.int .i64 x) := d0
          refine region_just (S := fun w' => w'.cell? ⟨b, off + i * 2, none⟩ = some (.int .i64 x)) (by kernel_rfl) ?_
          refine wpAnyH_take (i := 0) (v := .slice (some ⟨b, off, none⟩) n cl) rfl (by kernel_rfl) (by kernel_rfl) (by kernel_rfl) (fun _ _ _ h => h) (.inl ⟨by rfl, fun w' hS => by have h1 := hS; go_simp⟩) hS0 ?_
          refine wpAnyH_take (i := 2) (v := .slice (some ⟨b, off, none⟩) n cl) rfl (by kernel_rfl) (by kernel_rfl) (by kernel_rfl) (fun _ _ _ h => h) (.inl ⟨by rfl, fun w' hS => by have h1 := hS; go_simp⟩) hS0 ?_
          refine wpAnyH_take (i := 3) (v := .int .i64 (i : Nat)) rfl (by kernel_rfl) (by kernel_rfl) (by kernel_rfl) (fun _ _ _ h => h) (.inl ⟨by rfl, fun w' hS => by have h1 := hS; go_simp⟩) hS0 ?_
          refine wpAnyH_take (i := 4) (v := .pointer (some ⟨b, off + i * 2, none⟩)) rfl (by kernel_rfl) (by kernel_rfl) (by kernel_rfl) (fun _ _ _ h => h) (.inl ⟨by rfl, fun w' hS => by have h1 := hS; go_simp⟩) hS0 ?_
          refine wpAnyH_take (i := 5) (v := .pointer (some ⟨b, off + i * 2, none⟩)) rfl (by kernel_rfl) (by kernel_rfl) (by kernel_rfl) (fun _ _ _ h => h) (.inl ⟨by rfl, fun w' hS => by have h1 := hS; go_simp⟩) hS0 ?_
          refine wpAnyH_take (i := 6) (v := .int .i64 x) rfl (by kernel_rfl) (by kernel_rfl) (by kernel_rfl) (fun _ _ _ h => h) (.inl ⟨by rfl, fun w' hS => by have h1 := hS; go_simp⟩) hS0 ?_
          refine wpAnyH_all (rs := [1]) (by kernel_rfl) (by simp) ?_
          intro i' hi'
          obtain rfl : i' = 1 := by simpa using hi'
          refine op_via rfl (by rfl) (fun K hK => ?_)
          go_simp
          refine (twin_pro _ _ _ HLd.out HLN.out).mono ?_
          rintro e w5 ⟨v5, rfl, hR5, hb5⟩
          have hS5 := (hb5.cell (p := ⟨b, off + i * 2, none⟩) (cellInL hS0)).trans hS0
          have HR5 := Lib.hid hR5
          have HB5 := Lib.hid hb5
          clear hR5 hb5
          refine hK _ _ ⟨hS5, ?_⟩
          clear hK K
          refine wpAnyH_all (rs := [7]) (by kernel_rfl) (by simp) ?_
          intro i' hi'
          obtain rfl : i' = 7 := by simpa using hi'
          refine op_via rfl (by rfl) (fun K hK => ?_)
          go_simp
          refine (CP.out _ _ HR5.out).mono ?_
          rintro e w6 ⟨vp, rfl, ho6, hb6⟩
          have HZ6 := Lib.hid (RdZ.own ho6 rfl)
          clear ho6
          have hS6 := (hb6.cell (p := ⟨b, off + i * 2, none⟩) (cellInL hS5)).trans hS5
          have HB7 := Lib.hid ((Below.refl _ wp).drew.trans (HB5.out.trans (hb6.mono HB5.out.size)))
          clear hb6 HB5 HR5
          refine hK _ _ ⟨hS6, ?_⟩
          clear hK K
          refine wpAnyH_take (i := 8) (v := .tuple #[vp, .int .i64 0]) rfl (by kernel_rfl) (by kernel_rfl) (by kernel_rfl) (fun _ _ _ h => h) (.inl ⟨by rfl, fun w' hS => by have h1 := hS; go_simp⟩) hS6 ?_
          refine wpAnyH_take (i := 9) (v := vp) rfl (by kernel_rfl) (by kernel_rfl) (by kernel_rfl) (fun _ _ _ h => h) (.inl ⟨by rfl, fun w' hS => by have h1 := hS; go_simp⟩) hS6 ?_
          refine wpAnyH_take (i := 10) (v := .int .i64 0) rfl (by kernel_rfl) (by kernel_rfl) (by kernel_rfl) (fun _ _ _ h => h) (.inl ⟨by rfl, fun w' hS => by have h1 := hS; go_simp⟩) hS6 ?_
          refine wpAnyH_take (i := 11) (v := vp) rfl (by kernel_rfl) (by kernel_rfl) (by kernel_rfl) (fun _ _ _ h => h) (.inl ⟨by rfl, fun w' hS => by have h1 := hS; go_simp⟩) hS6 ?_
          refine wpAnyH_take (i := 12) (v := .int .i64 0) rfl (by kernel_rfl) (by kernel_rfl) (by kernel_rfl) (fun _ _ _ h => h) (.inl ⟨by rfl, fun w' hS => by have h1 := hS; go_simp⟩) hS6 ?_
          refine wpAnyH_done (by kernel_rfl) ?_ _
          simp only [Just]
          clear hS0 hS5 hS6
          have HB8 := Lib.hid (HBp.out.trans (HB7.out.mono HBp.out.size))
          have k0 := cell_regrown ((HB7.out.cell (p := ⟨b, off + i * 2, none⟩) (cellInL HD0.out)).trans HD0.out)
          have k1 := cell_regrown ((HB7.out.cell (p := ⟨b, off + i * 2 + 1, none⟩) (cellInL HD1.out)).trans HD1.out)
          obtain ⟨pz, cz, rfl, _, _⟩ := HZ6.out.form
          obtain ⟨bz, oz, hpz, cz2⟩ := HZ6.out.cell (j := r) (by have := HNZ.out; have := HR9.out; omega)
          subst hpz
          rw [HLAST.out (by have := HNZ.out; have := HR9.out; omega)] at cz2
          have k2 := cell_regrown cz2
          rw [HNZ.out] at HZ6 ⊢
          have q1 : (nz : Int) - 1 = r := by have := HR9.out; omega
          have q2 : IntKind.i64.wrap ((nz : Int) - 1) = r := by rw [q1]; exact IntWalk.i64_in _ (by have := HR9.out; omega)
          have q3 : (r : Int) < nz := by have := HR9.out; omega
          have q7 : IntKind.i64.wrap (r : Int) = r := IntWalk.i64_in _ (by have := HR9.out; omega)
          have q4 : ((nz : Int) != (nz : Int)) = false := by simp
          have q5 : (x != x) = false := by simp
          clear d0 HB7 HLd CP cz2
          go_wp2_with fail
          refine wp_region_quiet_below mixed (by kernel_rfl) ?_
          repeat (quiet_step (fail))
          refine wpQuiet_nil ?_
          intro _ hw'
          obtain ⟨⟨dq, osq⟩, hw''⟩ := hw'
          subst hw''
          have hWq := below_regrown w6 dq osq
          obtain ⟨Wq, hWe⟩ : ∃ Wq, Sort.grow (redrawn w6 dq) osq = Wq := ⟨_, rfl⟩
          rw [hWe] at hWq ⊢
          have HZq := Lib.hid (HZ6.out.below hWq)
          have HBq := Lib.hid (HB8.out.trans (hWq.mono HB8.out.size))
          clear k0 k1 k2 q1 q2 q7 hWe hWq HZ6 HB8
          have HMq := Lib.hid (HM2.out.below HBq.out)
          go_wp2_with fail
          go_loopw [9] (fun s wr => ∃ k : Nat, s = .int .i64 (k : Nat) ∧ k ≤ nz ∧ Hid (Below Wq.heap.size Wq wr)) (fun s _ => nz - (intOf s).toNat)
          case atStart => exact ⟨0, rfl, Nat.zero_le _, Lib.hid (Below.refl _ _)⟩
          case round =>
            obtain ⟨k, rfl, hk, HBk⟩ := hrel
            by_cases hlk : k < nz
            · obtain ⟨wk, rfl⟩ : ∃ wk : World, wk = wr := ⟨_, rfl⟩
              have hkz : k < zs.length := by rw [HNZ.out]; exact hlk
              have HZk := Lib.hid (HZq.out.below HBk.out)
              obtain ⟨by_, oy, ey, cy⟩ := HZk.out.cell' (n := nz) HNZ.out.symm hkz
              cases ey
              have hup := HPU.out k hkz
              obtain ⟨y, hy⟩ : ∃ y, zs[k] = y := ⟨_, rfl⟩
              rw [hy] at cy hup
              have HLK := Lib.hid hlk
              have hk1 : (k : Int) < nz := by omega
              have HMk := Lib.hid (HMq.out.below HBk.out)
              have HLd := Lib.hid (show RdE wk.drew (.slice (some ⟨b, off, none⟩) n cl) m from HMk.out.keep (fun _ _ => rfl))
              by_cases hk0 : k = 0
              · subst hk0
                rw [dif_pos rfl] at hup
                have CU := Lib.hid (show ∀ (v : Value) (w' : World), RdE w' v m → Calls Try.prog 30 #[v, .int .i64 y] w' (TwoIs (0, 3) w') from fun v w' hv => by
                  have := up_pro m v y w' hv
                  rw [hup] at this
                  exact this)
                clear hup hy hlk hkz
                go_wp2_with fail
                have hS0 : wk.drew.cell? ⟨bz, oz, none⟩ = some (.int .i64 y) := cy
                refine region_just (S := fun w' => w'.cell? ⟨bz, oz, none⟩ = some (.int .i64 y)) (by kernel_rfl) ?_
                refine wpAnyH_take (i := 0) (v := .slice (some ⟨b, off, none⟩) n cl) rfl (by kernel_rfl) (by kernel_rfl) (by kernel_rfl) (fun _ _ _ h => h) (.inl ⟨by rfl, fun w' hS => by have h1 := hS; go_simp⟩) hS0 ?_
                refine wpAnyH_take (i := 2) (v := .slice (some ⟨bz, oz, none⟩) nz cz) rfl (by kernel_rfl) (by kernel_rfl) (by kernel_rfl) (fun _ _ _ h => h) (.inl ⟨by rfl, fun w' hS => by have h1 := hS; go_simp⟩) hS0 ?_
                refine wpAnyH_take (i := 3) (v := .int .i64 (0 : Nat)) rfl (by kernel_rfl) (by kernel_rfl) (by kernel_rfl) (fun _ _ _ h => h) (.inl ⟨by rfl, fun w' hS => by have h1 := hS; go_simp⟩) hS0 ?_
                refine wpAnyH_take (i := 4) (v := .pointer (some ⟨bz, oz, none⟩)) rfl (by kernel_rfl) (by kernel_rfl) (by kernel_rfl) (fun _ _ _ h => h) (.inl ⟨by rfl, fun w' hS => by have h1 := hS; go_simp⟩) hS0 ?_
                refine wpAnyH_take (i := 5) (v := .int .i64 y) rfl (by kernel_rfl) (by kernel_rfl) (by kernel_rfl) (fun _ _ _ h => h) (.inl ⟨by rfl, fun w' hS => by have h1 := hS; go_simp⟩) hS0 ?_
                refine wpAnyH_all (rs := [1]) (by kernel_rfl) (by simp) ?_
                intro i' hi'
                obtain rfl : i' = 1 := by simpa using hi'
                refine op_via rfl (by rfl) (fun K hK => ?_)
                go_simp
                refine (twin_pro _ _ _ HLd.out HLN.out).mono ?_
                rintro e w5 ⟨v5, rfl, hR5, hb5⟩
                have hS5 := (hb5.cell (p := ⟨bz, oz, none⟩) (cellInL hS0)).trans hS0
                have HR5 := Lib.hid hR5
                have HB5 := Lib.hid hb5
                clear hR5 hb5
                refine hK _ _ ⟨hS5, ?_⟩
                clear hK K
                refine wpAnyH_all (rs := [6]) (by kernel_rfl) (by simp) ?_
                intro i' hi'
                obtain rfl : i' = 6 := by simpa using hi'
                refine op_via rfl (by rfl) (fun K hK => ?_)
                go_simp
                refine (CU.out _ _ HR5.out).mono ?_
                rintro e w6 ⟨rfl, hb6⟩
                have hS6 := (hb6.cell (p := ⟨bz, oz, none⟩) (cellInL hS5)).trans hS5
                have HB7 := Lib.hid ((Below.refl _ wk).drew.trans (HB5.out.trans (hb6.mono HB5.out.size)))
                clear hb6 HB5 HR5
                refine hK _ _ ⟨hS6, ?_⟩
                clear hK K
                refine wpAnyH_take (i := 7) (v := .tuple #[.int .i64 0, .int .i64 3]) rfl (by kernel_rfl) (by kernel_rfl) (by kernel_rfl) (fun _ _ _ h => h) (.inl ⟨by rfl, fun w' hS => by have h1 := hS; go_simp⟩) hS6 ?_
                refine wpAnyH_take (i := 8) (v := .int .i64 0) rfl (by kernel_rfl) (by kernel_rfl) (by kernel_rfl) (fun _ _ _ h => h) (.inl ⟨by rfl, fun w' hS => by have h1 := hS; go_simp⟩) hS6 ?_
                refine wpAnyH_take (i := 9) (v := .int .i64 3) rfl (by kernel_rfl) (by kernel_rfl) (by kernel_rfl) (fun _ _ _ h => h) (.inl ⟨by rfl, fun w' hS => by have h1 := hS; go_simp⟩) hS6 ?_
                refine wpAnyH_take (i := 10) (v := .int .i64 0) rfl (by kernel_rfl) (by kernel_rfl) (by kernel_rfl) (fun _ _ _ h => h) (.inl ⟨by rfl, fun w' hS => by have h1 := hS; go_simp⟩) hS6 ?_
                refine wpAnyH_take (i := 11) (v := .int .i64 3) rfl (by kernel_rfl) (by kernel_rfl) (by kernel_rfl) (fun _ _ _ h => h) (.inl ⟨by rfl, fun w' hS => by have h1 := hS; go_simp⟩) hS6 ?_
                refine wpAnyH_done (by kernel_rfl) ?_ _
                simp only [Just]
                clear hS0 hS5 hS6
                have HBn := Lib.hid (HBk.out.trans (HB7.out.mono HBk.out.size))
                clear HB7 HLd CU cy
                go_wp2_with fail
                go_roundw
                case measure => have := HLK.out; first | (simp [intOf]; done) | (simp [intOf]; omega)
                case rel => exact ⟨0 + 1, by go_num, by have := HLK.out; omega, HBn⟩
              · rw [dif_neg hk0] at hup
                obtain ⟨j, rfl⟩ : ∃ j, k = j + 1 := ⟨k - 1, by omega⟩
                simp only [Nat.add_sub_cancel] at hup
                obtain ⟨bj, oj, ej, cj⟩ := HZk.out.cell' (n := nz) HNZ.out.symm (j := j) (by omega)
                cases ej
                obtain ⟨u, hu⟩ : ∃ u, zs[j]'(by omega) = u := ⟨_, rfl⟩
                rw [hu] at cj hup
                have HCJ := Lib.hid cj
                have CU := Lib.hid (show ∀ (v : Value) (w' : World), RdE w' v m → Calls Try.prog 30 #[v, .int .i64 y] w' (TwoIs (u, 0) w') from fun v w' hv => by
                  have := up_pro m v y w' hv
                  rw [hup] at this
                  exact this)
                obtain ⟨k, hkk⟩ : ∃ k, j + 1 = k := ⟨_, rfl⟩
                rw [hkk] at cy hk1 HLK ⊢
                have q1 : (k : Int) - 1 = j := by omega
                have q2 : wrap64 ((k : Int) - 1) = j := by rw [q1]; exact IntWalk.wrap64_in _ (by omega)
                have q3 : (j : Int) < nz := by omega
                have q4 : (u != u) = false := by simp
                have q5 : (0 : Int) < k := by omega
                have q6 : ((k : Int) == 0) = false := by simp; omega
                clear hup hy hlk hkz hu cj hk hk0 hkk
                go_wp2_with fail
                have hS0 : wk.drew.cell? ⟨bz, oz + k, none⟩ = some (.int .i64 y) := cy
                refine region_just (S := fun w' => w'.cell? ⟨bz, oz + k, none⟩ = some (.int .i64 y)) (by kernel_rfl) ?_
                refine wpAnyH_take (i := 0) (v := .slice (some ⟨b, off, none⟩) n cl) rfl (by kernel_rfl) (by kernel_rfl) (by kernel_rfl) (fun _ _ _ h => h) (.inl ⟨by rfl, fun w' hS => by have h1 := hS; go_simp⟩) hS0 ?_
                refine wpAnyH_take (i := 2) (v := .slice (some ⟨bz, oz, none⟩) nz cz) rfl (by kernel_rfl) (by kernel_rfl) (by kernel_rfl) (fun _ _ _ h => h) (.inl ⟨by rfl, fun w' hS => by have h1 := hS; go_simp⟩) hS0 ?_
                refine wpAnyH_take (i := 3) (v := .int .i64 (k : Nat)) rfl (by kernel_rfl) (by kernel_rfl) (by kernel_rfl) (fun _ _ _ h => h) (.inl ⟨by rfl, fun w' hS => by have h1 := hS; go_simp⟩) hS0 ?_
                refine wpAnyH_take (i := 4) (v := .pointer (some ⟨bz, oz + k, none⟩)) rfl (by kernel_rfl) (by kernel_rfl) (by kernel_rfl) (fun _ _ _ h => h) (.inl ⟨by rfl, fun w' hS => by have h1 := hS; go_simp⟩) hS0 ?_
                refine wpAnyH_take (i := 5) (v := .int .i64 y) rfl (by kernel_rfl) (by kernel_rfl) (by kernel_rfl) (fun _ _ _ h => h) (.inl ⟨by rfl, fun w' hS => by have h1 := hS; go_simp⟩) hS0 ?_
                refine wpAnyH_all (rs := [1]) (by kernel_rfl) (by simp) ?_
                intro i' hi'
                obtain rfl : i' = 1 := by simpa using hi'
                refine op_via rfl (by rfl) (fun K hK => ?_)
                go_simp
                refine (twin_pro _ _ _ HLd.out HLN.out).mono ?_
                rintro e w5 ⟨v5, rfl, hR5, hb5⟩
                have hS5 := (hb5.cell (p := ⟨bz, oz + k, none⟩) (cellInL hS0)).trans hS0
                have HR5 := Lib.hid hR5
                have HB5 := Lib.hid hb5
                clear hR5 hb5
                refine hK _ _ ⟨hS5, ?_⟩
                clear hK K
                refine wpAnyH_all (rs := [6]) (by kernel_rfl) (by simp) ?_
                intro i' hi'
                obtain rfl : i' = 6 := by simpa using hi'
                refine op_via rfl (by rfl) (fun K hK => ?_)
                go_simp
                refine (CU.out _ _ HR5.out).mono ?_
                rintro e w6 ⟨rfl, hb6⟩
                have hS6 := (hb6.cell (p := ⟨bz, oz + k, none⟩) (cellInL hS5)).trans hS5
                have HB7 := Lib.hid ((Below.refl _ wk).drew.trans (HB5.out.trans (hb6.mono HB5.out.size)))
                clear hb6 HB5 HR5
                refine hK _ _ ⟨hS6, ?_⟩
                clear hK K
                refine wpAnyH_take (i := 7) (v := .tuple #[.int .i64 u, .int .i64 0]) rfl (by kernel_rfl) (by kernel_rfl) (by kernel_rfl) (fun _ _ _ h => h) (.inl ⟨by rfl, fun w' hS => by have h1 := hS; go_simp⟩) hS6 ?_
                refine wpAnyH_take (i := 8) (v := .int .i64 u) rfl (by kernel_rfl) (by kernel_rfl) (by kernel_rfl) (fun _ _ _ h => h) (.inl ⟨by rfl, fun w' hS => by have h1 := hS; go_simp⟩) hS6 ?_
                refine wpAnyH_take (i := 9) (v := .int .i64 0) rfl (by kernel_rfl) (by kernel_rfl) (by kernel_rfl) (fun _ _ _ h => h) (.inl ⟨by rfl, fun w' hS => by have h1 := hS; go_simp⟩) hS6 ?_
                refine wpAnyH_take (i := 10) (v := .int .i64 u) rfl (by kernel_rfl) (by kernel_rfl) (by kernel_rfl) (fun _ _ _ h => h) (.inl ⟨by rfl, fun w' hS => by have h1 := hS; go_simp⟩) hS6 ?_
                refine wpAnyH_take (i := 11) (v := .int .i64 0) rfl (by kernel_rfl) (by kernel_rfl) (by kernel_rfl) (fun _ _ _ h => h) (.inl ⟨by rfl, fun w' hS => by have h1 := hS; go_simp⟩) hS6 ?_
                refine wpAnyH_done (by kernel_rfl) ?_ _
                simp only [Just]
                clear hS0 hS5 hS6
                have cj := (HB7.out.cell (p := ⟨bz, oz + j, none⟩) (cellInL HCJ.out)).trans HCJ.out
                have HBn := Lib.hid (HBk.out.trans (HB7.out.mono HBk.out.size))
                clear HB7 HLd CU cy HCJ
                go_wp2_with fail
                go_roundw
                case measure => have := HLK.out; first | (simp [intOf]; done) | (simp [intOf]; omega)
                case rel => exact ⟨k + 1, by go_num, by have := HLK.out; omega, HBn⟩
            · obtain rfl : k = nz := by omega
              have hlz : ¬ ((k : Int) < k) := by omega
              have HBn := Lib.hid (HBq.out.trans (HBk.out.mono HBq.out.size))
              clear hlk hk
              go_wp2_with fail
              go_roundw
              case measure => have := HLT.out; first | (simp [intOf]; done) | (simp [intOf]; omega)
              case rel => exact ⟨i + 1, by go_num, by have := HLT.out; omega, HBn⟩
      · obtain rfl : i = n := by omega
        have hlz : ¬ ((i : Int) < i) := by omega
        have HF := Lib.hid (HB2.out.trans (HB.out.mono HB2.out.size))
        clear hlt hi
        go_wp2_with fail
        go_ret
        exact ⟨rfl, HF.out⟩
  · have t1 : (g != 0) = true := by simpa using h0
    clear hg h0
    go_wp2_with fail
    refine HGD.out.mono ?_
    rintro e w2 ⟨rfl, hb⟩
    have HB2 := Lib.hid (HB1.out.trans (hb.mono HB1.out.size))
    clear hb
    go_wp2_with fail
    go_ret
    exact ⟨rfl, HB2.out⟩

set_option maxRecDepth 100000 in
theorem contract (H : Type) (enc : TypeId × Value → H) (W : World) (base : Nat) (args : Array Value) (ds gs : List (DataW H)) (before : List MemPlace)
    (hval : ∀ (j : Nat) t v, Try.f7.params[j]? = some t → args[j]? = some v → Value.okWide Try.prog W .any base t v)
    (hW : DataW.Whole enc Try.prog Try.f7.params.toList Rows.tocBackSpec.vars false W args.toList ds gs before) (hsz0 : (DataW.weightsEach Try.prog (Try.f7.params.toList ++ Rows.tocBackSpec.plain.varTypes Try.prog) (ds ++ gs)).all (· ≤ reachBytes) = true) :
    Calls Try.prog 7 args W fun e W' => ∃ v, e = .returned v ∧ Rows.tocBackSpec.post enc Try.prog Try.f7 false true false false W args v W' := by
  have hW' := hW
  obtain ⟨p, q, hA0, hV, rfl, hfz, hnd⟩ := hW
  have hA : DataW.TrodAll enc Try.prog W 0 (fun _ => true) true Try.f7.params.toList args.toList ds p := hA0
  rw [Try.params7] at hA hval
  have hsz := hsz0
  rw [Try.params7] at hsz
  clear hsz0
  obtain ⟨v0, vs0, d0, ds0, p0, q0, hargs, rfl, rfl, h0, r0⟩ := trodAll_cons hA
  obtain ⟨rfl, rfl, rfl⟩ := trodAll_nil r0
  obtain rfl : args = #[v0] := by cases args; simp_all
  obtain ⟨rfl, rfl⟩ := trodVars_none hV
  have hk0 := h0
  obtain ⟨l0, hR0, hD0⟩ := ents_read h0 (okWide_slice Try.underlying34 (hval 0 34 v0 rfl rfl))
  clear hA0
  have size0 := ents_reach hsz (j := 0) rfl rfl hD0
  refine (walk v0 l0 W hR0 size0).mono fun e W' ⟨he, hg⟩ => ?_
  subst he
  have hlt := hW'.lt
  exact ⟨_, rfl, post_of_below (pa := (p0 ++ [])) (pv := []) hW' (fun _ _ _ => trodAll_cons_mk (shut_bool Try.underlying4 _) trodAll_mk0) (fun sp hsp => (trodAll_cons_mk (Go.WideElems.Trod_stays (by kernel_rfl) (by kernel_rfl) (of_decide_eq_true (by kernel_rfl)) hk0 (fun p hp => hg.same (hlt p (by simp [hp]))) (fun p hp => hsp p (by simp [hp]))) trodAll_mk0)) (fun _ _ => rfl) rfl hg (ok_one (by kernel_rfl) rfl (okWide_bool_mk Try.underlying4 _))⟩

theorem witness_row (os : Os) {H : Type} (enc : TypeId × Value → H) :
    (OpenSpec.ofChange Rows.tocBackSpec).preRow enc Try.prog Try.f7 Rows.tocBackRow.domain false Rows.tocBackRow.laid ((laidWorld os).forCall (fun _ _ => 0) ⟨#[], #[.slice none 0 0], []⟩).memory #[.slice none 0 0] := by
  have hw : (DataW.whole enc Try.prog ((laidWorld os).forCall (fun _ _ => 0) ⟨#[], #[.slice none 0 0], []⟩).memory Try.f7.params.toList Rows.tocBackSpec.vars false (#[.slice none 0 0] : Array Value).toList 8).map (fun x => (x.1, x.2.1)) =
      some ([.nil], []) := by kernel_rfl
  obtain ⟨⟨x1, x2, x3⟩, hx, hx1⟩ := Option.map_eq_some_iff.1 hw
  simp only [Prod.mk.injEq] at hx1
  obtain ⟨rfl, rfl⟩ := hx1
  exact OpenSpec.preRow_of_cond 8 hx (by kernel_rfl) (fun k hk => by cases hk) (by kernel_rfl) (laid_met _)

set_option maxRecDepth 100000 in
theorem lifted (os : Os) (started : os.Started) (H : Type) (enc : TypeId × Value → H) (F : Stop.Interp) :
    ReturnsInHanded {} Try.checked os 7 .any ((OpenSpec.ofChange Rows.tocBackSpec).preRow enc Try.prog Try.f7 Rows.tocBackRow.domain false Rows.tocBackRow.laid) (((OpenSpec.ofChange Rows.tocBackSpec).at F).post enc Try.prog Try.f7 false true false false) := by
  refine returnsInHanded_of_row (C := Try.checked) (s := (OpenSpec.ofChange Rows.tocBackSpec)) own started (by kernel_rfl) Try.func7
    (witness_row_at (enc := enc) (C := Try.checked) false (laidWorld os) #[.slice none 0 0] rfl (by kernel_rfl) (by kernel_rfl) (by kernel_rfl) (witness_row os enc)) ?_
  intro W base args ds gs before hval hW _ hcond hsz hL hS _
  exact contract H enc W base args ds gs before hval hW hsz

set_option maxHeartbeats 16000000 in
theorem closed : joinedFacts Try.pinned.checked.prog 7 Try.f7 ((OpenSpec.ofChange Rows.tocBackSpec)).bare Rows.tocBackRow = true := by
  unfold joinedFacts
  repeat' (with_reducible refine Bool.and_eq_true_iff.2 ⟨?_, ?_⟩)
  all_goals (as_aux_lemma => kernel_rfl)
theorem named : Try.pinned.checked.prog.funcNamed Rows.tocBackRow.func = some 7 := by kernel_rfl
theorem inst : (Try.f7).isInstance Try.pinned.checked.prog Rows.tocBackRow.origin Rows.tocBackRow.targs := of_decide_eq_true (by kernel_rfl)
theorem wrap : (Try.f7).isWrapper Try.pinned.checked.prog Rows.tocBackRow.wrapper Rows.tocBackRow.mainSum := by
  unfold Func.isWrapper
  first | (rw [if_pos (by decide +kernel)]; kernel_rfl) | (rw [if_neg (by decide +kernel)]; exact ⟨rfl, rfl⟩)
theorem row : Rows.TocBackSaid :=
  OpenClaim.holds_of_cond 7 Try.f7 rfl rfl rfl rfl rfl rfl rfl ⟨rfl, rfl, rfl, rfl, rfl⟩ rfl rfl rfl rfl rfl named Try.func7 closed inst wrap
    (fun os started H enc _ F => by rw [OpenClaim.pre_eq_preRow]; exact lifted os started H enc F)

theorem proved : Rows.TocBackSaid := row
end Go.Proofs.Ytjnnkelbedmccaa.tocBack
