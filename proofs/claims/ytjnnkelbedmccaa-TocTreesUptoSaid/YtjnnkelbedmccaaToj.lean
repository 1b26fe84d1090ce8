/- Layer 10: the program's Parent, End, Next, Prev, Up, Path. -/
import Derived.Test.YtjnnkelbedmccaaToi
namespace Go.Proofs.Ytjnnkelbedmccaa
open Go.RowKit Go.Shelf Go.Maps
set_option linter.unusedVariables false

/-- Two numbers, in new memory or in none. -/
def TwoIs (p : Int × Int) (w : World) (e : Ending) (w' : World) : Prop := e = .returned (.tuple #[.int .i64 p.1, .int .i64 p.2]) ∧ Below w.heap.size w w'
def parE (l : List Ent) (i : Int) : Int × Int := if lookE l i = 0 then (abv l i.toNat, 0) else (0, lookE l i)
def endE (l : List Ent) (i : Int) : Int × Int := if lookE l i = 0 then ((endM l i.toNat : Nat), 0) else (0, lookE l i)
def besE (l : List Ent) (x by_ : Int) : Int × Int := if (entE l x).2 ≠ 0 then (0, (entE l x).2) else if 0 ≤ atF l x + by_ ∧ atF l x + by_ < l.length then (tpN l (atF l x + by_).toNat, 0) else (0, 3)
def upE (l : List Ent) (x : Int) : Int × Int := if (entE l x).2 ≠ 0 then (0, (entE l x).2) else if abv l (atF l x).toNat = -1 then (0, 3) else (tpN l (abv l (atF l x).toNat).toNat, 0)
def pathM (l : List Ent) (i : Int) : List Int := (pth l i).map fun k => tpN l k
theorem ent_ok {l : List Ent} {x : Int} (h : (entE l x).2 = 0) : Gd l ∧ gdE l = 0 ∧ ∃ i : Nat, i < l.length ∧ tpN l i = x ∧ atF l x = (i : Nat) ∧ entE l x = (((i : Nat) : Int), 0) := by
  unfold entE at h ⊢
  by_cases h1 : gdE l ≠ 0
  · rw [if_pos h1] at h; exact absurd h h1
  rw [if_neg h1] at h ⊢
  have h1' : gdE l = 0 := by omega
  rcases atF_cases l x with ⟨i, hi, e, ha⟩ | ⟨_, ha⟩
  · rw [ha, if_neg (by omega)] at h ⊢
    exact ⟨gd_of h1', h1', i, hi, e, rfl, rfl⟩
  · rw [ha, if_pos (by omega)] at h; cases h
set_option maxRecDepth 100000 in
theorem par_pro (l : List Ent) (v : Value) (i : Int) (w : World) (hv : RdE w v l) : Calls Try.prog 19 #[v, .int .i64 i] w (TwoIs (parE l i) w) := by
  have HC := Lib.hid (look_pro l v i w hv)
  have HV := Lib.hid hv
  obtain ⟨pa, cap, rfl, _, _⟩ := hv.form
  unfold parE
  by_cases h0 : lookE l i = 0
  · rw [if_pos h0]
    rw [h0] at HC
    obtain ⟨g, _, k, rfl, hk⟩ := look_ok h0
    have HP := Lib.hid (fun w' hv => parent_pro l (.slice pa l.length cap) k w' hv g hk)
    rw [Int.toNat_natCast]
    obtain ⟨q, hq⟩ : ∃ q, abv l k = q := ⟨_, rfl⟩
    rw [hq] at HP ⊢
    clear hv h0 g hk hq
    go_enter Try.func19, Try.ntmps19
    go_wp2_with fail
    refine HC.out.mono ?_
    rintro e w1 ⟨rfl, hb1⟩
    have HB1 := Lib.hid hb1
    clear hb1
    go_wp2_with fail
    refine (HP.out _ (HV.out.below HB1.out)).mono ?_
    rintro e w2 ⟨rfl, hb2⟩
    have HB2 := Lib.hid (HB1.out.trans (hb2.mono HB1.out.size))
    clear hb2
    go_wp2_with fail
    go_ret2
    exact ⟨rfl, HB2.out⟩
  · rw [if_neg h0]
    obtain ⟨g, hg⟩ : ∃ g, lookE l i = g := ⟨_, rfl⟩
    rw [hg] at HC h0 ⊢
    have t1 : (g != 0) = true := by simpa using h0
    clear hv hg h0
    go_enter Try.func19, Try.ntmps19
    go_wp2_with fail
    refine HC.out.mono ?_
    rintro e w1 ⟨rfl, hb1⟩
    have HB1 := Lib.hid hb1
    clear hb1
    go_wp2_with fail
    go_ret2
    exact ⟨rfl, HB1.out⟩
set_option maxRecDepth 100000 in
theorem end_pro (l : List Ent) (v : Value) (i : Int) (w : World) (hv : RdE w v l) : Calls Try.prog 21 #[v, .int .i64 i] w (TwoIs (endE l i) w) := by
  unfold endE
  by_cases h0 : lookE l i = 0
  · rw [if_pos h0]
    obtain ⟨g, _, k, rfl, hk⟩ := look_ok h0
    rw [Int.toNat_natCast]
    exact (callsIn_wide.1 (end_yes l v k w hv g hk h0)).mono fun e w' h => h
  · have HC := Lib.hid (look_pro l v i w hv)
    obtain ⟨pa, cap, rfl, _, _⟩ := hv.form
    rw [if_neg h0]
    obtain ⟨g, hg⟩ : ∃ g, lookE l i = g := ⟨_, rfl⟩
    rw [hg] at HC h0 ⊢
    have t1 : (g != 0) = true := by simpa using h0
    clear hv hg h0
    go_enter Try.func21, Try.ntmps21
    go_wp2_with fail
    refine HC.out.mono ?_
    rintro e w1 ⟨rfl, hb1⟩
    have HB1 := Lib.hid hb1
    clear hb1
    go_wp2_with fail
    go_ret2
    exact ⟨rfl, HB1.out⟩
set_option maxRecDepth 100000 in
theorem bes_pro (l : List Ent) (v : Value) (x d : Int) (w : World) (hv : RdE w v l) (hd : -1 ≤ d ∧ d ≤ 1) : Calls Try.prog 55 #[v, .int .i64 x, .int .i64 d] w (TwoIs (besE l x d) w) := by
  have HC := Lib.hid (ent_pro l v x w hv)
  have HV := Lib.hid hv
  obtain ⟨pa, cap, rfl, _, _⟩ := hv.form
  unfold besE
  obtain ⟨a, ha⟩ : ∃ a, (entE l x).1 = a := ⟨_, rfl⟩
  obtain ⟨b, hb⟩ : ∃ b, (entE l x).2 = b := ⟨_, rfl⟩
  have HA := Lib.hid ha
  have HB := Lib.hid hb
  by_cases h0 : b = 0
  · obtain ⟨g, _, i, hi, _, hat, hen⟩ := ent_ok (hb.trans h0)
    rw [hb, if_neg (by omega), hat]
    have hai : a = (i : Nat) := by rw [← ha, hen]
    subst hai
    subst h0
    have hi9 : (i : Int) ≤ 1000 := by have := g.len; omega
    have hw : wrap64 ((i : Int) + d) = (i : Int) + d := IntWalk.wrap64_in _ (by omega)
    have HQ := Lib.hid (fun w' => entry_pro pa l.length cap ((i : Int) + d) w')
    by_cases hin : 0 ≤ (i : Int) + d ∧ (i : Int) + d < l.length
    · rw [if_pos hin]
      rw [decide_eq_true hin] at HQ
      obtain ⟨z, hz⟩ : ∃ z : Nat, (i : Int) + d = z := ⟨((i : Int) + d).toNat, by omega⟩
      rw [hz] at hin HQ hw ⊢
      rw [Int.toNat_natCast]
      have hzl : z < l.length := by omega
      have hz1 : (z : Int) < l.length := by omega
      have HZL := Lib.hid hzl
      obtain ⟨q, hq⟩ : ∃ q, tpN l z = q := ⟨_, rfl⟩
      have HQ9 := Lib.hid hq
      rw [hq]
      clear hq
      clear hv ha hb g hen hat hin hzl hi
      go_enter Try.func55, Try.ntmps55
      go_wp2_with fail
      refine HC.out.mono ?_
      unfold EntIs
      rw [HA.out, HB.out]
      rintro e w1 ⟨rfl, hb1⟩
      have HB1 := Lib.hid hb1
      obtain ⟨b9, o9, hpa, c0, _⟩ := (HV.out.below hb1).cell (j := z) HZL.out
      subst hpa
      rw [HQ9.out] at c0
      clear hb1
      go_wp2_with fail
      refine (HQ.out _).mono ?_
      rintro e w2 ⟨rfl, rfl⟩
      go_wp2_with fail
      go_ret2
      exact ⟨rfl, HB1.out⟩
    · rw [if_neg hin]
      rw [decide_eq_false hin] at HQ
      obtain ⟨z, hz⟩ : ∃ z : Int, (i : Int) + d = z := ⟨_, rfl⟩
      rw [hz] at HQ hw
      clear hv ha hb g hen hat hin hi
      go_enter Try.func55, Try.ntmps55
      go_wp2_with fail
      refine HC.out.mono ?_
      unfold EntIs
      rw [HA.out, HB.out]
      rintro e w1 ⟨rfl, hb1⟩
      have HB1 := Lib.hid hb1
      clear hb1
      go_wp2_with fail
      refine (HQ.out _).mono ?_
      rintro e w2 ⟨rfl, rfl⟩
      go_wp2_with fail
      go_ret2
      exact ⟨rfl, HB1.out⟩
  · rw [hb, if_pos h0]
    have t1 : (b != 0) = true := by simpa using h0
    clear hv ha hb h0
    go_enter Try.func55, Try.ntmps55
    go_wp2_with fail
    refine HC.out.mono ?_
    unfold EntIs
    rw [HA.out, HB.out]
    rintro e w1 ⟨rfl, hb1⟩
    have HB1 := Lib.hid hb1
    clear hb1
    go_wp2_with fail
    go_ret2
    exact ⟨rfl, HB1.out⟩
set_option maxRecDepth 100000 in
theorem next_pro (l : List Ent) (v : Value) (x : Int) (w : World) (hv : RdE w v l) : Calls Try.prog 26 #[v, .int .i64 x] w (TwoIs (besE l x 1) w) := by
  have HC := Lib.hid (bes_pro l v x 1 w hv (by omega))
  obtain ⟨pa, cap, rfl, _, _⟩ := hv.form
  obtain ⟨⟨a, b⟩, ha⟩ : ∃ a, besE l x 1 = a := ⟨_, rfl⟩
  rw [ha] at HC ⊢
  clear hv ha
  go_enter Try.func26, Try.ntmps26
  go_wp2_with fail
  refine HC.out.mono ?_
  rintro e w1 ⟨rfl, hb1⟩
  have HB1 := Lib.hid hb1
  clear hb1
  go_wp2_with fail
  go_ret2
  exact ⟨rfl, HB1.out⟩
set_option maxRecDepth 100000 in
theorem prev_pro (l : List Ent) (v : Value) (x : Int) (w : World) (hv : RdE w v l) : Calls Try.prog 28 #[v, .int .i64 x] w (TwoIs (besE l x (-1)) w) := by
  have HC := Lib.hid (bes_pro l v x (-1) w hv (by omega))
  obtain ⟨pa, cap, rfl, _, _⟩ := hv.form
  obtain ⟨⟨a, b⟩, ha⟩ : ∃ a, besE l x (-1) = a := ⟨_, rfl⟩
  rw [ha] at HC ⊢
  clear hv ha
  go_enter Try.func28, Try.ntmps28
  go_wp2_with fail
  refine HC.out.mono ?_
  rintro e w1 ⟨rfl, hb1⟩
  have HB1 := Lib.hid hb1
  clear hb1
  go_wp2_with fail
  go_ret2
  exact ⟨rfl, HB1.out⟩
set_option maxRecDepth 100000 in
theorem up_pro (l : List Ent) (v : Value) (x : Int) (w : World) (hv : RdE w v l) : Calls Try.prog 30 #[v, .int .i64 x] w (TwoIs (upE l x) w) := by
  have HC := Lib.hid (ent_pro l v x w hv)
  have HV := Lib.hid hv
  obtain ⟨pa, cap, rfl, _, _⟩ := hv.form
  unfold upE
  obtain ⟨a, ha⟩ : ∃ a, (entE l x).1 = a := ⟨_, rfl⟩
  obtain ⟨b, hb⟩ : ∃ b, (entE l x).2 = b := ⟨_, rfl⟩
  have HA := Lib.hid ha
  have HB := Lib.hid hb
  by_cases h0 : b = 0
  · obtain ⟨g, _, i, hi, _, hat, hen⟩ := ent_ok (hb.trans h0)
    rw [hb, if_neg (by omega), hat, Int.toNat_natCast]
    have hai : a = (i : Nat) := by rw [← ha, hen]
    subst hai
    subst h0
    have HP := Lib.hid (fun w' hv => parent_pro l (.slice pa l.length cap) i w' hv g hi)
    have hlt := abv_lt l i
    have hl9 := g.len
    obtain ⟨p, hp⟩ : ∃ p, abv l i = p := ⟨_, rfl⟩
    rw [hp] at HP hlt ⊢
    by_cases hr : p = -1
    · subst hr
      rw [if_pos rfl]
      clear hv ha hb g hen hat hi hlt hp
      go_enter Try.func30, Try.ntmps30
      go_wp2_with fail
      refine HC.out.mono ?_
      unfold EntIs
      rw [HA.out, HB.out]
      rintro e w1 ⟨rfl, hb1⟩
      have HB1 := Lib.hid hb1
      clear hb1
      go_wp2_with fail
      refine (HP.out _ (HV.out.below HB1.out)).mono ?_
      rintro e w2 ⟨rfl, hb2⟩
      have HB2 := Lib.hid (HB1.out.trans (hb2.mono HB1.out.size))
      clear hb2
      go_wp2_with fail
      go_ret2
      exact ⟨rfl, HB2.out⟩
    · rw [if_neg hr]
      obtain ⟨z, rfl⟩ : ∃ z : Nat, p = z := ⟨p.toNat, by omega⟩
      rw [Int.toNat_natCast]
      have hzl : z < l.length := by omega
      have hz1 : (z : Int) < l.length := by omega
      have HZL := Lib.hid hzl
      obtain ⟨q, hq⟩ : ∃ q, tpN l z = q := ⟨_, rfl⟩
      have HQ9 := Lib.hid hq
      rw [hq]
      clear hq
      clear hv ha hb g hen hat hi hlt hp hzl hr
      go_enter Try.func30, Try.ntmps30
      go_wp2_with fail
      refine HC.out.mono ?_
      unfold EntIs
      rw [HA.out, HB.out]
      rintro e w1 ⟨rfl, hb1⟩
      have HB1 := Lib.hid hb1
      clear hb1
      go_wp2_with fail
      refine (HP.out _ (HV.out.below HB1.out)).mono ?_
      rintro e w2 ⟨rfl, hb2⟩
      have HB2 := Lib.hid (HB1.out.trans (hb2.mono HB1.out.size))
      obtain ⟨b9, o9, hpa, c0, _⟩ := (HV.out.below HB2.out).cell (j := z) HZL.out
      subst hpa
      rw [HQ9.out] at c0
      clear hb2
      go_wp2_with fail
      go_ret2
      exact ⟨rfl, HB2.out⟩
  · rw [hb, if_pos h0]
    have t1 : (b != 0) = true := by simpa using h0
    clear hv ha hb h0
    go_enter Try.func30, Try.ntmps30
    go_wp2_with fail
    refine HC.out.mono ?_
    unfold EntIs
    rw [HA.out, HB.out]
    rintro e w1 ⟨rfl, hb1⟩
    have HB1 := Lib.hid hb1
    clear hb1
    go_wp2_with fail
    go_ret2
    exact ⟨rfl, HB1.out⟩
theorem pth_in {l : List Ent} {i : Nat} (hi : i < l.length) : ∀ q ∈ pth l (i : Nat), q < l.length := fun q hq => by
  have := pth_mem (l := l) (i + 1) (i : Nat) (by omega) (by omega) q hq
  omega
set_option maxRecDepth 100000 in
set_option maxHeartbeats 2000000 in
theorem path_pro (l : List Ent) (v : Value) (x : Int) (w : World) (hv : RdE w v l) : Calls Try.prog 32 #[v, .int .i64 x] w (NewZ (if (entE l x).2 = 0 then pathM l (atF l x) else []) (entE l x).2 w) := by
  obtain ⟨i0, hi0, hz0, hz1, hz2⟩ := info_parts infoI
  have HC := Lib.hid (ent_pro l v x w hv)
  have HV := Lib.hid hv
  obtain ⟨pa, cap, rfl, _, _⟩ := hv.form
  obtain ⟨a, ha⟩ : ∃ a, (entE l x).1 = a := ⟨_, rfl⟩
  obtain ⟨b, hb⟩ : ∃ b, (entE l x).2 = b := ⟨_, rfl⟩
  have HA := Lib.hid ha
  have HB := Lib.hid hb
  by_cases h0 : b = 0
  · obtain ⟨g, _, i, hi, _, hat, hen⟩ := ent_ok (hb.trans h0)
    rw [hb, if_pos h0, hat, h0]
    have hai : a = (i : Nat) := by rw [← ha, hen]
    subst hai
    subst h0
    have HP := Lib.hid (fun w' hv => way_pro l (.slice pa l.length cap) i w' hv g hi)
    have HIN := Lib.hid (pth_in hi)
    have h8 := way_len g hi
    have h1 : 1 ≤ (pth l (i : Nat)).length := by rw [pth_step, List.length_append, List.length_singleton]; omega
    unfold pathM
    obtain ⟨zs, hzs⟩ : ∃ zs, pth l (i : Nat) = zs := ⟨_, rfl⟩
    have HZS := Lib.hid hzs
    rw [hzs] at h8 h1 HIN ⊢
    have hl9 := g.len
    have HL := Lib.hid g.len
    clear hv ha hb g hen hat hi hzs
    go_enter Try.func32, Try.ntmps32
    go_wp2_with fail
    refine HC.out.mono ?_
    unfold EntIs
    rw [HA.out, HB.out]
    rintro e w1 ⟨rfl, hb1⟩
    have HB1 := Lib.hid hb1
    clear hb1
    go_wp2_with fail
    refine (HP.out _ (HV.out.below HB1.out)).mono ?_
    rintro e w2 ⟨v2, rfl, ho, hb2⟩
    rw [HZS.out] at ho
    have HB2 := Lib.hid (HB1.out.trans (hb2.mono HB1.out.size))
    rcases ho.2 with ⟨_, e0⟩ | ⟨gb, cp, cur, rfl, hgb, hgo, hcp1, hcp2, hcp3, hcp4⟩
    · simp at e0
    have HRZ := Lib.hid (RdZ.own (zs := -1 :: natZ zs) (n := zs.length + 1) ho (by simp [natZ]))
    have hcp : cp ≠ 1 := by omega
    have hcp0 : 1 ≤ cp := by omega
    clear ho hb2 hgb hgo hcp3 hcp4 
    go_wp2_with fail
    go_loopw [8, 25] (fun s8 s25 wr => ∃ k : Nat, s25 = .int .i64 (k : Nat) ∧ k ≤ zs.length ∧ Hid (wr.ownsRow w2.heap.size 3 1 s8 k (numsZ ((zs.take k).map fun k => tpN l k))) ∧ Hid (Below w2.heap.size w2 wr)) (fun _ i _ => zs.length - (intOf i).toNat)
    case atStart => exact ⟨0, rfl, Nat.zero_le _, Lib.hid (World.ownsRow_nil _ _ _ _), Lib.hid (Below.refl _ _)⟩
    case round =>
      obtain ⟨k, rfl, hk, HO, HB4⟩ := hrel
      have HB3 := Lib.hid (HB2.out.trans (HB4.out.mono HB2.out.size))
      obtain ⟨pv, cv, hvv⟩ := lenL HO.out
      subst hvv
      by_cases hlt : k < zs.length
      · obtain ⟨b9, o9, hpa, c0⟩ := (HRZ.out.below HB4.out).cell' (n := zs.length + 1) (by simp [natZ]) (j := k + 1) (by simp [natZ]; omega)
        cases hpa
        have hel : (-1 :: natZ zs)[k + 1]'(by simp [natZ]; omega) = (zs[k] : Int) := by simp [natZ]
        rw [hel, Nat.zero_add] at c0
        have HTK := Lib.hid (show (zs.take (k + 1)).map (fun k => tpN l k) = (zs.take k).map (fun k => tpN l k) ++ [tpN l zs[k]] by rw [List.take_succ_eq_append_getElem hlt, List.map_append]; rfl)
        have hzk := HIN.out zs[k] (List.getElem_mem hlt)
        obtain ⟨z, hz⟩ : ∃ z, zs[k] = z := ⟨_, rfl⟩
        rw [hz] at c0 HTK hzk
        obtain ⟨b7, o7, hpa7, d0, _⟩ := (HV.out.below HB3.out).cell (j := z) hzk
        subst hpa7
        obtain ⟨q, hq⟩ : ∃ q, tpN l z = q := ⟨_, rfl⟩
        rw [hq] at d0 HTK
        have hzz1 : (z : Int) < l.length := by omega
        have hk1 : (k : Int) < zs.length := by omega
        have c1 : wr.cell? ⟨gb, 1 + k, none⟩ = some (.int .i64 (z : Nat)) := by rw [Nat.add_comm]; exact c0
        have HLT := Lib.hid hlt
        have M1 := Lib.hid (show k + 1 ≤ maxLen by unfold maxLen; omega)
        have M2 := Lib.hid (show (k + 1) * 8 ≤ 140737488355328 by omega)
        have M3 := Lib.hid (show w2.heap.size ≤ (wr.alloc (.cells #[.int .i64 q] 3)).heap.size by have := HB4.out.size; simp; omega)
        clear hlt hzk hz hq c0 hel
        go_wp2_with (at_builtin; go_loud (refine wpList_append_own_at _ rfl _ _ 28 rfl w2.heap.size 3 i0 (.int .i64 0) 1 8 Try.underlying28 hi0 hz0 hz1 hz2 rfl (by decide) _ _ _ rfl (HO.out.alloc _) ⟨wr.heap.size, 0, none⟩ 1 1 [.int .i64 q] rfl rfl (cells_newL _ _ _) (numsZ_one [q]) M1.out M2.out M3.out ?_); intro v' w3 hown' hgrow _ hat; have HO1 := Lib.hid hown'; have HG1 := Lib.hid hgrow; clear hown' hgrow hat)
        go_roundw
        case measure => have := HLT.out; first | (simp [intOf]; done) | (simp [intOf]; omega)
        case rel =>
          refine ⟨k + 1, by go_num, by have := HLT.out; omega, Lib.hid ?_, Lib.hid ((HB4.out.alloc HB4.out.size _).grown HG1.out M3.out (fun r e => (own_base HO.out e).1))⟩
          rw [HTK.out, numsZ_app]
          exact HO1.out
      · obtain rfl : k = zs.length := by omega
        have hkx : ¬ ((zs.length : Nat) : Int) < zs.length := by omega
        have ho := HO.out
        rw [List.take_length] at ho
        have HF := Lib.hid (show NewZ (zs.map fun k => tpN l k) 0 w (.returned (.tuple #[.slice pv zs.length cv, .int .i64 0])) wr from ⟨_, rfl, by
          rw [List.length_map]
          exact World.ownsRow.mono ho HB2.out.size, HB3.out⟩)
        clear hlt hk ho
        go_wp2_with fail
        go_ret2
        exact HF.out
  · rw [hb, if_neg h0]
    have t1 : (b != 0) = true := by simpa using h0
    clear hv ha hb h0
    go_enter Try.func32, Try.ntmps32
    go_wp2_with fail
    refine HC.out.mono ?_
    unfold EntIs
    rw [HA.out, HB.out]
    rintro e w1 ⟨rfl, hb1⟩
    have HB1 := Lib.hid hb1
    clear hb1
    go_wp2_with fail
    go_ret2
    exact NewZ.none _ _ _ HB1.out
end Go.Proofs.Ytjnnkelbedmccaa
