/- Layer 10: the document's Next, Prev, Up, Path. -/
import Derived.Test.YtjnnkelbedmccaaTon
namespace Go.Proofs.Ytjnnkelbedmccaa
open Go.RowKit Go.Maps Go.Sort
set_option linter.unusedVariables false

theorem besE_eq (l : List Ent) (x d : Int) : besE l x d = if gdE l ≠ 0 then (0, gdE l) else if atF l x < 0 ∨ ¬ (0 ≤ atF l x + d ∧ atF l x + d < l.length) then (0, 3) else (tpN l (atF l x + d).toNat, 0) := by
  unfold besE entE
  by_cases h1 : gdE l ≠ 0
  · rw [if_pos h1, if_pos h1, if_pos h1]
  · rw [if_neg h1, if_neg h1]
    by_cases h2 : atF l x < 0
    · rw [if_pos h2, if_pos (show ((0 : Int), (3 : Int)).2 ≠ 0 by decide), if_pos (Or.inl h2)]
    · rw [if_neg h2, if_neg (by simp)]
      by_cases h3 : 0 ≤ atF l x + d ∧ atF l x + d < l.length
      · rw [if_pos h3, if_neg (by rintro (h | h); exact h2 h; exact h h3)]
      · rw [if_neg h3, if_pos (.inr h3)]
theorem upE_eq (l : List Ent) (x : Int) : upE l x = if gdE l ≠ 0 then (0, gdE l) else if atF l x < 0 ∨ abv l (atF l x).toNat < 0 then (0, 3) else (tpN l (abv l (atF l x).toNat).toNat, 0) := by
  unfold upE entE
  by_cases h1 : gdE l ≠ 0
  · rw [if_pos h1, if_pos h1, if_pos h1]
  · rw [if_neg h1, if_neg h1]
    by_cases h2 : atF l x < 0
    · rw [if_pos h2, if_pos (show ((0 : Int), (3 : Int)).2 ≠ 0 by decide), if_pos (Or.inl h2)]
    · rw [if_neg h2, if_neg (by simp)]
      have h4 := abv_lt l (atF l x).toNat
      by_cases h3 : abv l (atF l x).toNat = -1
      · rw [if_pos h3, if_pos (.inr (by omega))]
      · rw [if_neg h3, if_neg (by rintro (h | h); exact h2 h; omega)]
set_option maxRecDepth 100000 in
theorem dbes_ref (l : List Ent) (v : Value) (x d : Int) (w : World) (hv : RdE w v l) (hd : -1 ≤ d ∧ d ≤ 1) : Calls Try.prog 56 #[v, .int .i64 x, .int .i64 d] w (TwoIs (besE l x d) w) := by
  have HC := Lib.hid (good_ref l v w hv)
  have HV := Lib.hid hv
  obtain ⟨pa, cap, rfl, _, _⟩ := hv.form
  rw [besE_eq]
  by_cases hg : gdE l = 0
  · rw [if_neg (by simp [hg])]
    rw [hg] at HC
    have hl := (gd_of hg).len
    have HAT := Lib.hid (fun w' hv => at_ref l (.slice pa l.length cap) x w' hv hl)
    have hat : atF l x < l.length ∧ -1 ≤ atF l x := by rcases atF_cases l x with ⟨i, h1, _, h2⟩ | ⟨_, h2⟩ <;> rw [h2] <;> omega
    obtain ⟨z, hz⟩ : ∃ z, atF l x = z := ⟨_, rfl⟩
    rw [hz] at HAT hat ⊢
    have hw : wrap64 (z + d) = z + d := IntWalk.wrap64_in _ (by omega)
    by_cases hn : z < 0
    · rw [if_pos (.inl hn)]
      clear hv hg hz hat
      go_enter Try.func56, Try.ntmps56
      go_wp2_with fail
      refine HC.out.mono ?_
      rintro e w1 ⟨rfl, hb1⟩
      have HB1 := Lib.hid hb1
      clear hb1
      go_wp2_with fail
      refine (HAT.out _ (HV.out.below HB1.out)).mono ?_
      rintro e w2 ⟨rfl, rfl⟩
      go_wp2_with fail
      go_ret2
      exact ⟨rfl, HB1.out⟩
    · by_cases h1 : z + d < 0
      · rw [if_pos (.inr (by omega))]
        have hn' : 0 ≤ z := by omega
        clear hv hg hz hat hn
        go_enter Try.func56, Try.ntmps56
        go_wp2_with fail
        refine HC.out.mono ?_
        rintro e w1 ⟨rfl, hb1⟩
        have HB1 := Lib.hid hb1
        clear hb1
        go_wp2_with fail
        refine (HAT.out _ (HV.out.below HB1.out)).mono ?_
        rintro e w2 ⟨rfl, rfl⟩
        go_wp2_with fail
        go_ret2
        exact ⟨rfl, HB1.out⟩
      · by_cases h2 : (l.length : Int) ≤ z + d
        · rw [if_pos (.inr (by omega))]
          have hn' : 0 ≤ z := by omega
          have h1' : 0 ≤ z + d := by omega
          clear hv hg hz hat hn h1
          go_enter Try.func56, Try.ntmps56
          go_wp2_with fail
          refine HC.out.mono ?_
          rintro e w1 ⟨rfl, hb1⟩
          have HB1 := Lib.hid hb1
          clear hb1
          go_wp2_with fail
          refine (HAT.out _ (HV.out.below HB1.out)).mono ?_
          rintro e w2 ⟨rfl, rfl⟩
          go_wp2_with fail
          go_ret2
          exact ⟨rfl, HB1.out⟩
        · rw [if_neg (by omega)]
          have hn' : 0 ≤ z := by omega
          obtain ⟨y, hy⟩ : ∃ y : Nat, z + d = y := ⟨(z + d).toNat, by omega⟩
          rw [hy] at hw h1 h2 ⊢
          rw [Int.toNat_natCast]
          have hyl : y < l.length := by omega
          have HYL := Lib.hid hyl
          have hy1 : (y : Int) < l.length := by omega
          obtain ⟨q, hq⟩ : ∃ q, tpN l y = q := ⟨_, rfl⟩
          have HQ := Lib.hid hq
          rw [hq]
          clear hv hg hz hat hn hyl hq h1 h2
          go_enter Try.func56, Try.ntmps56
          go_wp2_with fail
          refine HC.out.mono ?_
          rintro e w1 ⟨rfl, hb1⟩
          have HB1 := Lib.hid hb1
          obtain ⟨b9, o9, hpa, c0, _⟩ := (HV.out.below hb1).cell (j := y) HYL.out
          subst hpa
          rw [HQ.out] at c0
          clear hb1
          go_wp2_with fail
          refine (HAT.out _ (HV.out.below HB1.out)).mono ?_
          rintro e w2 ⟨rfl, rfl⟩
          go_wp2_with fail
          go_ret2
          exact ⟨rfl, HB1.out⟩
  · rw [if_pos hg]
    obtain ⟨g, hgg⟩ : ∃ g, gdE l = g := ⟨_, rfl⟩
    rw [hgg] at HC hg ⊢
    have t1 : (g != 0) = true := by simpa using hg
    clear hv hg hgg
    go_enter Try.func56, Try.ntmps56
    go_wp2_with fail
    refine HC.out.mono ?_
    rintro e w1 ⟨rfl, hb1⟩
    have HB1 := Lib.hid hb1
    clear hb1
    go_wp2_with fail
    go_ret2
    exact ⟨rfl, HB1.out⟩
set_option maxRecDepth 100000 in
theorem dnext_ref (l : List Ent) (v : Value) (x : Int) (w : World) (hv : RdE w v l) : Calls Try.prog 27 #[v, .int .i64 x] w (TwoIs (besE l x 1) w) := by
  have HC := Lib.hid (dbes_ref l v x 1 w hv (by omega))
  obtain ⟨pa, cap, rfl, _, _⟩ := hv.form
  obtain ⟨⟨a, b⟩, ha⟩ : ∃ a, besE l x 1 = a := ⟨_, rfl⟩
  rw [ha] at HC ⊢
  clear hv ha
  go_enter Try.func27, Try.ntmps27
  go_wp2_with fail
  refine HC.out.mono ?_
  rintro e w1 ⟨rfl, hb1⟩
  have HB1 := Lib.hid hb1
  clear hb1
  go_wp2_with fail
  go_ret2
  exact ⟨rfl, HB1.out⟩
set_option maxRecDepth 100000 in
theorem dprev_ref (l : List Ent) (v : Value) (x : Int) (w : World) (hv : RdE w v l) : Calls Try.prog 29 #[v, .int .i64 x] w (TwoIs (besE l x (-1)) w) := by
  have HC := Lib.hid (dbes_ref l v x (-1) w hv (by omega))
  obtain ⟨pa, cap, rfl, _, _⟩ := hv.form
  obtain ⟨⟨a, b⟩, ha⟩ : ∃ a, besE l x (-1) = a := ⟨_, rfl⟩
  rw [ha] at HC ⊢
  clear hv ha
  go_enter Try.func29, Try.ntmps29
  go_wp2_with fail
  refine HC.out.mono ?_
  rintro e w1 ⟨rfl, hb1⟩
  have HB1 := Lib.hid hb1
  clear hb1
  go_wp2_with fail
  go_ret2
  exact ⟨rfl, HB1.out⟩
set_option maxRecDepth 100000 in
theorem dup_ref (l : List Ent) (v : Value) (x : Int) (w : World) (hv : RdE w v l) : Calls Try.prog 31 #[v, .int .i64 x] w (TwoIs (upE l x) w) := by
  have HC := Lib.hid (good_ref l v w hv)
  have HV := Lib.hid hv
  obtain ⟨pa, cap, rfl, _, _⟩ := hv.form
  rw [upE_eq]
  by_cases hg : gdE l = 0
  · rw [if_neg (by simp [hg])]
    rw [hg] at HC
    have hl := (gd_of hg).len
    have HG := Lib.hid (gd_of hg)
    have HAT := Lib.hid (fun w' hv => at_ref l (.slice pa l.length cap) x w' hv hl)
    have hat : atF l x < l.length ∧ -1 ≤ atF l x := by rcases atF_cases l x with ⟨i, h1, _, h2⟩ | ⟨_, h2⟩ <;> rw [h2] <;> omega
    obtain ⟨z, hz⟩ : ∃ z, atF l x = z := ⟨_, rfl⟩
    rw [hz] at HAT hat ⊢
    by_cases hn : z < 0
    · rw [if_pos (.inl hn)]
      clear hv hg hz hat
      go_enter Try.func31, Try.ntmps31
      go_wp2_with fail
      refine HC.out.mono ?_
      rintro e w1 ⟨rfl, hb1⟩
      have HB1 := Lib.hid hb1
      clear hb1
      go_wp2_with fail
      refine (HAT.out _ (HV.out.below HB1.out)).mono ?_
      rintro e w2 ⟨rfl, rfl⟩
      go_wp2_with fail
      go_ret2
      exact ⟨rfl, HB1.out⟩
    · obtain ⟨y, rfl⟩ : ∃ y : Nat, z = y := ⟨z.toNat, by omega⟩
      rw [Int.toNat_natCast]
      have HAB := Lib.hid (fun w' hv => above_ref l (.slice pa l.length cap) y w' hv HG.out (by omega))
      have hlt := abv_lt l y
      have hyz : (0 : Int) ≤ y := by omega
      obtain ⟨p, hp⟩ : ∃ p, abv l y = p := ⟨_, rfl⟩
      rw [hp] at HAB hlt ⊢
      by_cases hr : p < 0
      · rw [if_pos (.inr hr)]
        clear hv hg hz hat hn hp hlt
        go_enter Try.func31, Try.ntmps31
        go_wp2_with fail
        refine HC.out.mono ?_
        rintro e w1 ⟨rfl, hb1⟩
        have HB1 := Lib.hid hb1
        clear hb1
        go_wp2_with fail
        refine (HAT.out _ (HV.out.below HB1.out)).mono ?_
        rintro e w2 ⟨rfl, rfl⟩
        go_wp2_with fail
        refine (HAB.out _ (HV.out.below HB1.out)).mono ?_
        rintro e w3 ⟨rfl, hb3⟩
        have HB3 := Lib.hid (HB1.out.trans (hb3.mono HB1.out.size))
        clear hb3
        go_wp2_with fail
        go_ret2
        exact ⟨rfl, HB3.out⟩
      · rw [if_neg (by rintro (h | h); omega; exact hr h)]
        obtain ⟨u, rfl⟩ : ∃ u : Nat, p = u := ⟨p.toNat, by omega⟩
        rw [Int.toNat_natCast]
        have hul : u < l.length := by omega
        have HUL := Lib.hid hul
        have hu1 : (u : Int) < l.length := by omega
        obtain ⟨q, hq⟩ : ∃ q, tpN l u = q := ⟨_, rfl⟩
        have HQ := Lib.hid hq
        rw [hq]
        clear hv hg hz hat hn hp hlt hul hq hr
        go_enter Try.func31, Try.ntmps31
        go_wp2_with fail
        refine HC.out.mono ?_
        rintro e w1 ⟨rfl, hb1⟩
        have HB1 := Lib.hid hb1
        clear hb1
        go_wp2_with fail
        refine (HAT.out _ (HV.out.below HB1.out)).mono ?_
        rintro e w2 ⟨rfl, rfl⟩
        go_wp2_with fail
        refine (HAB.out _ (HV.out.below HB1.out)).mono ?_
        rintro e w3 ⟨rfl, hb3⟩
        have HB3 := Lib.hid (HB1.out.trans (hb3.mono HB1.out.size))
        clear hb3
        go_wp2_with fail
        refine (HAB.out _ (HV.out.below HB3.out)).mono ?_
        rintro e w4 ⟨rfl, hb4⟩
        have HB4 := Lib.hid (HB3.out.trans (hb4.mono HB3.out.size))
        obtain ⟨b9, o9, hpa, c0, _⟩ := (HV.out.below HB4.out).cell (j := u) HUL.out
        subst hpa
        rw [HQ.out] at c0
        clear hb4
        go_wp2_with fail
        go_ret2
        exact ⟨rfl, HB4.out⟩
  · rw [if_pos hg]
    obtain ⟨g, hgg⟩ : ∃ g, gdE l = g := ⟨_, rfl⟩
    rw [hgg] at HC hg ⊢
    have t1 : (g != 0) = true := by simpa using hg
    clear hv hg hgg
    go_enter Try.func31, Try.ntmps31
    go_wp2_with fail
    refine HC.out.mono ?_
    rintro e w1 ⟨rfl, hb1⟩
    have HB1 := Lib.hid hb1
    clear hb1
    go_wp2_with fail
    go_ret2
    exact ⟨rfl, HB1.out⟩
theorem entE_eq (l : List Ent) (x : Int) : (entE l x).2 = if gdE l ≠ 0 then gdE l else if atF l x < 0 then 3 else 0 := by
  unfold entE
  by_cases h1 : gdE l ≠ 0
  · rw [if_pos h1, if_pos h1]
  · rw [if_neg h1, if_neg h1]
    by_cases h2 : atF l x < 0
    · rw [if_pos h2, if_pos h2]
    · rw [if_neg h2, if_neg h2]
set_option maxRecDepth 100000 in
set_option maxHeartbeats 2000000 in
theorem dpath_ref (l : List Ent) (v : Value) (x : Int) (w : World) (hv : RdE w v l) : Calls Try.prog 33 #[v, .int .i64 x] w (NewZ (if (entE l x).2 = 0 then pathM l (atF l x) else []) (entE l x).2 w) := by
  have HC := Lib.hid (good_ref l v w hv)
  have HV := Lib.hid hv
  obtain ⟨pa, cap, rfl, _, _⟩ := hv.form
  rw [entE_eq]
  by_cases hg : gdE l = 0
  · rw [if_neg (show ¬ gdE l ≠ 0 by simp [hg])]
    rw [hg] at HC
    have hl := (gd_of hg).len
    have HG := Lib.hid (gd_of hg)
    have HL := Lib.hid hl
    have HAT := Lib.hid (fun w' hv => at_ref l (.slice pa l.length cap) x w' hv hl)
    have hat : atF l x < l.length ∧ -1 ≤ atF l x := by rcases atF_cases l x with ⟨i, h1, _, h2⟩ | ⟨_, h2⟩ <;> rw [h2] <;> omega
    obtain ⟨z, hz⟩ : ∃ z, atF l x = z := ⟨_, rfl⟩
    rw [hz] at HAT hat ⊢
    by_cases hn : z < 0
    · rw [if_pos hn, if_neg (by decide)]
      clear hv hg hz hat
      go_enter Try.func33, Try.ntmps33
      go_wp2_with fail
      refine HC.out.mono ?_
      rintro e w1 ⟨rfl, hb1⟩
      have HB1 := Lib.hid hb1
      clear hb1
      go_wp2_with fail
      refine (HAT.out _ (HV.out.below HB1.out)).mono ?_
      rintro e w2 ⟨rfl, rfl⟩
      go_wp2_with fail
      go_ret2
      exact NewZ.none _ _ _ HB1.out
    · rw [if_neg hn, if_pos rfl]
      obtain ⟨i, rfl⟩ : ∃ i : Nat, z = i := ⟨z.toNat, by omega⟩
      have HI := Lib.hid (show i < l.length by omega)
      have hi0 : (0 : Int) ≤ i := by omega
      unfold pathM
      clear hv hg hz hat hn
      go_enter Try.func33, Try.ntmps33
      go_wp2_with fail
      refine HC.out.mono ?_
      rintro e w1 ⟨rfl, hb1⟩
      have HB1 := Lib.hid hb1
      clear hb1
      go_wp2_with fail
      refine (HAT.out _ (HV.out.below HB1.out)).mono ?_
      rintro e w2 ⟨rfl, rfl⟩
      go_wp2_with fail
      go_loopw [7, 8] (fun s7 s8 wr => ∃ (n : Int) (suf : List Nat), s7 = .int .i64 n ∧ -1 ≤ n ∧ n < l.length ∧ Hid (pth l (i : Nat) = pth l n ++ suf) ∧ Hid (wr.ownsRow w.heap.size 3 1 s8 suf.length (numsZ (suf.map fun k => tpN l k))) ∧ Hid (Below w.heap.size w wr)) (fun s _ _ => (intOf s + 1).toNat)
      case atStart => exact ⟨(i : Nat), [], rfl, by omega, by have := HI.out; omega, Lib.hid (by simp), Lib.hid (World.ownsRow_nil _ _ _ _), HB1⟩
      case round =>
        obtain ⟨n, suf, rfl, hn0, hn1, HP, HO, HB⟩ := hrel
        obtain ⟨pv, cv, hvv⟩ := lenL HO.out
        subst hvv
        by_cases h0 : 0 ≤ n
        · obtain ⟨c, rfl⟩ : ∃ c : Nat, n = c := ⟨n.toNat, by omega⟩
          have hcl : c < l.length := by omega
          obtain ⟨b9, o9, hpa, c0, _⟩ := (HV.out.below HB.out).cell (j := c) hcl
          subst hpa
          have h8 := way_len HG.out HI.out
          have hsl : suf.length ≤ 8 := by
            have := congrArg List.length HP.out
            rw [List.length_append] at this
            omega
          have hA : Below wr.heap.size wr (wr.alloc (.cells #[.int .i64 (tpN l c)] 3)) := (Below.refl _ _).alloc (Nat.le_refl _) _
          obtain ⟨v', w', hr, ho, hb⟩ := run_twinZ (wr.alloc (.cells #[.int .i64 (tpN l c)] 3)) 28 (suf.map fun k => tpN l k) [tpN l c] (.slice pv suf.length cv) (.slice (some ⟨wr.heap.size, 0, none⟩) 1 1) ((RdZ.own (zs := suf.map fun k => tpN l k) HO.out (by simp)).below hA) (by simp; omega) wr.heap.size ⟨rfl, .inr ⟨wr.heap.size, 1, _, rfl, Nat.le_refl _, World.alloc_heap_new wr _, Nat.le_refl _, by decide, rfl, rfl⟩⟩ (by simp)
          have HR := Lib.hid hr
          have hb2 := HB.out.trans ((hA.trans hb).mono HB.out.size)
          have HBN := Lib.hid hb2
          have HON := Lib.hid (show w'.ownsRow w.heap.size 3 1 v' (c :: suf).length (numsZ ((c :: suf).map fun k => tpN l k)) from World.ownsRow.mono (by simpa using ho) HB.out.size)
          have HAB := Lib.hid (above_ref l (.slice (some ⟨b9, o9, none⟩) l.length cap) c w' (HV.out.below hb2) HG.out hcl)
          have HPN := Lib.hid (show pth l (i : Nat) = pth l (abv l c) ++ (c :: suf) by rw [HP.out, pth_step l c, List.append_assoc]; rfl)
          have hlt := abv_lt l c
          obtain ⟨p, hp⟩ : ∃ p, abv l c = p := ⟨_, rfl⟩
          rw [hp] at HAB HPN hlt
          obtain ⟨q, hq⟩ : ∃ q, tpN l c = q := ⟨_, rfl⟩
          rw [hq] at HR c0
          have HLT := Lib.hid (show -1 ≤ p ∧ p < l.length ∧ p < c by omega)
          have hc1 : (c : Int) < l.length := by omega
          clear hcl h8 hsl hA hr ho hb hb2 hlt hp hq
          go_wp2_with (at_builtin; go_loud (refine wpList_app2 rfl _ _ _ rfl rfl rfl HR.out ?_))
          refine HAB.out.mono ?_
          rintro e w3 ⟨rfl, hb3⟩
          have HB3 := Lib.hid (HBN.out.trans (hb3.mono HBN.out.size))
          have HO3 := Lib.hid (own_stays HON.out fun c e => hb3.block c (own_base HON.out e).2)
          clear hb3
          go_wp2_with fail
          go_roundw
          case measure => have := HLT.out; first | (simp [intOf]; done) | (simp [intOf]; omega)
          case rel => exact ⟨p, c :: suf, rfl, HLT.out.1, HLT.out.2.1, HPN, HO3, HB3⟩
        · obtain rfl : n = -1 := by omega
          have HF := Lib.hid (show NewZ ((pth l (i : Nat)).map fun k => tpN l k) 0 w (.returned (.tuple #[.slice pv suf.length cv, .int .i64 0])) wr from ⟨_, rfl, by
            rw [HP.out, pth_root, List.nil_append, List.length_map]
            exact HO.out, HB.out⟩)
          clear h0
          go_wp2_with fail
          go_ret2
          exact HF.out
  · rw [if_pos (show gdE l ≠ 0 from hg), if_neg hg]
    obtain ⟨g, hgg⟩ : ∃ g, gdE l = g := ⟨_, rfl⟩
    rw [hgg] at HC hg ⊢
    have t1 : (g != 0) = true := by simpa using hg
    clear hv hg hgg
    go_enter Try.func33, Try.ntmps33
    go_wp2_with fail
    refine HC.out.mono ?_
    rintro e w1 ⟨rfl, hb1⟩
    have HB1 := Lib.hid hb1
    clear hb1
    go_wp2_with fail
    go_ret2
    exact NewZ.none _ _ _ HB1.out
end Go.Proofs.Ytjnnkelbedmccaa
