/- Layer 10: the document's below, End, Kids. -/
import Derived.Test.YtjnnkelbedmccaaTom
namespace Go.Proofs.Ytjnnkelbedmccaa
open Go.RowKit Go.Maps Go.Sort
set_option linter.unusedVariables false

set_option maxRecDepth 100000 in
set_option maxHeartbeats 1000000 in
theorem dbelow_ref (l : List Ent) (v : Value) (k i : Nat) (w : World) (hv : RdE w v l) (g : Gd l) (hk : k < l.length) (hi : i < l.length) (hik : i < k) :
    Calls Try.prog 51 #[v, .int .i64 (k : Nat), .int .i64 (i : Nat)] w fun e w' => ∃ b : Bool, e = .returned (.bool b) ∧ (b = true ↔ under l (i : Nat) k) ∧ Below w.heap.size w w' := by
  have HV := Lib.hid hv
  have HG := Lib.hid g
  obtain ⟨pa, cap, rfl, _, _⟩ := hv.form
  have HK := Lib.hid hk
  have HIK := Lib.hid hik
  have hl := g.len
  have hi9 : (i : Int) ≤ 1000 := by omega
  clear hv g hik
  go_enter Try.func51, Try.ntmps51
  go_wp2_with fail
  go_loopw [1] (fun s wr => ∃ n : Int, s = .int .i64 n ∧ -1 ≤ n ∧ n < l.length ∧ Hid (under l (i : Nat) k ↔ ((i : Int) < n ∧ under l (i : Nat) n.toNat)) ∧ Hid (Below w.heap.size w wr)) (fun s _ => (intOf s + 1).toNat)
  case atStart => exact ⟨(k : Nat), rfl, by omega, by have := HK.out; omega, Lib.hid (by rw [Int.toNat_natCast]; exact ⟨fun h => ⟨by have := HIK.out; omega, h⟩, fun h => h.2⟩), Lib.hid (Below.refl _ _)⟩
  case round =>
    obtain ⟨n, rfl, hn0, hn1, HN, HB⟩ := hrel
    by_cases h0 : 0 ≤ n
    · obtain ⟨c, rfl⟩ : ∃ c : Nat, n = c := ⟨n.toNat, by omega⟩
      have HAB := Lib.hid (above_ref l (.slice pa l.length cap) c wr (HV.out.below HB.out) HG.out (by omega))
      have hlt := abv_lt l c
      have hN := HN.out
      rw [Int.toNat_natCast] at hN
      have hst : (i : Int) < c → (under l (i : Nat) c ↔ abv l c = i ∨ ((i : Int) < abv l c ∧ under l (i : Nat) (abv l c).toNat)) := fun h => under_step HG.out (by omega) (by omega)
      obtain ⟨p, hp⟩ : ∃ p, abv l c = p := ⟨_, rfl⟩
      rw [hp] at HAB hlt hst
      by_cases he : p = (i : Nat)
      · have HF := Lib.hid (show under l (i : Nat) k from hN.2 ⟨by omega, (hst (by omega)).2 (.inl he)⟩)
        subst he
        have hi0 : (0 : Int) ≤ i := by omega
        have t1 : ((i : Int) == i) = true := by simp
        clear hN hst hp hlt
        go_wp2_with fail
        refine HAB.out.mono ?_
        rintro e w1 ⟨rfl, hb1⟩
        have HB1 := Lib.hid (HB.out.trans (hb1.mono HB.out.size))
        clear hb1
        go_wp2_with fail
        go_ret
        exact ⟨true, rfl, ⟨fun _ => HF.out, fun _ => rfl⟩, HB1.out⟩
      · have HF := Lib.hid (show under l (i : Nat) k ↔ ((i : Int) < p ∧ under l (i : Nat) p.toNat) by
          rw [hN]
          rcases (show (i : Int) < c ∨ ¬ (i : Int) < c by omega) with h5 | h5
          · rw [hst h5]
            exact ⟨fun h => h.2.resolve_left he, fun h => ⟨h5, .inr h⟩⟩
          · exact ⟨fun h => absurd h.1 h5, fun h => absurd h.1 (by omega)⟩)
        have t1 : (p == (i : Int)) = false := by simpa using he
        have HP := Lib.hid (show -1 ≤ p ∧ p < l.length ∧ p < c by omega)
        clear hN hst hp hlt he
        go_wp2_with fail
        refine HAB.out.mono ?_
        rintro e w1 ⟨rfl, hb1⟩
        have HB1 := Lib.hid (HB.out.trans (hb1.mono HB.out.size))
        clear hb1
        go_wp2_with fail
        go_roundw
        case measure => have := HP.out; first | (simp [intOf]; done) | (simp [intOf]; omega)
        case rel => exact ⟨p, rfl, HP.out.1, HP.out.2.1, HF, HB1⟩
    · obtain rfl : n = -1 := by omega
      have HF := Lib.hid (show ¬ under l (i : Nat) k from fun h => by have := (HN.out.1 h).1; omega)
      clear h0
      go_wp2_with fail
      go_ret
      exact ⟨false, rfl, ⟨fun h => (by cases h), fun h => absurd h HF.out⟩, HB.out⟩
set_option maxRecDepth 100000 in
set_option maxHeartbeats 1000000 in
theorem dend_ref (l : List Ent) (v : Value) (i : Int) (w : World) (hv : RdE w v l) : Calls Try.prog 22 #[v, .int .i64 i] w (TwoIs (endE l i) w) := by
  have HC := Lib.hid (good_ref l v w hv)
  have HV := Lib.hid hv
  obtain ⟨pa, cap, rfl, _, _⟩ := hv.form
  unfold endE
  by_cases hg : gdE l = 0
  · rw [hg] at HC
    by_cases hi : 0 ≤ i ∧ i < l.length
    · rw [lookE_ok hg hi, if_pos rfl]
      obtain ⟨k, rfl⟩ : ∃ k : Nat, i = k := ⟨i.toNat, by omega⟩
      rw [Int.toNat_natCast]
      have HG := Lib.hid (gd_of hg)
      have HK := Lib.hid (show k < l.length by omega)
      have h1 : (k : Int) < l.length := by omega
      have d1 : decide ((l.length : Int) ≤ (k : Int)) = false := decide_eq_false (by omega)
      have d2 : decide (l.length ≤ k) = false := decide_eq_false (by omega)
      have d3 : decide ((k : Int) < 0) = false := decide_eq_false (by omega)
      have hl9 := (gd_of hg).len
      have hk9 : (k : Int) ≤ 1000 := by omega
      obtain ⟨E, hE⟩ : ∃ E, endM l k = E := ⟨_, rfl⟩
      have HE := Lib.hid hE
      rw [hE]
      clear hv hg hi hE
      go_enter Try.func22, Try.ntmps22
      go_wp2_with fail
      refine HC.out.mono ?_
      rintro e w1 ⟨rfl, hb1⟩
      have HB1 := Lib.hid hb1
      clear hb1
      go_wp2_with fail
      go_loopw [7] (fun s wr => ∃ m : Nat, s = .int .i64 ((k + 1 + m : Nat)) ∧ k + 1 + m ≤ l.length ∧ Hid (∀ j, j < m → lvN l k < lvN l (k + 1 + j)) ∧ Hid (Below w.heap.size w wr)) (fun s _ => l.length + 1 - (intOf s).toNat)
      case atStart => exact ⟨0, by go_num, by have := HK.out; omega, Lib.hid (fun j hj => absurd hj (Nat.not_lt_zero _)), HB1⟩
      case round =>
        obtain ⟨m, rfl, hm, HM, HB⟩ := hrel
        by_cases hlt : k + 1 + m < l.length
        · have hbel := dbelow_ref l (.slice pa l.length cap) (k + 1 + m) k wr (HV.out.below HB.out) HG.out hlt HK.out (by omega)
          have hund : under l (k : Nat) (k + 1 + m) ↔ lvN l k < lvN l (k + 1 + m) := by
            constructor
            · intro h
              have := h.2 (k + 1 + m) (by omega) (Nat.le_refl _)
              rwa [lvI_nat] at this
            · intro h
              refine ⟨by omega, fun j hj hjk => ?_⟩
              rw [lvI_nat]
              rcases Nat.eq_or_lt_of_le hjk with e | h5
              · rw [e]; exact h
              · have := HM.out (j - (k + 1)) (by omega)
                rwa [show k + 1 + (j - (k + 1)) = j by omega] at this
          have hmx := HM.out
          obtain ⟨z, hz⟩ : ∃ z, k + 1 + m = z := ⟨_, rfl⟩
          have HZ := Lib.hid hz
          rw [hz] at hbel hund hlt hm ⊢
          have HBL := Lib.hid hbel
          have HU := Lib.hid hund
          have hz1 : (z : Int) < l.length := by omega
          have HLT := Lib.hid hlt
          clear hbel hund hmx hlt hz hm
          go_wp2_with fail
          refine HBL.out.mono ?_
          rintro e w2 ⟨b, rfl, hbb, hb2⟩
          have HB2 := Lib.hid (HB.out.trans (hb2.mono HB.out.size))
          have HBB := Lib.hid hbb
          clear hb2 hbb
          cases b with
          | true =>
            have HN := Lib.hid (HU.out.1 (HBB.out.1 rfl))
            go_wp2_with fail
            go_roundw
            case measure => have := HLT.out; first | (simp [intOf]; done) | (simp [intOf]; omega)
            case rel =>
              have hz9 := HZ.out
              have hlt9 := HLT.out
              have hq : k + 1 + (m + 1) = z + 1 := by omega
              refine ⟨m + 1, ?_, by omega, Lib.hid (fun j hj => ?_), HB2⟩
              · rw [hq]; go_num
              rcases Nat.eq_or_lt_of_le (Nat.le_of_lt_succ hj) with e | h9
              · rw [e, HZ.out]; exact HN.out
              · exact HM.out j h9
          | false =>
            have HF := Lib.hid (show (E : Nat) = z by
              have := HBB.out
              have h5 : ¬ lvN l k < lvN l z := fun h => by have := this.2 (HU.out.2 h); cases this
              rw [← HE.out, ← HZ.out]
              unfold endM
              rw [blw_eq (k := m) (by have := HZ.out; have := HLT.out; omega) HM.out (fun _ => by rw [HZ.out]; omega)])
            go_wp2_with fail
            go_ret2
            exact ⟨by rw [HF.out]; rfl, HB2.out⟩
        · have HF := Lib.hid (show (E : Nat) = k + 1 + m by
            rw [← HE.out]
            unfold endM
            rw [blw_eq (k := m) hm HM.out (fun h => absurd h hlt)])
          obtain ⟨z, hz⟩ : ∃ z, k + 1 + m = z := ⟨_, rfl⟩
          rw [hz] at hlt HF ⊢
          have hz1 : ¬ (z : Int) < l.length := by omega
          clear hlt hm hz
          go_wp2_with fail
          go_ret2
          exact ⟨by rw [HF.out]; rfl, HB.out⟩
    · rw [lookE_out hg hi, if_neg (by decide)]
      rcases (show i < 0 ∨ (0 ≤ i ∧ (l.length : Int) ≤ i) by omega) with h1 | ⟨h1, h2⟩
      · clear hv hg hi
        go_enter Try.func22, Try.ntmps22
        go_wp2_with fail
        refine HC.out.mono ?_
        rintro e w1 ⟨rfl, hb1⟩
        have HB1 := Lib.hid hb1
        clear hb1
        go_wp2_with fail
        go_ret2
        exact ⟨rfl, HB1.out⟩
      · clear hv hg hi
        go_enter Try.func22, Try.ntmps22
        go_wp2_with fail
        refine HC.out.mono ?_
        rintro e w1 ⟨rfl, hb1⟩
        have HB1 := Lib.hid hb1
        clear hb1
        go_wp2_with fail
        go_ret2
        exact ⟨rfl, HB1.out⟩
  · rw [lookE_bad hg, if_neg hg]
    obtain ⟨g, hgg⟩ : ∃ g, gdE l = g := ⟨_, rfl⟩
    rw [hgg] at HC hg ⊢
    have t1 : (g != 0) = true := by simpa using hg
    clear hv hg hgg
    go_enter Try.func22, Try.ntmps22
    go_wp2_with fail
    refine HC.out.mono ?_
    rintro e w1 ⟨rfl, hb1⟩
    have HB1 := Lib.hid hb1
    clear hb1
    go_wp2_with fail
    go_ret2
    exact ⟨rfl, HB1.out⟩
theorem kidE_ok {l : List Ent} {i : Int} (hg : gdE l = 0) (h : -1 ≤ i ∧ i < l.length) : kidE l i = 0 := by unfold kidE; rw [if_neg (by simp [hg]), if_pos h]
theorem kidE_out {l : List Ent} {i : Int} (hg : gdE l = 0) (h : ¬ (-1 ≤ i ∧ i < l.length)) : kidE l i = 1 := by unfold kidE; rw [if_neg (by simp [hg]), if_neg h]
theorem kidE_bad {l : List Ent} {i : Int} (hg : gdE l ≠ 0) : kidE l i = gdE l := by unfold kidE; rw [if_pos hg]
theorem range_filter_succ (p : Nat → Bool) (k : Nat) : (List.range (k + 1)).filter p = if p k then (List.range k).filter p ++ [k] else (List.range k).filter p := by
  rw [List.range_succ, List.filter_append]
  by_cases h : p k = true <;> simp [h]
theorem filter_len (p : Nat → Bool) (k : Nat) : ((List.range k).filter p).length ≤ k := Nat.le_trans (List.length_filter_le _ _) (by simp)
set_option maxRecDepth 100000 in
set_option maxHeartbeats 1000000 in
theorem dkids_ref (l : List Ent) (v : Value) (i : Int) (w : World) (hv : RdE w v l) : Calls Try.prog 24 #[v, .int .i64 i] w (NewZ (if kidE l i = 0 then natZ (kidsM l i) else []) (kidE l i) w) := by
  obtain ⟨i0, hi0, hz0, hz1, hz2⟩ := info_parts infoI
  have HC := Lib.hid (good_ref l v w hv)
  have HV := Lib.hid hv
  obtain ⟨pa, cap, rfl, _, _⟩ := hv.form
  by_cases hg : gdE l = 0
  · rw [hg] at HC
    by_cases hi : -1 ≤ i ∧ i < l.length
    · rw [kidE_ok hg hi, if_pos rfl]
      have HG := Lib.hid (gd_of hg)
      have h1 : ¬ i < -1 := by omega
      have h2 : ¬ (l.length : Int) ≤ i := by omega
      have hl9 := (gd_of hg).len
      have HL := Lib.hid hl9
      clear hv hg hi
      go_enter Try.func24, Try.ntmps24
      go_wp2_with fail
      refine HC.out.mono ?_
      rintro e w1 ⟨rfl, hb1⟩
      have HB1 := Lib.hid hb1
      clear hb1
      go_wp2_with fail
      go_loopw [7, 8] (fun s7 s8 wr => ∃ k : Nat, s8 = .int .i64 (k : Nat) ∧ k ≤ l.length ∧ Hid (wr.ownsRow w.heap.size 3 1 s7 ((List.range k).filter fun k => decide (abv l k = i)).length (numsZ (natZ ((List.range k).filter fun k => decide (abv l k = i))))) ∧ Hid (Below w.heap.size w wr)) (fun _ s _ => l.length - (intOf s).toNat)
      case atStart => exact ⟨0, rfl, Nat.zero_le _, Lib.hid (World.ownsRow_nil _ _ _ _), HB1⟩
      case round =>
        obtain ⟨k, rfl, hk, HO, HB⟩ := hrel
        by_cases hlt : k < l.length
        · have HAB := Lib.hid (above_ref l (.slice pa l.length cap) k wr (HV.out.below HB.out) HG.out hlt)
          have hfs := range_filter_succ (fun k => decide (abv l k = i)) k
          have hfl := filter_len (fun k => decide (abv l k = i)) k
          obtain ⟨p, hp⟩ : ∃ p, abv l k = p := ⟨_, rfl⟩
          rw [hp] at HAB hfs
          obtain ⟨zs, hzs⟩ : ∃ zs, ((List.range k).filter fun k => decide (abv l k = i)) = zs := ⟨_, rfl⟩
          rw [hzs] at hfs hfl HO
          have HLT := Lib.hid hlt
          have hk1 : (k : Int) < l.length := by omega
          have hk9 : k ≤ 1000 := by have := HL.out; omega
          by_cases he : p = i
          · rw [if_pos (by simp [he])] at hfs
            have HFS := Lib.hid hfs
            have t1 : (p == i) = true := by simp [he]
            have M1 := Lib.hid (show zs.length + 1 ≤ maxLen by unfold maxLen; omega)
            have M2 := Lib.hid (show (zs.length + 1) * 8 ≤ 140737488355328 by omega)
            clear hfs hfl hp hzs hlt he
            go_wp2_with fail
            refine HAB.out.mono ?_
            rintro e w2 ⟨rfl, hb2⟩
            have HB2 := Lib.hid (HB.out.trans (hb2.mono HB.out.size))
            have HO2 := Lib.hid (own_stays HO.out fun c e => hb2.block c (own_base HO.out e).2)
            have M3 := Lib.hid (show w.heap.size ≤ (w2.alloc (.cells #[.int .i64 (k : Nat)] 3)).heap.size by have := HB2.out.size; simp; omega)
            clear hb2
            go_wp2_with (at_builtin; go_loud (refine wpList_append_own_at _ rfl _ _ 28 rfl w.heap.size 3 i0 (.int .i64 0) 1 8 Try.underlying28 hi0 hz0 hz1 hz2 rfl (by decide) _ _ _ rfl (HO2.out.alloc _) ⟨w2.heap.size, 0, none⟩ 1 1 [.int .i64 (k : Nat)] rfl rfl (cells_newL _ _ _) (numsZ_one [(k : Int)]) M1.out M2.out M3.out ?_); intro v' w3 hown' hgrow _ hat; have HO1 := Lib.hid hown'; have HG1 := Lib.hid hgrow; clear hown' hgrow hat)
            go_roundw
            case measure => have := HLT.out; first | (simp [intOf]; done) | (simp [intOf]; omega)
            case rel =>
              refine ⟨k + 1, by go_num, by have := HLT.out; omega, Lib.hid ?_, Lib.hid ((HB2.out.alloc HB2.out.size _).grown HG1.out M3.out (fun r e => (own_base HO2.out e).1))⟩
              rw [HFS.out, natZ_app, numsZ_app, List.length_append]
              exact HO1.out
          · rw [if_neg (by simp [he])] at hfs
            have HFS := Lib.hid hfs
            have t1 : (p == i) = false := by simpa using he
            clear hfs hfl hp hzs hlt he
            go_wp2_with fail
            refine HAB.out.mono ?_
            rintro e w2 ⟨rfl, hb2⟩
            have HB2 := Lib.hid (HB.out.trans (hb2.mono HB.out.size))
            have HO2 := Lib.hid (own_stays HO.out fun c e => hb2.block c (own_base HO.out e).2)
            clear hb2
            go_wp2_with fail
            go_roundw
            case measure => have := HLT.out; first | (simp [intOf]; done) | (simp [intOf]; omega)
            case rel => exact ⟨k + 1, by go_num, by have := HLT.out; omega, by rw [HFS.out]; exact HO2, HB2⟩
        · obtain rfl : k = l.length := by omega
          have hkx : ¬ ((l.length : Nat) : Int) < l.length := by omega
          obtain ⟨pv, cv, hvv⟩ := lenL HO.out
          subst hvv
          have HF := Lib.hid (show NewZ (natZ (kidsM l i)) 0 w (.returned (.tuple #[.slice pv ((List.range l.length).filter fun k => decide (abv l k = i)).length cv, .int .i64 0])) wr from ⟨_, rfl, by
            rw [natZ_len]
            exact HO.out, HB.out⟩)
          clear hlt hk
          go_wp2_with fail
          go_ret2
          exact HF.out
    · rw [kidE_out hg hi, if_neg (by decide)]
      rcases (show i < -1 ∨ (¬ i < -1 ∧ (l.length : Int) ≤ i) by omega) with h1 | ⟨h1, h2⟩
      · clear hv hg hi
        go_enter Try.func24, Try.ntmps24
        go_wp2_with fail
        refine HC.out.mono ?_
        rintro e w1 ⟨rfl, hb1⟩
        have HB1 := Lib.hid hb1
        clear hb1
        go_wp2_with fail
        go_ret2
        exact NewZ.none _ _ _ HB1.out
      · clear hv hg hi
        go_enter Try.func24, Try.ntmps24
        go_wp2_with fail
        refine HC.out.mono ?_
        rintro e w1 ⟨rfl, hb1⟩
        have HB1 := Lib.hid hb1
        clear hb1
        go_wp2_with fail
        go_ret2
        exact NewZ.none _ _ _ HB1.out
  · rw [kidE_bad hg, if_neg hg]
    obtain ⟨g, hgg⟩ : ∃ g, gdE l = g := ⟨_, rfl⟩
    rw [hgg] at HC hg ⊢
    have t1 : (g != 0) = true := by simpa using hg
    clear hv hg hgg
    go_enter Try.func24, Try.ntmps24
    go_wp2_with fail
    refine HC.out.mono ?_
    rintro e w1 ⟨rfl, hb1⟩
    have HB1 := Lib.hid hb1
    clear hb1
    go_wp2_with fail
    go_ret2
    exact NewZ.none _ _ _ HB1.out
end Go.Proofs.Ytjnnkelbedmccaa
