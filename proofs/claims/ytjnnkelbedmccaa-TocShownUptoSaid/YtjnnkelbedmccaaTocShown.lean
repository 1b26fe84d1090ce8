/- What is proved: TocShown holds of any contents and any lists of open topics: more that is open shows more, and an entry is shown just if all ahead of it on its way are open. Its condition: what comes in is of bulk at most 1048576 (the statement's second form). -/
import Derived.Test.YtjnnkelbedmccaaTop
import Derived.Test.YtjnnkelbedmccaaToq
import Derived.Test.YtjnnkelbedmccaaPost
import Derived.ProofKit
import Derived.OpenShut
import Derived.Deep.DeepHandedRow
namespace Go.Proofs.Ytjnnkelbedmccaa
open Go.ChangeShapes Go.WideShapes Go.ChangeAt Go.RowKit
open Go.ChangeMaps (open_string shut_string)
set_option linter.unusedVariables false
/-- A region that draws its order, in code of which nothing is known but that it goes on. -/
theorem region_just {P : Program} {Q : Exit → Act → World → Prop} {id : Nat} {ops : Array Oper} {a : Act} {w : World} {S : World → Prop} (hm : P.follows .mixedOrders = true)
    (h : wpAnyH P .any ops (Just Q) S ops.size (Array.replicate ops.size false) a w.drew) : (Code.region id ops true).wp P Q a w :=
  (wpIn_wide (n := 0)).1 (wpIn_mono (wpIn_wide.2 (wp_region_any hm (wpAny_of_held _ _ _ _ h))) Just.imp)
theorem d_bulk {H : Type} : ∀ ds : List (DataW H), ds.length ≤ Rows.uptoBulkAll ds
  | [] => by simp
  | d :: ds => by
    have h1 := d_bulk ds
    have h2 : 1 ≤ Rows.uptoBulk d := by
      unfold Rows.uptoBulk
      split <;> omega
    simp only [Rows.uptoBulkAll, List.length_cons]
    omega
theorem len_bulk {H : Type} {d : DataW H} {n m : Nat} (h : LenD d n) (hb : Rows.uptoBulk d ≤ m) : n ≤ m := by
  rcases h with ⟨_, rfl⟩ | ⟨es, sp, rfl, rfl⟩
  · exact Nat.zero_le _
  · have := d_bulk es
    simp only [Rows.uptoBulk] at hb
    omega
theorem ents_bulk {H : Type} {d : DataW H} {m n : Nat} (h : LenD d m) (hb : Rows.uptoBulk d ≤ n) : m ≤ n := len_bulk h hb
theorem ints_bulk {H : Type} {d : DataW H} {m n : Nat} (h : LenD d m) (hb : Rows.uptoBulk d ≤ n) : m ≤ n := len_bulk h hb
set_option maxRecDepth 100000 in
set_option maxHeartbeats 1000000 in
theorem has_pro (zs : List Int) (v : Value) (x : Int) (w : World) (h : RdZ w v zs) :
    Calls Try.prog 37 #[v, .int .i64 x] w fun e w' => e = .returned (.bool (decide (x ∈ zs))) ∧ w = w' := by
  obtain ⟨pa, cap, rfl, hl, hm⟩ := h.form
  have hz9 : zs.length ≤ 9223372036854775807 := Nat.le_trans hl hm
  have HR := Lib.hid h
  obtain ⟨t, ht⟩ : ∃ t, decide (x ∈ zs) = t := ⟨_, rfl⟩
  rw [ht]
  have HT := Lib.hid ht
  clear h ht hl hm
  go_enter Try.func37, Try.ntmps37
  go_wp2_with fail
  go_loop [5] (fun i => ∃ k : Nat, i = .int .i64 (k : Nat) ∧ k ≤ zs.length ∧ Hid (x ∉ zs.take k)) (fun i => zs.length - (intOf i).toNat)
  case atStart => exact ⟨0, rfl, Nat.zero_le _, Lib.hid (by simp)⟩
  case round =>
    obtain ⟨k, rfl, hk, HN⟩ := hrel
    by_cases hlt : k < zs.length
    · obtain ⟨b, off, rfl, hc⟩ := HR.out.cell hlt
      have hk1 : (k : Int) < zs.length := by omega
      have htk : zs.take (k + 1) = zs.take k ++ [zs[k]] := List.take_succ_eq_append_getElem hlt
      have hme : zs[k] ∈ zs := List.getElem_mem hlt
      obtain ⟨y, hy⟩ : ∃ y, zs[k] = y := ⟨_, rfl⟩
      rw [hy] at hc htk hme
      by_cases he : y = x
      · have t1 : (y == x) = true := by simp [he]
        obtain rfl : t = true := by
          rw [← HT.out]
          exact decide_eq_true (he ▸ hme)
        clear he htk hme hy hlt
        go_wp2_with fail
        go_ret
        exact ⟨rfl, rfl⟩
      · have t1 : (y == x) = false := by simpa using he
        have HN2 := Lib.hid (show x ∉ zs.take (k + 1) by
          rw [htk]
          intro h9
          rcases List.mem_append.1 h9 with h8 | h8
          · exact HN.out h8
          · exact he (List.mem_singleton.1 h8).symm)
        clear he htk hme hy
        go_wp2_with fail
        go_round
        case rel => exact ⟨k + 1, by go_num, by omega, HN2⟩
        case measure => simp [intOf]; omega
    · obtain rfl : k = zs.length := by omega
      have hlz : ¬ ((zs.length : Int) < zs.length) := by omega
      obtain rfl : t = false := by
        rw [← HT.out]
        have h9 := HN.out
        rw [List.take_length] at h9
        exact decide_eq_false h9
      clear hlt
      go_wp2_with fail
      go_ret
      exact ⟨rfl, rfl⟩
/-- An entry is shown just if all ahead of it on its way are open. -/
theorem see_all {l : List Ent} (op : Int → Bool) : ∀ (n k : Nat), k < n → see l op k = (pth l (abv l k)).all (fun q => op (tpN l q))
  | 0, k, h => absurd h (Nat.not_lt_zero _)
  | n + 1, k, h => by
    have hlt := abv_lt l k
    rw [see_step]
    by_cases e : abv l k < 0
    · rw [if_pos e, show abv l k = -1 by omega, pth_root]
      rfl
    · rw [if_neg e]
      obtain ⟨p, hp⟩ : ∃ p : Nat, abv l k = p := ⟨(abv l k).toNat, by omega⟩
      rw [hp] at hlt ⊢
      rw [Int.toNat_natCast, see_all op n p (by omega), pth_step l p, List.all_append]
      simp
theorem see_more {l : List Ent} {op op' : Int → Bool} (h : ∀ x, op x = true → op' x = true) (k : Nat) (hs : see l op k = true) : see l op' k = true := by
  rw [see_all op (k + 1) k (by omega), List.all_eq_true] at hs
  rw [see_all op' (k + 1) k (by omega), List.all_eq_true]
  exact fun q hq => h _ (hs q hq)
theorem shown_mem {l : List Ent} {op : Int → Bool} {i : Nat} (hi : i < l.length) : decide ((i : Int) ∈ natZ (shownM l op)) = see l op i := by
  rw [Bool.eq_iff_iff, decide_eq_true_eq]
  unfold natZ shownM
  rw [List.mem_map]
  constructor
  · rintro ⟨q, hq, e⟩
    obtain rfl : q = i := by omega
    exact (List.mem_filter.1 hq).2
  · intro h
    exact ⟨i, List.mem_filter.2 ⟨List.mem_range.2 hi, h⟩, rfl⟩
theorem see_full {l : List Ent} (g : Gd l) {i : Nat} (hi : i < l.length) : see l (fun x => decide (x ∈ tops l)) i = true := by
  rw [see_all _ (i + 1) i (by omega), List.all_eq_true]
  intro q hq
  have h1 := pth_mem (l := l) (i + 1) (abv l i) (by have := abv_lt l i; omega) (by have := abv_lt l i; omega) q hq
  have h2 := abv_lt l i
  have h := (mem_take (l := l) (k := l.length) (x := tpN l q)).2 ⟨q, by omega, by omega, rfl⟩
  rw [List.take_length] at h
  exact decide_eq_true h
theorem shown_full {l : List Ent} (g : Gd l) : (natZ (shownM l (fun x => decide (x ∈ tops l)))).length = l.length := by
  rw [natZ_len]
  unfold shownM
  rw [List.filter_eq_self.2 fun k hk => see_full g (List.mem_range.1 hk), List.length_range]
theorem path_cut {l : List Ent} (i : Nat) : (pth l (i : Nat)).map (fun k => tpN l k) = (pth l (abv l i)).map (fun k => tpN l k) ++ [tpN l i] := by rw [pth_step, List.map_append]; rfl
theorem ent_self' {l : List Ent} (g : Gd l) (hg : gdE l = 0) {i : Nat} (hi : i < l.length) : entE l (tpN l i) = (((i : Nat) : Int), 0) := by
  unfold entE
  rw [if_neg (by simp [hg]), atF_self g hi, if_neg (by omega)]
namespace tocShown
set_option maxRecDepth 100000 in
set_option maxHeartbeats 16000000 in
theorem walk (v : Value) (l : List Ent) (vo : Value) (os : List Int) (vq : Value) (ms : List Int) (W : World) (hs : RdE W v l) (hsz : l.length ≤ 1048576) (ho : RdZ W vo os ∧ ∀ y ∈ os, (Lit.int .i64 y).wf = true) (hos : os.length ≤ 1048576) (hq : RdZ W vq ms ∧ ∀ y ∈ ms, (Lit.int .i64 y).wf = true) (hqs : ms.length ≤ 1048576) :
    Calls Try.prog 8 #[v, vo, vq] W fun e W' => e = .returned (.bool true) ∧ Below W.heap.size W W' := by
  have mixed : Try.prog.follows .mixedOrders = true := by kernel_rfl
  obtain ⟨i0, hi0, hz0, hz1, hz2⟩ := info_parts infoI
  obtain ⟨pl, cl, rfl, hcl, hcm⟩ := hs.form
  obtain ⟨po, co, rfl, _, _⟩ := ho.1.form
  obtain ⟨pq, cq, rfl, _, _⟩ := hq.1.form
  obtain ⟨n, hn⟩ : ∃ n : Nat, min l.length 150 = n := ⟨_, rfl⟩
  have hmin : min (l.length : Int) 150 = (n : Nat) := by omega
  have hm := hs.take (k := n) (by omega)
  have hml : (l.take n).length = n := by rw [List.length_take]; omega
  obtain ⟨m, hmm⟩ : ∃ m, l.take n = m := ⟨_, rfl⟩
  rw [hmm] at hm hml
  have hn9 : n ≤ 150 := by omega
  have hncl : (n : Int) ≤ cl := by omega
  have HM := Lib.hid hm
  have HO := Lib.hid ho.1
  have HOW := Lib.hid ho.2
  have HQ := Lib.hid hq.1
  have HQW := Lib.hid (show ∀ y ∈ os ++ ms, (Lit.int .i64 y).wf = true from fun y hy => (List.mem_append.1 hy).elim (ho.2 y) (hq.2 y))
  have HML := Lib.hid hml
  have HLN := Lib.hid (show m.length * 16 ≤ 140737488355328 by omega)
  have HS1 := Lib.hid hos
  have HS2 := Lib.hid hqs
  clear hs hsz hcl hcm hn hm hmm hml ho hos hq hqs
  go_enter Try.func8, Try.ntmps8
  go_wp2_with fail
  refine (awake_law _).mono ?_
  rintro e w1 ⟨rfl, hb⟩
  have HB1 := Lib.hid hb
  have HM1 := Lib.hid (HM.out.below hb)
  have HO1 := Lib.hid (HO.out.below hb)
  have HQ1 := Lib.hid (HQ.out.below hb)
  clear hb HM HO HQ
  have HGD := Lib.hid (good_ref m (.slice pl n cl) w1 HM1.out)
  obtain ⟨g, hg⟩ : ∃ g, gdE m = g := ⟨_, rfl⟩
  rw [hg] at HGD
  by_cases h0 : g = 0
  · subst h0
    have HG := Lib.hid (gd_of hg)
    have HGZ := Lib.hid hg
    clear hg
    go_wp2_with fail
    refine HGD.out.mono ?_
    rintro e w2 ⟨rfl, hb⟩
    have HB := Lib.hid (HB1.out.trans (hb.mono HB1.out.size))
    have HM := Lib.hid (HM1.out.below hb)
    have HO := Lib.hid (HO1.out.below hb)
    have HQ := Lib.hid (HQ1.out.below hb)
    clear hb HGD HM1 HO1 HQ1 HB1
    go_wp2_with fail
    refine (twin_pro _ _ _ HM.out HLN.out).mono ?_
    rintro e w3a ⟨v3, rfl, hR, hb⟩
    have HR := Lib.hid hR
    have HBa := Lib.hid (HB.out.trans (hb.mono HB.out.size))
    have HMa := Lib.hid (HM.out.below hb)
    have HOa := Lib.hid (HO.out.below hb)
    have HQa := Lib.hid (HQ.out.below hb)
    clear HB HM HO HQ hR hb
    have hA : Below w3a.heap.size w3a (w3a.alloc (.cells #[] 3)) := (Below.refl _ _).alloc (Nat.le_refl _) _
    obtain ⟨vt, w8, hr, hot, hb⟩ := run_twinZ (w3a.alloc (.cells #[] 3)) 28 os [] (.slice po os.length co) (.slice (some ⟨w3a.heap.size, 0, none⟩) 0 0) (HOa.out.below hA) (by have := HS1.out; simp; omega) w3a.heap.size ⟨rfl, .inr ⟨w3a.heap.size, 0, #[], rfl, Nat.le_refl _, World.alloc_heap_new w3a _, Nat.le_refl _, Nat.zero_le _, rfl, rfl⟩⟩ (by simp)
    have hb8 := hA.trans hb
    have HAP := Lib.hid hr
    have HOT := Lib.hid (show RdZ w8 vt os from RdZ.own (by simpa using hot) (by simp))
    have HR8 := Lib.hid (HR.out.below hb8)
    have HB8 := Lib.hid (HBa.out.trans (hb8.mono HBa.out.size))
    have HM8 := Lib.hid (HMa.out.below hb8)
    have HO8 := Lib.hid (HOa.out.below hb8)
    have HQ8 := Lib.hid (HQa.out.below hb8)
    clear hA hr hot hb hb8 HR HBa HMa HOa HQa
    go_wp2_with (at_builtin; go_loud (refine wpList_app2 rfl _ _ _ rfl rfl rfl HAP.out ?_))
    refine (shown_pro m v3 _ os w8 HR8.out HOT.out HOW.out).mono ?_
    rw [if_pos HGZ.out, HGZ.out]
    rintro e w3b ⟨vA, rfl, ho, hb⟩
    have HB := Lib.hid (HB8.out.trans (hb.mono HB8.out.size))
    have HM := Lib.hid (HM8.out.below hb)
    have HO := Lib.hid (HO8.out.below hb)
    have HQ := Lib.hid (HQ8.out.below hb)
    have HA := Lib.hid (RdZ.own ho rfl)
    clear ho hb HR8 HB8 HM8 HO8 HQ8
    clear HAP HOT
    go_wp2_with fail
    refine (twin_pro _ _ _ HM.out HLN.out).mono ?_
    rintro e w4a ⟨v4, rfl, hR, hb⟩
    have HR := Lib.hid hR
    have HBa := Lib.hid (HB.out.trans (hb.mono HB.out.size))
    have HMa := Lib.hid (HM.out.below hb)
    have HOa := Lib.hid (HO.out.below hb)
    have HQa := Lib.hid (HQ.out.below hb)
    have HAa := Lib.hid (HA.out.below hb)
    clear HB HM HO HQ hR hb
    have hA : Below w4a.heap.size w4a (w4a.alloc (.cells #[] 3)) := (Below.refl _ _).alloc (Nat.le_refl _) _
    obtain ⟨vt, w8, hr, hot, hb⟩ := run_twinZ (w4a.alloc (.cells #[] 3)) 28 os [] (.slice po os.length co) (.slice (some ⟨w4a.heap.size, 0, none⟩) 0 0) (HOa.out.below hA) (by have := HS1.out; simp; omega) w4a.heap.size ⟨rfl, .inr ⟨w4a.heap.size, 0, #[], rfl, Nat.le_refl _, World.alloc_heap_new w4a _, Nat.le_refl _, Nat.zero_le _, rfl, rfl⟩⟩ (by simp)
    have hb8 := hA.trans hb
    obtain ⟨vu, w9, hr9, hot9, hb9⟩ := run_twinZ w8 28 ms os (.slice pq ms.length cq) vt (HQa.out.below hb8) (by have := HS1.out; have := HS2.out; omega) w4a.heap.size (by simpa using hot) hb8.size
    have hb10 := hb8.trans hb9
    have HAP := Lib.hid hr
    have HAP9 := Lib.hid hr9
    have HOT := Lib.hid (show RdZ w9 vu (os ++ ms) from RdZ.own hot9 rfl)
    have HR8 := Lib.hid (HR.out.below hb10)
    have HB8 := Lib.hid (HBa.out.trans (hb10.mono HBa.out.size))
    have HM8 := Lib.hid (HMa.out.below hb10)
    have HO8 := Lib.hid (HOa.out.below hb10)
    have HQ8 := Lib.hid (HQa.out.below hb10)
    have HA8 := Lib.hid (HAa.out.below hb10)
    clear hA hr hot hb hb8 HR HBa HMa HOa HQa hr9 hot9 hb9 hb10 HA HAa
    go_wp2_with (first | (at_builtin; go_loud (refine wpList_app2 rfl _ _ _ rfl rfl rfl HAP.out ?_)) | (at_builtin; go_loud (refine wpList_app2 rfl _ _ _ rfl rfl rfl HAP9.out ?_)))
    refine (shown_pro m v4 _ (os ++ ms) w9 HR8.out HOT.out HQW.out).mono ?_
    rw [if_pos HGZ.out, HGZ.out]
    rintro e w4b ⟨vC, rfl, ho, hb⟩
    have HB := Lib.hid (HB8.out.trans (hb.mono HB8.out.size))
    have HM := Lib.hid (HM8.out.below hb)
    have HO := Lib.hid (HO8.out.below hb)
    have HQ := Lib.hid (HQ8.out.below hb)
    have HC := Lib.hid (RdZ.own ho rfl)
    have HA := Lib.hid (HA8.out.below hb)
    clear ho hb HR8 HB8 HM8 HO8 HQ8
    clear HAP HAP9 HOT HA8

    obtain ⟨wL, rfl⟩ : ∃ wL : World, wL = w4b := ⟨_, rfl⟩
    go_wp2_with fail
    go_loopw [11, 12] (fun s11 s12 wr => ∃ k : Nat, s12 = .int .i64 (k : Nat) ∧ k ≤ n ∧ Hid (wr.ownsRow wL.heap.size 3 1 s11 k (numsZ (tops (m.take k)))) ∧ Hid (Below wL.heap.size wL wr)) (fun _ s _ => n - (intOf s).toNat)
    case atStart => exact ⟨0, rfl, Nat.zero_le _, Lib.hid (World.ownsRow_nil _ _ _ _), Lib.hid (Below.refl _ _)⟩
    case round =>
      obtain ⟨k, rfl, hk, HOW1, HBr⟩ := hrel
      obtain ⟨pv, cv, hvv⟩ := lenL HOW1.out
      subst hvv
      by_cases hlt : k < n
      · have hkm : k < m.length := by rw [HML.out]; exact hlt
        obtain ⟨b, off, hpa, c0, _⟩ := (HM.out.below HBr.out).cell (j := k) hkm
        subst hpa
        have HTS := Lib.hid (tops_snoc hkm)
        obtain ⟨x, hx⟩ : ∃ x, tpN m k = x := ⟨_, rfl⟩
        rw [hx] at c0 HTS
        have HLT := Lib.hid hlt
        have hk1 : (k : Int) < n := by omega
        have M1 := Lib.hid (show k + 1 ≤ maxLen by unfold maxLen; omega)
        have M2 := Lib.hid (show (k + 1) * 8 ≤ 140737488355328 by omega)
        have M3 := Lib.hid (show wL.heap.size ≤ (wr.alloc (.cells #[.int .i64 x] 3)).heap.size by have := HBr.out.size; simp; omega)
        clear hkm hx hlt
        go_wp2_with (at_builtin; go_loud (refine wpList_append_own_at _ rfl _ _ 28 rfl wL.heap.size 3 i0 (.int .i64 0) 1 8 Try.underlying28 hi0 hz0 hz1 hz2 rfl (by decide) _ _ _ rfl (HOW1.out.alloc _) ⟨wr.heap.size, 0, none⟩ 1 1 [.int .i64 x] rfl rfl (cells_newL _ _ _) (numsZ_one [x]) M1.out M2.out M3.out ?_); intro v' w3 hown' hgrow _ hat; have HO1 := Lib.hid hown'; have HG1 := Lib.hid hgrow; clear hown' hgrow hat)
        go_roundw
        case measure => have := HLT.out; first | (simp [intOf]; done) | (simp [intOf]; omega)
        case rel =>
          refine ⟨k + 1, by go_num, by have := HLT.out; omega, Lib.hid ?_, Lib.hid ((HBr.out.alloc HBr.out.size _).grown HG1.out M3.out (fun r e => (own_base HOW1.out e).1))⟩
          rw [HTS.out, numsZ_app]
          exact HO1.out
      · obtain rfl : k = n := by omega
        have hlz : ¬ ((k : Int) < k) := by omega
        obtain ⟨wo, rfl⟩ : ∃ wo : World, wo = wr := ⟨_, rfl⟩
        have hmt : m.take k = m := by rw [← HML.out]; exact List.take_length
        have how := HOW1.out
        rw [hmt] at how
        have HT9 := Lib.hid (show RdZ wo (.slice pv k cv) (tops m) from RdZ.own how (by rw [tops_len, HML.out]))
        have HTW := Lib.hid (show ∀ y ∈ tops m, (Lit.int .i64 y).wf = true from fun y hy => by
          obtain ⟨e, he, rfl⟩ := List.mem_map.1 hy
          obtain ⟨_, _, _, _, _, hf, _⟩ := HM.out
          exact (hf e he).1)
        have HBo := Lib.hid (HB.out.trans (HBr.out.mono HB.out.size))
        have HMo := Lib.hid (HM.out.below HBr.out)
        have HOo := Lib.hid (HO.out.below HBr.out)
        have HAo := Lib.hid (HA.out.below HBr.out)
        have HCo := Lib.hid (HC.out.below HBr.out)
        clear hmt how hlt hk HOW1 HB HM HO HQ HA HC
        go_wp2_with fail
        refine (twin_pro _ _ _ HMo.out HLN.out).mono ?_
        rintro e w5 ⟨v5, rfl, hR, hb⟩
        have HR := Lib.hid hR
        have HT5 := Lib.hid (HT9.out.below hb)
        have HB5 := Lib.hid (HBo.out.trans (hb.mono HBo.out.size))
        have HM5 := Lib.hid (HMo.out.below hb)
        have HO5 := Lib.hid (HOo.out.below hb)
        have HA5 := Lib.hid (HAo.out.below hb)
        have HC5 := Lib.hid (HCo.out.below hb)
        clear hR hb HT9 HBo HMo HOo HAo HCo
        go_wp2_with fail
        refine (shown_pro m v5 _ (tops m) w5 HR.out HT5.out HTW.out).mono ?_
        rw [if_pos HGZ.out, HGZ.out]
        rintro e w6 ⟨vF, rfl, ho, hb⟩
        have hfl := shown_full HG.out
        rw [HML.out] at hfl
        have HF6 := Lib.hid (RdZ.own ho rfl)
        have HB6 := Lib.hid (HB5.out.trans (hb.mono HB5.out.size))
        have HM6 := Lib.hid (HM5.out.below hb)
        have HO6 := Lib.hid (HO5.out.below hb)
        have HA6 := Lib.hid (HA5.out.below hb)
        have HC6 := Lib.hid (HC5.out.below hb)
        obtain ⟨pF, cF, rfl⟩ := lenL ho
        rw [hfl] at HF6 ⊢
        have t1 : ((k : Int) != (k : Int)) = false := by simp
        clear ho hb hfl HR HT5 HB5 HM5 HO5 HA5 HC5
        obtain ⟨pA, cA, hvA, _, _⟩ := HA6.out.form
        obtain ⟨pC, cC, hvC, _, _⟩ := HC6.out.form
        subst hvA hvC
        obtain ⟨nA, hnA⟩ : ∃ q, (natZ (shownM m fun x => decide (x ∈ os))).length = q := ⟨_, rfl⟩
        obtain ⟨nC, hnC⟩ : ∃ q, (natZ (shownM m fun x => decide (x ∈ os ++ ms))).length = q := ⟨_, rfl⟩
        rw [hnA] at HA6 ⊢
        rw [hnC] at HC6 ⊢
        clear hnA hnC
        obtain ⟨n, hnk⟩ : ∃ n, k = n := ⟨_, rfl⟩
        subst hnk
        go_wp2_with fail
        go_loopw [15] (fun s wr => ∃ i : Nat, s = .int .i64 (i : Nat) ∧ i ≤ k ∧ Hid (Below w6.heap.size w6 wr)) (fun s _ => k - (intOf s).toNat)
        case atStart => exact ⟨0, rfl, Nat.zero_le _, Lib.hid (Below.refl _ _)⟩
        case round =>
          obtain ⟨i, rfl, hi, HBi⟩ := hrel
          by_cases hli : i < k
          · obtain ⟨wp, rfl⟩ : ∃ wp : World, wp = wr := ⟨_, rfl⟩
            have HMp := Lib.hid (HM6.out.below HBi.out)
            have him : i < m.length := by rw [HML.out]; exact hli
            have HIM := Lib.hid him
            have HLI := Lib.hid hli
            obtain ⟨b, off, hpa, c0, _⟩ := HMp.out.cell (j := i) him
            subst hpa
            have hpc := path_cut (l := m) i
            have hse := see_all (l := m) (fun x => decide (x ∈ os)) (i + 1) i (by omega)
            have hps : (if (entE m (tpN m i)).2 = 0 then pathM m (atF m (tpN m i)) else []) = (pth m (i : Nat)).map fun q => tpN m q := by
              rw [ent_self' HG.out HGZ.out him, if_pos rfl, atF_self HG.out him]
              rfl
            have hes : (entE m (tpN m i)).2 = 0 := by rw [ent_self' HG.out HGZ.out him]
            have hlen := way_len HG.out him
            have hsm : ∀ op, decide ((i : Int) ∈ natZ (shownM m op)) = see m op i := fun op => shown_mem him
            have hfull := see_full HG.out him
            obtain ⟨x, hx⟩ : ∃ x, tpN m i = x := ⟨_, rfl⟩
            rw [hx] at c0 hps hes hpc
            obtain ⟨ys, hys⟩ : ∃ ys, (pth m (abv m i)).map (fun q => tpN m q) = ys := ⟨_, rfl⟩
            have hsy : see m (fun x => decide (x ∈ os)) i = ys.all (fun y => decide (y ∈ os)) := by rw [hse, ← hys, List.all_map]; rfl
            rw [hys] at hpc
            rw [hpc] at hps
            have hyl : ys.length ≤ 8 := by
              have h9 := congrArg List.length hpc
              rw [List.length_map, List.length_append] at h9
              omega
            have CP := Lib.hid (show ∀ (v : Value) (w' : World), RdE w' v m → Calls Try.prog 32 #[v, .int .i64 x] w' (NewZ (ys ++ [x]) 0 w') from fun v w' hv => by
              have := path_pro m v x w' hv
              rw [hps, hes] at this
              exact this)
            have HSY := Lib.hid hsy
            have HSM := Lib.hid hsm
            have HFU := Lib.hid hfull
            have hi1 : (i : Int) < k := by omega
            have HLd := Lib.hid (show RdE wp.drew (.slice (some ⟨b, off, none⟩) k cl) m from HMp.out.keep (fun _ _ => rfl))
            clear him hli hpc hse hps hes hlen hsm hfull hx hys hsy
            go_wp2_with fail
            have hS0 : wp.drew.cell? ⟨b, off + i * 2, none⟩ = some (.int .i64 x) := c0
            refine region_just (S := fun w' => w'.cell? ⟨b, off + i * 2, none⟩ = some (.int .i64 x)) (by kernel_rfl) ?_
            refine wpAnyH_take (i := 0) (v := .slice (some ⟨b, off, none⟩) k cl) rfl (by kernel_rfl) (by kernel_rfl) (by kernel_rfl) (fun _ _ _ h => h) (.inl ⟨by rfl, fun w' hS => by have h1 := hS; go_simp⟩) hS0 ?_
            refine wpAnyH_take (i := 2) (v := .slice (some ⟨b, off, none⟩) k cl) rfl (by kernel_rfl) (by kernel_rfl) (by kernel_rfl) (fun _ _ _ h => h) (.inl ⟨by rfl, fun w' hS => by have h1 := hS; go_simp⟩) hS0 ?_
            refine wpAnyH_take (i := 3) (v := .int .i64 (i : Nat)) rfl (by kernel_rfl) (by kernel_rfl) (by kernel_rfl) (fun _ _ _ h => h) (.inl ⟨by rfl, fun w' hS => by have h1 := hS; go_simp⟩) hS0 ?_
            refine wpAnyH_take (i := 4) (v := .pointer (some ⟨b, off + i * 2, none⟩)) rfl (by kernel_rfl) (by kernel_rfl) (by kernel_rfl) (fun _ _ _ h => h) (.inl ⟨by rfl, fun w' hS => by have h1 := hS; go_simp⟩) hS0 ?_
            refine wpAnyH_take (i := 5) (v := .pointer (some ⟨b, off + i * 2, none⟩)) rfl (by kernel_rfl) (by kernel_rfl) (by kernel_rfl) (fun _ _ _ h => h) (.inl ⟨by rfl, fun w' hS => by have h1 := hS; go_simp⟩) hS0 ?_
            refine wpAnyH_take (i := 6) (v := .int .i64 x) rfl (by kernel_rfl) (by kernel_rfl) (by kernel_rfl) (fun _ _ _ h => h) (.inl ⟨by rfl, fun w' hS => by have h1 := hS; go_simp⟩) hS0 ?_
            refine wpAnyH_all (rs := [1]) (by kernel_rfl) (by simp) ?_
            intro i' hi'
            obtain rfl : i' = 1 := by simpa using hi'
            refine op_via rfl (by rfl) (fun K hK => ?_)
            go_simp
            refine (twin_pro _ _ _ HLd.out HLN.out).mono ?_
            rintro e w5 ⟨v5, rfl, hR5, hb5⟩
            have hS5 := (hb5.cell (p := ⟨b, off + i * 2, none⟩) (cellInL hS0)).trans hS0
            have HR5 := Lib.hid hR5
            have HB5 := Lib.hid hb5
            clear hR5 hb5
            refine hK _ _ ⟨hS5, ?_⟩
            clear hK K
            refine wpAnyH_all (rs := [7]) (by kernel_rfl) (by simp) ?_
            intro i' hi'
            obtain rfl : i' = 7 := by simpa using hi'
            refine op_via rfl (by rfl) (fun K hK => ?_)
            go_simp
            refine (CP.out _ _ HR5.out).mono ?_
            rintro e w9 ⟨vp, rfl, ho6, hb6⟩
            have HZ6 := Lib.hid (RdZ.own ho6 rfl)
            clear ho6
            have hS6 := (hb6.cell (p := ⟨b, off + i * 2, none⟩) (cellInL hS5)).trans hS5
            have HB7 := Lib.hid ((Below.refl _ wp).drew.trans (HB5.out.trans (hb6.mono HB5.out.size)))
            clear hb6 HB5 HR5
            refine hK _ _ ⟨hS6, ?_⟩
            clear hK K
            refine wpAnyH_take (i := 8) (v := .tuple #[vp, .int .i64 0]) rfl (by kernel_rfl) (by kernel_rfl) (by kernel_rfl) (fun _ _ _ h => h) (.inl ⟨by rfl, fun w' hS => by have h1 := hS; go_simp⟩) hS6 ?_
            refine wpAnyH_take (i := 9) (v := vp) rfl (by kernel_rfl) (by kernel_rfl) (by kernel_rfl) (fun _ _ _ h => h) (.inl ⟨by rfl, fun w' hS => by have h1 := hS; go_simp⟩) hS6 ?_
            refine wpAnyH_take (i := 10) (v := .int .i64 0) rfl (by kernel_rfl) (by kernel_rfl) (by kernel_rfl) (fun _ _ _ h => h) (.inl ⟨by rfl, fun w' hS => by have h1 := hS; go_simp⟩) hS6 ?_
            refine wpAnyH_take (i := 11) (v := vp) rfl (by kernel_rfl) (by kernel_rfl) (by kernel_rfl) (fun _ _ _ h => h) (.inl ⟨by rfl, fun w' hS => by have h1 := hS; go_simp⟩) hS6 ?_
            refine wpAnyH_take (i := 12) (v := .int .i64 0) rfl (by kernel_rfl) (by kernel_rfl) (by kernel_rfl) (fun _ _ _ h => h) (.inl ⟨by rfl, fun w' hS => by have h1 := hS; go_simp⟩) hS6 ?_
            refine wpAnyH_done (by kernel_rfl) ?_ _
            simp only [Just]
            clear hS0 hS5 hS6
            have HB8 := Lib.hid (HBi.out.trans (HB7.out.mono HBi.out.size))
            obtain ⟨pz, cz, rfl, _, _⟩ := HZ6.out.form
            have hzl : (ys ++ [x]).length = ys.length + 1 := by simp
            rw [hzl] at HZ6 ⊢
            obtain ⟨r, hr⟩ : ∃ r, ys.length = r := ⟨_, rfl⟩
            rw [hr] at HZ6 hyl ⊢
            have HRR := Lib.hid hr
            have HO8 := Lib.hid (HO6.out.below HB8.out)
            have HA8 := Lib.hid (HA6.out.below HB8.out)
            have HC8 := Lib.hid (HC6.out.below HB8.out)
            have HF8 := Lib.hid (HF6.out.below HB8.out)
            have u1 : (((r + 1 : Nat) : Int) == 0) = false := by simp; omega
            have u2 : ((r + 1 : Nat) : Int) - 1 = r := by omega
            have u3 : wrap64 (((r + 1 : Nat) : Int) - 1) = r := by rw [u2]; exact IntWalk.wrap64_in _ (by omega)
            obtain ⟨z, hz⟩ : ∃ z : Nat, r + 1 = z := ⟨_, rfl⟩
            rw [hz] at u1 u2 u3 HZ6 ⊢
            have HZE := Lib.hid hz
            clear hz hr hzl HB7 HLd CP c0
            go_wp2_with fail
            go_loopw [18, 19] (fun s18 s19 wr => ∃ q : Nat, s19 = .int .i64 (q : Nat) ∧ q ≤ r ∧ s18 = .bool ((ys.take q).all (fun y => decide (y ∈ os))) ∧ wr = w9) (fun _ s _ => r - (intOf s).toNat)
            case atStart => exact ⟨0, rfl, Nat.zero_le _, by simp, rfl⟩
            case round =>
              obtain ⟨q, rfl, hq, rfl, hwr⟩ := hrel
              subst hwr
              by_cases hlq : q < r
              · have hqy : q < ys.length := by rw [HRR.out]; exact hlq
                obtain ⟨bz, oz, ez, cq⟩ := HZ6.out.cell' (n := z) (by rw [← HZE.out]; simp [HRR.out]) (j := q) (by simp; omega)
                subst ez
                rw [List.getElem_append_left hqy] at cq
                have hst : (ys.take (q + 1)).all (fun y => decide (y ∈ os)) = ((ys.take q).all (fun y => decide (y ∈ os)) && decide (ys[q] ∈ os)) := by rw [List.take_succ_eq_append_getElem hqy, List.all_append]; simp
                have HST := Lib.hid hst
                obtain ⟨y, hy⟩ : ∃ y, ys[q] = y := ⟨_, rfl⟩
                rw [hy] at cq HST
                have HH := Lib.hid (has_pro os (.slice po os.length co) y _ HO8.out)
                obtain ⟨d, hd⟩ : ∃ d, decide (y ∈ os) = d := ⟨_, rfl⟩
                rw [hd] at HST HH
                obtain ⟨s, hs⟩ : ∃ s, (ys.take q).all (fun y => decide (y ∈ os)) = s := ⟨_, rfl⟩
                rw [hs] at HST ⊢
                have q1 : (q : Int) < r := by omega
                have q2 : (q : Int) < z := by have := HZE.out; omega
                have HLQ := Lib.hid hlq
                clear hqy hst hy hd hs hlq
                cases s with
                | true =>
                  go_wp2_with fail
                  refine HH.out.mono ?_
                  rintro e w8 ⟨rfl, rfl⟩
                  go_wp2_with fail
                  go_roundw
                  case measure => have := HLQ.out; first | (simp [intOf]; done) | (simp [intOf]; omega)
                  case rel => exact ⟨q + 1, by go_num, by have := HLQ.out; omega, by rw [HST.out]; simp, by first | rfl | trivial⟩
                | false =>
                  go_wp2_with fail
                  go_roundw
                  case measure => have := HLQ.out; first | (simp [intOf]; done) | (simp [intOf]; omega)
                  case rel => exact ⟨q + 1, by go_num, by have := HLQ.out; omega, by rw [HST.out]; simp, by first | rfl | trivial⟩
              · obtain rfl : q = r := by omega
                have hlz2 : ¬ ((q : Int) < q) := by omega
                have hty : ys.take q = ys := by rw [← HRR.out]; exact List.take_length
                rw [hty]
                have HHA := Lib.hid (has_pro _ (.slice pA nA cA) (i : Nat) _ HA8.out)
                have HHC := Lib.hid (has_pro _ (.slice pC nC cC) (i : Nat) _ HC8.out)
                have HHF := Lib.hid (has_pro _ (.slice pF k cF) (i : Nat) _ HF8.out)
                rw [HSM.out] at HHA HHC HHF
                rw [HFU.out] at HHF
                have hmo := see_more (l := m) (op := fun x => decide (x ∈ os)) (op' := fun x => decide (x ∈ os ++ ms)) (fun x hx => decide_eq_true (List.mem_append_left _ (of_decide_eq_true hx))) i
                have hsy := HSY.out
                obtain ⟨s, hs⟩ : ∃ s, ys.all (fun y => decide (y ∈ os)) = s := ⟨_, rfl⟩
                rw [hs] at hsy ⊢
                rw [hsy] at HHA hmo
                have HMO := Lib.hid hmo
                have HBN := Lib.hid HB8.out
                clear hlq hq hty hmo hsy hs
                cases s with
                | true =>
                  rw [HMO.out rfl] at HHC
                  go_wp2_with fail
                  refine HHA.out.mono ?_
                  rintro e w8 ⟨rfl, rfl⟩
                  go_wp2_with fail
                  refine HHA.out.mono ?_
                  rintro e w8 ⟨rfl, rfl⟩
                  go_wp2_with fail
                  refine HHC.out.mono ?_
                  rintro e w8 ⟨rfl, rfl⟩
                  go_wp2_with fail
                  refine HHF.out.mono ?_
                  rintro e w8 ⟨rfl, rfl⟩
                  go_wp2_with fail
                  go_roundw
                  case measure => have := HLI.out; first | (simp [intOf]; done) | (simp [intOf]; omega)
                  case rel => exact ⟨i + 1, by go_num, by have := HLI.out; omega, HBN⟩
                | false =>
                  go_wp2_with fail
                  refine HHA.out.mono ?_
                  rintro e w8 ⟨rfl, rfl⟩
                  go_wp2_with fail
                  refine HHA.out.mono ?_
                  rintro e w8 ⟨rfl, rfl⟩
                  go_wp2_with fail
                  refine HHF.out.mono ?_
                  rintro e w8 ⟨rfl, rfl⟩
                  go_wp2_with fail
                  go_roundw
                  case measure => have := HLI.out; first | (simp [intOf]; done) | (simp [intOf]; omega)
                  case rel => exact ⟨i + 1, by go_num, by have := HLI.out; omega, HBN⟩
          · obtain rfl : i = k := by omega
            have hlz2 : ¬ ((i : Int) < i) := by omega
            have HF := Lib.hid (HB6.out.trans (HBi.out.mono HB6.out.size))
            clear hli hi
            go_wp2_with fail
            go_ret
            exact ⟨rfl, HF.out⟩
  · have t1 : (g != 0) = true := by simpa using h0
    clear hg h0
    go_wp2_with fail
    refine HGD.out.mono ?_
    rintro e w2 ⟨rfl, hb⟩
    have HB2 := Lib.hid (HB1.out.trans (hb.mono HB1.out.size))
    clear hb
    go_wp2_with fail
    go_ret
    exact ⟨rfl, HB2.out⟩

set_option maxRecDepth 100000 in
theorem contract (H : Type) (enc : TypeId × Value → H) (W : World) (base : Nat) (args : Array Value) (ds gs : List (DataW H)) (before : List MemPlace)
    (hval : ∀ (j : Nat) t v, Try.f8.params[j]? = some t → args[j]? = some v → Value.okWide Try.prog W .any base t v)
    (hW : DataW.Whole enc Try.prog Try.f8.params.toList Rows.tocShownSpec.vars false W args.toList ds gs before) (hk : Rows.uptoSmall H (ds ++ gs) = true) :
    Calls Try.prog 8 args W fun e W' => ∃ v, e = .returned v ∧ Rows.tocShownSpec.post enc Try.prog Try.f8 false true false false W args v W' := by
  have hW' := hW
  obtain ⟨p, q, hA0, hV, rfl, hfz, hnd⟩ := hW
  have hA : DataW.TrodAll enc Try.prog W 0 (fun _ => true) true Try.f8.params.toList args.toList ds p := hA0
  rw [Try.params8] at hA hval
  obtain ⟨v0, vs0, d0, ds0, p0, q0, hargs, rfl, rfl, h0, r0⟩ := trodAll_cons hA
  obtain ⟨v1, vs1, d1, ds1, p1, q1, rfl, rfl, rfl, h1, r1⟩ := trodAll_cons r0
  obtain ⟨v2, vs2, d2, ds2, p2, q2, rfl, rfl, rfl, h2, r2⟩ := trodAll_cons r1
  obtain ⟨rfl, rfl, rfl⟩ := trodAll_nil r2
  obtain rfl : args = #[v0, v1, v2] := by cases args; simp_all
  obtain ⟨rfl, rfl⟩ := trodVars_none hV
  have hk0 := h0
  obtain ⟨l0, hR0, hD0⟩ := ents_read h0 (okWide_slice Try.underlying34 (hval 0 34 v0 rfl rfl))
  have hk1 := h1
  obtain ⟨l1, hR1, hD1⟩ := ints_read h1 (okWide_slice Try.underlying28 (hval 1 28 v1 rfl rfl))
  have hk2 := h2
  obtain ⟨l2, hR2, hD2⟩ := ints_read h2 (okWide_slice Try.underlying28 (hval 2 28 v2 rfl rfl))
  clear hA0
  simp only [List.append_nil] at hk
  have hb0 := of_decide_eq_true hk
  simp only [Rows.uptoBulkAll] at hb0
  have size0 := ents_bulk hD0 (n := 1048576) (by omega)
  have size1 := ints_bulk hD1 (n := 1048576) (by omega)
  have size2 := ints_bulk hD2 (n := 1048576) (by omega)
  refine (walk v0 l0 v1 l1 v2 l2 W hR0 size0 hR1 size1 hR2 size2).mono fun e W' ⟨he, hg⟩ => ?_
  subst he
  have hlt := hW'.lt
  exact ⟨_, rfl, post_of_below (pa := (p0 ++ (p1 ++ (p2 ++ [])))) (pv := []) hW' (fun _ _ _ => trodAll_cons_mk (shut_bool Try.underlying4 _) trodAll_mk0) (fun sp hsp => (trodAll_cons_mk (Go.WideElems.Trod_stays (by kernel_rfl) (by kernel_rfl) (of_decide_eq_true (by kernel_rfl)) hk0 (fun p hp => hg.same (hlt p (by simp [hp]))) (fun p hp => hsp p (by simp [hp]))) (trodAll_cons_mk (Go.WideElems.Trod_stays (by kernel_rfl) (by kernel_rfl) (of_decide_eq_true (by kernel_rfl)) hk1 (fun p hp => hg.same (hlt p (by simp [hp]))) (fun p hp => hsp p (by simp [hp]))) (trodAll_cons_mk (Go.WideElems.Trod_stays (by kernel_rfl) (by kernel_rfl) (of_decide_eq_true (by kernel_rfl)) hk2 (fun p hp => hg.same (hlt p (by simp [hp]))) (fun p hp => hsp p (by simp [hp]))) trodAll_mk0)))) (fun _ _ => rfl) rfl hg (ok_one (by kernel_rfl) rfl (okWide_bool_mk Try.underlying4 _))⟩

theorem witness_row (os : Os) {H : Type} (enc : TypeId × Value → H) :
    (Rows.OpenSpec.upto Rows.tocShownSpec).preRow enc Try.prog Try.f8 Rows.tocShownUptoRow.domain false Rows.tocShownUptoRow.laid ((laidWorld os).forCall (fun _ _ => 0) ⟨#[], #[.slice none 0 0, .slice none 0 0, .slice none 0 0], []⟩).memory #[.slice none 0 0, .slice none 0 0, .slice none 0 0] := by
  have hw : (DataW.whole enc Try.prog ((laidWorld os).forCall (fun _ _ => 0) ⟨#[], #[.slice none 0 0, .slice none 0 0, .slice none 0 0], []⟩).memory Try.f8.params.toList Rows.tocShownSpec.vars false (#[.slice none 0 0, .slice none 0 0, .slice none 0 0] : Array Value).toList 8).map (fun x => (x.1, x.2.1)) =
      some ([.nil, .nil, .nil], []) := by kernel_rfl
  obtain ⟨⟨x1, x2, x3⟩, hx, hx1⟩ := Option.map_eq_some_iff.1 hw
  simp only [Prod.mk.injEq] at hx1
  obtain ⟨rfl, rfl⟩ := hx1
  exact OpenSpec.preRow_of_cond 8 hx (by kernel_rfl) (fun k hk => by cases hk; kernel_rfl) (by kernel_rfl) (laid_met _)

set_option maxRecDepth 100000 in
theorem lifted (os : Os) (started : os.Started) (H : Type) (enc : TypeId × Value → H) (F : Stop.Interp) :
    ReturnsInHanded {} Try.checked os 8 .any ((Rows.OpenSpec.upto Rows.tocShownSpec).preRow enc Try.prog Try.f8 Rows.tocShownUptoRow.domain false Rows.tocShownUptoRow.laid) (((Rows.OpenSpec.upto Rows.tocShownSpec).at F).post enc Try.prog Try.f8 false true false false) := by
  refine returnsInHanded_of_row (C := Try.checked) (s := (Rows.OpenSpec.upto Rows.tocShownSpec)) own started (by kernel_rfl) Try.func8
    (witness_row_at (enc := enc) (C := Try.checked) false (laidWorld os) #[.slice none 0 0, .slice none 0 0, .slice none 0 0] rfl (by kernel_rfl) (by kernel_rfl) (by kernel_rfl) (witness_row os enc)) ?_
  intro W base args ds gs before hval hW _ hcond hsz hL hS _
  exact contract H enc W base args ds gs before hval hW (hcond _ rfl)

set_option maxHeartbeats 16000000 in
theorem closed : joinedFacts Try.pinned.checked.prog 8 Try.f8 ((Rows.OpenSpec.upto Rows.tocShownSpec)).bare Rows.tocShownUptoRow = true := by
  unfold joinedFacts
  repeat' (with_reducible refine Bool.and_eq_true_iff.2 ⟨?_, ?_⟩)
  all_goals (as_aux_lemma => kernel_rfl)
theorem named : Try.pinned.checked.prog.funcNamed Rows.tocShownUptoRow.func = some 8 := by kernel_rfl
theorem inst : (Try.f8).isInstance Try.pinned.checked.prog Rows.tocShownUptoRow.origin Rows.tocShownUptoRow.targs := of_decide_eq_true (by kernel_rfl)
theorem wrap : (Try.f8).isWrapper Try.pinned.checked.prog Rows.tocShownUptoRow.wrapper Rows.tocShownUptoRow.mainSum := by
  unfold Func.isWrapper
  first | (rw [if_pos (by decide +kernel)]; kernel_rfl) | (rw [if_neg (by decide +kernel)]; exact ⟨rfl, rfl⟩)
theorem row : Rows.TocShownUptoSaid :=
  OpenClaim.holds_of_cond 8 Try.f8 rfl rfl rfl rfl rfl rfl rfl ⟨rfl, rfl, rfl, rfl, rfl⟩ rfl rfl rfl rfl rfl named Try.func8 closed inst wrap
    (fun os started H enc _ F => by rw [OpenClaim.pre_eq_preRow]; exact lifted os started H enc F)

theorem proved : Rows.TocShownUptoSaid := row
end Go.Proofs.Ytjnnkelbedmccaa.tocShown
