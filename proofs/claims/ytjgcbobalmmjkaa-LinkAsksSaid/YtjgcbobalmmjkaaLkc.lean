/- The document's Out, Into and Orphans of layer 8. -/
import Derived.Test.YtjgcbobalmmjkaaLkg
namespace Go.Proofs.Ytjgcbobalmmjkaa
open Go.RowKit Go.Maps Go.Sort
set_option linter.unusedVariables false
theorem ownsRow_low {W : World} {B B' : Nat} {e : TypeId} {size : Nat} {v : Value} {n : Nat} {xs : List Value} (h : W.ownsRow B e size v n xs) (hB : B' ≤ B) : W.ownsRow B' e size v n xs := by
  refine ⟨h.1, ?_⟩
  rcases h.2 with h2 | ⟨g, cap, cur, h2, h3, h4⟩
  · exact .inl h2
  · exact .inr ⟨g, cap, cur, h2, by omega, h4⟩
theorem range_all_succ (p : Nat → Bool) (k : Nat) : (List.range (k + 1)).all p = ((List.range k).all p && p k) := by
  rw [List.range_succ, List.all_append]
  simp
theorem alone_all {l : List Rf} {N i : Nat} : (List.range N).all (fun k => k == i || !edge l N k i) = aloneB l N i := by
  rw [Bool.eq_iff_iff, alone_iff, List.all_eq_true]
  constructor
  · intro h k hk
    have := h k (List.mem_range.2 (edge_lt hk).1)
    rw [hk] at this
    simpa using this
  · intro h k hk
    cases e : edge l N k i with
    | true => simp [h k e]
    | false => simp
set_option maxRecDepth 100000 in
set_option maxHeartbeats 4000000 in
theorem out_doc (l : List Rf) (v : Value) (n i : Int) (w : World) (hv : RdR w v l) (hl : l.length ≤ 140737488355328) :
    Calls Try.prog 8 #[v, .int .i64 n, .int .i64 i] w (NewL (if lookE l.length n [i] = 0 then outM l n.toNat i.toNat else []) (lookE l.length n [i]) w) := by
  obtain ⟨pa, cap, rfl, hcl, hcm⟩ := hv.form
  obtain ⟨i0, hi0, hz0, hz1, hz2⟩ := info_parts infoI
  have hA : Below w.heap.size w (w.alloc (.cells #[.int .i64 i] 3)) := (Below.refl _ w).alloc (Nat.le_refl _) _
  have hq := grid_pro l (.slice pa l.length cap) n (.slice (some ⟨w.heap.size, 0, none⟩) 1 1) [i] (w.alloc (.cells #[.int .i64 i] 3)) (hv.below hA) hl (rdZ_one _ _ _ (Boxed.new w 3 (.int .i64 i)).cell _) (by simp)
  have HQ := Lib.hid hq
  have HA := Lib.hid hA
  clear hv hq hA hcl hcm hl
  by_cases h0 : lookE l.length n [i] = 0
  case neg =>
    rw [if_neg h0]
    obtain ⟨er, her⟩ : ∃ er, lookE l.length n [i] = er := ⟨_, rfl⟩
    have HER := Lib.hid her
    rw [her] at h0 ⊢
    have t1 : (er == 0) = false := by simpa using h0
    have H0 := Lib.hid h0
    clear h0 her
    go_enter Try.func8, Try.ntmps8
    go_wp2_with fail
    refine HQ.out.mono ?_
    rintro e w2 (⟨h0, rfl, hb⟩ | ⟨h0, S, rows, rfl, hb, hg⟩)
    · have HB := Lib.hid (HA.out.trans (hb.mono (by simp)))
      rw [HER.out]
      clear hb h0 HQ
      go_wp2_with fail
      go_loop [10, 11] (fun av i => av = .slice none 0 0 ∧ i = .int .i64 0) (fun _ _ => 0)
      case atStart => exact ⟨rfl, rfl⟩
      case round =>
        obtain ⟨rfl, rfl⟩ := hrel
        go_wp2_with fail
        go_ret2
        exact NewL.none _ _ _ HB.out
    · exact absurd (HER.out.symm.trans h0) H0.out
  case pos =>
    obtain ⟨h1, N, I, rfl, rfl, h2, h3⟩ := look_ok h0
    rw [if_pos h0, h0]
    have H0 := Lib.hid h0
    have HI := Lib.hid h3
    have iN : (I : Int) < N := by omega
    simp only [Int.toNat_natCast]
    clear h0 h1 h3
    go_enter Try.func8, Try.ntmps8
    go_wp2_with fail
    refine HQ.out.mono ?_
    rintro e w2 (⟨h0, rfl, hb⟩ | ⟨h0, S, rows, rfl, hb, hg⟩)
    · exact absurd H0.out h0
    simp only [Int.toNat_natCast] at hg ⊢
    have HB := Lib.hid (HA.out.trans (hb.mono (by simp)))
    have HGR := Lib.hid hg
    have hsz2 : w.heap.size ≤ w2.heap.size := HB.out.size
    have HS2 := Lib.hid hsz2
    clear hb h0 HQ hg hsz2
    go_wp2_with fail
    go_loopw [10, 11] (fun av i wr => ∃ k : Nat, i = .int .i64 (k : Nat) ∧ k ≤ N ∧ Hid (wr.ownsRow w2.heap.size 3 1 av ((List.range k).filter fun k => edge l N I k).length (numsV ((List.range k).filter fun k => edge l N I k))) ∧ Hid (Below w2.heap.size w2 wr)) (fun _ i _ => N - (intOf i).toNat)
    case atStart => exact ⟨0, rfl, Nat.zero_le _, Lib.hid (World.ownsRow_nil _ _ _ _), Lib.hid (Below.refl _ _)⟩
    case round =>
      rename_i av _
      obtain ⟨k, rfl, hk, HR, HBr⟩ := hrel
      by_cases hlt : k < N
      · have hk1 : (k : Int) < N := by omega
        have HK := Lib.hid hlt
        have hgr := HGR.out.below HBr.out
        have ct := (hgr I HI.out).1
        have cr := (hgr I HI.out).2 k hlt
        have hs := range_filter_succ (fun k => edge l N I k) k
        have hfl : ((List.range k).filter fun k => edge l N I k).length ≤ k := Nat.le_trans (List.length_filter_le _ _) (by simp)
        obtain ⟨zs, hzs⟩ : ∃ zs, ((List.range k).filter fun k => edge l N I k) = zs := ⟨_, rfl⟩
        obtain ⟨t, ht⟩ : ∃ t, edge l N I k = t := ⟨_, rfl⟩
        rw [hzs] at HR hs hfl
        rw [ht] at cr hs
        obtain ⟨pv, cv, hpv⟩ := lenL HR.out
        cases t with
        | true =>
          rw [if_pos rfl] at hs
          have HSS := Lib.hid hs
          have M1 := Lib.hid (show zs.length + 1 ≤ maxLen by unfold maxLen; omega)
          have M2 := Lib.hid (show (zs.length + 1) * 8 ≤ 140737488355328 by omega)
          have M3 := Lib.hid (show w2.heap.size ≤ (wr.alloc (.cells #[.int .i64 (k : Nat)] 3)).heap.size by have := HBr.out.size; simp; omega)
          clear hs hlt hzs hfl ht hgr hpv
          go_wp2_with (at_builtin; go_loud (refine wpList_append_own_at _ rfl _ _ 23 rfl w2.heap.size 3 i0 (.int .i64 0) 1 8 Try.underlying23 hi0 hz0 hz1 hz2 rfl (by decide) _ _ _ rfl (HR.out.alloc _) ⟨wr.heap.size, 0, none⟩ 1 1 [.int .i64 (k : Nat)] rfl rfl (cells_newL _ _ _) (numsV_one [k]) M1.out M2.out M3.out ?_); intro v' w3 hown' hgrow _ hat; obtain ⟨g', cap', rfl⟩ := ownsRow_succ hown'; have HO := Lib.hid hown'; have HG := Lib.hid hgrow; clear hown' hgrow hat)
          go_roundw
          case measure => have := HK.out; first | (simp [intOf]; done) | (simp [intOf]; omega)
          case rel =>
            refine ⟨k + 1, by go_num, by have := HK.out; omega, Lib.hid ?_, Lib.hid ?_⟩
            · rw [HSS.out, List.length_append, numsV_app]; exact HO.out
            · exact ((HBr.out.alloc HBr.out.size _).grown HG.out (by have := HBr.out.size; simp; omega) (fun r e => (own_base HR.out e).1))
        | false =>
          rw [if_neg (by simp)] at hs
          have HSS := Lib.hid hs
          clear hs hlt hzs hfl ht hgr hpv
          go_wp2_with fail
          go_roundw
          case measure => have := HK.out; first | (simp [intOf]; done) | (simp [intOf]; omega)
          case rel => exact ⟨k + 1, by go_num, by have := HK.out; omega, Lib.hid (by rw [HSS.out]; exact HR.out), HBr⟩
      · obtain rfl : k = N := by omega
        have hlz : ¬ ((k : Int) < k) := by omega
        clear hlt
        go_wp2_with fail
        go_ret2
        exact ⟨_, rfl, ownsRow_low HR.out HS2.out, HB.out.trans (HBr.out.mono HB.out.size)⟩
set_option maxRecDepth 100000 in
set_option maxHeartbeats 4000000 in
theorem into_doc (l : List Rf) (v : Value) (n i : Int) (w : World) (hv : RdR w v l) (hl : l.length ≤ 140737488355328) :
    Calls Try.prog 12 #[v, .int .i64 n, .int .i64 i] w (NewL (if lookE l.length n [i] = 0 then intoM l n.toNat i.toNat else []) (lookE l.length n [i]) w) := by
  obtain ⟨pa, cap, rfl, hcl, hcm⟩ := hv.form
  obtain ⟨i0, hi0, hz0, hz1, hz2⟩ := info_parts infoI
  have hA : Below w.heap.size w (w.alloc (.cells #[.int .i64 i] 3)) := (Below.refl _ w).alloc (Nat.le_refl _) _
  have hq := grid_pro l (.slice pa l.length cap) n (.slice (some ⟨w.heap.size, 0, none⟩) 1 1) [i] (w.alloc (.cells #[.int .i64 i] 3)) (hv.below hA) hl (rdZ_one _ _ _ (Boxed.new w 3 (.int .i64 i)).cell _) (by simp)
  have HQ := Lib.hid hq
  have HA := Lib.hid hA
  clear hv hq hA hcl hcm hl
  by_cases h0 : lookE l.length n [i] = 0
  case neg =>
    rw [if_neg h0]
    obtain ⟨er, her⟩ : ∃ er, lookE l.length n [i] = er := ⟨_, rfl⟩
    have HER := Lib.hid her
    rw [her] at h0 ⊢
    have t1 : (er == 0) = false := by simpa using h0
    have H0 := Lib.hid h0
    clear h0 her
    go_enter Try.func12, Try.ntmps12
    go_wp2_with fail
    refine HQ.out.mono ?_
    rintro e w2 (⟨h0, rfl, hb⟩ | ⟨h0, S, rows, rfl, hb, hg⟩)
    · have HB := Lib.hid (HA.out.trans (hb.mono (by simp)))
      rw [HER.out]
      clear hb h0 HQ
      go_wp2_with fail
      go_loop [10, 11] (fun av i => av = .slice none 0 0 ∧ i = .int .i64 0) (fun _ _ => 0)
      case atStart => exact ⟨rfl, rfl⟩
      case round =>
        obtain ⟨rfl, rfl⟩ := hrel
        go_wp2_with fail
        go_ret2
        exact NewL.none _ _ _ HB.out
    · exact absurd (HER.out.symm.trans h0) H0.out
  case pos =>
    obtain ⟨h1, N, I, rfl, rfl, h2, h3⟩ := look_ok h0
    rw [if_pos h0, h0]
    have H0 := Lib.hid h0
    have HI := Lib.hid h3
    have iN : (I : Int) < N := by omega
    simp only [Int.toNat_natCast]
    clear h0 h1 h3
    go_enter Try.func12, Try.ntmps12
    go_wp2_with fail
    refine HQ.out.mono ?_
    rintro e w2 (⟨h0, rfl, hb⟩ | ⟨h0, S, rows, rfl, hb, hg⟩)
    · exact absurd H0.out h0
    simp only [Int.toNat_natCast] at hg ⊢
    have HB := Lib.hid (HA.out.trans (hb.mono (by simp)))
    have HGR := Lib.hid hg
    have hsz2 : w.heap.size ≤ w2.heap.size := HB.out.size
    have HS2 := Lib.hid hsz2
    clear hb h0 HQ hg hsz2
    go_wp2_with fail
    go_loopw [10, 11] (fun av i wr => ∃ k : Nat, i = .int .i64 (k : Nat) ∧ k ≤ N ∧ Hid (wr.ownsRow w2.heap.size 3 1 av ((List.range k).filter fun k => edge l N k I).length (numsV ((List.range k).filter fun k => edge l N k I))) ∧ Hid (Below w2.heap.size w2 wr)) (fun _ i _ => N - (intOf i).toNat)
    case atStart => exact ⟨0, rfl, Nat.zero_le _, Lib.hid (World.ownsRow_nil _ _ _ _), Lib.hid (Below.refl _ _)⟩
    case round =>
      rename_i av _
      obtain ⟨k, rfl, hk, HR, HBr⟩ := hrel
      by_cases hlt : k < N
      · have hk1 : (k : Int) < N := by omega
        have HK := Lib.hid hlt
        have hgr := HGR.out.below HBr.out
        have ct := (hgr k hlt).1
        have cr := (hgr k hlt).2 I HI.out
        have hs := range_filter_succ (fun k => edge l N k I) k
        have hfl : ((List.range k).filter fun k => edge l N k I).length ≤ k := Nat.le_trans (List.length_filter_le _ _) (by simp)
        obtain ⟨zs, hzs⟩ : ∃ zs, ((List.range k).filter fun k => edge l N k I) = zs := ⟨_, rfl⟩
        obtain ⟨t, ht⟩ : ∃ t, edge l N k I = t := ⟨_, rfl⟩
        rw [hzs] at HR hs hfl
        rw [ht] at cr hs
        obtain ⟨pv, cv, hpv⟩ := lenL HR.out
        cases t with
        | true =>
          rw [if_pos rfl] at hs
          have HSS := Lib.hid hs
          have M1 := Lib.hid (show zs.length + 1 ≤ maxLen by unfold maxLen; omega)
          have M2 := Lib.hid (show (zs.length + 1) * 8 ≤ 140737488355328 by omega)
          have M3 := Lib.hid (show w2.heap.size ≤ (wr.alloc (.cells #[.int .i64 (k : Nat)] 3)).heap.size by have := HBr.out.size; simp; omega)
          clear hs hlt hzs hfl ht hgr hpv
          go_wp2_with (at_builtin; go_loud (refine wpList_append_own_at _ rfl _ _ 23 rfl w2.heap.size 3 i0 (.int .i64 0) 1 8 Try.underlying23 hi0 hz0 hz1 hz2 rfl (by decide) _ _ _ rfl (HR.out.alloc _) ⟨wr.heap.size, 0, none⟩ 1 1 [.int .i64 (k : Nat)] rfl rfl (cells_newL _ _ _) (numsV_one [k]) M1.out M2.out M3.out ?_); intro v' w3 hown' hgrow _ hat; obtain ⟨g', cap', rfl⟩ := ownsRow_succ hown'; have HO := Lib.hid hown'; have HG := Lib.hid hgrow; clear hown' hgrow hat)
          go_roundw
          case measure => have := HK.out; first | (simp [intOf]; done) | (simp [intOf]; omega)
          case rel =>
            refine ⟨k + 1, by go_num, by have := HK.out; omega, Lib.hid ?_, Lib.hid ?_⟩
            · rw [HSS.out, List.length_append, numsV_app]; exact HO.out
            · exact ((HBr.out.alloc HBr.out.size _).grown HG.out (by have := HBr.out.size; simp; omega) (fun r e => (own_base HR.out e).1))
        | false =>
          rw [if_neg (by simp)] at hs
          have HSS := Lib.hid hs
          clear hs hlt hzs hfl ht hgr hpv
          go_wp2_with fail
          go_roundw
          case measure => have := HK.out; first | (simp [intOf]; done) | (simp [intOf]; omega)
          case rel => exact ⟨k + 1, by go_num, by have := HK.out; omega, Lib.hid (by rw [HSS.out]; exact HR.out), HBr⟩
      · obtain rfl : k = N := by omega
        have hlz : ¬ ((k : Int) < k) := by omega
        clear hlt
        go_wp2_with fail
        go_ret2
        exact ⟨_, rfl, ownsRow_low HR.out HS2.out, HB.out.trans (HBr.out.mono HB.out.size)⟩
set_option maxRecDepth 100000 in
set_option maxHeartbeats 4000000 in
theorem alone_doc (l : List Rf) (v : Value) (n : Int) (w : World) (hv : RdR w v l) (hl : l.length ≤ 140737488355328) :
    Calls Try.prog 14 #[v, .int .i64 n] w (NewL (if lookE l.length n [] = 0 then aloneM l n.toNat else []) (lookE l.length n []) w) := by
  obtain ⟨pa, cap, rfl, hcl, hcm⟩ := hv.form
  obtain ⟨i0, hi0, hz0, hz1, hz2⟩ := info_parts infoI
  have hq := grid_pro l (.slice pa l.length cap) n (.slice none 0 0) [] w hv hl (rdZ_nil w) (by simp)
  have HQ := Lib.hid hq
  clear hv hq hcl hcm hl
  by_cases h0 : lookE l.length n [] = 0
  case neg =>
    rw [if_neg h0]
    obtain ⟨er, her⟩ : ∃ er, lookE l.length n [] = er := ⟨_, rfl⟩
    have HER := Lib.hid her
    rw [her] at h0 ⊢
    have t1 : (er == 0) = false := by simpa using h0
    have H0 := Lib.hid h0
    clear h0 her
    go_enter Try.func14, Try.ntmps14
    go_wp2_with fail
    refine HQ.out.mono ?_
    rintro e w2 (⟨h0, rfl, hb⟩ | ⟨h0, S, rows, rfl, hb, hg⟩)
    · have HB := Lib.hid (hb)
      rw [HER.out]
      clear hb h0 HQ
      go_wp2_with fail
      go_loop [8, 9] (fun av i => av = .slice none 0 0 ∧ i = .int .i64 0) (fun _ _ => 0)
      case atStart => exact ⟨rfl, rfl⟩
      case round =>
        obtain ⟨rfl, rfl⟩ := hrel
        go_wp2_with fail
        go_ret2
        exact NewL.none _ _ _ HB.out
    · exact absurd (HER.out.symm.trans h0) H0.out
  case pos =>
    obtain ⟨h1, N, rfl, h2⟩ := lookE_nil h0
    rw [if_pos h0, h0]
    have H0 := Lib.hid h0
    simp only [Int.toNat_natCast]
    clear h0 h1
    go_enter Try.func14, Try.ntmps14
    go_wp2_with fail
    refine HQ.out.mono ?_
    rintro e w2 (⟨h0, rfl, hb⟩ | ⟨h0, S, rows, rfl, hb, hg⟩)
    · exact absurd H0.out h0
    simp only [Int.toNat_natCast] at hg ⊢
    have HB := Lib.hid (hb)
    have HGR := Lib.hid hg
    have hsz2 : w.heap.size ≤ w2.heap.size := HB.out.size
    have HS2 := Lib.hid hsz2
    clear hb h0 HQ hg hsz2
    go_wp2_with fail
    go_loopw [8, 9] (fun av i wr => ∃ k : Nat, i = .int .i64 (k : Nat) ∧ k ≤ N ∧ Hid (wr.ownsRow w2.heap.size 3 1 av ((List.range k).filter fun k => aloneB l N k).length (numsV ((List.range k).filter fun k => aloneB l N k))) ∧ Hid (Below w2.heap.size w2 wr)) (fun _ i _ => N - (intOf i).toNat)
    case atStart => exact ⟨0, rfl, Nat.zero_le _, Lib.hid (World.ownsRow_nil _ _ _ _), Lib.hid (Below.refl _ _)⟩
    case round =>
      rename_i av _
      obtain ⟨k, rfl, hk, HR, HBr⟩ := hrel
      by_cases hlt : k < N
      · have hk1 : (k : Int) < N := by omega
        have HK := Lib.hid hlt
        clear hlt
        go_wp2_with fail
        go_loop [10, 11] (fun b j => ∃ m : Nat, j = .int .i64 (m : Nat) ∧ m ≤ N ∧ b = .bool ((List.range m).all fun q => q == k || !edge l N q k)) (fun _ j => N - (intOf j).toNat)
        case atStart => exact ⟨0, rfl, Nat.zero_le _, rfl⟩
        case round =>
          obtain ⟨m, rfl, hm, rfl⟩ := hrel
          by_cases hmn : m < N
          · have hm1 : (m : Int) < N := by omega
            have HM := Lib.hid hmn
            have hs := range_all_succ (fun q => q == k || !edge l N q k) m
            obtain ⟨t, ht⟩ : ∃ t, ((List.range m).all fun q => q == k || !edge l N q k) = t := ⟨_, rfl⟩
            rw [ht] at hs ⊢
            have HSS := Lib.hid hs
            have hgr := HGR.out.below HBr.out
            have ct := (hgr m hmn).1
            have cr := (hgr m hmn).2 k HK.out
            obtain ⟨u, hu⟩ : ∃ u, edge l N m k = u := ⟨_, rfl⟩
            rw [hu] at cr
            have HU := Lib.hid hu
            clear hs ht hmn hgr hu
            cases t with
            | false =>
              clear ct cr
              go_wp2_with fail
              go_round
              case rel => exact ⟨m + 1, by go_num, by have := HM.out; omega, by rw [HSS.out]; rfl⟩
              case measure => have := HM.out; first | (simp [intOf]; done) | (simp [intOf]; omega)
            | true =>
              by_cases hmk : m = k
              · have t1 : ((m : Int) == k) = true := by simp [hmk]
                have HMK := Lib.hid hmk
                clear hmk ct cr
                go_wp2_with fail
                go_round
                case rel => exact ⟨m + 1, by go_num, by have := HM.out; omega, by rw [HSS.out, HMK.out]; simp⟩
                case measure => have := HM.out; first | (simp [intOf]; done) | (simp [intOf]; omega)
              · have t1 : ((m : Int) == k) = false := by simp; omega
                have HMK := Lib.hid (show (m == k) = false by simpa using hmk)
                clear hmk
                go_wp2_with fail
                go_round
                case rel => exact ⟨m + 1, by go_num, by have := HM.out; omega, by rw [HSS.out, HMK.out, HU.out]; simp⟩
                case measure => have := HM.out; first | (simp [intOf]; done) | (simp [intOf]; omega)
          · obtain rfl : m = N := by omega
            have hlz : ¬ ((m : Int) < m) := by omega
            rw [alone_all]
            have hs := range_filter_succ (fun k => aloneB l m k) k
            have hfl : ((List.range k).filter fun k => aloneB l m k).length ≤ k := Nat.le_trans (List.length_filter_le _ _) (by simp)
            obtain ⟨zs, hzs⟩ : ∃ zs, ((List.range k).filter fun k => aloneB l m k) = zs := ⟨_, rfl⟩
            obtain ⟨t, ht⟩ : ∃ t, aloneB l m k = t := ⟨_, rfl⟩
            rw [hzs] at HR hs hfl
            rw [ht] at hs ⊢
            obtain ⟨pv, cv, hpv⟩ := lenL HR.out
            cases t with
            | true =>
              rw [if_pos rfl] at hs
              have HSS := Lib.hid hs
              have M1 := Lib.hid (show zs.length + 1 ≤ maxLen by unfold maxLen; omega)
              have M2 := Lib.hid (show (zs.length + 1) * 8 ≤ 140737488355328 by omega)
              have M3 := Lib.hid (show w2.heap.size ≤ (wr.alloc (.cells #[.int .i64 (k : Nat)] 3)).heap.size by have := HBr.out.size; simp; omega)
              clear hs hmn hzs hfl ht hpv
              go_wp2_with (at_builtin; go_loud (refine wpList_append_own_at _ rfl _ _ 23 rfl w2.heap.size 3 i0 (.int .i64 0) 1 8 Try.underlying23 hi0 hz0 hz1 hz2 rfl (by decide) _ _ _ rfl (HR.out.alloc _) ⟨wr.heap.size, 0, none⟩ 1 1 [.int .i64 (k : Nat)] rfl rfl (cells_newL _ _ _) (numsV_one [k]) M1.out M2.out M3.out ?_); intro v' w3 hown' hgrow _ hat; obtain ⟨g', cap', rfl⟩ := ownsRow_succ hown'; have HO := Lib.hid hown'; have HG := Lib.hid hgrow; clear hown' hgrow hat)
              go_roundw
              case measure => have := HK.out; first | (simp [intOf]; done) | (simp [intOf]; omega)
              case rel =>
                refine ⟨k + 1, by go_num, by have := HK.out; omega, Lib.hid ?_, Lib.hid ?_⟩
                · rw [HSS.out, List.length_append, numsV_app]; exact HO.out
                · exact ((HBr.out.alloc HBr.out.size _).grown HG.out (by have := HBr.out.size; simp; omega) (fun r e => (own_base HR.out e).1))
            | false =>
              rw [if_neg (by simp)] at hs
              have HSS := Lib.hid hs
              clear hs hmn hzs hfl ht hpv
              go_wp2_with fail
              go_roundw
              case measure => have := HK.out; first | (simp [intOf]; done) | (simp [intOf]; omega)
              case rel => exact ⟨k + 1, by go_num, by have := HK.out; omega, Lib.hid (by rw [HSS.out]; exact HR.out), HBr⟩
      · obtain rfl : k = N := by omega
        have hlz : ¬ ((k : Int) < k) := by omega
        clear hlt
        go_wp2_with fail
        go_ret2
        exact ⟨_, rfl, ownsRow_low HR.out HS2.out, HB.out.trans (HBr.out.mono HB.out.size)⟩
end Go.Proofs.Ytjgcbobalmmjkaa
