/- What is proved: LinkBack holds of any references and any number of topics: who refers to whom, both ways, and who stands alone. -/
import Derived.Test.YtjgcbobalmmjkaaLkm
import Derived.Test.YtjgcbobalmmjkaaLkf
import Derived.Test.YtjgcbobalmmjkaaPost
import Derived.ProofKit
import Derived.OpenShut
import Derived.Deep.DeepHandedRow
namespace Go.Proofs.Ytjgcbobalmmjkaa
open Go.ChangeShapes Go.WideShapes Go.ChangeAt Go.RowKit
open Go.ChangeMaps (open_string shut_string)
set_option linter.unusedVariables false
theorem mem_ints {x : Nat} {zs : List Nat} : (x : Int) ∈ intsL zs ↔ x ∈ zs := by
  unfold intsL
  rw [List.mem_map]
  constructor
  · rintro ⟨y, hy, e⟩
    obtain rfl : y = x := by omega
    exact hy
  · intro h; exact ⟨x, h, rfl⟩
theorem look_in {len N x : Nat} (h1 : len ≤ 65536) (h2 : N ≤ 1000) (h3 : x < N) : lookE len (N : Int) [(x : Int)] = 0 := by
  unfold lookE
  rw [if_neg (by omega), if_neg (by omega), if_pos]
  simp [isT]
  omega
theorem back_alone {l : List Rf} {N i : Nat} (hi : i < N) : (intoM l N i).all (fun k => k == i) = decide ((i : Int) ∈ intsL (aloneM l N)) := by
  have h1 : ((i : Int) ∈ intsL (aloneM l N)) ↔ aloneB l N i = true := by
    rw [mem_ints]
    unfold aloneM
    rw [List.mem_filter, List.mem_range]
    exact ⟨fun h => h.2, fun h => ⟨hi, h⟩⟩
  have h2 : (intoM l N i).all (fun k => k == i) = true ↔ aloneB l N i = true := by
    rw [alone_iff, List.all_eq_true]
    constructor
    · intro h k hk; simpa using h k (intoM_mem.2 hk)
    · intro h k hk; simpa using h k (intoM_mem.1 hk)
  rw [Bool.eq_iff_iff, h2, decide_eq_true_eq, h1]
theorem into_len {l : List Rf} {N x : Nat} (h : N ≤ 1000) : (intoM l N x).length ≤ 1000000 := by
  have := List.length_filter_le (fun q => edge l N q x) (List.range N)
  rw [List.length_range] at this
  unfold intoM
  omega
theorem out_len {l : List Rf} {N x : Nat} (h : N ≤ 1000) : (outM l N x).length ≤ 1000000 := by
  have := outM_len l N x
  omega
theorem alone_len {l : List Rf} {N : Nat} (h : N ≤ 1000) : (aloneM l N).length ≤ 1000000 := by
  have := List.length_filter_le (fun q => aloneB l N q) (List.range N)
  rw [List.length_range] at this
  unfold aloneM
  omega
namespace linkBack
set_option maxRecDepth 100000 in
set_option maxHeartbeats 16000000 in
theorem walk (v : Value) (l : List Rf) (a : Int) (W : World) (hs : RdR W v l ∧ ∀ r ∈ l, FitR r) (hsz : l.length * 56 ≤ 140737488351232) (ha : (Lit.int .i64 a).wf = true) :
    Calls Try.prog 4 #[v, .int .i64 a] W fun e W' => e = .returned (.bool true) ∧ Below W.heap.size W W' := by
  obtain ⟨pl, cl, rfl, hcl, hcm⟩ := hs.1.form
  have HL := Lib.hid hs.1
  have HLL := Lib.hid (show l.length ≤ 140737488355328 by omega)
  have HLN := Lib.hid (show l.length * 56 ≤ 140737488355328 by omega)
  clear hs hsz ha hcl hcm
  obtain ⟨n, hn⟩ : ∃ n, min a 30 = n := ⟨_, rfl⟩
  have HA := Lib.hid (show n ≤ 30 by omega)
  have HMIN := Lib.hid hn
  go_enter Try.func4, Try.ntmps4
  go_wp2_with fail
  refine (awake_law W).mono ?_
  rintro e w0 ⟨rfl, hb⟩
  have HB0 := Lib.hid hb
  have HL0 := Lib.hid (HL.out.below hb)
  clear hb
  go_wp2_with fail
  refine (twin_pro l _ _ HL0.out HLN.out).mono ?_
  rintro e w1 ⟨v1, rfl, hR1, hb1⟩
  have HQ := Lib.hid (alone_pro l v1 n w1 hR1 HLL.out)
  have HB1 := Lib.hid (HB0.out.trans (hb1.mono HB0.out.size))
  have HL1 := Lib.hid (HL0.out.below hb1)
  clear hR1 hb1
  go_wp2_with fail
  refine HQ.out.mono ?_
  by_cases h0 : lookE l.length n [] = 0
  · rw [if_pos h0, h0]
    obtain ⟨h1, N, rfl, h2⟩ := lookE_nil h0
    rw [Int.toNat_natCast]
    rintro e w2 ⟨va, rfl, hoa, hb2⟩
    have HLK := Lib.hid h1
    have HNA := Lib.hid h2
    have hN9 : N ≤ 1000 := h2
    have HB2 := Lib.hid (HB1.out.trans (hb2.mono HB1.out.size))
    have HL2 := Lib.hid (HL1.out.below hb2)
    have HO2 := Lib.hid (show RdI w2 va (aloneM l N) from RdI.own hoa rfl)
    clear hb2 hoa HQ h0 h1 h2 hn
    go_wp2_with fail
    go_loopw [7] (fun i wr => ∃ k : Nat, i = .int .i64 (k : Nat) ∧ k ≤ N ∧ Below w2.heap.size w2 wr) (fun i _ => N - (intOf i).toNat)
    case atStart => exact ⟨0, rfl, Nat.zero_le _, Below.refl _ _⟩
    case round =>
      obtain ⟨k, rfl, hk, hB⟩ := hrel
      have HBr := Lib.hid hB
      by_cases hlt : k < N
      · have HK := Lib.hid hlt
        have hk1 : (k : Int) < N := by omega
        have HLr := Lib.hid (HL2.out.below hB)
        have HLX := Lib.hid (look_in (len := l.length) (N := N) (x := k) HLK.out HNA.out hlt)
        have HOr := Lib.hid (HO2.out.below hB)
        clear hlt hB
        go_wp2_with fail
        refine (twin_pro l _ _ HLr.out HLN.out).mono ?_
        rintro e w3 ⟨v3, rfl, hR3, hb3⟩
        have HQ3 := Lib.hid (out_pro l v3 N k w3 hR3 HLL.out)
        have HB3 := Lib.hid hb3
        clear hR3 hb3
        go_wp2_with fail
        refine HQ3.out.mono ?_
        rw [HLX.out, if_pos rfl]
        rintro e w4 ⟨vo, rfl, ho4, hb4⟩
        have HB4 := Lib.hid (HB3.out.trans (hb4.mono HB3.out.size))
        have HO4 := Lib.hid (show RdI w4 vo (outM l N k) from RdI.own ho4 rfl)
        have HL4 := Lib.hid (HLr.out.below HB4.out)
        clear ho4 hb4 HQ3 HB3
        go_wp2_with fail
        refine (twin_pro l _ _ HL4.out HLN.out).mono ?_
        rintro e w5 ⟨v5, rfl, hR5, hb5⟩
        have HQ5 := Lib.hid (into_pro l v5 N k w5 hR5 HLL.out)
        have HB5 := Lib.hid hb5
        clear hR5 hb5
        go_wp2_with fail
        refine HQ5.out.mono ?_
        rw [HLX.out, if_pos rfl]
        rintro e w6 ⟨vi, rfl, ho6, hb6⟩
        have hb46 := HB5.out.trans (hb6.mono HB5.out.size)
        have HI6 := Lib.hid (show RdI w6 vi (intoM l N k) from RdI.own ho6 rfl)
        have HO6 := Lib.hid (HO4.out.below hb46)
        have HB6 := Lib.hid (HB4.out.trans (hb46.mono HB4.out.size))
        have HL6 := Lib.hid (HLr.out.below HB6.out)
        have HA6 := Lib.hid (HOr.out.below HB6.out)
        clear ho6 hb6 hb46 HQ5 HB5 HB4 HO4 HL4 HLX
        obtain ⟨po, co, rfl⟩ := HO6.out.form
        obtain ⟨pi, ci, rfl⟩ := HI6.out.form
        obtain ⟨no, hno⟩ : ∃ m, (outM l N k).length = m := ⟨_, rfl⟩
        obtain ⟨ni, hni⟩ : ∃ m, (intoM l N k).length = m := ⟨_, rfl⟩
        have HNO := Lib.hid hno
        have HNI := Lib.hid hni
        rw [hno] at HO6 ⊢
        rw [hni] at HI6 ⊢
        have hno9 : no ≤ 1000 := by have h := outM_len l N k; have := HNA.out; omega
        have hni9 : ni ≤ 1000 := by have h := List.length_filter_le (fun q => edge l N q k) (List.range N); rw [List.length_range] at h; have := HNA.out; unfold intoM at hni; omega
        clear hno hni
        go_wp2_with fail
        go_loopw [12] (fun i wr2 => ∃ j : Nat, i = .int .i64 (j : Nat) ∧ j ≤ no ∧ Below w6.heap.size w6 wr2) (fun i _ => no - (intOf i).toNat)
        case atStart => exact ⟨0, rfl, Nat.zero_le _, Below.refl _ _⟩
        case round =>
          obtain ⟨j, rfl, hj, hB2⟩ := hrel
          have HBj := Lib.hid hB2
          by_cases hlj : j < no
          · have HJ := Lib.hid hlj
            have hj1 : (j : Int) < no := by omega
            have hjo : j < (outM l N k).length := by rw [HNO.out]; exact hlj
            obtain ⟨b, off, rfl, c1⟩ := (HO6.out.below hB2).cell hjo
            have hme : (outM l N k)[j] ∈ outM l N k := List.getElem_mem hjo
            obtain ⟨x, hx⟩ : ∃ x, (outM l N k)[j] = x := ⟨_, rfl⟩
            rw [hx] at c1 hme
            have HE := Lib.hid (outM_mem.1 hme)
            have HLX := Lib.hid (look_in (len := l.length) (N := N) (x := x) HLK.out HNA.out (edge_lt HE.out).2)
            have HLd := Lib.hid (show RdR wr.drew (.slice pl l.length cl) l from (HL6.out.below hB2).keep (fun _ _ => rfl))
            clear hlj hjo hme hx hB2
            go_wp2_with fail
            have hS0 : wr.drew.cell? ⟨b, off + j, none⟩ = some (.int .i64 (x : Nat)) := c1
            refine region_just (S := fun w' => w'.cell? ⟨b, off + j, none⟩ = some (.int .i64 (x : Nat))) (by kernel_rfl) ?_
            refine wpAnyH_take (i := 0) (v := .slice pl l.length cl) rfl (by kernel_rfl) (by kernel_rfl) (by kernel_rfl) (fun _ _ _ h => h) (.inl ⟨by rfl, fun w' hS => by have h1 := hS; go_simp⟩) hS0 ?_
            refine wpAnyH_take (i := 2) (v := .int .i64 (N : Nat)) rfl (by kernel_rfl) (by kernel_rfl) (by kernel_rfl) (fun _ _ _ h => h) (.inl ⟨by rfl, fun w' hS => by have h1 := hS; go_simp⟩) hS0 ?_
            refine wpAnyH_take (i := 3) (v := .slice (some ⟨b, off, none⟩) no co) rfl (by kernel_rfl) (by kernel_rfl) (by kernel_rfl) (fun _ _ _ h => h) (.inl ⟨by rfl, fun w' hS => by have h1 := hS; go_simp⟩) hS0 ?_
            refine wpAnyH_take (i := 4) (v := .int .i64 (j : Nat)) rfl (by kernel_rfl) (by kernel_rfl) (by kernel_rfl) (fun _ _ _ h => h) (.inl ⟨by rfl, fun w' hS => by have h1 := hS; go_simp⟩) hS0 ?_
            refine wpAnyH_take (i := 5) (v := .pointer (some ⟨b, off + j, none⟩)) rfl (by kernel_rfl) (by kernel_rfl) (by kernel_rfl) (fun _ _ _ h => h) (.inl ⟨by rfl, fun w' hS => by have h1 := hS; go_simp⟩) hS0 ?_
            refine wpAnyH_take (i := 6) (v := .int .i64 (x : Nat)) rfl (by kernel_rfl) (by kernel_rfl) (by kernel_rfl) (fun _ _ _ h => h) (.inl ⟨by rfl, fun w' hS => by have h1 := hS; go_simp⟩) hS0 ?_
            refine wpAnyH_all (rs := [1]) (by kernel_rfl) (by simp) ?_
            intro i' hi'
            obtain rfl : i' = 1 := by simpa using hi'
            refine op_via rfl (by rfl) (fun K hK => ?_)
            go_simp
            refine (twin_pro l _ _ HLd.out HLN.out).mono ?_
            rintro e w5 ⟨v5, rfl, hR5, hb5⟩
            have hS5 := (hb5.cell (p := ⟨b, off + j, none⟩) (cellInL hS0)).trans hS0
            have HQ5 := Lib.hid (into_pro l v5 N (x : Nat) w5 hR5 HLL.out)
            have HB5 := Lib.hid hb5
            clear hR5 hb5
            refine hK _ _ ⟨hS5, ?_⟩
            clear hK K
            refine wpAnyH_all (rs := [7]) (by kernel_rfl) (by simp) ?_
            intro i' hi'
            obtain rfl : i' = 7 := by simpa using hi'
            refine op_via rfl (by rfl) (fun K hK => ?_)
            go_simp
            refine HQ5.out.mono ?_
            rw [HLX.out, if_pos rfl]
            rintro e w6 ⟨v6, rfl, ho6, hb6⟩
            have hS6 := (hb6.cell (p := ⟨b, off + j, none⟩) (cellInL hS5)).trans hS5
            have HO7 := Lib.hid (show RdI w6 v6 (intoM l N x) from RdI.own ho6 rfl)
            have HB7 := Lib.hid ((Below.refl _ wr).drew.trans (HB5.out.trans (hb6.mono HB5.out.size)))
            clear ho6 hb6 hS5 HQ5 HB5
            refine hK _ _ ⟨hS6, ?_⟩
            clear hK K
            refine wpAnyH_take (i := 8) (v := .tuple #[v6, .int .i64 0]) rfl (by kernel_rfl) (by kernel_rfl) (by kernel_rfl) (fun _ _ _ h => h) (.inl ⟨by rfl, fun w' hS => by have h1 := hS; go_simp⟩) hS6 ?_
            refine wpAnyH_take (i := 9) (v := v6) rfl (by kernel_rfl) (by kernel_rfl) (by kernel_rfl) (fun _ _ _ h => h) (.inl ⟨by rfl, fun w' hS => by have h1 := hS; go_simp⟩) hS6 ?_
            refine wpAnyH_take (i := 10) (v := .int .i64 0) rfl (by kernel_rfl) (by kernel_rfl) (by kernel_rfl) (fun _ _ _ h => h) (.inl ⟨by rfl, fun w' hS => by have h1 := hS; go_simp⟩) hS6 ?_
            refine wpAnyH_take (i := 11) (v := v6) rfl (by kernel_rfl) (by kernel_rfl) (by kernel_rfl) (fun _ _ _ h => h) (.inl ⟨by rfl, fun w' hS => by have h1 := hS; go_simp⟩) hS6 ?_
            refine wpAnyH_take (i := 12) (v := .int .i64 0) rfl (by kernel_rfl) (by kernel_rfl) (by kernel_rfl) (fun _ _ _ h => h) (.inl ⟨by rfl, fun w' hS => by have h1 := hS; go_simp⟩) hS6 ?_
            refine wpAnyH_done (by kernel_rfl) ?_ _
            simp only [Just]
            have hin : decide ((k : Int) ∈ intsL (intoM l N x)) = true := decide_eq_true (mem_ints.2 (intoM_mem.2 HE.out))
            have hhas := has_pro (intoM l N x) v6 (k : Nat) _ HO7.out (into_len HNA.out)
            rw [hin] at hhas
            have HHAS := Lib.hid hhas
            clear hin hhas c1 hS0 hS6
            go_wp2_with fail
            refine HHAS.out.mono ?_
            rintro e w8 ⟨rfl, rfl⟩
            go_wp2_with fail
            go_roundw
            case measure => have := HJ.out; first | (simp [intOf]; done) | (simp [intOf]; omega)
            case rel => exact ⟨j + 1, by go_num, by have := HJ.out; omega, HBj.out.trans (HB7.out.mono HBj.out.size)⟩
          · obtain rfl : j = no := by omega
            have hlz : ¬ ((j : Int) < j) := by omega
            have HI7 := Lib.hid (HI6.out.below hB2)
            have HL7 := Lib.hid (HL6.out.below hB2)
            have HA7 := Lib.hid (HA6.out.below hB2)
            have HB7 := Lib.hid (HB6.out.trans (hB2.mono HB6.out.size))
            obtain ⟨t0, ht0⟩ : ∃ t, ((intoM l N k).take 0).all (fun q => q == k) = t := ⟨_, rfl⟩
            have HT0 := Lib.hid ht0
            clear ht0 hlj hB2 HI6 HL6 HA6 HB6 HO6
            go_wp2_with fail
            go_loopw [15, 16] (fun t i wr3 => ∃ m : Nat, i = .int .i64 (m : Nat) ∧ m ≤ ni ∧ t = .bool (((intoM l N k).take m).all (fun q => q == k)) ∧ Below wr.heap.size wr wr3) (fun _ i _ => ni - (intOf i).toNat)
            case atStart => exact ⟨0, rfl, Nat.zero_le _, by simp, Below.refl _ _⟩
            case round =>
              obtain ⟨m, rfl, hm, rfl, hB3⟩ := hrel
              have HBm := Lib.hid hB3
              obtain ⟨t, ht⟩ : ∃ t, ((intoM l N k).take m).all (fun q => q == k) = t := ⟨_, rfl⟩
              have HT := Lib.hid ht
              rw [ht]
              clear ht
              by_cases hlm : m < ni
              · have HM := Lib.hid hlm
                have hm1 : (m : Int) < ni := by omega
                have hmi : m < (intoM l N k).length := by rw [HNI.out]; exact hlm
                obtain ⟨b, off, rfl, c1⟩ := (HI7.out.below hB3).cell hmi
                have hme : (intoM l N k)[m] ∈ intoM l N k := List.getElem_mem hmi
                have htk : (intoM l N k).take (m + 1) = (intoM l N k).take m ++ [(intoM l N k)[m]] := List.take_succ_eq_append_getElem hmi
                obtain ⟨x, hx⟩ : ∃ x, (intoM l N k)[m] = x := ⟨_, rfl⟩
                rw [hx] at c1 hme htk
                have HE := Lib.hid (intoM_mem.1 hme)
                have HTK := Lib.hid (show ((intoM l N k).take (m + 1)).all (fun q => q == k) = (t && (x == k)) by rw [htk, List.all_append, HT.out]; simp)
                have HLX := Lib.hid (look_in (len := l.length) (N := N) (x := x) HLK.out HNA.out (edge_lt HE.out).1)
                have HLd := Lib.hid (show RdR wr.drew (.slice pl l.length cl) l from (HL7.out.below hB3).keep (fun _ _ => rfl))
                clear hlm hmi hme hx hB3 htk
                go_wp2_with fail
                have hS0 : wr.drew.cell? ⟨b, off + m, none⟩ = some (.int .i64 (x : Nat)) := c1
                refine region_just (S := fun w' => w'.cell? ⟨b, off + m, none⟩ = some (.int .i64 (x : Nat))) (by kernel_rfl) ?_
                refine wpAnyH_take (i := 0) (v := .slice pl l.length cl) rfl (by kernel_rfl) (by kernel_rfl) (by kernel_rfl) (fun _ _ _ h => h) (.inl ⟨by rfl, fun w' hS => by have h1 := hS; go_simp⟩) hS0 ?_
                refine wpAnyH_take (i := 2) (v := .int .i64 (N : Nat)) rfl (by kernel_rfl) (by kernel_rfl) (by kernel_rfl) (fun _ _ _ h => h) (.inl ⟨by rfl, fun w' hS => by have h1 := hS; go_simp⟩) hS0 ?_
                refine wpAnyH_take (i := 3) (v := .slice (some ⟨b, off, none⟩) ni ci) rfl (by kernel_rfl) (by kernel_rfl) (by kernel_rfl) (fun _ _ _ h => h) (.inl ⟨by rfl, fun w' hS => by have h1 := hS; go_simp⟩) hS0 ?_
                refine wpAnyH_take (i := 4) (v := .int .i64 (m : Nat)) rfl (by kernel_rfl) (by kernel_rfl) (by kernel_rfl) (fun _ _ _ h => h) (.inl ⟨by rfl, fun w' hS => by have h1 := hS; go_simp⟩) hS0 ?_
                refine wpAnyH_take (i := 5) (v := .pointer (some ⟨b, off + m, none⟩)) rfl (by kernel_rfl) (by kernel_rfl) (by kernel_rfl) (fun _ _ _ h => h) (.inl ⟨by rfl, fun w' hS => by have h1 := hS; go_simp⟩) hS0 ?_
                refine wpAnyH_take (i := 6) (v := .int .i64 (x : Nat)) rfl (by kernel_rfl) (by kernel_rfl) (by kernel_rfl) (fun _ _ _ h => h) (.inl ⟨by rfl, fun w' hS => by have h1 := hS; go_simp⟩) hS0 ?_
                refine wpAnyH_all (rs := [1]) (by kernel_rfl) (by simp) ?_
                intro i' hi'
                obtain rfl : i' = 1 := by simpa using hi'
                refine op_via rfl (by rfl) (fun K hK => ?_)
                go_simp
                refine (twin_pro l _ _ HLd.out HLN.out).mono ?_
                rintro e w5 ⟨v5, rfl, hR5, hb5⟩
                have hS5 := (hb5.cell (p := ⟨b, off + m, none⟩) (cellInL hS0)).trans hS0
                have HQ5 := Lib.hid (out_pro l v5 N (x : Nat) w5 hR5 HLL.out)
                have HB5 := Lib.hid hb5
                clear hR5 hb5
                refine hK _ _ ⟨hS5, ?_⟩
                clear hK K
                refine wpAnyH_all (rs := [7]) (by kernel_rfl) (by simp) ?_
                intro i' hi'
                obtain rfl : i' = 7 := by simpa using hi'
                refine op_via rfl (by rfl) (fun K hK => ?_)
                go_simp
                refine HQ5.out.mono ?_
                rw [HLX.out, if_pos rfl]
                rintro e w6 ⟨v6, rfl, ho6, hb6⟩
                have hS6 := (hb6.cell (p := ⟨b, off + m, none⟩) (cellInL hS5)).trans hS5
                have HO7 := Lib.hid (show RdI w6 v6 (outM l N x) from RdI.own ho6 rfl)
                have HB8 := Lib.hid ((Below.refl _ wr).drew.trans (HB5.out.trans (hb6.mono HB5.out.size)))
                clear ho6 hb6 hS5 HQ5 HB5
                refine hK _ _ ⟨hS6, ?_⟩
                clear hK K
                refine wpAnyH_take (i := 8) (v := .tuple #[v6, .int .i64 0]) rfl (by kernel_rfl) (by kernel_rfl) (by kernel_rfl) (fun _ _ _ h => h) (.inl ⟨by rfl, fun w' hS => by have h1 := hS; go_simp⟩) hS6 ?_
                refine wpAnyH_take (i := 9) (v := v6) rfl (by kernel_rfl) (by kernel_rfl) (by kernel_rfl) (fun _ _ _ h => h) (.inl ⟨by rfl, fun w' hS => by have h1 := hS; go_simp⟩) hS6 ?_
                refine wpAnyH_take (i := 10) (v := .int .i64 0) rfl (by kernel_rfl) (by kernel_rfl) (by kernel_rfl) (fun _ _ _ h => h) (.inl ⟨by rfl, fun w' hS => by have h1 := hS; go_simp⟩) hS6 ?_
                refine wpAnyH_take (i := 11) (v := v6) rfl (by kernel_rfl) (by kernel_rfl) (by kernel_rfl) (fun _ _ _ h => h) (.inl ⟨by rfl, fun w' hS => by have h1 := hS; go_simp⟩) hS6 ?_
                refine wpAnyH_take (i := 12) (v := .int .i64 0) rfl (by kernel_rfl) (by kernel_rfl) (by kernel_rfl) (fun _ _ _ h => h) (.inl ⟨by rfl, fun w' hS => by have h1 := hS; go_simp⟩) hS6 ?_
                refine wpAnyH_done (by kernel_rfl) ?_ _
                simp only [Just]
                have hin : decide ((k : Int) ∈ intsL (outM l N x)) = true := decide_eq_true (mem_ints.2 (outM_mem.2 HE.out))
                have hhas := has_pro (outM l N x) v6 (k : Nat) _ HO7.out (out_len HNA.out)
                rw [hin] at hhas
                have HHAS := Lib.hid hhas
                have c7 := hS6
                clear hin hhas c1 hS0 hS6
                go_wp2_with fail
                refine HHAS.out.mono ?_
                rintro e w8 ⟨rfl, rfl⟩
                cases t with
                | false =>
                  clear c7
                  go_wp2_with fail
                  go_roundw
                  case measure => have := HM.out; first | (simp [intOf]; done) | (simp [intOf]; omega)
                  case rel => exact ⟨m + 1, by go_num, by have := HM.out; omega, by rw [HTK.out]; rfl, HBm.out.trans (HB8.out.mono HBm.out.size)⟩
                | true =>
                  obtain ⟨s, hs⟩ : ∃ s, ((x : Int) == k) = s := ⟨_, rfl⟩
                  have HS := Lib.hid (show (x == k) = s by rw [← hs, Bool.eq_iff_iff, beq_iff_eq, beq_iff_eq]; omega)
                  go_wp2_with fail
                  go_roundw
                  case measure => have := HM.out; first | (simp [intOf]; done) | (simp [intOf]; omega)
                  case rel => exact ⟨m + 1, by go_num, by have := HM.out; omega, by rw [HTK.out, HS.out]; rfl, HBm.out.trans (HB8.out.mono HBm.out.size)⟩
              · obtain rfl : m = ni := by omega
                have hlz : ¬ ((m : Int) < m) := by omega
                have hq := HT.out
                rw [← HNI.out, List.take_length, back_alone HK.out] at hq
                have hhas := has_pro (aloneM l N) va (k : Nat) _ (HA7.out.below hB3) (alone_len HNA.out)
                rw [hq] at hhas
                have HHAS := Lib.hid hhas
                have HB9 := Lib.hid (HB7.out.trans (hB3.mono HB7.out.size))
                clear hq hhas hlm hB3
                go_wp2_with fail
                refine HHAS.out.mono ?_
                rintro e w8 ⟨rfl, rfl⟩
                have hne : (t != t) = false := by cases t <;> rfl
                go_wp2_with fail
                go_roundw
                case measure => have := HK.out; first | (simp [intOf]; done) | (simp [intOf]; omega)
                case rel => exact ⟨k + 1, by go_num, by have := HK.out; omega, HBr.out.trans (HB9.out.mono HBr.out.size)⟩
      · obtain rfl : k = N := by omega
        have hlz : ¬ ((k : Int) < k) := by omega
        clear hlt hB
        go_wp2_with fail
        go_ret
        exact ⟨rfl, HB2.out.trans (HBr.out.mono HB2.out.size)⟩
  · rw [if_neg h0]
    obtain ⟨er, her⟩ : ∃ er, lookE l.length n [] = er := ⟨_, rfl⟩
    rw [her] at h0 ⊢
    rintro e w2 ⟨va, rfl, hoa, hb2⟩
    have HB2 := Lib.hid (HB1.out.trans (hb2.mono HB1.out.size))
    obtain ⟨p, c, hva⟩ := lenL hoa
    subst hva
    have t1 : (er != 0) = true := by simpa using h0
    clear hoa hb2 her h0
    go_wp2_with fail
    go_ret
    exact ⟨rfl, HB2.out⟩

set_option maxRecDepth 100000 in
theorem contract (H : Type) (enc : TypeId × Value → H) (W : World) (base : Nat) (args : Array Value) (ds gs : List (DataW H)) (before : List MemPlace)
    (hval : ∀ (j : Nat) t v, Try.f4.params[j]? = some t → args[j]? = some v → Value.okWide Try.prog W .any base t v)
    (hW : DataW.Whole enc Try.prog Try.f4.params.toList Rows.linkBackSpec.vars false W args.toList ds gs before) (hsz0 : (DataW.weightsEach Try.prog (Try.f4.params.toList ++ Rows.linkBackSpec.plain.varTypes Try.prog) (ds ++ gs)).all (· ≤ reachBytes) = true) :
    Calls Try.prog 4 args W fun e W' => ∃ v, e = .returned v ∧ Rows.linkBackSpec.post enc Try.prog Try.f4 false true false false W args v W' := by
  have hW' := hW
  obtain ⟨p, q, hA0, hV, rfl, hfz, hnd⟩ := hW
  have hA : DataW.TrodAll enc Try.prog W 0 (fun _ => true) true Try.f4.params.toList args.toList ds p := hA0
  rw [Try.params4] at hA hval
  have hsz := hsz0
  rw [Try.params4] at hsz
  clear hsz0
  obtain ⟨v0, vs0, d0, ds0, p0, q0, hargs, rfl, rfl, h0, r0⟩ := trodAll_cons hA
  obtain ⟨v1, vs1, d1, ds1, p1, q1, rfl, rfl, rfl, h1, r1⟩ := trodAll_cons r0
  obtain ⟨rfl, rfl, rfl⟩ := trodAll_nil r1
  obtain rfl : args = #[v0, v1] := by cases args; simp_all
  obtain ⟨rfl, rfl⟩ := trodVars_none hV
  have hk0 := h0
  obtain ⟨l0, hR0, hD0⟩ := refs_read h0 (okWide_slice Try.underlying22 (hval 0 22 v0 rfl rfl))
  obtain ⟨a1, rfl, rfl, rfl, w1⟩ := open_int Try.underlying3 (hval 1 3 v1 rfl rfl) h1
  clear hA0
  have size0 := refs_reach hsz (j := 0) rfl rfl hD0
  refine (walk v0 l0 a1 W hR0 size0 w1).mono fun e W' ⟨he, hg⟩ => ?_
  subst he
  have hlt := hW'.lt
  exact ⟨_, rfl, post_of_below (pa := (p0 ++ ([] ++ []))) (pv := []) hW' (fun _ _ _ => trodAll_cons_mk (shut_bool Try.underlying4 _) trodAll_mk0) (fun sp hsp => (trodAll_cons_mk (Go.WideElems.Trod_stays (by kernel_rfl) (by kernel_rfl) (of_decide_eq_true (by kernel_rfl)) hk0 (fun p hp => hg.same (hlt p (by simp [hp]))) (fun p hp => hsp p (by simp [hp]))) (trodAll_cons_mk (shut_int Try.underlying3 w1) trodAll_mk0))) (fun _ _ => rfl) rfl hg (ok_one (by kernel_rfl) rfl (okWide_bool_mk Try.underlying4 _))⟩

theorem witness_row (os : Os) {H : Type} (enc : TypeId × Value → H) :
    (OpenSpec.ofChange Rows.linkBackSpec).preRow enc Try.prog Try.f4 Rows.linkBackRow.domain false Rows.linkBackRow.laid ((laidWorld os).forCall (fun _ _ => 0) ⟨#[], #[.slice none 0 0, .int .i64 0], []⟩).memory #[.slice none 0 0, .int .i64 0] := by
  have hw : (DataW.whole enc Try.prog ((laidWorld os).forCall (fun _ _ => 0) ⟨#[], #[.slice none 0 0, .int .i64 0], []⟩).memory Try.f4.params.toList Rows.linkBackSpec.vars false (#[.slice none 0 0, .int .i64 0] : Array Value).toList 8).map (fun x => (x.1, x.2.1)) =
      some ([.nil, .lit (.int .i64 0)], []) := by kernel_rfl
  obtain ⟨⟨x1, x2, x3⟩, hx, hx1⟩ := Option.map_eq_some_iff.1 hw
  simp only [Prod.mk.injEq] at hx1
  obtain ⟨rfl, rfl⟩ := hx1
  exact OpenSpec.preRow_of_cond 8 hx (by kernel_rfl) (fun k hk => by cases hk) (by kernel_rfl) (laid_met _)

set_option maxRecDepth 100000 in
theorem lifted (os : Os) (started : os.Started) (H : Type) (enc : TypeId × Value → H) (F : Stop.Interp) :
    ReturnsInHanded {} Try.checked os 4 .any ((OpenSpec.ofChange Rows.linkBackSpec).preRow enc Try.prog Try.f4 Rows.linkBackRow.domain false Rows.linkBackRow.laid) (((OpenSpec.ofChange Rows.linkBackSpec).at F).post enc Try.prog Try.f4 false true false false) := by
  refine returnsInHanded_of_row (C := Try.checked) (s := (OpenSpec.ofChange Rows.linkBackSpec)) own started (by kernel_rfl) Try.func4
    (witness_row_at (enc := enc) (C := Try.checked) false (laidWorld os) #[.slice none 0 0, .int .i64 0] rfl (by kernel_rfl) (by kernel_rfl) (by kernel_rfl) (witness_row os enc)) ?_
  intro W base args ds gs before hval hW _ hcond hsz hL hS _
  exact contract H enc W base args ds gs before hval hW hsz

set_option maxHeartbeats 16000000 in
theorem closed : joinedFacts Try.pinned.checked.prog 4 Try.f4 ((OpenSpec.ofChange Rows.linkBackSpec)).bare Rows.linkBackRow = true := by
  unfold joinedFacts
  repeat' (with_reducible refine Bool.and_eq_true_iff.2 ⟨?_, ?_⟩)
  all_goals (as_aux_lemma => kernel_rfl)
theorem named : Try.pinned.checked.prog.funcNamed Rows.linkBackRow.func = some 4 := by kernel_rfl
theorem inst : (Try.f4).isInstance Try.pinned.checked.prog Rows.linkBackRow.origin Rows.linkBackRow.targs := of_decide_eq_true (by kernel_rfl)
theorem wrap : (Try.f4).isWrapper Try.pinned.checked.prog Rows.linkBackRow.wrapper Rows.linkBackRow.mainSum := by
  unfold Func.isWrapper
  first | (rw [if_pos (by decide +kernel)]; kernel_rfl) | (rw [if_neg (by decide +kernel)]; exact ⟨rfl, rfl⟩)
theorem row : Rows.LinkBackSaid :=
  OpenClaim.holds_of_cond 4 Try.f4 rfl rfl rfl rfl rfl rfl rfl ⟨rfl, rfl, rfl, rfl, rfl⟩ rfl rfl rfl rfl rfl named Try.func4 closed inst wrap
    (fun os started H enc _ F => by rw [OpenClaim.pre_eq_preRow]; exact lifted os started H enc F)

theorem proved : Rows.LinkBackSaid := row
end Go.Proofs.Ytjgcbobalmmjkaa.linkBack
