/- The program's walk of layer 8, walked. -/
import Derived.Test.YtjgcbobalmmjkaaLkw
namespace Go.Proofs.Ytjgcbobalmmjkaa
open Go.RowKit Go.Maps
set_option linter.unusedVariables false

theorem nodup_le : ∀ (N : Nat) (l : List Nat), l.Nodup → (∀ x ∈ l, x < N) → l.length ≤ N
  | 0, l, _, h => by
    rcases l with _ | ⟨a, l⟩
    · simp
    · exact absurd (h a (by simp)) (Nat.not_lt_zero _)
  | N + 1, l, hn, h => by
    by_cases hm : N ∈ l
    · have h1 := nodup_le N (l.erase N) (hn.erase N) (fun x hx => by
        have h2 := (hn.mem_erase_iff).1 hx
        have := h x h2.2
        have := h2.1
        omega)
      rw [List.length_erase_of_mem hm] at h1
      omega
    · have := nodup_le N l hn (fun x hx => by
        have h1 := h x hx
        rcases Nat.lt_or_eq_of_le (Nat.le_of_lt_succ h1) with h2 | rfl
        · exact h2
        · exact absurd hx hm)
      omega
theorem seen_q {g : Nat → Nat → Bool} {x : Nat} {S : List (Nat × Nat)} (h : Bf.Seen g x S) (j n q : Nat) (e : S[j]? = some (n, q)) : q < S.length := by
  have hl := (List.getElem?_eq_some_iff.1 e).1
  rcases Nat.eq_zero_or_pos j with h0 | h0
  · subst h0
    rw [h.head] at e
    cases e
    exact hl
  · have := (h.back j n q h0 e).1
    omega
theorem seen_len {g : Nat → Nat → Bool} {x N : Nat} {S : List (Nat × Nat)} (h : Bf.Seen g x S) (hb : ∀ y ∈ S.map (·.1), y < N) : S.length ≤ N := by
  have := nodup_le N _ h.nodup hb
  simpa using this
/-- What a walk has seen, of a graph of references: all that can be reached, or what it looked for. -/
def WalkIs (l : List Rf) (N fr : Nat) (tg : Int) (w : World) (e : Ending) (w' : World) : Prop :=
  ∃ M S c pre, e = .returned (.map (some M)) ∧ Bf.St (fun i k => edge l N i k) fr S c pre ∧ (∀ x ∈ S.map (·.1), x < N) ∧ MapAt w' M S ∧ (c = S.length ∨ ∃ j t q : Nat, (t : Int) = tg ∧ S[j]? = some (t, q)) ∧ Below w.heap.size w w'
theorem drop_cons {S : List (Nat × Nat)} {c : Nat} (h : c < S.length) : (S.drop c).map (·.1) = S[c].1 :: (S.drop (c + 1)).map (·.1) := by
  rw [List.drop_eq_getElem_cons h]; rfl
theorem wf_nat {x : Nat} (h : x ≤ 1000000) : (Lit.int .i64 (x : Nat)).wf = true := WalkArith.wf_i64 (by omega)

set_option maxRecDepth 100000 in
set_option maxHeartbeats 4000000 in
theorem walk_pro (l : List Rf) (N fr : Nat) (tg : Int) (S0 base0 : Nat) (vs : Nat → Value) (w : World) (hL : Lsts base0 w S0 N vs (fun k => outM l N k)) (hN : N ≤ 1000) (hf : fr < N) :
    Calls Try.prog 27 #[.slice (some ⟨S0, 0, none⟩) N N, .int .i64 fr, .int .i64 tg] w (WalkIs l N fr tg w) := by
  have HL := Lib.hid hL
  have HF := Lib.hid hf
  have hmm := @run_makeMap Try.prog
  obtain ⟨w1, hrun, hown1, hgrow1⟩ := (World.ownsMap_made w Try.prog 3 (plainElem Try.prog 3) : (w.alloc (.map #[] 0)).ownsMap Try.prog 3 (plainElem Try.prog 3) w.heap.size 0 (.map [] : DataW Unit)).update lawI Try.underlying58 (by decide) (keyOf_int_mk Try.underlying3 (wf_nat (x := fr) (by omega))) (plainElem_int Try.underlying3 (wf_nat (x := fr) (by omega)))
  have WF := Lib.hid (fun (x : Nat) (h : x < N) => wf_nat (x := x) (by omega))
  have hm1 : MapAt w1 w.heap.size [(fr, 0)] := ⟨_, hown1, MpS.start fr⟩
  have hb1 : Below w.heap.size w w1 := ((Below.refl _ w).alloc (Nat.le_refl _) _).grown hgrow1 (by simp) (fun k e => by cases e; exact Nat.le_refl _)
  have HM1 := Lib.hid hm1
  have HB1 := Lib.hid hb1
  clear hL hown1 hgrow1 hm1 hb1
  go_enter Try.func27, Try.ntmps27
  go_wp2_with fail
  go_step3
  go_wp2_with fail
  clear hrun hmm
  try go_step3
  try go_wp2_with fail
  go_loopg [8] N (fun g s8 wx => ∃ (S : List (Nat × Nat)) (c : Nat), c + g = N ∧ Hid (Bf.St (fun i k => edge l N i k) fr S c (fun _ => False)) ∧ Hid (∀ x ∈ S.map (·.1), x < N) ∧ Hid (Qr wx w.heap.size s8 ((S.drop c).map (·.1))) ∧ Hid (MapAt wx w.heap.size S) ∧ Hid (Below w.heap.size w wx))
  case atStart =>
    have hA := (Below.refl w1.heap.size w1).alloc (Nat.le_refl _) (.cells #[.int .i64 (fr : Nat)] 3)
    exact ⟨[(fr, 0)], 0, by omega, Lib.hid (Bf.St.start _ fr), Lib.hid (by have := HF.out; simpa using this), Lib.hid (Qr.one w1 fr w.heap.size HB1.out.size), Lib.hid (HM1.out.below hA), Lib.hid (HB1.out.trans (hA.mono HB1.out.size))⟩
  case round =>
    obtain ⟨S, c, hcg, HSt, HBd, HQ, HM, HBel⟩ := hrel
    have hle := HSt.out.le
    have hlen := seen_len HSt.out.toSeen HBd.out
    by_cases hce : c = S.length
    · have hq := HQ.out
      rw [hce, List.drop_length] at hq
      obtain ⟨g, o, cap, cur, rfl, _⟩ := hq
      have HFin := Lib.hid (show WalkIs l N fr tg w (.returned (.map (some w.heap.size))) wr from ⟨_, S, c, _, rfl, HSt.out, HBd.out, HM.out, .inl hce, HBel.out⟩)
      clear hcg hle hlen hce HQ
      simp only [List.map_nil, List.length_nil]
      go_wp2_with fail
      try rw [Exit.noGoto_ret]
      go_ret
      exact HFin.out
    · have hcl : c < S.length := by omega
      have hdc := drop_cons hcl
      obtain ⟨x, hx⟩ : ∃ x, S[c].1 = x := ⟨_, rfl⟩
      obtain ⟨rest, hrest⟩ : ∃ rest, (S.drop (c + 1)).map (·.1) = rest := ⟨_, rfl⟩
      rw [hx, hrest] at hdc
      have hsc : S[c]? = some (x, S[c].2) := by rw [List.getElem?_eq_getElem hcl, ← hx]
      obtain ⟨r0, hr0⟩ : ∃ r0, S[c].2 = r0 := ⟨_, rfl⟩
      rw [hr0] at hsc
      have hxN : x < N := HBd.out x (Bf.at_mem hsc)
      have hq := HQ.out
      rw [hdc] at hq
      have hq' := hq
      obtain ⟨g, o, cap, cur, rfl, _, _, _, hcap, _, _⟩ := hq'
      simp only [List.length_cons] at hq hcap
      have cF := hq.first
      have HQ2 := Lib.hid hq.cut
      have HSC := Lib.hid hsc
      have HRE := Lib.hid hrest
      have HXN := Lib.hid hxN
      obtain ⟨G, rfl⟩ : ∃ G, gk = G + 1 := ⟨gk - 1, by omega⟩
      have HCG := Lib.hid hcg
      have HHL := Lib.hid hlen
      have HCL := Lib.hid hcl
      have hx0 : (x : Int) < N := by omega
      have hrl : rest.length + 1 ≤ 1000 := by
        have h1 := congrArg List.length hdc
        simp only [List.length_map, List.length_drop, List.length_cons] at h1
        omega
      clear hq hdc hx hr0 hsc hrest hcl hce hcg hle hlen hxN HQ
      go_upto_region 5 with fail
      go_cut [8] from 20 to 54 (fun q wx => Hid (Qr wr w.heap.size q rest) ∧ wx = wr)
      case first =>
        by_cases h1 : cap = 1
        · subst h1
          have h0 : rest.length = 0 := by omega
          have hn : rest = [] := List.eq_nil_of_length_eq_zero h0
          have h9 := HQ2.out
          rw [if_pos rfl, h0] at h9
          have HQ9 := Lib.hid h9
          clear h9 h0
          simp only [hn, List.length_nil]
          clear hn
          go_wp2_with fail
          go_meet
          exact ⟨HQ9, rfl⟩
        · have h9 := HQ2.out
          rw [if_neg h1] at h9
          have HQ9 := Lib.hid h9
          clear h9
          go_wp2_with fail
          go_meet
          exact ⟨HQ9, rfl⟩
      case rest =>
        obtain ⟨HQ3, hwc⟩ := hcut
        subst hwc
        obtain ⟨W, hW⟩ : ∃ W : World, W = wc := ⟨_, rfl⟩
        subst hW
        have cL := (HL.out.below HBel.out).cell HXN.out
        have hown := HL.out.own x HXN.out
        obtain ⟨px, cx, hvx⟩ := lenL hown
        rw [hvx] at cL
        have HRI := Lib.hid (show RdI w (.slice px (outM l N x).length cx) (outM l N x) by rw [← hvx]; exact RdI.own hown rfl)
        have HIN := Lib.hid (outM_inc l N x)
        have HME := Lib.hid (fun k => outM_mem (l := l) (n := N) (i := x) (k := k))
        have hzl := outM_len l N x
        obtain ⟨zs, hzs⟩ : ∃ zs, outM l N x = zs := ⟨_, rfl⟩
        rw [hzs] at cL HRI HIN HME hzl
        have HZL := Lib.hid hzl
        clear hown hvx hzs hzl cF
        go_wp2_with fail
        go_loopg [8, 33] zs.length (fun g s8 s33 wx => ∃ (S1 : List (Nat × Nat)) (k : Nat), k + g = zs.length ∧ s33 = .int .i64 (k : Nat) ∧ Hid (Bf.St (fun i k => edge l N i k) fr S1 c (fun z => z ∈ zs.take k)) ∧ Hid (∀ x ∈ S1.map (·.1), x < N) ∧ Hid (S1[c]? = some (x, r0)) ∧ Hid (Qr wx w.heap.size s8 ((S1.drop (c + 1)).map (·.1))) ∧ Hid (MapAt wx w.heap.size S1) ∧ Hid (Below w.heap.size w wx))
        case atStart => exact ⟨S, 0, by omega, rfl, Lib.hid (HSt.out.imp fun z => by simp), HBd, HSC, Lib.hid (by rw [HRE.out]; exact HQ3.out), HM, HBel⟩
        case round =>
          obtain ⟨S1, k, hkg, rfl, HT1, HBd1, HC1, HQ1, HM1', HBe1⟩ := hrel
          by_cases hk : k < zs.length
          · obtain ⟨nb, no, rfl, hnc⟩ := (HRI.out.below HBe1.out).cell hk
            have htk : zs.take (k + 1) = zs.take k ++ [zs[k]] := List.take_succ_eq_append_getElem hk
            have hlt : ∀ z, z ∈ zs.take k → z < zs[k] := fun z hz => by
              obtain ⟨j, hj, e⟩ := List.mem_take_iff_getElem.1 hz
              rw [← e]
              exact List.pairwise_iff_getElem.1 HIN.out j k (by omega) hk (by omega)
            have hed := (HME.out zs[k]).1 (List.getElem_mem hk)
            obtain ⟨n, hn⟩ : ∃ n, zs[k] = n := ⟨_, rfl⟩
            rw [hn] at hnc htk hlt hed
            have hnN := (edge_lt hed).2
            have HTK := Lib.hid htk
            have HLT := Lib.hid hlt
            have HED := Lib.hid hed
            have HNN := Lib.hid hnN
            have HK := Lib.hid hk
            have hk0 : (k : Int) < zs.length := by omega
            have HKG := Lib.hid hkg
            have hZ := HZL.out
            obtain ⟨D, hown, hmp⟩ := HM1'.out
            have HO := Lib.hid hown
            have HMP := Lib.hid hmp
            have WN := Lib.hid (WF.out n HNN.out)
            obtain ⟨g2, rfl⟩ : ∃ g2, gk = g2 + 1 := ⟨gk - 1, by omega⟩
            clear htk hlt hed hnN hk hn hkg hown hmp
            by_cases hin : n ∈ S1.map (·.1)
            · have hhas : Maps.has D (.int .i64 (n : Nat)) = true := (HMP.out.has n).2 hin
              have HTN := Lib.hid ((HT1.out.old HC1.out HED.out hin).imp (pre' := fun z => z ∈ zs.take (k + 1)) fun z => by rw [HTK.out]; simp)
              clear hin
              go_wp2_with (at_lookup; go_loud (refine wpList_lookup_own_ok_int _ rfl _ _ 58 rfl 3 3 .i64 lawI Try.underlying58 Try.underlying3 (zeroIL _) w.heap.size S1.length D rfl HO.out _ _ rfl (keyOf_int_mk Try.underlying3 WN.out) ?_); intro c' hat hwc)
              go_roundg g2
              case rel => exact ⟨S1, k + 1, by have := HKG.out; omega, by go_num, HTN, HBd1, HC1, HQ1, HM1', HBe1⟩
              case measure => omega
            · have hhas : Maps.has D (.int .i64 (n : Nat)) = false := by
                cases e : Maps.has D (.int .i64 (n : Nat))
                · rfl
                · exact absurd ((HMP.out.has n).1 e) hin
              have HTN := Lib.hid ((HT1.out.new HC1.out HED.out hin HLT.out).imp (pre' := fun z => z ∈ zs.take (k + 1)) fun z => by rw [HTK.out]; simp)
              have HBN := Lib.hid (show ∀ y ∈ (S1 ++ [(n, c)]).map (·.1), y < N from fun y hy => by
                rw [List.map_append, List.mem_append] at hy
                rcases hy with hy | hy
                · exact HBd1.out y hy
                · have : y = n := by simpa using hy
                  rw [this]; exact HNN.out)
              have HCN := Lib.hid (show (S1 ++ [(n, c)])[c]? = some (x, r0) by rw [List.getElem?_append_left (List.getElem?_eq_some_iff.1 HC1.out).1]; exact HC1.out)
              have hdr : ((S1 ++ [(n, c)]).drop (c + 1)).map (·.1) = (S1.drop (c + 1)).map (·.1) ++ [n] := by
                rw [List.drop_append_of_le_length (by have := (List.getElem?_eq_some_iff.1 HC1.out).1; omega), List.map_append]; rfl
              have HDR := Lib.hid hdr
              have HPN := Lib.hid (HMP.out.put (fun j n q e => seen_q HT1.out.toSeen j n q e) hin HC1.out)
              have hql := seen_len HT1.out.toSeen HBd1.out
              have HQL := Lib.hid hql
              have WX := Lib.hid (WF.out x HXN.out)
              clear hin hdr hql
              by_cases htg : (n : Int) = tg
              · have t1 : ((n : Int) == tg) = true := by simp [htg]
                have HTG := Lib.hid htg
                clear htg
                go_wp2_with (first
                  | (at_lookup; go_loud (refine wpList_lookup_own_ok_int _ rfl _ _ 58 rfl 3 3 .i64 lawI Try.underlying58 Try.underlying3 (zeroIL _) w.heap.size S1.length D rfl HO.out _ _ rfl (keyOf_int_mk Try.underlying3 WN.out) ?_); intro c' hat hwc)
                  | (at_mapUpdate; go_loud (refine wpList_mapUpdate_own _ rfl _ _ _ 58 rfl 3 3 lawI Try.underlying58 (plainElem Try.prog 3) w.heap.size S1.length D rfl HO.out (by have := HQL.out; unfold maxLen; omega) _ _ _ rfl rfl (keyOf_int_mk Try.underlying3 WN.out) _ [] (plainElem_int Try.underlying3 WX.out) ?_); intro w2 hown2 hgrow2; have HO2 := Lib.hid hown2; have HG2 := Lib.hid hgrow2; clear hown2 hgrow2))
                try rw [Exit.noGoto_ret]
                go_ret
                refine ⟨w.heap.size, S1 ++ [(n, c)], c, _, rfl, HTN.out, HBN.out, ⟨_, by rw [List.length_append]; exact HO2.out, HPN.out⟩, .inr ⟨S1.length, n, c, HTG.out, by simp⟩, ?_⟩
                exact HBe1.out.grown HG2.out HBe1.out.size (fun r e => by cases e; exact Nat.le_refl _)
              · have t1 : ((n : Int) == tg) = false := by simpa using htg
                clear htg
                have hqz : ((S1.drop (c + 1)).map (·.1)).length ≤ 1000 := by have := HQL.out; simp; omega
                obtain ⟨zq, hzq⟩ : ∃ zq, (S1.drop (c + 1)).map (·.1) = zq := ⟨_, rfl⟩
                have hqe := HQ1.out
                rw [hzq] at HQ1 HDR hqe hqz
                have HQZ := Lib.hid hqz
                obtain ⟨qg, qo, qc, qcur, hqv, _⟩ := hqe
                subst hqv
                clear hqz hzq
                go_wp2_with (first
                  | (at_lookup; go_loud (refine wpList_lookup_own_ok_int _ rfl _ _ 58 rfl 3 3 .i64 lawI Try.underlying58 Try.underlying3 (zeroIL _) w.heap.size S1.length D rfl HO.out _ _ rfl (keyOf_int_mk Try.underlying3 WN.out) ?_); intro c' hat hwc)
                  | (at_mapUpdate; go_loud (refine wpList_mapUpdate_own _ rfl _ _ _ 58 rfl 3 3 lawI Try.underlying58 (plainElem Try.prog 3) w.heap.size S1.length D rfl HO.out (by have := HQL.out; unfold maxLen; omega) _ _ _ rfl rfl (keyOf_int_mk Try.underlying3 WN.out) _ [] (plainElem_int Try.underlying3 WX.out) ?_); intro w2 hown2 hgrow2; have HO2 := Lib.hid hown2; have HG2 := Lib.hid hgrow2; clear hown2 hgrow2)
                  | (at_builtin; go_loud (refine wpList_append_q rfl _ _ rfl (base := w.heap.size) (zs := zq) rfl ((HQ1.out.keep (W' := w2) fun b e => (HG2.out.block b (HQ1.out.own e).2.1 (fun e2 => by obtain ⟨cu, hcu⟩ := (HQ1.out.own e).2.2; obtain ⟨es, ck, hm⟩ := HM1'.out.obj; cases e2; rw [hm] at hcu; cases hcu))).below ((Below.refl _ w2).alloc (Nat.le_refl _) (.cells #[.int .i64 (n : Nat)] 3))) ⟨w2.heap.size, 0, none⟩ 1 n rfl (Boxed.new w2 3 (.int .i64 n)).cell (by have := HQZ.out; omega) (by have := HBe1.out.size; have := HG2.out.size; simp; omega) ?_); intro v' w3 hq3 hg3; have HQ3' := Lib.hid hq3; have HG3 := Lib.hid (show (w2.alloc (.cells #[.int .i64 (n : Nat)] 3)).grownBy w3 (some qg) from hg3); clear hq3 hg3))
                go_roundg g2
                case measure => omega
                case rel =>
                  have hb2 : Below w.heap.size w w2 := HBe1.out.grown HG2.out HBe1.out.size (fun r e => by cases e; exact Nat.le_refl _)
                  have hA2 := (Below.refl w2.heap.size w2).alloc (Nat.le_refl _) (.cells #[.int .i64 (n : Nat)] 3)
                  have hqb := HQ1.out.own (c := qg) rfl
                  have hm3 : MapAt w3 w.heap.size (S1 ++ [(n, c)]) := by
                    have h1 : MapAt w2 w.heap.size (S1 ++ [(n, c)]) := ⟨_, by rw [List.length_append]; exact HO2.out, HPN.out⟩
                    have h2 := h1.below hA2
                    refine h2.block (HG3.out.block _ h2.lt fun e => ?_)
                    obtain ⟨cu, hcu⟩ := hqb.2.2
                    obtain ⟨es, ck, hm⟩ := HM1'.out.obj
                    have : w.heap.size = qg := by injection e
                    rw [← this, hm] at hcu
                    cases hcu
                  exact ⟨S1 ++ [(n, c)], k + 1, by have := HKG.out; omega, by go_num, HTN, HBN, HCN, Lib.hid (by rw [HDR.out]; exact HQ3'.out), Lib.hid hm3, Lib.hid ((hb2.trans (hA2.mono hb2.size)).grown HG3.out (by have := hb2.size; simp; omega) (fun r e => by cases e; exact hqb.1))⟩
          · have hke : k = zs.length := by omega
            subst hke
            have hlz : ¬ ((zs.length : Nat) : Int) < zs.length := by omega
            have h9 := HT1.out
            rw [List.take_length] at h9
            have HNX := Lib.hid (h9.next HC1.out fun z hz => (HME.out z).2 hz)
            obtain ⟨zq, hzq⟩ : ∃ zq, (S1.drop (c + 1)).map (·.1) = zq := ⟨_, rfl⟩
            have hqe := HQ1.out
            rw [hzq] at hqe
            have HZQ := Lib.hid hzq
            obtain ⟨qg, qo, qc, qcur, hqv, _⟩ := hqe
            subst hqv
            clear h9 hk hzq
            go_wp2_with fail
            go_roundg G
            case measure => omega
            case rel => exact ⟨S1, c + 1, by have := HCG.out; omega, HNX, HBd1, by rw [HZQ.out] at HQ1 ⊢; exact HQ1, HM1', HBe1⟩
end Go.Proofs.Ytjgcbobalmmjkaa
