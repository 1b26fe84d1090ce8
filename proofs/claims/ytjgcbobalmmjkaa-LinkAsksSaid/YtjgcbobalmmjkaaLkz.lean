/- The program's Way of layer 8. -/
import Derived.Test.YtjgcbobalmmjkaaLky
namespace Go.Proofs.Ytjgcbobalmmjkaa
open Go.RowKit Go.Maps Go.Sort
set_option linter.unusedVariables false

theorem wayTo_len {g : Nat → Nat → Bool} {x : Nat} {S : List (Nat × Nat)} (h : Bf.Seen g x S) : ∀ j, j < S.length → (Bf.way S j).length ≤ j + 1 := by
  intro j
  induction j using Nat.strongRecOn with
  | _ j ih =>
    intro hj
    by_cases h0 : j = 0
    · subst h0
      rw [Bf.way_zero h]; simp
    · obtain ⟨n, q, e⟩ := h.ex hj
      have hb := (h.back j n q (by omega) e).1
      rw [Bf.way_succ h (by omega) e]
      have := ih q hb (by omega)
      simp
      omega
theorem way_dl {g : Nat → Nat → Bool} {x : Nat} {S : List (Nat × Nat)} (h : Bf.Seen g x S) {j n q : Nat} (e : S[j]? = some (n, q)) : Bf.way S j = (Bf.way S j).dropLast ++ [n] := by
  have h1 := (Bf.way_is h j n q e)
  have hne : Bf.way S j ≠ [] := by intro e2; rw [e2] at h1; exact h1.1.elim
  have h2 := List.dropLast_concat_getLast hne
  have h3 := h1.2.2
  rw [List.getLast?_eq_some_getLast hne] at h3
  cases h3
  exact h2.symm
/-- What Way answers. -/
def WayIs (l : List Rf) (n i k : Int) (w : World) (e : Ending) (w' : World) : Prop :=
  (lookE l.length n [i, k] ≠ 0 ∧ NewL [] (lookE l.length n [i, k]) w e w') ∨
  (lookE l.length n [i, k] = 0 ∧ (¬ ∃ p, Bf.Way (gEdge l n.toNat) i.toNat k.toNat p) ∧ NewL [] 3 w e w') ∨
  (lookE l.length n [i, k] = 0 ∧ ∃ p, Bf.FirstWay (gEdge l n.toNat) i.toNat k.toNat p ∧ p.Nodup ∧ p.length ≤ n.toNat ∧ NewL p 0 w e w')
theorem look_ok2 {len : Nat} {n i k : Int} (h : lookE len n [i, k] = 0) : len ≤ 65536 ∧ ∃ N I K : Nat, n = N ∧ i = I ∧ k = K ∧ N ≤ 1000 ∧ I < N ∧ K < N := by
  unfold lookE at h
  split at h
  · omega
  · split at h
    · omega
    · split at h
      · rename_i h1 h2 h3
        have h4 : isT i n.toNat = true ∧ isT k n.toNat = true := by simpa using h3
        unfold isT at h4
        have h5 := of_decide_eq_true h4.1
        have h6 := of_decide_eq_true h4.2
        exact ⟨by omega, n.toNat, i.toNat, k.toNat, by omega, by omega, by omega, by omega, by omega, by omega⟩
      · omega
theorem rdZ_two (w : World) (i k : Int) (c : Nat) : RdZ (w.alloc (.cells #[.int .i64 i, .int .i64 k] 3)) (.slice (some ⟨w.heap.size, 0, none⟩) 2 c) [i, k] :=
  ⟨_, c, rfl, fun j hj => by
    have hj' : j < 2 := by simpa using hj
    refine ⟨w.heap.size, 0, rfl, ?_⟩
    rw [Nat.zero_add, cell_of_row _ _ _ _ _ _ (World.alloc_heap_new w _)]
    rcases j with _ | _ | j
    · rfl
    · rfl
    · omega⟩

theorem own_map {w w' : World} {M n : Nat} {D : DataW Unit} (h : w.ownsMap Try.prog 3 (plainElem Try.prog 3) M n D) (hb : Below w.heap.size w w') : w'.ownsMap Try.prog 3 (plainElem Try.prog 3) M n D := by
  have hl := h.lt
  obtain ⟨es, ck, h1, h2⟩ := h
  exact ⟨es, ck, (hb.block M hl).trans h1, h2⟩

set_option maxRecDepth 100000 in
set_option maxHeartbeats 4000000 in
theorem way_pro (l : List Rf) (v : Value) (n i k : Int) (w : World) (hv : RdR w v l) (hl : l.length ≤ 140737488355328) :
    Calls Try.prog 17 #[v, .int .i64 n, .int .i64 i, .int .i64 k] w (WayIs l n i k w) := by
  obtain ⟨pa, cap, rfl, hcl, hcm⟩ := hv.form
  have hq := look_pro (w.alloc (.cells #[.int .i64 i, .int .i64 k] 3)) pa l.length cap n (.slice (some ⟨w.heap.size, 0, none⟩) 2 2) [i, k] (rdZ_two w i k 2) (by simp) hl
  by_cases h0 : lookE l.length n [i, k] = 0
  · obtain ⟨h1, N, I, K, rfl, rfl, rfl, h2, h3, h4⟩ := look_ok2 h0
    rw [h0] at hq
    have HQ := Lib.hid hq
    have hA : Below w.heap.size w (w.alloc (.cells #[.int .i64 (I : Nat), .int .i64 (K : Nat)] 3)) := (Below.refl _ w).alloc (Nat.le_refl _) _
    have HA := Lib.hid hA
    have HNX := Lib.hid (nexts_pro l _ N _ (hv.below hA) h1 h2)
    have H0 := Lib.hid h0
    have H2 := Lib.hid h2
    have H3 := Lib.hid h3
    have WK := Lib.hid (wf_nat (x := K) (by omega))
    have WN := Lib.hid (fun (x : Nat) (h : x < N) => wf_nat (x := x) (by omega))
    obtain ⟨i0, hi0, hz0, hz1, hz2⟩ := info_parts infoI
    clear hv hl hq h0 hcl hcm hA h1
    go_enter Try.func17, Try.ntmps17
    go_wp2_with fail
    refine HQ.out.mono ?_
    rintro e w1 ⟨rfl, rfl⟩
    go_wp2_with fail
    refine HNX.out.mono ?_
    rintro e w2 ⟨S0, vs, hS0, rfl, hL, hb⟩
    have HB2 := Lib.hid (HA.out.trans (hb.mono (by simp)))
    have HW := Lib.hid (walk_pro l N I K S0 _ vs w2 hL H2.out H3.out)
    clear hL hb hS0
    go_wp2_with fail
    refine HW.out.mono ?_
    rintro e w3 ⟨M, S, c, pre, rfl, hST, hbd, hm, hfin, hb⟩
    have HB3 := Lib.hid (HB2.out.trans (hb.mono HB2.out.size))
    have hsl := seen_len hST.toSeen hbd
    have HSL := Lib.hid hsl
    have HST := Lib.hid hST
    have HM := Lib.hid hm
    have HBD := Lib.hid hbd
    have HFN := Lib.hid hfin
    obtain ⟨D, hown, hmp⟩ := hm
    have HO := Lib.hid hown
    have HMP := Lib.hid hmp
    clear hST hbd hfin hb hown hmp hsl
    by_cases hin : K ∈ S.map (·.1)
    · have hhas : Maps.has D (.int .i64 (K : Nat)) = true := (HMP.out.has K).2 hin
      obtain ⟨jt, qt, hjt⟩ := Bf.mem_at hin
      have HJT := Lib.hid hjt
      have hjl := (List.getElem?_eq_some_iff.1 hjt).1
      have HFW := Lib.hid (HST.out.firstWay hjt)
      have HWL := Lib.hid (wayTo_len HST.out.toSeen jt hjl)
      have HND := Lib.hid (Bf.way_nodup HST.out.toSeen jt K qt hjt).1
      have HDL := Lib.hid (way_dl HST.out.toSeen hjt)
      have HJL := Lib.hid hjl
      clear hin hjt hjl
      go_wp2_with (at_lookup; go_loud (refine wpList_lookup_own_ok_int _ rfl _ _ 58 rfl 3 3 .i64 lawI Try.underlying58 Try.underlying3 (zeroIL _) M S.length D rfl HO.out _ _ rfl (keyOf_int_mk Try.underlying3 WK.out) ?_); intro c' hat hwc)
      clear hat
      go_loopg [14, 15] jt (fun j s14 s15 wx => ∃ (ws : List Nat) (x q : Nat), s15 = .int .i64 (x : Nat) ∧ Hid (S[j]? = some (x, q)) ∧ Hid (Bf.way S jt = (Bf.way S j).dropLast ++ ws.reverse) ∧ Hid (ws.length + (Bf.way S j).length = (Bf.way S jt).length + 1) ∧ Hid (wx.ownsRow w3.heap.size 3 1 s14 ws.length (numsV ws)) ∧ Hid (Below w3.heap.size w3 wx))
      case atStart =>
        refine ⟨[K], K, qt, rfl, HJT, Lib.hid ?_, Lib.hid (by simp; omega), Lib.hid ⟨by simp [numsV], .inr ⟨w3.heap.size, 1, _, rfl, Nat.le_refl _, World.alloc_heap_new w3 _, by simp, by decide, by simp, by simp [numsV]⟩⟩, Lib.hid ((Below.refl _ w3).alloc (Nat.le_refl _) _)⟩
        simpa using HDL.out
      case round =>
        obtain ⟨ws, x, q, rfl, HX, HWY, HLN, HOW, HBW⟩ := hrel
        by_cases hxi : x = I
        · have hg0 : gk = 0 := by
            have h8 := HX.out
            rw [hxi] at h8
            exact (Bf.at_one HST.out.toSeen h8 HST.out.head)
          have t1 : ((x : Int) != (I : Int)) = false := by simp [hxi]
          have hwr : Bf.way S jt = ws.reverse := by
            have h8 := HWY.out
            rw [hg0, Bf.way_zero HST.out.toSeen] at h8
            simpa using h8
          have HWR := Lib.hid hwr
          have hwl : ws.length ≤ 1000 := by
            have h8 := congrArg List.length hwr
            rw [List.length_reverse] at h8
            have := HWL.out; have := HJL.out; have := HSL.out; omega
          have hown := HOW.out
          have hw0 : 0 < ws.length := by
            have h8 := congrArg List.length hwr
            rw [List.length_reverse] at h8
            have h9 := HDL.out
            have h7 := congrArg List.length h9
            simp at h7
            omega
          have hof := hown.2
          rcases hof with ⟨_, e0⟩ | ⟨g, cp, cur, e0, hbg, hg, hn1, hn2, hn3, hn4⟩
          · omega
          subst e0
          have hil : (intsL ws).length = ws.length := by simp [intsL]
          have hH : Holds (Value.int .i64) wr g 0 (intsL ws).toArray := holds_of_blockI hg (by rw [numsV_ints, hil]; rw [Nat.mul_one] at hn4; exact hn4)
          have cR := Try.slices_Reverse_int g 0 cp (intsL ws) wr hH (by rw [hil]; omega)
          rw [hil] at cR
          have HR := Lib.hid cR
          have HRE := Lib.hid (fun m => ownsRow_sortedI (w := wr) (base := w3.heap.size) (n := m) (os := #[]) (ss := intsL ws) (ts := (intsL ws).reverse) (by simp) hbg hg (by rw [hil]; exact hn1) hn2 hn3)
          have HGR := Lib.hid (fun m => grownBy_sortedI (w := wr) (g := g) (n := m) (os := #[]) (intsL ws).reverse.toArray)
          have HBG := Lib.hid hbg
          obtain ⟨zl, hzl⟩ : ∃ zl, ws.length = zl := ⟨_, rfl⟩
          have HZL := Lib.hid hzl
          rw [hzl] at HR
          clear hg0 hxi hwr hown hH cR hbg hg hn1 hn2 hn3 hn4 hw0 hwl hil
          simp only [hzl]
          clear hzl
          go_wp2_with fail
          refine HR.out.mono ?_
          rintro e w5 ⟨rfl, m, hw⟩
          have hw' : w5 = grow (putRow (Value.int .i64) (Sort.ahead wr m) g 0 (intsL ws).reverse.toArray) #[] := by rw [hw, Sort.grow_empty]
          have ho5 := HRE.out m
          have hg5 := HGR.out m
          rw [← hw'] at ho5 hg5
          have HO5 := Lib.hid ho5
          have HB5 := Lib.hid ((HB3.out.trans (HBW.out.mono HB3.out.size)).grown hg5 (by have := HB3.out.size; have := HBW.out.size; omega) (fun r e => by cases e; have := HBG.out; have := HB3.out.size; omega))
          clear hw hw' ho5 hg5
          go_wp2_with fail
          go_ret2
          refine .inr (.inr ⟨H0.out, ws.reverse, ?_, ?_, ?_, ⟨_, rfl, ?_, HB5.out⟩⟩)
          · have h9 := HFW.out
            rw [HWR.out] at h9
            exact h9
          · have h9 := HND.out
            rw [HWR.out] at h9
            exact h9
          · have h8 := congrArg List.length HWR.out
            have := HWL.out; have := HJL.out; have := HSL.out
            simp at h8 ⊢
            omega
          · have h9 := HO5.out
            rw [show (intsL ws).length = ws.reverse.length by simp [intsL], show (intsL ws).reverse.map (Value.int .i64) = numsV ws.reverse by simp [intsL, numsV]] at h9
            rw [show zl = ws.reverse.length by rw [← HZL.out]; simp]
            exact World.ownsRow.mono h9 HB3.out.size
        · have hj0 : 0 < gk := by
            rcases Nat.eq_zero_or_pos gk with h | h
            · subst h
              have h8 := HX.out
              rw [HST.out.head] at h8
              cases h8
              exact absurd rfl hxi
            · exact h
          have t1 : ((x : Int) != (I : Int)) = true := by simpa using fun h : (x : Int) = I => hxi (by omega)
          obtain ⟨hqj, m, r, hq, hge⟩ := HST.out.back gk x q hj0 HX.out
          have HAT := Lib.hid (fun z => HMP.out.at_ gk x q m r HX.out hq z)
          have hsuc := Bf.way_succ HST.out.toSeen hj0 HX.out
          have hdm := way_dl HST.out.toSeen hq
          have HW2 := Lib.hid (show Bf.way S jt = (Bf.way S q).dropLast ++ (ws ++ [m]).reverse by
            rw [HWY.out, hsuc, List.dropLast_concat, List.reverse_append, List.reverse_singleton, ← List.append_assoc, ← hdm])
          have HL2 := Lib.hid (show (ws ++ [m]).length + (Bf.way S q).length = (Bf.way S jt).length + 1 by
            have h8 := HLN.out
            rw [hsuc] at h8
            simp at h8 ⊢
            omega)
          have HQQ := Lib.hid hq
          have HQJ := Lib.hid hqj
          have hwl : ws.length ≤ 2000 := by have := HLN.out; have := HWL.out; have := HJL.out; have := HSL.out; have := H2.out; omega
          have hxN := HBD.out x (Bf.at_mem HX.out)
          have HXN := Lib.hid (WN.out x hxN)
          obtain ⟨pw, cw, hs⟩ := lenL HOW.out
          subst hs
          have HOA := Lib.hid (HOW.out.alloc (.cells #[.int .i64 (m : Nat)] 3))
          have M1 := Lib.hid (show ws.length + 1 ≤ maxLen by unfold maxLen; omega)
          have M2 := Lib.hid (show (ws.length + 1) * 8 ≤ 140737488355328 by omega)
          have M3 := Lib.hid (show w3.heap.size ≤ (wr.alloc (.cells #[.int .i64 (m : Nat)] 3)).heap.size by have := HBW.out.size; simp; omega)
          have HMO := Lib.hid (own_map HO.out HBW.out)
          clear hxi hj0 hq hge hsuc hdm hqj hwl hxN
          go_wp2_with (first
            | (at_lookup; go_loud (refine wpList_lookup_own_int _ rfl _ _ 58 rfl 3 3 .i64 lawI Try.underlying58 Try.underlying3 (zeroIL _) M S.length D rfl HMO.out _ _ rfl (keyOf_int_mk Try.underlying3 HXN.out) ?_); intro c2 hat2 hwc2; have hc2 : c2 = (m : Nat) := (by have := HAT.out (.lit (.int .i64 0)); rw [hat2] at this; injection this with this; injection this with _ this); subst hc2; clear hat2 hwc2)
            | (at_builtin; go_loud (refine wpList_append_own _ rfl _ _ 23 rfl w3.heap.size 3 i0 (.int .i64 0) 1 8 Try.underlying23 hi0 hz0 hz1 hz2 rfl (by decide) _ _ _ rfl HOA.out ⟨wr.heap.size, 0, none⟩ 1 1 [.int .i64 (m : Nat)] rfl rfl (cells_newL _ _ _) (numsV_one [m]) M1.out M2.out M3.out ?_); intro v' w6 hown' hgrow _; have HO6 := Lib.hid hown'; have HG6 := Lib.hid (show (wr.alloc (.cells #[.int .i64 (m : Nat)] 3)).grownBy w6 (Value.slice pw ws.length cw).ownBlock from hgrow); clear hown' hgrow))
          go_roundg q
          case measure => exact HQJ.out
          case rel =>
            refine ⟨ws ++ [m], m, r, rfl, HQQ, HW2, HL2, Lib.hid (by rw [List.length_append, numsV_app]; exact HO6.out), Lib.hid ?_⟩
            exact ((HBW.out.alloc HBW.out.size _).grown HG6.out (by have := HBW.out.size; simp; omega) (fun r e => (own_base HOW.out e).1))
    · have hhas : Maps.has D (.int .i64 (K : Nat)) = false := by
        cases e : Maps.has D (.int .i64 (K : Nat))
        · rfl
        · exact absurd ((HMP.out.has K).1 e) hin
      have hno : ¬ ∃ p, Bf.Way (gEdge l N) I K p := by
        rintro ⟨p, hp⟩
        rcases HFN.out with h | ⟨j, t, q, h, e⟩
        · have hst := HST.out
          rw [h] at hst
          obtain ⟨j, r, e⟩ := Bf.all hst.toInv hp
          exact hin (Bf.at_mem e)
        · have : t = K := by omega
          rw [this] at e
          exact hin (Bf.at_mem e)
      have HNO := Lib.hid hno
      clear hin hno
      go_wp2_with (at_lookup; go_loud (refine wpList_lookup_own_ok_int _ rfl _ _ 58 rfl 3 3 .i64 lawI Try.underlying58 Try.underlying3 (zeroIL _) M S.length D rfl HO.out _ _ rfl (keyOf_int_mk Try.underlying3 WK.out) ?_); intro c' hat hwc)
      go_ret2
      exact .inr (.inl ⟨H0.out, HNO.out, NewL.none _ _ _ HB3.out⟩)
  · obtain ⟨er, her⟩ : ∃ er, lookE l.length n [i, k] = er := ⟨_, rfl⟩
    have HER := Lib.hid her
    rw [her] at h0 hq
    have H0 := Lib.hid h0
    have HQ := Lib.hid hq
    have t1 : (er != 0) = true := by simpa using h0
    clear hv hl hq h0 her hcl hcm
    go_enter Try.func17, Try.ntmps17
    go_wp2_with fail
    refine HQ.out.mono ?_
    rintro e w1 ⟨rfl, rfl⟩
    go_wp2_with fail
    go_ret2
    refine .inl ⟨by rw [HER.out]; exact H0.out, ?_⟩
    rw [HER.out]
    exact NewL.none _ _ _ ((Below.refl _ w).alloc (Nat.le_refl _) _)
end Go.Proofs.Ytjgcbobalmmjkaa
