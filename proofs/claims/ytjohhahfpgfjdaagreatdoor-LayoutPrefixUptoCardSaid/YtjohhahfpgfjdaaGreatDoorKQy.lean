/- Layer 11: the document's Check of operations. -/
import Derived.Test.YtjohhahfpgfjdaaGreatDoorKQx
namespace Go.Proofs.YtjohhahfpgfjdaaGreatDoor.Ir
open Go.RowKit Go.Maps Go.Proofs.YtjohhahfpgfjdaaGreatDoor
set_option linter.unusedVariables false
set_option linter.unusedSimpArgs false
set_option maxRecDepth 100000
def d0 : Dc := ⟨false, [], [], false⟩
theorem dTake_tx (d : Dc) (k : Int) (wl : Nat) : (dTake d k wl).tx = decide (k = 1) := by
  unfold dTake
  repeat' split
  all_goals rfl
theorem dTk_tx (d : Dc) (k : Int) (wl : Nat) : ({ dTk d k wl with tx := decide (k = 1) } : Dc) = dTake d k wl := by
  unfold dTk
  rw [← dTake_tx d k wl]
theorem step_ref {B g : Nat} {w : World} {d : Dc} {vb vo : Value} (k n : Int) (t : ByteArray) (p : Option Addr) (l c : Nat) (h : DcM B g w d vb vo) (hk : 1 ≤ k ∧ k ≤ 14) (hN : DcB d 100000) :
    Calls Tryz.prog 33 #[.pointer (some ⟨g, 0, none⟩), opB k n t p l c] w (DoIs B g (dMay d k) { (if dMay d k = true then dTk d k l else d) with tx := decide (k = 1) } w) := by
  by_cases h1 : k = 8 ∨ k = 10 ∨ k = 11 ∨ k = 12 ∨ k = 13 ∨ k = 14
  · exact step_blk k n t p l c h h1 hN
  · exact step_inl k n t p l c h (by omega)
theorem done_ref {B g : Nat} {w : World} {d : Dc} {vb vo : Value} (h : DcM B g w d vb vo) :
    Calls Tryz.prog 34 #[.pointer (some ⟨g, 0, none⟩)] w (SaysL (.bool (!d.para && decide (d.op.length = 0))) w) := by
  obtain ⟨po, co, rfl⟩ := lenL h.op
  obtain ⟨⟨c0, c1, c2, c3⟩, _⟩ := h.facts
  cases hp : d.para with
  | true =>
    rw [hp] at c0
    clear h hp
    go_enter Tryz.func34, Tryz.ntmps34
    go_wp2_with fail
    go_ret
    exact ⟨rfl, Below.refl _ _⟩
  | false =>
    rw [hp] at c0
    obtain ⟨n, hn⟩ : ∃ n, d.op.length = n := ⟨_, rfl⟩
    rw [hn] at c2 ⊢
    obtain ⟨E, hE⟩ : ∃ E, ((n : Int) == 0) = E := ⟨_, rfl⟩
    have he : decide (n = 0) = E := by rw [← hE]; by_cases h9 : n = 0 <;> simp [h9] <;> omega
    rw [he]
    clear h hp hn he
    go_enter Tryz.func34, Tryz.ntmps34
    go_wp2_with fail
    go_ret
    exact ⟨by simp [hE], Below.refl _ _⟩
theorem fit_wide {x : Opr} {st tp : Int} (h : fldB x st tp = true) : (x.k = 12 → 1 ≤ x.w.length) ∧ (x.k = 10 → x.w.length = 0) := by
  have h1 : fitB x st tp = true := by unfold fldB at h; simp at h; exact h.1
  refine ⟨fun e => ?_, fun e => ?_⟩
  · simp [fitB, e, widB] at h1
    omega
  · simp [fitB, e] at h1
    simp [h1]
theorem fld_may (x : Opr) (st tp : Int) (s : Wk) : (fitB x st tp && mayS s x.k) = (fldB x st tp && mayS s x.k) := by
  unfold fldB
  by_cases h : 1 ≤ x.k ∧ x.k ≤ 14
  · rw [decide_eq_true h, Bool.and_true]
  · rw [may_other h, Bool.and_false, Bool.and_false]
theorem dcr0 : DcR d0 wk0 := by
  refine ⟨rfl, rfl, .nil, by simp [d0, wk0], by simp [wk0], by simp [wk0], by simp [wk0]⟩
set_option maxHeartbeats 4000000 in
theorem dcheck_ref {P : Nat → Prop} (l : List Opr) (v : Value) (st tp : Int) (w : World) (h : RdO P w v l) (hz : sumT l ≤ 1000000000) : Calls Tryz.prog 17 #[v, .int .i64 st, .int .i64 tp] w (ChkIs (chkM l st tp) w) := by
  obtain ⟨pa, cap, rfl, hc1, hc2⟩ := sliceN h
  have HH := Lib.hid h
  have HZ := Lib.hid hz
  obtain ⟨n, hn⟩ : ∃ n, l.length = n := ⟨_, rfl⟩
  have HN := Lib.hid hn
  rw [hn] at HH hc1 ⊢
  have hn62 : n ≤ 9223372036854775807 := by omega
  clear h hz hn hc1
  go_enter Tryz.func17, Tryz.ntmps17
  go_wp2_with fail
  go_loopw [8, 16] (fun q i wr => ∃ k : Nat, i = .int .i64 k ∧ k ≤ n ∧ q = .int .i64 (sumT (l.take k) : Nat) ∧ Hid (Below w.heap.size w wr)) (fun _ i _ => n - (intOf i).toNat)
  case atStart => exact ⟨0, rfl, Nat.zero_le _, rfl, Lib.hid (Below.refl _ w)⟩
  case round =>
    obtain ⟨k, rfl, hk, rfl, HB⟩ := hrel
    by_cases hlt : k < n
    · have hkl : k < l.length := by rw [HN.out]; exact hlt
      obtain ⟨b, off, rfl, c0, c1, c2, wv, c3, h4⟩ := (HH.out.below HB.out).at_ hkl
      have ht := sumT_take hkl
      have hle := sumT_le l (k + 1)
      have hzz := HZ.out
      obtain ⟨p4, q4, rfl, _, _⟩ := h4.form
      obtain ⟨x, hx⟩ : ∃ x, l[k]'hkl = x := ⟨_, rfl⟩
      rw [hx] at c0 c1 c2 c3 ht
      obtain ⟨z4, hz4⟩ : ∃ z4, x.w.length = z4 := ⟨_, rfl⟩
      rw [hz4] at c3
      have HB2 := Lib.hid (HB.out.alloc HB.out.size (.cells #[.int .i64 x.k, .int .i64 x.n, .string x.t, .slice p4 z4 q4] 53))
      obtain ⟨S, hS⟩ : ∃ S, sumT (l.take k) = S := ⟨_, rfl⟩
      rw [hS] at ht ⊢
      have hb1 : S + x.t.size ≤ 1000000000 := by omega
      have hw1 : wrap64 ((S : Int) + (x.t.size : Nat)) = ((S + x.t.size : Nat) : Int) := by unfold wrap64; omega
      have k1 : (k : Int) < n := by omega
      have HLT := Lib.hid hlt
      have HT := Lib.hid ht
      clear ht hle hzz hx hz4 h4 hlt hS
      go_wp2_with fail
      go_roundw
      case measure => have := HLT.out; simp [intOf]; omega
      case rel => exact ⟨k + 1, by go_num, HLT.out, by rw [HT.out]; first | rfl | simp, HB2⟩
    · obtain rfl : k = n := by omega
      have hz1 : ¬ (k : Int) < k := by omega
      have hl2 : l.take k = l := by rw [← HN.out, List.take_length]
      rw [hl2]
      clear hlt
      by_cases hlong : 65536 < k
      · have HF := Lib.hid (show chkM l st tp = (0, 2) by unfold chkM; rw [if_pos (.inl (by rw [HN.out]; exact hlong))])
        have h1 : (65536 : Int) < k := by omega
        clear hlong hl2
        go_wp2_with fail
        go_ret2
        unfold ChkIs
        rw [HF.out]
        exact ⟨rfl, HB.out⟩
      have h1 : ¬ (65536 : Int) < k := by omega
      obtain ⟨q, hq⟩ : ∃ q, sumT l = q := ⟨_, rfl⟩
      have HQ := Lib.hid hq
      rw [hq]
      by_cases hbig : 16384 < q
      · have HF := Lib.hid (show chkM l st tp = (0, 2) by unfold chkM; rw [if_pos (.inr (by rw [HQ.out]; exact hbig))])
        have h2 : (16384 : Int) < (q : Nat) := by omega
        clear hbig hl2 hq hlong
        go_wp2_with fail
        go_ret2
        unfold ChkIs
        rw [HF.out]
        exact ⟨rfl, HB.out⟩
      have h2 : ¬ (16384 : Int) < (q : Nat) := by omega
      have HF := Lib.hid (show chkM l st tp = runM st tp l wk0 0 by unfold chkM; rw [if_neg (by rw [HN.out, HQ.out]; omega)])
      have HSZ := Lib.hid (show ∀ x ∈ l, x.t.size ≤ 16777216 from fun x hx => by have := sumT_mem hx; have := HQ.out; omega)
      have HN6 := Lib.hid (show k ≤ 65536 by omega)
      obtain ⟨W1, hW1⟩ : ∃ W1, wr.alloc (.cells #[.bool false, .slice none 0 0, .slice none 0 0, .bool false] 105) = W1 := ⟨_, rfl⟩
      have hM : DcM wr.heap.size wr.heap.size (wr.alloc (.cells #[.bool false, .slice none 0 0, .slice none 0 0, .bool false] 105)) d0 (.slice none 0 0) (.slice none 0 0) := ⟨heap_alloc_new wr _, ⟨rfl, .inl ⟨rfl, rfl⟩⟩, ⟨rfl, .inl ⟨rfl, rfl⟩⟩, Nat.le_refl _⟩
      have hbA := HB.out.alloc HB.out.size (.cells #[.bool false, .slice none 0 0, .slice none 0 0, .bool false] 105)
      rw [hW1] at hM hbA
      obtain ⟨M, hMM⟩ : ∃ M, wr.heap.size = M := ⟨_, rfl⟩
      have HWM0 := Lib.hid (show w.heap.size ≤ M by rw [← hMM]; exact HB.out.size)
      rw [hMM] at hM
      have HDM := Lib.hid hM
      have HBA := Lib.hid hbA
      have HML := Lib.hid (show M < W1.heap.size from hM.lt)
      have HMM := Lib.hid hMM
      clear hbig hl2 hq hlong hM hbA
      go_wp2_with fail
      try rw [hW1]
      try rw [hMM]
      clear hW1 hMM
      obtain ⟨m, hm⟩ : ∃ m, k = m := ⟨_, rfl⟩
      subst hm
      go_loopw [37] (fun i w5 => ∃ (j : Nat) (s : Wk) (d : Dc) (vb vo : Value), i = .int .i64 j ∧ j ≤ k ∧ Hid (DcM M M w5 d vb vo) ∧ Hid (DcR d s) ∧ Hid (DcB d j) ∧ Hid (runM st tp (l.drop j) s j = runM st tp l wk0 0) ∧ Hid (Below M W1 w5)) (fun i _ => k - (intOf i).toNat)
      case atStart => exact ⟨0, wk0, d0, _, _, rfl, Nat.zero_le _, HDM, Lib.hid dcr0, Lib.hid (fun x hx => absurd hx (by simp [d0])), Lib.hid rfl, Lib.hid (Below.refl _ _)⟩
      case round =>
        obtain ⟨j, s, d, vb, vo, rfl, hj, HD, HR, HDB, HRU, HBM⟩ := hrel
        have HBx := Lib.hid (HBA.out.trans (HBM.out.mono HWM0.out))
        have HWM := Lib.hid (show W1.heap.size ≤ wr.heap.size from HBM.out.size)
        have HMw := Lib.hid (show M ≤ wr.heap.size from Nat.le_trans (Nat.le_of_lt HML.out) HWM.out)
        by_cases hlt : j < k
        · have hkl : j < l.length := by rw [HN.out]; exact hlt
          obtain ⟨b, off, rfl, c0, c1, c2, wv, c3, h4⟩ := (HH.out.below HBx.out).at_ hkl
          have hs := runM_step (st := st) (tp := tp) (s := s) hkl
          have hsz := HSZ.out _ (List.getElem_mem hkl)
          obtain ⟨p4, q4, rfl, _, _⟩ := h4.form
          obtain ⟨x, hx⟩ : ∃ x, l[j]'hkl = x := ⟨_, rfl⟩
          rw [hx] at c0 c1 c2 c3 h4 hs hsz
          rw [fld_may] at hs
          obtain ⟨zl, hzl⟩ : ∃ zl, x.w.length = zl := ⟨_, rfl⟩
          have HZL := Lib.hid hzl
          rw [hzl] at c3 h4
          have hal : Below wr.heap.size wr (wr.alloc (.cells #[.int .i64 x.k, .int .i64 x.n, .string x.t, .slice p4 zl q4] 53)) := (Below.refl _ wr).alloc (Nat.le_refl _) _
          have HAl := Lib.hid hal
          have HY := Lib.hid (heap_alloc_new wr (.cells #[.int .i64 x.k, .int .i64 x.n, .string x.t, .slice p4 zl q4] 53))
          have HFi := Lib.hid (fields_ref x st tp _ _ (h4.below hal) hsz)
          unfold FldC at HFi
          obtain ⟨fb, hfb⟩ : ∃ fb, fldB x st tp = fb := ⟨_, rfl⟩
          have HFB := Lib.hid hfb
          rw [hfb] at HFi hs
          have k1 : (j : Int) < k := by omega
          have HLT := Lib.hid hlt
          clear hal hfb hsz h4 hx hzl
          cases fb with
          | false =>
            rw [show (false && mayS s x.k) = false from rfl, if_neg (by decide)] at hs
            have HZ2 := Lib.hid (HF.out.trans (HRU.out.symm.trans hs))
            clear hs
            go_wp2_with fail
            refine HFi.out.mono ?_
            rintro e w2 ⟨rfl, hb⟩
            have HB2 := Lib.hid ((HBx.out.trans (HAl.out.mono HBx.out.size)).trans (hb.mono (Nat.le_trans HBx.out.size HAl.out.size)))
            clear hb
            go_wp2_with fail
            go_ret2
            unfold ChkIs
            rw [HZ2.out]
            exact ⟨rfl, HB2.out⟩
          | true =>
            obtain ⟨hk12, hk10⟩ := fit_wide HFB.out
            have hk14 : 1 ≤ x.k ∧ x.k ≤ 14 := by have h9 := HFB.out; unfold fldB at h9; simp at h9; exact h9.2
            have hme := may_eq HR.out hk14
            obtain ⟨mb, hmb⟩ : ∃ mb, mayS s x.k = mb := ⟨_, rfl⟩
            rw [hmb] at hme
            have HMB := Lib.hid hmb
            have HME := Lib.hid hme
            rw [hmb, show (true && mb) = mb from rfl] at hs
            have HS := Lib.hid hs
            have HK14 := Lib.hid hk14
            have HK12 := Lib.hid hk12
            have HK10 := Lib.hid hk10
            clear hs hmb hme hk12 hk10 hk14
            go_wp2_with fail
            refine HFi.out.mono ?_
            rintro e w2 ⟨rfl, hb⟩
            have HB2 := Lib.hid ((HBx.out.trans (HAl.out.mono HBx.out.size)).trans (hb.mono (Nat.le_trans HBx.out.size HAl.out.size)))
            have HM2 := Lib.hid ((HBM.out.trans (HAl.out.mono HMw.out)).trans (hb.mono (Nat.le_trans HMw.out HAl.out.size)))
            have HD2 := Lib.hid ((HD.out.below HAl.out).below hb)
            have hy := (hb.block wr.heap.size (Array.getElem?_eq_some_iff.1 HY.out).1).trans HY.out
            obtain ⟨e0, e1, e2, e3⟩ : w2.cell? ⟨wr.heap.size, 0, none⟩ = some (.int .i64 x.k) ∧ w2.cell? ⟨wr.heap.size, 1, none⟩ = some (.int .i64 x.n) ∧ w2.cell? ⟨wr.heap.size, 2, none⟩ = some (.string x.t) ∧ w2.cell? ⟨wr.heap.size, 3, none⟩ = some (.slice p4 zl q4) := by
              refine ⟨?_, ?_, ?_, ?_⟩ <;> rw [cell_of_row _ _ _ _ _ _ hy] <;> rfl
            have HST := Lib.hid (step_ref x.k x.n x.t p4 zl q4 HD2.out HK14.out (fun y hy => by have h8 := HDB.out y hy; have h9 := HN6.out; have := HLT.out; omega))
            unfold opB at HST
            rw [HME.out] at HST
            clear hb hy
            go_wp2_with fail
            refine HST.out.mono ?_
            rintro e w3 ⟨rfl, hb, vb3, vo3, hd3⟩
            have HB3 := Lib.hid (HB2.out.trans (hb.mono HWM0.out))
            have HM3 := Lib.hid (HM2.out.trans hb)
            cases mb with
            | false =>
              have hs := HS.out
              rw [if_neg (by decide)] at hs
              have HZ2 := Lib.hid (HF.out.trans (HRU.out.symm.trans hs))
              clear hs hb hd3
              go_wp2_with fail
              go_ret2
              unfold ChkIs
              rw [HZ2.out]
              exact ⟨rfl, HB3.out⟩
            | true =>
              have hs := HS.out
              rw [if_pos rfl] at hs
              have HZ2 := Lib.hid (hs.symm.trans HRU.out)
              rw [if_pos rfl, dTk_tx] at hd3
              have HD3 := Lib.hid hd3
              have HR3 := Lib.hid (take_rel HR.out x HMB.out HK12.out HK10.out)
              have HDB3 := Lib.hid (HDB.out.take x.k zl)
              rw [HZL.out] at HR3
              clear hs hb hd3
              go_wp2_with fail
              go_roundw
              case measure => have := HLT.out; simp [intOf]; omega
              case rel => exact ⟨j + 1, takeS s x, dTake d x.k zl, vb3, vo3, by go_num, by have := HLT.out; omega, HD3, HR3, HDB3, HZ2, HM3⟩
        · obtain rfl : j = k := by omega
          have hz1 : ¬ (j : Int) < j := by omega
          have hz : runM st tp (l.drop j) s j = if endedB s then (0, 0) else (j, 110) := by rw [List.drop_eq_nil_of_le (by rw [HN.out]; exact Nat.le_refl _)]; rfl
          have hE := done_ref HD.out
          have hpe : (!d.para && decide (d.op.length = 0)) = endedB s := by
            unfold endedB
            rw [HR.out.para, HR.out.op.len]
          rw [hpe] at hE
          have HE := Lib.hid hE
          obtain ⟨eb, heb⟩ : ∃ eb, endedB s = eb := ⟨_, rfl⟩
          rw [heb] at HE hz
          have HZ2 := Lib.hid (HF.out.trans (HRU.out.symm.trans hz))
          clear hz heb hlt hE hpe
          cases eb with
          | false =>
            go_wp2_with fail
            refine HE.out.mono ?_
            rintro e w2 ⟨rfl, hb⟩
            have HB2 := Lib.hid (HBx.out.trans (hb.mono HBx.out.size))
            clear hb
            go_wp2_with fail
            go_ret2
            unfold ChkIs
            rw [HZ2.out]
            exact ⟨rfl, HB2.out⟩
          | true =>
            go_wp2_with fail
            refine HE.out.mono ?_
            rintro e w2 ⟨rfl, hb⟩
            have HB2 := Lib.hid (HBx.out.trans (hb.mono HBx.out.size))
            clear hb
            go_wp2_with fail
            go_ret2
            unfold ChkIs
            rw [HZ2.out]
            exact ⟨rfl, HB2.out⟩
end Go.Proofs.YtjohhahfpgfjdaaGreatDoor.Ir
