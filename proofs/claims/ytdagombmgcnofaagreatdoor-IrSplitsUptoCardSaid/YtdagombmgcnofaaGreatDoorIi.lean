/- Layer 11: whether a list may be a topic's operations: plain; the program's Check. -/
import Derived.Test.YtdagombmgcnofaaGreatDoorIh
import Derived.Test.YtdagombmgcnofaaGreatDoorIe
import Derived.Test.YtdagombmgcnofaaGreatDoorIf
namespace Go.Proofs.YtdagombmgcnofaaGreatDoor.Ir
open Go.RowKit Go.Maps Go.Proofs.YtdagombmgcnofaaGreatDoor
set_option linter.unusedVariables false
def runM (st tp : Int) : List Opr → Wk → Nat → Nat × Int
  | [], s, i => if endedB s then (0, 0) else (i, 110)
  | x :: l, s, i => if (fitB x st tp && mayS s x.k) = true then runM st tp l (takeS s x) (i + 1) else (i, 110)
def chkM (l : List Opr) (st tp : Int) : Nat × Int := if 65536 < l.length ∨ 16384 < sumT l then (0, 2) else runM st tp l wk0 0
theorem runM_step {st tp : Int} {l : List Opr} {s : Wk} {i : Nat} (h : i < l.length) : runM st tp (l.drop i) s i = if (fitB l[i] st tp && mayS s l[i].k) = true then runM st tp (l.drop (i + 1)) (takeS s l[i]) (i + 1) else (i, 110) := by
  rw [List.drop_eq_getElem_cons h]
  rfl
theorem mapTop_mem {f : Lv → Lv} {l : List Lv} {x : Lv} (h : x ∈ mapTop f l) : x ∈ l ∨ ∃ y ∈ l, x = f y := by
  unfold mapTop at h
  rcases List.mem_append.1 h with h | h
  · exact .inl (List.dropLast_subset _ h)
  · cases e : l.getLast? with
    | none => rw [e] at h; simp at h
    | some y =>
      rw [e] at h
      simp at h
      exact .inr ⟨y, List.mem_of_getLast? e, h⟩
theorem takeS_bound {s : Wk} {x : Opr} {N : Nat} (h : ∀ l ∈ s.op, l.parts ≤ N ∧ l.cells ≤ N) : ∀ l ∈ (takeS s x).op, l.parts ≤ N + 1 ∧ l.cells ≤ N + 1 := by
  have h0 : ∀ l ∈ s.op, l.parts ≤ N + 1 ∧ l.cells ≤ N + 1 := fun l hl => ⟨Nat.le_succ_of_le (h l hl).1, Nat.le_succ_of_le (h l hl).2⟩
  unfold takeS
  split
  · exact h0
  split
  · exact h0
  split
  · intro l hl
    rcases mapTop_mem hl with hl | ⟨y, hy, rfl⟩
    · exact h0 l hl
    · have := h y hy; dsimp only; omega
  split
  · exact h0
  split
  · intro l hl
    rcases List.mem_append.1 hl with hl | hl
    · exact h0 l hl
    · rw [List.mem_singleton] at hl; subst hl; dsimp only; omega
  split
  · intro l hl
    rcases mapTop_mem hl with hl | ⟨y, hy, rfl⟩
    · exact h0 l hl
    · have := h y hy; dsimp only; omega
  split
  · exact fun l hl => h0 l (List.dropLast_subset _ hl)
  · exact h0
def zero44 : Array Value := #[.int .i64 0, .int .i64 0, .int .i64 0, .int .i64 0, .int .i64 0, .int .i64 0, .int .i64 0, .int .i64 0, .int .i64 0, .int .i64 0, .int .i64 0, .int .i64 0, .int .i64 0, .int .i64 0, .int .i64 0, .int .i64 0, .int .i64 0, .int .i64 0, .int .i64 0, .int .i64 0, .int .i64 0, .int .i64 0, .int .i64 0, .int .i64 0, .int .i64 0, .int .i64 0, .int .i64 0, .int .i64 0, .int .i64 0, .int .i64 0, .int .i64 0, .int .i64 0, .int .i64 0, .int .i64 0, .int .i64 0, .int .i64 0, .int .i64 0, .int .i64 0, .int .i64 0, .int .i64 0, .int .i64 0, .int .i64 0, .bool false, .int .i64 0]
theorem cur0 : CurIs zero44 wk0 where
  size := rfl
  all := fun j hj => by
    refine ⟨0, ?_⟩
    have : ∀ j, j < 24 → zero44[j]? = some (.int .i64 0) := by
      intro j hj
      match j, hj with
      | 0, _ => rfl | 1, _ => rfl | 2, _ => rfl | 3, _ => rfl | 4, _ => rfl | 5, _ => rfl | 6, _ => rfl | 7, _ => rfl | 8, _ => rfl | 9, _ => rfl | 10, _ => rfl | 11, _ => rfl
      | 12, _ => rfl | 13, _ => rfl | 14, _ => rfl | 15, _ => rfl | 16, _ => rfl | 17, _ => rfl | 18, _ => rfl | 19, _ => rfl | 20, _ => rfl | 21, _ => rfl | 22, _ => rfl | 23, _ => rfl
      | (n + 24), h => exact absurd h (by omega)
    exact this j hj
  op := fun j hj => absurd hj (by simp [wk0])
  depth := rfl
  br := fun j hj => absurd hj (by simp [wk0])
  nest := rfl
  para := rfl
  ah := rfl
  hop := by simp [wk0]
  hbr := by simp [wk0]
def ChkIs (r : Nat × Int) (w : World) (e : Ending) (w' : World) : Prop := e = .returned (.tuple #[.int .i64 (r.1 : Nat), .int .i64 r.2]) ∧ Below w.heap.size w w'
set_option maxRecDepth 100000 in
set_option maxHeartbeats 2000000 in
theorem check_pro {P : Nat → Prop} (l : List Opr) (v : Value) (st tp : Int) (w : World) (h : RdO P w v l) (hz : sizeOk l) (hT : Tabs w) : Calls Tryz.prog 18 #[v, .int .i64 st, .int .i64 tp] w (ChkIs (chkM l st tp) w) := by
  have HQ := Lib.hid (bytes_pro l v w h hz)
  obtain ⟨pa, cap, rfl, hc1, hc2⟩ := sliceN h
  have HH := Lib.hid h
  have HT := Lib.hid hT
  by_cases hlong : 65536 < l.length
  · have HF := Lib.hid (show chkM l st tp = (0, 2) by unfold chkM; rw [if_pos (.inl hlong)])
    have h1 : (65536 : Int) < l.length := by omega
    clear h hz hT hlong hc1
    go_enter Tryz.func18, Tryz.ntmps18
    go_wp2_with fail
    go_ret2
    unfold ChkIs
    rw [HF.out]
    exact ⟨rfl, Below.refl _ _⟩
  have h1 : ¬ (65536 : Int) < l.length := by omega
  by_cases hbig : 16384 < sumT l
  · have HF := Lib.hid (show chkM l st tp = (0, 2) by unfold chkM; rw [if_pos (.inr hbig)])
    obtain ⟨q, hq⟩ : ∃ q, sumT l = q := ⟨_, rfl⟩
    rw [hq] at HQ hbig
    have h2 : (16384 : Int) < (q : Nat) := by omega
    clear h hz hT hlong hc1 hq hbig
    go_enter Tryz.func18, Tryz.ntmps18
    go_wp2_with fail
    refine HQ.out.mono ?_
    rintro e w1 ⟨rfl, hb⟩
    have HB := Lib.hid hb
    clear hb
    go_wp2_with fail
    go_ret2
    unfold ChkIs
    rw [HF.out]
    exact ⟨rfl, HB.out⟩
  have HF := Lib.hid (show chkM l st tp = runM st tp l wk0 0 by unfold chkM; rw [if_neg (by omega)])
  have HSZ := Lib.hid (show ∀ x ∈ l, x.t.size ≤ 16777216 from fun x hx => by have := sumT_mem hx; omega)
  obtain ⟨q, hq⟩ : ∃ q, sumT l = q := ⟨_, rfl⟩
  rw [hq] at HQ hbig
  have h2 : ¬ (16384 : Int) < (q : Nat) := by omega
  have h2d : decide ((16384 : Int) < (q : Nat)) = false := decide_eq_false h2
  obtain ⟨n, hn⟩ : ∃ n, l.length = n := ⟨_, rfl⟩
  have HN := Lib.hid hn
  have hn6 : n ≤ 65536 := by omega
  have HN6 := Lib.hid hn6
  rw [hn] at HH HQ h1 ⊢
  clear h hz hT hlong hc1 hq hbig hn
  go_enter Tryz.func18, Tryz.ntmps18
  go_wp2_with fail
  refine HQ.out.mono ?_
  rintro e w1 ⟨rfl, hb⟩
  have HB1 := Lib.hid (hb.alloc hb.size (.cells zero44 149))
  have HH1 := Lib.hid (HH.out.below HB1.out)
  have HT1 := Lib.hid (HT.out.below HB1.out (Nat.le_refl _))
  have HW1 := Lib.hid (show WkIs w1.heap.size (w1.alloc (.cells zero44 149)) wk0 from ⟨_, heap_alloc_new w1 _, cur0⟩)
  have HBw := Lib.hid hb.size
  have HBR := Lib.hid (Below.refl (w1.heap.size) (w1.alloc (.cells zero44 149)))
  unfold zero44 at HB1 HH1 HT1 HW1 HBR
  clear hb HQ
  obtain ⟨W1, hW1⟩ : ∃ W1, w1.alloc (.cells #[.int .i64 0, .int .i64 0, .int .i64 0, .int .i64 0, .int .i64 0, .int .i64 0, .int .i64 0, .int .i64 0, .int .i64 0, .int .i64 0, .int .i64 0, .int .i64 0, .int .i64 0, .int .i64 0, .int .i64 0, .int .i64 0, .int .i64 0, .int .i64 0, .int .i64 0, .int .i64 0, .int .i64 0, .int .i64 0, .int .i64 0, .int .i64 0, .int .i64 0, .int .i64 0, .int .i64 0, .int .i64 0, .int .i64 0, .int .i64 0, .int .i64 0, .int .i64 0, .int .i64 0, .int .i64 0, .int .i64 0, .int .i64 0, .int .i64 0, .int .i64 0, .int .i64 0, .int .i64 0, .int .i64 0, .int .i64 0, .bool false, .int .i64 0] 149) = W1 := ⟨_, rfl⟩
  rw [hW1] at HB1 HH1 HT1 HW1 HBR
  obtain ⟨M, hM⟩ : ∃ M, w1.heap.size = M := ⟨_, rfl⟩
  have HM := Lib.hid hM
  rw [hM] at HW1 HBw HBR
  go_wp2_with fail
  have HWS := Lib.hid (show M < W1.heap.size from HW1.out.lt)
  clear hW1 hM HM
  go_loopw [21] (fun i wr => ∃ (k : Nat) (s : Wk), i = .int .i64 k ∧ k ≤ n ∧ Hid (WkIs M wr s) ∧ Hid (runM st tp (l.drop k) s k = runM st tp l wk0 0) ∧ Hid (Below M W1 wr) ∧ Hid (∀ o ∈ s.op, o.parts ≤ k ∧ o.cells ≤ k)) (fun i _ => n - (intOf i).toNat)
  case atStart => exact ⟨0, wk0, rfl, Nat.zero_le _, HW1, Lib.hid rfl, HBR, Lib.hid (fun o ho => absurd ho (by simp [wk0]))⟩
  case round =>
    obtain ⟨k, s, rfl, hk, HW, HR, HB, HD⟩ := hrel
    have HBx := Lib.hid (HB1.out.trans (HB.out.mono HBw.out))
    have HWM := Lib.hid (show W1.heap.size ≤ wr.heap.size from HB.out.size)
    by_cases hlt : k < n
    · have hkl : k < l.length := by rw [HN.out]; exact hlt
      obtain ⟨b, off, rfl, c0, c1, c2, wv, c3, h4⟩ := (HH.out.below HBx.out).at_ hkl
      have hs := runM_step (st := st) (tp := tp) (s := s) hkl
      have hsz := HSZ.out _ (List.getElem_mem hkl)
      obtain ⟨p4, q4, rfl, _, _⟩ := h4.form
      obtain ⟨x, hx⟩ : ∃ x, l[k] = x := ⟨_, rfl⟩
      rw [hx] at c0 c1 c2 c3 h4 hs hsz
      obtain ⟨zl, hzl⟩ : ∃ zl, x.w.length = zl := ⟨_, rfl⟩
      have HZL := Lib.hid hzl
      rw [hzl] at c3 h4
      have hal : Below wr.heap.size wr (wr.alloc (.cells #[.int .i64 x.k, .int .i64 x.n, .string x.t, .slice p4 zl q4] 81)) := (Below.refl _ wr).alloc (Nat.le_refl _) _
      have HAl := Lib.hid hal
      have HY := Lib.hid (heap_alloc_new wr (.cells #[.int .i64 x.k, .int .i64 x.n, .string x.t, .slice p4 zl q4] 81))
      have HFi := Lib.hid (fits_pro x st tp _ _ (h4.below hal) hsz ((HT.out.below HBx.out (Nat.le_refl _)).below hal (Nat.le_refl _)))
      obtain ⟨fb, hfb⟩ : ∃ fb, fitB x st tp = fb := ⟨_, rfl⟩
      rw [hfb] at HFi hs
      have k1 : (k : Int) < n := by omega
      have HLT := Lib.hid hlt
      clear hal hfb hsz h4 hx hzl
      cases fb with
      | false =>
        rw [show (false && mayS s x.k) = false from rfl, if_neg (by decide)] at hs
        have HZ := Lib.hid (HF.out.trans (HR.out.symm.trans hs))
        clear hs
        go_wp2_with fail
        refine HFi.out.mono ?_
        rintro e w2 ⟨rfl, hb⟩
        have HB2 := Lib.hid ((HBx.out.trans (HAl.out.mono HBx.out.size)).trans (hb.mono (Nat.le_trans HBx.out.size HAl.out.size)))
        clear hb
        go_wp2_with fail
        go_ret2
        unfold ChkIs
        rw [HZ.out]
        exact ⟨rfl, HB2.out⟩
      | true =>
        obtain ⟨mb, hmb⟩ : ∃ mb, mayS s x.k = mb := ⟨_, rfl⟩
        have HMB := Lib.hid hmb
        rw [hmb, show (true && mb) = mb from rfl] at hs
        have HS := Lib.hid hs
        clear hs hmb
        go_wp2_with fail
        refine HFi.out.mono ?_
        rintro e w2 ⟨rfl, hb⟩
        have HB2 := Lib.hid ((HBx.out.trans (HAl.out.mono HBx.out.size)).trans (hb.mono (Nat.le_trans HBx.out.size HAl.out.size)))
        have HM2 := Lib.hid ((HB.out.trans (HAl.out.mono (Nat.le_trans (Nat.le_of_lt HWS.out) HWM.out))).trans (hb.mono (Nat.le_trans (Nat.le_trans (Nat.le_of_lt HWS.out) HWM.out) HAl.out.size)))
        have HW2 := Lib.hid ((HW.out.below HAl.out).below hb)
        have hy := (hb.block wr.heap.size (Array.getElem?_eq_some_iff.1 HY.out).1).trans HY.out
        have HY2 := Lib.hid hy
        obtain ⟨d0, d1, d2, d3⟩ : w2.cell? ⟨wr.heap.size, 0, none⟩ = some (.int .i64 x.k) ∧ w2.cell? ⟨wr.heap.size, 1, none⟩ = some (.int .i64 x.n) ∧ w2.cell? ⟨wr.heap.size, 2, none⟩ = some (.string x.t) ∧ w2.cell? ⟨wr.heap.size, 3, none⟩ = some (.slice p4 zl q4) := by
          refine ⟨?_, ?_, ?_, ?_⟩ <;> rw [cell_of_row _ _ _ _ _ _ hy] <;> rfl
        have HMy := Lib.hid (may_pro M s x.k w2 HW2.out)
        unfold mayCall at HMy
        rw [HMB.out] at HMy
        clear hb hy
        go_wp2_with fail
        refine HMy.out.mono ?_
        rintro e w3 ⟨rfl, hb⟩
        have HB3 := Lib.hid (HB2.out.trans (hb.mono HB2.out.size))
        have HM3 := Lib.hid (HM2.out.trans (hb.mono (Nat.le_trans (Nat.le_of_lt HWS.out) HM2.out.size)))
        have HW3 := Lib.hid (HW2.out.below hb)
        have hy := (hb.block wr.heap.size (Array.getElem?_eq_some_iff.1 HY2.out).1).trans HY2.out
        obtain ⟨a0, a1, a2, a3⟩ : w3.cell? ⟨wr.heap.size, 0, none⟩ = some (.int .i64 x.k) ∧ w3.cell? ⟨wr.heap.size, 1, none⟩ = some (.int .i64 x.n) ∧ w3.cell? ⟨wr.heap.size, 2, none⟩ = some (.string x.t) ∧ w3.cell? ⟨wr.heap.size, 3, none⟩ = some (.slice p4 zl q4) := by
          refine ⟨?_, ?_, ?_, ?_⟩ <;> rw [cell_of_row _ _ _ _ _ _ hy] <;> rfl
        clear hb hy
        cases mb with
        | false =>
          have hs := HS.out
          rw [if_neg (by decide)] at hs
          have HZ := Lib.hid (HF.out.trans (HR.out.symm.trans hs))
          clear hs
          go_wp2_with fail
          go_ret2
          unfold ChkIs
          rw [HZ.out]
          exact ⟨rfl, HB3.out⟩
        | true =>
          have hs := HS.out
          rw [if_pos rfl] at hs
          have HZ := Lib.hid (hs.symm.trans HR.out)
          have hk14 : 1 ≤ x.k ∧ x.k ≤ 14 := by
            by_cases h : 1 ≤ x.k ∧ x.k ≤ 14
            · exact h
            · have := HMB.out; rw [may_other h] at this; cases this
          have HTk := Lib.hid (take_pro M s x (.slice p4 zl q4) p4 q4 w3 HW3.out (by rw [HZL.out]) hk14 (takeOk_of HMB.out HW3.out.bounds.1 HW3.out.bounds.2) (fun o ho => by have := HD.out o ho; have := HN6.out; have := HLT.out; omega))
          unfold oprVal at HTk
          clear hs hk14
          go_wp2_with fail
          refine HTk.out.mono ?_
          rintro e w4 ⟨rfl, hw4, hb⟩
          have HB4 := Lib.hid (HM3.out.trans hb)
          have HW4 := Lib.hid hw4
          have HD4 := Lib.hid (takeS_bound (x := x) HD.out)
          clear hb hw4
          go_wp2_with fail
          go_roundw
          case measure => have := HLT.out; simp [intOf]; omega
          case rel => exact ⟨k + 1, takeS s x, by go_num, by have := HLT.out; omega, HW4, HZ, HB4, HD4⟩
    · obtain rfl : k = n := by omega
      have hz1 : ¬ (k : Int) < k := by omega
      have hz : runM st tp (l.drop k) s k = if endedB s then (0, 0) else (k, 110) := by rw [List.drop_eq_nil_of_le (by rw [HN.out]; exact Nat.le_refl _)]; rfl
      have HE := Lib.hid (ended_pro M s wr HW.out)
      obtain ⟨eb, heb⟩ : ∃ eb, endedB s = eb := ⟨_, rfl⟩
      rw [heb] at HE hz
      have HZ := Lib.hid (HF.out.trans (HR.out.symm.trans hz))
      clear hz heb hlt
      cases eb with
      | false =>
        go_wp2_with fail
        refine HE.out.mono ?_
        rintro e w2 ⟨rfl, rfl⟩
        go_wp2_with fail
        go_ret2
        unfold ChkIs
        rw [HZ.out]
        exact ⟨rfl, HBx.out⟩
      | true =>
        go_wp2_with fail
        refine HE.out.mono ?_
        rintro e w2 ⟨rfl, rfl⟩
        go_wp2_with fail
        go_ret2
        unfold ChkIs
        rw [HZ.out]
        exact ⟨rfl, HBx.out⟩
end Go.Proofs.YtdagombmgcnofaaGreatDoor.Ir
