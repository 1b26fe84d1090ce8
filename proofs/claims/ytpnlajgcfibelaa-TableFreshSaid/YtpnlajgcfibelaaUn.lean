/- Layer 12: the document's word. -/
import Derived.Test.YtpnlajgcfibelaaUm
namespace Go.Proofs.Ytpnlajgcfibelaa.Tb
open Go.RowKit Go.Maps
set_option linter.unusedVariables false
set_option linter.unusedSimpArgs false
theorem fl_intD {B g : Nat} {wide : Int} {K : Nat → Prop} {s : Fs} {w : World} (h : Fl false B g wide K s w) : w.cell? ⟨g, 2, none⟩ = some (.int .i64 (wid s.line)) ∧ w.cell? ⟨g, 4, none⟩ = some (.int .i64 wide) := by
  obtain ⟨_, _, _, _, h⟩ := h
  obtain ⟨_, _, q2, _, q4⟩ := bx_cellsD h.blk
  exact ⟨q2, q4⟩
theorem small_le {l : List Gl} (h : ∀ x ∈ l, 1 ≤ x.wd ∧ x.wd ≤ 2) : SmallW l := fun g hg => by have := h g hg; omega
theorem part_bd {wide : Int} {a l : List Gl} (ha : ∀ x ∈ a, 1 ≤ x.wd ∧ x.wd ≤ 2) (hl : ∀ x ∈ l, 1 ≤ x.wd ∧ x.wd ≤ 2) (h : wid (a ++ l) ≤ wide) (k : Nat) : ((a ++ l.take k).length : Int) ≤ wide ∧ 0 ≤ wid (a ++ l.take k) ∧ wid (a ++ l.take k) ≤ wide := by
  have h1 : wid (a ++ l) = wid (a ++ l.take k) + wid (l.drop k) := by
    rw [← wid_app, List.append_assoc, List.take_append_drop]
  have h2 := (wid_ge (l.drop k) fun x hx => hl x (List.mem_of_mem_drop hx)).1
  have h3 := (wid_ge (a ++ l.take k) fun x hx => by
    rcases List.mem_append.1 hx with hx | hx
    · exact ha x hx
    · exact hl x (List.mem_of_mem_take hx)).1
  omega
set_option maxRecDepth 100000 in
set_option maxHeartbeats 4000000 in
theorem word_ref {P : Nat → Prop} {B g : Nat} {wide : Int} {K : Nat → Prop} {s : Fs} (l : List Gl) (v : Value) (w : World) (h : Fl false B g wide K s w) (hr : RdG P w v l) (hP : ∀ c, P c → K c) (hi : Inv wide s) (hw1 : 1 ≤ wide) (hw2 : wide ≤ 200) (hne : 0 < l.length)
    (hl : (meas s + l.length) * 24 ≤ 140737488355328) (hx : ∀ x ∈ l, (1 ≤ x.wd ∧ x.wd ≤ 2) ∧ x.wd ≤ wide) :
    Calls Try.prog 37 #[.pointer (some ⟨g, 0, none⟩), v] w (FlPost false B g wide K (wordS wide s l) (.tuple #[]) w) := by
  obtain ⟨pa, cap, rfl, hc1, hc2⟩ := sliceG hr
  have hx12 : ∀ x ∈ l, 1 ≤ x.wd ∧ x.wd ≤ 2 := fun x h => (hx x h).1
  have HWD := Lib.hid (wide_ref l _ w hr (by omega) (small_le hx12))
  have hy := wid_small (small_le hx12)
  have hfl := h
  obtain ⟨vo, vl, vw, vs, hF⟩ := h
  obtain ⟨pl, cl, rfl⟩ := lenL hF.line
  obtain ⟨pw, cw, rfl, hw3, hw4⟩ := hF.wait.form
  obtain ⟨q0, q1, q2, q3, q4⟩ := bx_cellsD hF.blk
  have hwz := hi.wwait
  have hwl := hi.wl
  have hu1 := hi.nn
  have hu2 := hi.le
  have hll := hi.len
  have hwe := hi.we
  have hof := out_le s
  have HF := Lib.hid hF
  have HFL := Lib.hid hfl
  have HR := Lib.hid hr
  have HI := Lib.hid hi
  have HX := Lib.hid hx
  have HX12 := Lib.hid hx12
  have HLL := Lib.hid hl
  have HOL := Lib.hid (show (s.out.length + 1) * 24 ≤ 140737488355328 by omega)
  obtain ⟨u, hu⟩ : ∃ u, wid s.line = u := ⟨_, rfl⟩
  obtain ⟨y, hyy⟩ : ∃ y, wid l = y := ⟨_, rfl⟩
  obtain ⟨m, hm⟩ : ∃ m, s.wait.length = m := ⟨_, rfl⟩
  obtain ⟨c, hc⟩ : ∃ c, s.line.length = c := ⟨_, rfl⟩
  have HU := Lib.hid hu
  have HY := Lib.hid hyy
  have HM := Lib.hid hm
  have HC := Lib.hid hc
  rw [hu] at q2 hu1 hu2
  rw [hyy] at hy HWD
  rw [hm] at q3 hwz hwl hw3
  rw [hc] at q1 hll
  have HWZ := Lib.hid hwz
  have y1 : 0 ≤ y := hy.1
  have y2 : y ≤ 200 * 140737488355328 := by omega
  have m1 : (m : Int) ≤ 1 := by omega
  have s1 : IntKind.i64.wrap (u + m) = u + m := IntWalk.i64_in _ (by omega)
  have s2 : IntKind.i64.wrap (u + m + y) = u + m + y := IntWalk.i64_in _ (by omega)
  obtain ⟨n, hn⟩ : ∃ n, l.length = n := ⟨_, rfl⟩
  have HN := Lib.hid hn
  rw [hn] at HR HWD hc1 ⊢
  have n62 : n ≤ 9223372036854775807 := by omega
  have mixed : Try.prog.follows .mixedOrders = true := by kernel_rfl
  clear hF hfl hr hi hx hx12 hl hy hu hyy hm hc hn hc1 hwz hof hw4
  by_cases hroom : u + m + y ≤ wide
  · have hroomd : decide (u + m + y ≤ wide) = true := decide_eq_true hroom
    have hrm : roomS wide s l = s := by unfold roomS; rw [if_neg (by rw [HU.out, HY.out, HWZ.out]; omega)]
    have hil : Inv wide (laidS s) := laid_inv HI.out (by rw [HU.out, HWZ.out]; omega)
    have HWS := Lib.hid (show wordS wide s l = ⟨s.out, s.line ++ s.wait ++ l, []⟩ by
      unfold wordS
      rw [hrm, foldl_fits l _ HX12.out (by simp only [laidS]; rw [wid_app, HU.out, HWZ.out, HY.out]; omega)]
      rfl)
    have HWL := Lib.hid (show wid (s.line ++ s.wait) = u + m by rw [wid_app, HU.out, HWZ.out])
    have HLA := Lib.hid (show (s.line ++ s.wait).length = c + m by rw [List.length_append, HC.out, HM.out])
    clear hrm hil
    go_enter Try.func37, Try.ntmps37
    go_wp2_with fail
    refine HWD.out.mono ?_
    rintro e w1 ⟨rfl, rfl⟩
    go_wp2_with fail
    go_quiet (fail)
    have hbD : Below w.heap.size w (w.drewN nq) := dn_below (Below.refl _ _) nq
    have HFD := Lib.hid (HF.out.below hbD)
    have HKD := Lib.hid (Kp.of hbD (fun c hc => (HF.out.apart c hc).1))
    clear hbD
    by_cases hm0 : m = 0
    · have hsw : s.wait = [] := List.eq_nil_of_length_eq_zero (HM.out.trans hm0)
      have hm1 : ¬ (0 : Int) < m := by omega
      have HFW := Lib.hid (show Fl false B g wide K ⟨s.out, s.line ++ s.wait, []⟩ (w.drewN nq) from by
        have h := HFD.out
        rw [show s = ⟨s.out, s.line, s.wait⟩ from rfl] at h
        rw [hsw, List.append_nil]
        rw [hsw] at h
        exact ⟨_, _, _, _, h⟩)
      have HKW := HKD
      obtain ⟨q0, q1, q2, q3, q4⟩ := bx_cellsD HFD.out.blk
      rw [HM.out] at q3
      clear hsw HFD hm0
      go_wp2_with fail
      have HBD := Lib.hid (fun k => part_bd (wide := wide) (a := s.line ++ s.wait) (l := l) (fun x hx => by
        rcases List.mem_append.1 hx with hx | hx
        · exact HI.out.wd x hx
        · have := HI.out.ww x hx; omega) HX12.out (by rw [wid_app, HWL.out, HY.out]; exact hroom) k)
      go_loopw [5] (fun i wr => ∃ k : Nat, i = .int .i64 k ∧ k ≤ n ∧ Hid (Fl false B g wide K ⟨s.out, (s.line ++ s.wait) ++ l.take k, []⟩ wr) ∧ Hid (Kp K w wr)) (fun i _ => n - (intOf i).toNat)
      case atStart => exact ⟨0, rfl, Nat.zero_le _, Lib.hid (by rw [List.take_zero, List.append_nil]; exact HFW.out), HKW⟩
      case round =>
        obtain ⟨k, rfl, hk, HFr, HKr⟩ := hrel
        by_cases hlt : k < n
        · have hkl : k < l.length := by rw [HN.out]; exact hlt
          obtain ⟨b, off, rfl, hb, hc⟩ := (HR.out.keep (fun a ha _ => World.cell?_of_block (HKr.out.block _ (hP _ ha)))).at_ hkl
          have hx1 := HX12.out _ (List.getElem_mem hkl)
          have hT := Lib.hid (show l.take (k + 1) = l.take k ++ [l[k]] from List.take_succ_eq_append_getElem hkl)
          obtain ⟨x, hx⟩ : ∃ x, l[k] = x := ⟨_, rfl⟩
          rw [hx] at hc hx1 hT
          obtain ⟨c0, c1, c2, c3, c4⟩ := hc
          have hbd := HBD.out k
          have HP := Lib.hid (put_ref x _ HFr.out (by show ((s.line ++ s.wait) ++ l.take k).length ≤ 100000; omega) hbd.2.1 (by show wid ((s.line ++ s.wait) ++ l.take k) ≤ 100000; omega) (by omega))
          unfold glV at HP
          have k1 : (k : Int) < n := by omega
          have HLT := Lib.hid hlt
          clear hx hlt hbd hx1
          go_wp2_with fail
          refine HP.out.mono ?_
          rintro e w3 ⟨rfl, hf, hk3⟩
          have HF3 := Lib.hid (show Fl false B g wide K ⟨s.out, (s.line ++ s.wait) ++ l.take (k + 1), []⟩ w3 by
            rw [hT.out, ← List.append_assoc]; exact hf)
          have HK3 := Lib.hid (HKr.out.trans hk3)
          clear hf hk3
          go_wp2_with fail
          go_roundw
          case measure => have := HLT.out; simp [intOf]; omega
          case rel => exact ⟨k + 1, by go_num, HLT.out, HF3, HK3⟩
        · obtain rfl : k = n := by omega
          have hz1 : ¬ (k : Int) < k := by omega
          clear hlt
          go_wp2_with fail
          go_end0
          exact ⟨rfl, by rw [HWS.out]; have h := HFr.out; rw [show l.take k = l by rw [← HN.out, List.take_length]] at h; exact h, HKr.out⟩
    · obtain ⟨x, hsx⟩ : ∃ x, s.wait = [x] := List.length_eq_one_iff.1 (HM.out.trans (by omega))
      have hm1 : (0 : Int) < m := by omega
      have hm2 : 0 < m := by omega
      have hwr := HFD.out.wait
      rw [hsx] at hwr
      obtain ⟨b, off, rfl, _, hc⟩ := hwr.at_ (j := 0) (by simp)
      rw [List.getElem_cons_zero, Nat.zero_mul, Nat.add_zero] at hc
      obtain ⟨c0, c1, c2, c3, c4⟩ := hc
      have hx1 : x.wd = 1 := HI.out.ww x (by rw [hsx]; simp)
      have HSX := Lib.hid hsx
      have HP := Lib.hid (put_ref x (w.drewN nq) ⟨_, _, _, _, HFD.out⟩ (by rw [HC.out]; omega) (by rw [HU.out]; omega) (by rw [HU.out]; omega) (by omega))
      unfold glV at HP
      obtain ⟨q0, q1, q2, q3, q4⟩ := bx_cellsD HFD.out.blk
      rw [HM.out] at q3
      clear hsx hwr hx1 HFD
      go_wp2_with fail
      refine HP.out.mono ?_
      rintro e w3 ⟨rfl, hf, hk3⟩
      obtain ⟨vo3, vl3, vw3, vs3, hF3⟩ := hf
      have hK3 := HKD.out.trans hk3
      have f3 := bx_frozen hF3.blk 3
      obtain ⟨r0, r1, r2, r3, r4⟩ := bx_cellsD hF3.blk
      have hg4 := heap_setCell_same w3 g 3 _ _ (.slice none 0 0) hF3.blk
      have hFu := hF3.unwait (i := 3) hg4
      have HFW := Lib.hid (show Fl false B g wide K ⟨s.out, s.line ++ s.wait, []⟩ (w3.setCell ⟨g, 3, none⟩ (.slice none 0 0)) from by rw [HSX.out]; exact ⟨_, _, _, _, hFu⟩)
      have HKW := Lib.hid (hK3.set 3 hF3.notKg (.slice none 0 0))
      obtain ⟨W, hW⟩ : ∃ W, w3.setCell ⟨g, 3, none⟩ (.slice none 0 0) = W := ⟨_, rfl⟩
      rw [hW] at HFW HKW
      clear hk3 hK3 hg4 hFu hF3 c0 c1 c2 c3 c4 q0 q1 q2 q3 q4
      go_wp2_with fail
      clear hW
      have HBD := Lib.hid (fun k => part_bd (wide := wide) (a := s.line ++ s.wait) (l := l) (fun x hx => by
        rcases List.mem_append.1 hx with hx | hx
        · exact HI.out.wd x hx
        · have := HI.out.ww x hx; omega) HX12.out (by rw [wid_app, HWL.out, HY.out]; exact hroom) k)
      go_loopw [5] (fun i wr => ∃ k : Nat, i = .int .i64 k ∧ k ≤ n ∧ Hid (Fl false B g wide K ⟨s.out, (s.line ++ s.wait) ++ l.take k, []⟩ wr) ∧ Hid (Kp K w wr)) (fun i _ => n - (intOf i).toNat)
      case atStart => exact ⟨0, rfl, Nat.zero_le _, Lib.hid (by rw [List.take_zero, List.append_nil]; exact HFW.out), HKW⟩
      case round =>
        obtain ⟨k, rfl, hk, HFr, HKr⟩ := hrel
        by_cases hlt : k < n
        · have hkl : k < l.length := by rw [HN.out]; exact hlt
          obtain ⟨b, off, rfl, hb, hc⟩ := (HR.out.keep (fun a ha _ => World.cell?_of_block (HKr.out.block _ (hP _ ha)))).at_ hkl
          have hx1 := HX12.out _ (List.getElem_mem hkl)
          have hT := Lib.hid (show l.take (k + 1) = l.take k ++ [l[k]] from List.take_succ_eq_append_getElem hkl)
          obtain ⟨x, hx⟩ : ∃ x, l[k] = x := ⟨_, rfl⟩
          rw [hx] at hc hx1 hT
          obtain ⟨c0, c1, c2, c3, c4⟩ := hc
          have hbd := HBD.out k
          have HP := Lib.hid (put_ref x _ HFr.out (by show ((s.line ++ s.wait) ++ l.take k).length ≤ 100000; omega) hbd.2.1 (by show wid ((s.line ++ s.wait) ++ l.take k) ≤ 100000; omega) (by omega))
          unfold glV at HP
          have k1 : (k : Int) < n := by omega
          have HLT := Lib.hid hlt
          clear hx hlt hbd hx1
          go_wp2_with fail
          refine HP.out.mono ?_
          rintro e w3 ⟨rfl, hf, hk3⟩
          have HF3 := Lib.hid (show Fl false B g wide K ⟨s.out, (s.line ++ s.wait) ++ l.take (k + 1), []⟩ w3 by
            rw [hT.out, ← List.append_assoc]; exact hf)
          have HK3 := Lib.hid (HKr.out.trans hk3)
          clear hf hk3
          go_wp2_with fail
          go_roundw
          case measure => have := HLT.out; simp [intOf]; omega
          case rel => exact ⟨k + 1, by go_num, HLT.out, HF3, HK3⟩
        · obtain rfl : k = n := by omega
          have hz1 : ¬ (k : Int) < k := by omega
          clear hlt
          go_wp2_with fail
          go_end0
          exact ⟨rfl, by rw [HWS.out]; have h := HFr.out; rw [show l.take k = l by rw [← HN.out, List.take_length]] at h; exact h, HKr.out⟩
  · have hroomd : decide (u + m + y ≤ wide) = false := decide_eq_false hroom
    have hrm : roomS wide s l = endU s := by unfold roomS; rw [if_pos (by rw [HU.out, HY.out, HWZ.out]; omega)]
    obtain ⟨F, hF⟩ : ∃ F, wordS wide s l = F := ⟨_, rfl⟩
    have HFF := Lib.hid hF
    have hiu : Inv wide (endU s) := HI.out.endedU (by omega)
    have hwu : (endU s).wait = [] := by
      unfold endU
      split
      · rename_i e; exact HI.out.we e
      · rfl
    have hlaid : laidS (endU s) = ⟨(endU s).out, (endU s).line, []⟩ := by unfold laidS; rw [hwu, List.append_nil]
    have HIL := Lib.hid (laid_inv hiu (by rw [hwu]; simp only [wid]; have := hiu.le; omega))
    have HML := Lib.hid (show meas (laidS (endU s)) = meas s by rw [meas_laid hiu, meas_endU])
    have HWS := Lib.hid (show (l.drop 0).foldl (signS wide) (laidS (endU s)) = F by rw [← hF, List.drop_zero]; unfold wordS; rw [hrm])
    rw [hlaid] at HIL HML HWS
    clear hrm hF hiu hwu hlaid
    go_enter Try.func37, Try.ntmps37
    go_wp2_with fail
    refine HWD.out.mono ?_
    rintro e w1 ⟨rfl, rfl⟩
    go_wp2_with fail
    go_quiet (fail)
    have hbD : Below w.heap.size w (w.drewN nq) := dn_below (Below.refl _ _) nq
    have HFD := Lib.hid (HF.out.below hbD)
    have HKD := Lib.hid (Kp.of hbD (fun c hc => (HF.out.apart c hc).1))
    obtain ⟨q0, q1, q2, q3, q4⟩ := bx_cellsD HFD.out.blk
    rw [HC.out] at q1
    clear hbD
    by_cases hc0 : c = 0
    · subst hc0
      have heu := Lib.hid (show endU s = s by unfold endU; rw [if_pos (List.eq_nil_of_length_eq_zero HC.out)])
      rw [heu.out] at HIL HML HWS
      have f3 := bx_frozen HFD.out.blk 3
      have hg4 := heap_setCell_same (w.drewN nq) g 3 _ _ (.slice none 0 0) HFD.out.blk
      have hFu := HFD.out.unwait (i := 3) hg4
      have HFW := Lib.hid (show Fl false B g wide K ⟨s.out, s.line, []⟩ ((w.drewN nq).setCell ⟨g, 3, none⟩ (.slice none 0 0)) from ⟨_, _, _, _, hFu⟩)
      have HKW := Lib.hid (HKD.out.set 3 HFD.out.notKg (.slice none 0 0))
      obtain ⟨W, hW⟩ : ∃ W, (w.drewN nq).setCell ⟨g, 3, none⟩ (.slice none 0 0) = W := ⟨_, rfl⟩
      rw [hW] at HFW HKW
      clear hg4 hFu HFD
      go_wp2_with fail
      clear hW
      go_loopw [6] (fun i wr => ∃ (k : Nat) (s3 : Fs), i = .int .i64 k ∧ k ≤ n ∧ Hid (Fl false B g wide K s3 wr) ∧ Hid (Kp K w wr) ∧ Hid (Inv wide s3 ∧ (l.drop k).foldl (signS wide) s3 = F ∧ (meas s3 + (l.length - k)) * 24 ≤ 140737488355328)) (fun i _ => n - (intOf i).toNat)
      case atStart => exact ⟨0, _, rfl, Nat.zero_le _, HFW, HKW, Lib.hid ⟨HIL.out, HWS.out, by rw [HML.out]; exact HLL.out⟩⟩
      case round =>
        obtain ⟨k, s3, rfl, hk, HFr, HKr, HPr⟩ := hrel
        by_cases hlt : k < n
        · have hkl : k < l.length := by rw [HN.out]; exact hlt
          obtain ⟨b, off, rfl, hb, hc⟩ := (HR.out.keep (fun a ha _ => World.cell?_of_block (HKr.out.block _ (hP _ ha)))).at_ hkl
          have hx1 := HX.out _ (List.getElem_mem hkl)
          have hD := List.drop_eq_getElem_cons hkl
          obtain ⟨x, hx⟩ : ∃ x, l[k] = x := ⟨_, rfl⟩
          rw [hx] at hc hx1 hD
          have HD := Lib.hid hD
          obtain ⟨c0, c1, c2, c3, c4⟩ := hc
          obtain ⟨hi3, hfo, hms⟩ := HPr.out
          have hq := fl_intD HFr.out
          obtain ⟨q2, q4⟩ := hq
          have hn1 := hi3.nn
          have hn2 := hi3.le
          obtain ⟨t, ht⟩ : ∃ t, wid s3.line = t := ⟨_, rfl⟩
          have HT := Lib.hid ht
          rw [ht] at q2 hn1 hn2
          rw [hD, List.foldl_cons] at hfo
          have HFO := Lib.hid hfo
          have HMS := Lib.hid hms
          have HI3 := Lib.hid hi3
          have y1 := hx1.1.1
          have y2 := hx1.1.2
          have y3 := hx1.2
          have y0 : 0 ≤ x.wd := by omega
          have sw : IntKind.i64.wrap (t + x.wd) = t + x.wd := IntWalk.i64_in _ (by omega)
          have k1 : (k : Int) < n := by omega
          have HKL := Lib.hid hkl
          have HLT := Lib.hid hlt
          have hKw := HKr.out
          have hgl : ∀ o, wr.cell? ⟨b, off + k * 5 + o, none⟩ = wr.cell? ⟨b, off + k * 5 + o, none⟩ := fun _ => rfl
          clear hx hlt hx1 hD hi3 hfo hms ht hkl hKw hgl
          by_cases hov : wide < t + x.wd
          · have hovd : decide (wide < t + x.wd) = true := decide_eq_true hov
            have HOV := Lib.hid hov
            have HMX := Lib.hid (show meas s3 = s3.out.length + 1 by
              have : s3.line ≠ [] := fun e => by have := HT.out; rw [e] at this; simp only [wid] at this; omega
              unfold meas; rw [if_neg this])
            clear hov
            go_wp2_with fail
            go_quiet (fail)
            have HE := Lib.hid (end_ref (wr.drewN nq) (HFr.out.below (dn_below (Below.refl _ _) nq)) (by have := HMS.out; have := out_le s3; have := HKL.out; omega))
            have HK4 := Lib.hid (HKr.out.trans (Kp.of (dn_below (Below.refl _ _) nq) HFr.out.lt))
            clear hovd sw q2 q4
            go_wp2_with fail
            refine HE.out.mono ?_
            rintro e w4 ⟨rfl, hf4, hk4⟩
            have HK5 := Lib.hid (HK4.out.trans hk4)
            have HP := Lib.hid (put_ref x w4 hf4 (by simp [endS]) (by simp [endS, wid]) (by simp [endS, wid]) (by omega))
            have hkc : ∀ a : Addr, a.block = b → w4.cell? a = wr.cell? a := fun a ha => World.cell?_of_block (by
              rw [ha]
              exact (hk4.block b (hP b hb)).trans rfl)
            have e0 := (hkc ⟨b, off + k * 5, none⟩ rfl).trans c0
            have e1 := (hkc ⟨b, off + k * 5 + 1, none⟩ rfl).trans c1
            have e2 := (hkc ⟨b, off + k * 5 + 2, none⟩ rfl).trans c2
            have e3 := (hkc ⟨b, off + k * 5 + 3, none⟩ rfl).trans c3
            have e4 := (hkc ⟨b, off + k * 5 + 4, none⟩ rfl).trans c4
            unfold glV at HP
            clear hf4 hk4 hkc c0 c1 c2 c3 c4
            go_wp2_with fail
            refine HP.out.mono ?_
            rintro e w5 ⟨rfl, hf5, hk5⟩
            have HF6 := Lib.hid hf5
            have HK6 := Lib.hid (HK5.out.trans hk5)
            clear hf5 hk5
            go_wp2_with fail
            go_roundw
            case measure => have := HLT.out; simp [intOf]; omega
            case rel =>
              have hsg : signS wide s3 x = putS (endS s3) x := by unfold signS; rw [if_pos (by rw [HT.out]; exact HOV.out)]
              refine ⟨k + 1, putS (endS s3) x, by go_num, HLT.out, HF6, HK6, Lib.hid ⟨(HI3.out.ended (by omega)).put ⟨y1, y2⟩ (by simp [endS, wid]; omega), ?_, ?_⟩⟩
              · rw [← hsg]; exact HFO.out
              · have := HMS.out
                have := HMX.out
                have := HKL.out
                rw [meas_put]
                simp only [endS, List.length_append, List.length_singleton]
                omega
          · have hovd : decide (wide < t + x.wd) = false := decide_eq_false hov
            have HOV := Lib.hid hov
            clear hov
            go_wp2_with fail
            go_quiet (fail)
            have HP := Lib.hid (put_ref x (wr.drewN nq) (HFr.out.below (dn_below (Below.refl _ _) nq)) (by have := HI3.out.len; omega) (by rw [HT.out]; omega) (by rw [HT.out]; omega) (by omega))
            have HK4 := Lib.hid (HKr.out.trans (Kp.of (dn_below (Below.refl _ _) nq) HFr.out.lt))
            unfold glV at HP
            clear hovd sw q2 q4
            go_wp2_with fail
            refine HP.out.mono ?_
            rintro e w5 ⟨rfl, hf5, hk5⟩
            have HF6 := Lib.hid hf5
            have HK6 := Lib.hid (HK4.out.trans hk5)
            clear hf5 hk5
            go_wp2_with fail
            go_roundw
            case measure => have := HLT.out; simp [intOf]; omega
            case rel =>
              have hsg : signS wide s3 x = putS s3 x := by unfold signS; rw [if_neg (by rw [HT.out]; have := HOV.out; omega)]
              refine ⟨k + 1, putS s3 x, by go_num, HLT.out, HF6, HK6, Lib.hid ⟨HI3.out.put ⟨y1, y2⟩ (by rw [HT.out]; have := HOV.out; omega), ?_, ?_⟩⟩
              · rw [← hsg]; exact HFO.out
              · have := HMS.out
                have := out_le s3
                have := HKL.out
                rw [meas_put]
                omega
        · obtain rfl : k = n := by omega
          have hz1 : ¬ (k : Int) < k := by omega
          have hfo := HPr.out.2.1
          rw [show l.drop k = [] from List.drop_eq_nil_of_le (by have := HN.out; omega)] at hfo
          have HE := Lib.hid (show s3 = F from hfo)
          clear hlt hfo
          go_wp2_with fail
          go_end0
          exact ⟨rfl, by rw [HFF.out, ← HE.out]; exact HFr.out, HKr.out⟩
    · have heu := Lib.hid (show endU s = endS s by unfold endU; rw [if_neg (fun e => hc0 (by rw [← HC.out, e]; rfl))])
      rw [heu.out] at HIL HML HWS
      have hc1 : (0 : Int) < c := by omega
      have HE := Lib.hid (end_ref (w.drewN nq) ⟨_, _, _, _, HFD.out⟩ HOL.out)
      clear HFD
      go_wp2_with fail
      refine HE.out.mono ?_
      rintro e w3 ⟨rfl, hf, hk3⟩
      obtain ⟨vo3, vl3, vw3, vs3, hF3⟩ := hf
      have hK3 := HKD.out.trans hk3
      have f3 := bx_frozen hF3.blk 3
      obtain ⟨r0, r1, r2, r3, r4⟩ := bx_cellsD hF3.blk
      have hg4 := heap_setCell_same w3 g 3 _ _ (.slice none 0 0) hF3.blk
      have hFu := hF3.unwait (i := 3) hg4
      have HFW := Lib.hid (show Fl false B g wide K ⟨(endS s).out, (endS s).line, []⟩ (w3.setCell ⟨g, 3, none⟩ (.slice none 0 0)) from ⟨_, _, _, _, hFu⟩)
      have HKW := Lib.hid (hK3.set 3 hF3.notKg (.slice none 0 0))
      obtain ⟨W, hW⟩ : ∃ W, w3.setCell ⟨g, 3, none⟩ (.slice none 0 0) = W := ⟨_, rfl⟩
      rw [hW] at HFW HKW
      clear hk3 hK3 hg4 hFu hF3 q0 q1 q2 q3 q4
      go_wp2_with fail
      clear hW
      go_loopw [6] (fun i wr => ∃ (k : Nat) (s3 : Fs), i = .int .i64 k ∧ k ≤ n ∧ Hid (Fl false B g wide K s3 wr) ∧ Hid (Kp K w wr) ∧ Hid (Inv wide s3 ∧ (l.drop k).foldl (signS wide) s3 = F ∧ (meas s3 + (l.length - k)) * 24 ≤ 140737488355328)) (fun i _ => n - (intOf i).toNat)
      case atStart => exact ⟨0, _, rfl, Nat.zero_le _, HFW, HKW, Lib.hid ⟨HIL.out, HWS.out, by rw [HML.out]; exact HLL.out⟩⟩
      case round =>
        obtain ⟨k, s3, rfl, hk, HFr, HKr, HPr⟩ := hrel
        by_cases hlt : k < n
        · have hkl : k < l.length := by rw [HN.out]; exact hlt
          obtain ⟨b, off, rfl, hb, hc⟩ := (HR.out.keep (fun a ha _ => World.cell?_of_block (HKr.out.block _ (hP _ ha)))).at_ hkl
          have hx1 := HX.out _ (List.getElem_mem hkl)
          have hD := List.drop_eq_getElem_cons hkl
          obtain ⟨x, hx⟩ : ∃ x, l[k] = x := ⟨_, rfl⟩
          rw [hx] at hc hx1 hD
          have HD := Lib.hid hD
          obtain ⟨c0, c1, c2, c3, c4⟩ := hc
          obtain ⟨hi3, hfo, hms⟩ := HPr.out
          have hq := fl_intD HFr.out
          obtain ⟨q2, q4⟩ := hq
          have hn1 := hi3.nn
          have hn2 := hi3.le
          obtain ⟨t, ht⟩ : ∃ t, wid s3.line = t := ⟨_, rfl⟩
          have HT := Lib.hid ht
          rw [ht] at q2 hn1 hn2
          rw [hD, List.foldl_cons] at hfo
          have HFO := Lib.hid hfo
          have HMS := Lib.hid hms
          have HI3 := Lib.hid hi3
          have y1 := hx1.1.1
          have y2 := hx1.1.2
          have y3 := hx1.2
          have y0 : 0 ≤ x.wd := by omega
          have sw : IntKind.i64.wrap (t + x.wd) = t + x.wd := IntWalk.i64_in _ (by omega)
          have k1 : (k : Int) < n := by omega
          have HKL := Lib.hid hkl
          have HLT := Lib.hid hlt
          have hKw := HKr.out
          have hgl : ∀ o, wr.cell? ⟨b, off + k * 5 + o, none⟩ = wr.cell? ⟨b, off + k * 5 + o, none⟩ := fun _ => rfl
          clear hx hlt hx1 hD hi3 hfo hms ht hkl hKw hgl
          by_cases hov : wide < t + x.wd
          · have hovd : decide (wide < t + x.wd) = true := decide_eq_true hov
            have HOV := Lib.hid hov
            have HMX := Lib.hid (show meas s3 = s3.out.length + 1 by
              have : s3.line ≠ [] := fun e => by have := HT.out; rw [e] at this; simp only [wid] at this; omega
              unfold meas; rw [if_neg this])
            clear hov
            go_wp2_with fail
            go_quiet (fail)
            have HE := Lib.hid (end_ref (wr.drewN nq) (HFr.out.below (dn_below (Below.refl _ _) nq)) (by have := HMS.out; have := out_le s3; have := HKL.out; omega))
            have HK4 := Lib.hid (HKr.out.trans (Kp.of (dn_below (Below.refl _ _) nq) HFr.out.lt))
            clear hovd sw q2 q4
            go_wp2_with fail
            refine HE.out.mono ?_
            rintro e w4 ⟨rfl, hf4, hk4⟩
            have HK5 := Lib.hid (HK4.out.trans hk4)
            have HP := Lib.hid (put_ref x w4 hf4 (by simp [endS]) (by simp [endS, wid]) (by simp [endS, wid]) (by omega))
            have hkc : ∀ a : Addr, a.block = b → w4.cell? a = wr.cell? a := fun a ha => World.cell?_of_block (by
              rw [ha]
              exact (hk4.block b (hP b hb)).trans rfl)
            have e0 := (hkc ⟨b, off + k * 5, none⟩ rfl).trans c0
            have e1 := (hkc ⟨b, off + k * 5 + 1, none⟩ rfl).trans c1
            have e2 := (hkc ⟨b, off + k * 5 + 2, none⟩ rfl).trans c2
            have e3 := (hkc ⟨b, off + k * 5 + 3, none⟩ rfl).trans c3
            have e4 := (hkc ⟨b, off + k * 5 + 4, none⟩ rfl).trans c4
            unfold glV at HP
            clear hf4 hk4 hkc c0 c1 c2 c3 c4
            go_wp2_with fail
            refine HP.out.mono ?_
            rintro e w5 ⟨rfl, hf5, hk5⟩
            have HF6 := Lib.hid hf5
            have HK6 := Lib.hid (HK5.out.trans hk5)
            clear hf5 hk5
            go_wp2_with fail
            go_roundw
            case measure => have := HLT.out; simp [intOf]; omega
            case rel =>
              have hsg : signS wide s3 x = putS (endS s3) x := by unfold signS; rw [if_pos (by rw [HT.out]; exact HOV.out)]
              refine ⟨k + 1, putS (endS s3) x, by go_num, HLT.out, HF6, HK6, Lib.hid ⟨(HI3.out.ended (by omega)).put ⟨y1, y2⟩ (by simp [endS, wid]; omega), ?_, ?_⟩⟩
              · rw [← hsg]; exact HFO.out
              · have := HMS.out
                have := HMX.out
                have := HKL.out
                rw [meas_put]
                simp only [endS, List.length_append, List.length_singleton]
                omega
          · have hovd : decide (wide < t + x.wd) = false := decide_eq_false hov
            have HOV := Lib.hid hov
            clear hov
            go_wp2_with fail
            go_quiet (fail)
            have HP := Lib.hid (put_ref x (wr.drewN nq) (HFr.out.below (dn_below (Below.refl _ _) nq)) (by have := HI3.out.len; omega) (by rw [HT.out]; omega) (by rw [HT.out]; omega) (by omega))
            have HK4 := Lib.hid (HKr.out.trans (Kp.of (dn_below (Below.refl _ _) nq) HFr.out.lt))
            unfold glV at HP
            clear hovd sw q2 q4
            go_wp2_with fail
            refine HP.out.mono ?_
            rintro e w5 ⟨rfl, hf5, hk5⟩
            have HF6 := Lib.hid hf5
            have HK6 := Lib.hid (HK4.out.trans hk5)
            clear hf5 hk5
            go_wp2_with fail
            go_roundw
            case measure => have := HLT.out; simp [intOf]; omega
            case rel =>
              have hsg : signS wide s3 x = putS s3 x := by unfold signS; rw [if_neg (by rw [HT.out]; have := HOV.out; omega)]
              refine ⟨k + 1, putS s3 x, by go_num, HLT.out, HF6, HK6, Lib.hid ⟨HI3.out.put ⟨y1, y2⟩ (by rw [HT.out]; have := HOV.out; omega), ?_, ?_⟩⟩
              · rw [← hsg]; exact HFO.out
              · have := HMS.out
                have := out_le s3
                have := HKL.out
                rw [meas_put]
                omega
        · obtain rfl : k = n := by omega
          have hz1 : ¬ (k : Int) < k := by omega
          have hfo := HPr.out.2.1
          rw [show l.drop k = [] from List.drop_eq_nil_of_le (by have := HN.out; omega)] at hfo
          have HE := Lib.hid (show s3 = F from hfo)
          clear hlt hfo
          go_wp2_with fail
          go_end0
          exact ⟨rfl, by rw [HFF.out, ← HE.out]; exact HFr.out, HKr.out⟩
end Go.Proofs.Ytpnlajgcfibelaa.Tb
