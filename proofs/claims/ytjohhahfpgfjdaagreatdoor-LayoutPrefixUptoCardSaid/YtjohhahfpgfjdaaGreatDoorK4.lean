/- The texts that the laws of layout stand on, part 4. -/
import Derived.Test.YtjohhahfpgfjdaaGreatDoorK2
import Derived.Deep.RegionHeld3
import Derived.WalkMore
section
namespace Go.Proofs.YtjohhahfpgfjdaaGreatDoor.Tb
open Go.RowKit Go.Maps
set_option linter.unusedVariables false
set_option linter.unusedSimpArgs false
section
variable {d : Bool} {B g : Nat} {wide u : Int} {K K' : Nat → Prop} {s : Fs} {vo vl vw : Value} {vs : List Value} {W W' : World}
/-- The blocks of what was told are left, too. -/
theorem FlAt.wider (h : FlAt d B g wide K s u vo vl vw vs W) : FlAt d B g wide (fun c => K c ∨ (c < W.heap.size ∧ Told B g vo vl c)) s u vo vl vw vs W :=
  ⟨h.base, h.blk, h.line, h.out, h.wait, fun c hc => by
    rcases hc with hc | hc
    · exact h.apart c hc
    · exact ⟨hc.1, hc.2.2.1, hc.2.2.2.1, hc.2.2.2.2⟩⟩
theorem FlAt.waitK (h : FlAt d B g wide K s u vo vl vw vs W) : RdG (fun c => K c ∨ (c < W.heap.size ∧ Told B g vo vl c)) W vw s.wait := h.wait.imp fun b hb hT => .inr ⟨hb, hT⟩
end
def S3 (g : Nat) (wide u : Int) (vw : Value) (W w : World) : Prop := w.cell? ⟨g, 0, none⟩ = some (.int .i64 wide) ∧ w.cell? ⟨g, 3, none⟩ = some (.int .i64 u) ∧ w.cell? ⟨g, 4, none⟩ = some vw ∧ Below W.heap.size W w
theorem S3.next {g : Nat} {wide u : Int} {vw : Value} {W w w' : World} (h : w.cell? ⟨g, 0, none⟩ = some (.int .i64 wide) ∧ w.cell? ⟨g, 3, none⟩ = some (.int .i64 u) ∧ w.cell? ⟨g, 4, none⟩ = some vw ∧ Below W.heap.size W w) (hb : Below w.heap.size w w') : w'.cell? ⟨g, 0, none⟩ = some (.int .i64 wide) ∧ w'.cell? ⟨g, 3, none⟩ = some (.int .i64 u) ∧ w'.cell? ⟨g, 4, none⟩ = some vw ∧ Below W.heap.size W w' :=
  ⟨(hb.cell (p := ⟨g, 0, none⟩) (cellInL h.1)).trans h.1, (hb.cell (p := ⟨g, 3, none⟩) (cellInL h.2.1)).trans h.2.1, (hb.cell (p := ⟨g, 4, none⟩) (cellInL h.2.2.1)).trans h.2.2.1, h.2.2.2.trans (hb.mono h.2.2.2.size)⟩
theorem small_wait {wide : Int} {s : Fs} (h : Inv wide s) : SmallW s.wait := fun g hg => by rw [h.ww g hg]; omega
theorem small_fit {wide : Int} {l : List Gl} (h : ∀ x ∈ l, (1 ≤ (fitG wide x).wd ∧ (fitG wide x).wd ≤ 2) ∧ (fitG wide x).wd ≤ wide) : SmallW (fitL wide l) := fun g hg => by
  obtain ⟨y, hy, rfl⟩ := List.mem_map.1 hg
  have := h y hy
  omega
/-- A word of which the first j glyphs have been put down. -/
def PwAt (B g : Nat) (wide : Int) (K : Nat → Prop) (l : List Gl) (F : Fs) (w : World) (j : Nat) (s : Fs) (wr : World) : Prop :=
  Fl true B g wide K s wr ∧ Kp K w wr ∧ Inv wide s ∧ (fitL wide (l.drop j)).foldl (signS wide) s = F ∧ (meas s + (l.length - j)) * 24 ≤ 140737488355328
def lenV (v : Value) : Nat := match v with | .slice _ n _ => n | _ => 0
theorem fitL_drop (wide : Int) (l : List Gl) (j : Nat) (h : j < l.length) : fitL wide (l.drop j) = fitG wide l[j] :: fitL wide (l.drop (j + 1)) := by
  unfold fitL
  rw [List.drop_eq_getElem_cons h, List.map_cons]
theorem signS_end {wide : Int} {s : Fs} {x : Gl} (h : wide < wid s.line + x.wd) (hx : x.wd ≤ wide) : signS wide (endS s) x = signS wide s x := by
  unfold signS
  rw [if_pos h, if_neg (by simp [endS, wid]; omega)]
theorem fl_int {B g : Nat} {wide : Int} {K : Nat → Prop} {s : Fs} {w : World} (h : Fl true B g wide K s w) : intAt w ⟨g, 3, none⟩ = wid s.line := by
  obtain ⟨_, _, _, _, h⟩ := h
  obtain ⟨_, _, _, q3, _⟩ := bx_cellsP h.blk
  unfold intAt
  rw [q3]
  rfl
set_option maxRecDepth 100000 in
set_option maxHeartbeats 4000000 in
theorem putWord_pro {P : Nat → Prop} {B g : Nat} {wide : Int} {K : Nat → Prop} {s : Fs} (l : List Gl) (v : Value) (w : World) (h : Fl true B g wide K s w) (hr : RdG P w v l) (hP : ∀ c, P c → K c) (hi : Inv wide s) (hw1 : 1 ≤ wide) (hw2 : wide ≤ 200) (hne : 0 < l.length)
    (hl : (meas s + l.length) * 24 ≤ 140737488355328) (hx : ∀ x ∈ l, (1 ≤ (fitG wide x).wd ∧ (fitG wide x).wd ≤ 2) ∧ (fitG wide x).wd ≤ wide) :
    Calls Tryz.prog 148 #[.pointer (some ⟨g, 0, none⟩), v] w (FlPost true B g wide K (wordS wide s (fitL wide l)) (.tuple #[]) w) := by
  obtain ⟨pa, cap, rfl, hc1, hc2⟩ := sliceG hr
  obtain ⟨vo, vl, vw, vs, hF⟩ := h
  obtain ⟨q0, q1, q2, q3, q4⟩ := bx_cellsP hF.blk
  have hS0 : w.drew.cell? ⟨g, 0, none⟩ = some (.int .i64 wide) ∧ w.drew.cell? ⟨g, 3, none⟩ = some (.int .i64 (wid s.line)) ∧ w.drew.cell? ⟨g, 4, none⟩ = some vw ∧ Below w.heap.size w w.drew := ⟨q0, q3, q4, (Below.refl _ _).drew⟩
  have HS0 := Lib.hid hS0
  have HF := Lib.hid hF
  have HR := Lib.hid hr
  have HI := Lib.hid hi
  have HX := Lib.hid hx
  have HSW := Lib.hid (small_wait hi)
  have HSF := Lib.hid (small_fit hx)
  have HLL := Lib.hid hl
  have HL47 := Lib.hid (show l.length ≤ 140737488355328 by omega)
  have HW47 := Lib.hid (show s.wait.length ≤ 140737488355328 by have := hi.wl; omega)
  have hz := wid_small (small_wait hi)
  have hy := wid_small (small_fit hx)
  have hyl : (fitL wide l).length = l.length := by simp [fitL]
  have hwl := hi.wl
  have hu1 := hi.nn
  have hu2 := hi.le
  obtain ⟨u, hu⟩ : ∃ u, wid s.line = u := ⟨_, rfl⟩
  obtain ⟨z, hzz⟩ : ∃ z, wid s.wait = z := ⟨_, rfl⟩
  obtain ⟨y, hyy⟩ : ∃ y, wid (fitL wide l) = y := ⟨_, rfl⟩
  have HU := Lib.hid hu
  have HZ := Lib.hid hzz
  have HY := Lib.hid hyy
  rw [hu] at q3 HS0 hS0 hu1 hu2
  rw [hzz] at hz
  rw [hyy] at hy
  have z1 : 0 ≤ z := hz.1
  have z2 : z ≤ 200 := by omega
  have y1 : 0 ≤ y := hy.1
  have y2 : y ≤ 200 * 140737488355328 := by omega
  have s1 : IntKind.i64.wrap (u + z) = u + z := IntWalk.i64_in _ (by omega)
  have s2 : IntKind.i64.wrap (u + z + y) = u + z + y := IntWalk.i64_in _ (by omega)
  obtain ⟨s1, hs1⟩ : ∃ s1, roomS wide s (fitL wide l) = s1 := ⟨_, rfl⟩
  have HS1 := Lib.hid hs1
  have hi1 : Inv wide s1 := by rw [← hs1]; exact roomS_inv hi _ (by omega)
  have hr1 : wid s1.line + wid s1.wait ≤ wide := by rw [← hs1]; exact room_fits hi _ (by omega) (by rw [hyy]; exact y1)
  have HI1 := Lib.hid hi1
  have HIL := Lib.hid (laid_inv hi1 hr1)
  have HML := Lib.hid (show meas (laidS s1) = meas s by rw [meas_laid hi1, ← hs1, meas_room])
  have HWS := Lib.hid (show wordS wide s (fitL wide l) = (fitL wide l).foldl (signS wide) (laidS s1) by unfold wordS; rw [hs1])
  have HLO := Lib.hid (show (s.out.length + 1) * 24 ≤ 140737488355328 by have := out_le s; omega)
  obtain ⟨n, hn⟩ : ∃ n, l.length = n := ⟨_, rfl⟩
  have HN := Lib.hid hn
  rw [hn] at HR hc1 ⊢
  have mixed : Tryz.prog.follows .mixedOrders = true := by kernel_rfl
  clear hF hr hi hx hl hz hy hyl hwl hu hzz hyy hn hc1 q0 q1 q2 q3 q4 hs1 hi1 hr1
  by_cases hroom : wide < u + z + y
  · have HRM := Lib.hid (show endU s = s1 by rw [← HS1.out]; unfold roomS; rw [if_pos (by rw [HU.out, HZ.out, HY.out]; exact hroom)])
    clear hS0
    go_enter Tryz.func148, Tryz.ntmps148
    go_wp2_with fail
    go_step3
    go_wp2_with fail
    go_region_held3 (fun w' => w'.cell? ⟨g, 0, none⟩ = some (.int .i64 wide) ∧ w'.cell? ⟨g, 3, none⟩ = some (.int .i64 u) ∧ w'.cell? ⟨g, 4, none⟩ = some vw ∧ Below w.heap.size w w')
      (first | exact HS0.out | exact S3.next (by assumption) h8 | assumption)
      ((first
        | (go_at_call 152; refine (wide_pro s.wait vw _ (HF.out.wait.below ((by assumption : _ ∧ _ ∧ _ ∧ Below w.heap.size w _).2.2.2)) HW47.out HSW.out).mono ?_; rw [HZ.out]; rintro e w8 ⟨rfl, h8⟩)
        | (go_at_call 158; refine (wideOf_pro wide g l _ _ (HR.out.below ((by assumption : _ ∧ _ ∧ _ ∧ Below w.heap.size w _).2.2.2)) HL47.out HSF.out ((by assumption : _ ∧ _ ∧ _ ∧ Below w.heap.size w _).1)).mono ?_; rw [HY.out]; rintro e w9 ⟨rfl, h8⟩)))
    have h9 : Below w.heap.size w w9 := (by assumption : _ ∧ _ ∧ _ ∧ Below w.heap.size w w9).2.2.2
    have HK9 := Lib.hid (Kp.of h9 (fun c hc => (HF.out.apart c hc).1))
    have HF9 := Lib.hid (HF.out.below h9)
    clear h9
    have HE := Lib.hid (endUsed_pro w9 ⟨_, _, _, _, HF9.out⟩ HLO.out (by have := HI.out.len; omega))
    clear HF9
    go_wp2_with fail
    refine HE.out.mono ?_
    rw [HRM.out]
    rintro e W ⟨rfl, hf, hk⟩
    have HFW := Lib.hid hf
    have HKW := Lib.hid (HK9.out.trans hk)
    clear hf hk
    obtain ⟨vo1, vl1, vw1, vs1, hF1⟩ := HFW.out
    obtain ⟨pw, cw, rfl, hwc1, hwc2⟩ := hF1.wait.form
    obtain ⟨q0, q1, q2, q3, q4⟩ := bx_cellsP hF1.blk
    obtain ⟨m, hm⟩ : ∃ m, s1.wait.length = m := ⟨_, rfl⟩
    rw [hm] at q4 hwc1
    have HMW := Lib.hid hm
    have m1 : m ≤ 1 := by rw [← hm]; exact HI1.out.wl
    have m62 : m ≤ 9223372036854775807 := by omega
    obtain ⟨K1, hK1⟩ : ∃ K1 : Nat → Prop, (fun c => K c ∨ (c < W.heap.size ∧ Told B g vo1 vl1 c)) = K1 := ⟨_, rfl⟩
    have HKK := Lib.hid (show ∀ c, K c → K1 c by rw [← hK1]; exact fun c hc => .inl hc)
    have hF1w := hF1.wider
    have hwk := hF1.waitK
    rw [hK1] at hF1w hwk
    rw [hm] at hwk
    have HWK := Lib.hid hwk
    have HFS := Lib.hid (show Fl true B g wide K1 ⟨s1.out, s1.line ++ s1.wait.take 0, s1.wait⟩ W by rw [List.take_zero, List.append_nil]; exact ⟨_, _, _, _, hF1w⟩)
    have HKL1 := Lib.hid (fun c (hc : K1 c) => (hF1w.apart c hc).1)
    clear hF1 hF1w hwk hwc1 hwc2 hm hK1
    go_wp2_with fail
    go_loopw [34] (fun i wr => ∃ k : Nat, i = .int .i64 k ∧ k ≤ m ∧ Hid (Fl true B g wide K1 ⟨s1.out, s1.line ++ s1.wait.take k, s1.wait⟩ wr) ∧ Hid (Kp K1 W wr)) (fun i _ => m - (intOf i).toNat)
    case atStart => exact ⟨0, rfl, Nat.zero_le _, HFS, Lib.hid (Kp.refl _ _)⟩
    case round =>
      obtain ⟨k, rfl, hk, HFr, HKr⟩ := hrel
      by_cases hlt : k < m
      · have hkl : k < s1.wait.length := by rw [HMW.out]; exact hlt
        obtain ⟨b, off, rfl, hb, hc⟩ := (HWK.out.keep (fun a ha _ => World.cell?_of_block (HKr.out.block _ ha))).at_ hkl
        have hx1 := HI1.out.ww _ (List.getElem_mem hkl)
        have hln : (s1.line ++ s1.wait.take k).length ≤ 100000 := by
          rw [List.length_append, List.length_take]
          have := HI1.out.len
          omega
        have hwn : 0 ≤ wid (s1.line ++ s1.wait.take k) ∧ wid (s1.line ++ s1.wait.take k) ≤ 100000 := by
          rw [wid_app]
          have := HI1.out.le
          have := HI1.out.nn
          have := wid_small (l := s1.wait.take k) fun g hg => small_wait HI1.out g (List.mem_of_mem_take hg)
          have : (s1.wait.take k).length ≤ k := List.length_take_le _ _
          omega
        have hT := Lib.hid (show s1.wait.take (k + 1) = s1.wait.take k ++ [s1.wait[k]] from List.take_succ_eq_append_getElem hkl)
        obtain ⟨x, hx⟩ : ∃ x, s1.wait[k] = x := ⟨_, rfl⟩
        rw [hx] at hc hx1 hT
        obtain ⟨c0, c1, c2, c3, c4⟩ := hc
        have HP := Lib.hid (put_pro x _ (HFr.out.below (below_box wr (boxG x))) hln hwn.1 hwn.2 (by omega))
        have HKA := Lib.hid (HKr.out.trans (Kp.of (below_box wr (boxG x)) HFr.out.lt))
        unfold boxG glV at HP
        unfold boxG at HKA
        have k1 : (k : Int) < m := by omega
        have HLT := Lib.hid hlt
        clear hx hlt hln hwn hx1
        go_wp2_with fail
        refine HP.out.mono ?_
        rintro e w3 ⟨rfl, hf, hk3⟩
        have HF3 := Lib.hid (show Fl true B g wide K1 ⟨s1.out, s1.line ++ s1.wait.take (k + 1), s1.wait⟩ w3 by
          rw [hT.out, ← List.append_assoc]; exact hf)
        have HK3 := Lib.hid (HKA.out.trans hk3)
        clear hf hk3
        go_wp2_with fail
        go_roundw
        case measure => have := HLT.out; simp [intOf]; omega
        case rel => exact ⟨k + 1, by go_num, HLT.out, HF3, HK3⟩
      · obtain rfl : k = m := by omega
        have hz1 : ¬ (k : Int) < k := by omega
        have hF := HFr.out
        obtain ⟨vo2, vl2, vw2, vs2, hF⟩ := hF
        rw [show s1.wait.take k = s1.wait by rw [← HMW.out, List.take_length]] at hF
        have f4 := bx_frozen hF.blk 4
        obtain ⟨q0, q1, q2, q3, q4⟩ := bx_cellsP hF.blk
        have hg4 := heap_setCell_same wr g 4 _ _ (.slice none 0 0) hF.blk
        have hFu := hF.unwait (i := 4) hg4
        have HFL := Lib.hid (show Fl true B g wide K (laidS s1) (wr.setCell ⟨g, 4, none⟩ (.slice none 0 0)) from ⟨_, _, _, _, hFu.less HKK.out⟩)
        have HKL := Lib.hid (HKW.out.trans ((HKr.out.mono HKK.out).set 4 (fun h => hF.notKg (HKK.out g h)) (.slice none 0 0)))
        obtain ⟨W5, hW5⟩ : ∃ W5, wr.setCell ⟨g, 4, none⟩ (.slice none 0 0) = W5 := ⟨_, rfl⟩
        rw [hW5] at HFL HKL
        obtain ⟨F, hFF⟩ : ∃ F, wordS wide s (fitL wide l) = F := ⟨_, rfl⟩
        have HPW := Lib.hid (show PwAt B g wide K l F w 0 (laidS s1) W5 from ⟨HFL.out, HKL.out, HIL.out, by rw [List.drop_zero, ← HWS.out, hFF], by rw [HML.out]; exact HLL.out⟩)
        have HRP := Lib.hid (show RdG P W5 (.slice pa n cap) (l.drop 0) from HR.out.keep fun a ha _ => World.cell?_of_block (HKL.out.block _ (hP _ ha)))
        have HFF := Lib.hid hFF
        clear hF hg4 hFu hlt HFL hFF
        go_wp2_with fail
        go_step3
        go_wp2_with fail
        go_loopw [1] (fun v wr => ∃ (j n' cap' : Nat) (p' : Option Addr) (s2 : Fs), v = .slice p' n' cap' ∧ n' + j = n ∧ n' ≤ cap' ∧ Hid (RdG P wr (.slice p' n' cap') (l.drop j)) ∧ Hid (PwAt B g wide K l F w j s2 wr)) (fun v wr => 2 * lenV v + (if intAt wr ⟨g, 3, none⟩ = 0 then 0 else 1))
        case atStart => exact ⟨0, n, cap, pa, _, rfl, rfl, (by have h := HRP.out.form; obtain ⟨_, _, e, h1, _⟩ := h; cases e; rw [List.drop_zero, HN.out] at h1; exact h1), HRP, HPW⟩
        case round =>
          obtain ⟨wo, rfl⟩ : ∃ wo : World, wo = wr := ⟨_, rfl⟩
          obtain ⟨j, n', cap', p', s2, rfl, hj, hc', HR2, HP2⟩ := hrel
          have HJ := Lib.hid hj
          have n62 : n' ≤ 9223372036854775807 := by have := HL47.out; have := HN.out; omega
          have hdl : (l.drop j).length = n' := by rw [List.length_drop]; have := HN.out; omega
          have HDL := Lib.hid hdl
          have HMO := Lib.hid (fl_int HP2.out.1)
          clear hj hdl
          go_wp2_with fail
          go_loopw [1, 47] (fun v i wi => ∃ (k : Nat) (s3 : Fs), v = .slice p' n' cap' ∧ i = .int .i64 k ∧ k ≤ n' ∧ Hid (PwAt B g wide K l F w (j + k) s3 wi) ∧ Hid (k = 0 → s3 = s2)) (fun _ i _ => n' - (intOf i).toNat)
          case atStart => exact ⟨0, s2, rfl, rfl, Nat.zero_le _, HP2, Lib.hid (fun _ => rfl)⟩
          case round =>
            obtain ⟨k, s3, rfl, rfl, hk, HP3, HK0⟩ := hrel
            by_cases hlt : k < n'
            · have hkl : k < (l.drop j).length := by rw [HDL.out]; exact hlt
              have hjl : j + k < l.length := by rw [List.length_drop] at hkl; omega
              have hrw : RdG P wr (.slice p' n' cap') (l.drop j) := by
                have h1 : RdG P w (.slice pa n cap) l := HR.out
                exact HR2.out.keep fun a ha _ => World.cell?_of_block (by rw [HP3.out.2.1.block _ (hP _ ha), HP2.out.2.1.block _ (hP _ ha)])
              obtain ⟨b, off, rfl, hb, hc⟩ := hrw.at_ hkl
              have hx := HX.out _ (List.getElem_mem hjl)
              have hD := fitL_drop wide l (j + k) hjl
              have ex : (l.drop j)[k] = l[j + k] := List.getElem_drop
              obtain ⟨x, hxx⟩ : ∃ x, l[j + k] = x := ⟨_, rfl⟩
              rw [ex, hxx] at hc
              rw [hxx] at hx hD
              obtain ⟨c0, c1, c2, c3, c4⟩ := hc
              have HRW := Lib.hid hrw
              have HXX := Lib.hid hx
              have HD := Lib.hid hD
              have k1 : (k : Int) < n' := by omega
              have HLT := Lib.hid hlt
              obtain ⟨hf3, hk3, hi3, hfo, hms⟩ := HP3.out
              obtain ⟨_, _, _, _, hfa⟩ := id hf3
              have HFT := Lib.hid (fitting_pro wide g x (wr.alloc (boxG x)) (bx_cellsP (hfa.below (below_box wr (boxG x))).blk).1)
              have HFM := Lib.hid (hf3.more (boxG x))
              have HKM := Lib.hid (hk3.trans (Kp.of (below_box wr (boxG x)) hf3.lt))
              have HXN := Lib.hid (heap_alloc_new wr (boxG x))
              obtain ⟨bb, hbb⟩ : ∃ bb, wr.heap.size = bb := ⟨_, rfl⟩
              rw [hbb] at HXN
              unfold boxG glV at HFT
              unfold boxG at HFM HKM HXN
              clear hrw hx hD ex hxx hlt hf3 hk3 hi3 hfo hms hfa
              go_wp2_with fail
              refine HFT.out.mono ?_
              unfold MakesG
              obtain ⟨y, hy⟩ : ∃ y, fitG wide x = y := ⟨_, rfl⟩
              rw [hy]
              rintro e w2 ⟨rfl, hb2⟩
              have HBB := Lib.hid hbb
              have hx2 := (hb2.block bb (by rw [← hbb]; simp)).trans HXN.out
              have z0 := heap_setCell_same w2 bb 0 _ _ (.string y.t) hx2
              have z1 := heap_setCell_same _ bb 1 _ _ (.int .i64 y.wd) z0
              have z2 := heap_setCell_same _ bb 2 _ _ (.int .i64 y.at_) z1
              have z3 := heap_setCell_same _ bb 3 _ _ (.int .i64 y.co) z2
              have z4 := heap_setCell_same _ bb 4 _ _ (.int .i64 y.lk) z3
              have hB5 : Below wr.heap.size wr (((((w2.setCell ⟨bb, 0, none⟩ (.string y.t)).setCell ⟨bb, 1, none⟩ (.int .i64 y.wd)).setCell ⟨bb, 2, none⟩ (.int .i64 y.at_)).setCell ⟨bb, 3, none⟩ (.int .i64 y.co)).setCell ⟨bb, 4, none⟩ (.int .i64 y.lk)) := by
                have h0 := (below_box wr (.cells #[.string x.t, .int .i64 x.wd, .int .i64 x.at_, .int .i64 x.co, .int .i64 x.lk] 44)).trans (hb2.mono (by simp))
                exact ((((h0.setCell (by simp [hbb]) _).setCell (by simp [hbb]) _).setCell (by simp [hbb]) _).setCell (by simp [hbb]) _).setCell (by simp [hbb]) _
              have p0 : w2.cell? ⟨bb, 0, none⟩ = some (.string x.t) := by rw [cell_of_row _ _ _ _ _ _ hx2]; rfl
              have p1 : w2.cell? ⟨bb, 1, none⟩ = some (.int .i64 x.wd) := by rw [cell_of_row _ _ _ _ _ _ hx2]; rfl
              have p2 : w2.cell? ⟨bb, 2, none⟩ = some (.int .i64 x.at_) := by rw [cell_of_row _ _ _ _ _ _ hx2]; rfl
              have p3 : w2.cell? ⟨bb, 3, none⟩ = some (.int .i64 x.co) := by rw [cell_of_row _ _ _ _ _ _ hx2]; rfl
              have p4 : w2.cell? ⟨bb, 4, none⟩ = some (.int .i64 x.lk) := by rw [cell_of_row _ _ _ _ _ _ hx2]; rfl
              have f0 := frozen_of_row w2 bb 0 _ _ hx2
              have f1 := frozen_of_row w2 bb 1 _ _ hx2
              have f2 := frozen_of_row w2 bb 2 _ _ hx2
              have f3 := frozen_of_row w2 bb 3 _ _ hx2
              have f4 := frozen_of_row w2 bb 4 _ _ hx2
              obtain ⟨W5, hW5⟩ : ∃ W5, (((((w2.setCell ⟨bb, 0, none⟩ (.string y.t)).setCell ⟨bb, 1, none⟩ (.int .i64 y.wd)).setCell ⟨bb, 2, none⟩ (.int .i64 y.at_)).setCell ⟨bb, 3, none⟩ (.int .i64 y.co)).setCell ⟨bb, 4, none⟩ (.int .i64 y.lk)) = W5 := ⟨_, rfl⟩
              rw [hW5] at z4 hB5
              obtain ⟨r0, r1, r2, r3, r4⟩ : W5.cell? ⟨bb, 0, none⟩ = some (.string y.t) ∧ W5.cell? ⟨bb, 1, none⟩ = some (.int .i64 y.wd) ∧ W5.cell? ⟨bb, 2, none⟩ = some (.int .i64 y.at_) ∧ W5.cell? ⟨bb, 3, none⟩ = some (.int .i64 y.co) ∧ W5.cell? ⟨bb, 4, none⟩ = some (.int .i64 y.lk) := by
                refine ⟨?_, ?_, ?_, ?_, ?_⟩ <;> rw [cell_of_row _ _ _ _ _ _ z4] <;> rfl
              rw [hy] at HXX
              have hyb := HXX.out
              rw [hy] at HD
              obtain ⟨hf3, hk3, hi3, hfo, hms⟩ := HP3.out
              rw [HD.out] at hfo
              obtain ⟨_, _, _, _, hfa⟩ := id (hf3.below hB5)
              obtain ⟨q0, q1, q2, q3, q4⟩ := bx_cellsP hfa.blk
              have hn1 := hi3.nn
              have hn2 := hi3.le
              have HF5 := Lib.hid (hf3.below hB5)
              have HK5 := Lib.hid (hk3.trans (Kp.of hB5 hf3.lt))
              have HI3 := Lib.hid hi3
              have HFO := Lib.hid hfo
              have HMS := Lib.hid hms
              obtain ⟨t, ht⟩ : ∃ t, wid s3.line = t := ⟨_, rfl⟩
              have HT := Lib.hid ht
              rw [ht] at q3 hn1 hn2
              have y1 := hyb.1.1
              have y2 := hyb.1.2
              have y3 := hyb.2
              have y0 : 0 ≤ y.wd := by omega
              have sw : IntKind.i64.wrap (t + y.wd) = t + y.wd := IntWalk.i64_in _ (by omega)
              have HJL := Lib.hid hjl
              clear hx2 z0 z1 z2 z3 z4 hb2 hB5 hf3 hk3 hi3 hfo hms hfa ht hy hyb hbb hjl hkl c0 c1 c2 c3 c4
              unfold glV
              by_cases hov : wide < t + y.wd
              · have hovd : decide (wide < t + y.wd) = true := decide_eq_true hov
                go_wp2_with fail
                try simp only [hW5]
                go_quiet (fail)
                have HMX := Lib.hid (show meas s3 = s3.out.length + 1 by
                  have : s3.line ≠ [] := fun e => by have := HT.out; rw [e] at this; simp only [wid] at this; omega
                  unfold meas; rw [if_neg this])
                have HE := Lib.hid (end_pro (W5.drewN nq) (HF5.out.below (dn_below (Below.refl _ _) nq)) (by have := HMS.out; have := out_le s3; have := HJL.out; omega))
                have hcne : cap' ≠ k := by omega
                have hkc : k ≤ cap' := by omega
                have hkn : k ≤ n' := by omega
                have hkci : (k : Int) ≤ cap' := by omega
                have hkni : (k : Int) ≤ n' := by omega
                clear p0 p1 p2 p3 p4 f0 f1 f2 f3 f4 r0 r1 r2 r3 r4 q0 q1 q2 q3 q4 sw
                have HOV := Lib.hid hov
                clear hov hovd
                go_wp2_with fail
                refine HE.out.mono ?_
                rintro e w6 ⟨rfl, hf6, hk6⟩
                have HK6 := Lib.hid ((HK5.out.trans (Kp.of (dn_below (Below.refl _ _) nq) HF5.out.lt)).trans hk6)
                have HF6 := Lib.hid hf6
                clear hf6 hk6
                go_wp2_with fail
                go_roundw
                case measure =>
                  have h1 := fl_int HF6.out
                  have h2 := HMO.out
                  have h3 := HT.out
                  have h4 := HOV.out
                  have h5 := HK0.out
                  simp only [lenV]
                  rw [h1, h2]
                  simp only [endS, wid, if_true]
                  rcases Nat.eq_zero_or_pos k with h0 | h0
                  · rw [← h5 h0, h3, if_neg (by omega)]
                    omega
                  · split <;> omega
                case rel =>
                  refine ⟨j + k, n' - k, cap' - k, some ⟨b, off + k * 5, none⟩, endS s3, rfl, by have := HJ.out; omega, by omega, Lib.hid ?_, Lib.hid ⟨HF6.out, HK6.out, HI3.out.ended (by omega), ?_, ?_⟩⟩
                  · have h1 := HR2.out.drop k hkn
                    rw [List.drop_drop] at h1
                    exact h1.keep fun a ha _ => World.cell?_of_block (by rw [HK6.out.block _ (hP _ ha), HP2.out.2.1.block _ (hP _ ha)])
                  · rw [HD.out, List.foldl_cons, signS_end (by rw [HT.out]; exact HOV.out) y3]
                    exact HFO.out
                  · have := HMS.out
                    have := HMX.out
                    rw [meas_end]
                    omega
              · have hovd : decide (wide < t + y.wd) = false := decide_eq_false hov
                go_wp2_with fail
                try simp only [hW5]
                go_quiet (fail)
                have HE := Lib.hid (put_pro y (W5.drewN nq) (HF5.out.below (dn_below (Below.refl _ _) nq)) (by have := HI3.out.len; omega) (by rw [HT.out]; omega) (by rw [HT.out]; omega) (by omega))
                unfold glV at HE
                have HOV := Lib.hid hov
                clear hov hovd
                go_wp2_with fail
                refine HE.out.mono ?_
                rintro e w6 ⟨rfl, hf6, hk6⟩
                have HK6 := Lib.hid ((HK5.out.trans (Kp.of (dn_below (Below.refl _ _) nq) HF5.out.lt)).trans hk6)
                have HF6 := Lib.hid hf6
                clear hf6 hk6
                go_wp2_with fail
                go_roundw
                case measure => have := HLT.out; simp [intOf]; omega
                case rel =>
                  have hsg : signS wide s3 y = putS s3 y := by unfold signS; rw [if_neg (by rw [HT.out]; have := HOV.out; omega)]
                  refine ⟨k + 1, putS s3 y, rfl, by go_num, HLT.out, Lib.hid ⟨HF6.out, HK6.out, HI3.out.put ⟨y1, y2⟩ (by rw [HT.out]; have := HOV.out; omega), ?_, ?_⟩, Lib.hid (fun h => absurd h (by omega))⟩
                  · have h := HFO.out
                    rw [List.foldl_cons, hsg] at h
                    exact h
                  · have := HMS.out
                    have := out_le s3
                    have := HJL.out
                    rw [meas_put]
                    omega
            · obtain rfl : k = n' := by omega
              have hz1 : ¬ (k : Int) < k := by omega
              have hPE := HP3.out
              have hEnd : F = s3 := by
                have h := hPE.2.2.2.1
                rw [show l.drop (j + k) = [] from List.drop_eq_nil_of_le (by have := HJ.out; have := HN.out; omega)] at h
                exact h.symm
              have HEnd := Lib.hid hEnd
              clear hlt hEnd hPE
              go_wp2_with fail
              try rw [Exit.noGoto_ret]
              go_end0
              exact ⟨rfl, by rw [HFF.out, HEnd.out]; exact HP3.out.1, HP3.out.2.1⟩
  · have HRM := Lib.hid (show s = s1 by rw [← HS1.out]; unfold roomS; rw [if_neg (by rw [HU.out, HZ.out, HY.out]; exact hroom)])
    have hroomd : decide (wide < u + z + y) = false := decide_eq_false hroom
    clear hS0
    go_enter Tryz.func148, Tryz.ntmps148
    go_wp2_with fail
    go_step3
    go_wp2_with fail
    go_region_held3 (fun w' => w'.cell? ⟨g, 0, none⟩ = some (.int .i64 wide) ∧ w'.cell? ⟨g, 3, none⟩ = some (.int .i64 u) ∧ w'.cell? ⟨g, 4, none⟩ = some vw ∧ Below w.heap.size w w')
      (first | exact HS0.out | exact S3.next (by assumption) h8 | assumption)
      ((first
        | (go_at_call 152; refine (wide_pro s.wait vw _ (HF.out.wait.below ((by assumption : _ ∧ _ ∧ _ ∧ Below w.heap.size w _).2.2.2)) HW47.out HSW.out).mono ?_; rw [HZ.out]; rintro e w8 ⟨rfl, h8⟩)
        | (go_at_call 158; refine (wideOf_pro wide g l _ _ (HR.out.below ((by assumption : _ ∧ _ ∧ _ ∧ Below w.heap.size w _).2.2.2)) HL47.out HSF.out ((by assumption : _ ∧ _ ∧ _ ∧ Below w.heap.size w _).1)).mono ?_; rw [HY.out]; rintro e w9 ⟨rfl, h8⟩)))
    have h9 : Below w.heap.size w w9 := (by assumption : _ ∧ _ ∧ _ ∧ Below w.heap.size w w9).2.2.2
    have HK9 := Lib.hid (Kp.of h9 (fun c hc => (HF.out.apart c hc).1))
    have HF9 := Lib.hid (HF.out.below h9)
    clear h9
    have HFW := Lib.hid (show Fl true B g wide K s1 w9 by have h := HF9.out; rw [HRM.out] at h; exact ⟨_, _, _, _, h⟩)
    have HKW := HK9
    obtain ⟨W, hW⟩ : ∃ W : World, w9 = W := ⟨_, rfl⟩
    rw [hW] at HFW HKW ⊢
    have HWW := Lib.hid hW
    clear HF9 hW HK9
    obtain ⟨vo1, vl1, vw1, vs1, hF1⟩ := HFW.out
    obtain ⟨pw, cw, rfl, hwc1, hwc2⟩ := hF1.wait.form
    obtain ⟨q0, q1, q2, q3, q4⟩ := bx_cellsP hF1.blk
    obtain ⟨m, hm⟩ : ∃ m, s1.wait.length = m := ⟨_, rfl⟩
    rw [hm] at q4 hwc1
    have HMW := Lib.hid hm
    have m1 : m ≤ 1 := by rw [← hm]; exact HI1.out.wl
    have m62 : m ≤ 9223372036854775807 := by omega
    obtain ⟨K1, hK1⟩ : ∃ K1 : Nat → Prop, (fun c => K c ∨ (c < W.heap.size ∧ Told B g vo1 vl1 c)) = K1 := ⟨_, rfl⟩
    have HKK := Lib.hid (show ∀ c, K c → K1 c by rw [← hK1]; exact fun c hc => .inl hc)
    have hF1w := hF1.wider
    have hwk := hF1.waitK
    rw [hK1] at hF1w hwk
    rw [hm] at hwk
    have HWK := Lib.hid hwk
    have HFS := Lib.hid (show Fl true B g wide K1 ⟨s1.out, s1.line ++ s1.wait.take 0, s1.wait⟩ W by rw [List.take_zero, List.append_nil]; exact ⟨_, _, _, _, hF1w⟩)
    have HKL1 := Lib.hid (fun c (hc : K1 c) => (hF1w.apart c hc).1)
    clear hF1 hF1w hwk hwc1 hwc2 hm hK1
    go_wp2_with fail
    go_loopw [34] (fun i wr => ∃ k : Nat, i = .int .i64 k ∧ k ≤ m ∧ Hid (Fl true B g wide K1 ⟨s1.out, s1.line ++ s1.wait.take k, s1.wait⟩ wr) ∧ Hid (Kp K1 W wr)) (fun i _ => m - (intOf i).toNat)
    case atStart => exact ⟨0, rfl, Nat.zero_le _, HFS, Lib.hid (Kp.refl _ _)⟩
    case round =>
      obtain ⟨k, rfl, hk, HFr, HKr⟩ := hrel
      by_cases hlt : k < m
      · have hkl : k < s1.wait.length := by rw [HMW.out]; exact hlt
        obtain ⟨b, off, rfl, hb, hc⟩ := (HWK.out.keep (fun a ha _ => World.cell?_of_block (HKr.out.block _ ha))).at_ hkl
        have hx1 := HI1.out.ww _ (List.getElem_mem hkl)
        have hln : (s1.line ++ s1.wait.take k).length ≤ 100000 := by
          rw [List.length_append, List.length_take]
          have := HI1.out.len
          omega
        have hwn : 0 ≤ wid (s1.line ++ s1.wait.take k) ∧ wid (s1.line ++ s1.wait.take k) ≤ 100000 := by
          rw [wid_app]
          have := HI1.out.le
          have := HI1.out.nn
          have := wid_small (l := s1.wait.take k) fun g hg => small_wait HI1.out g (List.mem_of_mem_take hg)
          have : (s1.wait.take k).length ≤ k := List.length_take_le _ _
          omega
        have hT := Lib.hid (show s1.wait.take (k + 1) = s1.wait.take k ++ [s1.wait[k]] from List.take_succ_eq_append_getElem hkl)
        obtain ⟨x, hx⟩ : ∃ x, s1.wait[k] = x := ⟨_, rfl⟩
        rw [hx] at hc hx1 hT
        obtain ⟨c0, c1, c2, c3, c4⟩ := hc
        have HP := Lib.hid (put_pro x _ (HFr.out.below (below_box wr (boxG x))) hln hwn.1 hwn.2 (by omega))
        have HKA := Lib.hid (HKr.out.trans (Kp.of (below_box wr (boxG x)) HFr.out.lt))
        unfold boxG glV at HP
        unfold boxG at HKA
        have k1 : (k : Int) < m := by omega
        have HLT := Lib.hid hlt
        clear hx hlt hln hwn hx1
        go_wp2_with fail
        refine HP.out.mono ?_
        rintro e w3 ⟨rfl, hf, hk3⟩
        have HF3 := Lib.hid (show Fl true B g wide K1 ⟨s1.out, s1.line ++ s1.wait.take (k + 1), s1.wait⟩ w3 by
          rw [hT.out, ← List.append_assoc]; exact hf)
        have HK3 := Lib.hid (HKA.out.trans hk3)
        clear hf hk3
        go_wp2_with fail
        go_roundw
        case measure => have := HLT.out; simp [intOf]; omega
        case rel => exact ⟨k + 1, by go_num, HLT.out, HF3, HK3⟩
      · obtain rfl : k = m := by omega
        have hz1 : ¬ (k : Int) < k := by omega
        have hF := HFr.out
        obtain ⟨vo2, vl2, vw2, vs2, hF⟩ := hF
        rw [show s1.wait.take k = s1.wait by rw [← HMW.out, List.take_length]] at hF
        have f4 := bx_frozen hF.blk 4
        obtain ⟨q0, q1, q2, q3, q4⟩ := bx_cellsP hF.blk
        have hg4 := heap_setCell_same wr g 4 _ _ (.slice none 0 0) hF.blk
        have hFu := hF.unwait (i := 4) hg4
        have HFL := Lib.hid (show Fl true B g wide K (laidS s1) (wr.setCell ⟨g, 4, none⟩ (.slice none 0 0)) from ⟨_, _, _, _, hFu.less HKK.out⟩)
        have HKL := Lib.hid (HKW.out.trans ((HKr.out.mono HKK.out).set 4 (fun h => hF.notKg (HKK.out g h)) (.slice none 0 0)))
        obtain ⟨W5, hW5⟩ : ∃ W5, wr.setCell ⟨g, 4, none⟩ (.slice none 0 0) = W5 := ⟨_, rfl⟩
        rw [hW5] at HFL HKL
        obtain ⟨F, hFF⟩ : ∃ F, wordS wide s (fitL wide l) = F := ⟨_, rfl⟩
        have HPW := Lib.hid (show PwAt B g wide K l F w 0 (laidS s1) W5 from ⟨HFL.out, HKL.out, HIL.out, by rw [List.drop_zero, ← HWS.out, hFF], by rw [HML.out]; exact HLL.out⟩)
        have HRP := Lib.hid (show RdG P W5 (.slice pa n cap) (l.drop 0) from HR.out.keep fun a ha _ => World.cell?_of_block (HKL.out.block _ (hP _ ha)))
        have HFF := Lib.hid hFF
        clear hF hg4 hFu hlt HFL hFF
        go_wp2_with fail
        go_step3
        go_wp2_with fail
        go_loopw [1] (fun v wr => ∃ (j n' cap' : Nat) (p' : Option Addr) (s2 : Fs), v = .slice p' n' cap' ∧ n' + j = n ∧ n' ≤ cap' ∧ Hid (RdG P wr (.slice p' n' cap') (l.drop j)) ∧ Hid (PwAt B g wide K l F w j s2 wr)) (fun v wr => 2 * lenV v + (if intAt wr ⟨g, 3, none⟩ = 0 then 0 else 1))
        case atStart => exact ⟨0, n, cap, pa, _, rfl, rfl, (by have h := HRP.out.form; obtain ⟨_, _, e, h1, _⟩ := h; cases e; rw [List.drop_zero, HN.out] at h1; exact h1), HRP, HPW⟩
        case round =>
          obtain ⟨wo, rfl⟩ : ∃ wo : World, wo = wr := ⟨_, rfl⟩
          obtain ⟨j, n', cap', p', s2, rfl, hj, hc', HR2, HP2⟩ := hrel
          have HJ := Lib.hid hj
          have n62 : n' ≤ 9223372036854775807 := by have := HL47.out; have := HN.out; omega
          have hdl : (l.drop j).length = n' := by rw [List.length_drop]; have := HN.out; omega
          have HDL := Lib.hid hdl
          have HMO := Lib.hid (fl_int HP2.out.1)
          clear hj hdl
          go_wp2_with fail
          go_loopw [1, 47] (fun v i wi => ∃ (k : Nat) (s3 : Fs), v = .slice p' n' cap' ∧ i = .int .i64 k ∧ k ≤ n' ∧ Hid (PwAt B g wide K l F w (j + k) s3 wi) ∧ Hid (k = 0 → s3 = s2)) (fun _ i _ => n' - (intOf i).toNat)
          case atStart => exact ⟨0, s2, rfl, rfl, Nat.zero_le _, HP2, Lib.hid (fun _ => rfl)⟩
          case round =>
            obtain ⟨k, s3, rfl, rfl, hk, HP3, HK0⟩ := hrel
            by_cases hlt : k < n'
            · have hkl : k < (l.drop j).length := by rw [HDL.out]; exact hlt
              have hjl : j + k < l.length := by rw [List.length_drop] at hkl; omega
              have hrw : RdG P wr (.slice p' n' cap') (l.drop j) := by
                have h1 : RdG P w (.slice pa n cap) l := HR.out
                exact HR2.out.keep fun a ha _ => World.cell?_of_block (by rw [HP3.out.2.1.block _ (hP _ ha), HP2.out.2.1.block _ (hP _ ha)])
              obtain ⟨b, off, rfl, hb, hc⟩ := hrw.at_ hkl
              have hx := HX.out _ (List.getElem_mem hjl)
              have hD := fitL_drop wide l (j + k) hjl
              have ex : (l.drop j)[k] = l[j + k] := List.getElem_drop
              obtain ⟨x, hxx⟩ : ∃ x, l[j + k] = x := ⟨_, rfl⟩
              rw [ex, hxx] at hc
              rw [hxx] at hx hD
              obtain ⟨c0, c1, c2, c3, c4⟩ := hc
              have HRW := Lib.hid hrw
              have HXX := Lib.hid hx
              have HD := Lib.hid hD
              have k1 : (k : Int) < n' := by omega
              have HLT := Lib.hid hlt
              obtain ⟨hf3, hk3, hi3, hfo, hms⟩ := HP3.out
              obtain ⟨_, _, _, _, hfa⟩ := id hf3
              have HFT := Lib.hid (fitting_pro wide g x (wr.alloc (boxG x)) (bx_cellsP (hfa.below (below_box wr (boxG x))).blk).1)
              have HFM := Lib.hid (hf3.more (boxG x))
              have HKM := Lib.hid (hk3.trans (Kp.of (below_box wr (boxG x)) hf3.lt))
              have HXN := Lib.hid (heap_alloc_new wr (boxG x))
              obtain ⟨bb, hbb⟩ : ∃ bb, wr.heap.size = bb := ⟨_, rfl⟩
              rw [hbb] at HXN
              unfold boxG glV at HFT
              unfold boxG at HFM HKM HXN
              clear hrw hx hD ex hxx hlt hf3 hk3 hi3 hfo hms hfa
              go_wp2_with fail
              refine HFT.out.mono ?_
              unfold MakesG
              obtain ⟨y, hy⟩ : ∃ y, fitG wide x = y := ⟨_, rfl⟩
              rw [hy]
              rintro e w2 ⟨rfl, hb2⟩
              have HBB := Lib.hid hbb
              have hx2 := (hb2.block bb (by rw [← hbb]; simp)).trans HXN.out
              have z0 := heap_setCell_same w2 bb 0 _ _ (.string y.t) hx2
              have z1 := heap_setCell_same _ bb 1 _ _ (.int .i64 y.wd) z0
              have z2 := heap_setCell_same _ bb 2 _ _ (.int .i64 y.at_) z1
              have z3 := heap_setCell_same _ bb 3 _ _ (.int .i64 y.co) z2
              have z4 := heap_setCell_same _ bb 4 _ _ (.int .i64 y.lk) z3
              have hB5 : Below wr.heap.size wr (((((w2.setCell ⟨bb, 0, none⟩ (.string y.t)).setCell ⟨bb, 1, none⟩ (.int .i64 y.wd)).setCell ⟨bb, 2, none⟩ (.int .i64 y.at_)).setCell ⟨bb, 3, none⟩ (.int .i64 y.co)).setCell ⟨bb, 4, none⟩ (.int .i64 y.lk)) := by
                have h0 := (below_box wr (.cells #[.string x.t, .int .i64 x.wd, .int .i64 x.at_, .int .i64 x.co, .int .i64 x.lk] 44)).trans (hb2.mono (by simp))
                exact ((((h0.setCell (by simp [hbb]) _).setCell (by simp [hbb]) _).setCell (by simp [hbb]) _).setCell (by simp [hbb]) _).setCell (by simp [hbb]) _
              have p0 : w2.cell? ⟨bb, 0, none⟩ = some (.string x.t) := by rw [cell_of_row _ _ _ _ _ _ hx2]; rfl
              have p1 : w2.cell? ⟨bb, 1, none⟩ = some (.int .i64 x.wd) := by rw [cell_of_row _ _ _ _ _ _ hx2]; rfl
              have p2 : w2.cell? ⟨bb, 2, none⟩ = some (.int .i64 x.at_) := by rw [cell_of_row _ _ _ _ _ _ hx2]; rfl
              have p3 : w2.cell? ⟨bb, 3, none⟩ = some (.int .i64 x.co) := by rw [cell_of_row _ _ _ _ _ _ hx2]; rfl
              have p4 : w2.cell? ⟨bb, 4, none⟩ = some (.int .i64 x.lk) := by rw [cell_of_row _ _ _ _ _ _ hx2]; rfl
              have f0 := frozen_of_row w2 bb 0 _ _ hx2
              have f1 := frozen_of_row w2 bb 1 _ _ hx2
              have f2 := frozen_of_row w2 bb 2 _ _ hx2
              have f3 := frozen_of_row w2 bb 3 _ _ hx2
              have f4 := frozen_of_row w2 bb 4 _ _ hx2
              obtain ⟨W5, hW5⟩ : ∃ W5, (((((w2.setCell ⟨bb, 0, none⟩ (.string y.t)).setCell ⟨bb, 1, none⟩ (.int .i64 y.wd)).setCell ⟨bb, 2, none⟩ (.int .i64 y.at_)).setCell ⟨bb, 3, none⟩ (.int .i64 y.co)).setCell ⟨bb, 4, none⟩ (.int .i64 y.lk)) = W5 := ⟨_, rfl⟩
              rw [hW5] at z4 hB5
              obtain ⟨r0, r1, r2, r3, r4⟩ : W5.cell? ⟨bb, 0, none⟩ = some (.string y.t) ∧ W5.cell? ⟨bb, 1, none⟩ = some (.int .i64 y.wd) ∧ W5.cell? ⟨bb, 2, none⟩ = some (.int .i64 y.at_) ∧ W5.cell? ⟨bb, 3, none⟩ = some (.int .i64 y.co) ∧ W5.cell? ⟨bb, 4, none⟩ = some (.int .i64 y.lk) := by
                refine ⟨?_, ?_, ?_, ?_, ?_⟩ <;> rw [cell_of_row _ _ _ _ _ _ z4] <;> rfl
              rw [hy] at HXX
              have hyb := HXX.out
              rw [hy] at HD
              obtain ⟨hf3, hk3, hi3, hfo, hms⟩ := HP3.out
              rw [HD.out] at hfo
              obtain ⟨_, _, _, _, hfa⟩ := id (hf3.below hB5)
              obtain ⟨q0, q1, q2, q3, q4⟩ := bx_cellsP hfa.blk
              have hn1 := hi3.nn
              have hn2 := hi3.le
              have HF5 := Lib.hid (hf3.below hB5)
              have HK5 := Lib.hid (hk3.trans (Kp.of hB5 hf3.lt))
              have HI3 := Lib.hid hi3
              have HFO := Lib.hid hfo
              have HMS := Lib.hid hms
              obtain ⟨t, ht⟩ : ∃ t, wid s3.line = t := ⟨_, rfl⟩
              have HT := Lib.hid ht
              rw [ht] at q3 hn1 hn2
              have y1 := hyb.1.1
              have y2 := hyb.1.2
              have y3 := hyb.2
              have y0 : 0 ≤ y.wd := by omega
              have sw : IntKind.i64.wrap (t + y.wd) = t + y.wd := IntWalk.i64_in _ (by omega)
              have HJL := Lib.hid hjl
              clear hx2 z0 z1 z2 z3 z4 hb2 hB5 hf3 hk3 hi3 hfo hms hfa ht hy hyb hbb hjl hkl c0 c1 c2 c3 c4
              unfold glV
              by_cases hov : wide < t + y.wd
              · have hovd : decide (wide < t + y.wd) = true := decide_eq_true hov
                go_wp2_with fail
                try simp only [hW5]
                go_quiet (fail)
                have HMX := Lib.hid (show meas s3 = s3.out.length + 1 by
                  have : s3.line ≠ [] := fun e => by have := HT.out; rw [e] at this; simp only [wid] at this; omega
                  unfold meas; rw [if_neg this])
                have HE := Lib.hid (end_pro (W5.drewN nq) (HF5.out.below (dn_below (Below.refl _ _) nq)) (by have := HMS.out; have := out_le s3; have := HJL.out; omega))
                have hcne : cap' ≠ k := by omega
                have hkc : k ≤ cap' := by omega
                have hkn : k ≤ n' := by omega
                have hkci : (k : Int) ≤ cap' := by omega
                have hkni : (k : Int) ≤ n' := by omega
                clear p0 p1 p2 p3 p4 f0 f1 f2 f3 f4 r0 r1 r2 r3 r4 q0 q1 q2 q3 q4 sw
                have HOV := Lib.hid hov
                clear hov hovd
                go_wp2_with fail
                refine HE.out.mono ?_
                rintro e w6 ⟨rfl, hf6, hk6⟩
                have HK6 := Lib.hid ((HK5.out.trans (Kp.of (dn_below (Below.refl _ _) nq) HF5.out.lt)).trans hk6)
                have HF6 := Lib.hid hf6
                clear hf6 hk6
                go_wp2_with fail
                go_roundw
                case measure =>
                  have h1 := fl_int HF6.out
                  have h2 := HMO.out
                  have h3 := HT.out
                  have h4 := HOV.out
                  have h5 := HK0.out
                  simp only [lenV]
                  rw [h1, h2]
                  simp only [endS, wid, if_true]
                  rcases Nat.eq_zero_or_pos k with h0 | h0
                  · rw [← h5 h0, h3, if_neg (by omega)]
                    omega
                  · split <;> omega
                case rel =>
                  refine ⟨j + k, n' - k, cap' - k, some ⟨b, off + k * 5, none⟩, endS s3, rfl, by have := HJ.out; omega, by omega, Lib.hid ?_, Lib.hid ⟨HF6.out, HK6.out, HI3.out.ended (by omega), ?_, ?_⟩⟩
                  · have h1 := HR2.out.drop k hkn
                    rw [List.drop_drop] at h1
                    exact h1.keep fun a ha _ => World.cell?_of_block (by rw [HK6.out.block _ (hP _ ha), HP2.out.2.1.block _ (hP _ ha)])
                  · rw [HD.out, List.foldl_cons, signS_end (by rw [HT.out]; exact HOV.out) y3]
                    exact HFO.out
                  · have := HMS.out
                    have := HMX.out
                    rw [meas_end]
                    omega
              · have hovd : decide (wide < t + y.wd) = false := decide_eq_false hov
                go_wp2_with fail
                try simp only [hW5]
                go_quiet (fail)
                have HE := Lib.hid (put_pro y (W5.drewN nq) (HF5.out.below (dn_below (Below.refl _ _) nq)) (by have := HI3.out.len; omega) (by rw [HT.out]; omega) (by rw [HT.out]; omega) (by omega))
                unfold glV at HE
                have HOV := Lib.hid hov
                clear hov hovd
                go_wp2_with fail
                refine HE.out.mono ?_
                rintro e w6 ⟨rfl, hf6, hk6⟩
                have HK6 := Lib.hid ((HK5.out.trans (Kp.of (dn_below (Below.refl _ _) nq) HF5.out.lt)).trans hk6)
                have HF6 := Lib.hid hf6
                clear hf6 hk6
                go_wp2_with fail
                go_roundw
                case measure => have := HLT.out; simp [intOf]; omega
                case rel =>
                  have hsg : signS wide s3 y = putS s3 y := by unfold signS; rw [if_neg (by rw [HT.out]; have := HOV.out; omega)]
                  refine ⟨k + 1, putS s3 y, rfl, by go_num, HLT.out, Lib.hid ⟨HF6.out, HK6.out, HI3.out.put ⟨y1, y2⟩ (by rw [HT.out]; have := HOV.out; omega), ?_, ?_⟩, Lib.hid (fun h => absurd h (by omega))⟩
                  · have h := HFO.out
                    rw [List.foldl_cons, hsg] at h
                    exact h
                  · have := HMS.out
                    have := out_le s3
                    have := HJL.out
                    rw [meas_put]
                    omega
            · obtain rfl : k = n' := by omega
              have hz1 : ¬ (k : Int) < k := by omega
              have hPE := HP3.out
              have hEnd : F = s3 := by
                have h := hPE.2.2.2.1
                rw [show l.drop (j + k) = [] from List.drop_eq_nil_of_le (by have := HJ.out; have := HN.out; omega)] at h
                exact h.symm
              have HEnd := Lib.hid hEnd
              clear hlt hEnd hPE
              go_wp2_with fail
              try rw [Exit.noGoto_ret]
              go_end0
              exact ⟨rfl, by rw [HFF.out, HEnd.out]; exact HP3.out.1, HP3.out.2.1⟩
end Go.Proofs.YtjohhahfpgfjdaaGreatDoor.Tb
end
