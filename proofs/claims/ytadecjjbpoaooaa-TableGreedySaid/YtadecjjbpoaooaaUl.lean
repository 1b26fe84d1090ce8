/- Layer 12: the program's Fill. -/
import Derived.Test.YtadecjjbpoaooaaUk
namespace Go.Proofs.Ytadecjjbpoaooaa.Tb
open Go.RowKit Go.Maps
set_option linter.unusedVariables false
set_option linter.unusedSimpArgs false
/-- What Fill answers: the lines, in new memory, and the error's number. -/
def FillPost (wide : Int) (l : List Gl) (w : World) (e : Ending) (w' : World) : Prop := ∃ v, e = .returned (.tuple #[v, .int .i64 (fillE wide l)]) ∧ RdL (w.heap.size ≤ ·) w' v (fillL wide l) ∧ Below w.heap.size w w'
/-- A filling that nothing has come to. -/
theorem Fl.start (d : Bool) (w : World) (wide : Int) {B : Nat} (hB : B ≤ w.heap.size) : Fl d B w.heap.size wide (fun c => c < w.heap.size) fs0 (w.alloc (bx d wide (.slice none 0 0) (.slice none 0 0) 0 (.slice none 0 0))) := by
  refine ⟨_, _, _, [], hB, heap_alloc_new w _, World.ownsRow_nil _ _ _ _, OwnL.nil _ _ _, RdG.nil _ 0 (by unfold maxLen; omega) _, fun c hc => ⟨by simp; omega, by omega, (fun e => by simp [Value.ownBlock] at e), (fun e => by simp [Value.ownBlock] at e)⟩⟩
/-- The lines that were told. -/
theorem Fl.told {d : Bool} {B g : Nat} {wide : Int} {K : Nat → Prop} {s : Fs} {W : World} (h : Fl d B g wide K s W) : ∃ vo vl vw, W.heap[g]? = some (bx d wide vo vl (wid s.line) vw) ∧ RdL (B ≤ ·) W vo s.out := by
  obtain ⟨vo, vl, vw, vs, h⟩ := h
  exact ⟨vo, vl, vw, h.blk, h.out.rd (fun b hb _ => hb) (fun b _ hT => hT.1)⟩
/-- A flow of which the first j have been taken. -/
def FlowAt (d : Bool) (B g : Nat) (wide : Int) (l : List Gl) (F : Fs) (w : World) (j : Nat) (s : Fs) (wr : World) : Prop :=
  Fl d B g wide (fun c => c < B) s wr ∧ Kp (fun c => c < B) w wr ∧ Inv wide s ∧ runF wide s (l.drop j) = F ∧ meas s ≤ j
set_option maxRecDepth 100000 in
set_option maxHeartbeats 4000000 in
theorem fill_pro {P : Nat → Prop} (wide : Int) (l : List Gl) (v : Value) (w : World) (hr : RdG P w v l) (hl : (l.length + 1) * 24 ≤ 140737488355328) :
    Calls Try.prog 11 #[v, .int .i64 wide] w (FillPost wide l w) := by
  obtain ⟨pa, cap, rfl, hc1, hc2⟩ := sliceG hr
  have HC := Lib.hid (contains_pro badG 30 enters_mayNot mayNot_pro l _ w hr)
  by_cases hw : 1 ≤ wide ∧ wide ≤ 200
  · have hwi : within wide 1 200 = true := decide_eq_true hw
    have HWI := Lib.hid (within_pro wide 1 200 w)
    rw [hwi] at HWI
    have hw1 := hw.1
    have hw2 := hw.2
    cases hb : l.any badG with
    | true =>
      have HE := Lib.hid (show fillE wide l = 120 ∧ fillL wide l = [] by
        have : fillE wide l = 120 := by unfold fillE; rw [if_neg (by omega), hb]; rfl
        exact ⟨this, by unfold fillL; rw [this]; rfl⟩)
      rw [hb] at HC
      clear hr hl hw hwi hb
      go_enter Try.func11, Try.ntmps11
      go_wp2_with fail
      refine HWI.out.mono ?_
      rintro e w1 ⟨rfl, rfl⟩
      go_wp2_with fail
      refine HC.out.mono ?_
      rintro e w2 ⟨rfl, hb2⟩
      have HB2 := Lib.hid hb2
      clear hb2
      go_wp2_with fail
      go_ret2
      exact ⟨.slice none 0 0, by rw [HE.out.1]; rfl, by rw [HE.out.2]; exact ⟨none, 0, rfl, Nat.le_refl _, Nat.zero_le _, fun j hj => absurd hj (by simp)⟩, HB2.out⟩
    | false =>
      have hE : fillE wide l = 0 := by unfold fillE; rw [if_neg (by omega), hb]; rfl
      have HE := Lib.hid (show fillE wide l = 0 ∧ fillL wide l = fillM wide l from ⟨hE, by unfold fillL; rw [hE]; rfl⟩)
      have HBD := Lib.hid (show ∀ y ∈ l, badG y = false from fun y hy => by
        cases h : badG y
        · rfl
        · rw [List.any_eq_true.2 ⟨y, hy, h⟩] at hb; cases hb)
      rw [hb] at HC
      have HR := Lib.hid (hr.imp (Q := fun b => b < w.heap.size) fun b hb _ => hb)
      have HLL := Lib.hid hl
      obtain ⟨F, hF⟩ : ∃ F, runF wide fs0 l = F := ⟨_, rfl⟩
      have HFF := Lib.hid hF
      obtain ⟨n, hn⟩ : ∃ n, l.length = n := ⟨_, rfl⟩
      have HN := Lib.hid hn
      rw [hn] at HC HR hc1 ⊢
      clear hr hl hw hwi hb hE hF hn
      go_enter Try.func11, Try.ntmps11
      go_wp2_with fail
      refine HWI.out.mono ?_
      rintro e w1 ⟨rfl, rfl⟩
      go_wp2_with fail
      refine HC.out.mono ?_
      rintro e w2 ⟨rfl, hb2⟩
      have hB2 := below_box w2 (bx true wide (.slice none 0 0) (.slice none 0 0) 0 (.slice none 0 0))
      have hst := Fl.start true w2 wide (B := w.heap.size) hb2.size
      have HB2 := Lib.hid hb2
      have HFA := Lib.hid (show FlowAt true w.heap.size w2.heap.size wide l F w 0 fs0 (w2.alloc (bx true wide (.slice none 0 0) (.slice none 0 0) 0 (.slice none 0 0))) from ⟨hst.less fun c hc => Nat.lt_of_lt_of_le hc hb2.size, (Kp.of (hb2.trans (hB2.mono hb2.size)) fun c hc => hc), inv0 (by omega), by rw [List.drop_zero]; exact HFF.out, by rw [meas0]; omega⟩)
      have HR2 := Lib.hid (HR.out.below (hb2.trans (hB2.mono hb2.size)))
      unfold bx at HFA HR2
      obtain ⟨g, hg⟩ : ∃ g, w2.heap.size = g := ⟨_, rfl⟩
      rw [hg] at HFA
      have HG := Lib.hid hg
      clear hb2 hB2 hst
      go_wp2_with fail
      go_loopw [0] (fun v wr => ∃ (j n' cap' : Nat) (p' : Option Addr) (s2 : Fs), v = .slice p' n' cap' ∧ n' + j = n ∧ n' ≤ cap' ∧ Hid (RdG (fun b => b < w.heap.size) wr (.slice p' n' cap') (l.drop j)) ∧ Hid (FlowAt true w.heap.size g wide l F w j s2 wr)) (fun v _ => lenV v)
      case atStart => exact ⟨0, n, cap, pa, _, rfl, rfl, hc1, HR2, HFA⟩
      case round =>
        obtain ⟨j, n', cap', p', s2, rfl, hj, hc', HR3, HF3⟩ := hrel
        have HJ := Lib.hid hj
        by_cases hlt : 0 < n'
        · have hjl : j < l.length := by have := HN.out; omega
          have hd : l.drop j = l[j] :: l.drop (j + 1) := List.drop_eq_getElem_cons hjl
          have hr3 := HR3.out
          rw [hd] at hr3
          obtain ⟨b, off, rfl, _, _⟩ := hr3.at_ (j := 0) (by rw [List.length_cons]; omega)
          obtain ⟨hfl, hkp, hinv, hrun, hme⟩ := HF3.out
          rw [hd, runF_took, ← hd, List.drop_drop] at hrun
          have hbd : ∀ y ∈ l[j] :: l.drop (j + 1), badG y = false := fun y hy => HBD.out y (by rw [← hd] at hy; exact List.mem_of_mem_drop hy)
          have hdl : (l.drop (j + 1)).length + 1 = n' := by rw [List.length_drop]; have := HN.out; omega
          have HT := Lib.hid (take_pro (l[j]) (l.drop (j + 1)) _ wr hfl hr3 (fun c hc => hc) hinv hw1 hw2 (by have := HLL.out; have := HN.out; rw [hdl]; omega) hbd)
          have hti := took_inv hinv (l[j]) (l.drop (j + 1)) hw1 hbd
          have htl := took_le (l[j]) (l.drop (j + 1))
          obtain ⟨k, hk⟩ : ∃ k, tookN (l[j]) (l.drop (j + 1)) = k := ⟨_, rfl⟩
          rw [hk] at HT hti htl hrun
          rw [hdl] at htl
          obtain ⟨s3, hs3⟩ : ∃ s3, tookS wide s2 (l[j]) (l.drop (j + 1)) = s3 := ⟨_, rfl⟩
          rw [hs3] at HT hti hrun
          have HRU := Lib.hid hrun
          have HTI := Lib.hid hti
          have HKP := Lib.hid hkp
          have HME := Lib.hid hme
          have k0 : 0 < k := htl.1
          have k2 : k ≤ n' := htl.2
          have k3 : k ≤ cap' := by omega
          have k2i : (k : Int) ≤ n' := by omega
          have k3i : (k : Int) ≤ cap' := by omega
          have hlti : (0 : Int) < n' := by omega
          have HLT := Lib.hid hlt
          clear hd hr3 hfl hkp hinv hrun hme hbd hdl hti htl hk hs3 hj hlt
          go_wp2_with fail
          refine HT.out.mono ?_
          rintro e w4 ⟨rfl, hf4, hk4⟩
          have HF4 := Lib.hid hf4
          have HK4 := Lib.hid (HKP.out.trans hk4)
          have HR4 := Lib.hid (HR3.out.keep fun a ha _ => World.cell?_of_block (hk4.block _ ha))
          clear hf4 hk4
          by_cases hck : cap' = k
          · have hn : n' = k := by omega
            have HNK := Lib.hid hn
            subst hck
            go_wp2_with fail
            go_roundw
            case measure => have := HLT.out; simp only [lenV]; omega
            case rel =>
              have e : l.drop (j + cap') = [] := List.drop_eq_nil_of_le (by have := HJ.out; have := HN.out; have := HNK.out; omega)
              refine ⟨j + cap', 0, 0, some ⟨b, off, none⟩, s3, rfl, by have := HJ.out; have := HNK.out; omega, by omega, Lib.hid ?_, Lib.hid ⟨HF4.out, HK4.out, HTI.out.1, HRU.out, by have := HTI.out.2; have := HME.out; omega⟩⟩
              rw [e]
              exact RdG.nil _ _ (by unfold maxLen; omega) _
          · have hckn : ¬ cap' = k := hck
            go_wp2_with fail
            go_roundw
            case measure => have := HLT.out; simp only [lenV]; omega
            case rel =>
              refine ⟨j + k, n' - k, cap' - k, some ⟨b, off + k * 5, none⟩, s3, rfl, by have := HJ.out; omega, by omega, Lib.hid ?_, Lib.hid ⟨HF4.out, HK4.out, HTI.out.1, HRU.out, by have := HTI.out.2; have := HME.out; omega⟩⟩
              have := HR4.out.drop k k2
              rw [List.drop_drop] at this
              exact this
        · obtain rfl : n' = 0 := by omega
          obtain ⟨hfl, hkp, hinv, hrun, hme⟩ := HF3.out
          have e : l.drop j = [] := List.drop_eq_nil_of_le (by have := HN.out; omega)
          rw [e, runF_nil] at hrun
          have HE2 := Lib.hid (endUsed_pro wr hfl (by have := HLL.out; have := HN.out; have := out_le s2; omega) (by have := hinv.len; omega))
          have HRU := Lib.hid hrun
          have HKP := Lib.hid hkp
          clear hfl hkp hinv hrun hme e hj hlt
          go_wp2_with fail
          refine HE2.out.mono ?_
          rintro e w4 ⟨rfl, hf4, hk4⟩
          obtain ⟨vo, vl, vw, hblk, hout⟩ := hf4.told
          obtain ⟨q0, q1, q2, q3, q4⟩ := bx_cellsP hblk
          have HO := Lib.hid hout
          have HK4 := Lib.hid (HKP.out.trans hk4)
          clear hf4 hk4 hblk hout
          go_wp2_with fail
          go_ret2
          exact ⟨vo, by rw [HE.out.1]; rfl, by rw [HE.out.2, fillM_eq, HFF.out, ← HRU.out]; exact HO.out, HK4.out.below fun c hc => hc⟩
  · have hwi : within wide 1 200 = false := decide_eq_false hw
    have HWI := Lib.hid (within_pro wide 1 200 w)
    rw [hwi] at HWI
    have HE := Lib.hid (show fillE wide l = 1 ∧ fillL wide l = [] by
      have : fillE wide l = 1 := by unfold fillE; rw [if_pos (by omega)]
      exact ⟨this, by unfold fillL; rw [this]; rfl⟩)
    clear hr hl hw hwi HC
    go_enter Try.func11, Try.ntmps11
    go_wp2_with fail
    refine HWI.out.mono ?_
    rintro e w1 ⟨rfl, rfl⟩
    go_wp2_with fail
    go_ret2
    exact ⟨.slice none 0 0, by rw [HE.out.1]; rfl, by rw [HE.out.2]; exact ⟨none, 0, rfl, Nat.le_refl _, Nat.zero_le _, fun j hj => absurd hj (by simp)⟩, Below.refl _ _⟩
end Go.Proofs.Ytadecjjbpoaooaa.Tb
