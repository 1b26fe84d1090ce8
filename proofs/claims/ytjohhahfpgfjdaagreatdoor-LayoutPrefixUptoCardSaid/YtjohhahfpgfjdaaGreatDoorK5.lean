/- The texts that the laws of layout stand on, part 5. -/
import Derived.Test.YtjohhahfpgfjdaaGreatDoorK2
import Derived.Test.YtjohhahfpgfjdaaGreatDoorK4
import Derived.Deep.RegionLaw
import Derived.Deep.CutRange
import Derived.Laws.MakeOwn
import Derived.Lib.AppendZerosOnto
import Derived.Laws.CopyRow
import Derived.Laws.CopyOwn
section
namespace Go.Proofs.YtjohhahfpgfjdaaGreatDoor.Tb
open Go.RowKit Go.Maps
set_option linter.unusedVariables false
set_option linter.unusedSimpArgs false
/-- How many glyphs are taken, and what is so behind it. -/
def tookN (x : Gl) (l : List Gl) : Nat := if sgn x then (firstW (x :: l)).length else 1
def tookS (wide : Int) (s : Fs) (x : Gl) (l : List Gl) : Fs := if sgn x then wordS wide s (fitL wide (firstW (x :: l))) else stepS wide s x
theorem runF_took (wide : Int) (s : Fs) (x : Gl) (l : List Gl) : runF wide s (x :: l) = runF wide (tookS wide s x l) ((x :: l).drop (tookN x l)) := by
  unfold tookS tookN
  cases h : sgn x with
  | true => rw [if_pos rfl, if_pos rfl]; exact runF_word wide s x l h
  | false => simp only [Bool.false_eq_true, if_false]; exact runF_step wide s x l h
theorem took_le (x : Gl) (l : List Gl) : 1 ≤ tookN x l ∧ tookN x l ≤ l.length + 1 := by
  unfold tookN
  split
  · rename_i h
    exact ⟨firstW_pos h, firstW_le _⟩
  · omega
theorem fit_all {wide : Int} {l : List Gl} (h1 : 1 ≤ wide) (hb : ∀ y ∈ l, badG y = false) (hs : ∀ y ∈ l, sgn y = true) : ∀ x ∈ l, (1 ≤ (fitG wide x).wd ∧ (fitG wide x).wd ≤ 2) ∧ (fitG wide x).wd ≤ wide :=
  fun x hx => fit_ok h1 (hb x hx) (hs x hx)
theorem took_inv {wide : Int} {s : Fs} (h : Inv wide s) (x : Gl) (l : List Gl) (h1 : 1 ≤ wide) (hb : ∀ y ∈ x :: l, badG y = false) : Inv wide (tookS wide s x l) ∧ meas (tookS wide s x l) ≤ meas s + tookN x l := by
  unfold tookS tookN
  split
  · have := wordS_inv h (by omega) (w := fitL wide (firstW (x :: l))) (fun g hg => by
      obtain ⟨y, hy, rfl⟩ := List.mem_map.1 hg
      exact fit_ok h1 (hb y (firstW_sub _ y hy)) (firstW_all _ y hy))
    simpa [fitL] using this
  · exact stepS_inv h x (by omega)
def TakePost (B g : Nat) (wide : Int) (K : Nat → Prop) (s : Fs) (n : Nat) (w : World) (e : Ending) (w' : World) : Prop := e = .returned (.int .i64 n) ∧ Fl true B g wide K s w' ∧ Kp K w w'
set_option maxRecDepth 100000 in
set_option maxHeartbeats 4000000 in
theorem take_pro {P : Nat → Prop} {B g : Nat} {wide : Int} {K : Nat → Prop} {s : Fs} (x : Gl) (l : List Gl) (v : Value) (w : World) (h : Fl true B g wide K s w) (hr : RdG P w v (x :: l)) (hP : ∀ c, P c → K c) (hi : Inv wide s) (hw1 : 1 ≤ wide) (hw2 : wide ≤ 200)
    (hl : (meas s + (l.length + 1)) * 24 ≤ 140737488355328) (hb : ∀ y ∈ x :: l, badG y = false) :
    Calls Tryz.prog 118 #[.pointer (some ⟨g, 0, none⟩), v] w (TakePost B g wide K (tookS wide s x l) (tookN x l) w) := by
  obtain ⟨pa, cap, rfl, hc1, hc2⟩ := sliceG hr
  obtain ⟨b, off, rfl, hpb, hc⟩ := hr.at_ (j := 0) (by simp)
  rw [List.getElem_cons_zero, Nat.zero_mul, Nat.add_zero] at hc
  obtain ⟨c0, c1, c2, c3, c4⟩ := hc
  have hA := below_box w (boxG x)
  have hfl := h.below hA
  have hKA := Kp.of hA h.lt
  have HFW := Lib.hid hfl
  have HKA := Lib.hid hKA
  have HR := Lib.hid (hr.below hA)
  have HOL := Lib.hid (show (s.out.length + 1) * 24 ≤ 140737488355328 by have := out_le s; omega)
  have HLN := Lib.hid hi.len
  obtain ⟨n, hn⟩ : ∃ n, (x :: l).length = n := ⟨_, rfl⟩
  have HN := Lib.hid hn
  have hn0 : 0 < n := by rw [← hn]; simp
  have hn0i : (0 : Int) < n := by omega
  rw [hn] at HR ⊢
  have HI := Lib.hid hi
  have HLL := Lib.hid hl
  have HBD := Lib.hid hb
  obtain ⟨bb, hbb⟩ : ∃ bb, w.heap.size = bb := ⟨_, rfl⟩
  clear hc1 hn hA h hr hi hl hb hfl hKA
  cases h1 : isB x with
  | true =>
    have HS := Lib.hid (show tookS wide s x l = waitS s x ∧ tookN x l = 1 by simp [tookS, tookN, sgn, noS, h1, stepS])
    have HW := Lib.hid (wait_pro x _ HFW.out (by have := HLN.out; omega))
    unfold boxG glV at HW
    unfold isB at h1
    clear hbb
    go_enter Tryz.func118, Tryz.ntmps118
    go_wp2_with fail
    refine HW.out.mono ?_
    rintro e w2 ⟨rfl, hf, hk⟩
    have HF2 := Lib.hid hf
    have HK2 := Lib.hid (HKA.out.trans hk)
    clear hf hk
    go_wp2_with fail
    go_ret
    exact ⟨by rw [HS.out.2]; rfl, by rw [HS.out.1]; exact HF2.out, HK2.out⟩
  | false =>
    cases h2 : isT x with
    | true =>
      have hst : tookS wide s x l = tabS wide s x ∧ tookN x l = 1 := by simp [tookS, tookN, sgn, noS, h1, h2, stepS]
      obtain ⟨_, _, _, _, hfa⟩ := HFW.out
      obtain ⟨q0, q1, q2, q3, q4⟩ := bx_cellsP hfa.blk
      have hu1 := HI.out.nn
      have hu2 := HI.out.le
      have HSO := Lib.hid (show stopOf s = wid s.line / 8 * 8 + 8 from rfl)
      obtain ⟨u, hu⟩ : ∃ u, wid s.line = u := ⟨_, rfl⟩
      have HU := Lib.hid hu
      rw [hu] at q3 hu1 hu2 HSO
      unfold isB at h1
      unfold isT at h2
      have d1 : 0 ≤ u / 8 := by omega
      have d2 : u / 8 ≤ 25 := by omega
      unfold boxG at q0 q1 q2 q3 q4
      by_cases hlt : u / 8 * 8 + 8 < wide
      · have HS := Lib.hid (show tookS wide s x l = repS s (u / 8 * 8 + 8 - u).toNat (blank x) ∧ tookN x l = 1 by
          refine ⟨?_, hst.2⟩
          rw [hst.1]
          unfold tabS
          rw [if_pos (by rw [HSO.out]; exact hlt), HSO.out, hu]
          rfl)
        have HG := Lib.hid (goOn_pro x (u / 8 * 8 + 8) _ HFW.out (by have := HLN.out; omega) (by rw [hu]; exact hu1) (by rw [hu]; omega) (by omega))
        rw [hu] at HG
        unfold boxG glV at HG
        clear hst hfa hu hbb
        go_enter Tryz.func118, Tryz.ntmps118
        go_wp2_with fail
        refine HG.out.mono ?_
        rintro e w2 ⟨rfl, hf, hk⟩
        have HF2 := Lib.hid hf
        have HK2 := Lib.hid (HKA.out.trans hk)
        clear hf hk
        go_wp2_with fail
        go_ret
        exact ⟨by rw [HS.out.2]; rfl, by rw [HS.out.1]; exact HF2.out, HK2.out⟩
      · have HS := Lib.hid (show tookS wide s x l = endS s ∧ tookN x l = 1 by
          refine ⟨?_, hst.2⟩
          rw [hst.1]
          unfold tabS
          rw [if_neg (by rw [HSO.out]; exact hlt)])
        have HE := Lib.hid (end_pro _ HFW.out HOL.out)
        unfold boxG at HE
        clear hst hfa hu hbb
        go_enter Tryz.func118, Tryz.ntmps118
        go_wp2_with fail
        refine HE.out.mono ?_
        rintro e w2 ⟨rfl, hf, hk⟩
        have HF2 := Lib.hid hf
        have HK2 := Lib.hid (HKA.out.trans hk)
        clear hf hk
        go_wp2_with fail
        go_ret
        exact ⟨by rw [HS.out.2]; rfl, by rw [HS.out.1]; exact HF2.out, HK2.out⟩
    | false =>
      cases h3 : isN x with
      | true =>
        have HS := Lib.hid (show tookS wide s x l = endS s ∧ tookN x l = 1 by simp [tookS, tookN, sgn, noS, h1, h2, h3, stepS])
        have HE := Lib.hid (end_pro _ HFW.out HOL.out)
        unfold boxG at HE
        unfold isB at h1
        unfold isT at h2
        unfold isN at h3
        clear hbb
        go_enter Tryz.func118, Tryz.ntmps118
        go_wp2_with fail
        refine HE.out.mono ?_
        rintro e w2 ⟨rfl, hf, hk⟩
        have HF2 := Lib.hid hf
        have HK2 := Lib.hid (HKA.out.trans hk)
        clear hf hk
        go_wp2_with fail
        go_ret
        exact ⟨by rw [HS.out.2]; rfl, by rw [HS.out.1]; exact HF2.out, HK2.out⟩
      | false =>
        have hsg : sgn x = true := by simp [sgn, noS, h1, h2, h3]
        have HS := Lib.hid (show tookS wide s x l = wordS wide s (fitL wide (firstW (x :: l))) ∧ tookN x l = (firstW (x :: l)).length by simp [tookS, tookN, hsg])
        have HBG := Lib.hid (beginning_pro (x :: l) (some ⟨b, off, none⟩) cap _ (by rw [HN.out]; exact HR.out))
        rw [HN.out] at HBG
        have HRT := Lib.hid (HR.out.take (firstW (x :: l)).length (by rw [← HN.out]; exact firstW_le _))
        rw [firstW_pre] at HRT
        have hfp := firstW_pos (l := l) hsg
        have HFA := Lib.hid (fit_all hw1 (fun y hy => HBD.out y (firstW_sub _ y hy)) (firstW_all (x :: l)))
        have hfle := firstW_le (x :: l)
        have HL2 := Lib.hid (show (meas s + (firstW (x :: l)).length) * 24 ≤ 140737488355328 by have := HLL.out; simp at hfle; omega)
        obtain ⟨m, hm⟩ : ∃ m, (firstW (x :: l)).length = m := ⟨_, rfl⟩
        have HM := Lib.hid hm
        unfold boxG at HBG HRT HFW HKA
        unfold isB at h1
        unfold isT at h2
        unfold isN at h3
        clear hbb hfle hsg
        go_enter Tryz.func118, Tryz.ntmps118
        go_wp2_with fail
        refine HBG.out.mono ?_
        rintro e w2 ⟨rfl, hb2⟩
        have HP2 := Lib.hid (putWord_pro (firstW (x :: l)) _ w2 (HFW.out.below hb2) (HRT.out.below hb2) hP HI.out hw1 hw2 hfp HL2.out HFA.out)
        have HK2 := Lib.hid (HKA.out.trans (Kp.of hb2 HFW.out.lt))
        rw [hm] at HP2 ⊢
        clear hb2 hm hfp
        go_wp2_with fail
        refine HP2.out.mono ?_
        rintro e w3 ⟨rfl, hf, hk⟩
        have HF3 := Lib.hid hf
        have HK3 := Lib.hid (HK2.out.trans hk)
        clear hf hk
        go_wp2_with fail
        go_ret
        exact ⟨by rw [HS.out.2, HM.out]; rfl, by rw [HS.out.1]; exact HF3.out, HK3.out⟩
end Go.Proofs.YtjohhahfpgfjdaaGreatDoor.Tb
end
section
namespace Go.Proofs.YtjohhahfpgfjdaaGreatDoor.Tb
open Go.RowKit Go.Maps
set_option linter.unusedVariables false
set_option linter.unusedSimpArgs false
/-- What Fill answers: the lines, in new memory, and the error's number. -/
def FillPost (wide : Int) (l : List Gl) (w : World) (e : Ending) (w' : World) : Prop := ∃ v, e = .returned (.tuple #[v, .int .i64 (fillE wide l)]) ∧ RdL (w.heap.size ≤ ·) w' v (fillL wide l) ∧ Below w.heap.size w w'
/-- A filling that nothing has come to. -/
theorem Fl.start (d : Bool) (w : World) (wide : Int) {B : Nat} (hB : B ≤ w.heap.size) : Fl d B w.heap.size wide (fun c => c < w.heap.size) fs0 (w.alloc (bx d wide (.slice none 0 0) (.slice none 0 0) 0 (.slice none 0 0))) := by
  refine ⟨_, _, _, [], hB, heap_alloc_new w _, World.ownsRow_nil _ _ _ _, OwnL.nil _ _ _, RdG.nil _ 0 (by unfold maxLen; omega) _, fun c hc => ⟨by simp; omega, by omega, (fun e => by simp [Value.ownBlock] at e), (fun e => by simp [Value.ownBlock] at e)⟩⟩
/-- The lines that were told. -/
theorem Fl.told {d : Bool} {B g : Nat} {wide : Int} {K : Nat → Prop} {s : Fs} {W : World} (h : Fl d B g wide K s W) : ∃ vo vl vw, W.heap[g]? = some (bx d wide vo vl (wid s.line) vw) ∧ RdL (B ≤ ·) W vo s.out := by
  obtain ⟨vo, vl, vw, vs, h⟩ := h
  exact ⟨vo, vl, vw, h.blk, h.out.rd (fun b hb _ => hb) (fun b _ hT => hT.1)⟩
/-- A flow of which the first j have been taken. -/
def FlowAt (d : Bool) (B g : Nat) (wide : Int) (l : List Gl) (F : Fs) (w : World) (j : Nat) (s : Fs) (wr : World) : Prop :=
  Fl d B g wide (fun c => c < B) s wr ∧ Kp (fun c => c < B) w wr ∧ Inv wide s ∧ runF wide s (l.drop j) = F ∧ meas s ≤ j
set_option maxRecDepth 100000 in
set_option maxHeartbeats 4000000 in
theorem fill_pro {P : Nat → Prop} (wide : Int) (l : List Gl) (v : Value) (w : World) (hr : RdG P w v l) (hl : (l.length + 1) * 24 ≤ 140737488355328) :
    Calls Tryz.prog 92 #[v, .int .i64 wide] w (FillPost wide l w) := by
  obtain ⟨pa, cap, rfl, hc1, hc2⟩ := sliceG hr
  have HC := Lib.hid (contains_pro badG 117 enters_mayNot mayNot_pro l _ w hr)
  by_cases hw : 1 ≤ wide ∧ wide ≤ 200
  · have hwi : within wide 1 200 = true := decide_eq_true hw
    have HWI := Lib.hid (within_pro wide 1 200 w)
    rw [hwi] at HWI
    have hw1 := hw.1
    have hw2 := hw.2
    cases hb : l.any badG with
    | true =>
      have HE := Lib.hid (show fillE wide l = 120 ∧ fillL wide l = [] by
        have : fillE wide l = 120 := by unfold fillE; rw [if_neg (by omega), hb]; rfl
        exact ⟨this, by unfold fillL; rw [this]; rfl⟩)
      rw [hb] at HC
      clear hr hl hw hwi hb
      go_enter Tryz.func92, Tryz.ntmps92
      go_wp2_with fail
      refine HWI.out.mono ?_
      rintro e w1 ⟨rfl, rfl⟩
      go_wp2_with fail
      refine HC.out.mono ?_
      rintro e w2 ⟨rfl, hb2⟩
      have HB2 := Lib.hid hb2
      clear hb2
      go_wp2_with fail
      go_ret2
      exact ⟨.slice none 0 0, by rw [HE.out.1]; rfl, by rw [HE.out.2]; exact ⟨none, 0, rfl, Nat.le_refl _, Nat.zero_le _, fun j hj => absurd hj (by simp)⟩, HB2.out⟩
    | false =>
      have hE : fillE wide l = 0 := by unfold fillE; rw [if_neg (by omega), hb]; rfl
      have HE := Lib.hid (show fillE wide l = 0 ∧ fillL wide l = fillM wide l from ⟨hE, by unfold fillL; rw [hE]; rfl⟩)
      have HBD := Lib.hid (show ∀ y ∈ l, badG y = false from fun y hy => by
        cases h : badG y
        · rfl
        · rw [List.any_eq_true.2 ⟨y, hy, h⟩] at hb; cases hb)
      rw [hb] at HC
      have HR := Lib.hid (hr.imp (Q := fun b => b < w.heap.size) fun b hb _ => hb)
      have HLL := Lib.hid hl
      obtain ⟨F, hF⟩ : ∃ F, runF wide fs0 l = F := ⟨_, rfl⟩
      have HFF := Lib.hid hF
      obtain ⟨n, hn⟩ : ∃ n, l.length = n := ⟨_, rfl⟩
      have HN := Lib.hid hn
      rw [hn] at HC HR hc1 ⊢
      clear hr hl hw hwi hb hE hF hn
      go_enter Tryz.func92, Tryz.ntmps92
      go_wp2_with fail
      refine HWI.out.mono ?_
      rintro e w1 ⟨rfl, rfl⟩
      go_wp2_with fail
      refine HC.out.mono ?_
      rintro e w2 ⟨rfl, hb2⟩
      have hB2 := below_box w2 (bx true wide (.slice none 0 0) (.slice none 0 0) 0 (.slice none 0 0))
      have hst := Fl.start true w2 wide (B := w.heap.size) hb2.size
      have HB2 := Lib.hid hb2
      have HFA := Lib.hid (show FlowAt true w.heap.size w2.heap.size wide l F w 0 fs0 (w2.alloc (bx true wide (.slice none 0 0) (.slice none 0 0) 0 (.slice none 0 0))) from ⟨hst.less fun c hc => Nat.lt_of_lt_of_le hc hb2.size, (Kp.of (hb2.trans (hB2.mono hb2.size)) fun c hc => hc), inv0 (by omega), by rw [List.drop_zero]; exact HFF.out, by rw [meas0]; omega⟩)
      have HR2 := Lib.hid (HR.out.below (hb2.trans (hB2.mono hb2.size)))
      unfold bx at HFA HR2
      obtain ⟨g, hg⟩ : ∃ g, w2.heap.size = g := ⟨_, rfl⟩
      rw [hg] at HFA
      have HG := Lib.hid hg
      clear hb2 hB2 hst
      go_wp2_with fail
      go_loopw [0] (fun v wr => ∃ (j n' cap' : Nat) (p' : Option Addr) (s2 : Fs), v = .slice p' n' cap' ∧ n' + j = n ∧ n' ≤ cap' ∧ Hid (RdG (fun b => b < w.heap.size) wr (.slice p' n' cap') (l.drop j)) ∧ Hid (FlowAt true w.heap.size g wide l F w j s2 wr)) (fun v _ => lenV v)
      case atStart => exact ⟨0, n, cap, pa, _, rfl, rfl, hc1, HR2, HFA⟩
      case round =>
        obtain ⟨j, n', cap', p', s2, rfl, hj, hc', HR3, HF3⟩ := hrel
        have HJ := Lib.hid hj
        by_cases hlt : 0 < n'
        · have hjl : j < l.length := by have := HN.out; omega
          have hd : l.drop j = l[j] :: l.drop (j + 1) := List.drop_eq_getElem_cons hjl
          have hr3 := HR3.out
          rw [hd] at hr3
          obtain ⟨b, off, rfl, _, _⟩ := hr3.at_ (j := 0) (by rw [List.length_cons]; omega)
          obtain ⟨hfl, hkp, hinv, hrun, hme⟩ := HF3.out
          rw [hd, runF_took, ← hd, List.drop_drop] at hrun
          have hbd : ∀ y ∈ l[j] :: l.drop (j + 1), badG y = false := fun y hy => HBD.out y (by rw [← hd] at hy; exact List.mem_of_mem_drop hy)
          have hdl : (l.drop (j + 1)).length + 1 = n' := by rw [List.length_drop]; have := HN.out; omega
          have HT := Lib.hid (take_pro (l[j]) (l.drop (j + 1)) _ wr hfl hr3 (fun c hc => hc) hinv hw1 hw2 (by have := HLL.out; have := HN.out; rw [hdl]; omega) hbd)
          have hti := took_inv hinv (l[j]) (l.drop (j + 1)) hw1 hbd
          have htl := took_le (l[j]) (l.drop (j + 1))
          obtain ⟨k, hk⟩ : ∃ k, tookN (l[j]) (l.drop (j + 1)) = k := ⟨_, rfl⟩
          rw [hk] at HT hti htl hrun
          rw [hdl] at htl
          obtain ⟨s3, hs3⟩ : ∃ s3, tookS wide s2 (l[j]) (l.drop (j + 1)) = s3 := ⟨_, rfl⟩
          rw [hs3] at HT hti hrun
          have HRU := Lib.hid hrun
          have HTI := Lib.hid hti
          have HKP := Lib.hid hkp
          have HME := Lib.hid hme
          have k0 : 0 < k := htl.1
          have k2 : k ≤ n' := htl.2
          have k3 : k ≤ cap' := by omega
          have k2i : (k : Int) ≤ n' := by omega
          have k3i : (k : Int) ≤ cap' := by omega
          have hlti : (0 : Int) < n' := by omega
          have HLT := Lib.hid hlt
          clear hd hr3 hfl hkp hinv hrun hme hbd hdl hti htl hk hs3 hj hlt
          go_wp2_with fail
          refine HT.out.mono ?_
          rintro e w4 ⟨rfl, hf4, hk4⟩
          have HF4 := Lib.hid hf4
          have HK4 := Lib.hid (HKP.out.trans hk4)
          have HR4 := Lib.hid (HR3.out.keep fun a ha _ => World.cell?_of_block (hk4.block _ ha))
          clear hf4 hk4
          by_cases hck : cap' = k
          · have hn : n' = k := by omega
            have HNK := Lib.hid hn
            subst hck
            go_wp2_with fail
            go_roundw
            case measure => have := HLT.out; simp only [lenV]; omega
            case rel =>
              have e : l.drop (j + cap') = [] := List.drop_eq_nil_of_le (by have := HJ.out; have := HN.out; have := HNK.out; omega)
              refine ⟨j + cap', 0, 0, some ⟨b, off, none⟩, s3, rfl, by have := HJ.out; have := HNK.out; omega, by omega, Lib.hid ?_, Lib.hid ⟨HF4.out, HK4.out, HTI.out.1, HRU.out, by have := HTI.out.2; have := HME.out; omega⟩⟩
              rw [e]
              exact RdG.nil _ _ (by unfold maxLen; omega) _
          · have hckn : ¬ cap' = k := hck
            go_wp2_with fail
            go_roundw
            case measure => have := HLT.out; simp only [lenV]; omega
            case rel =>
              refine ⟨j + k, n' - k, cap' - k, some ⟨b, off + k * 5, none⟩, s3, rfl, by have := HJ.out; omega, by omega, Lib.hid ?_, Lib.hid ⟨HF4.out, HK4.out, HTI.out.1, HRU.out, by have := HTI.out.2; have := HME.out; omega⟩⟩
              have := HR4.out.drop k k2
              rw [List.drop_drop] at this
              exact this
        · obtain rfl : n' = 0 := by omega
          obtain ⟨hfl, hkp, hinv, hrun, hme⟩ := HF3.out
          have e : l.drop j = [] := List.drop_eq_nil_of_le (by have := HN.out; omega)
          rw [e, runF_nil] at hrun
          have HE2 := Lib.hid (endUsed_pro wr hfl (by have := HLL.out; have := HN.out; have := out_le s2; omega) (by have := hinv.len; omega))
          have HRU := Lib.hid hrun
          have HKP := Lib.hid hkp
          clear hfl hkp hinv hrun hme e hj hlt
          go_wp2_with fail
          refine HE2.out.mono ?_
          rintro e w4 ⟨rfl, hf4, hk4⟩
          obtain ⟨vo, vl, vw, hblk, hout⟩ := hf4.told
          obtain ⟨q0, q1, q2, q3, q4⟩ := bx_cellsP hblk
          have HO := Lib.hid hout
          have HK4 := Lib.hid (HKP.out.trans hk4)
          clear hf4 hk4 hblk hout
          go_wp2_with fail
          go_ret2
          exact ⟨vo, by rw [HE.out.1]; rfl, by rw [HE.out.2, fillM_eq, HFF.out, ← HRU.out]; exact HO.out, HK4.out.below fun c hc => hc⟩
  · have hwi : within wide 1 200 = false := decide_eq_false hw
    have HWI := Lib.hid (within_pro wide 1 200 w)
    rw [hwi] at HWI
    have HE := Lib.hid (show fillE wide l = 1 ∧ fillL wide l = [] by
      have : fillE wide l = 1 := by unfold fillE; rw [if_pos (by omega)]
      exact ⟨this, by unfold fillL; rw [this]; rfl⟩)
    clear hr hl hw hwi HC
    go_enter Tryz.func92, Tryz.ntmps92
    go_wp2_with fail
    refine HWI.out.mono ?_
    rintro e w1 ⟨rfl, rfl⟩
    go_wp2_with fail
    go_ret2
    exact ⟨.slice none 0 0, by rw [HE.out.1]; rfl, by rw [HE.out.2]; exact ⟨none, 0, rfl, Nat.le_refl _, Nat.zero_le _, fun j hj => absurd hj (by simp)⟩, Below.refl _ _⟩
end Go.Proofs.YtjohhahfpgfjdaaGreatDoor.Tb
end
section
namespace Go.Proofs.YtjohhahfpgfjdaaGreatDoor.Tb
open Go.RowKit Go.Maps
set_option linter.unusedVariables false
set_option linter.unusedSimpArgs false
set_option maxRecDepth 100000 in
set_option maxHeartbeats 1000000 in
theorem wide_ref {P : Nat → Prop} (l : List Gl) (v : Value) (w : World) (h : RdG P w v l) (hl : l.length ≤ 140737488355328) (hs : SmallW l) : Calls Tryz.prog 12 #[v] w fun e w' => e = .returned (.int .i64 (wid l)) ∧ w = w' := by
  obtain ⟨pa, cap, rfl, h1, h2⟩ := sliceG h
  have HH := Lib.hid h
  obtain ⟨n, hn⟩ : ∃ n, l.length = n := ⟨_, rfl⟩
  have HN := Lib.hid hn
  have HS := Lib.hid hs
  rw [hn] at HH h1 ⊢
  have hn62 : n ≤ 140737488355328 := by omega
  clear h hn h1 hs hl
  go_enter Tryz.func12, Tryz.ntmps12
  go_wp2_with fail
  go_loop [3, 4] (fun s i => ∃ k : Nat, i = .int .i64 k ∧ k ≤ n ∧ s = .int .i64 (wid (l.take k))) (fun _ i => n - (intOf i).toNat)
  case atStart => exact ⟨0, rfl, Nat.zero_le _, rfl⟩
  case round =>
    obtain ⟨k, rfl, hk, rfl⟩ := hrel
    by_cases hlt : k < n
    · have hkl : k < l.length := by rw [HN.out]; exact hlt
      obtain ⟨b, off, rfl, _, hc⟩ := HH.out.at_ hkl
      have hT := Lib.hid (wid_take l k hkl)
      have hsm := wid_small (l := l.take k) fun g hg => HS.out g (List.mem_of_mem_take hg)
      have hkk : (l.take k).length ≤ k := List.length_take_le _ _
      have hx1 := HS.out _ (List.getElem_mem hkl)
      obtain ⟨x, hx⟩ : ∃ x, l[k] = x := ⟨_, rfl⟩
      rw [hx] at hc hT hx1
      obtain ⟨c0, c1, c2, c3, c4⟩ := hc
      obtain ⟨s, hs⟩ : ∃ s, wid (l.take k) = s := ⟨_, rfl⟩
      rw [hs] at hT hsm ⊢
      have s1 : 0 ≤ s := hsm.1
      have s2 : s ≤ 200 * 140737488355328 := by omega
      have x1 := hx1.1
      have x2 := hx1.2
      have k1 : (k : Int) < n := by omega
      have HLT := Lib.hid hlt
      clear hx hs hlt hsm hx1 hkk
      go_wp2_with fail
      go_round
      case measure => have := HLT.out; simp [intOf]; omega
      case rel => exact ⟨k + 1, by go_num, HLT.out, by rw [hT.out]⟩
    · obtain rfl : k = n := by omega
      have hz1 : ¬ (k : Int) < k := by omega
      clear hlt
      go_wp2_with fail
      go_ret
      exact ⟨by rw [show l.take k = l by rw [← HN.out, List.take_length]]; rfl, rfl⟩
end Go.Proofs.YtjohhahfpgfjdaaGreatDoor.Tb
end
section
namespace Go.Proofs.YtjohhahfpgfjdaaGreatDoor.Tb
open Go.RowKit Go.Maps
set_option linter.unusedVariables false
set_option linter.unusedSimpArgs false
theorem Fl.fresh {d : Bool} {B g : Nat} {wide : Int} {K : Nat → Prop} {s : Fs} {W W' : World} (h : Fl d B g wide K s W) (hb : Below W.heap.size W W') : Fl d B g wide (fun c => K c ∨ (W.heap.size ≤ c ∧ c < W'.heap.size)) s W' := by
  obtain ⟨vo, vl, vw, vs, h⟩ := h
  have h' := h.below hb
  have n := h.ng
  refine ⟨vo, vl, vw, vs, h'.base, h'.blk, h'.line, h'.out, h'.wait, fun c hc => ?_⟩
  rcases hc with hc | hc
  · exact h'.apart c hc
  · exact ⟨hc.2, by omega, (fun e => by have := (own_base h.line e).2; omega), (fun e => by have := (own_base h.out.row e).2; omega)⟩
end Go.Proofs.YtjohhahfpgfjdaaGreatDoor.Tb
end
section
namespace Go.Proofs.YtjohhahfpgfjdaaGreatDoor.Tb
open Go.RowKit Go.Maps
set_option linter.unusedVariables false
set_option linter.unusedSimpArgs false
section
variable {P : Program} {w : World}
theorem run_append_nilc (base : Nat) (t ty e : TypeId) (i : TypeInfo) (size : Nat) (ht : P.underlying t = some (.slice e)) (hi : P.info? e = some i)
    (v : Value) (n : Nat) (xs : List Value) (hown : w.ownsRow base e size v n xs) (c : Nat) :
    (Builtin.append_ #[t, t] ty #[v, .slice none 0 c]).run P w = .ok v w := by
  rcases hown.2 with ⟨rfl, rfl⟩ | ⟨g, cap, cur, rfl, _, _, hnc, _⟩
  · simp [Builtin.append_, run_underlying ht, sizeOf, typeInfo, hi, Builtin.lenOf, Builtin.firstCells]
  · simp [Builtin.append_, run_underlying ht, sizeOf, typeInfo, hi, Builtin.lenOf, Builtin.firstCells, hnc, storeCells]
/-- What is appended: so many elements, the cells known where there is one. -/
structure Lies (w : World) (size : Nat) (vx : Value) (m : Nat) (ys : List Value) : Prop where
  len : ys.length = m * size
  one : ∀ u ∈ ys, u.oneCell' = true
  at' : (∃ c, vx = .slice none 0 c ∧ m = 0) ∨ ∃ a c, vx = .slice (some a) m c ∧ ∀ j u, ys[j]? = some u → w.cell? (a.add j) = some u
theorem run_append_lies' (base : Nat) (t ty e : TypeId) (i : TypeInfo) (z : Value) (size bytes : Nat) (ht : P.underlying t = some (.slice e)) (hi : P.info? e = some i) (hz : i.zero = some z)
    (hsize : i.size = size) (hby : i.bytes = bytes) (hzs : z.cells.size = size) (hsz : 0 < size)
    (v : Value) (n : Nat) (xs : List Value) (hown : w.ownsRow base e size v n xs) (vx : Value) (m : Nat) (ys : List Value) (hx : Lies w size vx m ys)
    (h63 : n + m ≤ maxLen) (hbytes : (n + m) * bytes ≤ 140737488355328) (hbase : base ≤ w.heap.size) :
    ∃ v' w', (Builtin.append_ #[t, t] ty #[v, vx]).run P w = .ok v' w' ∧ w'.ownsRow base e size v' (n + m) (xs ++ ys) ∧ w.grownBy w' v.ownBlock := by
  rcases hx.at' with ⟨c, rfl, rfl⟩ | ⟨a, c, rfl, hc⟩
  · have hys : ys = [] := List.eq_nil_of_length_eq_zero (by have := hx.len; omega)
    subst hys
    exact ⟨v, w, run_append_nilc base t ty e i size ht hi v n xs hown c, by simpa using hown, ⟨rfl, rfl, rfl, Nat.le_refl _, fun _ _ _ => rfl⟩⟩
  · obtain ⟨v', w', h2, h3, h4, _⟩ := run_append_own (P := P) w base t ty e i z size bytes ht hi hz hsize hby hzs hsz v n xs hown a m c ys hx.len hc hx.one h63 hbytes hbase
    exact ⟨v', w', h2, h3, h4⟩
theorem wpList_append_lies' {ops : Array Oper} {rest : List Oper} {o : Oper} {a : Act} {Q : Exit → Act → World → Prop} (hgd : o.guard = none) (s x : Operand) (t : TypeId)
    (ho : o.op = .call { callee := .builtin .append, args := #[s, x], argTypes := #[t, t] })
    (base : Nat) (e : TypeId) (i : TypeInfo) (z : Value) (size bytes : Nat) (ht : P.underlying t = some (.slice e)) (hi : P.info? e = some i) (hz : i.zero = some z)
    (hsize : i.size = size) (hby : i.bytes = bytes) (hzs : z.cells.size = size) (hsz : 0 < size)
    (v : Value) (n : Nat) (xs : List Value) (hs : a.eval s = v) (hown : w.ownsRow base e size v n xs) (vx : Value) (m : Nat) (ys : List Value) (hvx : a.eval x = vx) (hx : Lies w size vx m ys)
    (h63 : n + m ≤ maxLen) (hbytes : (n + m) * bytes ≤ 140737488355328) (hbase : base ≤ w.heap.size)
    (h : ∀ v' w', w'.ownsRow base e size v' (n + m) (xs ++ ys) → w.grownBy w' v.ownBlock → wpList P ops Q rest (a.put o.dst v') w') : wpList P ops Q (o :: rest) a w :=
  wpList_plain hgd fun _ hK => by
    obtain ⟨v', w', hr, h2, h3⟩ := run_append_lies' (P := P) (w := w) base t o.type e i z size bytes ht hi hz hsize hby hzs hsz v n xs hown vx m ys hx h63 hbytes hbase
    unfold Oper.wp execOp
    simp only [ho, resolve, invoke, builtin, Sem.run_bind, Sem.run_pure, Result.andThen_ok, List.map_toArray, List.map_cons, List.map_nil, hs, hvx, hr]
    exact hK _ _ (h v' w' h2 h3)
end
theorem Lies.alloc {w : World} {size : Nat} {vx : Value} {m : Nat} {ys : List Value} (h : Lies w size vx m ys) (o : Obj) : Lies (w.alloc o) size vx m ys := by
  refine ⟨h.len, h.one, ?_⟩
  rcases h.at' with h1 | ⟨a, c, rfl, hc⟩
  · exact .inl h1
  · exact .inr ⟨a, c, rfl, fun j u hj => by
      have := hc j u hj
      exact (((Below.refl _ w).alloc (Nat.le_refl _) o).cell (World.block_lt_of_cell? w _ this)).trans this⟩
theorem Lies.below {w w' : World} {size : Nat} {vx : Value} {m : Nat} {ys : List Value} (h : Lies w size vx m ys) (hb : Below w.heap.size w w') : Lies w' size vx m ys := by
  refine ⟨h.len, h.one, ?_⟩
  rcases h.at' with h1 | ⟨a, c, rfl, hc⟩
  · exact .inl h1
  · exact .inr ⟨a, c, rfl, fun j u hj => by
      have := hc j u hj
      exact (hb.cell (World.block_lt_of_cell? w _ this)).trans this⟩
theorem rowsG_cell : ∀ (l : List Gl) (j : Nat) (u : Value), (rowsG l)[j]? = some u → ∃ i k, ∃ hi : i < l.length, j = i * 5 + k ∧ (glRow l[i])[k]? = some u
  | [], j, u, h => by simp [rowsG] at h
  | a :: l, j, u, h => by
    have e : rowsG (a :: l) = glRow a ++ rowsG l := by simp [rowsG]
    have hl : (glRow a).length = 5 := rfl
    rw [e] at h
    rcases Nat.lt_or_ge j 5 with h5 | h5
    · rw [List.getElem?_append_left (by omega)] at h
      exact ⟨0, j, by simp, by omega, h⟩
    · rw [List.getElem?_append_right (by omega), hl] at h
      obtain ⟨i, k, hi, h1, h2⟩ := rowsG_cell l (j - 5) u h
      exact ⟨i + 1, k, by simpa using hi, by omega, by simpa using h2⟩
theorem GlIs.cells {W : World} {b o : Nat} {x : Gl} (h : GlIs W b o x) (k : Nat) (u : Value) (hu : (glRow x)[k]? = some u) : W.cell? ⟨b, o + k, none⟩ = some u := by
  obtain ⟨h0, h1, h2, h3, h4⟩ := h
  match k with
  | 0 => simp [glRow] at hu; rw [← hu]; exact h0
  | 1 => simp [glRow] at hu; rw [← hu]; exact h1
  | 2 => simp [glRow] at hu; rw [← hu]; exact h2
  | 3 => simp [glRow] at hu; rw [← hu]; exact h3
  | 4 => simp [glRow] at hu; rw [← hu]; exact h4
  | k + 5 => simp [glRow] at hu
theorem RdG.lies {P : Nat → Prop} {w : World} {v : Value} {l : List Gl} (h : RdG P w v l) : Lies w 5 v l.length (rowsG l) := by
  obtain ⟨pa, cap, rfl, _, _, h4⟩ := h
  refine ⟨rowsG_len l, rowsG_one l, ?_⟩
  cases pa with
  | none =>
    left
    have : l.length = 0 := by
      rcases Nat.eq_zero_or_pos l.length with h | h
      · exact h
      · obtain ⟨b, off, e, _⟩ := h4 0 h; cases e
    exact ⟨cap, by rw [this], this⟩
  | some a =>
    right
    refine ⟨a, cap, rfl, fun j u hj => ?_⟩
    obtain ⟨i, k, hi, rfl, hk⟩ := rowsG_cell l j u hj
    obtain ⟨b, off, e, _, hc⟩ := h4 i hi
    cases e
    have := hc.cells k u hk
    rw [Addr.add_lit, ← Nat.add_assoc]
    exact this
/-- A new list of glyphs. -/
def MakesR (l : List Gl) (w : World) (e : Ending) (w' : World) : Prop := ∃ v, e = .returned v ∧ w'.ownsRow w.heap.size 44 5 v l.length (rowsG l) ∧ Below w.heap.size w w'
end Go.Proofs.YtjohhahfpgfjdaaGreatDoor.Tb
end
section
namespace Go.Proofs.YtjohhahfpgfjdaaGreatDoor.Tb
open Go.RowKit Go.Maps
set_option linter.unusedVariables false
set_option linter.unusedSimpArgs false
def numsZ (zs : List Int) : List Value := zs.map (Value.int .i64)
theorem numsZ_len (xs : List Int) : (numsZ xs).length = xs.length := by simp [numsZ]
theorem numsZ_app (a b : List Int) : numsZ (a ++ b) = numsZ a ++ numsZ b := by simp [numsZ]
theorem numsZ_one (a : List Int) : ∀ u ∈ numsZ a, u.oneCell' = true := by
  intro u hu
  obtain ⟨x, _, rfl⟩ := List.mem_map.1 hu
  rfl
theorem numsZ_set (l : List Int) (i : Nat) (v : Int) : (numsZ l).set i (.int .i64 v) = numsZ (l.set i v) := by simp [numsZ, List.map_set]
/-- A list of numbers in memory, in blocks that P holds of. -/
def RdZ (P : Nat → Prop) (w : World) (v : Value) (zs : List Int) : Prop :=
  ∃ (pa : Option Addr) (cap : Nat), v = .slice pa zs.length cap ∧ zs.length ≤ cap ∧ cap ≤ maxLen ∧ ∀ j (hj : j < zs.length), ∃ b off, pa = some ⟨b, off, none⟩ ∧ P b ∧ w.cell? ⟨b, off + j, none⟩ = some (.int .i64 zs[j])
section
variable {P Q : Nat → Prop} {w w' : World} {v : Value} {zs : List Int}
theorem RdZ.keep (h : RdZ P w v zs) (hk : ∀ a : Addr, P a.block → a.block < w.heap.size → w'.cell? a = w.cell? a) : RdZ P w' v zs := by
  obtain ⟨pa, cap, e, h1, h2, h4⟩ := h
  refine ⟨pa, cap, e, h1, h2, fun j hj => ?_⟩
  obtain ⟨b, off, e, hp, hc⟩ := h4 j hj
  exact ⟨b, off, e, hp, (hk ⟨b, off + j, none⟩ hp (cellInL hc)).trans hc⟩
theorem RdZ.below (h : RdZ P w v zs) (hb : Below w.heap.size w w') : RdZ P w' v zs := h.keep fun _ _ ha => hb.cell ha
theorem RdZ.imp (h : RdZ P w v zs) (hq : ∀ b, b < w.heap.size → P b → Q b) : RdZ Q w v zs := by
  obtain ⟨pa, cap, e, h1, h2, h4⟩ := h
  refine ⟨pa, cap, e, h1, h2, fun j hj => ?_⟩
  obtain ⟨b, off, e, hp, hc⟩ := h4 j hj
  exact ⟨b, off, e, hq b (cellInL hc) hp, hc⟩
theorem RdZ.form (h : RdZ P w v zs) : ∃ (pa : Option Addr) (cap : Nat), v = .slice pa zs.length cap ∧ zs.length ≤ cap ∧ cap ≤ maxLen := by
  obtain ⟨pa, cap, e, h1, h2, _⟩ := h
  exact ⟨pa, cap, e, h1, h2⟩
theorem RdZ.cell {pa : Option Addr} {n cap : Nat} (h : RdZ P w (.slice pa n cap) zs) {j : Nat} (hj : j < zs.length) : ∃ b off, pa = some ⟨b, off, none⟩ ∧ w.cell? ⟨b, off + j, none⟩ = some (.int .i64 zs[j]) := by
  obtain ⟨pa', cap', e, _, _, h4⟩ := h
  cases e
  obtain ⟨b, off, e, _, hc⟩ := h4 j hj
  exact ⟨b, off, e, hc⟩
theorem RdZ.own {base n : Nat} (h : w.ownsRow base 3 1 v n (numsZ zs)) (hn : n = zs.length) : RdZ (base ≤ ·) w v zs := by
  subst hn
  rcases h.2 with ⟨rfl, h0⟩ | ⟨g, cap, cur, rfl, hb, hg, h1, h2, h3, h4⟩
  · have : zs = [] := List.eq_nil_of_length_eq_zero h0
    subst this
    exact ⟨none, 0, rfl, Nat.le_refl _, Nat.zero_le _, fun i hi => absurd hi (by simp)⟩
  · refine ⟨_, cap, rfl, h1, h2, fun j hj => ⟨g, 0, rfl, hb, ?_⟩⟩
    rw [Nat.zero_add]
    have := World.ownsRow.cellAt h j (by omega)
    rw [this]
    simp [numsZ, hj]
end
theorem sliceZ {P : Nat → Prop} {w : World} {v : Value} {l : List Int} (h : RdZ P w v l) : ∃ (pa : Option Addr) (cap : Nat), v = .slice pa l.length cap ∧ l.length ≤ cap ∧ cap ≤ 9223372036854775807 := by
  obtain ⟨pa, cap, e, h1, h2⟩ := h.form
  exact ⟨pa, cap, e, h1, by unfold maxLen at h2; omega⟩
/-- Columns in memory. -/
def colRow (c : Int × Int) : List Value := [.int .i64 c.1, .int .i64 c.2]
def rowsC (l : List (Int × Int)) : List Value := l.flatMap colRow
theorem rowsC_len : ∀ l : List (Int × Int), (rowsC l).length = l.length * 2
  | [] => rfl
  | r :: l => by
    have := rowsC_len l
    unfold rowsC at this ⊢
    rw [List.flatMap_cons, List.length_append, this, List.length_cons]
    simp [colRow]
    omega
theorem rowsC_at : ∀ (l : List (Int × Int)) (j k : Nat) (hj : j < l.length), k < 2 → (rowsC l)[j * 2 + k]? = (colRow l[j])[k]?
  | [], j, k, hj, _ => absurd hj (by simp)
  | r :: l, 0, k, _, hk => by
    unfold rowsC
    rw [List.flatMap_cons, Nat.zero_mul, Nat.zero_add, List.getElem?_append_left (by simp [colRow]; exact hk)]
    rfl
  | r :: l, j + 1, k, hj, hk => by
    have h := rowsC_at l j k (by simpa using hj) hk
    unfold rowsC at h ⊢
    rw [List.flatMap_cons, List.getElem?_append_right (by simp [colRow]; omega), show (colRow r).length = 2 from rfl, show (j + 1) * 2 + k - 2 = j * 2 + k by omega, h]
    simp
theorem rowsC_snoc (l : List (Int × Int)) (r : Int × Int) : rowsC (l ++ [r]) = rowsC l ++ colRow r := by simp [rowsC]
def RdC (P : Nat → Prop) (w : World) (v : Value) (cs : List (Int × Int)) : Prop :=
  ∃ (pa : Option Addr) (cap : Nat), v = .slice pa cs.length cap ∧ cs.length ≤ cap ∧ cap ≤ maxLen ∧ ∀ j (hj : j < cs.length), ∃ b off, pa = some ⟨b, off, none⟩ ∧ P b ∧ w.cell? ⟨b, off + j * 2, none⟩ = some (.int .i64 cs[j].1) ∧ w.cell? ⟨b, off + j * 2 + 1, none⟩ = some (.int .i64 cs[j].2)
section
variable {P Q : Nat → Prop} {w w' : World} {v : Value} {cs : List (Int × Int)}
theorem RdC.keep (h : RdC P w v cs) (hk : ∀ a : Addr, P a.block → a.block < w.heap.size → w'.cell? a = w.cell? a) : RdC P w' v cs := by
  obtain ⟨pa, cap, e, h1, h2, h4⟩ := h
  refine ⟨pa, cap, e, h1, h2, fun j hj => ?_⟩
  obtain ⟨b, off, e, hp, hc, hd⟩ := h4 j hj
  exact ⟨b, off, e, hp, (hk ⟨b, off + j * 2, none⟩ hp (cellInL hc)).trans hc, (hk ⟨b, off + j * 2 + 1, none⟩ hp (cellInL hd)).trans hd⟩
theorem RdC.below (h : RdC P w v cs) (hb : Below w.heap.size w w') : RdC P w' v cs := h.keep fun _ _ ha => hb.cell ha
theorem RdC.imp (h : RdC P w v cs) (hq : ∀ b, b < w.heap.size → P b → Q b) : RdC Q w v cs := by
  obtain ⟨pa, cap, e, h1, h2, h4⟩ := h
  refine ⟨pa, cap, e, h1, h2, fun j hj => ?_⟩
  obtain ⟨b, off, e, hp, hc⟩ := h4 j hj
  exact ⟨b, off, e, hq b (cellInL hc.1) hp, hc⟩
theorem sliceC (h : RdC P w v cs) : ∃ (pa : Option Addr) (cap : Nat), v = .slice pa cs.length cap ∧ cs.length ≤ cap ∧ cap ≤ 9223372036854775807 := by
  obtain ⟨pa, cap, e, h1, h2, _⟩ := h
  exact ⟨pa, cap, e, h1, by unfold maxLen at h2; omega⟩
theorem RdC.cell {pa : Option Addr} {n cap : Nat} (h : RdC P w (.slice pa n cap) cs) {j : Nat} (hj : j < cs.length) : ∃ b off, pa = some ⟨b, off, none⟩ ∧ P b ∧ w.cell? ⟨b, off + j * 2, none⟩ = some (.int .i64 cs[j].1) ∧ w.cell? ⟨b, off + j * 2 + 1, none⟩ = some (.int .i64 cs[j].2) := by
  obtain ⟨pa', cap', e, _, _, h4⟩ := h
  cases e
  exact h4 j hj
theorem RdC.own {base n : Nat} (h : w.ownsRow base 172 2 v n (rowsC cs)) (hn : n = cs.length) : RdC (base ≤ ·) w v cs := by
  subst hn
  rcases h.2 with ⟨rfl, h0⟩ | ⟨g, cap, cur, rfl, hb, hg, h1, h2, h3, h4⟩
  · have : cs = [] := List.eq_nil_of_length_eq_zero h0
    subst this
    exact ⟨none, 0, rfl, Nat.le_refl _, Nat.zero_le _, fun i hi => absurd hi (by simp)⟩
  · refine ⟨_, cap, rfl, h1, h2, fun j hj => ⟨g, 0, rfl, hb, ?_, ?_⟩⟩
    · have := World.ownsRow.cellAt h (j * 2 + 0) (by omega)
      rw [rowsC_at cs j 0 hj (by omega)] at this
      rw [Nat.zero_add]
      exact this
    · have := World.ownsRow.cellAt h (j * 2 + 1) (by omega)
      rw [rowsC_at cs j 1 hj (by omega)] at this
      rw [Nat.zero_add]
      exact this
end
theorem narrowN_bd {lo hi : Int} : ∀ (n : Nat) (l : List Int) (d : Nat), (∀ x ∈ l, lo - d ≤ x ∧ x ≤ hi) → ∀ x ∈ narrowN n l, lo - (d + n : Nat) ≤ x ∧ x ≤ hi
  | 0, l, d, h => h
  | n + 1, l, d, h => by
    have h1 : ∀ x ∈ narrow1 l, lo - (d + 1 : Nat) ≤ x ∧ x ≤ hi := fun x hx => by
      unfold narrow1 at hx
      rcases Nat.eq_zero_or_pos l.length with h0 | h0
      · rw [List.eq_nil_of_length_eq_zero h0] at hx
        simp at hx
      · have hw := widF_lt l l.length h0 (Nat.le_refl _)
        rcases List.mem_or_eq_of_mem_set hx with hx | hx
        · have := h x hx; omega
        · rw [List.getD_eq_getElem?_getD, List.getElem?_eq_getElem hw] at hx
          simp only [Option.getD_some] at hx
          have := h _ (List.getElem_mem hw)
          omega
    have := narrowN_bd n (narrow1 l) (d + 1) h1
    intro x hx
    have h2 := this x hx
    omega
theorem own_at {W : World} {B n : Nat} {v : Value} {l : List Int} (h : W.ownsRow B 3 1 v n (numsZ l)) (hn : n = l.length) (h0 : 0 < n) : ∃ g cap, v = .slice (some ⟨g, 0, none⟩) n cap ∧ B ≤ g ∧ g < W.heap.size ∧ n ≤ cap ∧ (∀ j, W.frozen? ⟨g, j, none⟩ = false) ∧ ∀ j, j < n → W.cell? ⟨g, j, none⟩ = some (.int .i64 (l.getD j 0)) := by
  rcases h.2 with ⟨rfl, h1⟩ | ⟨g, cap, cur, rfl, hb, hg, h1, h2, h3, h4⟩
  · omega
  · refine ⟨g, cap, rfl, hb, (Array.getElem?_eq_some_iff.1 hg).1, h1, fun j => World.ownsRow.frozenAt h _, fun j hj => ?_⟩
    rw [World.ownsRow.cellAt h j (by omega)]
    simp [numsZ, List.getD_eq_getElem?_getD, show j < l.length by omega]
def RowP (B n : Nat) (v : Value) (l : List Int) (w : World) (e : Ending) (w' : World) : Prop := e = .returned (.tuple #[]) ∧ w'.ownsRow B 3 1 v n (numsZ l) ∧ Below B w w'
set_option maxRecDepth 100000 in
set_option maxHeartbeats 2000000 in
theorem narrow_pro {B : Nat} (l : List Int) (v : Value) (cells : Nat) (w : World) (h : w.ownsRow B 3 1 v l.length (numsZ l)) (h0 : 0 < l.length) (hc : cells ≤ 1000000) (hl : ∀ x ∈ l, -1000000 ≤ x ∧ x ≤ 1000000) :
    Calls Tryz.prog 124 #[v, .int .i64 cells] w (RowP B l.length v (narrowN cells l) w) := by
  obtain ⟨g, cap, rfl, hB, hg, hcap, _, _⟩ := own_at h rfl h0
  have HO := Lib.hid h
  have HLB := Lib.hid hl
  obtain ⟨n, hn⟩ : ∃ n, l.length = n := ⟨_, rfl⟩
  have HN := Lib.hid hn
  rw [hn] at HO h0 ⊢
  have n62 : n ≤ 9223372036854775807 := by
    have h1 := HO.out.2
    rcases h1 with ⟨e, _⟩ | ⟨_, cap', _, e, _, _, h2, h3, _⟩
    · cases e
    · cases e; unfold maxLen at h3; omega
  clear h hl hn hg hcap
  go_enter Tryz.func124, Tryz.ntmps124
  go_wp2_with fail
  go_loopw [8] (fun i wr => ∃ k : Nat, i = .int .i64 k ∧ k ≤ cells ∧ Hid (wr.ownsRow B 3 1 (.slice (some ⟨g, 0, none⟩) n cap) n (numsZ (narrowN k l))) ∧ Hid (Below B w wr)) (fun i _ => cells - (intOf i).toNat)
  case atStart => exact ⟨0, rfl, Nat.zero_le _, HO, Lib.hid (Below.refl _ _)⟩
  case round =>
    obtain ⟨wo, rfl⟩ : ∃ wo : World, wo = wr := ⟨_, rfl⟩
    obtain ⟨k, rfl, hk, HOk, HB⟩ := hrel
    by_cases hlt : k < cells
    · have k1 : (k : Int) < cells := by omega
      have HLT := Lib.hid hlt
      obtain ⟨z, hz⟩ : ∃ z, narrowN k l = z := ⟨_, rfl⟩
      have hzl : z.length = n := by rw [← hz, narrowN_len]; exact HN.out
      have HZ := Lib.hid hz
      have hbd : ∀ x ∈ z, -2000000 ≤ x ∧ x ≤ 1000000 := fun x hx => by
        have := narrowN_bd (lo := -1000000) (hi := 1000000) k l 0 (fun x hx => by have := HLB.out x hx; omega) x (by rw [hz]; exact hx)
        omega
      rw [hz] at HOk
      have HZL := Lib.hid hzl
      have HBD := Lib.hid hbd
      clear hz hzl hbd hlt
      go_wp2_with fail
      go_loop [4, 12] (fun a i => ∃ m : Nat, i = .int .i64 m ∧ m ≤ n ∧ a = .int .i64 (widF z m : Nat)) (fun _ i => n - (intOf i).toNat)
      case atStart => exact ⟨0, rfl, Nat.zero_le _, rfl⟩
      case round =>
        obtain ⟨m, rfl, hm, rfl⟩ := hrel
        obtain ⟨g', cap', e, _, _, _, hfz, hcl⟩ := own_at HOk.out HZL.out.symm h0
        cases e
        have hwl := widF_lt z m (by rw [HZL.out]; exact h0) (by rw [HZL.out]; exact hm)
        rw [HZL.out] at hwl
        obtain ⟨a, ha⟩ : ∃ a, widF z m = a := ⟨_, rfl⟩
        rw [ha] at hwl ⊢
        by_cases hlt : m < n
        · have m1 : (m : Int) < n := by omega
          have a1 : (a : Int) < n := by omega
          have c1 := hcl m hlt
          have c2 := hcl a hwl
          have HLM := Lib.hid hlt
          have HWS := Lib.hid (show widF z (m + 1) = if z.getD a 0 ≤ z.getD m 0 then m else a by unfold widF; rw [ha])
          obtain ⟨x, hx⟩ : ∃ x, z.getD m 0 = x := ⟨_, rfl⟩
          obtain ⟨y, hy⟩ : ∃ y, z.getD a 0 = y := ⟨_, rfl⟩
          rw [hx] at c1 HWS
          rw [hy] at c2 HWS
          clear hfz hcl hlt hx hy ha
          by_cases hle : y ≤ x
          · have HW2 := Lib.hid (show widF z (m + 1) = m by rw [HWS.out, if_pos hle])
            go_wp2_with fail
            go_round
            case measure => have := HLM.out; simp [intOf]; omega
            case rel => exact ⟨m + 1, by go_num, HLM.out, by rw [HW2.out]⟩
          · have HW2 := Lib.hid (show widF z (m + 1) = a by rw [HWS.out, if_neg hle])
            go_wp2_with fail
            go_round
            case measure => have := HLM.out; simp [intOf]; omega
            case rel => exact ⟨m + 1, by go_num, HLM.out, by rw [HW2.out]⟩
        · obtain rfl : m = n := by omega
          have hzk : ¬ (m : Int) < m := by omega
          have a1 : (a : Int) < m := by omega
          have c2 := hcl a hwl
          have f2 := hfz a
          have HNX := Lib.hid (show narrowN (k + 1) l = z.set a (z.getD a 0 - 1) by rw [narrowN_snoc, HZ.out]; unfold narrow1; rw [HZL.out, ha])
          have hyb := HBD.out (z.getD a 0) (by rw [List.getD_eq_getElem?_getD, List.getElem?_eq_getElem (by rw [HZL.out]; exact hwl)]; exact List.getElem_mem _)
          have hst := (HOk.out.stored a (.int .i64 (z.getD a 0 - 1))).1
          have HST := Lib.hid (show (wo.setCell ⟨g, a, none⟩ (.int .i64 (z.getD a 0 - 1))).ownsRow B 3 1 (.slice (some ⟨g, 0, none⟩) m cap) m (numsZ (z.set a (z.getD a 0 - 1))) from by rw [← numsZ_set]; exact hst)
          have HBS := Lib.hid (HB.out.setCell (p := ⟨g, a, none⟩) hB (.int .i64 (z.getD a 0 - 1)))
          obtain ⟨y, hy⟩ : ∃ y, z.getD a 0 = y := ⟨_, rfl⟩
          rw [hy] at c2 HNX hyb HST HBS
          have y1 := hyb.1
          have y2 := hyb.2
          clear hst hfz hcl hlt hy ha hyb
          go_wp2_with fail
          go_roundw
          case measure => have := HLT.out; simp [intOf]; omega
          case rel => exact ⟨k + 1, by go_num, HLT.out, by rw [HNX.out]; exact HST, HBS⟩
    · obtain rfl : k = cells := by omega
      have hzk : ¬ (k : Int) < k := by omega
      clear hlt
      go_wp2_with fail
      go_end0
      exact ⟨rfl, HOk.out, HB.out⟩
end Go.Proofs.YtjohhahfpgfjdaaGreatDoor.Tb
end
section
namespace Go.Proofs.YtjohhahfpgfjdaaGreatDoor.Tb
open Go.RowKit Go.Maps
set_option linter.unusedVariables false
set_option linter.unusedSimpArgs false
theorem make_ints (N : Nat) (hN : N ≤ 1000) (w : World) : (Instr.makeSlice 49 (.int .i64 (N : Int)) (.int .i64 (N : Int))).run Tryz.prog w = .ok (.slice (some ⟨w.heap.size, 0, none⟩) N N) (w.alloc (.cells (madeCells #[.int .i64 0] N) 3)) := by
  obtain ⟨i0, hi0, hz0, hz1, hz2⟩ := info_parts infoI
  have h := run_make (P := Tryz.prog) w 49 3 i0 (.int .i64 0) Tryz.underlying49 hi0 hz0 .i64 .i64 (N : Int) (N : Int) (by omega) (by omega) (by rw [hz2]; omega) (by omega)
  rw [hz1, Nat.mul_one, show (N : Int).toNat = N by omega] at h
  exact h
theorem made_int (N : Nat) : (madeCells #[.int .i64 0] N).toList = numsZ (fnL N (fun _ => 0)) := by
  apply List.ext_getElem?
  intro j
  simp [madeCells, numsZ, fnL]
  by_cases h : j < N
  · simp [h, Nat.mod_one]
  · simp [h]
theorem fnL_snoc (n : Nat) (g : Nat → Int) : fnL (n + 1) g = fnL n g ++ [g n] := by simp [fnL, List.range_succ]
theorem sum_snoc (n : Nat) (g : Nat → Int) : sumZ (fnL (n + 1) g) = sumZ (fnL n g) + g n := by
  rw [fnL_snoc, sumZ_app]
  simp [sumZ]
theorem sum_bd {g : Nat → Int} {lo hi : Int} (h : ∀ j, lo ≤ g j ∧ g j ≤ hi) : ∀ n : Nat, lo * n ≤ sumZ (fnL n g) ∧ sumZ (fnL n g) ≤ hi * n
  | 0 => by simp [fnL, sumZ]
  | n + 1 => by
    have := sum_bd h n
    have := h n
    rw [sum_snoc, show ((n + 1 : Nat) : Int) = (n : Int) + 1 by omega, Int.mul_add, Int.mul_add]
    omega
def OkWs (ws : List Int) : Prop := ∀ w ∈ ws, 0 ≤ w ∧ w ≤ 200
theorem wAt_ok {ws : List Int} (h : OkWs ws) (i : Nat) : 0 ≤ wAt ws i ∧ wAt ws i ≤ 200 := by
  by_cases hi : i < ws.length
  · rw [wAt_at hi]
    exact h _ (List.getElem_mem hi)
  · simp [wAt, List.getD_eq_getElem?_getD, hi]
theorem base_ok {ws : List Int} (h : OkWs ws) (i : Nat) : 1 ≤ baseG ws i ∧ baseG ws i ≤ 200 := by
  have := wAt_ok h i
  unfold baseG one
  split <;> omega
theorem base_max {ws : List Int} (h : OkWs ws) (i : Nat) : max (wAt ws i) 1 = baseG ws i := by
  have := wAt_ok h i
  unfold baseG one
  split <;> omega
theorem own_set {W : World} {B n : Nat} {g cap : Nat} {z : Nat → Int} (h : W.ownsRow B 3 1 (.slice (some ⟨g, 0, none⟩) n cap) n (numsZ (fnL n z))) (i : Nat) (v : Int) : (W.setCell ⟨g, i, none⟩ (.int .i64 v)).ownsRow B 3 1 (.slice (some ⟨g, 0, none⟩) n cap) n (numsZ (fnL n (fun j => if j = i then v else z j))) := by
  rw [← fnL_set, ← numsZ_set]
  exact (h.stored i (.int .i64 v)).1
theorem own_fn {W : World} {B n : Nat} {v : Value} {z z' : Nat → Int} (h : W.ownsRow B 3 1 v n (numsZ (fnL n z))) (e : ∀ j, j < n → z j = z' j) : W.ownsRow B 3 1 v n (numsZ (fnL n z')) := by
  rw [← fnL_eq e]
  exact h
theorem own_cell {W : World} {B n g cap : Nat} {z : Nat → Int} (h : W.ownsRow B 3 1 (.slice (some ⟨g, 0, none⟩) n cap) n (numsZ (fnL n z))) {i : Nat} (hi : i < n) : W.cell? ⟨g, i, none⟩ = some (.int .i64 (z i)) ∧ W.frozen? ⟨g, i, none⟩ = false := by
  refine ⟨?_, World.ownsRow.frozenAt h _⟩
  rw [World.ownsRow.cellAt h i (by omega)]
  simp [numsZ, fnL, hi]
def MakesZ (zs : List Int) (w : World) (e : Ending) (w' : World) : Prop := ∃ v, e = .returned v ∧ w'.ownsRow w.heap.size 3 1 v zs.length (numsZ zs) ∧ Below w.heap.size w w'
theorem widthsM_len (ws : List Int) (room : Int) : (widthsM ws room).length = ws.length := by
  unfold widthsM
  split
  · rw [narrowN_len]; simp [baseL, fnL_len]
  · simp [fnL_len]
theorem give_le (f c k : Nat) : give f c k ≤ c + 1 := by
  unfold give
  have := Nat.div_le_self c f
  split <;> omega
theorem left_le (f c k : Nat) : leftN f c k ≤ c := by unfold leftN; omega
theorem share_nums {L m G : Nat} (hL : L ≤ 200) (hm0 : 0 < m) (hm : m ≤ 8) (hG : G ≤ 201) (hgv : (L + m - 1) / m = G) (hle : G ≤ L) :
    ∃ G1 L1 m1 : Nat, ((L : Int) + m - 1) / m = (G : Int) ∧ wrap64 (1 + (G : Int)) = (G1 : Int) ∧ wrap64 ((L : Int) - G) = (L1 : Int) ∧ wrap64 ((m : Int) - 1) = (m1 : Int) ∧ 1 + (G : Int) = (G1 : Int) ∧ L - G = L1 ∧ m - 1 = m1 := by
  refine ⟨1 + G, L - G, m - 1, ?_, ?_, ?_, ?_, rfl, rfl, rfl⟩
  · rw [← hgv, show (L : Int) + m - 1 = ((L + m - 1 : Nat) : Int) by clear hgv; omega]
    rfl
  · clear hgv; rw [IntWalk.wrap64_in _ (by omega)]; omega
  · clear hgv; rw [IntWalk.wrap64_in _ (by omega)]; omega
  · clear hgv; rw [IntWalk.wrap64_in _ (by omega)]; omega
set_option maxRecDepth 100000 in
set_option maxHeartbeats 4000000 in
theorem share_pro {P : Nat → Prop} (ws : List Int) (v : Value) (room : Int) (w : World) (h : RdZ P w v ws) (h0 : 0 < ws.length) (h8 : ws.length ≤ 8) (hk : OkWs ws) (hr : 0 ≤ room ∧ room ≤ 200) :
    Calls Tryz.prog 100 #[v, .int .i64 room] w (MakesZ (widthsM ws room) w) := by
  obtain ⟨pa, cap, rfl, hc1, hc2⟩ := sliceZ h
  have HH := Lib.hid h
  have HK := Lib.hid hk
  obtain ⟨n, hn⟩ : ∃ n, ws.length = n := ⟨_, rfl⟩
  have HN := Lib.hid hn
  rw [hn] at HH h0 h8 hc1 ⊢
  have r1 := hr.1
  have r2 := hr.2
  have hmk := make_ints n (by omega) w
  have hA := below_box w (.cells (madeCells #[.int .i64 0] n) 3)
  have HO := Lib.hid (show (w.alloc (.cells (madeCells #[.int .i64 0] n) 3)).ownsRow w.heap.size 3 1 (.slice (some ⟨w.heap.size, 0, none⟩) n n) n (numsZ (fnL n (fun j => if j < 0 then baseG ws j else 0))) from by
    have h := World.ownsRow_lit (e := 3) (size := 1) (base := w.heap.size) w (madeCells #[.int .i64 0] n) n (Nat.le_refl _) (by unfold maxLen; omega) (by simp [madeCells])
    rw [made_int] at h
    exact own_fn h (fun j _ => by simp))
  have HA := Lib.hid hA
  obtain ⟨g, hg⟩ : ∃ g, w.heap.size = g := ⟨_, rfl⟩
  have HG := Lib.hid hg
  obtain ⟨S, hS⟩ : ∃ S : Nat → Int, S = fun i => sumZ (fnL i (baseG ws)) := ⟨_, rfl⟩
  have HS := Lib.hid hS
  have hSb : ∀ i : Nat, i ≤ n → 0 ≤ S i ∧ S i ≤ 1600 := fun i hi => by
    have := sum_bd (base_ok hk) i
    rw [hS]
    simp only
    omega
  have HSB := Lib.hid hSb
  have HS1 := Lib.hid (show ∀ i, S (i + 1) = S i + baseG ws i from fun i => by rw [hS]; exact sum_snoc i _)
  have hS0 : S 0 = 0 := by rw [hS]; rfl
  have HSN := Lib.hid (show sumZ (baseL ws) = S n by rw [hS]; unfold baseL; rw [hn])
  clear h hk hn hr hA hS hSb
  go_enter Tryz.func100, Tryz.ntmps100
  go_wp2_with fail
  rw [hg] at HO
  clear hmk
  go_loopw [1, 6, 17] (fun a f i wr => ∃ k : Nat, i = .int .i64 k ∧ k ≤ n ∧ a = .int .i64 (room - S k) ∧ f = .int .i64 (rank ws k : Nat) ∧ Hid (wr.ownsRow g 3 1 (.slice (some ⟨g, 0, none⟩) n n) n (numsZ (fnL n (fun j => if j < k then baseG ws j else 0)))) ∧ Hid (Below g w wr)) (fun _ _ i _ => n - (intOf i).toNat)
  case atStart => exact ⟨0, rfl, Nat.zero_le _, by rw [hS0, Int.sub_zero], by rw [rank_zero]; rfl, HO, by rw [← HG.out]; exact HA⟩
  case round =>
    obtain ⟨k, rfl, hkn, rfl, rfl, HOk, HB⟩ := hrel
    have hsb := HSB.out k hkn
    have hs1 := hsb.1
    have hs2 := hsb.2
    have hrk := rank_le ws k
    by_cases hlt : k < n
    · have k1 : (k : Int) < n := by omega
      have hkl : k < ws.length := by rw [HN.out]; exact hlt
      obtain ⟨b, off, rfl, hc⟩ := (HH.out.below (by have := HB.out; rw [← HG.out] at this; exact this)).cell hkl
      rw [← wAt_at hkl] at hc
      obtain ⟨hcell, hfz⟩ := own_cell HOk.out hlt
      rw [if_neg (by omega)] at hcell
      have HLT := Lib.hid hlt
      have HKL := Lib.hid hkl
      have hw := wAt_ok HK.out k
      have HBM := Lib.hid (base_max HK.out k)
      have hbk := base_ok HK.out k
      have HSK := Lib.hid (HS1.out k)
      have HST := Lib.hid (own_fn (own_set HOk.out k (baseG ws k)) (z' := fun j => if j < k + 1 then baseG ws j else 0) (fun j hj => by
        by_cases e : j = k
        · subst e; simp
        · simp only [if_neg e]
          by_cases h : j < k
          · rw [if_pos h, if_pos (by omega)]
          · rw [if_neg h, if_neg (by omega)]))
      have HBS := Lib.hid (HB.out.setCell (p := ⟨g, k, none⟩) (Nat.le_refl _) (.int .i64 (baseG ws k)))
      have hcell2 := (own_cell HST.out hlt).1
      rw [if_pos (by omega)] at hcell2
      have HRF := Lib.hid (show wAt ws k = 0 → rank ws (k + 1) = rank ws k + 1 from rank_free hkl)
      have HRX := Lib.hid (show wAt ws k ≠ 0 → rank ws (k + 1) = rank ws k from rank_fixed hkl)
      obtain ⟨x, hx⟩ : ∃ x, wAt ws k = x := ⟨_, rfl⟩
      obtain ⟨y, hy⟩ : ∃ y, baseG ws k = y := ⟨_, rfl⟩
      obtain ⟨t, ht⟩ : ∃ t, S k = t := ⟨_, rfl⟩
      obtain ⟨q, hq⟩ : ∃ q, rank ws k = q := ⟨_, rfl⟩
      rw [hx] at hc hw HBM HRF HRX
      rw [hy] at HBM hbk HSK HST HBS hcell2
      rw [ht] at hs1 hs2 HSK ⊢
      rw [hq] at hrk HRF HRX ⊢
      have x1 := hw.1
      have x2 := hw.2
      have y1 := hbk.1
      have y2 := hbk.2
      clear hsb hlt hkl hw hbk hx hy ht hq
      by_cases hz : x = 0
      · subst hz
        obtain rfl : y = 1 := by have := HBM.out; omega
        have HRQ := Lib.hid (HRF.out rfl)
        go_wp2_with fail
        go_roundw
        case measure => have := HLT.out; simp [intOf]; omega
        case rel => exact ⟨k + 1, by go_num, HLT.out, by rw [HSK.out]; congr 1; omega, by rw [HRQ.out]; go_num, HST, HBS⟩
      · have hzb : (x == 0) = false := by simpa using hz
        have hx1 : ¬ x < 1 := by omega
        obtain rfl : y = x := by have := HBM.out; omega
        have HRQ := Lib.hid (HRX.out hz)
        clear hz
        go_wp2_with fail
        go_roundw
        case measure => have := HLT.out; simp [intOf]; omega
        case rel => exact ⟨k + 1, by go_num, HLT.out, by rw [HSK.out]; congr 1; omega, by rw [HRQ.out], HST, HBS⟩
    · obtain rfl : k = n := by omega
      have hzk : ¬ (k : Int) < k := by omega
      have hbl : fnL k (fun j => if j < k then baseG ws j else 0) = baseL ws := by
        unfold baseL
        rw [HN.out]
        exact fnL_eq fun j hj => by rw [if_pos hj]
      have hO2 := HOk.out
      rw [hbl] at hO2
      have hll : (baseL ws).length = k := by unfold baseL; rw [fnL_len]; exact HN.out
      have HWL := Lib.hid (show (widthsM ws room).length = k by rw [widthsM_len]; exact HN.out)
      by_cases hneg : room - S k < 0
      · have HWM := Lib.hid (show widthsM ws room = narrowN (S k - room).toNat (baseL ws) by unfold widthsM; rw [HSN.out, if_pos (by omega)])
        obtain ⟨c, hc⟩ : ∃ c : Nat, S k - room = c := ⟨(S k - room).toNat, by omega⟩
        have hcn : (S k - room).toNat = c := by omega
        have hng : -(room - S k) = (c : Int) := by omega
        rw [hcn] at HWM
        have HNP := Lib.hid (narrow_pro (B := g) (baseL ws) (.slice (some ⟨g, 0, none⟩) k k) c wr (by rw [hll]; exact hO2) (by rw [hll]; exact h0) (by omega) (fun x hx => by
          unfold baseL fnL at hx
          obtain ⟨j, _, rfl⟩ := List.mem_map.1 hx
          have := base_ok HK.out j
          omega))
        rw [hll] at HNP
        have HCN := Lib.hid hcn
        obtain ⟨t, ht⟩ : ∃ t, S k = t := ⟨_, rfl⟩
        rw [ht] at hneg hs1 hs2 hng ⊢
        clear hlt hsb hbl hO2 hll hc hcn ht
        go_wp2_with fail
        refine HNP.out.mono ?_
        rintro e w4 ⟨rfl, ho4, hb4⟩
        have HO4 := Lib.hid ho4
        have HB4 := Lib.hid (HB.out.trans hb4)
        clear ho4 hb4
        go_wp2_with fail
        go_ret
        exact ⟨_, rfl, by rw [HWM.out, HG.out, narrowN_len, show (baseL ws).length = k by unfold baseL; rw [fnL_len]; exact HN.out]; exact HO4.out, by rw [HG.out]; exact HB4.out⟩
      · obtain ⟨C, hC⟩ : ∃ C : Nat, room - S k = C := ⟨(room - S k).toNat, by omega⟩
        have HWM := Lib.hid (show widthsM ws room = fnL k (dealG ws (freeN ws) C) by unfold widthsM; rw [HSN.out, if_neg (by omega), hC, HN.out]; rfl)
        have hC1 : C ≤ 200 := by omega
        obtain ⟨f, hf⟩ : ∃ f, freeN ws = f := ⟨_, rfl⟩
        have hf2 : rank ws k = f := by rw [← hf]; unfold freeN; rw [HN.out]
        rw [hf] at HWM
        have HFR := Lib.hid hf
        have hf8 : f ≤ 8 := by rw [← hf2]; have := rank_le ws k; omega
        have HO3 := Lib.hid (own_fn HOk.out (z' := fun j => if j < 0 then dealG ws f C j else baseG ws j) (fun j hj => by rw [if_pos hj, if_neg (by omega)]))
        rw [hC, hf2]
        clear hlt hsb hbl hO2 hll hC hf hf2 hneg
        go_wp2_with fail
        go_loopw [1, 6, 47] (fun a fv i wr => ∃ j : Nat, i = .int .i64 j ∧ j ≤ k ∧ a = .int .i64 (leftN f C (rank ws j) : Nat) ∧ fv = .int .i64 (f - rank ws j : Nat) ∧ Hid (wr.ownsRow g 3 1 (.slice (some ⟨g, 0, none⟩) k k) k (numsZ (fnL k (fun m => if m < j then dealG ws f C m else baseG ws m)))) ∧ Hid (Below g w wr)) (fun _ _ i _ => k - (intOf i).toNat)
        case atStart => exact ⟨0, rfl, Nat.zero_le _, by rw [rank_zero, left_zero], by rw [rank_zero]; rfl, HO3, HB⟩
        case round =>
          obtain ⟨j, rfl, hjn, rfl, rfl, HOj, HBj⟩ := hrel
          by_cases hlt : j < k
          · have j1 : (j : Int) < k := by omega
            have hjl : j < ws.length := by rw [HN.out]; exact hlt
            obtain ⟨b, off, rfl, hc⟩ := (HH.out.below (by have := HBj.out; rw [← HG.out] at this; exact this)).cell hjl
            rw [← wAt_at hjl] at hc
            obtain ⟨hcell, hfz⟩ := own_cell HOj.out hlt
            rw [if_neg (by omega)] at hcell
            have HLT := Lib.hid hlt
            have hw := wAt_ok HK.out j
            by_cases hz : wAt ws j = 0
            · have hrl := rank_lt hjl hz
              rw [HFR.out] at hrl
              have hrn := rank_free hjl hz
              have hgv := left_give (c := C) hrl
              have hln := left_next (c := C) hrl
              have hgl := give_le f C (rank ws j)
              have hll := left_le f C (rank ws j)
              have hbase : baseG ws j = 1 := by unfold baseG one; rw [if_pos hz]
              have hdl : dealG ws f C j = 1 + (give f C (rank ws j) : Nat) := by unfold dealG; rw [if_pos hz]
              have HST := Lib.hid (own_fn (own_set HOj.out j (1 + (give f C (rank ws j) : Nat))) (z' := fun m => if m < j + 1 then dealG ws f C m else baseG ws m) (fun m hm => by
                by_cases e : m = j
                · subst e; simp [hdl]
                · simp only [if_neg e]
                  by_cases h : m < j
                  · rw [if_pos h, if_pos (by omega)]
                  · rw [if_neg h, if_neg (by omega)]))
              have HBS := Lib.hid (HBj.out.setCell (p := ⟨g, j, none⟩) (Nat.le_refl _) (.int .i64 (1 + (give f C (rank ws j) : Nat))))
              rw [hz] at hc
              rw [hbase] at hcell
              have HRN := Lib.hid hrn
              have HLN := Lib.hid hln
              obtain ⟨q, hq⟩ : ∃ q, rank ws j = q := ⟨_, rfl⟩
              rw [hq] at HRN HLN hrl hgv hgl hll HST HBS ⊢
              obtain ⟨L, hL⟩ : ∃ L, leftN f C q = L := ⟨_, rfl⟩
              obtain ⟨G, hG⟩ : ∃ G, give f C q = G := ⟨_, rfl⟩
              obtain ⟨m, hm⟩ : ∃ m, f - q = m := ⟨_, rfl⟩
              rw [hL, hG] at hgv HLN
              rw [hL] at hll ⊢
              rw [hG] at hgl HST HBS
              rw [hm] at hgv ⊢
              have hm8 : m ≤ 8 := by omega
              have hm0 : 0 < m := by omega
              have hL2 : L ≤ 200 := by omega
              have hG2 : G ≤ 201 := by omega
              obtain ⟨G1, L1, m1, e1, e5, e6, e7, hG1, hL1, hm1⟩ := share_nums hL2 hm0 hm8 hG2 hgv HLN.out.2
              have hm0i : (0 : Int) < m := Int.natCast_pos.2 hm0
              have hmne : (m : Int) ≠ 0 := Int.ne_of_gt hm0i
              have HL1 := Lib.hid hL1
              have HM1 := Lib.hid hm1
              have hGL : G ≤ L := HLN.out.2
              have E1 := Lib.hid e1
              have E5' := Lib.hid hG1
              have E6' := Lib.hid (show (L : Int) - G = (L1 : Int) by rw [← hL1]; omega)
              have E7' := Lib.hid (show (m : Int) - 1 = (m1 : Int) by rw [← hm1]; omega)
              have E5 := Lib.hid e5
              have E6 := Lib.hid e6
              have E7 := Lib.hid e7
              clear hG1 hL1 hm1 e1 e5 e6 e7 hgv
              have HM := Lib.hid hm
              clear hw hz hrn hln hbase hdl hq hL hG hm hjl
              go_upto_region 19 with fail
              rw [E1.out]
              go_wp2_with fail
              go_roundw
              case measure => have := HLT.out; simp [intOf]; omega
              case rel => exact ⟨j + 1, by go_num, HLT.out, by rw [HRN.out, ← HLN.out.1, HL1.out, E6'.out], by rw [HRN.out, show f - (q + 1) = m - 1 by have := HM.out; omega, HM1.out, E7'.out], HST, HBS⟩
            · have hrn := rank_fixed hjl hz
              have hzb : (wAt ws j == 0) = false := by simpa using hz
              have HRN := Lib.hid hrn
              have HOJ := Lib.hid (own_fn HOj.out (z' := fun m => if m < j + 1 then dealG ws f C m else baseG ws m) (fun m hm => by
                by_cases e : m = j
                · subst e
                  rw [if_neg (by omega), if_pos (by omega)]
                  unfold dealG baseG one
                  rw [if_neg hz, if_neg hz]
                · by_cases h : m < j
                  · rw [if_pos h, if_pos (by omega)]
                  · rw [if_neg h, if_neg (by omega)]))
              clear hz hrn hw hjl
              go_wp2_with fail
              go_roundw
              case measure => have := HLT.out; simp [intOf]; omega
              case rel => exact ⟨j + 1, by go_num, HLT.out, by rw [HRN.out], by rw [HRN.out], HOJ, HBj⟩
          · obtain rfl : j = k := by omega
            have hzj : ¬ (j : Int) < j := by omega
            have HFL := Lib.hid (own_fn HOj.out (z' := dealG ws f C) (fun m hm => by rw [if_pos hm]))
            clear hlt
            go_wp2_with fail
            go_ret
            exact ⟨_, rfl, by rw [HWL.out, HWM.out, HG.out]; exact HFL.out, by rw [HG.out]; exact HBj.out⟩
end Go.Proofs.YtjohhahfpgfjdaaGreatDoor.Tb
end
section
namespace Go.Proofs.YtjohhahfpgfjdaaGreatDoor.Tb
open Go.RowKit Go.Maps
set_option linter.unusedVariables false
set_option linter.unusedSimpArgs false
theorem enters_noWidth : Enters 99 := enters Tryz.func99 (by kernel_rfl) (by kernel_rfl)
theorem okW_within (x : Int) : within x 0 200 = okW x := rfl
set_option maxRecDepth 100000 in
theorem noWidth_pro (x : Int) (w : World) : Calls Tryz.prog 99 #[.int .i64 x] w fun e w' => e = .returned (.bool (!okW x)) ∧ w = w' := by
  have HW := Lib.hid (within_pro x 0 200 w)
  rw [okW_within] at HW
  go_enter Tryz.func99, Tryz.ntmps99
  go_wp2_with fail
  refine HW.out.mono ?_
  rintro e w1 ⟨rfl, rfl⟩
  go_wp2_with fail
  go_ret
  exact ⟨rfl, rfl⟩
def IdxZ (l : List Int) (w : World) (e : Ending) (w' : World) : Prop := w = w' ∧ ∃ i : Int, e = .returned (.int .i64 i) ∧ (l.any (fun x => !okW x) = decide (0 ≤ i))
set_option maxRecDepth 100000 in
set_option maxHeartbeats 1000000 in
theorem indexZ_pro {P : Nat → Prop} (l : List Int) (v : Value) (w : World) (h : RdZ P w v l) : Calls Tryz.prog 123 #[v, .func (.func 99) #[] #[]] w (IdxZ l w) := by
  obtain ⟨pa, cap, rfl, h1, h2⟩ := sliceZ h
  have HH := Lib.hid h
  obtain ⟨n, hn⟩ : ∃ n, l.length = n := ⟨_, rfl⟩
  have HN := Lib.hid hn
  rw [hn] at HH h1 ⊢
  have hn62 : n ≤ 9223372036854775807 := by omega
  clear h hn h1
  go_enter Tryz.func123, Tryz.ntmps123
  go_wp2_with fail
  go_loop [8] (fun i => ∃ k : Nat, i = .int .i64 k ∧ k ≤ n ∧ Hid (∀ j (hj : j < l.length), j < k → okW l[j] = true)) (fun i => n - (intOf i).toNat)
  case atStart => exact ⟨0, rfl, Nat.zero_le _, Lib.hid (fun j _ h => absurd h (Nat.not_lt_zero _))⟩
  case round =>
    obtain ⟨k, rfl, hk, HK⟩ := hrel
    by_cases hlt : k < n
    · have hkl : k < l.length := by rw [HN.out]; exact hlt
      obtain ⟨b, off, rfl, hc⟩ := HH.out.cell hkl
      obtain ⟨x, hx⟩ : ∃ x, l[k] = x := ⟨_, rfl⟩
      rw [hx] at hc
      have HX := Lib.hid hx
      have HC := Lib.hid (noWidth_pro x w)
      obtain ⟨z, hz⟩ : ∃ z, okW x = z := ⟨_, rfl⟩
      rw [hz] at HC
      have HZ := Lib.hid hz
      have hE := enters_noWidth #[.int .i64 x] w
      have k1 : (k : Int) < n := by omega
      have HLT := Lib.hid hlt
      clear hx hz hlt
      cases z with
      | false =>
        go_wp2_with fail
        refine HC.out.mono ?_
        rintro e w1 ⟨rfl, rfl⟩
        go_wp2_with fail
        go_ret
        exact ⟨rfl, _, rfl, by rw [decide_eq_true (by omega : (0 : Int) ≤ k)]; exact List.any_eq_true.2 ⟨_, List.getElem_mem hkl, by rw [HX.out, HZ.out]; rfl⟩⟩
      | true =>
        go_wp2_with fail
        refine HC.out.mono ?_
        rintro e w1 ⟨rfl, rfl⟩
        go_wp2_with fail
        go_round
        case measure => have := HLT.out; simp [intOf]; omega
        case rel =>
          refine ⟨k + 1, by go_num, HLT.out, Lib.hid (fun j hj hjk => ?_)⟩
          rcases Nat.lt_or_ge j k with h | h
          · exact HK.out j hj h
          · obtain rfl : j = k := by omega
            rw [HX.out]; exact HZ.out
    · obtain rfl : k = n := by omega
      have hz1 : ¬ (k : Int) < k := by omega
      clear hlt
      go_wp2_with fail
      go_ret
      refine ⟨rfl, _, rfl, ?_⟩
      have : l.any (fun x => !okW x) = false := by
        rw [List.any_eq_false]
        intro x hx
        obtain ⟨j, hj, rfl⟩ := List.mem_iff_getElem.1 hx
        simp [HK.out j hj (by rw [← HN.out]; exact hj)]
      rw [this]; rfl
set_option maxRecDepth 100000 in
theorem containsZ_pro {P : Nat → Prop} (l : List Int) (v : Value) (w : World) (h : RdZ P w v l) : Calls Tryz.prog 98 #[v, .func (.func 99) #[] #[]] w fun e w' => e = .returned (.bool (l.any (fun x => !okW x))) ∧ w = w' := by
  obtain ⟨pa, cap, rfl, h1, h2⟩ := sliceZ h
  have HI := Lib.hid (indexZ_pro l _ w h)
  clear h h1 h2
  go_enter Tryz.func98, Tryz.ntmps98
  go_wp2_with fail
  refine HI.out.mono ?_
  rintro e w1 ⟨rfl, i, rfl, hi⟩
  have HE := Lib.hid hi
  clear hi
  go_wp2_with fail
  go_ret
  exact ⟨by rw [HE.out]; rfl, rfl⟩
theorem make_cols (N : Nat) (hN : N ≤ 1000) (w : World) : (Instr.makeSlice 91 (.int .i64 (N : Int)) (.int .i64 (N : Int))).run Tryz.prog w = .ok (.slice (some ⟨w.heap.size, 0, none⟩) N N) (w.alloc (.cells (madeCells #[.int .i64 0, .int .i64 0] (N * 2)) 172)) := by
  obtain ⟨i0, hi0, hz0, hz1, hz2⟩ := info_parts infoC
  have h := run_make (P := Tryz.prog) w 91 172 i0 (.agg #[.int .i64 0, .int .i64 0]) Tryz.underlying91 hi0 hz0 .i64 .i64 (N : Int) (N : Int) (by omega) (by omega) (by rw [hz2]; omega) (by omega)
  rw [hz1, show (N : Int).toNat = N by omega] at h
  exact h
def zeroC (N : Nat) : List (Int × Int) := List.replicate N (0, 0)
theorem rowsC_zero : ∀ N : Nat, rowsC (zeroC N) = List.replicate (N * 2) (.int .i64 0)
  | 0 => rfl
  | N + 1 => by
    have := rowsC_zero N
    unfold zeroC rowsC at this ⊢
    rw [List.replicate_succ, List.flatMap_cons, this, show (N + 1) * 2 = N * 2 + 1 + 1 by omega, List.replicate_succ, List.replicate_succ]
    rfl
theorem made_cols (N : Nat) : (madeCells #[.int .i64 0, .int .i64 0] (N * 2)).toList = rowsC (zeroC N) := by
  rw [rowsC_zero]
  apply List.ext_getElem?
  intro j
  simp [madeCells]
  by_cases h : j < N * 2
  · have : j % 2 = 0 ∨ j % 2 = 1 := by omega
    rcases this with e | e <;> simp [h, e]
  · simp [h]
theorem rowsC_set : ∀ (l : List (Int × Int)) (i : Nat) (h : i < l.length) (c : Int × Int), ((rowsC l).set (i * 2) (.int .i64 c.1)).set (i * 2 + 1) (.int .i64 c.2) = rowsC (l.set i c)
  | [], i, h, _ => absurd h (by simp)
  | r :: l, 0, _, c => by simp [rowsC, colRow]
  | r :: l, i + 1, h, c => by
    have ih := rowsC_set l i (by simpa using h) c
    have e : ∀ (a : Int × Int) (m : List (Int × Int)), rowsC (a :: m) = colRow a ++ rowsC m := fun a m => by simp [rowsC]
    rw [List.set_cons_succ, e, e, List.set_append_right _ _ (by simp [colRow]; omega), List.set_append_right _ _ (by simp [colRow]; omega), show (colRow r).length = 2 from rfl, show (i + 1) * 2 - 2 = i * 2 by omega, show (i + 1) * 2 + 1 - 2 = i * 2 + 1 by omega, ih]
/-- What Columns answers. -/
def ColsPost (ws : List Int) (wide : Int) (w : World) (e : Ending) (w' : World) : Prop := ∃ v, e = .returned (.tuple #[v, .int .i64 (colsE ws wide)]) ∧ RdC (w.heap.size ≤ ·) w' v (colsL ws wide) ∧ Below w.heap.size w w'
theorem cols_bad {ws : List Int} {wide : Int} {w w' : World} (h : colsE ws wide = 1) (hb : Below w.heap.size w w') : ColsPost ws wide w (.returned (.tuple #[.slice none 0 0, .int .i64 1])) w' :=
  ⟨.slice none 0 0, by rw [h], ⟨none, 0, by unfold colsL; rw [h]; rfl, by unfold colsL; rw [h]; exact Nat.le_refl _, Nat.zero_le _, fun j hj => absurd hj (by unfold colsL; rw [h]; simp)⟩, hb⟩
/-- The columns so far, and empty ones. -/
def partC (gap : Int) (zs : List Int) (k : Nat) : List (Int × Int) := colsAt gap 0 (zs.take k) ++ zeroC (zs.length - k)
theorem partC_len (gap : Int) (zs : List Int) (k : Nat) (h : k ≤ zs.length) : (partC gap zs k).length = zs.length := by
  simp [partC, colsAt_len, zeroC]
  omega
theorem partC_set (gap : Int) (zs : List Int) (k : Nat) (h : k < zs.length) : (partC gap zs k).set k (sumZ (zs.take k) + gap * k, zs[k]) = partC gap zs (k + 1) := by
  unfold partC
  have hl : (colsAt gap 0 (zs.take k)).length = k := by rw [colsAt_len, List.length_take]; omega
  rw [List.set_append_right _ _ (by omega), hl, Nat.sub_self, List.take_succ_eq_append_getElem h, colsAt_snoc, List.append_assoc]
  congr 1
  rw [show zs.length - k = (zs.length - (k + 1)) + 1 by omega]
  unfold zeroC
  rw [List.replicate_succ, List.set_cons_zero, List.length_take, Nat.min_eq_left (by omega)]
  simp
end Go.Proofs.YtjohhahfpgfjdaaGreatDoor.Tb
end
section
namespace Go.Proofs.YtjohhahfpgfjdaaGreatDoor.Tb
open Go.RowKit Go.Maps
set_option linter.unusedVariables false
set_option linter.unusedSimpArgs false
theorem deal_bd {ws : List Int} (hk : OkWs ws) (f C i : Nat) (hC : C ≤ 200) : 0 ≤ dealG ws f C i ∧ dealG ws f C i ≤ 2000 := by
  have := wAt_ok hk i
  have := give_le f C (rank ws i)
  unfold dealG
  split <;> omega
theorem widths_bd {ws : List Int} (hk : OkWs ws) (h8 : ws.length ≤ 8) {room : Int} (h0 : 0 ≤ room) (h2 : room ≤ 200) : ∀ x ∈ widthsM ws room, -2000 ≤ x ∧ x ≤ 2000 := by
  have hs := sum_bd (base_ok hk) ws.length
  unfold widthsM
  split
  · intro x hx
    have := narrowN_bd (lo := 0) (hi := 2000) (sumZ (baseL ws) - room).toNat (baseL ws) 0 (fun x hx => by
      unfold baseL fnL at hx
      obtain ⟨j, _, rfl⟩ := List.mem_map.1 hx
      have := base_ok hk j
      omega) x hx
    unfold baseL at this hs
    omega
  · intro x hx
    unfold fnL at hx
    obtain ⟨j, _, rfl⟩ := List.mem_map.1 hx
    have := deal_bd hk (freeN ws) (room - sumZ (baseL ws)).toNat j (by
      unfold baseL
      omega)
    omega
theorem sum_take_bd {l : List Int} (h : ∀ x ∈ l, -2000 ≤ x ∧ x ≤ 2000) : ∀ k : Nat, k ≤ l.length → -2000 * k ≤ sumZ (l.take k) ∧ sumZ (l.take k) ≤ 2000 * k
  | 0, _ => by simp [sumZ]
  | k + 1, hk => by
    have ih := sum_take_bd h k (by omega)
    have := h _ (List.getElem_mem (show k < l.length by omega))
    rw [List.take_succ_eq_append_getElem (by omega), sumZ_app]
    simp only [sumZ]
    omega
theorem colsE_ok {ws : List Int} {wide : Int} (h1 : 10 ≤ wide) (h2 : wide ≤ 200) (h3 : 1 ≤ ws.length) (h4 : ws.length ≤ 8) (h5 : ws.any (fun w => !okW w) = false) : colsE ws wide = 0 := by
  unfold colsE
  rw [if_neg]
  rintro (h | h | h | h | h)
  · omega
  · omega
  · omega
  · omega
  · rw [h5] at h; cases h
theorem okWs_of {ws : List Int} (h : ws.any (fun w => !okW w) = false) : OkWs ws := fun w hw => by
  have := (List.any_eq_false.1 h) w hw
  simp [okW] at this
  exact this
theorem own_cells {W : World} {B n g cap : Nat} {l : List (Int × Int)} (h : W.ownsRow B 172 2 (.slice (some ⟨g, 0, none⟩) n cap) n (rowsC l)) (hn : n = l.length) {i : Nat} (hi : i < n) : W.cell? ⟨g, i * 2, none⟩ = some (.int .i64 (l.getD i (0, 0)).1) ∧ W.cell? ⟨g, i * 2 + 1, none⟩ = some (.int .i64 (l.getD i (0, 0)).2) ∧ W.frozen? ⟨g, i * 2, none⟩ = false ∧ W.frozen? ⟨g, i * 2 + 1, none⟩ = false := by
  have e : l.getD i (0, 0) = l[i]'(by omega) := by simp [List.getD_eq_getElem?_getD, show i < l.length by omega]
  refine ⟨?_, ?_, World.ownsRow.frozenAt h _, World.ownsRow.frozenAt h _⟩
  · have := World.ownsRow.cellAt h (i * 2 + 0) (by omega)
    rw [rowsC_at l i 0 (by omega) (by omega)] at this
    rw [e]; exact this
  · have := World.ownsRow.cellAt h (i * 2 + 1) (by omega)
    rw [rowsC_at l i 1 (by omega) (by omega)] at this
    rw [e]; exact this
theorem own_setC {W : World} {B n g cap : Nat} {l : List (Int × Int)} (h : W.ownsRow B 172 2 (.slice (some ⟨g, 0, none⟩) n cap) n (rowsC l)) {i : Nat} (hi : i < l.length) (a b : Int) : ((W.setCell ⟨g, i * 2, none⟩ (.int .i64 a)).setCell ⟨g, i * 2 + 1, none⟩ (.int .i64 b)).ownsRow B 172 2 (.slice (some ⟨g, 0, none⟩) n cap) n (rowsC (l.set i (a, b))) := by
  rw [← rowsC_set l i hi (a, b)]
  exact ((h.stored (i * 2) (.int .i64 a)).1.stored (i * 2 + 1) (.int .i64 b)).1
set_option maxRecDepth 100000 in
set_option maxHeartbeats 4000000 in
theorem columns_pro {P : Nat → Prop} (ws : List Int) (v : Value) (wide : Int) (w : World) (h : RdZ P w v ws) (hwf : (Lit.int .i64 wide).wf = true) :
    Calls Tryz.prog 65 #[v, .int .i64 wide] w (ColsPost ws wide w) := by
  obtain ⟨pa, cap, rfl, hc1, hc2⟩ := sliceZ h
  have HCO := Lib.hid (containsZ_pro ws _ w h)
  have HW1 := Lib.hid (within_pro wide 10 200 w)
  have HW2 := Lib.hid (within_pro ws.length 1 8 w)
  by_cases hw : 10 ≤ wide ∧ wide ≤ 200
  · have hwt : within wide 10 200 = true := decide_eq_true hw
    rw [hwt] at HW1
    by_cases hn8 : 1 ≤ ws.length ∧ ws.length ≤ 8
    · have hnt : within ws.length 1 8 = true := decide_eq_true (by omega)
      rw [hnt] at HW2
      cases hb : ws.any (fun w => !okW w) with
      | true =>
        rw [hb] at HCO
        have HE := Lib.hid (show colsE ws wide = 1 by unfold colsE; rw [hb]; simp)
        obtain ⟨n, hn⟩ : ∃ n, ws.length = n := ⟨_, rfl⟩
        rw [hn] at HW2 HCO
        rw [hn]
        clear h hc1 hw hwt hn8 hnt hb hn
        go_enter Tryz.func65, Tryz.ntmps65
        go_wp2_with fail
        refine HW1.out.mono ?_
        rintro e w1 ⟨rfl, rfl⟩
        go_wp2_with fail
        refine HW2.out.mono ?_
        rintro e w1 ⟨rfl, rfl⟩
        go_wp2_with fail
        refine HCO.out.mono ?_
        rintro e w1 ⟨rfl, rfl⟩
        go_wp2_with fail
        go_ret2
        exact cols_bad HE.out (Below.refl _ _)
      | false =>
        rw [hb] at HCO
        have hk := okWs_of hb
        have HEO := Lib.hid (colsE_ok hw.1 hw.2 hn8.1 hn8.2 hb)
        have hw1 := hw.1
        have hw2 := hw.2
        have hn1 := hn8.1
        have hn2 := hn8.2
        have HK := Lib.hid hk
        obtain ⟨R, hR⟩ : ∃ R, roomOf ws.length wide = R := ⟨_, rfl⟩
        obtain ⟨G, hG⟩ : ∃ G, gapOf ws.length wide = G := ⟨_, rfl⟩
        have hRb : 0 ≤ R ∧ R ≤ 200 := by rw [← hR]; unfold roomOf; split <;> omega
        have hGb : 0 ≤ G ∧ G ≤ 1 := by rw [← hG]; unfold gapOf; split <;> omega
        have HM := Lib.hid (show colsL ws wide = colsAt G 0 (widthsM ws R) by unfold colsL colsM; rw [HEO.out, hR, hG]; rfl)
        have HBD := Lib.hid (widths_bd hk hn2 hRb.1 hRb.2)
        have HZL := Lib.hid (widthsM_len ws R)
        have HSH := Lib.hid (fun (w' : World) (hb : Below w.heap.size w w') => share_pro ws (.slice pa ws.length cap) R w' (h.below hb) hn1 hn2 hk hRb)
        obtain ⟨zs, hzs⟩ : ∃ zs, widthsM ws R = zs := ⟨_, rfl⟩
        rw [hzs] at HM HBD HZL
        have HSZ := Lib.hid hzs
        obtain ⟨n, hn⟩ : ∃ n, ws.length = n := ⟨_, rfl⟩
        rw [hn] at HW2 HCO HSH HZL hn1 hn2 hR hG ⊢
        have hB := below_box w (.cells (madeCells #[.int .i64 0, .int .i64 0] (n * 2)) 172)
        have HB := Lib.hid hB
        have hmk := make_cols n (by omega) w
        have HO := Lib.hid (show (w.alloc (.cells (madeCells #[.int .i64 0, .int .i64 0] (n * 2)) 172)).ownsRow w.heap.size 172 2 (.slice (some ⟨w.heap.size, 0, none⟩) n n) n (rowsC (partC G zs 0)) from by
          have h := World.ownsRow_lit (e := 172) (size := 2) (base := w.heap.size) w (madeCells #[.int .i64 0, .int .i64 0] (n * 2)) n (Nat.le_refl _) (by unfold maxLen; omega) (by simp [madeCells])
          rw [made_cols] at h
          have e : partC G zs 0 = zeroC n := by simp [partC, colsAt, HZL.out]
          rw [e]
          exact h)
        have HSW := Lib.hid (HSH.out _ hB)
        obtain ⟨W1, hW1⟩ : ∃ W1, w.alloc (.cells (madeCells #[.int .i64 0, .int .i64 0] (n * 2)) 172) = W1 := ⟨_, rfl⟩
        rw [hW1] at HB HO HSW
        obtain ⟨g, hg⟩ : ∃ g, w.heap.size = g := ⟨_, rfl⟩
        have HG := Lib.hid hg
        rw [hg] at HO
        have G1 := hGb.1
        have G2 := hGb.2
        have R1 := hRb.1
        have R2 := hRb.2
        have hmono : ∀ e w', MakesZ (widthsM ws R) W1 e w' → ∃ v, e = .returned v ∧ w'.ownsRow W1.heap.size 3 1 v n (numsZ zs) ∧ Below W1.heap.size W1 w' := fun e w' hm => by
          obtain ⟨v, e1, e2, e3⟩ := hm
          rw [hzs, HZL.out] at e2
          exact ⟨v, e1, e2, e3⟩
        have HSM := Lib.hid hmono
        clear h hc1 hw hwt hn8 hnt hb hn hk hRb hGb hB hzs hmono
        by_cases hroom : wide - (n - 1) < n
        · obtain rfl : R = wide := by rw [← hR]; unfold roomOf; rw [if_pos hroom]
          obtain rfl : G = 0 := by rw [← hG]; unfold gapOf; rw [if_pos hroom]
          clear hR hG
          go_enter Tryz.func65, Tryz.ntmps65
          go_wp2_with fail
          refine HW1.out.mono ?_
          rintro e w1 ⟨rfl, rfl⟩
          go_wp2_with fail
          refine HW2.out.mono ?_
          rintro e w1 ⟨rfl, rfl⟩
          go_wp2_with fail
          refine HCO.out.mono ?_
          rintro e w1 ⟨rfl, rfl⟩
          go_wp2_with fail
          refine HSW.out.mono ?_
          intro e w3 hmz
          obtain ⟨v3, rfl, ho3, hb3⟩ := HSM.out e w3 hmz
          obtain ⟨g3, c3, rfl, hB3, hg3, hc3, _, _⟩ := own_at ho3 HZL.out.symm hn1
          have HO3 := Lib.hid ho3
          have HOC := Lib.hid (own_below HO.out hb3)
          have HBB := Lib.hid (show Below g w w3 by have := HB.out.trans (hb3.mono HB.out.size); rw [HG.out] at this; exact this)
          have HGG := Lib.hid (show g < g3 by have := (own_base HO.out (c := g) rfl).2; omega)
          clear hmz ho3 hb3 hmk hB3 hg3 hc3
          go_wp2_with fail
          go_loopw [10, 41] (fun at_ i wr => ∃ k : Nat, i = .int .i64 k ∧ k ≤ n ∧ at_ = .int .i64 (sumZ (zs.take k) + (0 : Int) * k) ∧ Hid (wr.ownsRow g 172 2 (.slice (some ⟨g, 0, none⟩) n n) n (rowsC (partC 0 zs k))) ∧ Hid (Below g w wr) ∧ Hid (wr.ownsRow W1.heap.size 3 1 (.slice (some ⟨g3, 0, none⟩) n c3) n (numsZ zs))) (fun _ i _ => n - (intOf i).toNat)
          case atStart => exact ⟨0, rfl, Nat.zero_le _, by simp [sumZ], HOC, HBB, HO3⟩
          case round =>
            obtain ⟨k, rfl, hkn, rfl, HOk, HBk, HZk⟩ := hrel
            by_cases hlt : k < n
            · have k1 : (k : Int) < n := by omega
              have hkz : k < zs.length := by rw [HZL.out]; exact hlt
              obtain ⟨_, _, e3, _, _, _, _, hcz⟩ := own_at HZk.out HZL.out.symm hn1
              cases e3
              have hcz := hcz k hlt
              have hge : zs.getD k 0 = zs[k] := by simp [List.getD_eq_getElem?_getD, hkz]
              rw [hge] at hcz
              have hsb := sum_take_bd HBD.out k (by omega)
              have hzb := HBD.out _ (List.getElem_mem hkz)
              have hpl := partC_len 0 zs k (by omega)
              obtain ⟨d0, d1, f0, f1⟩ := own_cells HOk.out (by rw [hpl, HZL.out]) hlt
              have HST := Lib.hid (own_setC HOk.out (i := k) (by rw [hpl]; exact hkz) (sumZ (zs.take k) + (0 : Int) * k) zs[k])
              rw [partC_set 0 zs k hkz] at HST
              have HB5 := Lib.hid ((HBk.out.setCell (p := ⟨g, k * 2, none⟩) (Nat.le_refl _) (.int .i64 (sumZ (zs.take k) + (0 : Int) * k))).setCell (p := ⟨g, k * 2 + 1, none⟩) (Nat.le_refl _) (.int .i64 zs[k]))
              have HZ5 := Lib.hid (own_stays (W' := (wr.setCell ⟨g, k * 2, none⟩ (.int .i64 (sumZ (zs.take k) + (0 : Int) * k))).setCell ⟨g, k * 2 + 1, none⟩ (.int .i64 zs[k])) HZk.out fun c hc => by
                have hc' : g3 = c := by simpa [Value.ownBlock] using hc
                have hne : c ≠ g := by have := HGG.out; omega
                exact (Below.heap_setCell _ _ _ _ hne).trans (Below.heap_setCell _ _ _ _ hne))
              have HTS := Lib.hid (show sumZ (zs.take (k + 1)) = sumZ (zs.take k) + zs[k] by rw [List.take_succ_eq_append_getElem hkz, sumZ_app]; simp [sumZ])
              have hgk : (0 : Int) ≤ (0 : Int) * k ∧ (0 : Int) * k ≤ 8 := by omega
              have HGK := Lib.hid (show (0 : Int) * ((k + 1 : Nat) : Int) = (0 : Int) * k + 0 by omega)
              obtain ⟨z, hz⟩ : ∃ z, zs[k] = z := ⟨_, rfl⟩
              rw [hz] at hcz hzb HST HB5 HZ5 HTS
              obtain ⟨A, hA⟩ : ∃ A, sumZ (zs.take k) + (0 : Int) * k = A := ⟨_, rfl⟩
              have HAA := Lib.hid hA
              have hAb : -20000 ≤ A ∧ A ≤ 20000 := by omega
              rw [hA] at HST HB5 HZ5 ⊢
              obtain ⟨u0, hu0⟩ : ∃ u0, ((partC 0 zs k).getD k (0, 0)).1 = u0 := ⟨_, rfl⟩
              obtain ⟨u1, hu1⟩ : ∃ u1, ((partC 0 zs k).getD k (0, 0)).2 = u1 := ⟨_, rfl⟩
              rw [hu0] at d0
              rw [hu1] at d1
              have a1 := hAb.1
              have a2 := hAb.2
              have z1 := hzb.1
              have z2 := hzb.2
              have HLT := Lib.hid hlt
              have HAN := Lib.hid (show A + (z + 0) = sumZ (zs.take (k + 1)) + (0 : Int) * ((k + 1 : Nat) : Int) by rw [HTS.out, HGK.out, ← hA]; omega)
              clear hkz hge hsb hzb hpl hgk hz hA hAb hlt hu0 hu1
              go_wp2_with fail
              go_roundw
              case measure => have := HLT.out; simp [intOf]; omega
              case rel => exact ⟨k + 1, by go_num, HLT.out, by (rw [← HAN.out]) <;> simp, HST, HB5, HZ5⟩
            · obtain rfl : k = n := by omega
              have hzk : ¬ (k : Int) < k := by omega
              have HFI := Lib.hid (show partC 0 zs k = colsAt 0 0 zs by unfold partC; rw [List.take_of_length_le (by rw [HZL.out]; exact Nat.le_refl _), HZL.out, Nat.sub_self]; simp [zeroC])
              clear hlt
              go_wp2_with fail
              go_ret2
              exact ⟨.slice (some ⟨g, 0, none⟩) k k, by rw [HEO.out]; rfl, by
                have h := HOk.out
                rw [HFI.out] at h
                rw [HM.out, HG.out]
                exact RdC.own h (by rw [colsAt_len]; exact HZL.out.symm), by rw [HG.out]; exact HBk.out⟩
        · obtain rfl : R = wide - ((n : Int) - 1) := by rw [← hR]; unfold roomOf; rw [if_neg hroom]
          obtain rfl : G = 1 := by rw [← hG]; unfold gapOf; rw [if_neg hroom]
          clear hR hG
          go_enter Tryz.func65, Tryz.ntmps65
          go_wp2_with fail
          refine HW1.out.mono ?_
          rintro e w1 ⟨rfl, rfl⟩
          go_wp2_with fail
          refine HW2.out.mono ?_
          rintro e w1 ⟨rfl, rfl⟩
          go_wp2_with fail
          refine HCO.out.mono ?_
          rintro e w1 ⟨rfl, rfl⟩
          go_wp2_with fail
          refine HSW.out.mono ?_
          intro e w3 hmz
          obtain ⟨v3, rfl, ho3, hb3⟩ := HSM.out e w3 hmz
          obtain ⟨g3, c3, rfl, hB3, hg3, hc3, _, _⟩ := own_at ho3 HZL.out.symm hn1
          have HO3 := Lib.hid ho3
          have HOC := Lib.hid (own_below HO.out hb3)
          have HBB := Lib.hid (show Below g w w3 by have := HB.out.trans (hb3.mono HB.out.size); rw [HG.out] at this; exact this)
          have HGG := Lib.hid (show g < g3 by have := (own_base HO.out (c := g) rfl).2; omega)
          clear hmz ho3 hb3 hmk hB3 hg3 hc3
          go_wp2_with fail
          go_loopw [10, 41] (fun at_ i wr => ∃ k : Nat, i = .int .i64 k ∧ k ≤ n ∧ at_ = .int .i64 (sumZ (zs.take k) + (1 : Int) * k) ∧ Hid (wr.ownsRow g 172 2 (.slice (some ⟨g, 0, none⟩) n n) n (rowsC (partC 1 zs k))) ∧ Hid (Below g w wr) ∧ Hid (wr.ownsRow W1.heap.size 3 1 (.slice (some ⟨g3, 0, none⟩) n c3) n (numsZ zs))) (fun _ i _ => n - (intOf i).toNat)
          case atStart => exact ⟨0, rfl, Nat.zero_le _, by simp [sumZ], HOC, HBB, HO3⟩
          case round =>
            obtain ⟨k, rfl, hkn, rfl, HOk, HBk, HZk⟩ := hrel
            by_cases hlt : k < n
            · have k1 : (k : Int) < n := by omega
              have hkz : k < zs.length := by rw [HZL.out]; exact hlt
              obtain ⟨_, _, e3, _, _, _, _, hcz⟩ := own_at HZk.out HZL.out.symm hn1
              cases e3
              have hcz := hcz k hlt
              have hge : zs.getD k 0 = zs[k] := by simp [List.getD_eq_getElem?_getD, hkz]
              rw [hge] at hcz
              have hsb := sum_take_bd HBD.out k (by omega)
              have hzb := HBD.out _ (List.getElem_mem hkz)
              have hpl := partC_len 1 zs k (by omega)
              obtain ⟨d0, d1, f0, f1⟩ := own_cells HOk.out (by rw [hpl, HZL.out]) hlt
              have HST := Lib.hid (own_setC HOk.out (i := k) (by rw [hpl]; exact hkz) (sumZ (zs.take k) + (1 : Int) * k) zs[k])
              rw [partC_set 1 zs k hkz] at HST
              have HB5 := Lib.hid ((HBk.out.setCell (p := ⟨g, k * 2, none⟩) (Nat.le_refl _) (.int .i64 (sumZ (zs.take k) + (1 : Int) * k))).setCell (p := ⟨g, k * 2 + 1, none⟩) (Nat.le_refl _) (.int .i64 zs[k]))
              have HZ5 := Lib.hid (own_stays (W' := (wr.setCell ⟨g, k * 2, none⟩ (.int .i64 (sumZ (zs.take k) + (1 : Int) * k))).setCell ⟨g, k * 2 + 1, none⟩ (.int .i64 zs[k])) HZk.out fun c hc => by
                have hc' : g3 = c := by simpa [Value.ownBlock] using hc
                have hne : c ≠ g := by have := HGG.out; omega
                exact (Below.heap_setCell _ _ _ _ hne).trans (Below.heap_setCell _ _ _ _ hne))
              have HTS := Lib.hid (show sumZ (zs.take (k + 1)) = sumZ (zs.take k) + zs[k] by rw [List.take_succ_eq_append_getElem hkz, sumZ_app]; simp [sumZ])
              have hgk : (0 : Int) ≤ (1 : Int) * k ∧ (1 : Int) * k ≤ 8 := by omega
              have HGK := Lib.hid (show (1 : Int) * ((k + 1 : Nat) : Int) = (1 : Int) * k + 1 by omega)
              obtain ⟨z, hz⟩ : ∃ z, zs[k] = z := ⟨_, rfl⟩
              rw [hz] at hcz hzb HST HB5 HZ5 HTS
              obtain ⟨A, hA⟩ : ∃ A, sumZ (zs.take k) + (1 : Int) * k = A := ⟨_, rfl⟩
              have HAA := Lib.hid hA
              have hAb : -20000 ≤ A ∧ A ≤ 20000 := by omega
              rw [hA] at HST HB5 HZ5 ⊢
              obtain ⟨u0, hu0⟩ : ∃ u0, ((partC 1 zs k).getD k (0, 0)).1 = u0 := ⟨_, rfl⟩
              obtain ⟨u1, hu1⟩ : ∃ u1, ((partC 1 zs k).getD k (0, 0)).2 = u1 := ⟨_, rfl⟩
              rw [hu0] at d0
              rw [hu1] at d1
              have a1 := hAb.1
              have a2 := hAb.2
              have z1 := hzb.1
              have z2 := hzb.2
              have HLT := Lib.hid hlt
              have HAN := Lib.hid (show A + (z + 1) = sumZ (zs.take (k + 1)) + (1 : Int) * ((k + 1 : Nat) : Int) by rw [HTS.out, HGK.out, ← hA]; omega)
              clear hkz hge hsb hzb hpl hgk hz hA hAb hlt hu0 hu1
              go_wp2_with fail
              go_roundw
              case measure => have := HLT.out; simp [intOf]; omega
              case rel => exact ⟨k + 1, by go_num, HLT.out, by (rw [← HAN.out]) <;> simp, HST, HB5, HZ5⟩
            · obtain rfl : k = n := by omega
              have hzk : ¬ (k : Int) < k := by omega
              have HFI := Lib.hid (show partC 1 zs k = colsAt 1 0 zs by unfold partC; rw [List.take_of_length_le (by rw [HZL.out]; exact Nat.le_refl _), HZL.out, Nat.sub_self]; simp [zeroC])
              clear hlt
              go_wp2_with fail
              go_ret2
              exact ⟨.slice (some ⟨g, 0, none⟩) k k, by rw [HEO.out]; rfl, by
                have h := HOk.out
                rw [HFI.out] at h
                rw [HM.out, HG.out]
                exact RdC.own h (by rw [colsAt_len]; exact HZL.out.symm), by rw [HG.out]; exact HBk.out⟩
    · have hnt : within ws.length 1 8 = false := decide_eq_false (by omega)
      rw [hnt] at HW2
      have HE := Lib.hid (show colsE ws wide = 1 by unfold colsE; rw [if_pos (by omega)])
      obtain ⟨n, hn⟩ : ∃ n, ws.length = n := ⟨_, rfl⟩
      rw [hn] at HW2
      rw [hn]
      clear h hc1 hw hwt hn8 hnt hn HCO
      go_enter Tryz.func65, Tryz.ntmps65
      go_wp2_with fail
      refine HW1.out.mono ?_
      rintro e w1 ⟨rfl, rfl⟩
      go_wp2_with fail
      refine HW2.out.mono ?_
      rintro e w1 ⟨rfl, rfl⟩
      go_wp2_with fail
      go_ret2
      exact cols_bad HE.out (Below.refl _ _)
  · have hwt : within wide 10 200 = false := decide_eq_false hw
    rw [hwt] at HW1
    have HE := Lib.hid (show colsE ws wide = 1 by unfold colsE; rw [if_pos (by omega)])
    clear h hc1 hw hwt
    go_enter Tryz.func65, Tryz.ntmps65
    go_wp2_with fail
    refine HW1.out.mono ?_
    rintro e w1 ⟨rfl, rfl⟩
    go_wp2_with fail
    go_ret2
    exact cols_bad HE.out (Below.refl _ _)
end Go.Proofs.YtjohhahfpgfjdaaGreatDoor.Tb
end
section
namespace Go.Proofs.YtjohhahfpgfjdaaGreatDoor.Tb
open Go.RowKit Go.Maps
set_option linter.unusedVariables false
set_option linter.unusedSimpArgs false
theorem zeroCells_rep (z : Array Value) (u : Value) (hz : z = #[u]) (n : Nat) : (Builtin.zeroCells z n).toList = List.replicate n u := by
  subst hz
  apply List.ext_getElem?
  intro j
  simp [Builtin.zeroCells]
  by_cases h : j < n
  · simp [h, Nat.mod_one]
  · simp [h]
/-- Zeros behind a row of the call's own: 'append(s, make(..)...)', of elements of one cell. -/
theorem run_append_zeros {P : Program} (w : World) (base : Nat) (t tn ty e : TypeId) (i : TypeInfo) (z : Value) (bytes : Nat) (kn : IntKind) (ht : P.underlying t = some (.slice e)) (htn : P.underlying tn = some (.int kn)) (hi : P.info? e = some i) (hz : i.zero = some z)
    (hsize : i.size = 1) (hby : i.bytes = bytes) (hzs : z.cells = #[z]) (hone : z.oneCell' = true)
    (v : Value) (n : Nat) (xs : List Value) (hown : w.ownsRow base e 1 v n xs) (k : Nat) (hk : 0 < k)
    (h63 : n + k ≤ maxLen) (hbytes : (n + k) * bytes ≤ 140737488355328) (hbase : base ≤ w.heap.size) :
    ∃ v' w', (Builtin.append_ #[t, tn] ty #[v, .int .i64 k]).run P w = .ok v' w' ∧ w'.ownsRow base e 1 v' (n + k) (xs ++ List.replicate k z) ∧ w.grownBy w' v.ownBlock ∧ ∀ b, v'.ownBlock = some b → v.ownBlock = some b ∨ w.heap.size ≤ b := by
  subst hby
  have hsmall : n + k ≤ 9223372036854775807 := by simp only [maxLen] at h63; omega
  have hlen : (xs ++ List.replicate k z).length = (n + k) * 1 := by rw [List.length_append, hown.1, List.length_replicate]; omega
  have hzc : (Builtin.zeroCells z.cells k).toList = List.replicate k z := zeroCells_rep _ z hzs k
  have hzk : Builtin.zeroCells z.cells k = (List.replicate k z).toArray := by
    have := congrArg List.toArray hzc
    simpa using this
  have grown : ∀ (old : Nat) (row : Option Nat), n + k ≤ grownCap w (n + k) old e →
      (w.drew.alloc (.cells (xs.toArray ++ Builtin.zeroCells z.cells k ++ Builtin.zeroCells z.cells (grownCap w (n + k) old e - (n + k))) e)).ownsRow base e 1
        (.slice (some ⟨w.heap.size, 0, none⟩) (n + k) (grownCap w (n + k) old e)) (n + k) (xs ++ List.replicate k z) ∧
      w.grownBy (w.drew.alloc (.cells (xs.toArray ++ Builtin.zeroCells z.cells k ++ Builtin.zeroCells z.cells (grownCap w (n + k) old e - (n + k))) e)) row := by
    intro old row hge
    have hcm : grownCap w (n + k) old e ≤ maxLen := grownCap_le_maxLen w (n + k) old e h63
    refine ⟨⟨hlen, .inr ⟨w.heap.size, _, _, rfl, hbase, heap_alloc_new w.drew _, hge, hcm, ?_, ?_⟩⟩, ⟨rfl, rfl, rfl, by simp, fun c hc _ => Below.heap_alloc w.drew _ c hc⟩⟩
    · have hx := hown.1
      simp only [Array.size_append, List.size_toArray, size_zeroCells, hzs, hx, List.size_toArray, List.length_singleton]
      simp
      omega
    · simp only [Array.toList_append, List.append_assoc, hzc]
      rw [← List.append_assoc, ← hlen]
      exact List.take_left
  rcases hown.2 with ⟨rfl, rfl⟩ | ⟨g, cap, cur, rfl, hbg, hg, hnc, hcm, hcs, htake⟩
  · have hx : xs = [] := List.eq_nil_of_length_eq_zero (by simpa using hown.1)
    subst hx
    have hr := Lib.run_append_nil_zeros (P := P) w t tn ty e i z .i64 kn ht htn hi hz k hk (by omega) (by omega) (by simp only [Nat.zero_add] at hbytes; omega)
    have hgr := grown 0 (Value.ownBlock (.slice none 0 0)) (grownCap_ge w _ _ _)
    simp only [Nat.zero_add, List.nil_append, Array.empty_append] at hgr ⊢
    exact ⟨_, _, hr, hgr.1, hgr.2, fun b hb => .inr (by simp [Value.ownBlock] at hb; omega)⟩
  · by_cases hroom : n + k ≤ cap
    · have hw : IntKind.i64.wrap (k : Int) = k := by rw [IntKind.wrap_i64]; omega
      have hneg : ¬ ((k : Int) < 0) := by omega
      have h48i : ¬ (281474976710656 < (k : Int) * (i.bytes : Int)) := by
        rw [← Int.natCast_mul]
        have : k * i.bytes ≤ (n + k) * i.bytes := Nat.mul_le_mul_right _ (by omega)
        omega
      have hst := run_storeCells_at P g n e (List.replicate k z) 0 cur w hg (by rw [List.length_replicate]; omega) (fun u hu => by rw [List.mem_replicate] at hu; rw [hu.2]; exact hone)
      simp only [Nat.add_zero] at hst
      have hk0 : k ≠ 0 := by omega
      have hr : (Builtin.append_ #[t, tn] ty #[.slice (some ⟨g, 0, none⟩) n cap, .int .i64 k]).run P w = .ok (.slice (some ⟨g, 0, none⟩) (n + k) cap) (w.setRow g (cur.toList.take n ++ List.replicate k z ++ cur.toList.drop (n + (List.replicate k z).length)).toArray) := by
        simp [Builtin.append_, run_underlying ht, run_underlying htn, sizeOf, typeInfo, zeroValue, hi, hz, asInt, asIntOf, hw, hneg, h48i, hroom, hsize, hk0, hzk, Addr.add_lit]
        simp at hst
        rw [hst]
        rfl
      refine ⟨_, _, hr, ⟨hlen, .inr ⟨g, cap, _, rfl, hbg, setRow_heap w g cur _ e _ hg, hroom, hcm, ?_, ?_⟩⟩, ⟨rfl, rfl, rfl, by simp [World.setRow], fun c _ hk => setRow_other w g c _ (fun e => hk (by simp [Value.ownBlock, e]))⟩, fun b hb => .inl hb⟩
      · simp only [List.size_toArray, List.length_append, List.length_take, List.length_drop, Array.length_toList, List.length_replicate]
        omega
      · have ht2 : cur.toList.take n = xs := by rw [← htake]; congr 1; omega
        rw [ht2, ← hlen]
        exact List.take_left
    · have holds : ∀ j u, xs[j]? = some u → w.cell? ((⟨g, 0, none⟩ : Addr).add j) = some u := hown.cells (g := g) rfl
      have hold := run_firstCells_some (P := P) w.drew i.size n ⟨g, 0, none⟩ n cap xs (by rw [hsize]; exact hown.1) holds
      have hr := Lib.run_append_grow_zeros (P := P) w t tn ty e i z .i64 kn ht htn hi hz (some ⟨g, 0, none⟩) n cap xs hold k hk (by omega) (by omega) (by omega) (by
        have : k * i.bytes ≤ (n + k) * i.bytes := Nat.mul_le_mul_right _ (by omega)
        omega) (growslice_fits (by omega) hbytes)
      have hgr := grown cap (Value.ownBlock (.slice (some ⟨g, 0, none⟩) n cap)) (grownCap_ge w _ _ _)
      exact ⟨_, _, hr, hgr.1, hgr.2, fun b hb => .inr (by simp [Value.ownBlock] at hb; omega)⟩
def GrowPost (w : World) (e : Ending) (w' : World) : Prop := ∃ v, e = .returned v ∧ w'.ownsRow w.heap.size 44 5 v 0 [] ∧ Below w.heap.size w w'
set_option maxRecDepth 100000 in
set_option maxHeartbeats 2000000 in
theorem grow_pro (n : Nat) (w : World) (hn : n * 48 ≤ 140737488355328) : Calls Tryz.prog 138 #[.slice none 0 0, .int .i64 n] w (GrowPost w) := by
  obtain ⟨i0, hi0, hz0, hz1, hz2⟩ := info_parts infoG
  have h1 : ¬ ((n : Int) < 0) := by omega
  by_cases h0 : n = 0
  · subst h0
    go_enter Tryz.func138, Tryz.ntmps138
    go_wp2_with fail
    go_ret
    exact ⟨_, rfl, World.ownsRow_nil _ _ _ _, Below.refl _ _⟩
  · have hp : (0 : Int) < n := by omega
    have hr := fun ty => Lib.run_append_nil_zeros (P := Tryz.prog) w 34 3 ty 44 i0 _ .i64 .i64 Tryz.underlying34 Tryz.underlying3 hi0 hz0 n (by omega) (by omega) (by omega) (by rw [hz2]; omega)
    have HR := Lib.hid hr
    have hge := grownCap_ge w n 0 44
    have hle := grownCap_le_maxLen w n 0 44 (by unfold maxLen; omega)
    obtain ⟨c, hc⟩ : ∃ c, grownCap w n 0 44 = c := ⟨_, rfl⟩
    rw [hc] at hge hle
    have HC := Lib.hid hc
    have HOW := Lib.hid (World.ownsRow_made (e := 44) (size := 5) (base := w.heap.size) w.drew (Builtin.zeroCells (Value.agg #[.string .empty, .int .i64 0, .int .i64 0, .int .i64 0, .int .i64 0]).cells n ++ Builtin.zeroCells (Value.agg #[.string .empty, .int .i64 0, .int .i64 0, .int .i64 0, .int .i64 0]).cells (c - n)) c (Nat.le_refl _) hle (by
      simp only [Array.size_append, size_zeroCells, Value.cells]
      simp
      omega))
    have HBW := Lib.hid ((Below.refl w.heap.size w).drew.alloc (Nat.le_refl _) (.cells (Builtin.zeroCells (Value.agg #[.string .empty, .int .i64 0, .int .i64 0, .int .i64 0, .int .i64 0]).cells n ++ Builtin.zeroCells (Value.agg #[.string .empty, .int .i64 0, .int .i64 0, .int .i64 0, .int .i64 0]).cells (c - n)) 44))
    unfold maxLen at hle
    clear hr hc
    go_enter Tryz.func138, Tryz.ntmps138
    go_wp2_with (at_builtin; go_loud (refine Lib.wpList_append_run _ rfl _ _ _ _ rfl _ _ rfl rfl _ _ (HR.out _) ?_); rw [HC.out])
    go_ret
    exact ⟨_, rfl, HOW.out, HBW.out⟩
end Go.Proofs.YtjohhahfpgfjdaaGreatDoor.Tb
end
