/- Layer 12: the program's take, Fill. -/
import Derived.Test.YtadecjjbpoaooaaUj
namespace Go.Proofs.Ytadecjjbpoaooaa.Tb
open Go.RowKit Go.Maps
set_option linter.unusedVariables false
set_option linter.unusedSimpArgs false
/-- How many glyphs are taken, and what is so behind it. -/
def tookN (x : Gl) (l : List Gl) : Nat := if sgn x then (firstW (x :: l)).length else 1
def tookS (wide : Int) (s : Fs) (x : Gl) (l : List Gl) : Fs := if sgn x then wordS wide s (fitL wide (firstW (x :: l))) else stepS wide s x
theorem runF_took (wide : Int) (s : Fs) (x : Gl) (l : List Gl) : runF wide s (x :: l) = runF wide (tookS wide s x l) ((x :: l).drop (tookN x l)) := by
  unfold tookS tookN
  cases h : sgn x with
  | true => rw [if_pos rfl, if_pos rfl]; exact runF_word wide s x l h
  | false => simp only [Bool.false_eq_true, if_false]; exact runF_step wide s x l h
theorem took_le (x : Gl) (l : List Gl) : 1 ≤ tookN x l ∧ tookN x l ≤ l.length + 1 := by
  unfold tookN
  split
  · rename_i h
    exact ⟨firstW_pos h, firstW_le _⟩
  · omega
theorem fit_all {wide : Int} {l : List Gl} (h1 : 1 ≤ wide) (hb : ∀ y ∈ l, badG y = false) (hs : ∀ y ∈ l, sgn y = true) : ∀ x ∈ l, (1 ≤ (fitG wide x).wd ∧ (fitG wide x).wd ≤ 2) ∧ (fitG wide x).wd ≤ wide :=
  fun x hx => fit_ok h1 (hb x hx) (hs x hx)
theorem took_inv {wide : Int} {s : Fs} (h : Inv wide s) (x : Gl) (l : List Gl) (h1 : 1 ≤ wide) (hb : ∀ y ∈ x :: l, badG y = false) : Inv wide (tookS wide s x l) ∧ meas (tookS wide s x l) ≤ meas s + tookN x l := by
  unfold tookS tookN
  split
  · have := wordS_inv h (by omega) (w := fitL wide (firstW (x :: l))) (fun g hg => by
      obtain ⟨y, hy, rfl⟩ := List.mem_map.1 hg
      exact fit_ok h1 (hb y (firstW_sub _ y hy)) (firstW_all _ y hy))
    simpa [fitL] using this
  · exact stepS_inv h x (by omega)
def TakePost (B g : Nat) (wide : Int) (K : Nat → Prop) (s : Fs) (n : Nat) (w : World) (e : Ending) (w' : World) : Prop := e = .returned (.int .i64 n) ∧ Fl true B g wide K s w' ∧ Kp K w w'
theorem isB_t {x : Gl} (h : isB x = true) : x.t = bl1 32 := by
  unfold isB at h
  have h' : x.t.toList = [32] := by simpa using h
  obtain ⟨⟨⟨l⟩⟩, _, _, _, _⟩ := x
  rw [ByteArray.toList_eq] at h'
  simp at h'
  simp [bl1, h']
set_option maxRecDepth 100000 in
set_option maxHeartbeats 4000000 in
theorem take_pro {P : Nat → Prop} {B g : Nat} {wide : Int} {K : Nat → Prop} {s : Fs} (x : Gl) (l : List Gl) (v : Value) (w : World) (h : Fl true B g wide K s w) (hr : RdG P w v (x :: l)) (hP : ∀ c, P c → K c) (hi : Inv wide s) (hw1 : 1 ≤ wide) (hw2 : wide ≤ 200)
    (hl : (meas s + (l.length + 1)) * 24 ≤ 140737488355328) (hb : ∀ y ∈ x :: l, badG y = false) :
    Calls Try.prog 31 #[.pointer (some ⟨g, 0, none⟩), v] w (TakePost B g wide K (tookS wide s x l) (tookN x l) w) := by
  obtain ⟨pa, cap, rfl, hc1, hc2⟩ := sliceG hr
  obtain ⟨b, off, rfl, hpb, hc⟩ := hr.at_ (j := 0) (by simp)
  rw [List.getElem_cons_zero, Nat.zero_mul, Nat.add_zero] at hc
  obtain ⟨c0, c1, c2, c3, c4⟩ := hc
  have hA := below_box w (boxG x)
  have hfl := h.below hA
  have hKA := Kp.of hA h.lt
  have HFW := Lib.hid hfl
  have HKA := Lib.hid hKA
  have HR := Lib.hid (hr.below hA)
  have HOL := Lib.hid (show (s.out.length + 1) * 24 ≤ 140737488355328 by have := out_le s; omega)
  have HLN := Lib.hid hi.len
  obtain ⟨n, hn⟩ : ∃ n, (x :: l).length = n := ⟨_, rfl⟩
  have HN := Lib.hid hn
  have hn0 : 0 < n := by rw [← hn]; simp
  have hn0i : (0 : Int) < n := by omega
  rw [hn] at HR ⊢
  have HI := Lib.hid hi
  have HLL := Lib.hid hl
  have HBD := Lib.hid hb
  obtain ⟨bb, hbb⟩ : ∃ bb, w.heap.size = bb := ⟨_, rfl⟩
  clear hc1 hn hA h hr hi hl hb hfl hKA
  cases h1 : isB x with
  | true =>
    have HS := Lib.hid (show tookS wide s x l = waitS s x ∧ tookN x l = 1 by simp [tookS, tookN, sgn, noS, h1, stepS])
    have HW := Lib.hid (wait_pro x _ HFW.out (by have := HLN.out; omega))
    unfold boxG glV at HW
    unfold isB at h1
    clear hbb
    go_enter Try.func31, Try.ntmps31
    go_wp2_with fail
    refine HW.out.mono ?_
    rintro e w2 ⟨rfl, hf, hk⟩
    have HF2 := Lib.hid hf
    have HK2 := Lib.hid (HKA.out.trans hk)
    clear hf hk
    go_wp2_with fail
    go_ret
    exact ⟨by rw [HS.out.2]; rfl, by rw [HS.out.1]; exact HF2.out, HK2.out⟩
  | false =>
    cases h2 : isT x with
    | true =>
      have hst : tookS wide s x l = tabS wide s x ∧ tookN x l = 1 := by simp [tookS, tookN, sgn, noS, h1, h2, stepS]
      obtain ⟨_, _, _, _, hfa⟩ := HFW.out
      obtain ⟨q0, q1, q2, q3, q4⟩ := bx_cellsP hfa.blk
      have hu1 := HI.out.nn
      have hu2 := HI.out.le
      have HSO := Lib.hid (show stopOf s = wid s.line / 8 * 8 + 8 from rfl)
      obtain ⟨u, hu⟩ : ∃ u, wid s.line = u := ⟨_, rfl⟩
      have HU := Lib.hid hu
      rw [hu] at q3 hu1 hu2 HSO
      unfold isB at h1
      unfold isT at h2
      have d1 : 0 ≤ u / 8 := by omega
      have d2 : u / 8 ≤ 25 := by omega
      unfold boxG at q0 q1 q2 q3 q4
      by_cases hlt : u / 8 * 8 + 8 < wide
      · have HS := Lib.hid (show tookS wide s x l = repS s (u / 8 * 8 + 8 - u).toNat (blank x) ∧ tookN x l = 1 by
          refine ⟨?_, hst.2⟩
          rw [hst.1]
          unfold tabS
          rw [if_pos (by rw [HSO.out]; exact hlt), HSO.out, hu]
          rfl)
        have HG := Lib.hid (goOn_pro x (u / 8 * 8 + 8) _ HFW.out (by have := HLN.out; omega) (by rw [hu]; exact hu1) (by rw [hu]; omega) (by omega))
        rw [hu] at HG
        unfold boxG glV at HG
        clear hst hfa hu hbb
        go_enter Try.func31, Try.ntmps31
        go_wp2_with fail
        refine HG.out.mono ?_
        rintro e w2 ⟨rfl, hf, hk⟩
        have HF2 := Lib.hid hf
        have HK2 := Lib.hid (HKA.out.trans hk)
        clear hf hk
        go_wp2_with fail
        go_ret
        exact ⟨by rw [HS.out.2]; rfl, by rw [HS.out.1]; exact HF2.out, HK2.out⟩
      · have HS := Lib.hid (show tookS wide s x l = endS s ∧ tookN x l = 1 by
          refine ⟨?_, hst.2⟩
          rw [hst.1]
          unfold tabS
          rw [if_neg (by rw [HSO.out]; exact hlt)])
        have HE := Lib.hid (end_pro _ HFW.out HOL.out)
        unfold boxG at HE
        clear hst hfa hu hbb
        go_enter Try.func31, Try.ntmps31
        go_wp2_with fail
        refine HE.out.mono ?_
        rintro e w2 ⟨rfl, hf, hk⟩
        have HF2 := Lib.hid hf
        have HK2 := Lib.hid (HKA.out.trans hk)
        clear hf hk
        go_wp2_with fail
        go_ret
        exact ⟨by rw [HS.out.2]; rfl, by rw [HS.out.1]; exact HF2.out, HK2.out⟩
    | false =>
      cases h3 : isN x with
      | true =>
        have HS := Lib.hid (show tookS wide s x l = endS s ∧ tookN x l = 1 by simp [tookS, tookN, sgn, noS, h1, h2, h3, stepS])
        have HE := Lib.hid (end_pro _ HFW.out HOL.out)
        unfold boxG at HE
        unfold isB at h1
        unfold isT at h2
        unfold isN at h3
        clear hbb
        go_enter Try.func31, Try.ntmps31
        go_wp2_with fail
        refine HE.out.mono ?_
        rintro e w2 ⟨rfl, hf, hk⟩
        have HF2 := Lib.hid hf
        have HK2 := Lib.hid (HKA.out.trans hk)
        clear hf hk
        go_wp2_with fail
        go_ret
        exact ⟨by rw [HS.out.2]; rfl, by rw [HS.out.1]; exact HF2.out, HK2.out⟩
      | false =>
        have hsg : sgn x = true := by simp [sgn, noS, h1, h2, h3]
        have HS := Lib.hid (show tookS wide s x l = wordS wide s (fitL wide (firstW (x :: l))) ∧ tookN x l = (firstW (x :: l)).length by simp [tookS, tookN, hsg])
        have HBG := Lib.hid (beginning_pro (x :: l) (some ⟨b, off, none⟩) cap _ (by rw [HN.out]; exact HR.out))
        rw [HN.out] at HBG
        have HRT := Lib.hid (HR.out.take (firstW (x :: l)).length (by rw [← HN.out]; exact firstW_le _))
        rw [firstW_pre] at HRT
        have hfp := firstW_pos (l := l) hsg
        have HFA := Lib.hid (fit_all hw1 (fun y hy => HBD.out y (firstW_sub _ y hy)) (firstW_all (x :: l)))
        have hfle := firstW_le (x :: l)
        have HL2 := Lib.hid (show (meas s + (firstW (x :: l)).length) * 24 ≤ 140737488355328 by have := HLL.out; simp at hfle; omega)
        obtain ⟨m, hm⟩ : ∃ m, (firstW (x :: l)).length = m := ⟨_, rfl⟩
        have HM := Lib.hid hm
        unfold boxG at HBG HRT HFW HKA
        unfold isB at h1
        unfold isT at h2
        unfold isN at h3
        clear hbb hfle hsg
        go_enter Try.func31, Try.ntmps31
        go_wp2_with fail
        refine HBG.out.mono ?_
        rintro e w2 ⟨rfl, hb2⟩
        have HP2 := Lib.hid (putWord_pro (firstW (x :: l)) _ w2 (HFW.out.below hb2) (HRT.out.below hb2) hP HI.out hw1 hw2 hfp HL2.out HFA.out)
        have HK2 := Lib.hid (HKA.out.trans (Kp.of hb2 HFW.out.lt))
        rw [hm] at HP2 ⊢
        clear hb2 hm hfp
        go_wp2_with fail
        refine HP2.out.mono ?_
        rintro e w3 ⟨rfl, hf, hk⟩
        have HF3 := Lib.hid hf
        have HK3 := Lib.hid (HK2.out.trans hk)
        clear hf hk
        go_wp2_with fail
        go_ret
        exact ⟨by rw [HS.out.2, HM.out]; rfl, by rw [HS.out.1]; exact HF3.out, HK3.out⟩
end Go.Proofs.Ytadecjjbpoaooaa.Tb
