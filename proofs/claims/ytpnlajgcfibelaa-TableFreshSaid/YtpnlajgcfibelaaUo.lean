/- Layer 12: the document's Fill. -/
import Derived.Test.YtpnlajgcfibelaaUn
import Derived.Deep.CutRange
namespace Go.Proofs.Ytpnlajgcfibelaa.Tb
open Go.RowKit Go.Maps
set_option linter.unusedVariables false
set_option linter.unusedSimpArgs false
theorem Fl.fresh {d : Bool} {B g : Nat} {wide : Int} {K : Nat → Prop} {s : Fs} {W W' : World} (h : Fl d B g wide K s W) (hb : Below W.heap.size W W') : Fl d B g wide (fun c => K c ∨ (W.heap.size ≤ c ∧ c < W'.heap.size)) s W' := by
  obtain ⟨vo, vl, vw, vs, h⟩ := h
  have h' := h.below hb
  have n := h.ng
  refine ⟨vo, vl, vw, vs, h'.base, h'.blk, h'.line, h'.out, h'.wait, fun c hc => ?_⟩
  rcases hc with hc | hc
  · exact h'.apart c hc
  · exact ⟨hc.2, by omega, (fun e => by have := (own_base h.line e).2; omega), (fun e => by have := (own_base h.out.row e).2; omega)⟩
/-- A glyph that may not be, in the document's order. -/
theorem bad_eq (x : Gl) : badG x = (sgn x && (decide (x.wd < 1) || decide (2 < x.wd) || x.t.toList == [])) := by
  unfold badG sgn
  cases noS x
  · simp only [Bool.not_false, Bool.true_and]
    cases x.t.toList == []
    · by_cases h1 : x.wd < 1 <;> by_cases h2 : 2 < x.wd <;> simp [h1, h2] <;> omega
    · simp
  · rfl
def BadAt (l : List Gl) (k : Nat) : Prop := ∀ j (hj : j < l.length), j < k → badG l[j] = false
theorem BadAt.next {l : List Gl} {k : Nat} (h : BadAt l k) (hk : k < l.length) (hb : badG l[k] = false) : BadAt l (k + 1) := fun j hj hjk => by
  rcases Nat.lt_or_ge j k with h1 | h1
  · exact h j hj h1
  · obtain rfl : j = k := by omega
    exact hb
theorem BadAt.none {l : List Gl} {k : Nat} (h : BadAt l k) (hk : k = l.length) : l.any badG = false := by
  rw [List.any_eq_false]
  intro x hx
  obtain ⟨j, hj, rfl⟩ := List.mem_iff_getElem.1 hx
  simp [h j hj (by omega)]
theorem takeWhile_end {p : Gl → Bool} {l : List Gl} {h : (l.takeWhile p).length < l.length} (e : p (l[(l.takeWhile p).length]) = true) : False := by
  induction l with
  | nil => simp at h
  | cons x l ih =>
    cases hx : p x with
    | false => simp [List.takeWhile_cons, hx] at e
    | true =>
      have h1 : ((x :: l).takeWhile p) = x :: l.takeWhile p := by simp [List.takeWhile_cons, hx]
      simp only [h1, List.length_cons, List.getElem_cons_succ] at e h
      exact ih (h := by omega) e
theorem firstW_end (l : List Gl) (j : Nat) (h : j + (firstW (l.drop j)).length < l.length) : sgn (l[j + (firstW (l.drop j)).length]) = false := by
  have h1 : (l.drop j)[(firstW (l.drop j)).length]'(by rw [List.length_drop]; omega) = l[j + (firstW (l.drop j)).length] := List.getElem_drop
  rw [← h1]
  cases e : sgn ((l.drop j)[(firstW (l.drop j)).length]'(by rw [List.length_drop]; omega)) with
  | false => rfl
  | true => exact (takeWhile_end (h := by show (firstW (l.drop j)).length < _; rw [List.length_drop]; omega) e).elim
theorem bad_end {wide : Int} (hw : 1 ≤ wide ∧ wide ≤ 200) {l : List Gl} {k : Nat} (hk : k < l.length) (hb : badG l[k] = true) : fillE wide l = 120 ∧ fillL wide l = [] := by
  have h : l.any badG = true := List.any_eq_true.2 ⟨_, List.getElem_mem hk, hb⟩
  have : fillE wide l = 120 := by unfold fillE; rw [if_neg (by omega), h]; rfl
  exact ⟨this, by unfold fillL; rw [this]; rfl⟩
set_option maxRecDepth 100000 in
set_option maxHeartbeats 4000000 in
theorem fill_ref {P : Nat → Prop} (wide : Int) (l : List Gl) (v : Value) (w : World) (hr : RdG P w v l) (hl : (l.length + 1) * 48 ≤ 140737488355328) :
    Calls Try.prog 13 #[v, .int .i64 wide] w (FillPost wide l w) := by
  obtain ⟨i0, hi0, hz0, hz1, hz2⟩ := info_parts infoG
  obtain ⟨pa, cap, rfl, hc1, hc2⟩ := sliceG hr
  by_cases hw : 1 ≤ wide ∧ wide ≤ 200
  · have hw1 := hw.1
    have hw2 := hw.2
    have hw3 : ¬ wide < 1 := by omega
    have hw4 : ¬ 200 < wide := by omega
    have HR := Lib.hid (hr.imp (Q := fun b => b < w.heap.size) fun b hb _ => hb)
    have HLL := Lib.hid hl
    obtain ⟨F, hF⟩ : ∃ F, runF wide fs0 l = F := ⟨_, rfl⟩
    have HFF := Lib.hid hF
    obtain ⟨n, hn⟩ : ∃ n, l.length = n := ⟨_, rfl⟩
    have HN := Lib.hid hn
    rw [hn] at HR hc1 ⊢
    have n62 : n ≤ 9223372036854775807 := by omega
    clear hr hl hF hn hw
    go_enter Try.func13, Try.ntmps13
    go_wp2_with fail
    go_loopw [6] (fun i wr => ∃ k : Nat, i = .int .i64 k ∧ k ≤ n ∧ Hid (BadAt l k) ∧ Hid (Below w.heap.size w wr)) (fun i _ => n - (intOf i).toNat)
    case atStart => exact ⟨0, rfl, Nat.zero_le _, Lib.hid (fun j _ h => absurd h (Nat.not_lt_zero _)), Lib.hid (Below.refl _ _)⟩
    case round =>
      obtain ⟨k, rfl, hk, HK, HB⟩ := hrel
      by_cases hlt : k < n
      · have hkl : k < l.length := by rw [HN.out]; exact hlt
        obtain ⟨b, off, rfl, hb, hc⟩ := (HR.out.below HB.out).at_ hkl
        obtain ⟨x, hx⟩ : ∃ x, l[k] = x := ⟨_, rfl⟩
        rw [hx] at hc
        have HX := Lib.hid hx
        obtain ⟨c0, c1, c2, c3, c4⟩ := hc
        have hbw := Nat.lt_of_lt_of_le (show b < w.heap.size from hb) HB.out.size
        have HS := Lib.hid (sign_ref x wr)
        have HBE := Lib.hid (bad_eq x)
        obtain ⟨z, hz⟩ : ∃ z, sgn x = z := ⟨_, rfl⟩
        rw [hz] at HS HBE
        unfold glV at HS
        have k1 : (k : Int) < n := by omega
        have HLT := Lib.hid hlt
        have HKL := Lib.hid hkl
        clear hx hz hlt
        cases z with
        | false =>
          have HBF := Lib.hid (show badG x = false by rw [HBE.out]; rfl)
          go_wp2_with fail
          refine HS.out.mono ?_
          rintro e w1 ⟨rfl, hb1⟩
          have HB1 := Lib.hid (HB.out.trans (hb1.mono HB.out.size))
          clear hb1
          go_wp2_with fail
          go_roundw
          case measure => have := HLT.out; simp [intOf]; omega
          case rel => exact ⟨k + 1, by go_num, HLT.out, Lib.hid (HK.out.next hkl (by rw [HX.out]; exact HBF.out)), HB1⟩
        | true =>
          obtain ⟨ze, hze⟩ : ∃ z, (x.t.toList == []) = z := ⟨_, rfl⟩
          have HZE := Lib.hid hze
          by_cases h1 : x.wd < 1
          · have HBF := Lib.hid (bad_end (wide := wide) ⟨by omega, by omega⟩ hkl (by rw [HX.out, HBE.out]; simp [h1]))
            have h1d : decide (x.wd < 1) = true := decide_eq_true h1
            clear hze
            go_wp2_with fail
            refine HS.out.mono ?_
            rintro e w1 ⟨rfl, hb1⟩
            have e0 := (hb1.cell (p := ⟨b, off + k * 5, none⟩) hbw).trans c0
            have e1 := (hb1.cell (p := ⟨b, off + k * 5 + 1, none⟩) hbw).trans c1
            have HB1 := Lib.hid (HB.out.trans (hb1.mono HB.out.size))
            clear hb1
            go_wp2_with fail
            go_ret2
            exact ⟨.slice none 0 0, by rw [HBF.out.1]; rfl, by rw [HBF.out.2]; exact ⟨none, 0, rfl, Nat.le_refl _, Nat.zero_le _, fun j hj => absurd hj (by simp)⟩, HB1.out⟩
          · have h1d : decide (x.wd < 1) = false := decide_eq_false h1
            by_cases h2 : 2 < x.wd
            · have HBF := Lib.hid (bad_end (wide := wide) ⟨by omega, by omega⟩ hkl (by rw [HX.out, HBE.out]; simp [h2]))
              have h2d : decide (2 < x.wd) = true := decide_eq_true h2
              clear hze
              go_wp2_with fail
              refine HS.out.mono ?_
              rintro e w1 ⟨rfl, hb1⟩
              have e0 := (hb1.cell (p := ⟨b, off + k * 5, none⟩) hbw).trans c0
              have e1 := (hb1.cell (p := ⟨b, off + k * 5 + 1, none⟩) hbw).trans c1
              have HB1 := Lib.hid (HB.out.trans (hb1.mono HB.out.size))
              clear hb1
              go_wp2_with fail
              go_ret2
              exact ⟨.slice none 0 0, by rw [HBF.out.1]; rfl, by rw [HBF.out.2]; exact ⟨none, 0, rfl, Nat.le_refl _, Nat.zero_le _, fun j hj => absurd hj (by simp)⟩, HB1.out⟩
            · have h2d : decide (2 < x.wd) = false := decide_eq_false h2
              cases ze with
              | true =>
                have HBF := Lib.hid (bad_end (wide := wide) ⟨by omega, by omega⟩ hkl (by rw [HX.out, HBE.out]; simp [HZE.out]))
                have hz2 : x.t.toList = [] := by simpa using hze
                go_wp2_with fail
                refine HS.out.mono ?_
                rintro e w1 ⟨rfl, hb1⟩
                have e0 := (hb1.cell (p := ⟨b, off + k * 5, none⟩) hbw).trans c0
                have e1 := (hb1.cell (p := ⟨b, off + k * 5 + 1, none⟩) hbw).trans c1
                have HB1 := Lib.hid (HB.out.trans (hb1.mono HB.out.size))
                clear hb1
                go_wp2_with fail
                go_ret2
                exact ⟨.slice none 0 0, by rw [HBF.out.1]; rfl, by rw [HBF.out.2]; exact ⟨none, 0, rfl, Nat.le_refl _, Nat.zero_le _, fun j hj => absurd hj (by simp)⟩, HB1.out⟩
              | false =>
                have HBG := Lib.hid (show badG x = false by rw [HBE.out]; simp [h1, h2, HZE.out])
                go_wp2_with fail
                refine HS.out.mono ?_
                rintro e w1 ⟨rfl, hb1⟩
                have e0 := (hb1.cell (p := ⟨b, off + k * 5, none⟩) hbw).trans c0
                have e1 := (hb1.cell (p := ⟨b, off + k * 5 + 1, none⟩) hbw).trans c1
                have HB1 := Lib.hid (HB.out.trans (hb1.mono HB.out.size))
                clear hb1
                go_wp2_with fail
                go_roundw
                case measure => have := HLT.out; simp [intOf]; omega
                case rel => exact ⟨k + 1, by go_num, HLT.out, Lib.hid (HK.out.next hkl (by rw [HX.out]; exact HBG.out)), HB1⟩
      · obtain rfl : k = n := by omega
        have hzk : ¬ (k : Int) < k := by omega
        have hany := HK.out.none HN.out.symm
        have hE : fillE wide l = 0 := by unfold fillE; rw [if_neg (by omega), hany]; rfl
        have HE := Lib.hid (show fillE wide l = 0 ∧ fillL wide l = fillM wide l from ⟨hE, by unfold fillL; rw [hE]; rfl⟩)
        have HBD := Lib.hid (show ∀ y ∈ l, badG y = false from fun y hy => by
          cases h : badG y
          · rfl
          · rw [List.any_eq_true.2 ⟨y, hy, h⟩] at hany; cases hany)
        have hB2 := below_box wr (bx false wide (.slice none 0 0) (.slice none 0 0) 0 (.slice none 0 0))
        have hst := Fl.start false wr wide (B := w.heap.size) HB.out.size
        have HFA := Lib.hid (show FlowAt false w.heap.size wr.heap.size wide l F w 0 fs0 (wr.alloc (bx false wide (.slice none 0 0) (.slice none 0 0) 0 (.slice none 0 0))) from ⟨hst.less fun c hc => Nat.lt_of_lt_of_le hc HB.out.size, (Kp.of (HB.out.trans (hB2.mono HB.out.size)) fun c hc => hc), inv0 (by omega), by rw [List.drop_zero]; exact HFF.out, by rw [meas0]; omega⟩)
        unfold bx at HFA
        obtain ⟨g, hg⟩ : ∃ g, wr.heap.size = g := ⟨_, rfl⟩
        rw [hg] at HFA
        have HG := Lib.hid hg
        clear hB2 hst hlt hany hE
        go_wp2_with fail
        obtain ⟨wo, rfl⟩ : ∃ wo : World, wo = wr := ⟨_, rfl⟩
        go_loopw [8] (fun i wr => ∃ (j : Nat) (s2 : Fs), i = .int .i64 j ∧ j ≤ k ∧ Hid (FlowAt false w.heap.size g wide l F w j s2 wr)) (fun i _ => k - (intOf i).toNat)
        case atStart => exact ⟨0, fs0, rfl, Nat.zero_le _, HFA⟩
        case round =>
          obtain ⟨j, s2, rfl, hj, HF3⟩ := hrel
          obtain ⟨hfl, hkp, hinv, hrun, hme⟩ := HF3.out
          by_cases hlt : j < k
          · have hjl : j < l.length := by rw [HN.out]; exact hlt
            have hjk : (j : Int) < k := by omega
            have hkl : k ≤ l.length := by rw [HN.out]; exact Nat.le_refl _
            obtain ⟨b, off, rfl, hb, hc⟩ := (HR.out.keep (fun a ha _ => World.cell?_of_block (hkp.block _ ha))).at_ hjl
            have hd : l.drop j = l[j] :: l.drop (j + 1) := List.drop_eq_getElem_cons hjl
            have hbx := HBD.out _ (List.getElem_mem hjl)
            obtain ⟨x, hx⟩ : ∃ x, l[j] = x := ⟨_, rfl⟩
            rw [hx] at hc hd hbx
            rw [hd, runF_took, ← hd, List.drop_drop] at hrun
            obtain ⟨c0, c1, c2, c3, c4⟩ := hc
            have hbd : ∀ y ∈ x :: l.drop (j + 1), badG y = false := fun y hy => HBD.out y (by rw [← hd] at hy; exact List.mem_of_mem_drop hy)
            have hti := took_inv hinv x (l.drop (j + 1)) hw1 hbd
            have hA := below_box wr (boxG x)
            have HF1 := Lib.hid (hfl.below hA)
            have HK1 := Lib.hid (hkp.trans (Kp.of hA hfl.lt))
            have HRU := Lib.hid hrun
            have HTI := Lib.hid hti
            have HIV := Lib.hid hinv
            have HME := Lib.hid hme
            have HD := Lib.hid hd
            have HJL := Lib.hid hjl
            have HLT := Lib.hid hlt
            have HX := Lib.hid hx
            have hou : (s2.out.length + 1) * 24 ≤ 140737488355328 := by have := HLL.out; have := out_le s2; omega
            have HOU := Lib.hid hou
            have HBB := Lib.hid hbd
            obtain ⟨W1, hW1⟩ : ∃ W1, wr.alloc (boxG x) = W1 := ⟨_, rfl⟩
            rw [hW1] at HF1 HK1
            have hX1 := heap_alloc_new wr (boxG x)
            rw [hW1] at hX1
            unfold boxG at hX1 hW1
            obtain ⟨d0, d1, d2, d3, d4⟩ : W1.cell? ⟨wr.heap.size, 0, none⟩ = some (.string x.t) ∧ W1.cell? ⟨wr.heap.size, 1, none⟩ = some (.int .i64 x.wd) ∧ W1.cell? ⟨wr.heap.size, 2, none⟩ = some (.int .i64 x.at_) ∧ W1.cell? ⟨wr.heap.size, 3, none⟩ = some (.int .i64 x.co) ∧ W1.cell? ⟨wr.heap.size, 4, none⟩ = some (.int .i64 x.lk) := by
              refine ⟨?_, ?_, ?_, ?_, ?_⟩ <;> rw [cell_of_row _ _ _ _ _ _ hX1] <;> rfl
            clear hfl hkp hinv hrun hme hd hbx hbd hti hA hx hou hX1
            cases h1 : isB x with
            | true =>
              have HTK := Lib.hid (show tookS wide s2 x (l.drop (j + 1)) = waitS s2 x ∧ tookN x (l.drop (j + 1)) = 1 by simp [tookS, tookN, sgn, noS, h1, stepS])
              unfold isB at h1
              obtain ⟨vo, vl, vw, vs, hF⟩ := HF1.out
              obtain ⟨pl, cl, rfl⟩ := lenL hF.line
              obtain ⟨pw, cw, rfl, _⟩ := hF.wait.form
              obtain ⟨q0, q1, q2, q3, q4⟩ := bx_cellsD hF.blk
              have hln := HIV.out.len
              obtain ⟨n1, hn1⟩ : ∃ n1, s2.line.length = n1 := ⟨_, rfl⟩
              obtain ⟨m1, hm1⟩ : ∃ m1, s2.wait.length = m1 := ⟨_, rfl⟩
              rw [hn1] at q1 hln
              rw [hm1] at q3
              have HFA1 := Lib.hid hF
              by_cases h0 : s2.line = []
              · have hn0 : ¬ (0 : Int) < n1 := by rw [← hn1, h0]; simp
                have HU := Lib.hid (show waitS s2 x = s2 by unfold waitS; rw [if_neg (fun h => h.1 h0)])
                clear hF hn1 hm1 h0
                go_wp2_with fail
                go_roundw
                case measure => have := HLT.out; simp [intOf]; omega
                case rel =>
                  have h2 := HRU.out
                  have h3 := HTI.out
                  rw [HTK.out.1, HTK.out.2, HU.out] at h2 h3
                  exact ⟨j + 1, s2, by go_num, HLT.out, Lib.hid ⟨HF1.out, HK1.out, h3.1, h2, Nat.le_trans h3.2 (Nat.add_le_add_right HME.out 1)⟩⟩
              · have hn0 : (0 : Int) < n1 := by have := List.length_pos_iff.2 h0; omega
                by_cases h3 : s2.wait = []
                · have hm0 : ((m1 : Int) == 0) = true := by rw [← hm1, h3]; rfl
                  have HU := Lib.hid (show waitS s2 x = ⟨s2.out, s2.line, [blank x]⟩ by unfold waitS; rw [if_pos ⟨h0, h3⟩])
                  have hB3 := below_box W1 (boxG (blank x))
                  have hF3 := hF.below hB3
                  have f3 := bx_frozen hF3.blk 3
                  obtain ⟨r0, r1, r2, r3, r4⟩ := bx_cellsD hF3.blk
                  have hg4 : ((W1.alloc (boxG (blank x))).setCell ⟨g, 3, none⟩ (.slice (some ⟨W1.heap.size, 0, none⟩) 1 1)).heap[g]? = some (bx false wide vo _ _ (.slice (some ⟨W1.heap.size, 0, none⟩) 1 1)) := heap_setCell_same _ g 3 _ _ _ hF3.blk
                  have HF4 := Lib.hid (hF.waits (blank x) hg4)
                  have HK4 := Lib.hid ((HK1.out.trans (Kp.of hB3 (fun c hc => (hF.apart c hc).1))).set 3 hF.notKg (.slice (some ⟨W1.heap.size, 0, none⟩) 1 1))
                  obtain ⟨b1, hb1⟩ : ∃ b1, W1.heap.size = b1 := ⟨_, rfl⟩
                  unfold boxG blank bl1 at f3 r0 r1 r2 r3 r4 HF4 HK4
                  rw [hb1] at HF4 HK4
                  clear hF hn1 hm1 h0 h3 hB3 hF3 hg4
                  go_wp2_with fail
                  go_roundw
                  case measure => have := HLT.out; simp [intOf]; omega
                  case rel =>
                    have h2 := HRU.out
                    have h3 := HTI.out
                    rw [HTK.out.1, HTK.out.2, HU.out] at h2 h3
                    exact ⟨j + 1, _, by go_num, HLT.out, Lib.hid ⟨⟨_, _, _, _, HF4.out⟩, HK4.out, h3.1, h2, Nat.le_trans h3.2 (Nat.add_le_add_right HME.out 1)⟩⟩
                · have hm0 : ((m1 : Int) == 0) = false := by have := List.length_pos_iff.2 h3; simp; omega
                  have HU := Lib.hid (show waitS s2 x = s2 by unfold waitS; rw [if_neg (fun h => h3 h.2)])
                  clear hF hn1 hm1 h0 h3
                  go_wp2_with fail
                  go_roundw
                  case measure => have := HLT.out; simp [intOf]; omega
                  case rel =>
                    have h2 := HRU.out
                    have h3 := HTI.out
                    rw [HTK.out.1, HTK.out.2, HU.out] at h2 h3
                    exact ⟨j + 1, s2, by go_num, HLT.out, Lib.hid ⟨HF1.out, HK1.out, h3.1, h2, Nat.le_trans h3.2 (Nat.add_le_add_right HME.out 1)⟩⟩
            | false =>
              cases h2 : isT x with
              | true =>
                have HTK := Lib.hid (show tookS wide s2 x (l.drop (j + 1)) = tabS wide s2 x ∧ tookN x (l.drop (j + 1)) = 1 by simp [tookS, tookN, sgn, noS, h1, h2, stepS])
                have HTB := Lib.hid (tab_ref x W1 HF1.out HIV.out hw1 hw2 HOU.out)
                unfold isB at h1
                unfold isT at h2
                unfold glV at HTB
                go_wp2_with fail
                refine HTB.out.mono ?_
                rintro e w4 ⟨rfl, hf4, hk4⟩
                have HF4 := Lib.hid hf4
                have HK4 := Lib.hid (HK1.out.trans hk4)
                clear hf4 hk4
                go_wp2_with fail
                go_roundw
                case measure => have := HLT.out; simp [intOf]; omega
                case rel =>
                  have h2 := HRU.out
                  have h3 := HTI.out
                  rw [HTK.out.1, HTK.out.2] at h2 h3
                  exact ⟨j + 1, _, by go_num, HLT.out, Lib.hid ⟨HF4.out, HK4.out, h3.1, h2, Nat.le_trans h3.2 (Nat.add_le_add_right HME.out 1)⟩⟩
              | false =>
                cases h3 : isN x with
                | true =>
                  have HTK := Lib.hid (show tookS wide s2 x (l.drop (j + 1)) = endS s2 ∧ tookN x (l.drop (j + 1)) = 1 by simp [tookS, tookN, sgn, noS, h1, h2, h3, stepS])
                  obtain ⟨vo, vl, vw, vs, hF⟩ := HF1.out
                  have f3 := bx_frozen hF.blk 3
                  obtain ⟨q0, q1, q2, q3, q4⟩ := bx_cellsD hF.blk
                  have hg4 := heap_setCell_same W1 g 3 _ _ (.slice none 0 0) hF.blk
                  have hFu := hF.unwait (i := 3) hg4
                  have HFU := Lib.hid (show Fl false w.heap.size g wide (fun c => c < w.heap.size) ⟨s2.out, s2.line, []⟩ (W1.setCell ⟨g, 3, none⟩ (.slice none 0 0)) from ⟨_, _, _, _, hFu⟩)
                  have HKU := Lib.hid (HK1.out.set 3 hF.notKg (.slice none 0 0))
                  obtain ⟨W2, hW2⟩ : ∃ W2, W1.setCell ⟨g, 3, none⟩ (.slice none 0 0) = W2 := ⟨_, rfl⟩
                  rw [hW2] at HFU HKU
                  have HE2 := Lib.hid (end_ref W2 HFU.out HOU.out)
                  unfold isB at h1
                  unfold isT at h2
                  unfold isN at h3
                  clear hF hg4 hFu
                  go_wp2_with fail
                  refine HE2.out.mono ?_
                  rintro e w4 ⟨rfl, hf4, hk4⟩
                  have HF4 := Lib.hid hf4
                  have HK4 := Lib.hid (HKU.out.trans hk4)
                  clear hf4 hk4
                  go_wp2_with fail
                  go_roundw
                  case measure => have := HLT.out; simp [intOf]; omega
                  case rel =>
                    have h2 := HRU.out
                    have h3 := HTI.out
                    rw [HTK.out.1, HTK.out.2] at h2 h3
                    exact ⟨j + 1, _, by go_num, HLT.out, Lib.hid ⟨HF4.out, HK4.out, h3.1, h2, Nat.le_trans h3.2 (Nat.add_le_add_right HME.out 1)⟩⟩
                | false =>
                  have hsg : sgn x = true := by simp [sgn, noS, h1, h2, h3]
                  unfold isB at h1
                  unfold isT at h2
                  unfold isN at h3
                  go_wp2_with fail
                  have hTK : tookS wide s2 x (l.drop (j + 1)) = wordS wide s2 (fitL wide (firstW (l.drop j))) ∧ tookN x (l.drop (j + 1)) = (firstW (l.drop j)).length := by rw [HD.out]; simp [tookS, tookN, hsg]
                  have HTK := Lib.hid hTK
                  obtain ⟨f, hf⟩ : ∃ f, firstW (l.drop j) = f := ⟨_, rfl⟩
                  have hfp : 0 < f.length := by rw [← hf, HD.out]; exact firstW_pos hsg
                  have hfle : f.length ≤ (l.drop j).length := by rw [← hf]; exact firstW_le _
                  have hpre : (l.drop j).take f.length = f := by rw [← hf]; exact firstW_pre _
                  have HFS := Lib.hid (show ∀ y ∈ f, sgn y = true by rw [← hf]; exact firstW_all _)
                  have HFB := Lib.hid (show ∀ y ∈ fitL wide f, (1 ≤ y.wd ∧ y.wd ≤ 2) ∧ y.wd ≤ wide from fun y hy => by
                    obtain ⟨z, hz, rfl⟩ := List.mem_map.1 hy
                    exact fit_ok hw1 (HBD.out z (by rw [← hf] at hz; exact List.mem_of_mem_drop (firstW_sub _ z hz))) (HFS.out z hz))
                  have hel : ∀ i (hi : i < f.length), ∃ h : j + i < l.length, l[j + i] = f[i] := fun i hi => by
                    rw [List.length_drop] at hfle
                    refine ⟨by omega, ?_⟩
                    have h1 : f[i] = ((l.drop j).take f.length)[i]'(by rw [hpre]; exact hi) := by simp only [hpre]
                    rw [h1, List.getElem_take, List.getElem_drop]
                  have HEL := Lib.hid hel
                  have hend : ∀ (h : j + f.length < l.length), sgn l[j + f.length] = false := by
                    subst hf
                    exact firstW_end l j
                  have HEND := Lib.hid hend
                  have hql : j + f.length ≤ k := by rw [List.length_drop] at hfle; have := HN.out; omega
                  obtain ⟨q, hq⟩ : ∃ q, f.length = q := ⟨_, rfl⟩
                  have HQ := Lib.hid hq
                  have HFF2 := Lib.hid hf
                  rw [hq] at hfp hql
                  have HFP := Lib.hid hfp
                  have W1S := Lib.hid (show b < W1.heap.size from Nat.lt_of_lt_of_le hb (HK1.out.size))
                  clear hTK hf hfle hpre hel hend hq hsg d0 d1 d2 d3 d4
                  go_loopw [8, 10] (fun i wv wi => ∃ m : Nat, i = .int .i64 (j + m : Nat) ∧ m ≤ q ∧ Hid (wi.ownsRow W1.heap.size 49 5 wv m (rowsG ((fitL wide f).take m))) ∧ Hid (Below W1.heap.size W1 wi)) (fun i _ _ => k - (intOf i).toNat)
                  case atStart => exact ⟨0, rfl, Nat.zero_le _, Lib.hid (World.ownsRow_nil _ _ _ _), Lib.hid (Below.refl _ _)⟩
                  case round =>
                    obtain ⟨wi, rfl⟩ : ∃ wi : World, wi = wr := ⟨_, rfl⟩
                    obtain ⟨m, rfl, hm, HO, HBi⟩ := hrel
                    obtain ⟨jm, hjm⟩ : ∃ jm, j + m = jm := ⟨_, rfl⟩
                    rw [hjm]
                    have HJM := Lib.hid hjm
                    have jk : jm ≤ k := by omega
                    obtain ⟨pv, cv, rfl⟩ := lenL HO.out
                    by_cases hlt2 : m < q
                    · obtain ⟨hjl2, he2⟩ := HEL.out m (by rw [HQ.out]; exact hlt2)
                      have hcz := (HR.out.keep (fun a ha _ => World.cell?_of_block (by rw [HBi.out.block _ (Nat.lt_of_lt_of_le ha HK1.out.size), HK1.out.block _ ha]))).at_ hjl2
                      obtain ⟨b', off', eb, _, hcz⟩ := hcz
                      cases eb
                      have hsz := HFS.out _ (List.getElem_mem (show m < f.length by rw [HQ.out]; exact hlt2))
                      have htk : (fitL wide f).take (m + 1) = (fitL wide f).take m ++ [fitG wide (f[m]'(by rw [HQ.out]; exact hlt2))] := by
                        have h1 : m < (fitL wide f).length := by simp [fitL]; rw [HQ.out]; exact hlt2
                        rw [List.take_succ_eq_append_getElem h1]
                        simp [fitL]
                      rw [he2] at hcz
                      obtain ⟨z, hz⟩ : ∃ z, f[m]'(by rw [HQ.out]; exact hlt2) = z := ⟨_, rfl⟩
                      rw [hz] at hcz hsz htk
                      rw [hjm] at hcz
                      obtain ⟨c0, c1, c2, c3, c4⟩ := hcz
                      have HTKm := Lib.hid htk
                      have HSZ := Lib.hid (sign_ref z wi)
                      rw [hsz] at HSZ
                      unfold glV at HSZ
                      have jk1 : (jm : Int) < k := by omega
                      have jk2 : jm < k := by omega
                      have HLT2 := Lib.hid hlt2
                      have hbw : b < wi.heap.size := Nat.lt_of_lt_of_le W1S.out HBi.out.size
                      clear hjl2 he2 hsz htk hz hlt2
                      go_wp2_with fail
                      refine HSZ.out.mono ?_
                      rintro e w6 ⟨rfl, hb6⟩
                      obtain ⟨e0, e1, e2, e3, e4⟩ : w6.cell? ⟨b, off + jm * 5, none⟩ = some (.string z.t) ∧ w6.cell? ⟨b, off + jm * 5 + 1, none⟩ = some (.int .i64 z.wd) ∧ w6.cell? ⟨b, off + jm * 5 + 2, none⟩ = some (.int .i64 z.at_) ∧ w6.cell? ⟨b, off + jm * 5 + 3, none⟩ = some (.int .i64 z.co) ∧ w6.cell? ⟨b, off + jm * 5 + 4, none⟩ = some (.int .i64 z.lk) :=
                        ⟨(hb6.cell (p := ⟨b, off + jm * 5, none⟩) hbw).trans c0, (hb6.cell (p := ⟨b, off + jm * 5 + 1, none⟩) hbw).trans c1, (hb6.cell (p := ⟨b, off + jm * 5 + 2, none⟩) hbw).trans c2, (hb6.cell (p := ⟨b, off + jm * 5 + 3, none⟩) hbw).trans c3, (hb6.cell (p := ⟨b, off + jm * 5 + 4, none⟩) hbw).trans c4⟩
                      have hO6 := own_below HO.out hb6
                      have hB6 := HBi.out.trans (hb6.mono HBi.out.size)
                      have hBA := below_box w6 (boxG (fitG wide z))
                      have hBC := below_box (w6.alloc (boxG (fitG wide z))) (boxG (fitG wide z))
                      have HOA := Lib.hid (own_below (own_below hO6 hBA) hBC)
                      have HBA := Lib.hid ((hB6.trans (hBA.mono hB6.size)).trans (hBC.mono (Nat.le_trans hB6.size hBA.size)))
                      have L3 := Lib.hid HBA.out.size
                      have L1 := Lib.hid (show m + 1 ≤ maxLen by have := HLL.out; unfold maxLen; omega)
                      have L2 := Lib.hid (show (m + 1) * 48 ≤ 140737488355328 by have := HLL.out; have := HN.out; omega)
                      have HNC := Lib.hid (show ∀ (j : Nat) (u : Value), (glRow (fitG wide z))[j]? = some u → ((w6.alloc (boxG (fitG wide z))).alloc (boxG (fitG wide z))).cell? ((⟨w6.heap.size + 1, 0, none⟩ : Addr).add j) = some u from fun j u hu => by
                        have h := cells_newL (w6.alloc (boxG (fitG wide z))) #[.string (fitG wide z).t, .int .i64 (fitG wide z).wd, .int .i64 (fitG wide z).at_, .int .i64 (fitG wide z).co, .int .i64 (fitG wide z).lk] 49 j u hu
                        rw [show (w6.alloc (boxG (fitG wide z))).heap.size = w6.heap.size + 1 by simp] at h
                        exact h)
                      obtain ⟨zs, hzs⟩ : ∃ zs, rowsG ((fitL wide f).take m) = zs := ⟨_, rfl⟩
                      have hzl : Hid (∀ (v6 : Value) (w6' : World), w6'.ownsRow W1.heap.size 49 5 v6 (m + 1) (zs ++ glRow (fitG wide z)) → w6'.ownsRow W1.heap.size 49 5 v6 (m + 1) (rowsG ((fitL wide f).take (m + 1)))) := Lib.hid (fun v6 w6' h => by rw [HTKm.out, rowsG_snoc, hzs]; exact h)
                      rw [hzs] at HOA
                      clear hb6 hO6 hB6 hBA hBC hzs c0 c1 c2 c3 c4
                      by_cases hwz : wide < z.wd
                      · have hfz : fitG wide z = ⟨bl1 63, 1, z.at_, z.co, z.lk⟩ := by unfold fitG; rw [if_pos hwz]
                        rw [hfz] at HOA HBA L3 HNC hzl
                        unfold boxG at HOA HBA L3 HNC
                        simp only [bl1] at HOA HBA L3 HNC
                        clear hfz
                        go_upto_region 20 with fail
                        go_wp2_with (first | (at_builtin; go_loud (refine wpList_append_own _ rfl _ _ 22 rfl W1.heap.size 49 i0 _ 5 48 Try.underlying22 hi0 hz0 hz1 hz2 rfl (by decide) _ _ _ rfl HOA.out ⟨w6.heap.size + 1, 0, none⟩ 1 1 (glRow ⟨bl1 63, 1, z.at_, z.co, z.lk⟩) rfl rfl HNC.out (glRow_one _) L1.out L2.out L3.out ?_); intro v7 w7 hown7 hgrow7 _; have HO7 := Lib.hid (hzl.out _ _ hown7); have HB7 := Lib.hid (HBA.out.grown hgrow7 L3.out (fun r e => (own_base HOA.out e).1)); clear hown7 hgrow7))
                        go_wp2_with fail
                        go_roundw
                        case measure => have := HLT2.out; have := HJM.out; simp [intOf]; omega
                        case rel => exact ⟨m + 1, by have := HJM.out; rw [show j + (m + 1) = jm + 1 by omega]; go_num, HLT2.out, HO7, HB7⟩
                      · have hfz : fitG wide z = z := by unfold fitG; rw [if_neg hwz]
                        rw [hfz] at HOA HBA L3 HNC hzl
                        unfold boxG at HOA HBA L3 HNC
                        clear hfz
                        go_upto_region 20 with fail
                        go_wp2_with (first | (at_builtin; go_loud (refine wpList_append_own _ rfl _ _ 22 rfl W1.heap.size 49 i0 _ 5 48 Try.underlying22 hi0 hz0 hz1 hz2 rfl (by decide) _ _ _ rfl HOA.out ⟨w6.heap.size + 1, 0, none⟩ 1 1 (glRow z) rfl rfl HNC.out (glRow_one _) L1.out L2.out L3.out ?_); intro v7 w7 hown7 hgrow7 _; have HO7 := Lib.hid (hzl.out _ _ hown7); have HB7 := Lib.hid (HBA.out.grown hgrow7 L3.out (fun r e => (own_base HOA.out e).1)); clear hown7 hgrow7))
                        go_wp2_with fail
                        go_roundw
                        case measure => have := HLT2.out; have := HJM.out; simp [intOf]; omega
                        case rel => exact ⟨m + 1, by have := HJM.out; rw [show j + (m + 1) = jm + 1 by omega]; go_num, HLT2.out, HO7, HB7⟩
                    · obtain rfl : m = q := by omega
                      have hOw := HO.out
                      rw [show (fitL wide f).take m = fitL wide f by rw [List.take_of_length_le (by simp [fitL]; rw [HQ.out]; exact Nat.le_refl _)]] at hOw
                      have hRW := RdG.own hOw (by simp [fitL]; exact HQ.out.symm)
                      have HRW := Lib.hid hRW
                      have HOW := Lib.hid hOw
                      have jm0 : (0 : Int) < jm := by have := HFP.out; omega
                      obtain ⟨jp, hjp⟩ : ∃ jp : Nat, jm = jp + 1 := ⟨jm - 1, by have := HFP.out; omega⟩
                      have HML := Lib.hid (show (meas s2 + (fitL wide f).length) * 24 ≤ 140737488355328 by
                        have := HLL.out; have := HN.out; have := HME.out; have := HQ.out; have := HJM.out
                        simp only [fitL, List.length_map]
                        omega)
                      have HWne := Lib.hid (show 0 < (fitL wide f).length by simp only [fitL, List.length_map]; rw [HQ.out]; exact HFP.out)
                      have HJP := Lib.hid hjp
                      have jp62 : jp ≤ 9223372036854775806 := by omega
                      have hw0 : wrap64 ((jm : Int) - 1) = jp := by rw [IntWalk.wrap64_in _ (by omega)]; omega
                      have hw0' : (jm : Int) - 1 = jp := by omega
                      by_cases hjk2 : jm < k
                      · have hjki : (jm : Int) < k := by omega
                        have hjl3 : j + f.length < l.length := by rw [HQ.out, HN.out]; omega
                        have hsz := HEND.out hjl3
                        have hcz := (HR.out.keep (fun a ha _ => World.cell?_of_block (by rw [HBi.out.block _ (Nat.lt_of_lt_of_le ha HK1.out.size), HK1.out.block _ ha]))).at_ hjl3
                        obtain ⟨b', off', eb, _, hcz⟩ := hcz
                        cases eb
                        obtain ⟨z, hz⟩ : ∃ z, l[j + f.length] = z := ⟨_, rfl⟩
                        rw [hz] at hcz hsz
                        rw [HQ.out, hjm] at hcz
                        obtain ⟨c0, c1, c2, c3, c4⟩ := hcz
                        have HSZ := Lib.hid (sign_ref z wi)
                        rw [hsz] at HSZ
                        unfold glV at HSZ
                        clear hjl3 hsz hz hjp hOw hRW hw0'
                        go_wp2_with fail
                        refine HSZ.out.mono ?_
                        rintro e w6 ⟨rfl, hb6⟩
                        have HB6 := Lib.hid hb6
                        clear hb6
                        have hbW : Below W1.heap.size W1 w6 := HBi.out.trans (HB6.out.mono HBi.out.size)
                        have HFW := Lib.hid (HF1.out.fresh hbW)
                        have HKW := Lib.hid (HK1.out.trans (Kp.of hbW HF1.out.lt))
                        have HKP := Lib.hid (fun c (hc : (Value.slice pv m cv).ownBlock = some c ∧ W1.heap.size ≤ c) => (show c < w.heap.size ∨ (W1.heap.size ≤ c ∧ c < w6.heap.size) from .inr ⟨hc.2, Nat.lt_of_lt_of_le (own_base HOW.out hc.1).2 (HB6.out.size)⟩))
                        have HWD := Lib.hid (word_ref (fitL wide f) (.slice pv m cv) w6 HFW.out (HRW.out.below HB6.out) HKP.out HIV.out hw1 hw2 HWne.out HML.out HFB.out)
                        clear hbW
                        go_wp2_with fail
                        refine HWD.out.mono ?_
                        rintro e w8 ⟨rfl, hf8, hk8⟩
                        have HF8 := Lib.hid (hf8.less (K' := fun c => c < w.heap.size) fun c hc => .inl hc)
                        have HK8 := Lib.hid (HKW.out.trans (hk8.mono (K' := fun c => c < w.heap.size) fun c hc => .inl hc))
                        clear hf8 hk8
                        go_wp2_with fail
                        go_roundw
                        case measure => have := HJP.out; have := HJM.out; have := HFP.out; have := HLT.out; clear hw0; show k - ((jm : Int)).toNat < k - ((j : Int)).toNat; rw [Int.toNat_natCast, Int.toNat_natCast]; omega
                        case rel =>
                          have h2 := HRU.out
                          have h3 := HTI.out
                          rw [HTK.out.1, HTK.out.2, HFF2.out, HQ.out, HJM.out] at h2
                          rw [HTK.out.1, HTK.out.2, HFF2.out, HQ.out] at h3
                          exact ⟨jp + 1, _, by rw [← HJP.out], by have := HJP.out; omega, Lib.hid ⟨HF8.out, HK8.out, h3.1, by rw [← HJP.out]; exact h2, by have := h3.2; have := HME.out; have := HJP.out; have := HJM.out; omega⟩⟩
                      · have hjki : ¬ (jm : Int) < k := by omega
                        clear hjp hOw hRW hw0'
                        have hbW : Below W1.heap.size W1 wi := HBi.out
                        have HFW := Lib.hid (HF1.out.fresh hbW)
                        have HKW := Lib.hid (HK1.out.trans (Kp.of hbW HF1.out.lt))
                        have HKP := Lib.hid (fun c (hc : (Value.slice pv m cv).ownBlock = some c ∧ W1.heap.size ≤ c) => (show c < w.heap.size ∨ (W1.heap.size ≤ c ∧ c < wi.heap.size) from .inr ⟨hc.2, Nat.lt_of_lt_of_le (own_base HOW.out hc.1).2 (Nat.le_refl _)⟩))
                        have HWD := Lib.hid (word_ref (fitL wide f) (.slice pv m cv) wi HFW.out (HRW.out) HKP.out HIV.out hw1 hw2 HWne.out HML.out HFB.out)
                        clear hbW
                        go_wp2_with fail
                        refine HWD.out.mono ?_
                        rintro e w8 ⟨rfl, hf8, hk8⟩
                        have HF8 := Lib.hid (hf8.less (K' := fun c => c < w.heap.size) fun c hc => .inl hc)
                        have HK8 := Lib.hid (HKW.out.trans (hk8.mono (K' := fun c => c < w.heap.size) fun c hc => .inl hc))
                        clear hf8 hk8
                        go_wp2_with fail
                        go_roundw
                        case measure => have := HJP.out; have := HJM.out; have := HFP.out; have := HLT.out; clear hw0; show k - ((jm : Int)).toNat < k - ((j : Int)).toNat; rw [Int.toNat_natCast, Int.toNat_natCast]; omega
                        case rel =>
                          have h2 := HRU.out
                          have h3 := HTI.out
                          rw [HTK.out.1, HTK.out.2, HFF2.out, HQ.out, HJM.out] at h2
                          rw [HTK.out.1, HTK.out.2, HFF2.out, HQ.out] at h3
                          exact ⟨jp + 1, _, by rw [← HJP.out], by have := HJP.out; omega, Lib.hid ⟨HF8.out, HK8.out, h3.1, by rw [← HJP.out]; exact h2, by have := h3.2; have := HME.out; have := HJP.out; have := HJM.out; omega⟩⟩
          · obtain rfl : j = k := by omega
            have hzk : ¬ (j : Int) < j := by omega
            have e : l.drop j = [] := List.drop_eq_nil_of_le (by have := HN.out; omega)
            rw [e, runF_nil] at hrun
            have HRU := Lib.hid hrun
            have HKP := Lib.hid hkp
            have HFL := Lib.hid hfl
            have hln := hinv.len
            have hou : (s2.out.length + 1) * 24 ≤ 140737488355328 := by have := HLL.out; have := out_le s2; have := HN.out; omega
            have HE2 := Lib.hid (end_ref wr hfl hou)
            obtain ⟨vo, vl, vw, vs, hF⟩ := hfl
            obtain ⟨pl, cl, rfl⟩ := lenL hF.line
            obtain ⟨q0, q1, q2, q3, q4⟩ := bx_cellsD hF.blk
            obtain ⟨n1, hn1⟩ : ∃ n1, s2.line.length = n1 := ⟨_, rfl⟩
            rw [hn1] at q1 hln
            by_cases h0 : s2.line = []
            · have hn0 : ¬ (0 : Int) < n1 := by rw [← hn1, h0]; simp
              have HU := Lib.hid (show endU s2 = s2 by unfold endU; rw [if_pos h0])
              have HO := Lib.hid (hF.out.rd (Q := (w.heap.size ≤ ·)) (fun b hb _ => hb) (fun b _ hT => hT.1))
              clear hF hn1 h0 hkp hinv hrun hme hou e hlt
              go_wp2_with fail
              go_ret2
              exact ⟨vo, by rw [HE.out.1]; rfl, by rw [HE.out.2, fillM_eq, HFF.out, ← HRU.out, HU.out]; exact HO.out, HKP.out.below fun c hc => hc⟩
            · have hn0 : (0 : Int) < n1 := by have := List.length_pos_iff.2 h0; omega
              have HU := Lib.hid (show endU s2 = endS s2 by unfold endU; rw [if_neg h0])
              clear hF hn1 h0 hkp hinv hrun hme hou e hlt
              go_wp2_with fail
              refine HE2.out.mono ?_
              rintro e w4 ⟨rfl, hf4, hk4⟩
              obtain ⟨vo4, vl4, vw4, hblk, hout⟩ := hf4.told
              obtain ⟨r0, r1, r2, r3, r4⟩ := bx_cellsD hblk
              have HO := Lib.hid hout
              have HK4 := Lib.hid (HKP.out.trans hk4)
              clear hf4 hk4 hblk hout q0 q1 q2 q3 q4
              go_wp2_with fail
              go_ret2
              exact ⟨vo4, by rw [HE.out.1]; rfl, by rw [HE.out.2, fillM_eq, HFF.out, ← HRU.out, HU.out]; exact HO.out, HK4.out.below fun c hc => hc⟩
  · have HE := Lib.hid (show fillE wide l = 1 ∧ fillL wide l = [] by
      have : fillE wide l = 1 := by unfold fillE; rw [if_pos (by omega)]
      exact ⟨this, by unfold fillL; rw [this]; rfl⟩)
    clear hr hl
    by_cases h1 : wide < 1
    · have h1d : decide (wide < 1) = true := decide_eq_true h1
      clear hw
      go_enter Try.func13, Try.ntmps13
      go_wp2_with fail
      go_ret2
      exact ⟨.slice none 0 0, by rw [HE.out.1]; rfl, by rw [HE.out.2]; exact ⟨none, 0, rfl, Nat.le_refl _, Nat.zero_le _, fun j hj => absurd hj (by simp)⟩, Below.refl _ _⟩
    · have h1d : decide (wide < 1) = false := decide_eq_false h1
      have h2 : 200 < wide := by omega
      have h2d : decide (200 < wide) = true := decide_eq_true h2
      clear hw
      go_enter Try.func13, Try.ntmps13
      go_wp2_with fail
      go_ret2
      exact ⟨.slice none 0 0, by rw [HE.out.1]; rfl, by rw [HE.out.2]; exact ⟨none, 0, rfl, Nat.le_refl _, Nat.zero_le _, fun j hj => absurd hj (by simp)⟩, Below.refl _ _⟩
end Go.Proofs.Ytpnlajgcfibelaa.Tb
