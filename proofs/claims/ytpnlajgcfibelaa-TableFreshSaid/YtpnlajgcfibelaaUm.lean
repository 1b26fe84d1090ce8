/- Layer 12: the document's Sign, Wide, tab. -/
import Derived.Test.YtpnlajgcfibelaaUg
import Derived.Test.YtpnlajgcfibelaaUl
namespace Go.Proofs.Ytpnlajgcfibelaa.Tb
open Go.RowKit Go.Maps
set_option linter.unusedVariables false
set_option linter.unusedSimpArgs false
set_option maxRecDepth 100000 in
theorem sign_ref (g : Gl) (w : World) : Calls Try.prog 23 #[glV g] w (SaysL (.bool (sgn g)) w) := by
  have hb := below_box w (boxG g)
  unfold boxG at hb
  unfold glV
  have HB := Lib.hid hb
  clear hb
  cases h1 : isB g with
  | true =>
    rw [show sgn g = false by simp [sgn, noS, h1]]
    unfold isB at h1
    have h1' : (g.t.toList != [32]) = false := by simpa using h1
    go_enter Try.func23, Try.ntmps23
    go_wp2_with fail
    go_ret
    exact ⟨rfl, HB.out⟩
  | false =>
    cases h2 : isT g with
    | true =>
      rw [show sgn g = false by simp [sgn, noS, h1, h2]]
      unfold isB at h1
      unfold isT at h2
      have h1' : (g.t.toList != [32]) = true := by simpa using h1
      have h2' : (g.t.toList != [9]) = false := by simpa using h2
      go_enter Try.func23, Try.ntmps23
      go_wp2_with fail
      go_ret
      exact ⟨rfl, HB.out⟩
    | false =>
      rw [show sgn g = !isN g by simp [sgn, noS, h1, h2]]
      unfold isB at h1
      unfold isT at h2
      have h1' : (g.t.toList != [32]) = true := by simpa using h1
      have h2' : (g.t.toList != [9]) = true := by simpa using h2
      obtain ⟨z, hz⟩ : ∃ z, isN g = z := ⟨_, rfl⟩
      rw [hz]
      unfold isN at hz
      cases z with
      | true =>
        have h3' : (g.t.toList != [10]) = false := by simpa using hz
        go_enter Try.func23, Try.ntmps23
        go_wp2_with fail
        go_ret
        exact ⟨rfl, HB.out⟩
      | false =>
        have h3' : (g.t.toList != [10]) = true := by simpa using hz
        go_enter Try.func23, Try.ntmps23
        go_wp2_with fail
        go_ret
        exact ⟨rfl, HB.out⟩
set_option maxRecDepth 100000 in
set_option maxHeartbeats 1000000 in
theorem wide_ref {P : Nat → Prop} (l : List Gl) (v : Value) (w : World) (h : RdG P w v l) (hl : l.length ≤ 140737488355328) (hs : SmallW l) : Calls Try.prog 24 #[v] w fun e w' => e = .returned (.int .i64 (wid l)) ∧ w = w' := by
  obtain ⟨pa, cap, rfl, h1, h2⟩ := sliceG h
  have HH := Lib.hid h
  obtain ⟨n, hn⟩ : ∃ n, l.length = n := ⟨_, rfl⟩
  have HN := Lib.hid hn
  have HS := Lib.hid hs
  rw [hn] at HH h1 ⊢
  have hn62 : n ≤ 140737488355328 := by omega
  clear h hn h1 hs hl
  go_enter Try.func24, Try.ntmps24
  go_wp2_with fail
  go_loop [3, 4] (fun s i => ∃ k : Nat, i = .int .i64 k ∧ k ≤ n ∧ s = .int .i64 (wid (l.take k))) (fun _ i => n - (intOf i).toNat)
  case atStart => exact ⟨0, rfl, Nat.zero_le _, rfl⟩
  case round =>
    obtain ⟨k, rfl, hk, rfl⟩ := hrel
    by_cases hlt : k < n
    · have hkl : k < l.length := by rw [HN.out]; exact hlt
      obtain ⟨b, off, rfl, _, hc⟩ := HH.out.at_ hkl
      have hT := Lib.hid (wid_take l k hkl)
      have hsm := wid_small (l := l.take k) fun g hg => HS.out g (List.mem_of_mem_take hg)
      have hkk : (l.take k).length ≤ k := List.length_take_le _ _
      have hx1 := HS.out _ (List.getElem_mem hkl)
      obtain ⟨x, hx⟩ : ∃ x, l[k] = x := ⟨_, rfl⟩
      rw [hx] at hc hT hx1
      obtain ⟨c0, c1, c2, c3, c4⟩ := hc
      obtain ⟨s, hs⟩ : ∃ s, wid (l.take k) = s := ⟨_, rfl⟩
      rw [hs] at hT hsm ⊢
      have s1 : 0 ≤ s := hsm.1
      have s2 : s ≤ 200 * 140737488355328 := by omega
      have x1 := hx1.1
      have x2 := hx1.2
      have k1 : (k : Int) < n := by omega
      have HLT := Lib.hid hlt
      clear hx hs hlt hsm hx1 hkk
      go_wp2_with fail
      go_round
      case measure => have := HLT.out; simp [intOf]; omega
      case rel => exact ⟨k + 1, by go_num, HLT.out, by rw [hT.out]⟩
    · obtain rfl : k = n := by omega
      have hz1 : ¬ (k : Int) < k := by omega
      clear hlt
      go_wp2_with fail
      go_ret
      exact ⟨by rw [show l.take k = l by rw [← HN.out, List.take_length]]; rfl, rfl⟩
set_option maxRecDepth 100000 in
set_option maxHeartbeats 1000000 in
theorem tab_ref {B g : Nat} {wide : Int} {K : Nat → Prop} {s : Fs} (x : Gl) (w : World) (h : Fl false B g wide K s w) (hi : Inv wide s) (hw1 : 1 ≤ wide) (hw2 : wide ≤ 200) (ho : (s.out.length + 1) * 24 ≤ 140737488355328) :
    Calls Try.prog 35 #[.pointer (some ⟨g, 0, none⟩), glV x] w (FlPost false B g wide K (tabS wide s x) (.tuple #[]) w) := by
  have hA := below_box w (boxG x)
  obtain ⟨vo, vl, vw, vs, hF⟩ := h
  have hF1 := hF.more (boxG x)
  have hKl := fun c hc => (hF.apart c hc).1
  have HK1 := Lib.hid (Kp.of hA hKl)
  obtain ⟨b, hb⟩ : ∃ b, w.heap.size = b := ⟨_, rfl⟩
  have hX := heap_alloc_new w (boxG x)
  obtain ⟨W1, hW1⟩ : ∃ W1, w.alloc (boxG x) = W1 := ⟨_, rfl⟩
  rw [hW1] at hF1 HK1 hX
  rw [hb] at hX hF1
  obtain ⟨q0, q1, q2, q3, q4⟩ := bx_cellsD hF1.blk
  have f3 := bx_frozen hF1.blk 3
  have hg4 := heap_setCell_same W1 g 3 _ _ (.slice none 0 0) hF1.blk
  have hFu := hF1.unwait (i := 3) hg4
  have HF4 := Lib.hid (show Fl false B g wide (fun c => K c ∨ c = b) (repS s 0 (blank x)) (W1.setCell ⟨g, 3, none⟩ (.slice none 0 0)) from ⟨_, _, _, _, by
    simp only [repS, List.replicate_zero, List.append_nil]
    exact hFu⟩)
  have HFE := Lib.hid (show Fl false B g wide K ⟨s.out, s.line, []⟩ (W1.setCell ⟨g, 3, none⟩ (.slice none 0 0)) from ⟨_, _, _, _, hFu.less fun c hc => .inl hc⟩)
  have hgb : b ≠ g := by have := hF.ng.2.2; omega
  have hX4 : (W1.setCell ⟨g, 3, none⟩ (.slice none 0 0)).heap[b]? = some (boxG x) := (Below.heap_setCell _ _ _ _ hgb).trans hX
  have HK4 := Lib.hid (HK1.out.set 3 hF.notKg (.slice none 0 0))
  obtain ⟨W2, hW2⟩ : ∃ W2, W1.setCell ⟨g, 3, none⟩ (.slice none 0 0) = W2 := ⟨_, rfl⟩
  rw [hW2] at HF4 hX4 HK4 HFE hg4
  obtain ⟨y0, y1, y2, y3, y4⟩ := bx_cellsD hg4
  have HX := Lib.hid hX4
  have hu1 := hi.nn
  have hu2 := hi.le
  have HLN := Lib.hid hi.len
  have HSO := Lib.hid (show stopOf s = wid s.line / 8 * 8 + 8 from rfl)
  obtain ⟨u, hu⟩ : ∃ u, wid s.line = u := ⟨_, rfl⟩
  have HU := Lib.hid hu
  rw [hu] at hu1 hu2 HSO y2
  have d1 : 0 ≤ u / 8 := by omega
  have d2 : u / 8 ≤ 25 := by omega
  obtain ⟨q, hq⟩ : ∃ q, (u / 8 + 1) * 8 = q := ⟨_, rfl⟩
  have hq1 : u / 8 * 8 + 8 = q := by omega
  have HQ := Lib.hid hq
  have q5 : u < q := by omega
  have q6 : q ≤ 208 := by omega
  rw [hq1] at HSO
  unfold boxG at hW1
  unfold glV
  by_cases hlt : wide ≤ q
  · have HT := Lib.hid (show tabS wide s x = endS ⟨s.out, s.line, []⟩ by unfold tabS; rw [if_neg (by rw [HSO.out]; omega)]; rfl)
    have HE := Lib.hid (end_ref W2 HFE.out ho)
    clear hA hF hF1 hKl hX hg4 hX4 hgb hu hq1 hFu hi
    go_enter Try.func35, Try.ntmps35
    go_wp2_with fail
    refine HE.out.mono ?_
    rintro e w3 ⟨rfl, hf, hk⟩
    have HF5 := Lib.hid hf
    have HK5 := Lib.hid (HK4.out.trans hk)
    clear hf hk
    go_wp2_with fail
    go_end0
    exact ⟨rfl, by rw [HT.out]; exact HF5.out, HK5.out⟩
  · have HT := Lib.hid (show tabS wide s x = repS s (q - u).toNat (blank x) by unfold tabS; rw [if_pos (by rw [HSO.out]; omega), HSO.out, HU.out]; rfl)
    clear hA hF hF1 hKl hX hg4 hX4 hgb hu hq1 hFu hi
    go_enter Try.func35, Try.ntmps35
    go_wp2_with fail
    clear hq
    go_loopw [23] (fun _ wr => ∃ k : Nat, u + k ≤ q ∧ Hid (Fl false B g wide (fun c => K c ∨ c = b) (repS s k (blank x)) wr) ∧ Hid (Kp (fun c => K c ∨ c = b) W2 wr)) (fun _ wr => (q - intAt wr ⟨g, 2, none⟩).toNat)
    case atStart => exact ⟨0, by omega, HF4, Lib.hid (Kp.refl _ _)⟩
    case round =>
      obtain ⟨k, hk, HF, HK⟩ := hrel
      have hF := HF.out
      obtain ⟨vo', vl', vw', vs', hF⟩ := hF
      obtain ⟨q0, q1, q2, q3, q4⟩ := bx_cellsD hF.blk
      rw [repS_wid, HU.out, show (blank x).wd = 1 from rfl, Int.mul_one] at q2
      have hXr := (HK.out.block b (.inr rfl)).trans HX.out
      unfold boxG at hXr
      obtain ⟨d0, d1, d2, d3, d4⟩ : wr.cell? ⟨b, 0, none⟩ = some (.string x.t) ∧ wr.cell? ⟨b, 1, none⟩ = some (.int .i64 x.wd) ∧ wr.cell? ⟨b, 2, none⟩ = some (.int .i64 x.at_) ∧ wr.cell? ⟨b, 3, none⟩ = some (.int .i64 x.co) ∧ wr.cell? ⟨b, 4, none⟩ = some (.int .i64 x.lk) := by
        refine ⟨?_, ?_, ?_, ?_, ?_⟩ <;> rw [cell_of_row _ _ _ _ _ _ hXr] <;> rfl
      have HM := Lib.hid (show intAt wr ⟨g, 2, none⟩ = u + k by unfold intAt; rw [q2]; rfl)
      by_cases hlt : u + k < q
      · have HLT := Lib.hid hlt
        have hl3 : (repS s k (blank x)).line.length ≤ 100000 := by simp [repS]; have := HLN.out; omega
        have hw3 : wid (repS s k (blank x)).line = u + k := by rw [repS_wid, HU.out, show (blank x).wd = 1 from rfl, Int.mul_one]
        have HP := Lib.hid (put_ref (blank x) wr HF.out hl3 (by rw [hw3]; omega) (by rw [hw3]; omega) (by simp [blank]))
        unfold glV blank bl1 at HP
        clear hF hXr hl3 hw3
        go_wp2_with fail
        refine HP.out.mono ?_
        rintro e w4 ⟨rfl, hf4, hk4⟩
        have hf5 : Fl false B g wide (fun c => K c ∨ c = b) (repS s (k + 1) (blank x)) w4 := by rw [← repS_put]; exact hf4
        have HF5 := Lib.hid hf5
        have HK5 := Lib.hid (HK.out.trans hk4)
        have HM4 := Lib.hid (show intAt w4 ⟨g, 2, none⟩ = u + (k + 1 : Nat) by
          obtain ⟨_, _, _, _, h5⟩ := hf5
          obtain ⟨_, _, q2, _, _⟩ := bx_cellsD h5.blk
          rw [repS_wid, HU.out, show (blank x).wd = 1 from rfl, Int.mul_one] at q2
          unfold intAt; rw [q2]; rfl)
        clear hf4 hk4 hf5
        go_wp2_with fail
        go_roundw
        case measure => have := HLT.out; have := HM.out; have := HM4.out; omega
        case rel => exact ⟨k + 1, by have := HLT.out; omega, HF5, HK5⟩
      · have HE := Lib.hid (show (q - u).toNat = k by omega)
        clear hF hXr
        go_wp2_with fail
        go_end0
        exact ⟨rfl, by rw [HT.out, HE.out]; exact HF.out.less fun c hc => .inl hc, HK4.out.trans (HK.out.mono fun c hc => .inl hc)⟩
end Go.Proofs.Ytpnlajgcfibelaa.Tb
