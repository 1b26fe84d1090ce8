/- Layer 12: the program's wait, goOn. -/
import Derived.Test.YtadecjjbpoaooaaUh
namespace Go.Proofs.Ytadecjjbpoaooaa.Tb
open Go.RowKit Go.Maps
set_option linter.unusedVariables false
set_option linter.unusedSimpArgs false
/-- A new row of one glyph. -/
theorem one_new (w : World) (x : Gl) {P : Nat → Prop} (hp : P w.heap.size) : RdG P (w.alloc (boxG x)) (.slice (some ⟨w.heap.size, 0, none⟩) 1 1) [x] := by
  refine ⟨_, 1, rfl, Nat.le_refl _, by unfold maxLen; omega, fun j hj => ?_⟩
  obtain rfl : j = 0 := by simp at hj; omega
  obtain ⟨d0, d1, d2, d3, d4⟩ := box_cells w x
  exact ⟨_, _, rfl, hp, d0, d1, d2, d3, d4⟩
section
variable {d : Bool} {B g : Nat} {wide u : Int} {K K' : Nat → Prop} {s : Fs} {vo vl vw : Value} {vs : List Value} {W W' : World}
/-- The store of a blank that waits, in a new row. -/
theorem FlAt.waits (h : FlAt d B g wide K s u vo vl vw vs W) (x : Gl) {i : Nat} (hg : ((W.alloc (boxG x)).setCell ⟨g, i, none⟩ (.slice (some ⟨W.heap.size, 0, none⟩) 1 1)).heap[g]? = some (bx d wide vo vl u (.slice (some ⟨W.heap.size, 0, none⟩) 1 1))) :
    FlAt d B g wide K ⟨s.out, s.line, [x]⟩ u vo vl (.slice (some ⟨W.heap.size, 0, none⟩) 1 1) vs ((W.alloc (boxG x)).setCell ⟨g, i, none⟩ (.slice (some ⟨W.heap.size, 0, none⟩) 1 1)) := by
  have h1 := h.below (below_box W (boxG x))
  have n := h.ng
  have hT : Told B g vo vl W.heap.size := ⟨by have := h.base; omega, by omega, fun e => by have := (own_base h.line e).2; omega, fun e => by have := (own_base h.out.row e).2; omega⟩
  refine h1.rebox (by simp [World.setCell]) hg (fun c hc => Below.heap_setCell _ _ _ _ hc) ((one_new W x hT).keep fun a ha _ => World.cell?_of_block (Below.heap_setCell _ _ _ _ ha.2.1))
/-- Nothing waits. -/
theorem FlAt.unwait (h : FlAt d B g wide K s u vo vl vw vs W) {i : Nat} (hg : (W.setCell ⟨g, i, none⟩ (.slice none 0 0)).heap[g]? = some (bx d wide vo vl u (.slice none 0 0))) :
    FlAt d B g wide K ⟨s.out, s.line, []⟩ u vo vl (.slice none 0 0) vs (W.setCell ⟨g, i, none⟩ (.slice none 0 0)) :=
  h.rebox (by simp [World.setCell]) hg (fun c hc => Below.heap_setCell _ _ _ _ hc) (RdG.nil _ 0 (by unfold maxLen; omega) _)
end
set_option maxRecDepth 100000 in
set_option maxHeartbeats 1000000 in
theorem wait_pro {B g : Nat} {wide : Int} {K : Nat → Prop} {s : Fs} (x : Gl) (w : World) (h : Fl true B g wide K s w) (hn62 : s.line.length ≤ 100000) :
    Calls Try.prog 40 #[.pointer (some ⟨g, 0, none⟩), glV x] w (FlPost true B g wide K (waitS s x) (.tuple #[]) w) := by
  have hA := below_box w (boxG x)
  obtain ⟨vo, vl, vw, vs, hF⟩ := h
  have hF1 := hF.below hA
  have hKl := fun c hc => (hF.apart c hc).1
  have HK1 := Lib.hid (Kp.of hA hKl)
  obtain ⟨pl, cl, rfl⟩ := lenL hF.line
  obtain ⟨pw, cw, rfl, _⟩ := hF.wait.form
  obtain ⟨b, hb⟩ : ∃ b, w.heap.size = b := ⟨_, rfl⟩
  have hX := heap_alloc_new w (boxG x)
  obtain ⟨W1, hW1⟩ : ∃ W1, w.alloc (boxG x) = W1 := ⟨_, rfl⟩
  rw [hW1] at hF1 HK1 hX
  rw [hb] at hX
  obtain ⟨q0, q1, q2, q3, q4⟩ := bx_cellsP hF1.blk
  unfold boxG at hX
  obtain ⟨d0, d1, d2, d3, d4⟩ : W1.cell? ⟨b, 0, none⟩ = some (.string x.t) ∧ W1.cell? ⟨b, 1, none⟩ = some (.int .i64 x.wd) ∧ W1.cell? ⟨b, 2, none⟩ = some (.int .i64 x.at_) ∧ W1.cell? ⟨b, 3, none⟩ = some (.int .i64 x.co) ∧ W1.cell? ⟨b, 4, none⟩ = some (.int .i64 x.lk) := by
    refine ⟨?_, ?_, ?_, ?_, ?_⟩ <;> rw [cell_of_row _ _ _ _ _ _ hX] <;> rfl
  have HF1 := Lib.hid hF1
  have HKL := Lib.hid (fun c (hc : K c) => (hF1.apart c hc).1)
  have HNW := Lib.hid hF1.notKg
  obtain ⟨n, hn⟩ : ∃ n, s.line.length = n := ⟨_, rfl⟩
  obtain ⟨m, hm⟩ : ∃ m, s.wait.length = m := ⟨_, rfl⟩
  rw [hn] at hn62 q2
  rw [hm] at q4
  have HBL := Lib.hid (blank_pro x W1)
  unfold boxG at hW1
  unfold glV
  by_cases h0 : s.line = []
  · have h1 : n = 0 := by rw [← hn, h0]; rfl
    subst h1
    have HU := Lib.hid (show waitS s x = s by unfold waitS; rw [if_neg (fun h => h.1 h0)])
    clear hF hn hm h0 hA hKl hX hF1 hb
    go_enter Try.func40, Try.ntmps40
    go_wp2_with fail
    go_end0
    exact ⟨rfl, by rw [HU.out]; exact ⟨_, _, _, _, HF1.out⟩, HK1.out⟩
  · have h1 : 0 < n := by rw [← hn]; exact List.length_pos_iff.2 h0
    have h2 : (0 : Int) < n := by omega
    by_cases h3 : s.wait = []
    · have h4 : m = 0 := by rw [← hm, h3]; rfl
      subst h4
      have HU := Lib.hid (show waitS s x = ⟨s.out, s.line, [blank x]⟩ by unfold waitS; rw [if_pos ⟨h0, h3⟩])
      clear hF hn hm h0 h3 hA hKl hX hF1
      go_enter Try.func40, Try.ntmps40
      go_wp2_with fail
      try simp only [hb]
      go_wp2_with fail
      unfold glV at HBL
      refine HBL.out.mono ?_
      rintro e w2 ⟨rfl, hb2⟩
      have hF2 := HF1.out.below hb2
      have HK2 := Lib.hid (HK1.out.trans (Kp.of hb2 HKL.out))
      have hB3 := below_box w2 (boxG (blank x))
      have hF3 := hF2.below hB3
      have f4 := bx_frozen hF3.blk 4
      obtain ⟨r0, r1, r2, r3, r4⟩ := bx_cellsP hF3.blk
      have hg4 : ((w2.alloc (boxG (blank x))).setCell ⟨g, 4, none⟩ (.slice (some ⟨w2.heap.size, 0, none⟩) 1 1)).heap[g]? = some (bx true wide vo _ _ (.slice (some ⟨w2.heap.size, 0, none⟩) 1 1)) := heap_setCell_same _ g 4 _ _ _ hF3.blk
      have HF4 := Lib.hid (hF2.waits (blank x) hg4)
      have HK4 := Lib.hid ((HK2.out.trans (Kp.of hB3 (fun c hc => (hF2.apart c hc).1))).set 4 HNW.out (.slice (some ⟨w2.heap.size, 0, none⟩) 1 1))
      unfold boxG at f4 r0 r1 r2 r3 r4 HF4 HK4
      clear hb2 hF2 hB3 hF3 hg4 q0 q1 q2 q3 q4
      unfold glV
      go_wp2_with fail
      go_end0
      exact ⟨rfl, by rw [HU.out]; exact ⟨_, _, _, _, HF4.out⟩, HK4.out⟩
    · have h4 : 0 < m := by rw [← hm]; exact List.length_pos_iff.2 h3
      have h5 : ((m : Int) == 0) = false := by simp; omega
      have HU := Lib.hid (show waitS s x = s by unfold waitS; rw [if_neg (fun h => h3 h.2)])
      clear hF hn hm h0 h3 hA hKl hX hF1 hb
      go_enter Try.func40, Try.ntmps40
      go_wp2_with fail
      go_end0
      exact ⟨rfl, by rw [HU.out]; exact ⟨_, _, _, _, HF1.out⟩, HK1.out⟩
def intAt (w : World) (a : Addr) : Int := match w.cell? a with | some v => intOf v | none => 0
def repS (s : Fs) (k : Nat) (x : Gl) : Fs := ⟨s.out, s.line ++ List.replicate k x, []⟩
theorem repS_wid (s : Fs) (k : Nat) (x : Gl) : wid (repS s k x).line = wid s.line + k * x.wd := by simp only [repS]; rw [wid_app, wid_rep]
theorem repS_put (s : Fs) (k : Nat) (x : Gl) : putS (repS s k x) x = repS s (k + 1) x := by simp [putS, repS, List.replicate_succ']
set_option maxRecDepth 100000 in
set_option maxHeartbeats 1000000 in
theorem goOn_pro {B g : Nat} {wide : Int} {K : Nat → Prop} {s : Fs} (x : Gl) (stop : Int) (w : World) (h : Fl true B g wide K s w) (hl : s.line.length ≤ 1000) (h0 : 0 ≤ wid s.line) (h1 : wid s.line ≤ stop) (h2 : stop ≤ 1000) :
    Calls Try.prog 41 #[.pointer (some ⟨g, 0, none⟩), glV x, .int .i64 stop] w (FlPost true B g wide K (repS s (stop - wid s.line).toNat (blank x)) (.tuple #[]) w) := by
  have hA := below_box w (boxG x)
  obtain ⟨vo, vl, vw, vs, hF⟩ := h
  have hF1 := hF.more (boxG x)
  have hKl := fun c hc => (hF.apart c hc).1
  have HK1 := Lib.hid (Kp.of hA hKl)
  obtain ⟨b, hb⟩ : ∃ b, w.heap.size = b := ⟨_, rfl⟩
  have hX := heap_alloc_new w (boxG x)
  obtain ⟨W1, hW1⟩ : ∃ W1, w.alloc (boxG x) = W1 := ⟨_, rfl⟩
  rw [hW1] at hF1 HK1 hX
  rw [hb] at hX hF1
  obtain ⟨q0, q1, q2, q3, q4⟩ := bx_cellsP hF1.blk
  have f4 := bx_frozen hF1.blk 4
  have hg4 := heap_setCell_same W1 g 4 _ _ (.slice none 0 0) hF1.blk
  have HF4 := Lib.hid (show Fl true B g wide (fun c => K c ∨ c = b) (repS s 0 (blank x)) (W1.setCell ⟨g, 4, none⟩ (.slice none 0 0)) from ⟨_, _, _, _, by
    have := hF1.unwait (i := 4) hg4
    simp only [repS, List.replicate_zero, List.append_nil]
    exact this⟩)
  have hgb : b ≠ g := by have := hF.ng.2.2; omega
  have hX4 : (W1.setCell ⟨g, 4, none⟩ (.slice none 0 0)).heap[b]? = some (boxG x) := (Below.heap_setCell _ _ _ _ hgb).trans hX
  have HK4 := Lib.hid (HK1.out.set 4 hF.notKg (.slice none 0 0))
  obtain ⟨W2, hW2⟩ : ∃ W2, W1.setCell ⟨g, 4, none⟩ (.slice none 0 0) = W2 := ⟨_, rfl⟩
  rw [hW2] at HF4 hX4 HK4
  have HX := Lib.hid hX4
  obtain ⟨u, hu⟩ : ∃ u, wid s.line = u := ⟨_, rfl⟩
  have HU := Lib.hid hu
  rw [hu] at h0 h1 ⊢
  unfold boxG at hW1
  unfold glV
  clear hA hF hF1 hKl hX hg4 hX4 hgb hu
  go_enter Try.func41, Try.ntmps41
  go_wp2_with fail
  go_loopw [9] (fun _ wr => ∃ k : Nat, u + k ≤ stop ∧ Hid (Fl true B g wide (fun c => K c ∨ c = b) (repS s k (blank x)) wr) ∧ Hid (Kp (fun c => K c ∨ c = b) W2 wr)) (fun _ wr => (stop - intAt wr ⟨g, 3, none⟩).toNat)
  case atStart => exact ⟨0, by omega, HF4, Lib.hid (Kp.refl _ _)⟩
  case round =>
    obtain ⟨k, hk, HF, HK⟩ := hrel
    have hF := HF.out
    obtain ⟨vo', vl', vw', vs', hF⟩ := hF
    obtain ⟨q0, q1, q2, q3, q4⟩ := bx_cellsP hF.blk
    rw [repS_wid, HU.out, show (blank x).wd = 1 from rfl, Int.mul_one] at q3
    have hXr := (HK.out.block b (.inr rfl)).trans HX.out
    unfold boxG at hXr
    obtain ⟨d0, d1, d2, d3, d4⟩ : wr.cell? ⟨b, 0, none⟩ = some (.string x.t) ∧ wr.cell? ⟨b, 1, none⟩ = some (.int .i64 x.wd) ∧ wr.cell? ⟨b, 2, none⟩ = some (.int .i64 x.at_) ∧ wr.cell? ⟨b, 3, none⟩ = some (.int .i64 x.co) ∧ wr.cell? ⟨b, 4, none⟩ = some (.int .i64 x.lk) := by
      refine ⟨?_, ?_, ?_, ?_, ?_⟩ <;> rw [cell_of_row _ _ _ _ _ _ hXr] <;> rfl
    have HM := Lib.hid (show intAt wr ⟨g, 3, none⟩ = u + k by unfold intAt; rw [q3]; rfl)
    by_cases hlt : u + k < stop
    · have HLT := Lib.hid hlt
      have HB := Lib.hid (blank_pro x wr)
      unfold glV at HB
      have HKL := Lib.hid (fun c (hc : K c ∨ c = b) => (hF.apart c hc).1)
      clear hF hXr
      go_wp2_with fail
      refine HB.out.mono ?_
      rintro e w3 ⟨rfl, hb3⟩
      have hl3 : (repS s k (blank x)).line.length ≤ 100000 := by simp [repS]; omega
      have hw3 : wid (repS s k (blank x)).line = u + k := by rw [repS_wid, HU.out, show (blank x).wd = 1 from rfl, Int.mul_one]
      have HP := Lib.hid (put_pro (blank x) w3 (HF.out.below hb3) hl3 (by rw [hw3]; omega) (by rw [hw3]; omega) (by simp [blank]))
      have HK3 := Lib.hid (HK.out.trans (Kp.of hb3 HKL.out))
      clear hb3 hl3 hw3 q0 q1 q2 q3 q4 d0 d1 d2 d3 d4
      go_wp2_with fail
      refine HP.out.mono ?_
      rintro e w4 ⟨rfl, hf4, hk4⟩
      rw [repS_put] at hf4
      have HF4 := Lib.hid hf4
      have HK4 := Lib.hid (HK3.out.trans hk4)
      have HM4 := Lib.hid (show intAt w4 ⟨g, 3, none⟩ = u + (k + 1 : Nat) by
        obtain ⟨_, _, _, _, h5⟩ := hf4
        obtain ⟨_, _, _, q3, _⟩ := bx_cellsP h5.blk
        rw [repS_wid, HU.out, show (blank x).wd = 1 from rfl, Int.mul_one] at q3
        unfold intAt; rw [q3]; rfl)
      clear hf4 hk4
      go_wp2_with fail
      go_roundw
      case measure => have := HLT.out; have := HM.out; have := HM4.out; omega
      case rel => exact ⟨k + 1, by have := HLT.out; omega, HF4, HK4⟩
    · have HE := Lib.hid (show (stop - u).toNat = k by omega)
      clear hF hXr
      go_wp2_with fail
      go_end0
      exact ⟨rfl, by rw [HE.out]; exact HF.out.less fun c hc => .inl hc, HK4.out.trans (HK.out.mono fun c hc => .inl hc)⟩
end Go.Proofs.Ytadecjjbpoaooaa.Tb
