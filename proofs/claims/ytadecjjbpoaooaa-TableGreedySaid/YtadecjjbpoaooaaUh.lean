/- Layer 12: the program's fitting, wideOf, endUsed, wait, goOn. -/
import Derived.Test.YtadecjjbpoaooaaUf
namespace Go.Proofs.Ytadecjjbpoaooaa.Tb
open Go.RowKit Go.Maps
set_option linter.unusedVariables false
set_option linter.unusedSimpArgs false
theorem dn_below {B : Nat} {a w : World} (h : Below B a w) (n : Nat) : Below B a (w.drewN n) := ⟨h.os, h.tape, h.output, h.size, h.block⟩
set_option maxRecDepth 100000 in
set_option maxHeartbeats 1000000 in
theorem fitting_pro (wide : Int) (gb : Nat) (x : Gl) (w : World) (hw : w.cell? ⟨gb, 0, none⟩ = some (.int .i64 wide)) : Calls Try.prog 50 #[.pointer (some ⟨gb, 0, none⟩), glV x] w (MakesG (fitG wide x) w) := by
  have hgb := cellInL hw
  unfold glV
  by_cases hlt : wide < x.wd
  · have HF := Lib.hid (show fitG wide x = ⟨bl1 63, 1, x.at_, x.co, x.lk⟩ by unfold fitG; rw [if_pos hlt])
    go_enter Try.func50, Try.ntmps50
    go_wp2_with fail
    go_quiet (fail)
    go_wp2_with fail
    refine bodyPost_ret (v := glV ⟨bl1 63, 1, x.at_, x.co, x.lk⟩) ?_ rfl ⟨by rw [HF.out], ?_⟩
    · simp [results, Try.results50, go_sem, glV, bl1]
    · exact (((((((dn_below ((below_box w _).alloc (by simp) _) _).setCell (Nat.le_refl _) _).setCell (Nat.le_refl _) _).setCell (by simp) _).setCell (by simp) _).setCell (by simp) _).setCell (by simp) _).setCell (by simp) _
  · have HF := Lib.hid (show fitG wide x = x by unfold fitG; rw [if_neg hlt])
    go_enter Try.func50, Try.ntmps50
    go_wp2_with fail
    go_quiet (fail)
    go_wp2_with fail
    refine bodyPost_ret (v := glV x) ?_ rfl ⟨by rw [HF.out], ?_⟩
    · simp [results, Try.results50, go_sem, glV, bl1]
    · exact (((((dn_below ((below_box w _).alloc (by simp) _) _).setCell (by simp) _).setCell (by simp) _).setCell (by simp) _).setCell (by simp) _).setCell (by simp) _
def fitL (wide : Int) (l : List Gl) : List Gl := l.map (fitG wide)
theorem fitL_take (wide : Int) (l : List Gl) (k : Nat) (h : k < l.length) : wid (fitL wide (l.take (k + 1))) = wid (fitL wide (l.take k)) + (fitG wide l[k]).wd := by
  unfold fitL
  rw [List.take_succ_eq_append_getElem h, List.map_append, wid_app]
  simp [wid]
set_option maxRecDepth 100000 in
set_option maxHeartbeats 1000000 in
theorem wideOf_pro {P : Nat → Prop} (wide : Int) (gb : Nat) (l : List Gl) (v : Value) (w : World) (h : RdG P w v l) (hl : l.length ≤ 140737488355328) (hs : SmallW (fitL wide l)) (hw : w.cell? ⟨gb, 0, none⟩ = some (.int .i64 wide)) : Calls Try.prog 49 #[.pointer (some ⟨gb, 0, none⟩), v] w (SaysL (.int .i64 (wid (fitL wide l))) w) := by
  obtain ⟨pa, cap, rfl, h1, h2⟩ := sliceG h
  have HH := Lib.hid h
  have HCW := Lib.hid hw
  have HS := Lib.hid hs
  obtain ⟨n, hn⟩ : ∃ n, l.length = n := ⟨_, rfl⟩
  have HN := Lib.hid hn
  rw [hn] at HH h1 ⊢
  have hn62 : n ≤ 140737488355328 := by omega
  clear h hn h1 hl hs hw
  go_enter Try.func49, Try.ntmps49
  go_wp2_with fail
  go_loopw [5, 10] (fun s i wr => ∃ k : Nat, i = .int .i64 k ∧ k ≤ n ∧ s = .int .i64 (wid (fitL wide (l.take k))) ∧ Hid (Below w.heap.size w wr)) (fun _ i _ => n - (intOf i).toNat)
  case atStart => exact ⟨0, rfl, Nat.zero_le _, rfl, Lib.hid (Below.refl _ _)⟩
  case round =>
    obtain ⟨k, rfl, hk, rfl, HB⟩ := hrel
    by_cases hlt : k < n
    · have hkl : k < l.length := by rw [HN.out]; exact hlt
      obtain ⟨b, off, rfl, _, hc⟩ := (HH.out.below HB.out).at_ hkl
      have hT := Lib.hid (fitL_take wide l k hkl)
      have hsm := wid_small (l := fitL wide (l.take k)) fun g hg => HS.out g (by
        obtain ⟨y, hy, rfl⟩ := List.mem_map.1 hg
        exact List.mem_map.2 ⟨y, List.mem_of_mem_take hy, rfl⟩)
      have hkk : (fitL wide (l.take k)).length ≤ k := by unfold fitL; rw [List.length_map]; exact List.length_take_le _ _
      have hx1 := HS.out (fitG wide l[k]) (List.mem_map.2 ⟨_, List.getElem_mem hkl, rfl⟩)
      obtain ⟨x, hx⟩ : ∃ x, l[k] = x := ⟨_, rfl⟩
      rw [hx] at hc hT hx1
      obtain ⟨c0, c1, c2, c3, c4⟩ := hc
      obtain ⟨s, hs⟩ : ∃ s, wid (fitL wide (l.take k)) = s := ⟨_, rfl⟩
      rw [hs] at hT hsm ⊢
      have s1 : 0 ≤ s := hsm.1
      have s2 : s ≤ 200 * 140737488355328 := by omega
      obtain ⟨y, hy⟩ : ∃ y, fitG wide x = y := ⟨_, rfl⟩
      have hw1 := below_box wr (boxG x)
      have HFT := Lib.hid (fitting_pro wide gb x (wr.alloc (boxG x)) ((hw1.cell (p := ⟨gb, 0, none⟩) (Nat.lt_of_lt_of_le (cellInL HCW.out) HB.out.size)).trans ((HB.out.cell (p := ⟨gb, 0, none⟩) (cellInL HCW.out)).trans HCW.out)))
      rw [hy] at hT hx1 HFT
      have x1 := hx1.1
      have x2 := hx1.2
      have k1 : (k : Int) < n := by omega
      have HLT := Lib.hid hlt
      have HB1 := Lib.hid (HB.out.trans (hw1.mono HB.out.size))
      unfold boxG glV at HFT
      unfold boxG at HB1
      clear hx hs hlt hsm hx1 hkk hy hw1
      go_wp2_with fail
      refine HFT.out.mono ?_
      rintro e w2 ⟨rfl, hb⟩
      have HB2 := Lib.hid (HB1.out.trans (hb.mono HB1.out.size))
      unfold glV
      clear hb
      go_wp2_with fail
      rename_i K hK
      refine hK _ _ ?_
      clear hK K
      go_wp2_with fail
      go_roundw
      case measure => have := HLT.out; simp [intOf]; omega
      case rel => exact ⟨k + 1, by go_num, HLT.out, by rw [hT.out], HB2⟩
    · obtain rfl : k = n := by omega
      have hz1 : ¬ (k : Int) < k := by omega
      clear hlt
      go_wp2_with fail
      go_ret
      exact ⟨by rw [show l.take k = l by rw [← HN.out, List.take_length]]; rfl, HB.out⟩
set_option maxRecDepth 100000 in
theorem endUsed_pro {B g : Nat} {wide : Int} {K : Nat → Prop} {s : Fs} (w : World) (h : Fl true B g wide K s w) (hl : (s.out.length + 1) * 24 ≤ 140737488355328) (hn62 : s.line.length ≤ 100000) :
    Calls Try.prog 32 #[.pointer (some ⟨g, 0, none⟩)] w (FlPost true B g wide K (endU s) (.tuple #[]) w) := by
  have HE := Lib.hid (end_pro w h hl)
  have HF := Lib.hid h
  obtain ⟨vo, vl, vw, vs, hF⟩ := h
  obtain ⟨pl, cl, rfl⟩ := lenL hF.line
  obtain ⟨q0, q1, q2, q3, q4⟩ := bx_cellsP hF.blk
  obtain ⟨n, hn⟩ : ∃ n, s.line.length = n := ⟨_, rfl⟩
  rw [hn] at hn62 q2
  by_cases h0 : s.line = []
  · have h1 : n = 0 := by rw [← hn, h0]; rfl
    subst h1
    have HU := Lib.hid (show endU s = s by unfold endU; rw [if_pos h0])
    clear hF hn hl h0
    go_enter Try.func32, Try.ntmps32
    go_wp2_with fail
    go_end0
    exact ⟨rfl, by rw [HU.out]; exact HF.out, Kp.refl _ _⟩
  · have h1 : 0 < n := by rw [← hn]; exact List.length_pos_iff.2 h0
    have h2 : (0 : Int) < n := by omega
    have HU := Lib.hid (show endU s = endS s by unfold endU; rw [if_neg h0])
    clear hF hn hl h0
    go_enter Try.func32, Try.ntmps32
    go_wp2_with fail
    refine HE.out.mono ?_
    rintro e w1 ⟨rfl, hf, hk⟩
    have HF1 := Lib.hid hf
    have HK1 := Lib.hid hk
    clear hf hk
    go_wp2_with fail
    go_end0
    exact ⟨rfl, by rw [HU.out]; exact HF1.out, HK1.out⟩
end Go.Proofs.Ytadecjjbpoaooaa.Tb
