/- The program's endRun, put, within of the lexer. -/
import Derived.Test.YtmceiehnfmgioaaGreatDoorLx1
import Derived.Test.YtmceiehnfmgioaaGreatDoorRound
import Derived.Deep.RegionLaw
import Derived.Deep.RegionHeld2
import Derived.Deep.AppendLies
namespace Go.Proofs.YtmceiehnfmgioaaGreatDoor
open Go.RowKit
set_option linter.unusedVariables false

theorem cells_new (w : World) (cs : Array Value) (t : TypeId) (j : Nat) (u : Value) (h : cs.toList[j]? = some u) : (w.alloc (.cells cs t)).cell? ((⟨w.heap.size, 0, none⟩ : Addr).add j) = some u := by
  have h' : cs[j]? = some u := by simpa using h
  by_cases hj : j = 0
  · subst hj; simp [Addr.add, h']
  · simp [Addr.add, hj, h']
theorem rd_string {w : World} {v : Value} {l : List UInt8} (h : Rd w v l) : (convert 74 9 v).run Tryz.prog w = .ok (.string (bs l)) w := by
  obtain ⟨pa, cap, rfl, _, _, h4⟩ := h
  by_cases hl : l = []
  · subst hl
    cases pa with
    | none =>
      show (convert 74 9 (.slice none 0 cap)).run Tryz.prog w = _
      rw [run_convert_bytes_string w _ _ _ none 0 cap Tryz.underlying74 Tryz.underlying5 Tryz.underlying9]
      simp [Conv.bytesToString]
      rfl
    | some a => exact run_convert_bytes_back w _ _ _ a cap [] Tryz.underlying74 Tryz.underlying5 Tryz.underlying9 (fun j hj => absurd hj (by simp))
  · obtain ⟨b, off, rfl, _⟩ := h4 0 (List.length_pos_iff.2 hl)
    refine run_convert_bytes_back w _ _ _ ⟨b, off, none⟩ cap l Tryz.underlying74 Tryz.underlying5 Tryz.underlying9 fun j hj => ?_
    obtain ⟨b', off', e, hc⟩ := h4 j hj
    cases e
    have e : (⟨b, off, none⟩ : Addr).add j = ⟨b, off + j, none⟩ := by unfold Addr.add; split <;> simp_all
    rw [e]; exact hc

/-- Behind an append to the tokens, and the store of the longer list. -/
theorem Lx.tok_put {w w2 : World} {B g n g' cap : Nat} {m : Mk} {vt vo vr : Value} {t : Tok} {o : Obj} (h : Lx w B g n m vt vo vr) (hg : (w.alloc o).grownBy w2 vt.ownBlock)
    (ho : w2.ownsRow B 40 5 (.slice (some ⟨g', 0, none⟩) (m.out.length + 1) cap) (m.out.length + 1) (tokRows m.out ++ tokRow t)) (hat : vt.ownBlock = some g' ∨ g' = (w.alloc o).heap.size) :
    w2.heap[g]? = some (.cells (lexCells vt vo vr n m) 90 (0, 0)) ∧ Below B w (w2.setCell ⟨g, 0, none⟩ (.slice (some ⟨g', 0, none⟩) (m.out.length + 1) cap)) ∧
      Lx (w2.setCell ⟨g, 0, none⟩ (.slice (some ⟨g', 0, none⟩) (m.out.length + 1) cap)) B g n { m with out := m.out ++ [t] } (.slice (some ⟨g', 0, none⟩) (m.out.length + 1) cap) vo vr ∧
      Kept3 g vt vo (.slice (some ⟨g', 0, none⟩) (m.out.length + 1) cap) vo w (w2.setCell ⟨g, 0, none⟩ (.slice (some ⟨g', 0, none⟩) (m.out.length + 1) cap)) ∧
      w2.ownsRow B 5 1 vr m.run.length (Lib.byteCells m.run) := by
  have ha := h.alloc o
  have hb : w2.heap[g]? = some (.cells (lexCells vt vo vr n m) 90 (0, 0)) := (hg.block g (lt_heap ha.blk) (fun e => not_row ha.blk (by decide) ha.toks e.symm)).trans ha.blk
  have hb1 := heap_setCell_same w2 g 0 _ _ (.slice (some ⟨g', 0, none⟩) (m.out.length + 1) cap) hb
  have t2 := ha.opns.kept hg ha.far'
  have t3 := ha.runs.kept hg (own_ne ha.runs ha.toks (by decide))
  have lo := ha.opns.lt
  have hf : vo.ownBlock ≠ some g' := by
    intro e
    rcases hat with h1 | h1
    · rcases h.far' with h2 | h2
      · rw [h2] at e; cases e
      · exact h2 (e.trans h1.symm)
    · have := (lo _ e).2; omega
  refine ⟨hb, ?_, h.put (m' := { m with out := m.out ++ [t] }) hb1 ?_ (own_set hb (by decide) t2) (own_set hb (by decide) t3) (.inr (fun e => hf e.symm)) (.inr (fun e => hf e)) h.gap h.opn16, ?_, t3⟩
  · exact (((Below.refl B w).alloc h.size o).grown hg ha.size (fun k hk => (ha.toks.lt k hk).1)).setCell (p := ⟨g, 0, none⟩) h.base _
  · have := own_set (u := .slice (some ⟨g', 0, none⟩) (m.out.length + 1) cap) (k := 0) hb (by decide) ho
    rw [← tokRows_snoc] at this
    simpa using this
  · intro b o' h1 h2 h3 h4 h5
    have e1 := (Below.heap_alloc w o b (lt_heap h1)).trans h1
    have e2 := (hg.block b (lt_heap e1) (fun e => h4 e.symm)).trans e1
    refine ⟨(Below.heap_setCell w2 ⟨g, 0, none⟩ _ b (fun e => h3 e.symm)).trans e2, ?_, h5⟩
    intro e
    simp [Value.ownBlock] at e
    subst e
    rcases hat with q | q
    · exact h4 q
    · have := lt_heap h1; simp at q; omega

/-- What a run that ends is read from. -/
def Core (B g n : Nat) (m : Mk) (vo vr : Value) (w : World) : Prop :=
  (∃ v0, w.heap[g]? = some (.cells (lexCells v0 vo vr n m) 90 (0, 0))) ∧ w.ownsRow B 5 1 vr m.run.length (Lib.byteCells m.run)
section
variable {w : World} {B g n : Nat} {m : Mk} {vo vr : Value}
theorem Core.alloc (h : Core B g n m vo vr w) (o : Obj) : Core B g n m vo vr (w.alloc o) := by
  obtain ⟨⟨v0, h1⟩, h2⟩ := h
  exact ⟨⟨v0, (Below.heap_alloc _ _ _ (lt_heap h1)).trans h1⟩, h2.alloc _⟩
theorem Core.drew (h : Core B g n m vo vr w) : Core B g n m vo vr w.drew := h
theorem Core.set0 (h : Core B g n m vo vr w) (u : Value) : Core B g n m vo vr (w.setCell ⟨g, 0, none⟩ u) := by
  obtain ⟨⟨v0, h1⟩, h2⟩ := h
  exact ⟨⟨u, heap_setCell_same w g 0 _ _ u h1⟩, own_set h1 (by decide) h2⟩
theorem Core.all {p : Option Addr} {L c : Nat} (h : Core B g n m vo vr w) (hv : vr = .slice p L c) (hL : m.run.length = L) :
    Core B g n m vo vr w ∧ w.cell? ⟨g, 3, none⟩ = some (.slice p L c) ∧ w.cell? ⟨g, 4, none⟩ = some (.int .i64 m.beg.1) ∧ w.cell? ⟨g, 5, none⟩ = some (.int .i64 m.beg.2) ∧ (convert 74 9 (.slice p L c)).run Tryz.prog w = .ok (.string (bs m.run)) w := by
  obtain ⟨⟨v0, h1⟩, h2⟩ := id h
  obtain ⟨d0, d1, d2, d3, d4, d5, _⟩ := lex9 h1
  rw [hv] at h2 d3
  exact ⟨h, d3, d4, d5, rd_string (Rd.own h2)⟩
end

set_option maxRecDepth 100000 in
set_option maxHeartbeats 4000000 in
theorem endRun_pro (w : World) (B g n : Nat) (m : Mk) (vt vo vr : Value) (h : Lx w B g n m vt vo vr) (hl : m.out.length ≤ 5000000) :
    Calls Tryz.prog 89 #[.pointer (some ⟨g, 0, none⟩)] w (Did B g n m.endRun vt vo w) := by
  obtain ⟨i0, hi0, hz0, hz1, hz2⟩ := info_parts infoTok
  have H0 := Lib.hid h
  obtain ⟨L, hL⟩ : ∃ L, m.run.length = L := ⟨_, rfl⟩
  have hrun := h.runs
  rw [hL] at hrun
  obtain ⟨pr, cr, hvr⟩ := lenS hrun
  have hrd := Rd.own hrun
  obtain ⟨c0, c1, c2, c3, c4, c5, c6, c7, c8⟩ := h.cells
  rw [hvr] at c3 hrd
  by_cases h0 : L = 0
  · have t0 : ((L : Int) == 0) = true := by rw [h0]; rfl
    have HE := Lib.hid (show m.endRun = m by unfold Mk.endRun; rw [if_pos (List.eq_nil_of_length_eq_zero (by rw [hL, h0]))])
    clear c0 c1 c2 c4 c5 c6 c7 c8 h hl hrun hrd hvr hL h0
    go_enter Tryz.func89, Tryz.ntmps89
    go_wp2_with fail
    go_end0
    refine ⟨rfl, ?_⟩
    rw [HE.out]; exact Moved.refl H0.out
  · have t0 : ((L : Int) == 0) = false := by simp; exact h0
    have hne : m.run ≠ [] := fun e => h0 (by rw [← hL, e]; rfl)
    have HE := Lib.hid (show m.endRun = { m with out := m.out ++ [⟨6, [], m.run, m.beg.1, m.beg.2⟩], run := [] } by unfold Mk.endRun; rw [if_neg hne])
    have q1 := rd_string hrd
    have q2 := rd_string (w := w.drew) hrd
    have L1 := Lib.hid (show m.out.length + 1 ≤ maxLen by unfold maxLen; omega)
    have L2 := Lib.hid (show (m.out.length + 1) * 56 ≤ 140737488355328 by omega)
    have f0 := h.frozen 0
    have f3 := h.frozen 3
    have HV := Lib.hid hvr
    have HL := Lib.hid hL
    obtain ⟨gr, cr', hform, _⟩ := hrun.form (by omega)
    have hpr : pr = some ⟨gr, 0, none⟩ := by rw [hvr] at hform; cases hform; rfl
    subst hpr
    clear c1 c2 c6 c7 c8 h hl hrun hrd hvr hL h0 hne hform
    go_enter Tryz.func89, Tryz.ntmps89
    go_wp2_with fail
    have H0' := Lib.hid H0.out.drew
    have SB := Lib.hid H0.out.size
    have C0 := Lib.hid (show Core B g n m vo vr w.drew from ⟨⟨vt, H0.out.blk⟩, H0.out.runs⟩)
    have cA := (H0.out.alloc (.cells #[.int .i64 6, .string ⟨#[]⟩, .string (bs m.run), .int .i64 m.beg.1, .int .i64 m.beg.2] 40)).cells.1
    clear c3 c4 c5
    clear q1 q2
    refine wp_region_held_drew (S := (fun w' => Core B g n m vo vr w' ∧ w'.cell? ⟨g, 3, none⟩ = some (.slice (some ⟨gr, 0, none⟩) L cr) ∧ w'.cell? ⟨g, 4, none⟩ = some (.int .i64 m.beg.1) ∧ w'.cell? ⟨g, 5, none⟩ = some (.int .i64 m.beg.2) ∧ (convert 74 9 (.slice (some ⟨gr, 0, none⟩) L cr)).run Tryz.prog w' = .ok (.string (bs m.run)) w')) (by kernel_rfl) ?_ (fun hHeld => ?_)
    · exact Core.all C0.out HV.out HL.out
    refine wpAnyH_take (i := 0) (v := .pointer (some ⟨g, 0, none⟩)) rfl (by kernel_rfl) (by kernel_rfl) (by kernel_rfl) (fun _ _ _ h => h) (.inl ⟨by rfl, fun w' hS => by obtain ⟨_, h3, h4, h5, hc⟩ := hS; go_simp⟩) hHeld ?_
    refine wpAnyH_take (i := 1) (v := .pointer (some ⟨g, 0, none⟩)) rfl (by kernel_rfl) (by kernel_rfl) (by kernel_rfl) (fun _ _ _ h => h) (.inl ⟨by rfl, fun w' hS => by obtain ⟨_, h3, h4, h5, hc⟩ := hS; go_simp⟩) hHeld ?_
    refine wpAnyH_take (i := 2) (v := .pointer (some ⟨g, 0, none⟩)) rfl (by kernel_rfl) (by kernel_rfl) (by kernel_rfl) (fun _ _ _ h => h) (.inl ⟨by rfl, fun w' hS => by obtain ⟨_, h3, h4, h5, hc⟩ := hS; go_simp⟩) hHeld ?_
    refine wpAnyH_take (i := 3) (v := .pointer (some ⟨g, 0, none⟩)) rfl (by kernel_rfl) (by kernel_rfl) (by kernel_rfl) (fun _ _ _ h => h) (.inl ⟨by rfl, fun w' hS => by obtain ⟨_, h3, h4, h5, hc⟩ := hS; go_simp⟩) hHeld ?_
    refine wpAnyH_take (i := 5) (v := .pointer (some ⟨g, 0, none⟩)) rfl (by kernel_rfl) (by kernel_rfl) (by kernel_rfl) (fun _ _ _ h => h) (.inl ⟨by rfl, fun w' hS => by obtain ⟨_, h3, h4, h5, hc⟩ := hS; go_simp⟩) hHeld ?_
    refine wpAnyH_take (i := 6) (v := .pointer (some ⟨g, 0, none⟩)) rfl (by kernel_rfl) (by kernel_rfl) (by kernel_rfl) (fun _ _ _ h => h) (.inl ⟨by rfl, fun w' hS => by obtain ⟨_, h3, h4, h5, hc⟩ := hS; go_simp⟩) hHeld ?_
    refine wpAnyH_take (i := 7) (v := .pointer (some ⟨g, 3, none⟩)) rfl (by kernel_rfl) (by kernel_rfl) (by kernel_rfl) (fun _ _ _ h => h) (.inl ⟨by rfl, fun w' hS => by obtain ⟨_, h3, h4, h5, hc⟩ := hS; go_simp⟩) hHeld ?_
    refine wpAnyH_take (i := 8) (v := .slice (some ⟨gr, 0, none⟩) L cr) rfl (by kernel_rfl) (by kernel_rfl) (by kernel_rfl) (fun _ _ _ h => h) (.inl ⟨by rfl, fun w' hS => by obtain ⟨_, h3, h4, h5, hc⟩ := hS; go_simp⟩) hHeld ?_
    refine wpAnyH_take (i := 9) (v := .string (bs m.run)) rfl (by kernel_rfl) (by kernel_rfl) (by kernel_rfl) (fun _ _ _ h => h) (.inl ⟨by rfl, fun w' hS => by obtain ⟨_, h3, h4, h5, hc⟩ := hS; go_simp⟩) hHeld ?_
    refine wpAnyH_take (i := 10) (v := .pointer (some ⟨g, 0, none⟩)) rfl (by kernel_rfl) (by kernel_rfl) (by kernel_rfl) (fun _ _ _ h => h) (.inl ⟨by rfl, fun w' hS => by obtain ⟨_, h3, h4, h5, hc⟩ := hS; go_simp⟩) hHeld ?_
    refine wpAnyH_take (i := 11) (v := .pointer (some ⟨g, 0, none⟩)) rfl (by kernel_rfl) (by kernel_rfl) (by kernel_rfl) (fun _ _ _ h => h) (.inl ⟨by rfl, fun w' hS => by obtain ⟨_, h3, h4, h5, hc⟩ := hS; go_simp⟩) hHeld ?_
    refine wpAnyH_take (i := 12) (v := .pointer (some ⟨g, 4, none⟩)) rfl (by kernel_rfl) (by kernel_rfl) (by kernel_rfl) (fun _ _ _ h => h) (.inl ⟨by rfl, fun w' hS => by obtain ⟨_, h3, h4, h5, hc⟩ := hS; go_simp⟩) hHeld ?_
    refine wpAnyH_take (i := 13) (v := .pointer (some ⟨g, 4, none⟩)) rfl (by kernel_rfl) (by kernel_rfl) (by kernel_rfl) (fun _ _ _ h => h) (.inl ⟨by rfl, fun w' hS => by obtain ⟨_, h3, h4, h5, hc⟩ := hS; go_simp⟩) hHeld ?_
    refine wpAnyH_take (i := 14) (v := .int .i64 m.beg.1) rfl (by kernel_rfl) (by kernel_rfl) (by kernel_rfl) (fun _ _ _ h => h) (.inl ⟨by rfl, fun w' hS => by obtain ⟨_, h3, h4, h5, hc⟩ := hS; go_simp⟩) hHeld ?_
    refine wpAnyH_take (i := 15) (v := .pointer (some ⟨g, 0, none⟩)) rfl (by kernel_rfl) (by kernel_rfl) (by kernel_rfl) (fun _ _ _ h => h) (.inl ⟨by rfl, fun w' hS => by obtain ⟨_, h3, h4, h5, hc⟩ := hS; go_simp⟩) hHeld ?_
    refine wpAnyH_take (i := 16) (v := .pointer (some ⟨g, 0, none⟩)) rfl (by kernel_rfl) (by kernel_rfl) (by kernel_rfl) (fun _ _ _ h => h) (.inl ⟨by rfl, fun w' hS => by obtain ⟨_, h3, h4, h5, hc⟩ := hS; go_simp⟩) hHeld ?_
    refine wpAnyH_take (i := 17) (v := .pointer (some ⟨g, 4, none⟩)) rfl (by kernel_rfl) (by kernel_rfl) (by kernel_rfl) (fun _ _ _ h => h) (.inl ⟨by rfl, fun w' hS => by obtain ⟨_, h3, h4, h5, hc⟩ := hS; go_simp⟩) hHeld ?_
    refine wpAnyH_take (i := 18) (v := .pointer (some ⟨g, 5, none⟩)) rfl (by kernel_rfl) (by kernel_rfl) (by kernel_rfl) (fun _ _ _ h => h) (.inl ⟨by rfl, fun w' hS => by obtain ⟨_, h3, h4, h5, hc⟩ := hS; go_simp⟩) hHeld ?_
    refine wpAnyH_take (i := 19) (v := .int .i64 m.beg.2) rfl (by kernel_rfl) (by kernel_rfl) (by kernel_rfl) (fun _ _ _ h => h) (.inl ⟨by rfl, fun w' hS => by obtain ⟨_, h3, h4, h5, hc⟩ := hS; go_simp⟩) hHeld ?_
    refine wpAnyH_take (i := 20) (v := .agg #[.int .i64 6, .string ⟨#[]⟩, .string (bs m.run), .int .i64 m.beg.1, .int .i64 m.beg.2]) rfl (by kernel_rfl) (by kernel_rfl) (by kernel_rfl) (fun _ _ _ h => h) (.inl ⟨by rfl, fun w' hS => by obtain ⟨_, h3, h4, h5, hc⟩ := hS; go_simp⟩) hHeld ?_
    refine wpAnyH_all (rs := [4, 21]) (by kernel_rfl) (by simp) ?_
    intro i hi
    rcases (by simpa using hi : i = 4 ∨ i = 21) with rfl | rfl
    · clear hi
      refine op_via rfl (by rfl) (fun K hK => ?_)
      go_simp
      refine hK _ _ ⟨Core.all C0.out HV.out HL.out, ?_⟩
      clear hK K
      refine wpAnyH_all (rs := [21]) (by kernel_rfl) (by simp) ?_
      intro i hi
      obtain rfl : i = 21 := by simpa using hi
      refine op_via rfl (by rfl) (fun K hK => ?_)
      go_simp
      refine hK _ _ ⟨Core.all (C0.out.alloc _) HV.out HL.out, ?_⟩
      clear hK K
      refine wpAnyH_all (rs := [22]) (by kernel_rfl) (by simp) ?_
      intro i hi
      obtain rfl : i = 22 := by simpa using hi
      refine op_via rfl (by rfl) (fun K hK => ?_)
      refine wp_append_lies _ (.tmp 12) (.tmp 29) 22 rfl B 40 i0 _ 5 56 Tryz.underlying22 hi0 hz0 hz1 hz2 rfl (by decide) vt m.out.length (tokRows m.out) (by simp [Act.eval]) (H0'.out.toks.alloc _) ⟨w.heap.size, 0, none⟩ 1 1 (tokRow ⟨6, [], m.run, m.beg.1, m.beg.2⟩) (by simp [Act.eval]) rfl (cells_new _ _ _) (tokRow_one _) (by decide) L1.out L2.out (by simp; have := SB.out; omega) _ rfl ?_
      intro g' cap w3 hown' hgrow hat _
      obtain ⟨hb2, hbl, hlx, hk3, hr3⟩ := H0'.out.tok_put hgrow hown' hat
      obtain ⟨d0, _, _, _, _, _, _, _, _, eF⟩ := lex9 hb2
      have e0 := eF 0
      have BL := Lib.hid hbl
      have LX := Lib.hid hlx
      have K3 := Lib.hid hk3
      have C3 := Lib.hid (show Core B g n m vo vr w3 from ⟨⟨vt, hb2⟩, hr3⟩)
      clear hown' hgrow hat hb2 hbl hlx hk3 hr3 eF
      refine hK _ _ ⟨Core.all C3.out HV.out HL.out, ?_⟩
      clear hK K
      refine wpAnyH_all (rs := [23]) (by kernel_rfl) (by simp) ?_
      intro i hi
      obtain rfl : i = 23 := by simpa using hi
      refine op_via rfl (by rfl) (fun K hK => ?_)
      go_simp
      refine hK _ _ ⟨Core.all C3.out HV.out HL.out, ?_⟩
      clear hK K
      refine wpAnyH_all (rs := [24]) (by kernel_rfl) (by simp) ?_
      intro i hi
      obtain rfl : i = 24 := by simpa using hi
      refine op_via rfl (by rfl) (fun K hK => ?_)
      go_simp
      refine hK _ _ ⟨Core.all C3.out HV.out HL.out, ?_⟩
      clear hK K
      refine wpAnyH_all (rs := [25]) (by kernel_rfl) (by simp) ?_
      intro i hi
      obtain rfl : i = 25 := by simpa using hi
      refine op_via rfl (by rfl) (fun K hK => ?_)
      go_simp
      refine hK _ _ ⟨Core.all (C3.out.set0 _) HV.out HL.out, ?_⟩
      clear hK K
      refine wpAnyH_done (by kernel_rfl) ?_ _
      have y3 := LX.out.cells.2.2.2.1
      rw [HV.out] at y3
      have z3 := LX.out.frozen 3
      go_wp2_with fail
      go_end0
      refine ⟨rfl, ?_⟩
      rw [HE.out]
      refine Moved.drew (Moved.then BL.out K3.out (Moved.of (vr' := .slice (some ⟨gr, 0, none⟩) 0 cr) (LX.out.put (m' := { m with out := m.out ++ [⟨6, [], m.run, m.beg.1, m.beg.2⟩], run := [] }) (n' := n) (heap_setCell_same _ g 3 _ _ _ LX.out.blk) (own_set LX.out.blk (by decide) LX.out.toks) (own_set LX.out.blk (by decide) LX.out.opns) (own_set LX.out.blk (by decide) ?_) LX.out.far LX.out.far' LX.out.gap LX.out.opn16) ((Below.refl _ _).setCell (p := ⟨g, 3, none⟩) LX.out.base _) ((Kp.refl _ _).set 3 _)))
      have hr := LX.out.runs
      rw [HV.out, HL.out] at hr
      exact own_take hr (Nat.zero_le _) (by simp)
    · clear hi
      refine op_via rfl (by rfl) (fun K hK => ?_)
      go_simp
      refine hK _ _ ⟨Core.all (C0.out.alloc _) HV.out HL.out, ?_⟩
      clear hK K
      refine wpAnyH_all (rs := [4]) (by kernel_rfl) (by simp) ?_
      intro i hi
      obtain rfl : i = 4 := by simpa using hi
      refine op_via rfl (by rfl) (fun K hK => ?_)
      go_simp
      refine hK _ _ ⟨Core.all (C0.out.alloc _) HV.out HL.out, ?_⟩
      clear hK K
      refine wpAnyH_all (rs := [22]) (by kernel_rfl) (by simp) ?_
      intro i hi
      obtain rfl : i = 22 := by simpa using hi
      refine op_via rfl (by rfl) (fun K hK => ?_)
      refine wp_append_lies _ (.tmp 12) (.tmp 29) 22 rfl B 40 i0 _ 5 56 Tryz.underlying22 hi0 hz0 hz1 hz2 rfl (by decide) vt m.out.length (tokRows m.out) (by simp [Act.eval]) (H0'.out.toks.alloc _) ⟨w.heap.size, 0, none⟩ 1 1 (tokRow ⟨6, [], m.run, m.beg.1, m.beg.2⟩) (by simp [Act.eval]) rfl (cells_new _ _ _) (tokRow_one _) (by decide) L1.out L2.out (by simp; have := SB.out; omega) _ rfl ?_
      intro g' cap w3 hown' hgrow hat _
      obtain ⟨hb2, hbl, hlx, hk3, hr3⟩ := H0'.out.tok_put hgrow hown' hat
      obtain ⟨d0, _, _, _, _, _, _, _, _, eF⟩ := lex9 hb2
      have e0 := eF 0
      have BL := Lib.hid hbl
      have LX := Lib.hid hlx
      have K3 := Lib.hid hk3
      have C3 := Lib.hid (show Core B g n m vo vr w3 from ⟨⟨vt, hb2⟩, hr3⟩)
      clear hown' hgrow hat hb2 hbl hlx hk3 hr3 eF
      refine hK _ _ ⟨Core.all C3.out HV.out HL.out, ?_⟩
      clear hK K
      refine wpAnyH_all (rs := [23]) (by kernel_rfl) (by simp) ?_
      intro i hi
      obtain rfl : i = 23 := by simpa using hi
      refine op_via rfl (by rfl) (fun K hK => ?_)
      go_simp
      refine hK _ _ ⟨Core.all C3.out HV.out HL.out, ?_⟩
      clear hK K
      refine wpAnyH_all (rs := [24]) (by kernel_rfl) (by simp) ?_
      intro i hi
      obtain rfl : i = 24 := by simpa using hi
      refine op_via rfl (by rfl) (fun K hK => ?_)
      go_simp
      refine hK _ _ ⟨Core.all C3.out HV.out HL.out, ?_⟩
      clear hK K
      refine wpAnyH_all (rs := [25]) (by kernel_rfl) (by simp) ?_
      intro i hi
      obtain rfl : i = 25 := by simpa using hi
      refine op_via rfl (by rfl) (fun K hK => ?_)
      go_simp
      refine hK _ _ ⟨Core.all (C3.out.set0 _) HV.out HL.out, ?_⟩
      clear hK K
      refine wpAnyH_done (by kernel_rfl) ?_ _
      have y3 := LX.out.cells.2.2.2.1
      rw [HV.out] at y3
      have z3 := LX.out.frozen 3
      go_wp2_with fail
      go_end0
      refine ⟨rfl, ?_⟩
      rw [HE.out]
      refine Moved.drew (Moved.then BL.out K3.out (Moved.of (vr' := .slice (some ⟨gr, 0, none⟩) 0 cr) (LX.out.put (m' := { m with out := m.out ++ [⟨6, [], m.run, m.beg.1, m.beg.2⟩], run := [] }) (n' := n) (heap_setCell_same _ g 3 _ _ _ LX.out.blk) (own_set LX.out.blk (by decide) LX.out.toks) (own_set LX.out.blk (by decide) LX.out.opns) (own_set LX.out.blk (by decide) ?_) LX.out.far LX.out.far' LX.out.gap LX.out.opn16) ((Below.refl _ _).setCell (p := ⟨g, 3, none⟩) LX.out.base _) ((Kp.refl _ _).set 3 _)))
      have hr := LX.out.runs
      rw [HV.out, HL.out] at hr
      exact own_take hr (Nat.zero_le _) (by simp)
end Go.Proofs.YtmceiehnfmgioaaGreatDoor
