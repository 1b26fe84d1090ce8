/- The program's gather, fillGap, character, blank of the lexer. -/
import Derived.Test.YtmceiehnfmgioaaGreatDoorLxr
namespace Go.Proofs.YtmceiehnfmgioaaGreatDoor
open Go.RowKit
set_option linter.unusedVariables false

def plc (p : Nat × Nat) : Value := .agg #[.int .i64 p.1, .int .i64 p.2]
theorem eq_place (a b c d : Int) (w : World) : (Op.equalIn 10000 88 (.agg #[.int .i64 a, .int .i64 b]) (.agg #[.int .i64 c, .int .i64 d])).run Tryz.prog w = .ok (a == c && b == d) w := by
  have u3 := Tryz.underlying3
  have u5 := Tryz.underlying88
  rw [show (10000 : Nat) = 9999 + 1 from rfl]
  go_simp
  by_cases h1 : a = c <;> by_cases h2 : b = d <;> simp [h1, h2]

theorem lenS {w : World} {base : Nat} {e : TypeId} {size : Nat} {v : Value} {n : Nat} {xs : List Value} (h : w.ownsRow base e size v n xs) : ∃ (p : Option Addr) (c : Nat), v = .slice p n c := by
  rcases h.2 with ⟨rfl, h0⟩ | ⟨g, cap, cur, rfl, _⟩
  · exact ⟨none, 0, by rw [h0]⟩
  · exact ⟨_, _, rfl⟩
theorem gather_end {w w2 : World} {B g n : Nat} {m : Mk} {vt vo vr v' : Value} {s : List UInt8} (h : Lx w B g n m vt vo vr) (hg : w.grownBy w2 vr.ownBlock)
    (ho : w2.ownsRow B 5 1 v' (m.run.length + (bs s).size) (Lib.byteCells m.run ++ Lib.strCells (bs s))) :
    w2.heap[g]? = some (.cells (lexCells vt vo vr n m) 90 (0, 0)) ∧ Lx ((w2.setCell ⟨g, 3, none⟩ v').setCell ⟨g, 8, none⟩ (.bool true)) B g n { m with run := m.run ++ s, parts := true } vt vo v' :=
  h.run_put (m' := { m with run := m.run ++ s, parts := true }) hg ho (by simp [bs_size]) (by rw [strCells_bs]; exact byteCells_app _ _) rfl rfl rfl rfl
set_option maxRecDepth 100000 in
set_option maxHeartbeats 2000000 in
theorem gather_pro (w : World) (B g n : Nat) (m : Mk) (s : List UInt8) (p : Nat × Nat) (vt vo vr : Value) (h : Lx w B g n m vt vo vr) (hl : m.run.length + s.length ≤ 10000000) :
    Calls Tryz.prog 221 #[.pointer (some ⟨g, 0, none⟩), .string (bs s), plc p] w (Did B g n (m.gather s p) vt vo w) := by
  obtain ⟨i0, hi, hz0, hz1, hz2⟩ := info_parts infoU8
  have BZ := Lib.hid h.size
  have B1 := Lib.hid ((Below.refl B w).alloc BZ.out (.cells #[.int .i64 p.1, .int .i64 p.2] 88))
  have h1 := h.alloc (.cells #[.int .i64 p.1, .int .i64 p.2] 88)
  have SZ := Lib.hid h1.size
  have SW := Lib.hid (show B ≤ ((w.alloc (.cells #[.int .i64 p.1, .int .i64 p.2] 88))).heap.size from SZ.out)
  have pc : (w.alloc (.cells #[.int .i64 p.1, .int .i64 p.2] 88)).cell? ⟨w.heap.size, 0, none⟩ = some (.int .i64 p.1) ∧ (w.alloc (.cells #[.int .i64 p.1, .int .i64 p.2] 88)).cell? ⟨w.heap.size, 1, none⟩ = some (.int .i64 p.2) := by
    have hb := heap_alloc_new w (.cells #[.int .i64 p.1, .int .i64 p.2] 88)
    constructor <;> (rw [cell_of_row _ _ _ _ _ _ hb]; rfl)
  obtain ⟨pc0, pc1⟩ := pc
  clear h
  obtain ⟨W, hW⟩ : ∃ W, w.alloc (.cells #[.int .i64 p.1, .int .i64 p.2] 88) = W := ⟨_, rfl⟩
  obtain ⟨G, hG⟩ : ∃ G, w.heap.size = G := ⟨_, rfl⟩
  rw [hW] at B1 h1 SZ pc0 pc1
  rw [hG] at pc0 pc1
  obtain ⟨L, hL⟩ : ∃ L, m.run.length = L := ⟨_, rfl⟩
  rw [hL] at hl
  have hrun := h1.runs
  rw [hL] at hrun
  obtain ⟨pr, cr, hvr⟩ := lenS hrun
  have HL := Lib.hid hL
  have HV := Lib.hid hvr
  obtain ⟨c0, c1, c2, c3, c4, c5, c6, c7, c8⟩ := h1.cells
  rw [hvr] at c3
  have f3 := h1.frozen 3
  have f4 := h1.frozen 4
  have f5 := h1.frozen 5
  have f8 := h1.frozen 8
  have D1 := Lib.hid (show L + (bs s).size ≤ maxLen by rw [bs_size]; unfold maxLen; omega)
  have D2 := Lib.hid (show L + (bs s).size ≤ 140737488355328 by rw [bs_size]; omega)
  have HR := Lib.hid hrun
  have H1 := Lib.hid h1
  have HX := Lib.hid (show Lx ((W.setCell ⟨g, 4, none⟩ (.int .i64 p.1)).setCell ⟨g, 5, none⟩ (.int .i64 p.2)) B g n { m with beg := p } vt vo vr from
    (H1.out.set1 (m' := { m with beg := (p.1, m.beg.2) }) (n' := n) rfl rfl rfl rfl H1.out.gap).set1 (m' := { m with beg := p }) (n' := n) rfl rfl rfl rfl H1.out.gap)
  have B2 := Lib.hid ((B1.out.setCell (p := ⟨g, 4, none⟩) H1.out.base (.int .i64 p.1)).setCell (p := ⟨g, 5, none⟩) H1.out.base (.int .i64 p.2))
  subst hW
  subst hG
  clear h1 hrun hl hL c0 c1 c2 c6 c7
  unfold plc
  by_cases h0 : L = 0
  · have t0 : ((L : Int) == 0) = true := by rw [h0]; rfl
    have hE : m.run = [] := List.eq_nil_of_length_eq_zero (by rw [HL.out, h0])
    have HO := Lib.hid (show (((w.alloc (.cells #[.int .i64 p.1, .int .i64 p.2] 88)).setCell ⟨g, 4, none⟩ (.int .i64 p.1)).setCell ⟨g, 5, none⟩ (.int .i64 p.2)).ownsRow B 5 1 (.slice pr L cr) L (Lib.byteCells m.run) from by
      have h := HX.out.runs
      rw [HV.out, HL.out] at h
      exact h)
    have KQ := (((Kp.refl g w).alloc (.cells #[.int .i64 p.1, .int .i64 p.2] 88)).set 4 (.int .i64 p.1)).set 5 (.int .i64 p.2)
    have HE := Lib.hid (show m.gather s p = { ({ m with beg := p } : Mk) with run := m.run ++ s, parts := true } by unfold Mk.gather; rw [if_pos hE])
    have KH := Lib.hid KQ
    clear h0 hE KQ
    go_enter Tryz.func221, Tryz.ntmps221
    go_wp2_with (at_builtin; go_loud (refine Lib.wpList_append_own_string _ rfl _ _ 74 9 rfl B 5 i0 Tryz.underlying74 Tryz.underlying9 hi hz0 hz1 hz2 _ _ _ rfl HO.out (bs s) rfl D1.out D2.out (by simp only [World.size_setCell]; exact SW.out) ?_); intro v' w2 hown' hgrow _; obtain ⟨pv, cv, hv'⟩ := lenS hown'; have hg2 := hgrow; rw [← HV.out] at hg2; obtain ⟨hb2, HF⟩ := gather_end (s := s) HX.out hg2 (by simpa [HL.out] using hown'); have B3 := Lib.hid (B2.out.grown hgrow (by simp only [World.size_setCell]; exact SW.out) (fun k hk => (HO.out.lt k hk).1)); have HF1 := Lib.hid HF; have K3 := Lib.hid (Kp.row KH.out HO.out hgrow); subst hv'; obtain ⟨d3, e3⟩ := Lx.cells_of hb2 3; obtain ⟨d8, e8⟩ := Lx.cells_of hb2 8; clear hown' hgrow hg2 hb2 HF)
    go_end0
    refine ⟨rfl, ?_⟩
    rw [HE.out]
    exact Moved.of HF1.out ((B3.out.setCell (p := ⟨g, 3, none⟩) H1.out.base _).setCell (p := ⟨g, 8, none⟩) H1.out.base _) ((K3.out.set 3 _).set 8 _)
  · have t0 : ((L : Int) == 0) = false := by simp; exact h0
    have hE : m.run ≠ [] := fun e => h0 (by rw [← HL.out, e]; rfl)
    have HO := Lib.hid (show (w.alloc (.cells #[.int .i64 p.1, .int .i64 p.2] 88)).ownsRow B 5 1 (.slice pr L cr) L (Lib.byteCells m.run) from by
      have h := H1.out.runs
      rw [HV.out, HL.out] at h
      exact h)
    have KQ := (Kp.refl g w).alloc (.cells #[.int .i64 p.1, .int .i64 p.2] 88)
    have HE := Lib.hid (show m.gather s p = { m with run := m.run ++ s, parts := true } by unfold Mk.gather; rw [if_neg hE])
    have KH := Lib.hid KQ
    clear h0 hE KQ
    go_enter Tryz.func221, Tryz.ntmps221
    go_wp2_with (at_builtin; go_loud (refine Lib.wpList_append_own_string _ rfl _ _ 74 9 rfl B 5 i0 Tryz.underlying74 Tryz.underlying9 hi hz0 hz1 hz2 _ _ _ rfl HO.out (bs s) rfl D1.out D2.out SW.out ?_); intro v' w2 hown' hgrow _; obtain ⟨pv, cv, hv'⟩ := lenS hown'; have hg2 := hgrow; rw [← HV.out] at hg2; obtain ⟨hb2, HF⟩ := gather_end (s := s) H1.out hg2 (by simpa [HL.out] using hown'); have B3 := Lib.hid (B1.out.grown hgrow SW.out (fun k hk => (HO.out.lt k hk).1)); have HF1 := Lib.hid HF; have K3 := Lib.hid (Kp.row KH.out HO.out hgrow); subst hv'; obtain ⟨d3, e3⟩ := Lx.cells_of hb2 3; obtain ⟨d8, e8⟩ := Lx.cells_of hb2 8; clear hown' hgrow hg2 hb2 HF)
    go_end0
    refine ⟨rfl, ?_⟩
    rw [HE.out]
    exact Moved.of HF1.out ((B3.out.setCell (p := ⟨g, 3, none⟩) H1.out.base _).setCell (p := ⟨g, 8, none⟩) H1.out.base _) ((K3.out.set 3 _).set 8 _)

theorem gl_none {m : Mk} (h : m.gap = none) : m.gl = 0 ∧ m.gc = 0 := by simp [Mk.gl, Mk.gc, h]
theorem gl_some {m : Mk} {p : Nat × Nat} (h : m.gap = some p) : m.gl = p.1 ∧ m.gc = p.2 := by simp [Mk.gl, Mk.gc, h]
set_option maxRecDepth 100000 in
set_option maxHeartbeats 2000000 in
theorem fillGap_pro (w : World) (B g n : Nat) (m : Mk) (vt vo vr : Value) (h : Lx w B g n m vt vo vr) (hl : m.run.length ≤ 9000000) :
    Calls Tryz.prog 220 #[.pointer (some ⟨g, 0, none⟩)] w (Did B g n m.fill vt vo w) := by
  have H0 := Lib.hid h
  obtain ⟨c0, c1, c2, c3, c4, c5, c6, c7, c8⟩ := h.cells
  cases hgap : m.gap with
  | none =>
    obtain ⟨e1, e2⟩ := gl_none hgap
    rw [e1] at c6
    rw [e2] at c7
    have hq := eq_place 0 0 0 0 w
    have HE := Lib.hid (show m.fill = m by unfold Mk.fill; rw [hgap])
    clear c0 c1 c2 c3 c4 c5 c8 h hl hgap e1 e2
    go_enter Tryz.func220, Tryz.ntmps220
    go_wp2_with fail
    go_end0
    refine ⟨rfl, ?_⟩
    rw [HE.out]; exact Moved.refl H0.out
  | some p =>
    obtain ⟨e1, e2⟩ := gl_some hgap
    have hp := h.gap p hgap
    rw [e1] at c6
    rw [e2] at c7
    have hz : ¬ p.1 = 0 := by omega
    have hz' : ¬ (p.1 : Int) = 0 := by omega
    have HE := Lib.hid (show m.fill = { m.gather [32] p with gap := none } by unfold Mk.fill; rw [hgap])
    have HL := Lib.hid (show m.run.length + [(32 : UInt8)].length ≤ 10000000 by simp; omega)
    clear c0 c1 c2 c3 c4 c5 c8 h hl hgap e1 e2 hp
    go_enter Tryz.func220, Tryz.ntmps220
    go_wp2_with fail
    refine (gather_pro w B g n m [32] p vt vo vr H0.out HL.out).mono ?_
    rintro e w1 ⟨rfl, hb, vt', vo', vr', h1, hk⟩
    have B1 := Lib.hid hb
    have K1 := Lib.hid hk
    clear hk
    have H1 := Lib.hid h1
    obtain ⟨d0, d1, d2, d3, d4, d5, d6, d7, d8⟩ := h1.cells
    have f6 := h1.frozen 6
    have f7 := h1.frozen 7
    clear hz hz' hb h1 d0 d1 d2 d3 d4 d5 d8
    go_wp2_with fail
    go_end0
    refine ⟨rfl, ?_⟩
    rw [HE.out]
    exact Moved.then B1.out K1.out (Moved.of (H1.out.set2 (m' := { m.gather [32] p with gap := none }) (n' := n) rfl rfl rfl rfl (fun _ h => by cases h)) (((Below.refl _ _).setCell (p := ⟨g, 6, none⟩) H1.out.base _).setCell (p := ⟨g, 7, none⟩) H1.out.base _) (((Kp.refl _ _).set 6 _).set 7 _))

set_option maxRecDepth 100000 in
set_option maxHeartbeats 2000000 in
theorem blankM_pro (w : World) (B g n col : Nat) (m : Mk) (vt vo vr : Value) (h : Lx w B g n m vt vo vr) (hn : 0 < n) :
    Calls Tryz.prog 139 #[.pointer (some ⟨g, 0, none⟩), .int .i64 col] w (Did B g n (m.blank (n, col)) vt vo w) := by
  have H0 := Lib.hid h
  obtain ⟨c0, c1, c2, c3, c4, c5, c6, c7, c8⟩ := h.cells
  have f6 := h.frozen 6
  have f7 := h.frozen 7
  have H1 := Lib.hid h
  cases hpt : m.parts with
  | false =>
    rw [hpt] at c8
    have HE := Lib.hid (show m.blank (n, col) = m by unfold Mk.blank; rw [hpt]; rfl)
    clear c0 c1 c2 c3 c4 c5 h hpt hn
    go_enter Tryz.func139, Tryz.ntmps139
    go_wp2_with fail
    go_end0
    refine ⟨rfl, ?_⟩
    rw [HE.out]; exact Moved.refl H0.out
  | true =>
    rw [hpt] at c8
    cases hgap : m.gap with
    | none =>
      obtain ⟨e1, e2⟩ := gl_none hgap
      rw [e1] at c6
      rw [e2] at c7
      have HE := Lib.hid (show m.blank (n, col) = { m with gap := some (n, col) } by unfold Mk.blank; rw [hpt, hgap]; rfl)
      have HN := Lib.hid hn
      clear c0 c2 c3 c4 c5 h hpt hgap e1 e2 hn
      go_enter Tryz.func139, Tryz.ntmps139
      go_wp2_with fail
      go_end0
      refine ⟨rfl, ?_⟩
      rw [HE.out]
      exact Moved.of (H1.out.set2 (m' := { m with gap := some (n, col) }) (n' := n) rfl rfl rfl rfl (fun p h => by cases h; exact HN.out)) (((Below.refl B w).setCell (p := ⟨g, 6, none⟩) H1.out.base _).setCell (p := ⟨g, 7, none⟩) H1.out.base _) (((Kp.refl _ _).set 6 _).set 7 _)
    | some p =>
      obtain ⟨e1, e2⟩ := gl_some hgap
      have hp := h.gap p hgap
      rw [e1] at c6
      rw [e2] at c7
      have hz : ¬ p.1 = 0 := by omega
      have hz' : ¬ (p.1 : Int) = 0 := by omega
      have HE := Lib.hid (show m.blank (n, col) = m by unfold Mk.blank; rw [hpt, hgap]; rfl)
      clear c0 c1 c2 c3 c4 c5 h hpt hgap e1 e2 hn hp
      go_enter Tryz.func139, Tryz.ntmps139
      go_wp2_with fail
      go_end0
      refine ⟨rfl, ?_⟩
      rw [HE.out]; exact Moved.refl H0.out

theorem fill_len (m : Mk) : m.fill.run.length ≤ m.run.length + 1 := by
  unfold Mk.fill
  split <;> simp [Mk.gather]
set_option maxRecDepth 100000 in
set_option maxHeartbeats 2000000 in
theorem character_pro (w : World) (B g n col : Nat) (m : Mk) (s : List UInt8) (vt vo vr : Value) (h : Lx w B g n m vt vo vr) (hl : m.run.length + s.length ≤ 5000000) :
    Calls Tryz.prog 141 #[.pointer (some ⟨g, 0, none⟩), .string (bs s), .int .i64 col] w (Did B g n (m.char s (n, col)) vt vo w) := by
  have HL := Lib.hid hl
  have H0 := Lib.hid h
  clear h hl
  go_enter Tryz.func141, Tryz.ntmps141
  go_wp2_with fail
  refine (fillGap_pro w B g n m vt vo vr H0.out (by have := HL.out; omega)).mono ?_
  rintro e w1 ⟨rfl, hb, vt1, vo1, vr1, h1, hk⟩
  have B1 := Lib.hid hb
  have K1 := Lib.hid hk
  have H1 := Lib.hid h1
  obtain ⟨c0, c1, _⟩ := h1.cells
  clear hb hk h1 c0
  go_wp2_with fail
  refine (gather_pro w1 B g n m.fill s (n, col) vt1 vo1 vr1 H1.out (by have := HL.out; have := fill_len m; omega)).mono ?_
  rintro e w2 ⟨rfl, h2⟩
  have M2 := Lib.hid h2
  clear h2 c1
  go_wp2_with fail
  go_end0
  exact ⟨rfl, Moved.then B1.out K1.out M2.out⟩
end Go.Proofs.YtmceiehnfmgioaaGreatDoor
