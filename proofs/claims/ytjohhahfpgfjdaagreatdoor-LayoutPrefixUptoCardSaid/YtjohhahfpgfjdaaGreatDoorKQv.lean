/- Layer 11: the document's checker: an operation of blocks. -/
import Derived.Test.YtjohhahfpgfjdaaGreatDoorKQu
namespace Go.Proofs.YtjohhahfpgfjdaaGreatDoor.Ir
open Go.RowKit Go.Maps Go.Proofs.YtjohhahfpgfjdaaGreatDoor
set_option linter.unusedVariables false
set_option linter.unusedSimpArgs false
set_option maxRecDepth 100000
section
variable {B g : Nat} {w : World} {s : Dc} {vb vo : Value}
theorem dls_set {ini : List Dl} {x x' : Dl} {j : Nat} {u : Value} (hj : j < 5) (h : (dlRow x).set j u = dlRow x') : (dlsV (ini ++ [x])).set (ini.length * 5 + j) u = dlsV (ini ++ [x']) := by
  rw [dlsV_app, dlsV_app, dlsV_one, dlsV_one, List.set_append_right _ _ (by rw [dlsV_len]; omega), dlsV_len, show ini.length * 5 + j - ini.length * 5 = j by omega, h]
theorem DcM.setLv {gl m cl : Nat} {ini : List Dl} {x x' : Dl} {j : Nat} {u : Value} (h : DcM B g w s vb (.slice (some ⟨gl, 0, none⟩) m cl)) (e : s.op = ini ++ [x]) (hj : j < 5) (hx : (dlRow x).set j u = dlRow x') : DcM B g (w.setCell ⟨gl, ini.length * 5 + j, none⟩ u) { s with op := ini ++ [x'] } vb (.slice (some ⟨gl, 0, none⟩) m cl) := by
  have ho := h.op
  have hm : m = s.op.length := by
    rcases ho.2 with ⟨h8, _⟩ | ⟨_, _, _, h8, _⟩ <;> cases h8
    rfl
  subst hm
  have hst := World.ownsRow.stored ho (ini.length * 5 + j) u
  rw [e, dls_set hj hx] at hst
  have hne : g ≠ gl := fun e2 => own_not2 ho h.row (by decide) (by subst e2; rfl)
  have hrow : (w.setCell ⟨gl, ini.length * 5 + j, none⟩ u).heap[g]? = some (.cells #[.bool s.para, vb, .slice (some ⟨gl, 0, none⟩) s.op.length cl, .bool s.tx] 105 (0, 0)) := (Below.heap_setCell _ _ _ _ hne).trans h.row
  refine ⟨?_, own_stays h.br fun c hc => hst.2.block c (own_base h.br hc).2 fun e2 => own_ne ho h.br (by decide) e2.symm hc, ?_, h.gB⟩
  · exact hrow
  · have hl : (ini ++ [x']).length = s.op.length := by rw [e]; simp
    show World.ownsRow _ _ _ _ _ (ini ++ [x']).length _
    rw [hl, e]
    exact hst.1
theorem lvA (h : DcM B g w s vb vo) (xt : Bool) (xi xw xr xc : Nat) : DcM B g (w.alloc (.cells #[.bool xt, .int .i64 (xi : Nat), .int .i64 (xw : Nat), .int .i64 (xr : Nat), .int .i64 (xc : Nat)] 176)) s vb vo ∧ (∀ w0, Below B w0 w → Below B w0 (w.alloc (.cells #[.bool xt, .int .i64 (xi : Nat), .int .i64 (xw : Nat), .int .i64 (xr : Nat), .int .i64 (xc : Nat)] 176))) ∧ B ≤ (w.alloc (.cells #[.bool xt, .int .i64 (xi : Nat), .int .i64 (xw : Nat), .int .i64 (xr : Nat), .int .i64 (xc : Nat)] 176)).heap.size ∧ ((w.alloc (.cells #[.bool xt, .int .i64 (xi : Nat), .int .i64 (xw : Nat), .int .i64 (xr : Nat), .int .i64 (xc : Nat)] 176)).cell? ⟨w.heap.size, 0, none⟩ = some (.bool xt) ∧ (w.alloc (.cells #[.bool xt, .int .i64 (xi : Nat), .int .i64 (xw : Nat), .int .i64 (xr : Nat), .int .i64 (xc : Nat)] 176)).cell? ⟨w.heap.size, 1, none⟩ = some (.int .i64 (xi : Nat)) ∧ (w.alloc (.cells #[.bool xt, .int .i64 (xi : Nat), .int .i64 (xw : Nat), .int .i64 (xr : Nat), .int .i64 (xc : Nat)] 176)).cell? ⟨w.heap.size, 2, none⟩ = some (.int .i64 (xw : Nat)) ∧ (w.alloc (.cells #[.bool xt, .int .i64 (xi : Nat), .int .i64 (xw : Nat), .int .i64 (xr : Nat), .int .i64 (xc : Nat)] 176)).cell? ⟨w.heap.size, 3, none⟩ = some (.int .i64 (xr : Nat)) ∧ (w.alloc (.cells #[.bool xt, .int .i64 (xi : Nat), .int .i64 (xw : Nat), .int .i64 (xr : Nat), .int .i64 (xc : Nat)] 176)).cell? ⟨w.heap.size, 4, none⟩ = some (.int .i64 (xc : Nat))) := by
  have hA : Below w.heap.size w (w.alloc (.cells #[.bool xt, .int .i64 (xi : Nat), .int .i64 (xw : Nat), .int .i64 (xr : Nat), .int .i64 (xc : Nat)] 176)) := (Below.refl _ _).alloc (Nat.le_refl _) _
  have hB : B ≤ w.heap.size := Nat.le_trans h.gB (Nat.le_of_lt h.lt)
  refine ⟨h.below hA, fun w0 h0 => h0.trans (hA.mono hB), Nat.le_trans hB hA.size, ?_⟩
  have hx := heap_alloc_new w (.cells #[.bool xt, .int .i64 (xi : Nat), .int .i64 (xw : Nat), .int .i64 (xr : Nat), .int .i64 (xc : Nat)] 176)
  refine ⟨?_, ?_, ?_, ?_, ?_⟩ <;> rw [cell_of_row _ _ _ _ _ _ hx] <;> rfl
theorem lvA0 (h : DcM B g w s vb vo) : DcM B g (w.alloc (.cells #[.bool false, .int .i64 0, .int .i64 0, .int .i64 0, .int .i64 0] 176)) s vb vo ∧ (∀ w0, Below B w0 w → Below B w0 (w.alloc (.cells #[.bool false, .int .i64 0, .int .i64 0, .int .i64 0, .int .i64 0] 176))) ∧ B ≤ (w.alloc (.cells #[.bool false, .int .i64 0, .int .i64 0, .int .i64 0, .int .i64 0] 176)).heap.size ∧ ((w.alloc (.cells #[.bool false, .int .i64 0, .int .i64 0, .int .i64 0, .int .i64 0] 176)).cell? ⟨w.heap.size, 0, none⟩ = some (.bool false) ∧ (w.alloc (.cells #[.bool false, .int .i64 0, .int .i64 0, .int .i64 0, .int .i64 0] 176)).cell? ⟨w.heap.size, 1, none⟩ = some (.int .i64 0) ∧ (w.alloc (.cells #[.bool false, .int .i64 0, .int .i64 0, .int .i64 0, .int .i64 0] 176)).cell? ⟨w.heap.size, 2, none⟩ = some (.int .i64 0) ∧ (w.alloc (.cells #[.bool false, .int .i64 0, .int .i64 0, .int .i64 0, .int .i64 0] 176)).cell? ⟨w.heap.size, 3, none⟩ = some (.int .i64 0) ∧ (w.alloc (.cells #[.bool false, .int .i64 0, .int .i64 0, .int .i64 0, .int .i64 0] 176)).cell? ⟨w.heap.size, 4, none⟩ = some (.int .i64 0)) := by
  have hA : Below w.heap.size w (w.alloc (.cells #[.bool false, .int .i64 0, .int .i64 0, .int .i64 0, .int .i64 0] 176)) := (Below.refl _ _).alloc (Nat.le_refl _) _
  have hB : B ≤ w.heap.size := Nat.le_trans h.gB (Nat.le_of_lt h.lt)
  refine ⟨h.below hA, fun w0 h0 => h0.trans (hA.mono hB), Nat.le_trans hB hA.size, ?_⟩
  have hx := heap_alloc_new w (.cells #[.bool false, .int .i64 0, .int .i64 0, .int .i64 0, .int .i64 0] 176)
  refine ⟨?_, ?_, ?_, ?_, ?_⟩ <;> rw [cell_of_row _ _ _ _ _ _ hx] <;> rfl
theorem op_some {l : List Dl} {ini : List Dl} {x : Dl} (e : l = ini ++ [x]) : l.getLast?.getD dl0 = x ∧ l.isEmpty = false ∧ l.length = ini.length + 1 := by
  subst e
  simp
theorem op_cap {B : Nat} {w : World} {v : Value} {l : List Dl} {ini : List Dl} {x : Dl} (h : w.ownsRow B 176 5 v l.length (dlsV l)) (e : l = ini ++ [x]) : ∃ gl cl, v = .slice (some ⟨gl, 0, none⟩) (ini.length + 1) cl ∧ ini.length + 1 ≤ cl ∧ cl ≤ maxLen := by
  have hl := (op_some e).2.2
  rw [hl] at h
  rcases h.2 with ⟨_, h8⟩ | ⟨gl, cl, _, h8, _, _, h7, h6, _⟩
  · omega
  · exact ⟨gl, cl, h8, h7, h6⟩
set_option maxHeartbeats 4000000 in
theorem blk_para (k n : Int) (t : ByteArray) (p : Option Addr) (l c : Nat) (h : DcM B g w s vb vo) (hp : s.para = true) :
    Calls Tryz.prog 70 #[.pointer (some ⟨g, 0, none⟩), opB k n t p l c] w (DoIs B g false s w) := by
  obtain ⟨h1, h2, h3, z0, hB⟩ := opA h k n t p l c
  obtain ⟨⟨c0, c1, c2, c3⟩, f0, f1, f2, f3⟩ := h1.facts
  obtain ⟨⟨d0, d1, d2, d3⟩, _⟩ := h.facts
  have HD := Lib.hid h1
  have HB := Lib.hid h2
  unfold opB
  unfold opO at c0 c1 c2 c3 f0 f1 f2 f3 z0 HD HB
  rw [hp] at c0 d0
  clear h h1 h2 h3 hB hp
  go_enter Tryz.func70, Tryz.ntmps70
  go_wp2_with fail
  go_ret
  exact ⟨rfl, HB.out, _, _, HD.out⟩
set_option maxHeartbeats 8000000 in
theorem blk_8_none (n : Int) (t : ByteArray) (p : Option Addr) (l c : Nat) (h : DcM B g w s vb vo) (hp : s.para = false) (he : s.op = []) :
    Calls Tryz.prog 70 #[.pointer (some ⟨g, 0, none⟩), opB 8 n t p l c] w (DoIs B g true { s with para := true } w) := by
  have HP := Lib.hid hp
  obtain ⟨pl, cl, rfl⟩ := lenL h.op
  have hz : s.op.length = 0 := by rw [he]; rfl
  rw [hz] at h
  obtain ⟨h1, h2, h3, z0, hB⟩ := opA h 8 n t p l c
  obtain ⟨⟨c0, c1, c2, c3⟩, f0, f1, f2, f3⟩ := h1.facts
  obtain ⟨⟨d0, d1, d2, d3⟩, _⟩ := h.facts
  have HD := Lib.hid h1
  have HB := Lib.hid h2
  have HS := Lib.hid h3
  have HTOP := Lib.hid (top_ref s vb _ g _ h1.is)
  unfold opB
  unfold opO at c0 c1 c2 c3 f0 f1 f2 f3 z0 HD HB HS HTOP
  rw [hp] at c0 d0
  rw [he, show ((([] : List Dl).getLast?).getD dl0) = dl0 from rfl, show (!([] : List Dl).isEmpty) = false from rfl] at HTOP
  unfold dlVal dl0 at HTOP
  clear h h1 h2 h3 hB hp hz
  go_enter Tryz.func70, Tryz.ntmps70
  go_wp2_with fail
  refine HTOP.out.mono ?_
  rintro e w2 ⟨rfl, hb⟩
  have hd2 := HD.out.below hb
  have HBB := Lib.hid (HB.out.trans (hb.mono HS.out))
  obtain ⟨hd3, hbx, hs3, x0, x1, x2, x3, x4⟩ := lvA0 hd2
  have zz := (((Below.refl w2.heap.size w2).alloc (Nat.le_refl _) (.cells #[.bool false, .int .i64 0, .int .i64 0, .int .i64 0, .int .i64 0] 176)).cell (p := ⟨w.heap.size, 0, none⟩) (Nat.lt_of_lt_of_le (by simp) hb.size)).trans ((hb.cell (p := ⟨w.heap.size, 0, none⟩) (by simp)).trans z0)
  obtain ⟨⟨b0, b1, b2, b3⟩, g0, g1, g2, g3⟩ := hd3.facts
  obtain ⟨⟨a0, a1, a2, a3⟩, _⟩ := hd2.facts
  have HD2 := Lib.hid hd3
  have HB2 := Lib.hid (hbx _ HBB.out)
  have HS2 := Lib.hid hs3
  rw [HP.out] at b0 a0
  clear hb hd2 hd3 hbx hs3 c0 c1 c2 c3 f0 f1 f2 f3 d0 d1 d2 d3 HTOP
  have HD4 := Lib.hid (HD2.out.setPara true)
  have HG2 := Lib.hid HD2.out.gB
  go_wp2_with fail
  go_ret
  exact ⟨rfl, HB2.out.setCell (p := ⟨g, 0, none⟩) HG2.out _, _, _, HD4.out⟩
set_option maxHeartbeats 8000000 in
theorem blk_8_row (n : Int) (t : ByteArray) (p : Option Addr) (l c : Nat) (h : DcM B g w s vb vo) (hp : s.para = false) {ini : List Dl} {x : Dl} (e : s.op = ini ++ [x]) (hx : x.tab = true ∧ x.rows = 0) :
    Calls Tryz.prog 70 #[.pointer (some ⟨g, 0, none⟩), opB 8 n t p l c] w (DoIs B g false s w) := by
  obtain ⟨gl, cl, rfl, hcap, hcm⟩ := op_cap h.op e
  obtain ⟨t1, t2, t3⟩ := op_some e
  have HP := Lib.hid hp
  obtain ⟨h1, h2, h3, z0, hB⟩ := opA h 8 n t p l c
  obtain ⟨⟨c0, c1, c2, c3⟩, f0, f1, f2, f3⟩ := h1.facts
  obtain ⟨⟨d0, d1, d2, d3⟩, _⟩ := h.facts
  have HD := Lib.hid h1
  have HB := Lib.hid h2
  have HS := Lib.hid h3
  have HTOP := Lib.hid (top_ref s vb _ g _ h1.is)
  unfold opB
  unfold opO at c0 c1 c2 c3 f0 f1 f2 f3 z0 HD HB HS HTOP
  rw [hp] at c0 d0
  rw [t1, t2] at HTOP
  obtain ⟨xt, xi, xw, xr, xc⟩ := x
  unfold dlVal at HTOP
  obtain ⟨m, hm⟩ : ∃ m, ini.length = m := ⟨_, rfl⟩
  have HM := Lib.hid hm
  have HE := Lib.hid e
  rw [hm] at c2 d2 HD hcap
  unfold maxLen at hcm
  have m62 : m + 1 ≤ 9223372036854775807 := by omega
  have e1' : wrap64 (((m + 1 : Nat) : Int) - 1) = (m : Int) := by unfold wrap64; omega
  have e2' : ((m + 1 : Nat) : Int) - 1 = (m : Int) := by omega
  have hlast : m < m + 1 := by omega
  have hlast2 : (m : Int) < ((m + 1 : Nat) : Int) := by omega
  dsimp only at hx
  obtain ⟨rfl, hx1⟩ := hx
  have n1 : (((xr : Nat) : Int) == 0) = true := by rw [hx1]; rfl
  clear hx1
  clear h h1 h2 h3 hB hp hm t1 t2 t3 e
  go_enter Tryz.func70, Tryz.ntmps70
  go_wp2_with fail
  refine HTOP.out.mono ?_
  rintro e w2 ⟨rfl, hb⟩
  have hd2 := HD.out.below hb
  have HBB := Lib.hid (HB.out.trans (hb.mono HS.out))
  obtain ⟨hd3, hbx, hs3, x0, x1, x2, x3, x4⟩ := lvA hd2 true xi xw xr xc
  have zz := (((Below.refl w2.heap.size w2).alloc (Nat.le_refl _) (.cells #[.bool true, .int .i64 (xi : Nat), .int .i64 (xw : Nat), .int .i64 (xr : Nat), .int .i64 (xc : Nat)] 176)).cell (p := ⟨w.heap.size, 0, none⟩) (Nat.lt_of_lt_of_le (by simp) hb.size)).trans ((hb.cell (p := ⟨w.heap.size, 0, none⟩) (by simp)).trans z0)
  obtain ⟨⟨b0, b1, b2, b3⟩, g0, g1, g2, g3⟩ := hd3.facts
  have HD2 := Lib.hid hd3
  have HB2 := Lib.hid (hbx _ HBB.out)
  have HS2 := Lib.hid hs3
  rw [HP.out] at b0
  clear hb hd2 hd3 hbx hs3 c0 c1 c2 c3 f0 f1 f2 f3 d0 d1 d2 d3 HTOP
  go_wp2_with fail
  go_ret
  exact ⟨rfl, HB2.out, _, _, HD2.out⟩
set_option maxHeartbeats 8000000 in
theorem blk_8_full (n : Int) (t : ByteArray) (p : Option Addr) (l c : Nat) (h : DcM B g w s vb vo) (hp : s.para = false) {ini : List Dl} {x : Dl} (e : s.op = ini ++ [x]) (hx : x.tab = true ∧ 0 < x.rows ∧ x.wide ≤ x.cells) :
    Calls Tryz.prog 70 #[.pointer (some ⟨g, 0, none⟩), opB 8 n t p l c] w (DoIs B g false s w) := by
  obtain ⟨gl, cl, rfl, hcap, hcm⟩ := op_cap h.op e
  obtain ⟨t1, t2, t3⟩ := op_some e
  have HP := Lib.hid hp
  obtain ⟨h1, h2, h3, z0, hB⟩ := opA h 8 n t p l c
  obtain ⟨⟨c0, c1, c2, c3⟩, f0, f1, f2, f3⟩ := h1.facts
  obtain ⟨⟨d0, d1, d2, d3⟩, _⟩ := h.facts
  have HD := Lib.hid h1
  have HB := Lib.hid h2
  have HS := Lib.hid h3
  have HTOP := Lib.hid (top_ref s vb _ g _ h1.is)
  unfold opB
  unfold opO at c0 c1 c2 c3 f0 f1 f2 f3 z0 HD HB HS HTOP
  rw [hp] at c0 d0
  rw [t1, t2] at HTOP
  obtain ⟨xt, xi, xw, xr, xc⟩ := x
  unfold dlVal at HTOP
  obtain ⟨m, hm⟩ : ∃ m, ini.length = m := ⟨_, rfl⟩
  have HM := Lib.hid hm
  have HE := Lib.hid e
  rw [hm] at c2 d2 HD hcap
  unfold maxLen at hcm
  have m62 : m + 1 ≤ 9223372036854775807 := by omega
  have e1' : wrap64 (((m + 1 : Nat) : Int) - 1) = (m : Int) := by unfold wrap64; omega
  have e2' : ((m + 1 : Nat) : Int) - 1 = (m : Int) := by omega
  have hlast : m < m + 1 := by omega
  have hlast2 : (m : Int) < ((m + 1 : Nat) : Int) := by omega
  dsimp only at hx
  obtain ⟨rfl, hx1, hx2⟩ := hx
  have n1 : (((xr : Nat) : Int) == 0) = false := by simp; omega
  have n2 : (xw : Int) ≤ xc := by omega
  clear hx1 hx2
  clear h h1 h2 h3 hB hp hm t1 t2 t3 e
  go_enter Tryz.func70, Tryz.ntmps70
  go_wp2_with fail
  refine HTOP.out.mono ?_
  rintro e w2 ⟨rfl, hb⟩
  have hd2 := HD.out.below hb
  have HBB := Lib.hid (HB.out.trans (hb.mono HS.out))
  obtain ⟨hd3, hbx, hs3, x0, x1, x2, x3, x4⟩ := lvA hd2 true xi xw xr xc
  have zz := (((Below.refl w2.heap.size w2).alloc (Nat.le_refl _) (.cells #[.bool true, .int .i64 (xi : Nat), .int .i64 (xw : Nat), .int .i64 (xr : Nat), .int .i64 (xc : Nat)] 176)).cell (p := ⟨w.heap.size, 0, none⟩) (Nat.lt_of_lt_of_le (by simp) hb.size)).trans ((hb.cell (p := ⟨w.heap.size, 0, none⟩) (by simp)).trans z0)
  obtain ⟨⟨b0, b1, b2, b3⟩, g0, g1, g2, g3⟩ := hd3.facts
  have HD2 := Lib.hid hd3
  have HB2 := Lib.hid (hbx _ HBB.out)
  have HS2 := Lib.hid hs3
  rw [HP.out] at b0
  clear hb hd2 hd3 hbx hs3 c0 c1 c2 c3 f0 f1 f2 f3 d0 d1 d2 d3 HTOP
  go_wp2_with fail
  go_ret
  exact ⟨rfl, HB2.out, _, _, HD2.out⟩
set_option maxHeartbeats 8000000 in
theorem blk_8_none2 (n : Int) (t : ByteArray) (p : Option Addr) (l c : Nat) (h : DcM B g w s vb vo) (hp : s.para = false) {ini : List Dl} {x : Dl} (e : s.op = ini ++ [x]) (hx : x.tab = false ∧ x.items = 0) :
    Calls Tryz.prog 70 #[.pointer (some ⟨g, 0, none⟩), opB 8 n t p l c] w (DoIs B g false s w) := by
  obtain ⟨gl, cl, rfl, hcap, hcm⟩ := op_cap h.op e
  obtain ⟨t1, t2, t3⟩ := op_some e
  have HP := Lib.hid hp
  obtain ⟨h1, h2, h3, z0, hB⟩ := opA h 8 n t p l c
  obtain ⟨⟨c0, c1, c2, c3⟩, f0, f1, f2, f3⟩ := h1.facts
  obtain ⟨⟨d0, d1, d2, d3⟩, _⟩ := h.facts
  have HD := Lib.hid h1
  have HB := Lib.hid h2
  have HS := Lib.hid h3
  have HTOP := Lib.hid (top_ref s vb _ g _ h1.is)
  unfold opB
  unfold opO at c0 c1 c2 c3 f0 f1 f2 f3 z0 HD HB HS HTOP
  rw [hp] at c0 d0
  rw [t1, t2] at HTOP
  obtain ⟨xt, xi, xw, xr, xc⟩ := x
  unfold dlVal at HTOP
  obtain ⟨m, hm⟩ : ∃ m, ini.length = m := ⟨_, rfl⟩
  have HM := Lib.hid hm
  have HE := Lib.hid e
  rw [hm] at c2 d2 HD hcap
  unfold maxLen at hcm
  have m62 : m + 1 ≤ 9223372036854775807 := by omega
  have e1' : wrap64 (((m + 1 : Nat) : Int) - 1) = (m : Int) := by unfold wrap64; omega
  have e2' : ((m + 1 : Nat) : Int) - 1 = (m : Int) := by omega
  have hlast : m < m + 1 := by omega
  have hlast2 : (m : Int) < ((m + 1 : Nat) : Int) := by omega
  dsimp only at hx
  obtain ⟨rfl, hx1⟩ := hx
  have n1 : (((xi : Nat) : Int) == 0) = true := by rw [hx1]; rfl
  clear hx1
  clear h h1 h2 h3 hB hp hm t1 t2 t3 e
  go_enter Tryz.func70, Tryz.ntmps70
  go_wp2_with fail
  refine HTOP.out.mono ?_
  rintro e w2 ⟨rfl, hb⟩
  have hd2 := HD.out.below hb
  have HBB := Lib.hid (HB.out.trans (hb.mono HS.out))
  obtain ⟨hd3, hbx, hs3, x0, x1, x2, x3, x4⟩ := lvA hd2 false xi xw xr xc
  have zz := (((Below.refl w2.heap.size w2).alloc (Nat.le_refl _) (.cells #[.bool false, .int .i64 (xi : Nat), .int .i64 (xw : Nat), .int .i64 (xr : Nat), .int .i64 (xc : Nat)] 176)).cell (p := ⟨w.heap.size, 0, none⟩) (Nat.lt_of_lt_of_le (by simp) hb.size)).trans ((hb.cell (p := ⟨w.heap.size, 0, none⟩) (by simp)).trans z0)
  obtain ⟨⟨b0, b1, b2, b3⟩, g0, g1, g2, g3⟩ := hd3.facts
  have HD2 := Lib.hid hd3
  have HB2 := Lib.hid (hbx _ HBB.out)
  have HS2 := Lib.hid hs3
  rw [HP.out] at b0
  clear hb hd2 hd3 hbx hs3 c0 c1 c2 c3 f0 f1 f2 f3 d0 d1 d2 d3 HTOP
  go_wp2_with fail
  go_ret
  exact ⟨rfl, HB2.out, _, _, HD2.out⟩
set_option maxHeartbeats 8000000 in
theorem blk_8_tab (n : Int) (t : ByteArray) (p : Option Addr) (l c : Nat) (h : DcM B g w s vb vo) (hp : s.para = false) {ini : List Dl} {x : Dl} (e : s.op = ini ++ [x]) (hx : x.tab = true ∧ 0 < x.rows ∧ x.cells < x.wide) (hN : x.cells ≤ 100000) :
    Calls Tryz.prog 70 #[.pointer (some ⟨g, 0, none⟩), opB 8 n t p l c] w (DoIs B g true { s with para := true, op := ini ++ [{ x with cells := x.cells + 1 }] } w) := by
  obtain ⟨gl, cl, rfl, hcap, hcm⟩ := op_cap h.op e
  obtain ⟨t1, t2, t3⟩ := op_some e
  have HP := Lib.hid hp
  obtain ⟨h1, h2, h3, z0, hB⟩ := opA h 8 n t p l c
  obtain ⟨⟨c0, c1, c2, c3⟩, f0, f1, f2, f3⟩ := h1.facts
  obtain ⟨⟨d0, d1, d2, d3⟩, _⟩ := h.facts
  have HD := Lib.hid h1
  have HB := Lib.hid h2
  have HS := Lib.hid h3
  have HTOP := Lib.hid (top_ref s vb _ g _ h1.is)
  unfold opB
  unfold opO at c0 c1 c2 c3 f0 f1 f2 f3 z0 HD HB HS HTOP
  rw [hp] at c0 d0
  rw [t1, t2] at HTOP
  obtain ⟨xt, xi, xw, xr, xc⟩ := x
  unfold dlVal at HTOP
  obtain ⟨m, hm⟩ : ∃ m, ini.length = m := ⟨_, rfl⟩
  have HM := Lib.hid hm
  have HE := Lib.hid e
  rw [hm] at c2 d2 HD hcap
  unfold maxLen at hcm
  have m62 : m + 1 ≤ 9223372036854775807 := by omega
  have e1' : wrap64 (((m + 1 : Nat) : Int) - 1) = (m : Int) := by unfold wrap64; omega
  have e2' : ((m + 1 : Nat) : Int) - 1 = (m : Int) := by omega
  have hlast : m < m + 1 := by omega
  have hlast2 : (m : Int) < ((m + 1 : Nat) : Int) := by omega
  dsimp only at hx
  dsimp only at hN
  obtain ⟨rfl, hx1, hx2⟩ := hx
  have n1 : (((xr : Nat) : Int) == 0) = false := by simp; omega
  have n2 : ¬ (xw : Int) ≤ xc := by omega
  clear hx1 hx2
  clear h h1 h2 h3 hB hp hm t1 t2 t3 e
  go_enter Tryz.func70, Tryz.ntmps70
  go_wp2_with fail
  refine HTOP.out.mono ?_
  rintro e w2 ⟨rfl, hb⟩
  have hd2 := HD.out.below hb
  have HBB := Lib.hid (HB.out.trans (hb.mono HS.out))
  obtain ⟨hd3, hbx, hs3, x0, x1, x2, x3, x4⟩ := lvA hd2 true xi xw xr xc
  have zz := (((Below.refl w2.heap.size w2).alloc (Nat.le_refl _) (.cells #[.bool true, .int .i64 (xi : Nat), .int .i64 (xw : Nat), .int .i64 (xr : Nat), .int .i64 (xc : Nat)] 176)).cell (p := ⟨w.heap.size, 0, none⟩) (Nat.lt_of_lt_of_le (by simp) hb.size)).trans ((hb.cell (p := ⟨w.heap.size, 0, none⟩) (by simp)).trans z0)
  obtain ⟨⟨b0, b1, b2, b3⟩, g0, g1, g2, g3⟩ := hd3.facts
  have HD2 := Lib.hid hd3
  have HB2 := Lib.hid (hbx _ HBB.out)
  have HS2 := Lib.hid hs3
  rw [HP.out] at b0
  clear hb hd2 hd3 hbx hs3 c0 c1 c2 c3 f0 f1 f2 f3 d0 d1 d2 d3 HTOP
  have hrow := HD2.out.op
  rw [show s.op.length = m + 1 by rw [HE.out]; simp [HM.out]] at hrow
  have hat := fun (k : Nat) (u : Value) (hk : (dlRow ⟨true, xi, xw, xr, xc⟩)[k]? = some u) => (World.ownsRow.cellAt hrow (m * 5 + k) (by
    have hk5 : k < 5 := by
      rcases Nat.lt_or_ge k 5 with h | h
      · exact h
      · rw [List.getElem?_eq_none (by simpa [dlRow] using h)] at hk; cases hk
    omega)).trans (dlsV_get s.op m k (by rw [HE.out]; simp [HM.out]) u (by
    have e5 : s.op[m]'(by rw [HE.out]; simp [HM.out]) = ⟨true, xi, xw, xr, xc⟩ := by
      simp only [HE.out]
      rw [List.getElem_append_right (by rw [HM.out]; exact Nat.le_refl _)]
      simp [HM.out]
    rw [e5]; exact hk))
  have hfr := fun k : Nat => World.ownsRow.frozenAt hrow (m * 5 + k)
  have y0 := hat 4 _ rfl
  have y1 := hfr 4
  have hset := HD2.out.setLv (x' := ⟨true, xi, xw, xr, xc + 1⟩) (j := 4) (u := .int .i64 ((xc : Nat) + 1 : Nat)) HE.out (by omega) rfl
  rw [HM.out] at hset
  have HG := Lib.hid (own_base HD2.out.op rfl).1
  have HB3 := Lib.hid (HB2.out.setCell (p := ⟨gl, m * 5 + 4, none⟩) HG.out (.int .i64 ((xc : Nat) + 1 : Nat)))
  have v1 : wrap64 ((xc : Int) + 1) = ((xc + 1 : Nat) : Int) := by unfold wrap64; omega
  obtain ⟨⟨q0, q1, q2, q3⟩, r0, r1, r2, r3⟩ := hset.facts
  have HD4 := Lib.hid (hset.setPara true)
  have HG2 := Lib.hid HD2.out.gB
  rw [show ({ s with op := _ } : Dc).para = false from HP.out] at q0
  clear hrow hat hfr hset
  go_wp2_with fail
  go_ret
  exact ⟨rfl, HB3.out.setCell (p := ⟨g, 0, none⟩) HG2.out _, _, _, HD4.out⟩
set_option maxHeartbeats 8000000 in
theorem blk_8_list (n : Int) (t : ByteArray) (p : Option Addr) (l c : Nat) (h : DcM B g w s vb vo) (hp : s.para = false) {ini : List Dl} {x : Dl} (e : s.op = ini ++ [x]) (hx : x.tab = false ∧ 0 < x.items) (hN : x.cells ≤ 100000) :
    Calls Tryz.prog 70 #[.pointer (some ⟨g, 0, none⟩), opB 8 n t p l c] w (DoIs B g true { s with para := true, op := ini ++ [{ x with cells := x.cells + 1 }] } w) := by
  obtain ⟨gl, cl, rfl, hcap, hcm⟩ := op_cap h.op e
  obtain ⟨t1, t2, t3⟩ := op_some e
  have HP := Lib.hid hp
  obtain ⟨h1, h2, h3, z0, hB⟩ := opA h 8 n t p l c
  obtain ⟨⟨c0, c1, c2, c3⟩, f0, f1, f2, f3⟩ := h1.facts
  obtain ⟨⟨d0, d1, d2, d3⟩, _⟩ := h.facts
  have HD := Lib.hid h1
  have HB := Lib.hid h2
  have HS := Lib.hid h3
  have HTOP := Lib.hid (top_ref s vb _ g _ h1.is)
  unfold opB
  unfold opO at c0 c1 c2 c3 f0 f1 f2 f3 z0 HD HB HS HTOP
  rw [hp] at c0 d0
  rw [t1, t2] at HTOP
  obtain ⟨xt, xi, xw, xr, xc⟩ := x
  unfold dlVal at HTOP
  obtain ⟨m, hm⟩ : ∃ m, ini.length = m := ⟨_, rfl⟩
  have HM := Lib.hid hm
  have HE := Lib.hid e
  rw [hm] at c2 d2 HD hcap
  unfold maxLen at hcm
  have m62 : m + 1 ≤ 9223372036854775807 := by omega
  have e1' : wrap64 (((m + 1 : Nat) : Int) - 1) = (m : Int) := by unfold wrap64; omega
  have e2' : ((m + 1 : Nat) : Int) - 1 = (m : Int) := by omega
  have hlast : m < m + 1 := by omega
  have hlast2 : (m : Int) < ((m + 1 : Nat) : Int) := by omega
  dsimp only at hx
  dsimp only at hN
  obtain ⟨rfl, hx1⟩ := hx
  have n1 : (((xi : Nat) : Int) == 0) = false := by simp; omega
  clear hx1
  clear h h1 h2 h3 hB hp hm t1 t2 t3 e
  go_enter Tryz.func70, Tryz.ntmps70
  go_wp2_with fail
  refine HTOP.out.mono ?_
  rintro e w2 ⟨rfl, hb⟩
  have hd2 := HD.out.below hb
  have HBB := Lib.hid (HB.out.trans (hb.mono HS.out))
  obtain ⟨hd3, hbx, hs3, x0, x1, x2, x3, x4⟩ := lvA hd2 false xi xw xr xc
  have zz := (((Below.refl w2.heap.size w2).alloc (Nat.le_refl _) (.cells #[.bool false, .int .i64 (xi : Nat), .int .i64 (xw : Nat), .int .i64 (xr : Nat), .int .i64 (xc : Nat)] 176)).cell (p := ⟨w.heap.size, 0, none⟩) (Nat.lt_of_lt_of_le (by simp) hb.size)).trans ((hb.cell (p := ⟨w.heap.size, 0, none⟩) (by simp)).trans z0)
  obtain ⟨⟨b0, b1, b2, b3⟩, g0, g1, g2, g3⟩ := hd3.facts
  have HD2 := Lib.hid hd3
  have HB2 := Lib.hid (hbx _ HBB.out)
  have HS2 := Lib.hid hs3
  rw [HP.out] at b0
  clear hb hd2 hd3 hbx hs3 c0 c1 c2 c3 f0 f1 f2 f3 d0 d1 d2 d3 HTOP
  have hrow := HD2.out.op
  rw [show s.op.length = m + 1 by rw [HE.out]; simp [HM.out]] at hrow
  have hat := fun (k : Nat) (u : Value) (hk : (dlRow ⟨false, xi, xw, xr, xc⟩)[k]? = some u) => (World.ownsRow.cellAt hrow (m * 5 + k) (by
    have hk5 : k < 5 := by
      rcases Nat.lt_or_ge k 5 with h | h
      · exact h
      · rw [List.getElem?_eq_none (by simpa [dlRow] using h)] at hk; cases hk
    omega)).trans (dlsV_get s.op m k (by rw [HE.out]; simp [HM.out]) u (by
    have e5 : s.op[m]'(by rw [HE.out]; simp [HM.out]) = ⟨false, xi, xw, xr, xc⟩ := by
      simp only [HE.out]
      rw [List.getElem_append_right (by rw [HM.out]; exact Nat.le_refl _)]
      simp [HM.out]
    rw [e5]; exact hk))
  have hfr := fun k : Nat => World.ownsRow.frozenAt hrow (m * 5 + k)
  have y0 := hat 4 _ rfl
  have y1 := hfr 4
  have hset := HD2.out.setLv (x' := ⟨false, xi, xw, xr, xc + 1⟩) (j := 4) (u := .int .i64 ((xc : Nat) + 1 : Nat)) HE.out (by omega) rfl
  rw [HM.out] at hset
  have HG := Lib.hid (own_base HD2.out.op rfl).1
  have HB3 := Lib.hid (HB2.out.setCell (p := ⟨gl, m * 5 + 4, none⟩) HG.out (.int .i64 ((xc : Nat) + 1 : Nat)))
  have v1 : wrap64 ((xc : Int) + 1) = ((xc + 1 : Nat) : Int) := by unfold wrap64; omega
  obtain ⟨⟨q0, q1, q2, q3⟩, r0, r1, r2, r3⟩ := hset.facts
  have HD4 := Lib.hid (hset.setPara true)
  have HG2 := Lib.hid HD2.out.gB
  rw [show ({ s with op := _ } : Dc).para = false from HP.out] at q0
  clear hrow hat hfr hset
  go_wp2_with fail
  go_ret
  exact ⟨rfl, HB3.out.setCell (p := ⟨g, 0, none⟩) HG2.out _, _, _, HD4.out⟩
set_option maxHeartbeats 8000000 in
theorem blk_11_none (n : Int) (t : ByteArray) (p : Option Addr) (l c : Nat) (h : DcM B g w s vb vo) (hp : s.para = false) (he : s.op = []) :
    Calls Tryz.prog 70 #[.pointer (some ⟨g, 0, none⟩), opB 11 n t p l c] w (DoIs B g false s w) := by
  have HP := Lib.hid hp
  obtain ⟨pl, cl, rfl⟩ := lenL h.op
  have hz : s.op.length = 0 := by rw [he]; rfl
  rw [hz] at h
  obtain ⟨h1, h2, h3, z0, hB⟩ := opA h 11 n t p l c
  obtain ⟨⟨c0, c1, c2, c3⟩, f0, f1, f2, f3⟩ := h1.facts
  obtain ⟨⟨d0, d1, d2, d3⟩, _⟩ := h.facts
  have HD := Lib.hid h1
  have HB := Lib.hid h2
  have HS := Lib.hid h3
  have HTOP := Lib.hid (top_ref s vb _ g _ h1.is)
  unfold opB
  unfold opO at c0 c1 c2 c3 f0 f1 f2 f3 z0 HD HB HS HTOP
  rw [hp] at c0 d0
  rw [he, show ((([] : List Dl).getLast?).getD dl0) = dl0 from rfl, show (!([] : List Dl).isEmpty) = false from rfl] at HTOP
  unfold dlVal dl0 at HTOP
  clear h h1 h2 h3 hB hp hz
  go_enter Tryz.func70, Tryz.ntmps70
  go_wp2_with fail
  refine HTOP.out.mono ?_
  rintro e w2 ⟨rfl, hb⟩
  have hd2 := HD.out.below hb
  have HBB := Lib.hid (HB.out.trans (hb.mono HS.out))
  obtain ⟨hd3, hbx, hs3, x0, x1, x2, x3, x4⟩ := lvA0 hd2
  have zz := (((Below.refl w2.heap.size w2).alloc (Nat.le_refl _) (.cells #[.bool false, .int .i64 0, .int .i64 0, .int .i64 0, .int .i64 0] 176)).cell (p := ⟨w.heap.size, 0, none⟩) (Nat.lt_of_lt_of_le (by simp) hb.size)).trans ((hb.cell (p := ⟨w.heap.size, 0, none⟩) (by simp)).trans z0)
  obtain ⟨⟨b0, b1, b2, b3⟩, g0, g1, g2, g3⟩ := hd3.facts
  obtain ⟨⟨a0, a1, a2, a3⟩, _⟩ := hd2.facts
  have HD2 := Lib.hid hd3
  have HB2 := Lib.hid (hbx _ HBB.out)
  have HS2 := Lib.hid hs3
  rw [HP.out] at b0 a0
  clear hb hd2 hd3 hbx hs3 c0 c1 c2 c3 f0 f1 f2 f3 d0 d1 d2 d3 HTOP
  go_wp2_with fail
  go_ret
  exact ⟨rfl, HB2.out, _, _, HD2.out⟩
set_option maxHeartbeats 8000000 in
theorem blk_11_tab (n : Int) (t : ByteArray) (p : Option Addr) (l c : Nat) (h : DcM B g w s vb vo) (hp : s.para = false) {ini : List Dl} {x : Dl} (e : s.op = ini ++ [x]) (hx : x.tab = true) :
    Calls Tryz.prog 70 #[.pointer (some ⟨g, 0, none⟩), opB 11 n t p l c] w (DoIs B g false s w) := by
  obtain ⟨gl, cl, rfl, hcap, hcm⟩ := op_cap h.op e
  obtain ⟨t1, t2, t3⟩ := op_some e
  have HP := Lib.hid hp
  obtain ⟨h1, h2, h3, z0, hB⟩ := opA h 11 n t p l c
  obtain ⟨⟨c0, c1, c2, c3⟩, f0, f1, f2, f3⟩ := h1.facts
  obtain ⟨⟨d0, d1, d2, d3⟩, _⟩ := h.facts
  have HD := Lib.hid h1
  have HB := Lib.hid h2
  have HS := Lib.hid h3
  have HTOP := Lib.hid (top_ref s vb _ g _ h1.is)
  unfold opB
  unfold opO at c0 c1 c2 c3 f0 f1 f2 f3 z0 HD HB HS HTOP
  rw [hp] at c0 d0
  rw [t1, t2] at HTOP
  obtain ⟨xt, xi, xw, xr, xc⟩ := x
  unfold dlVal at HTOP
  obtain ⟨m, hm⟩ : ∃ m, ini.length = m := ⟨_, rfl⟩
  have HM := Lib.hid hm
  have HE := Lib.hid e
  rw [hm] at c2 d2 HD hcap
  unfold maxLen at hcm
  have m62 : m + 1 ≤ 9223372036854775807 := by omega
  have e1' : wrap64 (((m + 1 : Nat) : Int) - 1) = (m : Int) := by unfold wrap64; omega
  have e2' : ((m + 1 : Nat) : Int) - 1 = (m : Int) := by omega
  have hlast : m < m + 1 := by omega
  have hlast2 : (m : Int) < ((m + 1 : Nat) : Int) := by omega
  dsimp only at hx
  subst hx
  clear h h1 h2 h3 hB hp hm t1 t2 t3 e
  go_enter Tryz.func70, Tryz.ntmps70
  go_wp2_with fail
  refine HTOP.out.mono ?_
  rintro e w2 ⟨rfl, hb⟩
  have hd2 := HD.out.below hb
  have HBB := Lib.hid (HB.out.trans (hb.mono HS.out))
  obtain ⟨hd3, hbx, hs3, x0, x1, x2, x3, x4⟩ := lvA hd2 true xi xw xr xc
  have zz := (((Below.refl w2.heap.size w2).alloc (Nat.le_refl _) (.cells #[.bool true, .int .i64 (xi : Nat), .int .i64 (xw : Nat), .int .i64 (xr : Nat), .int .i64 (xc : Nat)] 176)).cell (p := ⟨w.heap.size, 0, none⟩) (Nat.lt_of_lt_of_le (by simp) hb.size)).trans ((hb.cell (p := ⟨w.heap.size, 0, none⟩) (by simp)).trans z0)
  obtain ⟨⟨b0, b1, b2, b3⟩, g0, g1, g2, g3⟩ := hd3.facts
  have HD2 := Lib.hid hd3
  have HB2 := Lib.hid (hbx _ HBB.out)
  have HS2 := Lib.hid hs3
  rw [HP.out] at b0
  clear hb hd2 hd3 hbx hs3 c0 c1 c2 c3 f0 f1 f2 f3 d0 d1 d2 d3 HTOP
  go_wp2_with fail
  go_ret
  exact ⟨rfl, HB2.out, _, _, HD2.out⟩
set_option maxHeartbeats 8000000 in
theorem blk_11 (n : Int) (t : ByteArray) (p : Option Addr) (l c : Nat) (h : DcM B g w s vb vo) (hp : s.para = false) {ini : List Dl} {x : Dl} (e : s.op = ini ++ [x]) (hx : x.tab = false) (hN : x.items ≤ 100000) :
    Calls Tryz.prog 70 #[.pointer (some ⟨g, 0, none⟩), opB 11 n t p l c] w (DoIs B g true { s with op := ini ++ [{ x with items := x.items + 1 }] } w) := by
  obtain ⟨gl, cl, rfl, hcap, hcm⟩ := op_cap h.op e
  obtain ⟨t1, t2, t3⟩ := op_some e
  have HP := Lib.hid hp
  obtain ⟨h1, h2, h3, z0, hB⟩ := opA h 11 n t p l c
  obtain ⟨⟨c0, c1, c2, c3⟩, f0, f1, f2, f3⟩ := h1.facts
  obtain ⟨⟨d0, d1, d2, d3⟩, _⟩ := h.facts
  have HD := Lib.hid h1
  have HB := Lib.hid h2
  have HS := Lib.hid h3
  have HTOP := Lib.hid (top_ref s vb _ g _ h1.is)
  unfold opB
  unfold opO at c0 c1 c2 c3 f0 f1 f2 f3 z0 HD HB HS HTOP
  rw [hp] at c0 d0
  rw [t1, t2] at HTOP
  obtain ⟨xt, xi, xw, xr, xc⟩ := x
  unfold dlVal at HTOP
  obtain ⟨m, hm⟩ : ∃ m, ini.length = m := ⟨_, rfl⟩
  have HM := Lib.hid hm
  have HE := Lib.hid e
  rw [hm] at c2 d2 HD hcap
  unfold maxLen at hcm
  have m62 : m + 1 ≤ 9223372036854775807 := by omega
  have e1' : wrap64 (((m + 1 : Nat) : Int) - 1) = (m : Int) := by unfold wrap64; omega
  have e2' : ((m + 1 : Nat) : Int) - 1 = (m : Int) := by omega
  have hlast : m < m + 1 := by omega
  have hlast2 : (m : Int) < ((m + 1 : Nat) : Int) := by omega
  dsimp only at hx
  dsimp only at hN
  subst hx
  clear h h1 h2 h3 hB hp hm t1 t2 t3 e
  go_enter Tryz.func70, Tryz.ntmps70
  go_wp2_with fail
  refine HTOP.out.mono ?_
  rintro e w2 ⟨rfl, hb⟩
  have hd2 := HD.out.below hb
  have HBB := Lib.hid (HB.out.trans (hb.mono HS.out))
  obtain ⟨hd3, hbx, hs3, x0, x1, x2, x3, x4⟩ := lvA hd2 false xi xw xr xc
  have zz := (((Below.refl w2.heap.size w2).alloc (Nat.le_refl _) (.cells #[.bool false, .int .i64 (xi : Nat), .int .i64 (xw : Nat), .int .i64 (xr : Nat), .int .i64 (xc : Nat)] 176)).cell (p := ⟨w.heap.size, 0, none⟩) (Nat.lt_of_lt_of_le (by simp) hb.size)).trans ((hb.cell (p := ⟨w.heap.size, 0, none⟩) (by simp)).trans z0)
  obtain ⟨⟨b0, b1, b2, b3⟩, g0, g1, g2, g3⟩ := hd3.facts
  have HD2 := Lib.hid hd3
  have HB2 := Lib.hid (hbx _ HBB.out)
  have HS2 := Lib.hid hs3
  rw [HP.out] at b0
  clear hb hd2 hd3 hbx hs3 c0 c1 c2 c3 f0 f1 f2 f3 d0 d1 d2 d3 HTOP
  have hrow := HD2.out.op
  rw [show s.op.length = m + 1 by rw [HE.out]; simp [HM.out]] at hrow
  have hat := fun (k : Nat) (u : Value) (hk : (dlRow ⟨false, xi, xw, xr, xc⟩)[k]? = some u) => (World.ownsRow.cellAt hrow (m * 5 + k) (by
    have hk5 : k < 5 := by
      rcases Nat.lt_or_ge k 5 with h | h
      · exact h
      · rw [List.getElem?_eq_none (by simpa [dlRow] using h)] at hk; cases hk
    omega)).trans (dlsV_get s.op m k (by rw [HE.out]; simp [HM.out]) u (by
    have e5 : s.op[m]'(by rw [HE.out]; simp [HM.out]) = ⟨false, xi, xw, xr, xc⟩ := by
      simp only [HE.out]
      rw [List.getElem_append_right (by rw [HM.out]; exact Nat.le_refl _)]
      simp [HM.out]
    rw [e5]; exact hk))
  have hfr := fun k : Nat => World.ownsRow.frozenAt hrow (m * 5 + k)
  have y0 := hat 1 _ rfl
  have y1 := hfr 1
  have hset := HD2.out.setLv (x' := ⟨false, xi + 1, xw, xr, xc⟩) (j := 1) (u := .int .i64 ((xi : Nat) + 1 : Nat)) HE.out (by omega) rfl
  rw [HM.out] at hset
  have HG := Lib.hid (own_base HD2.out.op rfl).1
  have HB3 := Lib.hid (HB2.out.setCell (p := ⟨gl, m * 5 + 1, none⟩) HG.out (.int .i64 ((xi : Nat) + 1 : Nat)))
  have v1 : wrap64 ((xi : Int) + 1) = ((xi + 1 : Nat) : Int) := by unfold wrap64; omega
  have HD4 := Lib.hid hset
  clear hrow hat hfr hset
  go_wp2_with fail
  go_ret
  exact ⟨rfl, HB3.out, _, _, HD4.out⟩
end
end Go.Proofs.YtjohhahfpgfjdaaGreatDoor.Ir
