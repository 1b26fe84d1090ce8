/- Layer 11: the document's checker: lists, tables, their ends. -/
import Derived.Test.YtjohhahfpgfjdaaGreatDoorKQv
namespace Go.Proofs.YtjohhahfpgfjdaaGreatDoor.Ir
open Go.RowKit Go.Maps Go.Proofs.YtjohhahfpgfjdaaGreatDoor
set_option linter.unusedVariables false
set_option linter.unusedSimpArgs false
set_option maxRecDepth 100000
section
variable {B g : Nat} {w : World} {s : Dc} {vb vo : Value}
set_option maxHeartbeats 8000000 in
theorem blk_10_none (n : Int) (t : ByteArray) (p : Option Addr) (l c : Nat) (h : DcM B g w s vb vo) (hp : s.para = false) (he : s.op = []) :
    Calls Tryz.prog 70 #[.pointer (some ⟨g, 0, none⟩), opB 10 n t p l c] w (DoIs B g true { s with op := s.op ++ [dl0] } w) := by
  have HP := Lib.hid hp
  obtain ⟨pl, cl, rfl⟩ := lenL h.op
  have hz : s.op.length = 0 := by rw [he]; rfl
  rw [hz] at h
  obtain ⟨h1, h2, h3, z0, hB⟩ := opA h 10 n t p l c
  obtain ⟨⟨c0, c1, c2, c3⟩, f0, f1, f2, f3⟩ := h1.facts
  obtain ⟨⟨d0, d1, d2, d3⟩, _⟩ := h.facts
  have HD := Lib.hid h1
  have HB := Lib.hid h2
  have HS := Lib.hid h3
  have HTOP := Lib.hid (top_ref s vb _ g _ h1.is)
  unfold opB
  unfold opO at c0 c1 c2 c3 f0 f1 f2 f3 z0 HD HB HS HTOP
  rw [hp] at c0 d0
  rw [he, show ((([] : List Dl).getLast?).getD dl0) = dl0 from rfl, show (!([] : List Dl).isEmpty) = false from rfl] at HTOP
  unfold dlVal dl0 at HTOP
  clear h h1 h2 h3 hB hp hz
  go_enter Tryz.func70, Tryz.ntmps70
  go_wp2_with fail
  refine HTOP.out.mono ?_
  rintro e w2 ⟨rfl, hb⟩
  have hd2 := HD.out.below hb
  have HBB := Lib.hid (HB.out.trans (hb.mono HS.out))
  obtain ⟨hd3, hbx, hs3, x0, x1, x2, x3, x4⟩ := lvA0 hd2
  have zz := (((Below.refl w2.heap.size w2).alloc (Nat.le_refl _) (.cells #[.bool false, .int .i64 0, .int .i64 0, .int .i64 0, .int .i64 0] 176)).cell (p := ⟨w.heap.size, 0, none⟩) (Nat.lt_of_lt_of_le (by simp) hb.size)).trans ((hb.cell (p := ⟨w.heap.size, 0, none⟩) (by simp)).trans z0)
  obtain ⟨⟨b0, b1, b2, b3⟩, g0, g1, g2, g3⟩ := hd3.facts
  obtain ⟨⟨a0, a1, a2, a3⟩, _⟩ := hd2.facts
  have HD2 := Lib.hid hd3
  have HB2 := Lib.hid (hbx _ HBB.out)
  have HS2 := Lib.hid hs3
  rw [HP.out] at b0 a0
  clear hb hd2 hd3 hbx hs3 c0 c1 c2 c3 f0 f1 f2 f3 d0 d1 d2 d3 HTOP
  have HLN := Lib.hid (show s.op.length = 0 by rw [he]; rfl)
  obtain ⟨i0, hi0, hz0, hz1, hz2⟩ := info_parts infoLq
  have L1 := Lib.hid (show 0 + 1 ≤ maxLen by unfold maxLen; omega)
  have L2 := Lib.hid (show (0 + 1) * 40 ≤ 140737488355328 by omega)
  have HD3 := Lib.hid (HD2.out.below ((Below.refl _ _).alloc (Nat.le_refl _) (.cells #[.bool false, .int .i64 0, .int .i64 0, .int .i64 0, .int .i64 0] 176)))
  have HB3 := Lib.hid (HB2.out.alloc HS2.out (.cells #[.bool false, .int .i64 0, .int .i64 0, .int .i64 0, .int .i64 0] 176))
  have HS3 := Lib.hid (Nat.le_trans HS2.out (show (w2.alloc (.cells #[.bool false, .int .i64 0, .int .i64 0, .int .i64 0, .int .i64 0] 176)).heap.size ≤ ((w2.alloc (.cells #[.bool false, .int .i64 0, .int .i64 0, .int .i64 0, .int .i64 0] 176)).alloc (.cells #[.bool false, .int .i64 0, .int .i64 0, .int .i64 0, .int .i64 0] 176)).heap.size by simp))
  have hop3 := HD3.out.op
  rw [HLN.out] at hop3
  have HR3 := Lib.hid hop3
  clear hop3
  go_wp2_with (at_builtin; go_loud (refine wpList_append_own _ rfl _ _ 101 rfl B 176 i0 _ 5 40 Tryz.underlying101 hi0 hz0 hz1 hz2 rfl (by decide) _ _ _ rfl HR3.out _ 1 1 [.bool false, .int .i64 0, .int .i64 0, .int .i64 0, .int .i64 0] rfl rfl (cells_newQ (by simp)) (fun u hu => by simp at hu; rcases hu with rfl | rfl | rfl | rfl | rfl <;> rfl) L1.out L2.out HS3.out ?_); intro v6 w6 hown6 hgrow6 _; obtain ⟨p6, c6, rfl⟩ := lenL hown6; go_loud (have HD6 := Lib.hid (HD3.out.pushOp (x := dl0) hgrow6 (by rw [HLN.out]; exact hown6))); go_loud (have HB6 := Lib.hid (HB3.out.grown hgrow6 HS3.out (fun r e => (own_base HR3.out e).1))); go_loud (obtain ⟨⟨k0, k1, k2, k3⟩, k4, k5⟩ := DcM.facts2 (HD3.out.grownO hgrow6).1); have HG := Lib.hid HD3.out.gB; clear hown6 hgrow6)
  go_wp2_with fail
  go_ret
  exact ⟨rfl, HB6.out.setCell (p := ⟨g, 2, none⟩) HG.out _, _, _, HD6.out⟩
set_option maxHeartbeats 8000000 in
theorem blk_10_tab (n : Int) (t : ByteArray) (p : Option Addr) (l c : Nat) (h : DcM B g w s vb vo) (hp : s.para = false) {ini : List Dl} {x : Dl} (e : s.op = ini ++ [x]) (hx : x.tab = true) :
    Calls Tryz.prog 70 #[.pointer (some ⟨g, 0, none⟩), opB 10 n t p l c] w (DoIs B g false s w) := by
  obtain ⟨gl, cl, rfl, hcap, hcm⟩ := op_cap h.op e
  obtain ⟨t1, t2, t3⟩ := op_some e
  have HP := Lib.hid hp
  obtain ⟨h1, h2, h3, z0, hB⟩ := opA h 10 n t p l c
  obtain ⟨⟨c0, c1, c2, c3⟩, f0, f1, f2, f3⟩ := h1.facts
  obtain ⟨⟨d0, d1, d2, d3⟩, _⟩ := h.facts
  have HD := Lib.hid h1
  have HB := Lib.hid h2
  have HS := Lib.hid h3
  have HTOP := Lib.hid (top_ref s vb _ g _ h1.is)
  unfold opB
  unfold opO at c0 c1 c2 c3 f0 f1 f2 f3 z0 HD HB HS HTOP
  rw [hp] at c0 d0
  rw [t1, t2] at HTOP
  obtain ⟨xt, xi, xw, xr, xc⟩ := x
  unfold dlVal at HTOP
  obtain ⟨m, hm⟩ : ∃ m, ini.length = m := ⟨_, rfl⟩
  have HM := Lib.hid hm
  have HE := Lib.hid e
  rw [hm] at c2 d2 HD hcap
  unfold maxLen at hcm
  have m62 : m + 1 ≤ 9223372036854775807 := by omega
  have e1' : wrap64 (((m + 1 : Nat) : Int) - 1) = (m : Int) := by unfold wrap64; omega
  have e2' : ((m + 1 : Nat) : Int) - 1 = (m : Int) := by omega
  have hlast : m < m + 1 := by omega
  have hlast2 : (m : Int) < ((m + 1 : Nat) : Int) := by omega
  dsimp only at hx
  subst hx
  clear h h1 h2 h3 hB hp hm t1 t2 t3 e
  go_enter Tryz.func70, Tryz.ntmps70
  go_wp2_with fail
  refine HTOP.out.mono ?_
  rintro e w2 ⟨rfl, hb⟩
  have hd2 := HD.out.below hb
  have HBB := Lib.hid (HB.out.trans (hb.mono HS.out))
  obtain ⟨hd3, hbx, hs3, x0, x1, x2, x3, x4⟩ := lvA hd2 true xi xw xr xc
  have zz := (((Below.refl w2.heap.size w2).alloc (Nat.le_refl _) (.cells #[.bool true, .int .i64 (xi : Nat), .int .i64 (xw : Nat), .int .i64 (xr : Nat), .int .i64 (xc : Nat)] 176)).cell (p := ⟨w.heap.size, 0, none⟩) (Nat.lt_of_lt_of_le (by simp) hb.size)).trans ((hb.cell (p := ⟨w.heap.size, 0, none⟩) (by simp)).trans z0)
  obtain ⟨⟨b0, b1, b2, b3⟩, g0, g1, g2, g3⟩ := hd3.facts
  have HD2 := Lib.hid hd3
  have HB2 := Lib.hid (hbx _ HBB.out)
  have HS2 := Lib.hid hs3
  rw [HP.out] at b0
  clear hb hd2 hd3 hbx hs3 c0 c1 c2 c3 f0 f1 f2 f3 d0 d1 d2 d3 HTOP
  go_wp2_with fail
  go_ret
  exact ⟨rfl, HB2.out, _, _, HD2.out⟩
set_option maxHeartbeats 8000000 in
theorem blk_10_none2 (n : Int) (t : ByteArray) (p : Option Addr) (l c : Nat) (h : DcM B g w s vb vo) (hp : s.para = false) {ini : List Dl} {x : Dl} (e : s.op = ini ++ [x]) (hx : x.tab = false ∧ x.items = 0) :
    Calls Tryz.prog 70 #[.pointer (some ⟨g, 0, none⟩), opB 10 n t p l c] w (DoIs B g false s w) := by
  obtain ⟨gl, cl, rfl, hcap, hcm⟩ := op_cap h.op e
  obtain ⟨t1, t2, t3⟩ := op_some e
  have HP := Lib.hid hp
  obtain ⟨h1, h2, h3, z0, hB⟩ := opA h 10 n t p l c
  obtain ⟨⟨c0, c1, c2, c3⟩, f0, f1, f2, f3⟩ := h1.facts
  obtain ⟨⟨d0, d1, d2, d3⟩, _⟩ := h.facts
  have HD := Lib.hid h1
  have HB := Lib.hid h2
  have HS := Lib.hid h3
  have HTOP := Lib.hid (top_ref s vb _ g _ h1.is)
  unfold opB
  unfold opO at c0 c1 c2 c3 f0 f1 f2 f3 z0 HD HB HS HTOP
  rw [hp] at c0 d0
  rw [t1, t2] at HTOP
  obtain ⟨xt, xi, xw, xr, xc⟩ := x
  unfold dlVal at HTOP
  obtain ⟨m, hm⟩ : ∃ m, ini.length = m := ⟨_, rfl⟩
  have HM := Lib.hid hm
  have HE := Lib.hid e
  rw [hm] at c2 d2 HD hcap
  unfold maxLen at hcm
  have m62 : m + 1 ≤ 9223372036854775807 := by omega
  have e1' : wrap64 (((m + 1 : Nat) : Int) - 1) = (m : Int) := by unfold wrap64; omega
  have e2' : ((m + 1 : Nat) : Int) - 1 = (m : Int) := by omega
  have hlast : m < m + 1 := by omega
  have hlast2 : (m : Int) < ((m + 1 : Nat) : Int) := by omega
  dsimp only at hx
  obtain ⟨rfl, hx1⟩ := hx
  have n1 : (((xi : Nat) : Int) == 0) = true := by rw [hx1]; rfl
  clear hx1
  clear h h1 h2 h3 hB hp hm t1 t2 t3 e
  go_enter Tryz.func70, Tryz.ntmps70
  go_wp2_with fail
  refine HTOP.out.mono ?_
  rintro e w2 ⟨rfl, hb⟩
  have hd2 := HD.out.below hb
  have HBB := Lib.hid (HB.out.trans (hb.mono HS.out))
  obtain ⟨hd3, hbx, hs3, x0, x1, x2, x3, x4⟩ := lvA hd2 false xi xw xr xc
  have zz := (((Below.refl w2.heap.size w2).alloc (Nat.le_refl _) (.cells #[.bool false, .int .i64 (xi : Nat), .int .i64 (xw : Nat), .int .i64 (xr : Nat), .int .i64 (xc : Nat)] 176)).cell (p := ⟨w.heap.size, 0, none⟩) (Nat.lt_of_lt_of_le (by simp) hb.size)).trans ((hb.cell (p := ⟨w.heap.size, 0, none⟩) (by simp)).trans z0)
  obtain ⟨⟨b0, b1, b2, b3⟩, g0, g1, g2, g3⟩ := hd3.facts
  have HD2 := Lib.hid hd3
  have HB2 := Lib.hid (hbx _ HBB.out)
  have HS2 := Lib.hid hs3
  rw [HP.out] at b0
  clear hb hd2 hd3 hbx hs3 c0 c1 c2 c3 f0 f1 f2 f3 d0 d1 d2 d3 HTOP
  go_wp2_with fail
  go_ret
  exact ⟨rfl, HB2.out, _, _, HD2.out⟩
set_option maxHeartbeats 8000000 in
theorem blk_10_deep (n : Int) (t : ByteArray) (p : Option Addr) (l c : Nat) (h : DcM B g w s vb vo) (hp : s.para = false) {ini : List Dl} {x : Dl} (e : s.op = ini ++ [x]) (hx : x.tab = false ∧ 0 < x.items) (h8 : 8 ≤ ini.length + 1) :
    Calls Tryz.prog 70 #[.pointer (some ⟨g, 0, none⟩), opB 10 n t p l c] w (DoIs B g false s w) := by
  obtain ⟨gl, cl, rfl, hcap, hcm⟩ := op_cap h.op e
  obtain ⟨t1, t2, t3⟩ := op_some e
  have HP := Lib.hid hp
  obtain ⟨h1, h2, h3, z0, hB⟩ := opA h 10 n t p l c
  obtain ⟨⟨c0, c1, c2, c3⟩, f0, f1, f2, f3⟩ := h1.facts
  obtain ⟨⟨d0, d1, d2, d3⟩, _⟩ := h.facts
  have HD := Lib.hid h1
  have HB := Lib.hid h2
  have HS := Lib.hid h3
  have HTOP := Lib.hid (top_ref s vb _ g _ h1.is)
  unfold opB
  unfold opO at c0 c1 c2 c3 f0 f1 f2 f3 z0 HD HB HS HTOP
  rw [hp] at c0 d0
  rw [t1, t2] at HTOP
  obtain ⟨xt, xi, xw, xr, xc⟩ := x
  unfold dlVal at HTOP
  obtain ⟨m, hm⟩ : ∃ m, ini.length = m := ⟨_, rfl⟩
  have HM := Lib.hid hm
  have HE := Lib.hid e
  rw [hm] at c2 d2 HD hcap
  unfold maxLen at hcm
  have m62 : m + 1 ≤ 9223372036854775807 := by omega
  have e1' : wrap64 (((m + 1 : Nat) : Int) - 1) = (m : Int) := by unfold wrap64; omega
  have e2' : ((m + 1 : Nat) : Int) - 1 = (m : Int) := by omega
  have hlast : m < m + 1 := by omega
  have hlast2 : (m : Int) < ((m + 1 : Nat) : Int) := by omega
  dsimp only at hx
  obtain ⟨rfl, hx1⟩ := hx
  have n1 : (((xi : Nat) : Int) == 0) = false := by simp; omega
  have n2 : (8 : Int) ≤ ((m + 1 : Nat) : Int) := by omega
  clear hx1 h8
  clear h h1 h2 h3 hB hp hm t1 t2 t3 e
  go_enter Tryz.func70, Tryz.ntmps70
  go_wp2_with fail
  refine HTOP.out.mono ?_
  rintro e w2 ⟨rfl, hb⟩
  have hd2 := HD.out.below hb
  have HBB := Lib.hid (HB.out.trans (hb.mono HS.out))
  obtain ⟨hd3, hbx, hs3, x0, x1, x2, x3, x4⟩ := lvA hd2 false xi xw xr xc
  have zz := (((Below.refl w2.heap.size w2).alloc (Nat.le_refl _) (.cells #[.bool false, .int .i64 (xi : Nat), .int .i64 (xw : Nat), .int .i64 (xr : Nat), .int .i64 (xc : Nat)] 176)).cell (p := ⟨w.heap.size, 0, none⟩) (Nat.lt_of_lt_of_le (by simp) hb.size)).trans ((hb.cell (p := ⟨w.heap.size, 0, none⟩) (by simp)).trans z0)
  obtain ⟨⟨b0, b1, b2, b3⟩, g0, g1, g2, g3⟩ := hd3.facts
  have HD2 := Lib.hid hd3
  have HB2 := Lib.hid (hbx _ HBB.out)
  have HS2 := Lib.hid hs3
  rw [HP.out] at b0
  clear hb hd2 hd3 hbx hs3 c0 c1 c2 c3 f0 f1 f2 f3 d0 d1 d2 d3 HTOP
  go_wp2_with fail
  go_ret
  exact ⟨rfl, HB2.out, _, _, HD2.out⟩
set_option maxHeartbeats 8000000 in
theorem blk_10 (n : Int) (t : ByteArray) (p : Option Addr) (l c : Nat) (h : DcM B g w s vb vo) (hp : s.para = false) {ini : List Dl} {x : Dl} (e : s.op = ini ++ [x]) (hx : x.tab = false ∧ 0 < x.items) (h8 : ini.length + 1 < 8) :
    Calls Tryz.prog 70 #[.pointer (some ⟨g, 0, none⟩), opB 10 n t p l c] w (DoIs B g true { s with op := s.op ++ [dl0] } w) := by
  obtain ⟨gl, cl, rfl, hcap, hcm⟩ := op_cap h.op e
  obtain ⟨t1, t2, t3⟩ := op_some e
  have HP := Lib.hid hp
  obtain ⟨h1, h2, h3, z0, hB⟩ := opA h 10 n t p l c
  obtain ⟨⟨c0, c1, c2, c3⟩, f0, f1, f2, f3⟩ := h1.facts
  obtain ⟨⟨d0, d1, d2, d3⟩, _⟩ := h.facts
  have HD := Lib.hid h1
  have HB := Lib.hid h2
  have HS := Lib.hid h3
  have HTOP := Lib.hid (top_ref s vb _ g _ h1.is)
  unfold opB
  unfold opO at c0 c1 c2 c3 f0 f1 f2 f3 z0 HD HB HS HTOP
  rw [hp] at c0 d0
  rw [t1, t2] at HTOP
  obtain ⟨xt, xi, xw, xr, xc⟩ := x
  unfold dlVal at HTOP
  obtain ⟨m, hm⟩ : ∃ m, ini.length = m := ⟨_, rfl⟩
  have HM := Lib.hid hm
  have HE := Lib.hid e
  rw [hm] at c2 d2 HD hcap
  unfold maxLen at hcm
  have m62 : m + 1 ≤ 9223372036854775807 := by omega
  have e1' : wrap64 (((m + 1 : Nat) : Int) - 1) = (m : Int) := by unfold wrap64; omega
  have e2' : ((m + 1 : Nat) : Int) - 1 = (m : Int) := by omega
  have hlast : m < m + 1 := by omega
  have hlast2 : (m : Int) < ((m + 1 : Nat) : Int) := by omega
  dsimp only at hx
  obtain ⟨rfl, hx1⟩ := hx
  have n1 : (((xi : Nat) : Int) == 0) = false := by simp; omega
  have n2 : ¬ (8 : Int) ≤ ((m + 1 : Nat) : Int) := by omega
  have m8 : m < 8 := by omega
  clear hx1 h8
  clear h h1 h2 h3 hB hp hm t1 t2 t3 e
  go_enter Tryz.func70, Tryz.ntmps70
  go_wp2_with fail
  refine HTOP.out.mono ?_
  rintro e w2 ⟨rfl, hb⟩
  have hd2 := HD.out.below hb
  have HBB := Lib.hid (HB.out.trans (hb.mono HS.out))
  obtain ⟨hd3, hbx, hs3, x0, x1, x2, x3, x4⟩ := lvA hd2 false xi xw xr xc
  have zz := (((Below.refl w2.heap.size w2).alloc (Nat.le_refl _) (.cells #[.bool false, .int .i64 (xi : Nat), .int .i64 (xw : Nat), .int .i64 (xr : Nat), .int .i64 (xc : Nat)] 176)).cell (p := ⟨w.heap.size, 0, none⟩) (Nat.lt_of_lt_of_le (by simp) hb.size)).trans ((hb.cell (p := ⟨w.heap.size, 0, none⟩) (by simp)).trans z0)
  obtain ⟨⟨b0, b1, b2, b3⟩, g0, g1, g2, g3⟩ := hd3.facts
  have HD2 := Lib.hid hd3
  have HB2 := Lib.hid (hbx _ HBB.out)
  have HS2 := Lib.hid hs3
  rw [HP.out] at b0
  clear hb hd2 hd3 hbx hs3 c0 c1 c2 c3 f0 f1 f2 f3 d0 d1 d2 d3 HTOP
  have HLN := Lib.hid (show s.op.length = m + 1 by rw [HE.out]; simp [HM.out])
  obtain ⟨i0, hi0, hz0, hz1, hz2⟩ := info_parts infoLq
  have L1 := Lib.hid (show (m + 1) + 1 ≤ maxLen by unfold maxLen; omega)
  have L2 := Lib.hid (show ((m + 1) + 1) * 40 ≤ 140737488355328 by omega)
  have HD3 := Lib.hid (HD2.out.below ((Below.refl _ _).alloc (Nat.le_refl _) (.cells #[.bool false, .int .i64 0, .int .i64 0, .int .i64 0, .int .i64 0] 176)))
  have HB3 := Lib.hid (HB2.out.alloc HS2.out (.cells #[.bool false, .int .i64 0, .int .i64 0, .int .i64 0, .int .i64 0] 176))
  have HS3 := Lib.hid (Nat.le_trans HS2.out (show (w2.alloc (.cells #[.bool false, .int .i64 (xi : Nat), .int .i64 (xw : Nat), .int .i64 (xr : Nat), .int .i64 (xc : Nat)] 176)).heap.size ≤ ((w2.alloc (.cells #[.bool false, .int .i64 (xi : Nat), .int .i64 (xw : Nat), .int .i64 (xr : Nat), .int .i64 (xc : Nat)] 176)).alloc (.cells #[.bool false, .int .i64 0, .int .i64 0, .int .i64 0, .int .i64 0] 176)).heap.size by simp))
  have hop3 := HD3.out.op
  rw [HLN.out] at hop3
  have HR3 := Lib.hid hop3
  clear hop3
  go_wp2_with (at_builtin; go_loud (refine wpList_append_own _ rfl _ _ 101 rfl B 176 i0 _ 5 40 Tryz.underlying101 hi0 hz0 hz1 hz2 rfl (by decide) _ _ _ rfl HR3.out _ 1 1 [.bool false, .int .i64 0, .int .i64 0, .int .i64 0, .int .i64 0] rfl rfl (cells_newQ (by simp)) (fun u hu => by simp at hu; rcases hu with rfl | rfl | rfl | rfl | rfl <;> rfl) L1.out L2.out HS3.out ?_); intro v6 w6 hown6 hgrow6 _; obtain ⟨p6, c6, rfl⟩ := lenL hown6; go_loud (have HD6 := Lib.hid (HD3.out.pushOp (x := dl0) hgrow6 (by rw [HLN.out]; exact hown6))); go_loud (have HB6 := Lib.hid (HB3.out.grown hgrow6 HS3.out (fun r e => (own_base HR3.out e).1))); go_loud (obtain ⟨⟨k0, k1, k2, k3⟩, k4, k5⟩ := DcM.facts2 (HD3.out.grownO hgrow6).1); have HG := Lib.hid HD3.out.gB; clear hown6 hgrow6)
  go_wp2_with fail
  go_ret
  exact ⟨rfl, HB6.out.setCell (p := ⟨g, 2, none⟩) HG.out _, _, _, HD6.out⟩
set_option maxHeartbeats 8000000 in
theorem blk_12_in (n : Int) (t : ByteArray) (p : Option Addr) (l c : Nat) (h : DcM B g w s vb vo) (hp : s.para = false) {ini : List Dl} {x : Dl} (e : s.op = ini ++ [x]) :
    Calls Tryz.prog 70 #[.pointer (some ⟨g, 0, none⟩), opB 12 n t p l c] w (DoIs B g false s w) := by
  obtain ⟨gl, cl, rfl, hcap, hcm⟩ := op_cap h.op e
  obtain ⟨t1, t2, t3⟩ := op_some e
  have HP := Lib.hid hp
  obtain ⟨h1, h2, h3, z0, hB⟩ := opA h 12 n t p l c
  obtain ⟨⟨c0, c1, c2, c3⟩, f0, f1, f2, f3⟩ := h1.facts
  obtain ⟨⟨d0, d1, d2, d3⟩, _⟩ := h.facts
  have HD := Lib.hid h1
  have HB := Lib.hid h2
  have HS := Lib.hid h3
  have HTOP := Lib.hid (top_ref s vb _ g _ h1.is)
  unfold opB
  unfold opO at c0 c1 c2 c3 f0 f1 f2 f3 z0 HD HB HS HTOP
  rw [hp] at c0 d0
  rw [t1, t2] at HTOP
  obtain ⟨xt, xi, xw, xr, xc⟩ := x
  unfold dlVal at HTOP
  obtain ⟨m, hm⟩ : ∃ m, ini.length = m := ⟨_, rfl⟩
  have HM := Lib.hid hm
  have HE := Lib.hid e
  rw [hm] at c2 d2 HD hcap
  unfold maxLen at hcm
  have m62 : m + 1 ≤ 9223372036854775807 := by omega
  have e1' : wrap64 (((m + 1 : Nat) : Int) - 1) = (m : Int) := by unfold wrap64; omega
  have e2' : ((m + 1 : Nat) : Int) - 1 = (m : Int) := by omega
  have hlast : m < m + 1 := by omega
  have hlast2 : (m : Int) < ((m + 1 : Nat) : Int) := by omega
  clear h h1 h2 h3 hB hp hm t1 t2 t3 e
  go_enter Tryz.func70, Tryz.ntmps70
  go_wp2_with fail
  refine HTOP.out.mono ?_
  rintro e w2 ⟨rfl, hb⟩
  have hd2 := HD.out.below hb
  have HBB := Lib.hid (HB.out.trans (hb.mono HS.out))
  obtain ⟨hd3, hbx, hs3, x0, x1, x2, x3, x4⟩ := lvA hd2 xt xi xw xr xc
  have zz := (((Below.refl w2.heap.size w2).alloc (Nat.le_refl _) (.cells #[.bool xt, .int .i64 (xi : Nat), .int .i64 (xw : Nat), .int .i64 (xr : Nat), .int .i64 (xc : Nat)] 176)).cell (p := ⟨w.heap.size, 0, none⟩) (Nat.lt_of_lt_of_le (by simp) hb.size)).trans ((hb.cell (p := ⟨w.heap.size, 0, none⟩) (by simp)).trans z0)
  obtain ⟨⟨b0, b1, b2, b3⟩, g0, g1, g2, g3⟩ := hd3.facts
  have HD2 := Lib.hid hd3
  have HB2 := Lib.hid (hbx _ HBB.out)
  have HS2 := Lib.hid hs3
  rw [HP.out] at b0
  clear hb hd2 hd3 hbx hs3 c0 c1 c2 c3 f0 f1 f2 f3 d0 d1 d2 d3 HTOP
  go_wp2_with fail
  go_ret
  exact ⟨rfl, HB2.out, _, _, HD2.out⟩
set_option maxHeartbeats 8000000 in
theorem blk_12 (n : Int) (t : ByteArray) (p : Option Addr) (l c : Nat) (h : DcM B g w s vb vo) (hp : s.para = false) (he : s.op = []) :
    Calls Tryz.prog 70 #[.pointer (some ⟨g, 0, none⟩), opB 12 n t p l c] w (DoIs B g true { s with op := s.op ++ [⟨true, 0, l, 0, 0⟩] } w) := by
  have HP := Lib.hid hp
  have z3 : (w.alloc (.cells #[.int .i64 12, .int .i64 n, .string t, .slice p l c] 53)).cell? ⟨w.heap.size, 3, none⟩ = some (.slice p l c) := by rw [cell_of_row _ _ _ _ _ _ (heap_alloc_new w _)]; rfl
  obtain ⟨pl, cl, rfl⟩ := lenL h.op
  have hz : s.op.length = 0 := by rw [he]; rfl
  rw [hz] at h
  obtain ⟨h1, h2, h3, z0, hB⟩ := opA h 12 n t p l c
  obtain ⟨⟨c0, c1, c2, c3⟩, f0, f1, f2, f3⟩ := h1.facts
  obtain ⟨⟨d0, d1, d2, d3⟩, _⟩ := h.facts
  have HD := Lib.hid h1
  have HB := Lib.hid h2
  have HS := Lib.hid h3
  have HTOP := Lib.hid (top_ref s vb _ g _ h1.is)
  unfold opB
  unfold opO at c0 c1 c2 c3 f0 f1 f2 f3 z0 HD HB HS HTOP
  rw [hp] at c0 d0
  rw [he, show ((([] : List Dl).getLast?).getD dl0) = dl0 from rfl, show (!([] : List Dl).isEmpty) = false from rfl] at HTOP
  unfold dlVal dl0 at HTOP
  clear h h1 h2 h3 hB hp hz
  go_enter Tryz.func70, Tryz.ntmps70
  go_wp2_with fail
  refine HTOP.out.mono ?_
  rintro e w2 ⟨rfl, hb⟩
  have hd2 := HD.out.below hb
  have HBB := Lib.hid (HB.out.trans (hb.mono HS.out))
  obtain ⟨hd3, hbx, hs3, x0, x1, x2, x3, x4⟩ := lvA0 hd2
  have zz := (((Below.refl w2.heap.size w2).alloc (Nat.le_refl _) (.cells #[.bool false, .int .i64 0, .int .i64 0, .int .i64 0, .int .i64 0] 176)).cell (p := ⟨w.heap.size, 0, none⟩) (Nat.lt_of_lt_of_le (by simp) hb.size)).trans ((hb.cell (p := ⟨w.heap.size, 0, none⟩) (by simp)).trans z0)
  have zz3 := (((Below.refl w2.heap.size w2).alloc (Nat.le_refl _) (.cells #[.bool false, .int .i64 0, .int .i64 0, .int .i64 0, .int .i64 0] 176)).cell (p := ⟨w.heap.size, 3, none⟩) (Nat.lt_of_lt_of_le (by simp) hb.size)).trans ((hb.cell (p := ⟨w.heap.size, 3, none⟩) (by simp)).trans z3)
  obtain ⟨⟨b0, b1, b2, b3⟩, g0, g1, g2, g3⟩ := hd3.facts
  obtain ⟨⟨a0, a1, a2, a3⟩, _⟩ := hd2.facts
  have HD2 := Lib.hid hd3
  have HB2 := Lib.hid (hbx _ HBB.out)
  have HS2 := Lib.hid hs3
  rw [HP.out] at b0 a0
  clear hb hd2 hd3 hbx hs3 c0 c1 c2 c3 f0 f1 f2 f3 d0 d1 d2 d3 HTOP
  have HLN := Lib.hid (show s.op.length = 0 by rw [he]; rfl)
  obtain ⟨i0, hi0, hz0, hz1, hz2⟩ := info_parts infoLq
  have L1 := Lib.hid (show 0 + 1 ≤ maxLen by unfold maxLen; omega)
  have L2 := Lib.hid (show (0 + 1) * 40 ≤ 140737488355328 by omega)
  have hdd : DcM B g ((w2.alloc (.cells #[.bool false, .int .i64 0, .int .i64 0, .int .i64 0, .int .i64 0] 176)).drew) s vb (.slice pl 0 cl) := ⟨HD2.out.row, HD2.out.br, HD2.out.op, HD2.out.gB⟩
  have HD3 := Lib.hid (hdd.below ((Below.refl _ _).alloc (Nat.le_refl _) (.cells #[.bool true, .int .i64 0, .int .i64 (l : Nat), .int .i64 0, .int .i64 0] 176)))
  have HB3 := Lib.hid (HB2.out.drew.alloc (show B ≤ ((w2.alloc (.cells #[.bool false, .int .i64 0, .int .i64 0, .int .i64 0, .int .i64 0] 176)).drew).heap.size from HS2.out) (.cells #[.bool true, .int .i64 0, .int .i64 (l : Nat), .int .i64 0, .int .i64 0] 176))
  have HS3 := Lib.hid (Nat.le_trans HS2.out (show (w2.alloc (.cells #[.bool false, .int .i64 0, .int .i64 0, .int .i64 0, .int .i64 0] 176)).heap.size ≤ (((w2.alloc (.cells #[.bool false, .int .i64 0, .int .i64 0, .int .i64 0, .int .i64 0] 176)).drew).alloc (.cells #[.bool true, .int .i64 0, .int .i64 (l : Nat), .int .i64 0, .int .i64 0] 176)).heap.size by simp))
  have qA : ((w2.alloc (.cells #[.bool false, .int .i64 0, .int .i64 0, .int .i64 0, .int .i64 0] 176)).alloc (.cells #[.bool true, .int .i64 0, .int .i64 (l : Nat), .int .i64 0, .int .i64 0] 176)).cell? ⟨g, 2, none⟩ = some (.slice pl 0 cl) := (HD2.out.below ((Below.refl _ _).alloc (Nat.le_refl _) (.cells #[.bool true, .int .i64 0, .int .i64 (l : Nat), .int .i64 0, .int .i64 0] 176))).facts.1.2.2.1
  have hop3 := HD3.out.op
  rw [HLN.out] at hop3
  have HR3 := Lib.hid hop3
  have mixed : Tryz.prog.follows .mixedOrders = true := by kernel_rfl
  clear hop3 hdd
  go_wp2_with fail
  go_region_law (refine step_append_lies _ rfl (.tmp 125) (.tmp 130) 101 rfl B 176 i0 _ 5 40 Tryz.underlying101 hi0 hz0 hz1 hz2 rfl (by decide) (.slice pl 0 cl) 0 (dlsV s.op) (by simp [Act.eval]) HR3.out ⟨w2.heap.size + 1, 0, none⟩ 1 1 [.bool true, .int .i64 0, .int .i64 (l : Nat), .int .i64 0, .int .i64 0] (by simp [Act.eval]) rfl (cells_newQ (by simp)) (fun u hu => by simp at hu; rcases hu with rfl | rfl | rfl | rfl | rfl <;> rfl) (by decide) L1.out L2.out HS3.out _ rfl ?_; intro g6 c6 w6 hown6 hgrow6 _ _; have HD6 := Lib.hid (HD3.out.pushOp (x := ⟨true, 0, l, 0, 0⟩) hgrow6 (by rw [HLN.out]; exact hown6)); have HB6 := Lib.hid (HB3.out.grown hgrow6 HS3.out (fun r e => (own_base HR3.out e).1)); obtain ⟨⟨k0, k1, k2, k3⟩, k4, k5⟩ := DcM.facts2 (HD3.out.grownO hgrow6).1; have HG := Lib.hid HD3.out.gB; clear hown6 hgrow6)
  all_goals
    go_wp2_with fail
    go_ret
    exact ⟨rfl, HB6.out.setCell (p := ⟨g, 2, none⟩) HG.out _, _, _, HD6.out⟩
set_option maxHeartbeats 8000000 in
theorem blk_13_none (n : Int) (t : ByteArray) (p : Option Addr) (l c : Nat) (h : DcM B g w s vb vo) (hp : s.para = false) (he : s.op = []) :
    Calls Tryz.prog 70 #[.pointer (some ⟨g, 0, none⟩), opB 13 n t p l c] w (DoIs B g false s w) := by
  have HP := Lib.hid hp
  obtain ⟨pl, cl, rfl⟩ := lenL h.op
  have hz : s.op.length = 0 := by rw [he]; rfl
  rw [hz] at h
  obtain ⟨h1, h2, h3, z0, hB⟩ := opA h 13 n t p l c
  obtain ⟨⟨c0, c1, c2, c3⟩, f0, f1, f2, f3⟩ := h1.facts
  obtain ⟨⟨d0, d1, d2, d3⟩, _⟩ := h.facts
  have HD := Lib.hid h1
  have HB := Lib.hid h2
  have HS := Lib.hid h3
  have HTOP := Lib.hid (top_ref s vb _ g _ h1.is)
  unfold opB
  unfold opO at c0 c1 c2 c3 f0 f1 f2 f3 z0 HD HB HS HTOP
  rw [hp] at c0 d0
  rw [he, show ((([] : List Dl).getLast?).getD dl0) = dl0 from rfl, show (!([] : List Dl).isEmpty) = false from rfl] at HTOP
  unfold dlVal dl0 at HTOP
  clear h h1 h2 h3 hB hp hz
  go_enter Tryz.func70, Tryz.ntmps70
  go_wp2_with fail
  refine HTOP.out.mono ?_
  rintro e w2 ⟨rfl, hb⟩
  have hd2 := HD.out.below hb
  have HBB := Lib.hid (HB.out.trans (hb.mono HS.out))
  obtain ⟨hd3, hbx, hs3, x0, x1, x2, x3, x4⟩ := lvA0 hd2
  have zz := (((Below.refl w2.heap.size w2).alloc (Nat.le_refl _) (.cells #[.bool false, .int .i64 0, .int .i64 0, .int .i64 0, .int .i64 0] 176)).cell (p := ⟨w.heap.size, 0, none⟩) (Nat.lt_of_lt_of_le (by simp) hb.size)).trans ((hb.cell (p := ⟨w.heap.size, 0, none⟩) (by simp)).trans z0)
  obtain ⟨⟨b0, b1, b2, b3⟩, g0, g1, g2, g3⟩ := hd3.facts
  obtain ⟨⟨a0, a1, a2, a3⟩, _⟩ := hd2.facts
  have HD2 := Lib.hid hd3
  have HB2 := Lib.hid (hbx _ HBB.out)
  have HS2 := Lib.hid hs3
  rw [HP.out] at b0 a0
  clear hb hd2 hd3 hbx hs3 c0 c1 c2 c3 f0 f1 f2 f3 d0 d1 d2 d3 HTOP
  go_wp2_with fail
  go_ret
  exact ⟨rfl, HB2.out, _, _, HD2.out⟩
set_option maxHeartbeats 8000000 in
theorem blk_14_none (n : Int) (t : ByteArray) (p : Option Addr) (l c : Nat) (h : DcM B g w s vb vo) (hp : s.para = false) (he : s.op = []) :
    Calls Tryz.prog 70 #[.pointer (some ⟨g, 0, none⟩), opB 14 n t p l c] w (DoIs B g false s w) := by
  have HP := Lib.hid hp
  obtain ⟨pl, cl, rfl⟩ := lenL h.op
  have hz : s.op.length = 0 := by rw [he]; rfl
  rw [hz] at h
  obtain ⟨h1, h2, h3, z0, hB⟩ := opA h 14 n t p l c
  obtain ⟨⟨c0, c1, c2, c3⟩, f0, f1, f2, f3⟩ := h1.facts
  obtain ⟨⟨d0, d1, d2, d3⟩, _⟩ := h.facts
  have HD := Lib.hid h1
  have HB := Lib.hid h2
  have HS := Lib.hid h3
  have HTOP := Lib.hid (top_ref s vb _ g _ h1.is)
  unfold opB
  unfold opO at c0 c1 c2 c3 f0 f1 f2 f3 z0 HD HB HS HTOP
  rw [hp] at c0 d0
  rw [he, show ((([] : List Dl).getLast?).getD dl0) = dl0 from rfl, show (!([] : List Dl).isEmpty) = false from rfl] at HTOP
  unfold dlVal dl0 at HTOP
  clear h h1 h2 h3 hB hp hz
  go_enter Tryz.func70, Tryz.ntmps70
  go_wp2_with fail
  refine HTOP.out.mono ?_
  rintro e w2 ⟨rfl, hb⟩
  have hd2 := HD.out.below hb
  have HBB := Lib.hid (HB.out.trans (hb.mono HS.out))
  obtain ⟨hd3, hbx, hs3, x0, x1, x2, x3, x4⟩ := lvA0 hd2
  have zz := (((Below.refl w2.heap.size w2).alloc (Nat.le_refl _) (.cells #[.bool false, .int .i64 0, .int .i64 0, .int .i64 0, .int .i64 0] 176)).cell (p := ⟨w.heap.size, 0, none⟩) (Nat.lt_of_lt_of_le (by simp) hb.size)).trans ((hb.cell (p := ⟨w.heap.size, 0, none⟩) (by simp)).trans z0)
  obtain ⟨⟨b0, b1, b2, b3⟩, g0, g1, g2, g3⟩ := hd3.facts
  obtain ⟨⟨a0, a1, a2, a3⟩, _⟩ := hd2.facts
  have HD2 := Lib.hid hd3
  have HB2 := Lib.hid (hbx _ HBB.out)
  have HS2 := Lib.hid hs3
  rw [HP.out] at b0 a0
  clear hb hd2 hd3 hbx hs3 c0 c1 c2 c3 f0 f1 f2 f3 d0 d1 d2 d3 HTOP
  go_wp2_with fail
  go_ret
  exact ⟨rfl, HB2.out, _, _, HD2.out⟩
set_option maxHeartbeats 8000000 in
theorem blk_13_list (n : Int) (t : ByteArray) (p : Option Addr) (l c : Nat) (h : DcM B g w s vb vo) (hp : s.para = false) {ini : List Dl} {x : Dl} (e : s.op = ini ++ [x]) (hx : x.tab = false) :
    Calls Tryz.prog 70 #[.pointer (some ⟨g, 0, none⟩), opB 13 n t p l c] w (DoIs B g false s w) := by
  obtain ⟨gl, cl, rfl, hcap, hcm⟩ := op_cap h.op e
  obtain ⟨t1, t2, t3⟩ := op_some e
  have HP := Lib.hid hp
  obtain ⟨h1, h2, h3, z0, hB⟩ := opA h 13 n t p l c
  obtain ⟨⟨c0, c1, c2, c3⟩, f0, f1, f2, f3⟩ := h1.facts
  obtain ⟨⟨d0, d1, d2, d3⟩, _⟩ := h.facts
  have HD := Lib.hid h1
  have HB := Lib.hid h2
  have HS := Lib.hid h3
  have HTOP := Lib.hid (top_ref s vb _ g _ h1.is)
  unfold opB
  unfold opO at c0 c1 c2 c3 f0 f1 f2 f3 z0 HD HB HS HTOP
  rw [hp] at c0 d0
  rw [t1, t2] at HTOP
  obtain ⟨xt, xi, xw, xr, xc⟩ := x
  unfold dlVal at HTOP
  obtain ⟨m, hm⟩ : ∃ m, ini.length = m := ⟨_, rfl⟩
  have HM := Lib.hid hm
  have HE := Lib.hid e
  rw [hm] at c2 d2 HD hcap
  unfold maxLen at hcm
  have m62 : m + 1 ≤ 9223372036854775807 := by omega
  have e1' : wrap64 (((m + 1 : Nat) : Int) - 1) = (m : Int) := by unfold wrap64; omega
  have e2' : ((m + 1 : Nat) : Int) - 1 = (m : Int) := by omega
  have hlast : m < m + 1 := by omega
  have hlast2 : (m : Int) < ((m + 1 : Nat) : Int) := by omega
  dsimp only at hx
  subst hx
  clear h h1 h2 h3 hB hp hm t1 t2 t3 e
  go_enter Tryz.func70, Tryz.ntmps70
  go_wp2_with fail
  refine HTOP.out.mono ?_
  rintro e w2 ⟨rfl, hb⟩
  have hd2 := HD.out.below hb
  have HBB := Lib.hid (HB.out.trans (hb.mono HS.out))
  obtain ⟨hd3, hbx, hs3, x0, x1, x2, x3, x4⟩ := lvA hd2 false xi xw xr xc
  have zz := (((Below.refl w2.heap.size w2).alloc (Nat.le_refl _) (.cells #[.bool false, .int .i64 (xi : Nat), .int .i64 (xw : Nat), .int .i64 (xr : Nat), .int .i64 (xc : Nat)] 176)).cell (p := ⟨w.heap.size, 0, none⟩) (Nat.lt_of_lt_of_le (by simp) hb.size)).trans ((hb.cell (p := ⟨w.heap.size, 0, none⟩) (by simp)).trans z0)
  obtain ⟨⟨b0, b1, b2, b3⟩, g0, g1, g2, g3⟩ := hd3.facts
  have HD2 := Lib.hid hd3
  have HB2 := Lib.hid (hbx _ HBB.out)
  have HS2 := Lib.hid hs3
  rw [HP.out] at b0
  clear hb hd2 hd3 hbx hs3 c0 c1 c2 c3 f0 f1 f2 f3 d0 d1 d2 d3 HTOP
  go_wp2_with fail
  go_ret
  exact ⟨rfl, HB2.out, _, _, HD2.out⟩
set_option maxHeartbeats 8000000 in
theorem blk_13_part (n : Int) (t : ByteArray) (p : Option Addr) (l c : Nat) (h : DcM B g w s vb vo) (hp : s.para = false) {ini : List Dl} {x : Dl} (e : s.op = ini ++ [x]) (hx : x.tab = true ∧ fullB x = false) :
    Calls Tryz.prog 70 #[.pointer (some ⟨g, 0, none⟩), opB 13 n t p l c] w (DoIs B g false s w) := by
  obtain ⟨gl, cl, rfl, hcap, hcm⟩ := op_cap h.op e
  obtain ⟨t1, t2, t3⟩ := op_some e
  have HP := Lib.hid hp
  obtain ⟨h1, h2, h3, z0, hB⟩ := opA h 13 n t p l c
  obtain ⟨⟨c0, c1, c2, c3⟩, f0, f1, f2, f3⟩ := h1.facts
  obtain ⟨⟨d0, d1, d2, d3⟩, _⟩ := h.facts
  have HD := Lib.hid h1
  have HB := Lib.hid h2
  have HS := Lib.hid h3
  have HTOP := Lib.hid (top_ref s vb _ g _ h1.is)
  unfold opB
  unfold opO at c0 c1 c2 c3 f0 f1 f2 f3 z0 HD HB HS HTOP
  rw [hp] at c0 d0
  rw [t1, t2] at HTOP
  obtain ⟨xt, xi, xw, xr, xc⟩ := x
  unfold dlVal at HTOP
  obtain ⟨m, hm⟩ : ∃ m, ini.length = m := ⟨_, rfl⟩
  have HM := Lib.hid hm
  have HE := Lib.hid e
  rw [hm] at c2 d2 HD hcap
  unfold maxLen at hcm
  have m62 : m + 1 ≤ 9223372036854775807 := by omega
  have e1' : wrap64 (((m + 1 : Nat) : Int) - 1) = (m : Int) := by unfold wrap64; omega
  have e2' : ((m + 1 : Nat) : Int) - 1 = (m : Int) := by omega
  have hlast : m < m + 1 := by omega
  have hlast2 : (m : Int) < ((m + 1 : Nat) : Int) := by omega
  dsimp only at hx
  obtain ⟨rfl, hfb⟩ := hx
  clear h h1 h2 h3 hB hp hm t1 t2 t3 e
  go_enter Tryz.func70, Tryz.ntmps70
  go_wp2_with fail
  refine HTOP.out.mono ?_
  rintro e w2 ⟨rfl, hb⟩
  have hd2 := HD.out.below hb
  have HBB := Lib.hid (HB.out.trans (hb.mono HS.out))
  obtain ⟨hd3, hbx, hs3, x0, x1, x2, x3, x4⟩ := lvA hd2 true xi xw xr xc
  have zz := (((Below.refl w2.heap.size w2).alloc (Nat.le_refl _) (.cells #[.bool true, .int .i64 (xi : Nat), .int .i64 (xw : Nat), .int .i64 (xr : Nat), .int .i64 (xc : Nat)] 176)).cell (p := ⟨w.heap.size, 0, none⟩) (Nat.lt_of_lt_of_le (by simp) hb.size)).trans ((hb.cell (p := ⟨w.heap.size, 0, none⟩) (by simp)).trans z0)
  obtain ⟨⟨b0, b1, b2, b3⟩, g0, g1, g2, g3⟩ := hd3.facts
  have HD2 := Lib.hid hd3
  have HB2 := Lib.hid (hbx _ HBB.out)
  have HS2 := Lib.hid hs3
  rw [HP.out] at b0
  clear hb hd2 hd3 hbx hs3 c0 c1 c2 c3 f0 f1 f2 f3 d0 d1 d2 d3 HTOP
  have HF := Lib.hid fun W => full_ref ⟨true, xi, xw, xr, xc⟩ W
  unfold dlVal at HF
  go_wp2_with fail
  refine (HF.out _).mono ?_
  rintro e w4 ⟨rfl, hb4⟩
  have HD4 := Lib.hid (HD2.out.below hb4)
  have HB4 := Lib.hid (HB2.out.trans (hb4.mono HS2.out))
  have HFB := Lib.hid hfb
  rw [show fullB ⟨true, xi, xw, xr, xc⟩ = false from hfb]
  obtain ⟨⟨q0, q1, q2, q3⟩, r0, r1, r2, r3⟩ := HD4.out.facts
  clear hb4 b0 b1 b2 b3 g0 g1 g2 g3
  go_wp2_with fail
  go_ret
  exact ⟨rfl, HB4.out, _, _, HD4.out⟩
set_option maxHeartbeats 8000000 in
theorem blk_14_part (n : Int) (t : ByteArray) (p : Option Addr) (l c : Nat) (h : DcM B g w s vb vo) (hp : s.para = false) {ini : List Dl} {x : Dl} (e : s.op = ini ++ [x]) (hx : x.tab = true ∧ fullB x = false) :
    Calls Tryz.prog 70 #[.pointer (some ⟨g, 0, none⟩), opB 14 n t p l c] w (DoIs B g false s w) := by
  obtain ⟨gl, cl, rfl, hcap, hcm⟩ := op_cap h.op e
  obtain ⟨t1, t2, t3⟩ := op_some e
  have HP := Lib.hid hp
  obtain ⟨h1, h2, h3, z0, hB⟩ := opA h 14 n t p l c
  obtain ⟨⟨c0, c1, c2, c3⟩, f0, f1, f2, f3⟩ := h1.facts
  obtain ⟨⟨d0, d1, d2, d3⟩, _⟩ := h.facts
  have HD := Lib.hid h1
  have HB := Lib.hid h2
  have HS := Lib.hid h3
  have HTOP := Lib.hid (top_ref s vb _ g _ h1.is)
  unfold opB
  unfold opO at c0 c1 c2 c3 f0 f1 f2 f3 z0 HD HB HS HTOP
  rw [hp] at c0 d0
  rw [t1, t2] at HTOP
  obtain ⟨xt, xi, xw, xr, xc⟩ := x
  unfold dlVal at HTOP
  obtain ⟨m, hm⟩ : ∃ m, ini.length = m := ⟨_, rfl⟩
  have HM := Lib.hid hm
  have HE := Lib.hid e
  rw [hm] at c2 d2 HD hcap
  unfold maxLen at hcm
  have m62 : m + 1 ≤ 9223372036854775807 := by omega
  have e1' : wrap64 (((m + 1 : Nat) : Int) - 1) = (m : Int) := by unfold wrap64; omega
  have e2' : ((m + 1 : Nat) : Int) - 1 = (m : Int) := by omega
  have hlast : m < m + 1 := by omega
  have hlast2 : (m : Int) < ((m + 1 : Nat) : Int) := by omega
  dsimp only at hx
  obtain ⟨rfl, hfb⟩ := hx
  clear h h1 h2 h3 hB hp hm t1 t2 t3 e
  go_enter Tryz.func70, Tryz.ntmps70
  go_wp2_with fail
  refine HTOP.out.mono ?_
  rintro e w2 ⟨rfl, hb⟩
  have hd2 := HD.out.below hb
  have HBB := Lib.hid (HB.out.trans (hb.mono HS.out))
  obtain ⟨hd3, hbx, hs3, x0, x1, x2, x3, x4⟩ := lvA hd2 true xi xw xr xc
  have zz := (((Below.refl w2.heap.size w2).alloc (Nat.le_refl _) (.cells #[.bool true, .int .i64 (xi : Nat), .int .i64 (xw : Nat), .int .i64 (xr : Nat), .int .i64 (xc : Nat)] 176)).cell (p := ⟨w.heap.size, 0, none⟩) (Nat.lt_of_lt_of_le (by simp) hb.size)).trans ((hb.cell (p := ⟨w.heap.size, 0, none⟩) (by simp)).trans z0)
  obtain ⟨⟨b0, b1, b2, b3⟩, g0, g1, g2, g3⟩ := hd3.facts
  have HD2 := Lib.hid hd3
  have HB2 := Lib.hid (hbx _ HBB.out)
  have HS2 := Lib.hid hs3
  rw [HP.out] at b0
  clear hb hd2 hd3 hbx hs3 c0 c1 c2 c3 f0 f1 f2 f3 d0 d1 d2 d3 HTOP
  have HF := Lib.hid fun W => full_ref ⟨true, xi, xw, xr, xc⟩ W
  unfold dlVal at HF
  go_wp2_with fail
  refine (HF.out _).mono ?_
  rintro e w4 ⟨rfl, hb4⟩
  have HD4 := Lib.hid (HD2.out.below hb4)
  have HB4 := Lib.hid (HB2.out.trans (hb4.mono HS2.out))
  have HFB := Lib.hid hfb
  rw [show fullB ⟨true, xi, xw, xr, xc⟩ = false from hfb]
  obtain ⟨⟨q0, q1, q2, q3⟩, r0, r1, r2, r3⟩ := HD4.out.facts
  clear hb4 b0 b1 b2 b3 g0 g1 g2 g3
  go_wp2_with fail
  go_ret
  exact ⟨rfl, HB4.out, _, _, HD4.out⟩
set_option maxHeartbeats 8000000 in
theorem blk_13 (n : Int) (t : ByteArray) (p : Option Addr) (l c : Nat) (h : DcM B g w s vb vo) (hp : s.para = false) {ini : List Dl} {x : Dl} (e : s.op = ini ++ [x]) (hx : x.tab = true ∧ fullB x = true) (hN : x.rows ≤ 100000) :
    Calls Tryz.prog 70 #[.pointer (some ⟨g, 0, none⟩), opB 13 n t p l c] w (DoIs B g true { s with op := ini ++ [{ x with rows := x.rows + 1, cells := 0 }] } w) := by
  obtain ⟨gl, cl, rfl, hcap, hcm⟩ := op_cap h.op e
  obtain ⟨t1, t2, t3⟩ := op_some e
  have HP := Lib.hid hp
  obtain ⟨h1, h2, h3, z0, hB⟩ := opA h 13 n t p l c
  obtain ⟨⟨c0, c1, c2, c3⟩, f0, f1, f2, f3⟩ := h1.facts
  obtain ⟨⟨d0, d1, d2, d3⟩, _⟩ := h.facts
  have HD := Lib.hid h1
  have HB := Lib.hid h2
  have HS := Lib.hid h3
  have HTOP := Lib.hid (top_ref s vb _ g _ h1.is)
  unfold opB
  unfold opO at c0 c1 c2 c3 f0 f1 f2 f3 z0 HD HB HS HTOP
  rw [hp] at c0 d0
  rw [t1, t2] at HTOP
  obtain ⟨xt, xi, xw, xr, xc⟩ := x
  unfold dlVal at HTOP
  obtain ⟨m, hm⟩ : ∃ m, ini.length = m := ⟨_, rfl⟩
  have HM := Lib.hid hm
  have HE := Lib.hid e
  rw [hm] at c2 d2 HD hcap
  unfold maxLen at hcm
  have m62 : m + 1 ≤ 9223372036854775807 := by omega
  have e1' : wrap64 (((m + 1 : Nat) : Int) - 1) = (m : Int) := by unfold wrap64; omega
  have e2' : ((m + 1 : Nat) : Int) - 1 = (m : Int) := by omega
  have hlast : m < m + 1 := by omega
  have hlast2 : (m : Int) < ((m + 1 : Nat) : Int) := by omega
  dsimp only at hx
  dsimp only at hN
  obtain ⟨rfl, hfb⟩ := hx
  clear h h1 h2 h3 hB hp hm t1 t2 t3 e
  go_enter Tryz.func70, Tryz.ntmps70
  go_wp2_with fail
  refine HTOP.out.mono ?_
  rintro e w2 ⟨rfl, hb⟩
  have hd2 := HD.out.below hb
  have HBB := Lib.hid (HB.out.trans (hb.mono HS.out))
  obtain ⟨hd3, hbx, hs3, x0, x1, x2, x3, x4⟩ := lvA hd2 true xi xw xr xc
  have zz := (((Below.refl w2.heap.size w2).alloc (Nat.le_refl _) (.cells #[.bool true, .int .i64 (xi : Nat), .int .i64 (xw : Nat), .int .i64 (xr : Nat), .int .i64 (xc : Nat)] 176)).cell (p := ⟨w.heap.size, 0, none⟩) (Nat.lt_of_lt_of_le (by simp) hb.size)).trans ((hb.cell (p := ⟨w.heap.size, 0, none⟩) (by simp)).trans z0)
  obtain ⟨⟨b0, b1, b2, b3⟩, g0, g1, g2, g3⟩ := hd3.facts
  have HD2 := Lib.hid hd3
  have HB2 := Lib.hid (hbx _ HBB.out)
  have HS2 := Lib.hid hs3
  rw [HP.out] at b0
  clear hb hd2 hd3 hbx hs3 c0 c1 c2 c3 f0 f1 f2 f3 d0 d1 d2 d3 HTOP
  have HF := Lib.hid fun W => full_ref ⟨true, xi, xw, xr, xc⟩ W
  unfold dlVal at HF
  go_wp2_with fail
  refine (HF.out _).mono ?_
  rintro e w4 ⟨rfl, hb4⟩
  have HD4 := Lib.hid (HD2.out.below hb4)
  have HB4 := Lib.hid (HB2.out.trans (hb4.mono HS2.out))
  have HFB := Lib.hid hfb
  rw [show fullB ⟨true, xi, xw, xr, xc⟩ = true from hfb]
  obtain ⟨⟨q0, q1, q2, q3⟩, r0, r1, r2, r3⟩ := HD4.out.facts
  clear hb4 b0 b1 b2 b3 g0 g1 g2 g3
  have hrow := HD4.out.op
  rw [show s.op.length = m + 1 by rw [HE.out]; simp [HM.out]] at hrow
  have hat := fun (k : Nat) (u : Value) (hk : (dlRow ⟨true, xi, xw, xr, xc⟩)[k]? = some u) => (World.ownsRow.cellAt hrow (m * 5 + k) (by
    have hk5 : k < 5 := by
      rcases Nat.lt_or_ge k 5 with h | h
      · exact h
      · rw [List.getElem?_eq_none (by simpa [dlRow] using h)] at hk; cases hk
    omega)).trans (dlsV_get s.op m k (by rw [HE.out]; simp [HM.out]) u (by
    have e5 : s.op[m]'(by rw [HE.out]; simp [HM.out]) = ⟨true, xi, xw, xr, xc⟩ := by
      simp only [HE.out]
      rw [List.getElem_append_right (by rw [HM.out]; exact Nat.le_refl _)]
      simp [HM.out]
    rw [e5]; exact hk))
  have hfr := fun k : Nat => World.ownsRow.frozenAt hrow (m * 5 + k)
  have y0 := hat 3 _ rfl
  have y1 := hfr 3
  have y5 := hat 4 _ rfl
  have y6 := hfr 4
  have hset := HD4.out.setLv (x' := ⟨true, xi, xw, xr + 1, xc⟩) (j := 3) (u := .int .i64 ((xr : Nat) + 1 : Nat)) HE.out (by omega) rfl
  have hset2 := hset.setLv (ini := ini) (x := ⟨true, xi, xw, xr + 1, xc⟩) (x' := ⟨true, xi, xw, xr + 1, 0⟩) (j := 4) (u := .int .i64 0) rfl (by omega) rfl
  rw [HM.out] at hset hset2
  have HG := Lib.hid (own_base HD4.out.op rfl).1
  have HB5 := Lib.hid ((HB4.out.setCell (p := ⟨gl, m * 5 + 3, none⟩) HG.out (.int .i64 ((xr : Nat) + 1 : Nat))).setCell (p := ⟨gl, m * 5 + 4, none⟩) HG.out (.int .i64 0))
  have v1 : wrap64 ((xr : Int) + 1) = ((xr + 1 : Nat) : Int) := by unfold wrap64; omega
  have hrow2 := hset.op
  dsimp only at hrow2
  rw [show (ini ++ [(⟨true, xi, xw, xr + 1, xc⟩ : Dl)]).length = m + 1 by simp [HM.out]] at hrow2
  have y4 := (World.ownsRow.cellAt hrow2 (m * 5 + 4) (by omega)).trans (dlsV_get (ini ++ [(⟨true, xi, xw, xr + 1, xc⟩ : Dl)]) m 4 (by simp [HM.out]) (.int .i64 (xc : Nat)) (by
    have e5 : (ini ++ [(⟨true, xi, xw, xr + 1, xc⟩ : Dl)])[m]'(by simp [HM.out]) = ⟨true, xi, xw, xr + 1, xc⟩ := by
      rw [List.getElem_append_right (by rw [HM.out]; exact Nat.le_refl _)]
      simp [HM.out]
    rw [e5]; rfl))
  have hfr2 := World.ownsRow.frozenAt hrow2 (m * 5 + 4)
  obtain ⟨⟨u0, u1, u2, u3⟩, _⟩ := hset.facts
  have HD5 := Lib.hid hset2
  clear hrow hat hfr hset hset2 hrow2 y4 hfr2
  go_wp2_with fail
  go_ret
  exact ⟨rfl, HB5.out, _, _, HD5.out⟩
set_option maxHeartbeats 8000000 in
theorem blk_14_tab (n : Int) (t : ByteArray) (p : Option Addr) (l c : Nat) (h : DcM B g w s vb vo) (hp : s.para = false) {ini : List Dl} {x : Dl} (e : s.op = ini ++ [x]) (hx : x.tab = true ∧ fullB x = true) :
    Calls Tryz.prog 70 #[.pointer (some ⟨g, 0, none⟩), opB 14 n t p l c] w (DoIs B g true { s with op := ini } w) := by
  obtain ⟨gl, cl, rfl, hcap, hcm⟩ := op_cap h.op e
  obtain ⟨t1, t2, t3⟩ := op_some e
  have HP := Lib.hid hp
  obtain ⟨h1, h2, h3, z0, hB⟩ := opA h 14 n t p l c
  obtain ⟨⟨c0, c1, c2, c3⟩, f0, f1, f2, f3⟩ := h1.facts
  obtain ⟨⟨d0, d1, d2, d3⟩, _⟩ := h.facts
  have HD := Lib.hid h1
  have HB := Lib.hid h2
  have HS := Lib.hid h3
  have HTOP := Lib.hid (top_ref s vb _ g _ h1.is)
  unfold opB
  unfold opO at c0 c1 c2 c3 f0 f1 f2 f3 z0 HD HB HS HTOP
  rw [hp] at c0 d0
  rw [t1, t2] at HTOP
  obtain ⟨xt, xi, xw, xr, xc⟩ := x
  unfold dlVal at HTOP
  obtain ⟨m, hm⟩ : ∃ m, ini.length = m := ⟨_, rfl⟩
  have HM := Lib.hid hm
  have HE := Lib.hid e
  rw [hm] at c2 d2 HD hcap
  unfold maxLen at hcm
  have m62 : m + 1 ≤ 9223372036854775807 := by omega
  have e1' : wrap64 (((m + 1 : Nat) : Int) - 1) = (m : Int) := by unfold wrap64; omega
  have e2' : ((m + 1 : Nat) : Int) - 1 = (m : Int) := by omega
  have hlast : m < m + 1 := by omega
  have hlast2 : (m : Int) < ((m + 1 : Nat) : Int) := by omega
  dsimp only at hx
  obtain ⟨rfl, hfb⟩ := hx
  clear h h1 h2 h3 hB hp hm t1 t2 t3 e
  go_enter Tryz.func70, Tryz.ntmps70
  go_wp2_with fail
  refine HTOP.out.mono ?_
  rintro e w2 ⟨rfl, hb⟩
  have hd2 := HD.out.below hb
  have HBB := Lib.hid (HB.out.trans (hb.mono HS.out))
  obtain ⟨hd3, hbx, hs3, x0, x1, x2, x3, x4⟩ := lvA hd2 true xi xw xr xc
  have zz := (((Below.refl w2.heap.size w2).alloc (Nat.le_refl _) (.cells #[.bool true, .int .i64 (xi : Nat), .int .i64 (xw : Nat), .int .i64 (xr : Nat), .int .i64 (xc : Nat)] 176)).cell (p := ⟨w.heap.size, 0, none⟩) (Nat.lt_of_lt_of_le (by simp) hb.size)).trans ((hb.cell (p := ⟨w.heap.size, 0, none⟩) (by simp)).trans z0)
  obtain ⟨⟨b0, b1, b2, b3⟩, g0, g1, g2, g3⟩ := hd3.facts
  have HD2 := Lib.hid hd3
  have HB2 := Lib.hid (hbx _ HBB.out)
  have HS2 := Lib.hid hs3
  rw [HP.out] at b0
  clear hb hd2 hd3 hbx hs3 c0 c1 c2 c3 f0 f1 f2 f3 d0 d1 d2 d3 HTOP
  have HF := Lib.hid fun W => full_ref ⟨true, xi, xw, xr, xc⟩ W
  unfold dlVal at HF
  go_wp2_with fail
  refine (HF.out _).mono ?_
  rintro e w4 ⟨rfl, hb4⟩
  have HD4 := Lib.hid (HD2.out.below hb4)
  have HB4 := Lib.hid (HB2.out.trans (hb4.mono HS2.out))
  have HFB := Lib.hid hfb
  rw [show fullB ⟨true, xi, xw, xr, xc⟩ = true from hfb]
  obtain ⟨⟨q0, q1, q2, q3⟩, r0, r1, r2, r3⟩ := HD4.out.facts
  clear hb4 b0 b1 b2 b3 g0 g1 g2 g3
  have hrow := HD4.out.op
  rw [show s.op.length = m + 1 by rw [HE.out]; simp [HM.out]] at hrow
  have hcut := own_cut hrow (show m ≤ m + 1 by omega)
  rw [show (dlsV s.op).take (m * 5) = dlsV ini by rw [HE.out, dlsV_app, List.take_left' (by rw [dlsV_len, HM.out])]] at hcut
  have hcut2 : World.ownsRow w4 B 176 5 (.slice (some ⟨gl, 0, none⟩) m cl) ini.length (dlsV ini) := by rw [HM.out]; exact hcut
  have HD6 := Lib.hid (HD4.out.setOp hcut2)
  have HG := Lib.hid HD4.out.gB
  have e4 : (m : Int) ≤ cl := by omega
  have e5 : m ≤ cl := by omega
  clear hrow hcut hcut2
  go_wp2_with fail
  go_ret
  exact ⟨rfl, HB4.out.setCell (p := ⟨g, 2, none⟩) HG.out _, _, _, HD6.out⟩
set_option maxHeartbeats 8000000 in
theorem blk_14_list (n : Int) (t : ByteArray) (p : Option Addr) (l c : Nat) (h : DcM B g w s vb vo) (hp : s.para = false) {ini : List Dl} {x : Dl} (e : s.op = ini ++ [x]) (hx : x.tab = false) :
    Calls Tryz.prog 70 #[.pointer (some ⟨g, 0, none⟩), opB 14 n t p l c] w (DoIs B g true { s with op := ini } w) := by
  obtain ⟨gl, cl, rfl, hcap, hcm⟩ := op_cap h.op e
  obtain ⟨t1, t2, t3⟩ := op_some e
  have HP := Lib.hid hp
  obtain ⟨h1, h2, h3, z0, hB⟩ := opA h 14 n t p l c
  obtain ⟨⟨c0, c1, c2, c3⟩, f0, f1, f2, f3⟩ := h1.facts
  obtain ⟨⟨d0, d1, d2, d3⟩, _⟩ := h.facts
  have HD := Lib.hid h1
  have HB := Lib.hid h2
  have HS := Lib.hid h3
  have HTOP := Lib.hid (top_ref s vb _ g _ h1.is)
  unfold opB
  unfold opO at c0 c1 c2 c3 f0 f1 f2 f3 z0 HD HB HS HTOP
  rw [hp] at c0 d0
  rw [t1, t2] at HTOP
  obtain ⟨xt, xi, xw, xr, xc⟩ := x
  unfold dlVal at HTOP
  obtain ⟨m, hm⟩ : ∃ m, ini.length = m := ⟨_, rfl⟩
  have HM := Lib.hid hm
  have HE := Lib.hid e
  rw [hm] at c2 d2 HD hcap
  unfold maxLen at hcm
  have m62 : m + 1 ≤ 9223372036854775807 := by omega
  have e1' : wrap64 (((m + 1 : Nat) : Int) - 1) = (m : Int) := by unfold wrap64; omega
  have e2' : ((m + 1 : Nat) : Int) - 1 = (m : Int) := by omega
  have hlast : m < m + 1 := by omega
  have hlast2 : (m : Int) < ((m + 1 : Nat) : Int) := by omega
  dsimp only at hx
  subst hx
  clear h h1 h2 h3 hB hp hm t1 t2 t3 e
  go_enter Tryz.func70, Tryz.ntmps70
  go_wp2_with fail
  refine HTOP.out.mono ?_
  rintro e w2 ⟨rfl, hb⟩
  have hd2 := HD.out.below hb
  have HBB := Lib.hid (HB.out.trans (hb.mono HS.out))
  obtain ⟨hd3, hbx, hs3, x0, x1, x2, x3, x4⟩ := lvA hd2 false xi xw xr xc
  have zz := (((Below.refl w2.heap.size w2).alloc (Nat.le_refl _) (.cells #[.bool false, .int .i64 (xi : Nat), .int .i64 (xw : Nat), .int .i64 (xr : Nat), .int .i64 (xc : Nat)] 176)).cell (p := ⟨w.heap.size, 0, none⟩) (Nat.lt_of_lt_of_le (by simp) hb.size)).trans ((hb.cell (p := ⟨w.heap.size, 0, none⟩) (by simp)).trans z0)
  obtain ⟨⟨b0, b1, b2, b3⟩, g0, g1, g2, g3⟩ := hd3.facts
  have HD2 := Lib.hid hd3
  have HB2 := Lib.hid (hbx _ HBB.out)
  have HS2 := Lib.hid hs3
  rw [HP.out] at b0
  clear hb hd2 hd3 hbx hs3 c0 c1 c2 c3 f0 f1 f2 f3 d0 d1 d2 d3 HTOP
  have hrow := HD2.out.op
  rw [show s.op.length = m + 1 by rw [HE.out]; simp [HM.out]] at hrow
  have hcut := own_cut hrow (show m ≤ m + 1 by omega)
  rw [show (dlsV s.op).take (m * 5) = dlsV ini by rw [HE.out, dlsV_app, List.take_left' (by rw [dlsV_len, HM.out])]] at hcut
  have hcut2 : World.ownsRow (w2.alloc (.cells #[.bool false, .int .i64 (xi : Nat), .int .i64 (xw : Nat), .int .i64 (xr : Nat), .int .i64 (xc : Nat)] 176)) B 176 5 (.slice (some ⟨gl, 0, none⟩) m cl) ini.length (dlsV ini) := by rw [HM.out]; exact hcut
  have HD6 := Lib.hid (HD2.out.setOp hcut2)
  have HG := Lib.hid HD2.out.gB
  have e4 : (m : Int) ≤ cl := by omega
  have e5 : m ≤ cl := by omega
  clear hrow hcut hcut2
  go_wp2_with fail
  go_ret
  exact ⟨rfl, HB2.out.setCell (p := ⟨g, 2, none⟩) HG.out _, _, _, HD6.out⟩
end
end Go.Proofs.YtjohhahfpgfjdaaGreatDoor.Ir
