/- Layer 11: the document's checker: an operation of a paragraph. -/
import Derived.Test.YtjohhahfpgfjdaaGreatDoorKQt
import Derived.BigQuiet
namespace Go.Proofs.YtjohhahfpgfjdaaGreatDoor.Ir
open Go.RowKit Go.Maps Go.Proofs.YtjohhahfpgfjdaaGreatDoor
set_option linter.unusedVariables false
set_option linter.unusedSimpArgs false
set_option maxRecDepth 100000
section
variable {B g : Nat} {w : World} {s : Dc} {vb vo : Value}
theorem opA (h : DcM B g w s vb vo) (k n : Int) (t : ByteArray) (p : Option Addr) (l c : Nat) : DcM B g (w.alloc (opO k n t p l c)) s vb vo ∧ Below B w (w.alloc (opO k n t p l c)) ∧ B ≤ (w.alloc (opO k n t p l c)).heap.size ∧ (w.alloc (opO k n t p l c)).cell? ⟨w.heap.size, 0, none⟩ = some (.int .i64 k) ∧ B ≤ w.heap.size := by
  have hA : Below w.heap.size w (w.alloc (opO k n t p l c)) := (Below.refl _ _).alloc (Nat.le_refl _) _
  have hB : B ≤ w.heap.size := Nat.le_trans h.gB (Nat.le_of_lt h.lt)
  exact ⟨h.below hA, hA.mono hB, Nat.le_trans hB hA.size, by unfold opO; rw [cell_of_row _ _ _ _ _ _ (heap_alloc_new w _)]; rfl, hB⟩
set_option maxHeartbeats 4000000 in
theorem inl_np (k : Int) (n : Int) (t : ByteArray) (p : Option Addr) (l c : Nat) (h : DcM B g w s vb vo) (hp : s.para = false) :
    Calls Tryz.prog 69 #[.pointer (some ⟨g, 0, none⟩), opB k n t p l c] w (DoIs B g false s w) := by
  obtain ⟨h1, h2, h3, z0, hB⟩ := opA h k n t p l c
  obtain ⟨⟨c0, c1, c2, c3⟩, f0, f1, f2, f3⟩ := h1.facts
  obtain ⟨⟨d0, d1, d2, d3⟩, _⟩ := h.facts
  have HD := Lib.hid h1
  have HB := Lib.hid h2
  have HS := Lib.hid h3
  unfold opB
  unfold opO at c0 c1 c2 c3 f0 f1 f2 f3 z0 HD HB HS
  rw [hp] at c0 d0
  clear h h1 h2 h3 hB hp
  go_enter Tryz.func69, Tryz.ntmps69
  go_wp2_with fail
  go_ret
  exact ⟨rfl, HB.out, _, _, HD.out⟩
set_option maxHeartbeats 4000000 in
theorem inl_1 (n : Int) (t : ByteArray) (p : Option Addr) (l c : Nat) (h : DcM B g w s vb vo) (hp : s.para = true) :
    Calls Tryz.prog 69 #[.pointer (some ⟨g, 0, none⟩), opB 1 n t p l c] w (DoIs B g (!s.tx) s w) := by
  obtain ⟨h1, h2, h3, z0, hB⟩ := opA h 1 n t p l c
  obtain ⟨⟨c0, c1, c2, c3⟩, f0, f1, f2, f3⟩ := h1.facts
  obtain ⟨⟨d0, d1, d2, d3⟩, _⟩ := h.facts
  have HD := Lib.hid h1
  have HB := Lib.hid h2
  have HS := Lib.hid h3
  unfold opB
  unfold opO at c0 c1 c2 c3 f0 f1 f2 f3 z0 HD HB HS
  rw [hp] at c0 d0
  clear h h1 h2 h3 hB hp
  go_enter Tryz.func69, Tryz.ntmps69
  go_wp2_with fail
  go_ret
  exact ⟨rfl, HB.out, _, _, HD.out⟩
set_option maxHeartbeats 4000000 in
theorem inl_6 (n : Int) (t : ByteArray) (p : Option Addr) (l c : Nat) (h : DcM B g w s vb vo) (hp : s.para = true) :
    Calls Tryz.prog 69 #[.pointer (some ⟨g, 0, none⟩), opB 6 n t p l c] w (DoIs B g true s w) := by
  obtain ⟨h1, h2, h3, z0, hB⟩ := opA h 6 n t p l c
  obtain ⟨⟨c0, c1, c2, c3⟩, f0, f1, f2, f3⟩ := h1.facts
  obtain ⟨⟨d0, d1, d2, d3⟩, _⟩ := h.facts
  have HD := Lib.hid h1
  have HB := Lib.hid h2
  have HS := Lib.hid h3
  unfold opB
  unfold opO at c0 c1 c2 c3 f0 f1 f2 f3 z0 HD HB HS
  rw [hp] at c0 d0
  clear h h1 h2 h3 hB hp
  go_enter Tryz.func69, Tryz.ntmps69
  go_wp2_with fail
  go_ret
  exact ⟨rfl, HB.out, _, _, HD.out⟩
set_option maxHeartbeats 4000000 in
theorem inl_7 (n : Int) (t : ByteArray) (p : Option Addr) (l c : Nat) (h : DcM B g w s vb vo) (hp : s.para = true) :
    Calls Tryz.prog 69 #[.pointer (some ⟨g, 0, none⟩), opB 7 n t p l c] w (DoIs B g true s w) := by
  obtain ⟨h1, h2, h3, z0, hB⟩ := opA h 7 n t p l c
  obtain ⟨⟨c0, c1, c2, c3⟩, f0, f1, f2, f3⟩ := h1.facts
  obtain ⟨⟨d0, d1, d2, d3⟩, _⟩ := h.facts
  have HD := Lib.hid h1
  have HB := Lib.hid h2
  have HS := Lib.hid h3
  unfold opB
  unfold opO at c0 c1 c2 c3 f0 f1 f2 f3 z0 HD HB HS
  rw [hp] at c0 d0
  clear h h1 h2 h3 hB hp
  go_enter Tryz.func69, Tryz.ntmps69
  go_wp2_with fail
  go_ret
  exact ⟨rfl, HB.out, _, _, HD.out⟩
set_option maxHeartbeats 4000000 in
theorem inl_2_deep (n : Int) (t : ByteArray) (p : Option Addr) (l c : Nat) (h : DcM B g w s vb vo) (hp : s.para = true) (hn : 16 ≤ s.br.length) :
    Calls Tryz.prog 69 #[.pointer (some ⟨g, 0, none⟩), opB 2 n t p l c] w (DoIs B g false s w) := by
  obtain ⟨pb, cb, rfl⟩ := lenL h.br
  obtain ⟨nb, hnb⟩ : ∃ nb, s.br.length = nb := ⟨_, rfl⟩
  rw [hnb] at h
  obtain ⟨h1, h2, h3, z0, hB⟩ := opA h 2 n t p l c
  obtain ⟨⟨c0, c1, c2, c3⟩, f0, f1, f2, f3⟩ := h1.facts
  obtain ⟨⟨d0, d1, d2, d3⟩, _⟩ := h.facts
  have HD := Lib.hid h1
  have HB := Lib.hid h2
  have HS := Lib.hid h3
  unfold opB
  unfold opO at c0 c1 c2 c3 f0 f1 f2 f3 z0 HD HB HS
  rw [hp] at c0 d0
  have e1 : (16 : Int) ≤ nb := by omega
  clear h h1 h2 h3 hB hp hn hnb
  go_enter Tryz.func69, Tryz.ntmps69
  go_wp2_with fail
  go_ret
  exact ⟨rfl, HB.out, _, _, HD.out⟩
set_option maxHeartbeats 4000000 in
theorem inl_3_deep (n : Int) (t : ByteArray) (p : Option Addr) (l c : Nat) (h : DcM B g w s vb vo) (hp : s.para = true) (hn : 16 ≤ s.br.length) :
    Calls Tryz.prog 69 #[.pointer (some ⟨g, 0, none⟩), opB 3 n t p l c] w (DoIs B g false s w) := by
  obtain ⟨pb, cb, rfl⟩ := lenL h.br
  obtain ⟨nb, hnb⟩ : ∃ nb, s.br.length = nb := ⟨_, rfl⟩
  rw [hnb] at h
  obtain ⟨h1, h2, h3, z0, hB⟩ := opA h 3 n t p l c
  obtain ⟨⟨c0, c1, c2, c3⟩, f0, f1, f2, f3⟩ := h1.facts
  obtain ⟨⟨d0, d1, d2, d3⟩, _⟩ := h.facts
  have HD := Lib.hid h1
  have HB := Lib.hid h2
  have HS := Lib.hid h3
  unfold opB
  unfold opO at c0 c1 c2 c3 f0 f1 f2 f3 z0 HD HB HS
  rw [hp] at c0 d0
  have e1 : (16 : Int) ≤ nb := by omega
  clear h h1 h2 h3 hB hp hn hnb
  go_enter Tryz.func69, Tryz.ntmps69
  go_wp2_with fail
  go_ret
  exact ⟨rfl, HB.out, _, _, HD.out⟩
set_option maxHeartbeats 4000000 in
theorem inl_4_deep (n : Int) (t : ByteArray) (p : Option Addr) (l c : Nat) (h : DcM B g w s vb vo) (hp : s.para = true) (hn : 16 ≤ s.br.length) :
    Calls Tryz.prog 69 #[.pointer (some ⟨g, 0, none⟩), opB 4 n t p l c] w (DoIs B g false s w) := by
  obtain ⟨pb, cb, rfl⟩ := lenL h.br
  obtain ⟨nb, hnb⟩ : ∃ nb, s.br.length = nb := ⟨_, rfl⟩
  rw [hnb] at h
  obtain ⟨h1, h2, h3, z0, hB⟩ := opA h 4 n t p l c
  obtain ⟨⟨c0, c1, c2, c3⟩, f0, f1, f2, f3⟩ := h1.facts
  obtain ⟨⟨d0, d1, d2, d3⟩, _⟩ := h.facts
  have HD := Lib.hid h1
  have HB := Lib.hid h2
  have HS := Lib.hid h3
  unfold opB
  unfold opO at c0 c1 c2 c3 f0 f1 f2 f3 z0 HD HB HS
  rw [hp] at c0 d0
  have e1 : (16 : Int) ≤ nb := by omega
  clear h h1 h2 h3 hB hp hn hnb
  go_enter Tryz.func69, Tryz.ntmps69
  go_wp2_with fail
  go_ret
  exact ⟨rfl, HB.out, _, _, HD.out⟩
set_option maxHeartbeats 4000000 in
theorem inl_3_linked (n : Int) (t : ByteArray) (p : Option Addr) (l c : Nat) (h : DcM B g w s vb vo) (hp : s.para = true) (hn : s.br.length < 16) (hl : s.br.any id = true) :
    Calls Tryz.prog 69 #[.pointer (some ⟨g, 0, none⟩), opB 3 n t p l c] w (DoIs B g false s w) := by
  obtain ⟨pb, cb, rfl⟩ := lenL h.br
  obtain ⟨nb, hnb⟩ : ∃ nb, s.br.length = nb := ⟨_, rfl⟩
  rw [hnb] at h
  obtain ⟨h1, h2, h3, z0, hB⟩ := opA h 3 n t p l c
  obtain ⟨⟨c0, c1, c2, c3⟩, f0, f1, f2, f3⟩ := h1.facts
  obtain ⟨⟨d0, d1, d2, d3⟩, _⟩ := h.facts
  have HD := Lib.hid h1
  have HB := Lib.hid h2
  have HS := Lib.hid h3
  unfold opB
  unfold opO at c0 c1 c2 c3 f0 f1 f2 f3 z0 HD HB HS
  rw [hp] at c0 d0
  have e1 : ¬ (16 : Int) ≤ nb := by omega
  have HL := Lib.hid (linked_ref s _ vo g _ h1.is)
  rw [hl] at HL
  unfold opO at HL
  clear h h1 h2 h3 hB hp hn hl
  go_enter Tryz.func69, Tryz.ntmps69
  go_wp2_with fail
  refine HL.out.mono ?_
  rintro e w2 ⟨rfl, hb⟩
  have HB2 := Lib.hid (HB.out.trans (hb.mono HS.out))
  have HD2 := Lib.hid (HD.out.below hb)
  clear hb
  go_wp2_with fail
  go_ret
  exact ⟨rfl, HB2.out, _, _, HD2.out⟩
set_option maxHeartbeats 4000000 in
theorem inl_4_linked (n : Int) (t : ByteArray) (p : Option Addr) (l c : Nat) (h : DcM B g w s vb vo) (hp : s.para = true) (hn : s.br.length < 16) (hl : s.br.any id = true) :
    Calls Tryz.prog 69 #[.pointer (some ⟨g, 0, none⟩), opB 4 n t p l c] w (DoIs B g false s w) := by
  obtain ⟨pb, cb, rfl⟩ := lenL h.br
  obtain ⟨nb, hnb⟩ : ∃ nb, s.br.length = nb := ⟨_, rfl⟩
  rw [hnb] at h
  obtain ⟨h1, h2, h3, z0, hB⟩ := opA h 4 n t p l c
  obtain ⟨⟨c0, c1, c2, c3⟩, f0, f1, f2, f3⟩ := h1.facts
  obtain ⟨⟨d0, d1, d2, d3⟩, _⟩ := h.facts
  have HD := Lib.hid h1
  have HB := Lib.hid h2
  have HS := Lib.hid h3
  unfold opB
  unfold opO at c0 c1 c2 c3 f0 f1 f2 f3 z0 HD HB HS
  rw [hp] at c0 d0
  have e1 : ¬ (16 : Int) ≤ nb := by omega
  have HL := Lib.hid (linked_ref s _ vo g _ h1.is)
  rw [hl] at HL
  unfold opO at HL
  clear h h1 h2 h3 hB hp hn hl
  go_enter Tryz.func69, Tryz.ntmps69
  go_wp2_with fail
  refine HL.out.mono ?_
  rintro e w2 ⟨rfl, hb⟩
  have HB2 := Lib.hid (HB.out.trans (hb.mono HS.out))
  have HD2 := Lib.hid (HD.out.below hb)
  clear hb
  go_wp2_with fail
  go_ret
  exact ⟨rfl, HB2.out, _, _, HD2.out⟩
set_option maxHeartbeats 4000000 in
theorem inl_2 (n : Int) (t : ByteArray) (p : Option Addr) (l c : Nat) (h : DcM B g w s vb vo) (hp : s.para = true) (hn : s.br.length < 16) :
    Calls Tryz.prog 69 #[.pointer (some ⟨g, 0, none⟩), opB 2 n t p l c] w (DoIs B g true { s with br := s.br ++ [false] } w) := by
  obtain ⟨pb, cb, rfl⟩ := lenL h.br
  obtain ⟨nb, hnb⟩ : ∃ nb, s.br.length = nb := ⟨_, rfl⟩
  rw [hnb] at h
  obtain ⟨h1, h2, h3, z0, hB⟩ := opA h 2 n t p l c
  obtain ⟨⟨c0, c1, c2, c3⟩, f0, f1, f2, f3⟩ := h1.facts
  obtain ⟨⟨d0, d1, d2, d3⟩, _⟩ := h.facts
  have HD := Lib.hid h1
  have HB := Lib.hid h2
  have HS := Lib.hid h3
  unfold opB
  unfold opO at c0 c1 c2 c3 f0 f1 f2 f3 z0 HD HB HS
  rw [hp] at c0 d0
  have e1 : ¬ (16 : Int) ≤ nb := by omega
  obtain ⟨i0, hi0, hz0, hz1, hz2⟩ := info_parts infoBq
  have HN := Lib.hid hnb
  have L1 := Lib.hid (show nb + 1 ≤ maxLen by unfold maxLen; omega)
  have L2 := Lib.hid (show (nb + 1) * 1 ≤ 140737488355328 by omega)
  clear h h1 h2 h3 hB hp hn
  go_enter Tryz.func69, Tryz.ntmps69
  have HD3 := Lib.hid (HD.out.below ((Below.refl _ _).alloc (Nat.le_refl _) (.cells #[.bool false] 4)))
  have HB3 := Lib.hid (HB.out.alloc HS.out (.cells #[.bool false] 4))
  have HS3 := Lib.hid (Nat.le_trans HS.out (show (w.alloc (.cells #[.int .i64 2, .int .i64 n, .string t, .slice p l c] 53)).heap.size ≤ ((w.alloc (.cells #[.int .i64 2, .int .i64 n, .string t, .slice p l c] 53)).alloc (.cells #[.bool false] 4)).heap.size by simp))
  have hbr3 := HD3.out.br
  rw [HN.out] at hbr3
  have HR3 := Lib.hid hbr3
  clear hbr3
  go_wp2_with (at_builtin; go_loud (refine wpList_append_own _ rfl _ _ 50 rfl B 4 i0 _ 1 1 Tryz.underlying50 hi0 hz0 hz1 hz2 rfl (by decide) _ _ _ rfl HR3.out _ 1 1 [.bool false] rfl rfl (cells_newQ (by simp)) (fun u hu => by simp at hu; subst hu; rfl) L1.out L2.out HS3.out ?_); intro v6 w6 hown6 hgrow6 _; obtain ⟨p6, c6, rfl⟩ := lenL hown6; go_loud (have HD6 := Lib.hid (HD3.out.pushBr hgrow6 (by rw [HN.out]; exact hown6))); go_loud (have HB6 := Lib.hid (HB3.out.grown hgrow6 HS3.out (fun r e => (own_base HR3.out e).1))); go_loud (obtain ⟨⟨g0, g1, g2, g3⟩, g4, g5⟩ := DcM.facts2 (HD3.out.grownB hgrow6).1); have HG := Lib.hid HD3.out.gB; clear hown6 hgrow6)
  go_wp2_with fail
  go_ret
  exact ⟨rfl, HB6.out.setCell (p := ⟨g, 1, none⟩) HG.out _, _, _, HD6.out⟩
set_option maxHeartbeats 4000000 in
theorem inl_3 (n : Int) (t : ByteArray) (p : Option Addr) (l c : Nat) (h : DcM B g w s vb vo) (hp : s.para = true) (hn : s.br.length < 16) (hl : s.br.any id = false) :
    Calls Tryz.prog 69 #[.pointer (some ⟨g, 0, none⟩), opB 3 n t p l c] w (DoIs B g true { s with br := s.br ++ [true] } w) := by
  obtain ⟨pb, cb, rfl⟩ := lenL h.br
  obtain ⟨nb, hnb⟩ : ∃ nb, s.br.length = nb := ⟨_, rfl⟩
  rw [hnb] at h
  obtain ⟨h1, h2, h3, z0, hB⟩ := opA h 3 n t p l c
  obtain ⟨⟨c0, c1, c2, c3⟩, f0, f1, f2, f3⟩ := h1.facts
  obtain ⟨⟨d0, d1, d2, d3⟩, _⟩ := h.facts
  have HD := Lib.hid h1
  have HB := Lib.hid h2
  have HS := Lib.hid h3
  unfold opB
  unfold opO at c0 c1 c2 c3 f0 f1 f2 f3 z0 HD HB HS
  rw [hp] at c0 d0
  have e1 : ¬ (16 : Int) ≤ nb := by omega
  have HL := Lib.hid (linked_ref s _ vo g _ h1.is)
  rw [hl] at HL
  unfold opO at HL
  obtain ⟨i0, hi0, hz0, hz1, hz2⟩ := info_parts infoBq
  have HN := Lib.hid hnb
  have L1 := Lib.hid (show nb + 1 ≤ maxLen by unfold maxLen; omega)
  have L2 := Lib.hid (show (nb + 1) * 1 ≤ 140737488355328 by omega)
  clear h h1 h2 h3 hB hp hn hl
  go_enter Tryz.func69, Tryz.ntmps69
  go_wp2_with fail
  refine HL.out.mono ?_
  rintro e w2 ⟨rfl, hb⟩
  have HB2 := Lib.hid (HB.out.trans (hb.mono HS.out))
  have h2 := HD.out.below hb
  have HD2 := Lib.hid h2
  have HS2 := Lib.hid (Nat.le_trans HS.out hb.size)
  obtain ⟨⟨b0, b1, b2, b3⟩, _⟩ := h2.facts
  clear hb h2
  have HD3 := Lib.hid (HD2.out.below ((Below.refl _ _).alloc (Nat.le_refl _) (.cells #[.bool true] 4)))
  have HB3 := Lib.hid (HB2.out.alloc HS2.out (.cells #[.bool true] 4))
  have HS3 := Lib.hid (Nat.le_trans HS2.out (show w2.heap.size ≤ (w2.alloc (.cells #[.bool true] 4)).heap.size by simp))
  have hbr3 := HD3.out.br
  rw [HN.out] at hbr3
  have HR3 := Lib.hid hbr3
  clear hbr3
  go_wp2_with (at_builtin; go_loud (refine wpList_append_own _ rfl _ _ 50 rfl B 4 i0 _ 1 1 Tryz.underlying50 hi0 hz0 hz1 hz2 rfl (by decide) _ _ _ rfl HR3.out _ 1 1 [.bool true] rfl rfl (cells_newQ (by simp)) (fun u hu => by simp at hu; subst hu; rfl) L1.out L2.out HS3.out ?_); intro v6 w6 hown6 hgrow6 _; obtain ⟨p6, c6, rfl⟩ := lenL hown6; go_loud (have HD6 := Lib.hid (HD3.out.pushBr hgrow6 (by rw [HN.out]; exact hown6))); go_loud (have HB6 := Lib.hid (HB3.out.grown hgrow6 HS3.out (fun r e => (own_base HR3.out e).1))); go_loud (obtain ⟨⟨g0, g1, g2, g3⟩, g4, g5⟩ := DcM.facts2 (HD3.out.grownB hgrow6).1); have HG := Lib.hid HD3.out.gB; clear hown6 hgrow6)
  go_wp2_with fail
  go_ret
  exact ⟨rfl, HB6.out.setCell (p := ⟨g, 1, none⟩) HG.out _, _, _, HD6.out⟩
set_option maxHeartbeats 4000000 in
theorem inl_4 (n : Int) (t : ByteArray) (p : Option Addr) (l c : Nat) (h : DcM B g w s vb vo) (hp : s.para = true) (hn : s.br.length < 16) (hl : s.br.any id = false) :
    Calls Tryz.prog 69 #[.pointer (some ⟨g, 0, none⟩), opB 4 n t p l c] w (DoIs B g true { s with br := s.br ++ [true] } w) := by
  obtain ⟨pb, cb, rfl⟩ := lenL h.br
  obtain ⟨nb, hnb⟩ : ∃ nb, s.br.length = nb := ⟨_, rfl⟩
  rw [hnb] at h
  obtain ⟨h1, h2, h3, z0, hB⟩ := opA h 4 n t p l c
  obtain ⟨⟨c0, c1, c2, c3⟩, f0, f1, f2, f3⟩ := h1.facts
  obtain ⟨⟨d0, d1, d2, d3⟩, _⟩ := h.facts
  have HD := Lib.hid h1
  have HB := Lib.hid h2
  have HS := Lib.hid h3
  unfold opB
  unfold opO at c0 c1 c2 c3 f0 f1 f2 f3 z0 HD HB HS
  rw [hp] at c0 d0
  have e1 : ¬ (16 : Int) ≤ nb := by omega
  have HL := Lib.hid (linked_ref s _ vo g _ h1.is)
  rw [hl] at HL
  unfold opO at HL
  obtain ⟨i0, hi0, hz0, hz1, hz2⟩ := info_parts infoBq
  have HN := Lib.hid hnb
  have L1 := Lib.hid (show nb + 1 ≤ maxLen by unfold maxLen; omega)
  have L2 := Lib.hid (show (nb + 1) * 1 ≤ 140737488355328 by omega)
  clear h h1 h2 h3 hB hp hn hl
  go_enter Tryz.func69, Tryz.ntmps69
  go_wp2_with fail
  refine HL.out.mono ?_
  rintro e w2 ⟨rfl, hb⟩
  have HB2 := Lib.hid (HB.out.trans (hb.mono HS.out))
  have h2 := HD.out.below hb
  have HD2 := Lib.hid h2
  have HS2 := Lib.hid (Nat.le_trans HS.out hb.size)
  obtain ⟨⟨b0, b1, b2, b3⟩, _⟩ := h2.facts
  clear hb h2
  have HD3 := Lib.hid (HD2.out.below ((Below.refl _ _).alloc (Nat.le_refl _) (.cells #[.bool true] 4)))
  have HB3 := Lib.hid (HB2.out.alloc HS2.out (.cells #[.bool true] 4))
  have HS3 := Lib.hid (Nat.le_trans HS2.out (show w2.heap.size ≤ (w2.alloc (.cells #[.bool true] 4)).heap.size by simp))
  have hbr3 := HD3.out.br
  rw [HN.out] at hbr3
  have HR3 := Lib.hid hbr3
  clear hbr3
  go_wp2_with (at_builtin; go_loud (refine wpList_append_own _ rfl _ _ 50 rfl B 4 i0 _ 1 1 Tryz.underlying50 hi0 hz0 hz1 hz2 rfl (by decide) _ _ _ rfl HR3.out _ 1 1 [.bool true] rfl rfl (cells_newQ (by simp)) (fun u hu => by simp at hu; subst hu; rfl) L1.out L2.out HS3.out ?_); intro v6 w6 hown6 hgrow6 _; obtain ⟨p6, c6, rfl⟩ := lenL hown6; go_loud (have HD6 := Lib.hid (HD3.out.pushBr hgrow6 (by rw [HN.out]; exact hown6))); go_loud (have HB6 := Lib.hid (HB3.out.grown hgrow6 HS3.out (fun r e => (own_base HR3.out e).1))); go_loud (obtain ⟨⟨g0, g1, g2, g3⟩, g4, g5⟩ := DcM.facts2 (HD3.out.grownB hgrow6).1); have HG := Lib.hid HD3.out.gB; clear hown6 hgrow6)
  go_wp2_with fail
  go_ret
  exact ⟨rfl, HB6.out.setCell (p := ⟨g, 1, none⟩) HG.out _, _, _, HD6.out⟩
set_option maxHeartbeats 4000000 in
theorem inl_5_none (n : Int) (t : ByteArray) (p : Option Addr) (l c : Nat) (h : DcM B g w s vb vo) (hp : s.para = true) (hn : s.br.length = 0) :
    Calls Tryz.prog 69 #[.pointer (some ⟨g, 0, none⟩), opB 5 n t p l c] w (DoIs B g false s w) := by
  obtain ⟨pb, cb, rfl⟩ := lenL h.br
  obtain ⟨nb, hnb⟩ : ∃ nb, s.br.length = nb := ⟨_, rfl⟩
  rw [hnb] at h
  have hz : nb = 0 := hnb.symm.trans hn
  subst hz
  obtain ⟨h1, h2, h3, z0, hB⟩ := opA h 5 n t p l c
  obtain ⟨⟨c0, c1, c2, c3⟩, f0, f1, f2, f3⟩ := h1.facts
  obtain ⟨⟨d0, d1, d2, d3⟩, _⟩ := h.facts
  have HD := Lib.hid h1
  have HB := Lib.hid h2
  have HS := Lib.hid h3
  unfold opB
  unfold opO at c0 c1 c2 c3 f0 f1 f2 f3 z0 HD HB HS
  rw [hp] at c0 d0
  clear h h1 h2 h3 hB hp hn hnb
  go_enter Tryz.func69, Tryz.ntmps69
  go_wp2_with fail
  go_ret
  exact ⟨rfl, HB.out, _, _, HD.out⟩
set_option maxHeartbeats 4000000 in
theorem inl_5 (n : Int) (t : ByteArray) (p : Option Addr) (l c : Nat) (h : DcM B g w s vb vo) (hp : s.para = true) (hn : 0 < s.br.length) :
    Calls Tryz.prog 69 #[.pointer (some ⟨g, 0, none⟩), opB 5 n t p l c] w (DoIs B g true { s with br := s.br.dropLast } w) := by
  obtain ⟨l0, x0, e⟩ : ∃ l0 x0, s.br = l0 ++ [x0] := ⟨s.br.dropLast, s.br.getLast (List.length_pos_iff.1 hn), (List.dropLast_concat_getLast _).symm⟩
  obtain ⟨gg, cb, rfl, -, -⟩ := World.ownsRow.form h.br hn
  have hcap : s.br.length ≤ cb := by
    rcases h.br.2 with ⟨h8, _⟩ | ⟨_, _, _, h8, _, _, h7, _⟩
    · cases h8
    · cases h8; exact h7
  obtain ⟨h1, h2, h3, z0, hB⟩ := opA h 5 n t p l c
  obtain ⟨⟨c0, c1, c2, c3⟩, f0, f1, f2, f3⟩ := h1.facts
  obtain ⟨⟨d0, d1, d2, d3⟩, _⟩ := h.facts
  have HD := Lib.hid h1
  have HB := Lib.hid h2
  have HS := Lib.hid h3
  unfold opB
  unfold opO at c0 c1 c2 c3 f0 f1 f2 f3 z0 HD HB HS
  have hlen : s.br.length = l0.length + 1 := by rw [e]; simp
  have hcut := own_cut h1.br (show l0.length ≤ s.br.length by omega)
  have hcut2 : (w.alloc (opO 5 n t p l c)).ownsRow B 4 1 (.slice (some ⟨gg, 0, none⟩) l0.length cb) s.br.dropLast.length (bosV s.br.dropLast) := by
    have e2 : s.br.dropLast = l0 := by rw [e]; simp
    have e3 : (bosV s.br).take (l0.length * 1) = bosV l0 := by rw [e]; simp [bosV]
    rw [e2, ← e3]
    exact hcut
  have HD6 := Lib.hid (h1.setBr hcut2)
  have HG := Lib.hid h.gB
  unfold opO at HD6
  rw [hp] at c0 d0
  rw [hlen] at c1 d1 hcap
  obtain ⟨m, hm⟩ : ∃ m, l0.length = m := ⟨_, rfl⟩
  rw [hm] at c1 d1 hcap HD6
  have t0 : (((m + 1 : Nat) : Int) == 0) = false := by simp; omega
  have m62 : m + 1 ≤ 9223372036854775807 := by
    rcases h.br.2 with ⟨h8, _⟩ | ⟨_, _, _, h8, _, _, h7, h6, _⟩
    · cases h8
    · cases h8; unfold maxLen at h6; omega
  have e1' : wrap64 (((m + 1 : Nat) : Int) - 1) = (m : Int) := by unfold wrap64; omega
  have e2' : ((m + 1 : Nat) : Int) - 1 = (m : Int) := by omega
  have e4 : (m : Int) ≤ cb := by omega
  have e5 : m ≤ cb := by omega
  clear h h1 h2 h3 hB hp hn e hlen hcut hcut2 hm
  go_enter Tryz.func69, Tryz.ntmps69
  go_wp2_with fail
  go_ret
  exact ⟨rfl, HB.out.setCell (p := ⟨g, 1, none⟩) HG.out _, _, _, HD6.out⟩
set_option maxHeartbeats 4000000 in
theorem inl_9_open (n : Int) (t : ByteArray) (p : Option Addr) (l c : Nat) (h : DcM B g w s vb vo) (hp : s.para = true) (hn : 0 < s.br.length) :
    Calls Tryz.prog 69 #[.pointer (some ⟨g, 0, none⟩), opB 9 n t p l c] w (DoIs B g false s w) := by
  obtain ⟨pb, cb, rfl⟩ := lenL h.br
  obtain ⟨nb, hnb⟩ : ∃ nb, s.br.length = nb := ⟨_, rfl⟩
  rw [hnb] at h
  obtain ⟨h1, h2, h3, z0, hB⟩ := opA h 9 n t p l c
  obtain ⟨⟨c0, c1, c2, c3⟩, f0, f1, f2, f3⟩ := h1.facts
  obtain ⟨⟨d0, d1, d2, d3⟩, _⟩ := h.facts
  have HD := Lib.hid h1
  have HB := Lib.hid h2
  have HS := Lib.hid h3
  unfold opB
  unfold opO at c0 c1 c2 c3 f0 f1 f2 f3 z0 HD HB HS
  rw [hp] at c0 d0
  rw [hnb] at hn
  have e1 : (0 : Int) < nb := by omega
  clear h h1 h2 h3 hB hp hnb
  go_enter Tryz.func69, Tryz.ntmps69
  go_wp2_with fail
  go_ret
  exact ⟨rfl, HB.out, _, _, HD.out⟩
set_option maxHeartbeats 4000000 in
theorem inl_9 (n : Int) (t : ByteArray) (p : Option Addr) (l c : Nat) (h : DcM B g w s vb vo) (hp : s.para = true) (hn : s.br.length = 0) :
    Calls Tryz.prog 69 #[.pointer (some ⟨g, 0, none⟩), opB 9 n t p l c] w (DoIs B g true { s with para := false } w) := by
  obtain ⟨pb, cb, rfl⟩ := lenL h.br
  obtain ⟨nb, hnb⟩ : ∃ nb, s.br.length = nb := ⟨_, rfl⟩
  rw [hnb] at h
  have hz : nb = 0 := hnb.symm.trans hn
  subst hz
  obtain ⟨h1, h2, h3, z0, hB⟩ := opA h 9 n t p l c
  obtain ⟨⟨c0, c1, c2, c3⟩, f0, f1, f2, f3⟩ := h1.facts
  obtain ⟨⟨d0, d1, d2, d3⟩, _⟩ := h.facts
  have HD := Lib.hid h1
  have HB := Lib.hid h2
  have HS := Lib.hid h3
  unfold opB
  unfold opO at c0 c1 c2 c3 f0 f1 f2 f3 z0 HD HB HS
  have HD6 := Lib.hid (h1.setPara false)
  have HG := Lib.hid h.gB
  unfold opO at HD6
  rw [hp] at c0 d0
  clear h h1 h2 h3 hB hp hn hnb
  go_enter Tryz.func69, Tryz.ntmps69
  go_wp2_with fail
  go_ret
  exact ⟨rfl, HB.out.setCell (p := ⟨g, 0, none⟩) HG.out _, _, _, HD6.out⟩
end
end Go.Proofs.YtjohhahfpgfjdaaGreatDoor.Ir
