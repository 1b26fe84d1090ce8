/- What is proved: LayoutHits holds of all lines, layouts and places (the statement's second form). Its condition: what comes in is of bulk at most 1048576. Part 8: its texts. -/
import Derived.Test.YtalomeialegmiaaGreatDoorKLayoutHits6
import Derived.Test.YtalomeialegmiaaGreatDoorKLayoutHits7
import Derived.ProofKit
import Derived.OpenShut
import Derived.Deep.DeepHandedRow
import Derived.Deep.RegionHeld3
section
namespace Go.Proofs.YtalomeialegmiaaGreatDoor.Tb
open Go.ChangeShapes Go.WideShapes Go.ChangeAt Go.RowKit Go.Maps
set_option linter.unusedVariables false
set_option linter.unusedSimpArgs false
theorem laid_cellsY (w : World) (a b c x : Value) : (w.alloc (.cells #[a, b, c, x] 29)).cell? ⟨w.heap.size, 0, none⟩ = some a ∧ (w.alloc (.cells #[a, b, c, x] 29)).cell? ⟨w.heap.size, 1, none⟩ = some b ∧ (w.alloc (.cells #[a, b, c, x] 29)).cell? ⟨w.heap.size, 2, none⟩ = some c ∧ (w.alloc (.cells #[a, b, c, x] 29)).cell? ⟨w.heap.size, 3, none⟩ = some x := by
  refine ⟨?_, ?_, ?_, ?_⟩ <;> rw [cell_of_row _ _ _ _ _ _ (heap_alloc_new w _)] <;> rfl
/-- The two boxes of a law over two layouts. -/
def Bx (A B : Nat) (a b c x a' b' c' x' : Value) (w : World) : Prop := w.cell? ⟨A, 0, none⟩ = some a ∧ w.cell? ⟨A, 1, none⟩ = some b ∧ w.cell? ⟨A, 2, none⟩ = some c ∧ w.cell? ⟨A, 3, none⟩ = some x ∧ w.cell? ⟨B, 0, none⟩ = some a' ∧ w.cell? ⟨B, 1, none⟩ = some b' ∧ w.cell? ⟨B, 2, none⟩ = some c' ∧ w.cell? ⟨B, 3, none⟩ = some x'
theorem bx_new (W : World) (a b c x a' b' c' x' : Value) : Bx W.heap.size (W.heap.size + 1) a b c x a' b' c' x' ((W.alloc (.cells #[a, b, c, x] 29)).alloc (.cells #[a', b', c', x'] 29)) := by
  obtain ⟨h0, h1, h2, h3⟩ := laid_cellsY W a b c x
  have g := laid_cellsY (W.alloc (.cells #[a, b, c, x] 29)) a' b' c' x'
  rw [show (W.alloc (.cells #[a, b, c, x] 29)).heap.size = W.heap.size + 1 by simp] at g
  obtain ⟨g0, g1, g2, g3⟩ := g
  have hb := below_box (W.alloc (.cells #[a, b, c, x] 29)) (.cells #[a', b', c', x'] 29)
  exact ⟨(hb.cell (cellInL h0)).trans h0, (hb.cell (cellInL h1)).trans h1, (hb.cell (cellInL h2)).trans h2, (hb.cell (cellInL h3)).trans h3, g0, g1, g2, g3⟩
theorem Bx.below {A B : Nat} {a b c x a' b' c' x' : Value} {w w' : World} (h : Bx A B a b c x a' b' c' x' w) (hb : Below w.heap.size w w') : Bx A B a b c x a' b' c' x' w' := by
  obtain ⟨h0, h1, h2, h3, g0, g1, g2, g3⟩ := h
  exact ⟨(hb.cell (cellInL h0)).trans h0, (hb.cell (cellInL h1)).trans h1, (hb.cell (cellInL h2)).trans h2, (hb.cell (cellInL h3)).trans h3, (hb.cell (cellInL g0)).trans g0, (hb.cell (cellInL g1)).trans g1, (hb.cell (cellInL g2)).trans g2, (hb.cell (cellInL g3)).trans g3⟩
theorem s8_next {A B : Nat} {a b c x a' b' c' x' : Value} {W w w' : World} (h : w.cell? ⟨A, 0, none⟩ = some a ∧ w.cell? ⟨A, 1, none⟩ = some b ∧ w.cell? ⟨A, 2, none⟩ = some c ∧ w.cell? ⟨A, 3, none⟩ = some x ∧ w.cell? ⟨B, 0, none⟩ = some a' ∧ w.cell? ⟨B, 1, none⟩ = some b' ∧ w.cell? ⟨B, 2, none⟩ = some c' ∧ w.cell? ⟨B, 3, none⟩ = some x' ∧ Below W.heap.size W w) (hb : Below w.heap.size w w') :
    w'.cell? ⟨A, 0, none⟩ = some a ∧ w'.cell? ⟨A, 1, none⟩ = some b ∧ w'.cell? ⟨A, 2, none⟩ = some c ∧ w'.cell? ⟨A, 3, none⟩ = some x ∧ w'.cell? ⟨B, 0, none⟩ = some a' ∧ w'.cell? ⟨B, 1, none⟩ = some b' ∧ w'.cell? ⟨B, 2, none⟩ = some c' ∧ w'.cell? ⟨B, 3, none⟩ = some x' ∧ Below W.heap.size W w' := by
  obtain ⟨h0, h1, h2, h3, g0, g1, g2, g3, h⟩ := h
  exact ⟨(hb.cell (cellInL h0)).trans h0, (hb.cell (cellInL h1)).trans h1, (hb.cell (cellInL h2)).trans h2, (hb.cell (cellInL h3)).trans h3, (hb.cell (cellInL g0)).trans g0, (hb.cell (cellInL g1)).trans g1, (hb.cell (cellInL g2)).trans g2, (hb.cell (cellInL g3)).trans g3, h.trans (hb.mono h.size)⟩
theorem two_cells (w : World) (a b : Value) (T : TypeId) : (w.alloc (.cells #[a, b] T)).cell? ⟨w.heap.size, 0, none⟩ = some a ∧ (w.alloc (.cells #[a, b] T)).cell? ⟨w.heap.size, 1, none⟩ = some b := by
  refine ⟨?_, ?_⟩ <;> rw [cell_of_row _ _ _ _ _ _ (heap_alloc_new w _)] <;> rfl
theorem hitV_form (o : Option Int) : ∃ z b, hitV o = .tuple #[.int .i64 z, .bool b] := by
  cases o
  · exact ⟨_, _, rfl⟩
  · exact ⟨_, _, rfl⟩
set_option maxRecDepth 100000 in
set_option maxHeartbeats 8000000 in
theorem hits_walk {T : World → Prop} (hTb : ∀ w w' : World, T w → Below w.heap.size w w' → T w') (HAW : ∀ w : World, T w → Calls Tryz.prog 9 #[] w (SaysL (.bool true) w)) (v : Value) (ls : List (List Gl)) (vl vr vk : Value) (d : Ld) (ul ur uk : Value) (o : Ld) (vh : Value) (hs : List (Int × Int)) (W : World) (hT : T W)
    (hL : RdL (fun _ => True) W v ls) (hLw : ∀ l ∈ ls, OkW l) (hLf : glB ls ≤ 1048576)
    (hD : LdIs (fun _ => True) W vl vr vk d) (hDf : glB d.lines ≤ 1048576) (hDn : d.lines.length ≤ 1048576)
    (hO : LdIs (fun _ => True) W ul ur uk o) (hH : RdC (fun _ => True) W vh hs) (hHw : ∀ c ∈ hs, In64 c.1 ∧ In64 c.2) :
    Calls Tryz.prog 4 #[v, laidV vl vr vk d.more, laidV ul ur uk o.more, vh] W fun e W' => e = .returned (.bool true) ∧ Below W.heap.size W W' := by
  have HLI := Lib.hid hL
  have HDI := Lib.hid hD
  have HOI := Lib.hid hO
  have HHI := Lib.hid hH
  have HHW := Lib.hid hHw
  have HLW := Lib.hid hLw
  have F1 := Lib.hid (show ls.flatten.length * 32 ≤ 140737488355328 by have := glB_flat ls; omega)
  have F2 := Lib.hid (show d.lines.length * 24 ≤ 140737488355328 by omega)
  have F3 := Lib.hid (show ∀ l ∈ d.lines, (txtL l).length ≤ 1000000000 from fun l hl => by have := sumN_mem (fun l : List Gl => (txtL l).length + l.length) hl; unfold glB at hDf; omega)
  obtain ⟨p1, c1, rfl, _, _⟩ := hD.lines.form
  obtain ⟨p2, c2, rfl, _, _⟩ := hD.rects.form
  obtain ⟨p3, c3, rfl, _, _⟩ := sliceC hD.links
  obtain ⟨p4, c4, rfl, _, _⟩ := hO.lines.form
  obtain ⟨p5, c5, rfl, _, _⟩ := hO.rects.form
  obtain ⟨p6, c6, rfl, _, _⟩ := sliceC hO.links
  obtain ⟨p0, c0, rfl, _, _⟩ := hL.form
  obtain ⟨p7, c7, rfl, hn1, hn2⟩ := sliceC hH
  obtain ⟨n, hn⟩ : ∃ n, hs.length = n := ⟨_, rfl⟩
  have HN := Lib.hid hn
  rw [hn] at HHI hn1 ⊢
  have n62 : n ≤ 9223372036854775807 := by omega
  unfold laidV
  clear hL hLw hLf hD hDf hDn hO hH hHw hn hn1 hn2
  go_enter Tryz.func4, Tryz.ntmps4
  go_upto_region 1 with fail
  have hbx := bx_new W (.slice p1 d.lines.length c1) (.slice p2 d.rects.length c2) (.slice p3 d.links.length c3) (.bool d.more) (.slice p4 o.lines.length c4) (.slice p5 o.rects.length c5) (.slice p6 o.links.length c6) (.bool o.more)
  have hbb := (below_box W (.cells #[.slice p1 d.lines.length c1, .slice p2 d.rects.length c2, .slice p3 d.links.length c3, .bool d.more] 29))
  have hbc := below_box (W.alloc (.cells #[.slice p1 d.lines.length c1, .slice p2 d.rects.length c2, .slice p3 d.links.length c3, .bool d.more] 29)) (.cells #[.slice p4 o.lines.length c4, .slice p5 o.rects.length c5, .slice p6 o.links.length c6, .bool o.more] 29)
  have hB := hbb.trans (hbc.mono hbb.size)
  obtain ⟨wb, hwb⟩ : ∃ wb, ((W.alloc (.cells #[.slice p1 d.lines.length c1, .slice p2 d.rects.length c2, .slice p3 d.links.length c3, .bool d.more] 29)).alloc (.cells #[.slice p4 o.lines.length c4, .slice p5 o.rects.length c5, .slice p6 o.links.length c6, .bool o.more] 29)) = wb := ⟨_, rfl⟩
  rw [hwb] at hbx hB ⊢
  clear hbb hbc hwb
  have HB := Lib.hid hB
  have HTW := Lib.hid (hTb _ _ hT hB)
  have HL2 := Lib.hid (HLI.out.below hB)
  have HD2 := Lib.hid (HDI.out.below hB)
  have HO2 := Lib.hid (HOI.out.below hB)
  have HH2 := Lib.hid (HHI.out.below hB)
  clear hB HLI HDI HOI HHI
  obtain ⟨z, hz⟩ : ∃ z, decide (d = o) = z := ⟨_, rfl⟩
  have HZ := Lib.hid hz
  have zz : (z != z) = false := by cases z <;> rfl
  have HM5 := Lib.hid True.intro
  obtain ⟨x0, x1, x2, x3, x4, x5, x6, x7⟩ := hbx
  clear hz
  go_region_held3 (fun w' => w'.cell? ⟨W.heap.size, 0, none⟩ = some (.slice p1 d.lines.length c1) ∧ w'.cell? ⟨W.heap.size, 1, none⟩ = some (.slice p2 d.rects.length c2) ∧ w'.cell? ⟨W.heap.size, 2, none⟩ = some (.slice p3 d.links.length c3) ∧ w'.cell? ⟨W.heap.size, 3, none⟩ = some (.bool d.more) ∧ w'.cell? ⟨W.heap.size + 1, 0, none⟩ = some (.slice p4 o.lines.length c4) ∧ w'.cell? ⟨W.heap.size + 1, 1, none⟩ = some (.slice p5 o.rects.length c5) ∧ w'.cell? ⟨W.heap.size + 1, 2, none⟩ = some (.slice p6 o.links.length c6) ∧ w'.cell? ⟨W.heap.size + 1, 3, none⟩ = some (.bool o.more) ∧ Below wb.heap.size wb w')
    (first | exact ⟨x0, x1, x2, x3, x4, x5, x6, x7, (Below.refl _ _).drew⟩ | exact s8_next (by assumption) h8 | assumption)
    ((first
      | (go_at_call 9; refine (HAW _ (hTb _ _ HTW.out ((by assumption : _ ∧ _ ∧ _ ∧ _ ∧ _ ∧ _ ∧ _ ∧ _ ∧ Below wb.heap.size wb _).2.2.2.2.2.2.2.2))).mono ?_; rintro e wa ⟨rfl, h8⟩)
      | (go_at_call 18; refine (rects_pro ls _ _ (HL2.out.below ((by assumption : _ ∧ _ ∧ _ ∧ _ ∧ _ ∧ _ ∧ _ ∧ _ ∧ Below wb.heap.size wb _).2.2.2.2.2.2.2.2)) F1.out).mono ?_; rintro e w8 ⟨v8, rfl, ho8, h8⟩; have R1 := Lib.hid (RdQ.own ho8 rfl); clear ho8)
      | (go_at_call 19; refine (rects_ref ls _ _ (HL2.out.below ((by assumption : _ ∧ _ ∧ _ ∧ _ ∧ _ ∧ _ ∧ _ ∧ _ ∧ Below wb.heap.size wb _).2.2.2.2.2.2.2.2)) F1.out HLW.out).mono ?_; rintro e w9 ⟨v9, rfl, ho8, h8⟩; have R2 := Lib.hid (RdQ.own ho8 rfl); replace R1 := Lib.hid (R1.out.below h8); clear ho8)
      | (go_at_call 17; refine (lrects_law (rectsL ls) _ _ _ R1.out R2.out).mono ?_; rintro e w10 ⟨rfl, h8⟩)
      | (clear HM5; go_at_call 20; refine (lsame_pro d o _ _ _ _ _ _ _ (HD2.out.below ((by assumption : _ ∧ _ ∧ _ ∧ _ ∧ _ ∧ _ ∧ _ ∧ _ ∧ Below wb.heap.size wb _).2.2.2.2.2.2.2.2)) (HO2.out.below ((by assumption : _ ∧ _ ∧ _ ∧ _ ∧ _ ∧ _ ∧ _ ∧ _ ∧ Below wb.heap.size wb _).2.2.2.2.2.2.2.2))).mono ?_; rintro e w11 ⟨rfl, h8⟩; rw [HZ.out])
      | (go_at_call 13; refine (lsame_ref d o _ _ _ _ _ _ _ (HD2.out.below ((by assumption : _ ∧ _ ∧ _ ∧ _ ∧ _ ∧ _ ∧ _ ∧ _ ∧ Below wb.heap.size wb _).2.2.2.2.2.2.2.2)) (HO2.out.below ((by assumption : _ ∧ _ ∧ _ ∧ _ ∧ _ ∧ _ ∧ _ ∧ _ ∧ Below wb.heap.size wb _).2.2.2.2.2.2.2.2))).mono ?_; rintro e w12 ⟨rfl, h8⟩; rw [HZ.out])
      | (go_at_call 20; refine (lsame_pro d d _ _ _ _ _ _ _ (HD2.out.below ((by assumption : _ ∧ _ ∧ _ ∧ _ ∧ _ ∧ _ ∧ _ ∧ _ ∧ Below wb.heap.size wb _).2.2.2.2.2.2.2.2)) (HD2.out.below ((by assumption : _ ∧ _ ∧ _ ∧ _ ∧ _ ∧ _ ∧ _ ∧ _ ∧ Below wb.heap.size wb _).2.2.2.2.2.2.2.2))).mono ?_; rintro e w13 ⟨rfl, h8⟩; rw [decide_eq_true (rfl : d = d)])
      | (go_at_call 15; refine (show_pro d.lines _ _ _ d.more _ (HD2.out.lines.below ((by assumption : _ ∧ _ ∧ _ ∧ _ ∧ _ ∧ _ ∧ _ ∧ _ ∧ Below wb.heap.size wb _).2.2.2.2.2.2.2.2)) rfl rfl F2.out F3.out).mono ?_; rintro e w14 ⟨v14, rfl, ho8, h8⟩; have R3 := Lib.hid (RdS.own ho8 rfl); clear ho8)
      | (go_at_call 16; refine (show_ref d.lines _ _ (HD2.out.lines.below ((by assumption : _ ∧ _ ∧ _ ∧ _ ∧ _ ∧ _ ∧ _ ∧ _ ∧ Below wb.heap.size wb _).2.2.2.2.2.2.2.2)) F2.out F3.out).mono ?_; rintro e w15 ⟨v15, rfl, ho8, h8⟩; have R4 := Lib.hid (RdS.own ho8 rfl); replace R3 := Lib.hid (R3.out.below h8); clear ho8)
      | (go_at_call 14; refine (texts_ref (showL d.lines) _ _ _ R3.out R4.out).mono ?_; rintro e w16 ⟨rfl, h8⟩)))
  have hS := (by assumption : w16.cell? ⟨W.heap.size, 0, none⟩ = some (.slice p1 d.lines.length c1) ∧ w16.cell? ⟨W.heap.size, 1, none⟩ = some (.slice p2 d.rects.length c2) ∧ w16.cell? ⟨W.heap.size, 2, none⟩ = some (.slice p3 d.links.length c3) ∧ w16.cell? ⟨W.heap.size, 3, none⟩ = some (.bool d.more) ∧ w16.cell? ⟨W.heap.size + 1, 0, none⟩ = some (.slice p4 o.lines.length c4) ∧ w16.cell? ⟨W.heap.size + 1, 1, none⟩ = some (.slice p5 o.rects.length c5) ∧ w16.cell? ⟨W.heap.size + 1, 2, none⟩ = some (.slice p6 o.links.length c6) ∧ w16.cell? ⟨W.heap.size + 1, 3, none⟩ = some (.bool o.more) ∧ Below wb.heap.size wb w16)
  clear x0 x1 x2 x3 x4 x5 x6 x7
  obtain ⟨x0, x1, x2, x3, x4, x5, x6, x7, hb16⟩ := hS
  have HBX := Lib.hid (show Bx W.heap.size (W.heap.size + 1) (.slice p1 d.lines.length c1) (.slice p2 d.rects.length c2) (.slice p3 d.links.length c3) (.bool d.more) (.slice p4 o.lines.length c4) (.slice p5 o.rects.length c5) (.slice p6 o.links.length c6) (.bool o.more) w16 from ⟨x0, x1, x2, x3, x4, x5, x6, x7⟩)
  have HBW := Lib.hid (HB.out.trans (hb16.mono HB.out.size))
  have HD3 := Lib.hid (HD2.out.below hb16)
  have HH3 := Lib.hid (HH2.out.below hb16)
  rename_i K hK
  clear x0 x1 x2 x3 x4 x5 x6 x7 hb16 R1 R2 R3 R4 HL2 HD2 HO2 HH2 F1 F2 F3 HLW HZ zz HAW HTW hT HB
  go_wp2_with fail
  go_loopw [51] (fun i wr => ∃ (k : Nat), i = .int .i64 k ∧ k ≤ n ∧ Hid (Below w16.heap.size w16 wr)) (fun i _ => n - (intOf i).toNat)
  case atStart => exact ⟨0, rfl, Nat.zero_le _, Lib.hid (Below.refl _ _)⟩
  case round =>
    obtain ⟨k, rfl, hk, HR⟩ := hrel
    by_cases hlt : k < n
    · have hkl : k < hs.length := by rw [HN.out]; exact hlt
      have k1 : (k : Int) < n := by omega
      have HLT := Lib.hid hlt
      obtain ⟨b, off, rfl, _, q0, q1⟩ := (HH3.out.below HR.out).cell hkl
      obtain ⟨y, hy⟩ : ∃ y, hs[k] = y := ⟨_, rfl⟩
      rw [hy] at q0 q1
      have hA := below_box wr (.cells #[.int .i64 y.1, .int .i64 y.2] 46)
      have hR1 := HR.out.trans (hA.mono HR.out.size)
      obtain ⟨y0, y1⟩ := two_cells wr (.int .i64 y.1) (.int .i64 y.2) 46
      obtain ⟨x0, x1, x2, x3, _, _, _, _⟩ := HBX.out.below hR1
      have HR1 := Lib.hid hR1
      have HY0 := Lib.hid y0
      have HY1 := Lib.hid y1
      have HC := Lib.hid (hit_pro d.rects _ _ _ d.more y.1 y.2 _ (HD3.out.rects.below hR1) (rfl : (Value.slice p1 d.lines.length c1).oneCell' = true) (rfl : (Value.slice p3 d.links.length c3).oneCell' = true))
      clear hy hA hR1 hlt hkl
      go_wp2_with fail
      obtain ⟨z1, bz, hv⟩ := hitV_form (hitF y.1 y.2 d.rects)
      have HV := Lib.hid hv
      rw [hv] at HC
      have zz := show (z1 != z1) = false by simp
      have bb := show (bz != bz) = false by cases bz <;> rfl
      refine HC.out.mono ?_
      rintro e w20 ⟨rfl, b20⟩
      clear x0 x1 x2 x3 y0 y1 hv
      have hR2 := HR1.out.trans (b20.mono HR1.out.size)
      obtain ⟨x0, x1, x2, x3, _, _, _, _⟩ := HBX.out.below hR2
      have y0 := (b20.cell (cellInL HY0.out)).trans HY0.out
      have y1 := (b20.cell (cellInL HY1.out)).trans HY1.out
      have HR2 := Lib.hid hR2
      have HC2 := Lib.hid (hit_ref d.rects _ _ _ d.more y.1 y.2 _ (HD3.out.rects.below hR2) (rfl : (Value.slice p1 d.lines.length c1).oneCell' = true) (rfl : (Value.slice p3 d.links.length c3).oneCell' = true))
      rw [HV.out] at HC2
      clear hR2 b20 HC
      go_wp2_with fail
      refine HC2.out.mono ?_
      rintro e w21 ⟨rfl, b21⟩
      clear x0 x1 x2 x3 y0 y1
      have HR3 := Lib.hid (HR2.out.trans (b21.mono HR2.out.size))
      clear b21 HC2
      go_wp2_with fail
      go_roundw
      case measure => have := HLT.out; simp [intOf]; omega
      case rel => exact ⟨k + 1, by go_num, HLT.out, HR3⟩
    · obtain rfl : k = n := by omega
      have hzk : ¬ (k : Int) < k := by omega
      clear hlt
      go_wp2_with fail
      go_ret
      exact ⟨rfl, HBW.out.trans (HR.out.mono HBW.out.size)⟩
end Go.Proofs.YtalomeialegmiaaGreatDoor.Tb
end
