/- What is proved: LayoutHits holds of all lines, layouts and places (the statement's second form). Its condition: what comes in is of bulk at most 1048576. Part 22: its texts. -/
import Derived.Test.YtalomeialegmiaaGreatDoorKLayoutHits4
import Derived.Test.YtalomeialegmiaaGreatDoorKLayoutHits6
import Derived.Test.YtalomeialegmiaaGreatDoorKLayoutHits14
import Derived.Test.YtalomeialegmiaaGreatDoorKLayoutHits21
import Derived.Deep.CutRange
import Derived.Laws.ResultCell
section
namespace Go.Proofs.YtalomeialegmiaaGreatDoor.Tb
open Go.RowKit Go.Maps
set_option linter.unusedVariables false
set_option linter.unusedSimpArgs false
set_option maxRecDepth 100000 in
set_option maxHeartbeats 4000000 in
theorem ltake_2 {op : Bool} {B M : Nat} {K : Nat → Prop} {wd : Int} {ch : List S6.Chg} {y : Ly} (n : Int) (t : ByteArray) (ws : List Int) (pw : Option Addr) (l cw : Nat) (w : World) (h : LyI op B M K wd ch y w) (h0 : 0 < y.lo.length) (h18 : y.lo.length < 18) (hn : n < ch.length) :
    Calls Tryz.prog 32 #[.pointer (some ⟨M, 0, none⟩), .agg #[.int .i64 2, .int .i64 n, .string t, .slice pw l cw]] w (LyPost op B M K wd ch (takeY wd ch y ⟨2, n, t, ws⟩) (.tuple #[]) w) := by
  have HEQ : Hid (takeY wd ch y ⟨2, n, t, ws⟩ = { (layY y (styledK ch y n) false : Ly) with ah := 2 }) := Lib.hid (by simp [takeY, stepY])
  rw [HEQ.out]
  have hbx := below_box w (.cells #[.int .i64 2, .int .i64 n, .string t, .slice pw l cw] 65)
  have hG := h.grow hbx
  have HLT := Lib.hid (fun b hb => h.lt b hb)
  have HBW := Lib.hid (show B ≤ w.heap.size by have := h.bounds; omega)
  obtain ⟨K2, hK2⟩ : ∃ K2 : Nat → Prop, (fun b => K b ∨ (w.heap.size ≤ b ∧ b < (w.alloc (.cells #[.int .i64 2, .int .i64 n, .string t, .slice pw l cw] 65)).heap.size)) = K2 := ⟨_, rfl⟩
  have HKK := Lib.hid (show ∀ b, K b → K2 b from fun b hb => by rw [← hK2]; exact .inl hb)
  have HKB2 := Lib.hid (show K2 w.heap.size by rw [← hK2]; exact .inr ⟨Nat.le_refl _, by simp⟩)
  rw [hK2] at hG
  have HX := Lib.hid (heap_alloc_new w (.cells #[.int .i64 2, .int .i64 n, .string t, .slice pw l cw] 65))
  have HBX := Lib.hid hbx
  have HG := Lib.hid hG
  obtain ⟨W1, hW1⟩ : ∃ W1, w.alloc (.cells #[.int .i64 2, .int .i64 n, .string t, .slice pw l cw] 65) = W1 := ⟨_, rfl⟩
  have mixed : Tryz.prog.follows .mixedOrders = true := by kernel_rfl
  rw [hW1] at HG HBX HX
  obtain ⟨tb, htb⟩ : ∃ tb, w.heap.size = tb := ⟨_, rfl⟩
  have HTB := Lib.hid htb
  rw [htb] at HX HKB2
  have hx0 := HX.out
  have b0 : W1.cell? ⟨tb, 0, none⟩ = some (.int .i64 2) := by rw [cell_of_row _ _ _ _ _ _ hx0]; rfl
  have b1 : W1.cell? ⟨tb, 1, none⟩ = some (.int .i64 n) := by rw [cell_of_row _ _ _ _ _ _ hx0]; rfl
  have b3 : W1.cell? ⟨tb, 3, none⟩ = some (.slice pw l cw) := by rw [cell_of_row _ _ _ _ _ _ hx0]; rfl
  clear hx0
  have HST := Lib.hid (styled_pro n W1.drew HG.out.drew h0 hn)
  obtain ⟨k, hk⟩ : ∃ k, styledK ch y n = k := ⟨_, rfl⟩
  have H18 := Lib.hid h18
  have HD := Lib.hid ((Below.refl W1.heap.size W1).drew)
  rw [hk] at HST ⊢
  clear hG hK2 hbx HEQ h h0 h18 hn hk
  go_enter Tryz.func32, Tryz.ntmps32
  go_wp2_with fail
  try simp only [hW1, htb]
  go_region_law (first
    | (go_simp; go_at_call 63; refine HST.out.mono ?_; rintro e w6 ⟨rfl, hb6⟩; have HB6 := Lib.hid (HD.out.trans (hb6.mono HD.out.size)); clear hb6)
    | (go_simp; go_at_call 58; refine (lay_pro k false _ (HG.out.below HB6.out) H18.out).mono ?_; rintro e w7 ⟨rfl, h7, hk7⟩; have HIQ := Lib.hid h7; have HKQ := Lib.hid ((Kp.of HB6.out (fun b hb => HG.out.lt b hb)).trans hk7); clear h7 hk7))
  all_goals
    have hx1 := (HKQ.out.block _ HKB2.out).trans HX.out
    have d0 : w7.cell? ⟨tb, 0, none⟩ = some (.int .i64 2) := by rw [cell_of_row _ _ _ _ _ _ hx1]; rfl
    obtain ⟨vh, vl, vk, vc, ve, vf, vo, vs, cs, c, h, h2⟩ := HIQ.out
    have HH := Lib.hid h
    have HO := Lib.hid h2
    have f92 := h.free 92
    obtain ⟨u92, q92⟩ := h.old (j := 92) (by omega)
    clear h h2 hx1 b0 b1 b3
    go_wp2_with fail
    first | go_end0 | refine bodyPost_ret (results_none rfl _ _ _) rfl ?_
    have E := HH.out.ed.set 92 (.int .i64 2)
    have h5 := HH.out.edit (y' := { layY y k false with ah := 2 }) E (HH.out.cel.setAh 2) rfl rfl rfl rfl rfl
    exact ⟨rfl, LyI.less ⟨_, _, _, _, _, _, _, _, _, _, h5, fun e => by first | exact HO.out e | exact HO.out trivial | cases e⟩ HKK.out, (Kp.of HBX.out (fun b hb => HLT.out b hb)).trans ((HKQ.out.trans (E.kp HH.out.notK)).mono HKK.out)⟩
set_option maxRecDepth 100000 in
set_option maxHeartbeats 4000000 in
theorem ltake_12 {op : Bool} {B M : Nat} {K : Nat → Prop} {wd : Int} {ch : List S6.Chg} {y : Ly} (n : Int) (t : ByteArray) (ws : List Int) (pw : Option Addr) (l cw : Nat) (w : World) (h : LyI op B M K wd ch y w) {P : Nat → Prop} (hr : RdZ P w (.slice pw l cw) ws) (hw : 10 ≤ wd ∧ wd ≤ 200) :
    Calls Tryz.prog 32 #[.pointer (some ⟨M, 0, none⟩), .agg #[.int .i64 12, .int .i64 n, .string t, .slice pw l cw]] w (LyPost op B M K wd ch (takeY wd ch y ⟨12, n, t, ws⟩) (.tuple #[]) w) := by
  have HEQ : Hid (takeY wd ch y ⟨12, n, t, ws⟩ = { ({ y with co := colsL ws wd } : Ly) with ah := 12 }) := Lib.hid (by simp [takeY, stepY])
  rw [HEQ.out]
  have hbx := below_box w (.cells #[.int .i64 12, .int .i64 n, .string t, .slice pw l cw] 65)
  have hG := h.grow hbx
  have HLT := Lib.hid (fun b hb => h.lt b hb)
  have HBW := Lib.hid (show B ≤ w.heap.size by have := h.bounds; omega)
  obtain ⟨K2, hK2⟩ : ∃ K2 : Nat → Prop, (fun b => K b ∨ (w.heap.size ≤ b ∧ b < (w.alloc (.cells #[.int .i64 12, .int .i64 n, .string t, .slice pw l cw] 65)).heap.size)) = K2 := ⟨_, rfl⟩
  have HKK := Lib.hid (show ∀ b, K b → K2 b from fun b hb => by rw [← hK2]; exact .inl hb)
  have HKB2 := Lib.hid (show K2 w.heap.size by rw [← hK2]; exact .inr ⟨Nat.le_refl _, by simp⟩)
  rw [hK2] at hG
  have HX := Lib.hid (heap_alloc_new w (.cells #[.int .i64 12, .int .i64 n, .string t, .slice pw l cw] 65))
  have HBX := Lib.hid hbx
  have HG := Lib.hid hG
  obtain ⟨W1, hW1⟩ : ∃ W1, w.alloc (.cells #[.int .i64 12, .int .i64 n, .string t, .slice pw l cw] 65) = W1 := ⟨_, rfl⟩
  have mixed : Tryz.prog.follows .mixedOrders = true := by kernel_rfl
  rw [hW1] at HG HBX HX
  obtain ⟨tb, htb⟩ : ∃ tb, w.heap.size = tb := ⟨_, rfl⟩
  have HTB := Lib.hid htb
  rw [htb] at HX HKB2
  have hx0 := HX.out
  have b0 : W1.cell? ⟨tb, 0, none⟩ = some (.int .i64 12) := by rw [cell_of_row _ _ _ _ _ _ hx0]; rfl
  have b1 : W1.cell? ⟨tb, 1, none⟩ = some (.int .i64 n) := by rw [cell_of_row _ _ _ _ _ _ hx0]; rfl
  have b3 : W1.cell? ⟨tb, 3, none⟩ = some (.slice pw l cw) := by rw [cell_of_row _ _ _ _ _ _ hx0]; rfl
  clear hx0
  have hrd : RdZ P W1.drew (.slice pw l cw) ws := by
    have h9 := hr.below hbx
    rw [hW1] at h9
    exact h9
  have HCP := Lib.hid (columns_pro ws _ wd W1.drew hrd (by simp [Lit.wf, IntKind.min, IntKind.max, IntKind.signed, IntKind.bits]; omega))
  unfold ColsPost at HCP
  obtain ⟨cl, hcl⟩ : ∃ cl, colsL ws wd = cl := ⟨_, rfl⟩
  obtain ⟨z, hz⟩ : ∃ z, colsE ws wd = z := ⟨_, rfl⟩
  have HD := Lib.hid ((Below.refl W1.heap.size W1).drew)
  rw [hcl] at HCP ⊢
  rw [hz] at HCP
  obtain ⟨vh, vl, vk, vc, ve, vf, vo, vs, cs, c, hm1, hm2⟩ := HG.out
  have s2 : W1.cell? ⟨M, 2, none⟩ = some (.int .i64 wd) := (hm1.cell 2).trans hm1.cel.wd
  have HM1 := Lib.hid hm1
  have HO1 := Lib.hid hm2
  clear hG hK2 hbx HEQ h hrd hr hcl hz hm1 hm2
  go_enter Tryz.func32, Tryz.ntmps32
  go_wp2_with fail
  try simp only [hW1, htb]
  go_region_law (go_simp; go_at_call 69; refine HCP.out.mono ?_; rintro e w6 ⟨v6, rfl, hr6, hb6⟩; obtain ⟨p6, c6, rfl, _, _⟩ := sliceC hr6; have HB6 := Lib.hid (HD.out.trans (hb6.mono HD.out.size)); have HR6 := Lib.hid hr6; have hm6 := HM1.out.below HB6.out; have g89 := hm6.free 89; obtain ⟨u89, q89⟩ := hm6.old (j := 89) (by omega); clear hm6 hb6 hr6)
  all_goals
    have hm6 := HM1.out.below HB6.out
    have hlt1 := HM1.out.lt
    have hrc : RdC (TlB B M vl vk ve vo) w6 (.slice p6 cl.length c6) cl := HR6.out.imp fun b hb h9 => by
      have h8 : W1.heap.size ≤ b := h9
      have hB := HM1.out.base
      refine ⟨by omega, by omega, fun e => ?_, fun e => ?_, fun e => ?_, fun e => ?_⟩
      · have := (own_base HM1.out.ls.row e).2; omega
      · have := (own_base HM1.out.lk e).2; omega
      · have := (own_base HM1.out.ce.row e).2; omega
      · have := (own_base HM1.out.fl e).2; omega
    have E := hm6.ed.set 89 (.slice p6 cl.length c6)
    have h5 := hm6.change (y' := { y with co := cl }) (ve' := ve) (vo' := vo) (cs' := cs) E (hm6.cel.setCo _ cl) rfl rfl (hrc.move fun b h1 _ => ⟨E.oth b h1.2.1, h1⟩) (.inl ⟨rfl, rfl, rfl⟩) (.inl ⟨rfl, rfl⟩)
    have HIQ := Lib.hid (show LyI op B M K2 wd ch { y with co := cl } (w6.setCell ⟨M, 89, none⟩ (.slice p6 cl.length c6)) from ⟨_, _, _, _, _, _, _, _, _, _, h5, HO1.out⟩)
    have HKQ := Lib.hid ((Kp.of HB6.out (fun b (hb : K2 b) => HG.out.lt b hb)).trans (E.kp HM1.out.notK))
    obtain ⟨w7, hw7⟩ : ∃ w7, w6.setCell ⟨M, 89, none⟩ (.slice p6 cl.length c6) = w7 := ⟨_, rfl⟩
    rw [hw7] at HIQ HKQ
    try simp only [hw7]
    clear E h5 hrc hm6 hw7 g89 q89 s2
    have hx1 := (HKQ.out.block _ HKB2.out).trans HX.out
    have d0 : w7.cell? ⟨tb, 0, none⟩ = some (.int .i64 12) := by rw [cell_of_row _ _ _ _ _ _ hx1]; rfl
    obtain ⟨vh, vl, vk, vc, ve, vf, vo, vs, cs, c, h, h2⟩ := HIQ.out
    have HH := Lib.hid h
    have HO := Lib.hid h2
    have f92 := h.free 92
    obtain ⟨u92, q92⟩ := h.old (j := 92) (by omega)
    clear h h2 hx1 b0 b1 b3
    go_wp2_with fail
    first | go_end0 | refine bodyPost_ret (results_none rfl _ _ _) rfl ?_
    have E := HH.out.ed.set 92 (.int .i64 12)
    have h5 := HH.out.edit (y' := { { y with co := cl } with ah := 12 }) E (HH.out.cel.setAh 12) rfl rfl rfl rfl rfl
    exact ⟨rfl, LyI.less ⟨_, _, _, _, _, _, _, _, _, _, h5, fun e => by first | exact HO.out e | exact HO.out trivial | cases e⟩ HKK.out, (Kp.of HBX.out (fun b hb => HLT.out b hb)).trans ((HKQ.out.trans (E.kp HH.out.notK)).mono HKK.out)⟩
end Go.Proofs.YtalomeialegmiaaGreatDoor.Tb
end
section
namespace Go.Proofs.YtalomeialegmiaaGreatDoor.Tb
set_option linter.unusedVariables false
set_option linter.unusedSimpArgs false
/-- What no telling of lines touches. -/
structure Sm (a b : Ly) : Prop where
  lo : a.lo = b.lo
  li : a.li = b.li
  co : a.co = b.co
  ce : a.ce = b.ce
  fl : a.fl = b.fl
  lk : a.lk = b.lk
  mg : a.mg = b.mg
theorem Sm.refl (y : Ly) : Sm y y := ⟨rfl, rfl, rfl, rfl, rfl, rfl, rfl⟩
theorem Sm.trans {a b c : Ly} (h : Sm a b) (g : Sm b c) : Sm a c := ⟨h.lo.trans g.lo, h.li.trans g.li, h.co.trans g.co, h.ce.trans g.ce, h.fl.trans g.fl, h.lk.trans g.lk, h.mg.trans g.mg⟩
theorem sm_tell (y : Ly) (l : List Gl) : Sm (tellY y l) y := by unfold tellY; split <;> exact ⟨rfl, rfl, rfl, rfl, rfl, rfl, rfl⟩
theorem sm_free (y : Ly) : Sm (freeY y) y := ⟨rfl, rfl, rfl, rfl, rfl, rfl, rfl⟩
theorem sm_settle (y : Ly) : Sm (settleY y) y := by
  unfold settleY
  split
  · exact Sm.refl _
  · exact (sm_tell _ _).trans (sm_free _)
theorem sm_line (y : Ly) (l : List Gl) : Sm (lineY y l) y := (sm_tell _ _).trans (sm_free _)
theorem sm_fold {f : Ly → List Gl → Ly} (hf : ∀ y l, Sm (f y l) y) (ls : List (List Gl)) : ∀ y : Ly, Sm (ls.foldl f y) y := by
  induction ls with
  | nil => exact fun y => Sm.refl y
  | cons a l ih => exact fun y => (ih (f y a)).trans (hf y a)
theorem sm_lines (y : Ly) (ls : List (List Gl)) : Sm (linesY y ls) y := by
  refine (sm_fold sm_line ls _).trans ?_
  split
  · exact sm_settle y
  · exact Sm.refl y
/-- The lines are not too long; where no marker waits, it has no place. -/
def LsOk (y : Ly) : Prop := (∀ l ∈ y.ls, l.length ≤ 1000) ∧ (y.sg.size = 0 → y.pl = 0)
theorem LsOk.tell {y : Ly} (h : LsOk y) {l : List Gl} (hl : l.length ≤ 1000) : LsOk (tellY y l) := by
  unfold tellY
  split
  · exact h
  · refine ⟨fun r hr => ?_, h.2⟩
    rcases List.mem_append.1 hr with hr | hr
    · exact h.1 r hr
    · rw [List.mem_singleton] at hr; subst hr; exact hl
theorem LsOk.free {y : Ly} (h : LsOk y) : LsOk (freeY y) := ⟨h.1, fun _ => rfl⟩
theorem lead_200 {y : Ly} (hm : MkOk y) : (leadY y).length ≤ 200 := by
  have := lead_le hm
  have := hm.mg
  omega
theorem LsOk.settle {y : Ly} (h : LsOk y) (hm : MkOk y) : LsOk (settleY y) := by
  unfold settleY
  split
  · exact h
  · exact LsOk.tell h.free (Nat.le_trans (lead_200 hm) (by omega))
theorem LsOk.line {y : Ly} (h : LsOk y) (hm : MkOk y) {l : List Gl} (hl : l.length ≤ 200) : LsOk (lineY y l) := by
  refine LsOk.tell h.free ?_
  have h1 := lead_200 hm
  have h2 := hm.mg
  have h3 : ((blk y.mg).drop (leadY y).length).length ≤ 200 := by
    rw [List.length_drop]
    simp only [blk, List.length_replicate]
    omega
  rw [List.length_append, List.length_append]
  omega
theorem fold_line {ls : List (List Gl)} (hl : ∀ l ∈ ls, l.length ≤ 200) : ∀ {y : Ly}, MkOk y → LsOk y → MkOk (ls.foldl lineY y) ∧ LsOk (ls.foldl lineY y) := by
  induction ls with
  | nil => exact fun h1 h2 => ⟨h1, h2⟩
  | cons a l ih => exact fun h1 h2 => ih (fun r hr => hl r (List.mem_cons_of_mem _ hr)) (h1.line a) (h2.line h1 (hl a List.mem_cons_self))
theorem fold_tell {ls : List (List Gl)} (hl : ∀ l ∈ ls, l.length ≤ 200) : ∀ {y : Ly}, MkOk y → LsOk y → MkOk (ls.foldl tellY y) ∧ LsOk (ls.foldl tellY y) := by
  induction ls with
  | nil => exact fun h1 h2 => ⟨h1, h2⟩
  | cons a l ih => exact fun h1 h2 => ih (fun r hr => hl r (List.mem_cons_of_mem _ hr)) (h1.tell a) (h2.tell (Nat.le_trans (hl a List.mem_cons_self) (by omega)))
theorem lines_ok {ls : List (List Gl)} (hl : ∀ l ∈ ls, l.length ≤ 200) {y : Ly} (h1 : MkOk y) (h2 : LsOk y) : MkOk (linesY y ls) ∧ LsOk (linesY y ls) := by
  unfold linesY
  split
  · exact fold_line hl h1.settle (h2.settle h1)
  · exact fold_line hl h1 h2
/-- What holds between two operations. -/
structure LyOk (s : Wk) (y : Ly) (k T : Nat) : Prop where
  mok : MkOk y
  lns : LsOk y
  lo : y.lo.length = if s.para then 2 + s.br.length else 1
  br : s.para = false → s.br.length = 0
  brl : s.br.length ≤ 16
  kind : (y.co.length = 0 ∧ y.li.length = s.op.length ∧ ∀ o ∈ s.op, o.wide = 0) ∨ (0 < y.co.length ∧ y.li.length = 0 ∧ s.op.length = 1 ∧ ∀ o ∈ s.op, 0 < o.wide)
  opl : s.op.length ≤ 8
  lis : ∀ i ∈ y.li, (0 ≤ i.place ∧ i.place ≤ 200) ∧ 0 ≤ i.items ∧ i.items ≤ k
  lk : y.lk.length ≤ k
  cel : y.ce.length ≤ k
  ce : ∀ f ∈ y.ce, f.length ≤ k + T
  fl : y.fl.length ≤ k + T
theorem lyOk0 : LyOk wk0 ly0 0 0 where
  mok := ⟨Int.le_refl _, by simp [ly0], by simp [ly0], by simp [ly0]⟩
  lns := ⟨fun l hl => by simp [ly0] at hl, fun _ => rfl⟩
  lo := rfl
  br := fun _ => rfl
  brl := Nat.zero_le _
  kind := .inl ⟨rfl, rfl, fun o ho => by simp [wk0] at ho⟩
  opl := Nat.zero_le _
  lis := fun i hi => by simp [ly0] at hi
  lk := Nat.le_refl _
  cel := Nat.le_refl _
  ce := fun f hf => by simp [ly0] at hf
  fl := Nat.le_refl _
theorem MkOk.like {y z : Ly} (h : MkOk y) (h1 : z.pl = y.pl) (h2 : z.sg = y.sg) (h3 : z.mg = y.mg) (h4 : z.ls = y.ls) : MkOk z :=
  ⟨by rw [h1]; exact h.pl0, by rw [h1, h2, h3]; exact h.mrg, by rw [h3]; exact h.mg, by rw [h4]; exact h.ls⟩
theorem LsOk.like {y z : Ly} (h : LsOk y) (h4 : z.ls = y.ls) (h1 : z.pl = y.pl) (h2 : z.sg = y.sg) : LsOk z := by unfold LsOk; rw [h4, h1, h2]; exact h
theorem settle_none (y : Ly) : (settleY y).sg.size = 0 := by
  unfold settleY
  split
  · assumption
  · unfold tellY
    split <;> rfl
theorem sgn_pos (i : Li) : 0 < (sgnI i).size := by
  unfold sgnI
  split
  · rw [ByteArray.size_append]; exact Nat.lt_of_lt_of_le (by decide : 0 < dot.size) (Nat.le_add_left _ _)
  · decide
theorem mapTop_len (f : Lv → Lv) (l : List Lv) : (mapTop f l).length = l.length := by
  unfold mapTop
  cases h : l.getLast? with
  | none => rw [List.getLast?_eq_none_iff] at h; subst h; rfl
  | some x =>
    have : l ≠ [] := fun e => by subst e; cases h
    have := List.length_pos_iff.2 this
    simp
    omega
theorem mapTop_wide {f : Lv → Lv} (hf : ∀ x, (f x).wide = x.wide) {l : List Lv} {P : Nat → Prop} (h : ∀ o ∈ l, P o.wide) : ∀ o ∈ mapTop f l, P o.wide := by
  intro o ho
  rcases Ir.mapTop_mem ho with ho | ⟨x, hx, rfl⟩
  · exact h o ho
  · rw [hf]; exact h x hx
theorem top_mem {s : Wk} (h : 0 < s.op.length) : topL s ∈ s.op := by
  unfold topL
  cases e : s.op.getLast? with
  | none => rw [List.getLast?_eq_none_iff] at e; rw [e] at h; simp at h
  | some x => exact List.mem_of_getLast? e
/-- What is open is a table, or it is lists, or nothing. -/
theorem LyOk.lists {s : Wk} {y : Ly} {k T : Nat} (h : LyOk s y k T) (ht : tabB (topL s) = false) : y.co.length = 0 ∧ y.li.length = s.op.length ∧ ∀ o ∈ s.op, o.wide = 0 := by
  rcases h.kind with h1 | ⟨h1, h2, h3, h4⟩
  · exact h1
  · have := h4 _ (top_mem (by omega))
    simp [tabB] at ht
    omega
theorem LyOk.tab {s : Wk} {y : Ly} {k T : Nat} (h : LyOk s y k T) (ht : tabB (topL s) = true) (h0 : 0 < s.op.length) : 0 < y.co.length ∧ y.li.length = 0 ∧ s.op.length = 1 ∧ ∀ o ∈ s.op, 0 < o.wide := by
  rcases h.kind with ⟨h1, h2, h3⟩ | h1
  · have := h3 _ (top_mem h0)
    simp [tabB] at ht
    omega
  · exact h1
theorem lastLi_mem {y : Ly} (h : 0 < y.li.length) : lastLi y ∈ y.li := by
  unfold lastLi
  cases e : y.li.getLast? with
  | none => rw [List.getLast?_eq_none_iff] at e; rw [e] at h; simp at h
  | some x => exact List.mem_of_getLast? e
theorem cols_full {ws : List Int} {wd : Int} (hw : 10 ≤ wd ∧ wd ≤ 200) (h : Ir.widB ws = true) : 0 < (colsL ws wd).length ∧ 0 < ws.length := by
  simp only [Ir.widB, Bool.and_eq_true, decide_eq_true_eq, Bool.not_eq_true'] at h
  obtain ⟨⟨h1, h2⟩, h3⟩ := h
  have h0 : colsE ws wd = 0 := colsE_ok hw.1 hw.2 (by omega) (by omega) (by
    rw [List.any_eq_false] at h3 ⊢
    intro z hz
    have := h3 z hz
    simp at this
    simp [okW]
    omega)
  unfold colsL
  rw [if_pos h0]
  refine ⟨?_, by omega⟩
  unfold colsM
  rw [colsAt_len, widthsM_len]
  omega
/-- Kinds that stand in a paragraph, and put something to its flow. -/
theorem LyOk.flow {s : Wk} {y : Ly} {k T j : Nat} (h : LyOk s y k T) (n : Int) (t : ByteArray) (ws : List Int) (z : List Gl) (hz : z.length ≤ j + 1) (a : Int) : LyOk { s with ah := a } { ({ y with fl := y.fl ++ z } : Ly) with ah := a } (k + 1) (T + j) where
  mok := h.mok.like rfl rfl rfl rfl
  lns := h.lns.like rfl rfl rfl
  lo := h.lo
  br := h.br
  brl := h.brl
  kind := h.kind
  opl := h.opl
  lis := fun i hi => by have := h.lis i hi; omega
  lk := by have := h.lk; simp only; omega
  cel := by have := h.cel; simp only; omega
  ce := fun f hf => by have := h.ce f hf; omega
  fl := by have := h.fl; simp only [List.length_append]; omega
theorem takeS_br (s : Wk) (k n : Int) (t : ByteArray) (ws : List Int) (h : k = 2 ∨ k = 3 ∨ k = 4) : takeS s ⟨k, n, t, ws⟩ = { s with br := s.br ++ [k], ah := k } := by unfold takeS; rw [if_pos h]
theorem takeS_1 (s : Wk) (n : Int) (t : ByteArray) (ws : List Int) : takeS s ⟨1, n, t, ws⟩ = { s with ah := 1 } := by simp [takeS]
theorem takeS_6 (s : Wk) (n : Int) (t : ByteArray) (ws : List Int) : takeS s ⟨6, n, t, ws⟩ = { s with ah := 6 } := by simp [takeS]
theorem takeS_7 (s : Wk) (n : Int) (t : ByteArray) (ws : List Int) : takeS s ⟨7, n, t, ws⟩ = { s with ah := 7 } := by simp [takeS]
theorem takeS_5 (s : Wk) (n : Int) (t : ByteArray) (ws : List Int) : takeS s ⟨5, n, t, ws⟩ = { s with br := s.br.dropLast, ah := 5 } := by simp [takeS]
theorem takeS_8 (s : Wk) (n : Int) (t : ByteArray) (ws : List Int) : takeS s ⟨8, n, t, ws⟩ = { s with para := true, op := mapTop (fun l => { l with cells := l.cells + 1 }) s.op, ah := 8 } := by simp [takeS]
theorem takeS_9 (s : Wk) (n : Int) (t : ByteArray) (ws : List Int) : takeS s ⟨9, n, t, ws⟩ = { s with para := false, ah := 9 } := by simp [takeS]
theorem takeS_op (s : Wk) (k n : Int) (t : ByteArray) (ws : List Int) (h : k = 10 ∨ k = 12) : takeS s ⟨k, n, t, ws⟩ = { s with op := s.op ++ [⟨ws.length, 0, 0⟩], ah := k } := by rcases h with rfl | rfl <;> simp [takeS]
theorem takeS_it (s : Wk) (k n : Int) (t : ByteArray) (ws : List Int) (h : k = 11 ∨ k = 13) : takeS s ⟨k, n, t, ws⟩ = { s with op := mapTop (fun l => { l with parts := l.parts + 1, cells := 0 }) s.op, ah := k } := by rcases h with rfl | rfl <;> simp [takeS]
theorem takeS_14 (s : Wk) (n : Int) (t : ByteArray) (ws : List Int) : takeS s ⟨14, n, t, ws⟩ = { s with op := s.op.dropLast, ah := 14 } := by simp [takeS]
theorem takeY_1 (wd : Int) (ch : List S6.Chg) (y : Ly) (n : Int) (t : ByteArray) (ws : List Int) : takeY wd ch y ⟨1, n, t, ws⟩ = { textY y t with ah := 1 } := by simp [takeY, stepY]
theorem takeY_2 (wd : Int) (ch : List S6.Chg) (y : Ly) (n : Int) (t : ByteArray) (ws : List Int) : takeY wd ch y ⟨2, n, t, ws⟩ = { layY y (styledK ch y n) false with ah := 2 } := by simp [takeY, stepY]
theorem takeY_3 (wd : Int) (ch : List S6.Chg) (y : Ly) (n : Int) (t : ByteArray) (ws : List Int) : takeY wd ch y ⟨3, n, t, ws⟩ = { linkY y 0 n with ah := 3 } := by simp [takeY, stepY]
theorem takeY_4 (wd : Int) (ch : List S6.Chg) (y : Ly) (n : Int) (t : ByteArray) (ws : List Int) : takeY wd ch y ⟨4, n, t, ws⟩ = { linkY y 1 n with ah := 4 } := by simp [takeY, stepY]
theorem takeY_5 (wd : Int) (ch : List S6.Chg) (y : Ly) (n : Int) (t : ByteArray) (ws : List Int) : takeY wd ch y ⟨5, n, t, ws⟩ = { closeY y with ah := 5 } := by simp [takeY, stepY]
theorem takeY_6 (wd : Int) (ch : List S6.Chg) (y : Ly) (n : Int) (t : ByteArray) (ws : List Int) : takeY wd ch y ⟨6, n, t, ws⟩ = { putY y tabB' 1 with ah := 6 } := by simp [takeY, stepY]
theorem takeY_7 (wd : Int) (ch : List S6.Chg) (y : Ly) (n : Int) (t : ByteArray) (ws : List Int) : takeY wd ch y ⟨7, n, t, ws⟩ = { putY y nlB 1 with ah := 7 } := by simp [takeY, stepY]
theorem takeY_8 (wd : Int) (ch : List S6.Chg) (y : Ly) (n : Int) (t : ByteArray) (ws : List Int) : takeY wd ch y ⟨8, n, t, ws⟩ = { beginY ch y n with ah := 8 } := by simp [takeY, stepY]
theorem takeY_9 (wd : Int) (ch : List S6.Chg) (y : Ly) (n : Int) (t : ByteArray) (ws : List Int) : takeY wd ch y ⟨9, n, t, ws⟩ = { doneY wd y with ah := 9 } := by simp [takeY, stepY]
theorem takeY_10 (wd : Int) (ch : List S6.Chg) (y : Ly) (n : Int) (t : ByteArray) (ws : List Int) : takeY wd ch y ⟨10, n, t, ws⟩ = { listY y n with ah := 10 } := by simp [takeY, stepY]
theorem takeY_11 (wd : Int) (ch : List S6.Chg) (y : Ly) (n : Int) (t : ByteArray) (ws : List Int) : takeY wd ch y ⟨11, n, t, ws⟩ = { itemY wd y with ah := 11 } := by simp [takeY, stepY]
theorem takeY_12 (wd : Int) (ch : List S6.Chg) (y : Ly) (n : Int) (t : ByteArray) (ws : List Int) : takeY wd ch y ⟨12, n, t, ws⟩ = { ({ y with co := colsL ws wd } : Ly) with ah := 12 } := by simp [takeY, stepY]
theorem takeY_13 (wd : Int) (ch : List S6.Chg) (y : Ly) (n : Int) (t : ByteArray) (ws : List Int) : takeY wd ch y ⟨13, n, t, ws⟩ = { rowY y with ah := 13 } := by simp [takeY, stepY]
theorem takeY_14 (wd : Int) (ch : List S6.Chg) (y : Ly) (n : Int) (t : ByteArray) (ws : List Int) : takeY wd ch y ⟨14, n, t, ws⟩ = { endY y with ah := 14 } := by simp [takeY, stepY]
theorem take_ok1 {s : Wk} {y : Ly} {k T : Nat} {wd : Int} {ch : List S6.Chg} {st tp : Int} (n : Int) (t : ByteArray) (ws : List Int) (hw : 10 ≤ wd ∧ wd ≤ 200) (h : LyOk s y k T) (hf : Ir.fitB ⟨1, n, t, ws⟩ st tp = true) (hm : mayS s 1 = true) : LyOk (takeS s ⟨1, n, t, ws⟩) (takeY wd ch y ⟨1, n, t, ws⟩) (k + 1) (T + t.size) := by
  have hfl := h.fl
  have hlk := h.lk
  have hcel := h.cel
  have hbrl := h.brl
  have hopl := h.opl
  rw [takeS_1, takeY_1]
  exact h.flow n t ws _ (by rw [List.length_map]; have := cells_len t; omega) 1
theorem take_ok2 {s : Wk} {y : Ly} {k T : Nat} {wd : Int} {ch : List S6.Chg} {st tp : Int} (n : Int) (t : ByteArray) (ws : List Int) (hw : 10 ≤ wd ∧ wd ≤ 200) (h : LyOk s y k T) (hf : Ir.fitB ⟨2, n, t, ws⟩ st tp = true) (hm : mayS s 2 = true) : LyOk (takeS s ⟨2, n, t, ws⟩) (takeY wd ch y ⟨2, n, t, ws⟩) (k + 1) (T + t.size) := by
  have hfl := h.fl
  have hlk := h.lk
  have hcel := h.cel
  have hbrl := h.brl
  have hopl := h.opl
  rw [takeS_br _ _ _ _ _ (by decide), takeY_2]
  -- a style
  simp [mayS] at hm
  refine ⟨h.mok.like rfl rfl rfl rfl, h.lns.like rfl rfl rfl, ?_, ?_, ?_, h.kind, h.opl, fun i hi => by have := h.lis i hi; omega, ?_, ?_, fun f hf => by have := h.ce f hf; omega, ?_⟩
  · have := h.lo; simp [layY, hm.2] at this ⊢; omega
  · intro e; simp [hm.2] at e
  · simp; omega
  · simp [layY]; omega
  · simp [layY]; omega
  · simp [layY]; omega
theorem take_ok3 {s : Wk} {y : Ly} {k T : Nat} {wd : Int} {ch : List S6.Chg} {st tp : Int} (n : Int) (t : ByteArray) (ws : List Int) (hw : 10 ≤ wd ∧ wd ≤ 200) (h : LyOk s y k T) (hf : Ir.fitB ⟨3, n, t, ws⟩ st tp = true) (hm : mayS s 3 = true) : LyOk (takeS s ⟨3, n, t, ws⟩) (takeY wd ch y ⟨3, n, t, ws⟩) (k + 1) (T + t.size) := by
  have hfl := h.fl
  have hlk := h.lk
  have hcel := h.cel
  have hbrl := h.brl
  have hopl := h.opl
  rw [takeS_br _ _ _ _ _ (by decide), takeY_3]
  -- a link
  simp [mayS] at hm
  refine ⟨h.mok.like rfl rfl rfl rfl, h.lns.like rfl rfl rfl, ?_, ?_, ?_, h.kind, h.opl, fun i hi => by have := h.lis i hi; omega, ?_, ?_, fun f hf => by have := h.ce f hf; omega, ?_⟩
  · have := h.lo; simp [layY, linkY, hm.2] at this ⊢; omega
  · intro e; simp [hm.2] at e
  · simp; omega
  · simp [layY, linkY]; omega
  · simp [layY, linkY]; omega
  · simp [layY, linkY]; omega
theorem take_ok4 {s : Wk} {y : Ly} {k T : Nat} {wd : Int} {ch : List S6.Chg} {st tp : Int} (n : Int) (t : ByteArray) (ws : List Int) (hw : 10 ≤ wd ∧ wd ≤ 200) (h : LyOk s y k T) (hf : Ir.fitB ⟨4, n, t, ws⟩ st tp = true) (hm : mayS s 4 = true) : LyOk (takeS s ⟨4, n, t, ws⟩) (takeY wd ch y ⟨4, n, t, ws⟩) (k + 1) (T + t.size) := by
  have hfl := h.fl
  have hlk := h.lk
  have hcel := h.cel
  have hbrl := h.brl
  have hopl := h.opl
  rw [takeS_br _ _ _ _ _ (by decide), takeY_4]
  -- a note
  simp [mayS] at hm
  refine ⟨h.mok.like rfl rfl rfl rfl, h.lns.like rfl rfl rfl, ?_, ?_, ?_, h.kind, h.opl, fun i hi => by have := h.lis i hi; omega, ?_, ?_, fun f hf => by have := h.ce f hf; omega, ?_⟩
  · have := h.lo; simp [layY, linkY, hm.2] at this ⊢; omega
  · intro e; simp [hm.2] at e
  · simp; omega
  · simp [layY, linkY]; omega
  · simp [layY, linkY]; omega
  · simp [layY, linkY]; omega
theorem take_ok5 {s : Wk} {y : Ly} {k T : Nat} {wd : Int} {ch : List S6.Chg} {st tp : Int} (n : Int) (t : ByteArray) (ws : List Int) (hw : 10 ≤ wd ∧ wd ≤ 200) (h : LyOk s y k T) (hf : Ir.fitB ⟨5, n, t, ws⟩ st tp = true) (hm : mayS s 5 = true) : LyOk (takeS s ⟨5, n, t, ws⟩) (takeY wd ch y ⟨5, n, t, ws⟩) (k + 1) (T + t.size) := by
  have hfl := h.fl
  have hlk := h.lk
  have hcel := h.cel
  have hbrl := h.brl
  have hopl := h.opl
  rw [takeS_5, takeY_5]
  -- a close
  simp [mayS] at hm
  have hp : s.para = true := by
    cases e : s.para with
    | true => rfl
    | false => have := h.br e; omega
  have ec : ∃ lk : Int, ({ closeY y with ah := 5 } : Ly) = { ({ y with lo := y.lo.dropLast, link := lk } : Ly) with ah := 5 } := by
    simp only [closeY, offY]
    split
    · exact ⟨_, rfl⟩
    · exact ⟨_, rfl⟩
  obtain ⟨lk, ec⟩ := ec
  rw [ec]
  refine ⟨h.mok.like rfl rfl rfl rfl, h.lns.like rfl rfl rfl, ?_, ?_, ?_, h.kind, h.opl, fun i hi => by have := h.lis i hi; omega, ?_, ?_, fun f hf => by have := h.ce f hf; omega, ?_⟩
  · have := h.lo; simp [hp] at this ⊢; omega
  · intro e; simp [hp] at e
  · simp; omega
  · simp only; omega
  · simp only; omega
  · simp only; omega
theorem take_ok6 {s : Wk} {y : Ly} {k T : Nat} {wd : Int} {ch : List S6.Chg} {st tp : Int} (n : Int) (t : ByteArray) (ws : List Int) (hw : 10 ≤ wd ∧ wd ≤ 200) (h : LyOk s y k T) (hf : Ir.fitB ⟨6, n, t, ws⟩ st tp = true) (hm : mayS s 6 = true) : LyOk (takeS s ⟨6, n, t, ws⟩) (takeY wd ch y ⟨6, n, t, ws⟩) (k + 1) (T + t.size) := by
  have hfl := h.fl
  have hlk := h.lk
  have hcel := h.cel
  have hbrl := h.brl
  have hopl := h.opl
  rw [takeS_6, takeY_6]
  exact h.flow n t ws [_] (by simp) 6
theorem take_ok7 {s : Wk} {y : Ly} {k T : Nat} {wd : Int} {ch : List S6.Chg} {st tp : Int} (n : Int) (t : ByteArray) (ws : List Int) (hw : 10 ≤ wd ∧ wd ≤ 200) (h : LyOk s y k T) (hf : Ir.fitB ⟨7, n, t, ws⟩ st tp = true) (hm : mayS s 7 = true) : LyOk (takeS s ⟨7, n, t, ws⟩) (takeY wd ch y ⟨7, n, t, ws⟩) (k + 1) (T + t.size) := by
  have hfl := h.fl
  have hlk := h.lk
  have hcel := h.cel
  have hbrl := h.brl
  have hopl := h.opl
  rw [takeS_7, takeY_7]
  exact h.flow n t ws [_] (by simp) 7
theorem take_ok8 {s : Wk} {y : Ly} {k T : Nat} {wd : Int} {ch : List S6.Chg} {st tp : Int} (n : Int) (t : ByteArray) (ws : List Int) (hw : 10 ≤ wd ∧ wd ≤ 200) (h : LyOk s y k T) (hf : Ir.fitB ⟨8, n, t, ws⟩ st tp = true) (hm : mayS s 8 = true) : LyOk (takeS s ⟨8, n, t, ws⟩) (takeY wd ch y ⟨8, n, t, ws⟩) (k + 1) (T + t.size) := by
  have hfl := h.fl
  have hlk := h.lk
  have hcel := h.cel
  have hbrl := h.brl
  have hopl := h.opl
  rw [takeS_8, takeY_8]
  -- a paragraph
  simp [mayS] at hm
  have hb := h.br hm.1
  have e1 : ∃ y1 : Ly, Sm y1 y ∧ MkOk y1 ∧ LsOk y1 ∧ ({ beginY ch y n with ah := 8 } : Ly) = { layY { y1 with fl := [] } (styledK ch y1 n) false with ah := 8 } := by
    simp only [beginY]
    split
    · exact ⟨_, sm_tell y [], h.mok.tell _, h.lns.tell (by simp), rfl⟩
    · exact ⟨_, Sm.refl y, h.mok, h.lns, rfl⟩
  obtain ⟨y1, e, hmk, hls, e1⟩ := e1
  rw [e1]
  refine ⟨hmk.like rfl rfl rfl rfl, hls.like rfl rfl rfl, ?_, ?_, ?_, ?_, ?_, fun i hi => by have := h.lis i (by simp only [layY] at hi; rw [← e.li]; exact hi); omega, ?_, ?_, fun f hf => by have := h.ce f (by simp only [layY] at hf; rw [← e.ce]; exact hf); omega, ?_⟩
  · have := h.lo; simp [layY, e.lo, hm.1, hb] at this ⊢; omega
  · intro e; simp at e
  · simp; omega
  · simp only [layY]
    rcases h.kind with ⟨k1, k2, k3⟩ | ⟨k1, k2, k3, k4⟩
    · refine .inl ⟨by rw [e.co]; exact k1, by rw [e.li]; simp [mapTop_len]; exact k2, ?_⟩
      exact mapTop_wide (P := fun v => v = 0) (f := fun l => { l with cells := l.cells + 1 }) (fun x => rfl) k3
    · refine .inr ⟨by rw [e.co]; exact k1, by rw [e.li]; exact k2, by simp [mapTop_len]; exact k3, ?_⟩
      exact mapTop_wide (P := fun v => 0 < v) (f := fun l => { l with cells := l.cells + 1 }) (fun x => rfl) k4
  · simp [mapTop_len]; omega
  · simp only [layY, e.lk]; omega
  · simp only [layY, e.ce]; omega
  · simp [layY]
theorem take_ok9 {s : Wk} {y : Ly} {k T : Nat} {wd : Int} {ch : List S6.Chg} {st tp : Int} (n : Int) (t : ByteArray) (ws : List Int) (hw : 10 ≤ wd ∧ wd ≤ 200) (h : LyOk s y k T) (hf : Ir.fitB ⟨9, n, t, ws⟩ st tp = true) (hm : mayS s 9 = true) : LyOk (takeS s ⟨9, n, t, ws⟩) (takeY wd ch y ⟨9, n, t, ws⟩) (k + 1) (T + t.size) := by
  have hfl := h.fl
  have hlk := h.lk
  have hcel := h.cel
  have hbrl := h.brl
  have hopl := h.opl
  rw [takeS_9, takeY_9]
  -- its end
  simp [mayS] at hm
  have hb : s.br.length = 0 := by have := hm.2; simp [this]
  have h1 := h.lo
  rw [hm.1, if_pos rfl] at h1
  unfold doneY
  by_cases hc : y.co.length = 0
  · have e1 : ∃ y1 : Ly, Sm y1 (offY y) ∧ MkOk y1 ∧ LsOk y1 ∧ linesY (offY y) (fillL (wd - y.mg) y.fl) = y1 := by
      have h2 := lines_ok (ls := fillL (wd - y.mg) y.fl) (fun l hl => fill_small hl) (y := offY y) (h.mok.like rfl rfl rfl rfl) (h.lns.like rfl rfl rfl)
      exact ⟨_, sm_lines _ _, h2.1, h2.2, rfl⟩
    obtain ⟨y1, e, hmk, hls, e1⟩ := e1
    simp only [if_pos hc, e1]
    refine ⟨hmk.like rfl rfl rfl rfl, hls.like rfl rfl rfl, ?_, ?_, ?_, ?_, ?_, fun i hi => by have := h.lis i (by simp only at hi; rw [e.li] at hi; exact hi); omega, ?_, ?_, fun f hf => by have := h.ce f (by simp only at hf; rw [e.ce] at hf; exact hf); omega, ?_⟩
    · simp [e.lo, offY]; omega
    · intro _; simp; exact List.eq_nil_of_length_eq_zero hb
    · simp; omega
    · simp only [e.co, e.li, offY]; exact h.kind
    · simp; omega
    · simp only [e.lk, offY]; omega
    · simp only [e.ce, offY]; omega
    · simp
  · simp only [if_neg hc]
    refine ⟨h.mok.like rfl rfl rfl rfl, h.lns.like rfl rfl rfl, ?_, ?_, ?_, ?_, ?_, fun i hi => by have := h.lis i hi; omega, ?_, ?_, ?_, ?_⟩
    · simp [offY]; omega
    · intro _; simp; exact List.eq_nil_of_length_eq_zero hb
    · simp; omega
    · simp only [offY]; exact h.kind
    · simp; omega
    · simp only [offY]; omega
    · simp [offY]; omega
    · intro f hf
      simp only [offY] at hf
      rcases List.mem_append.1 hf with hf | hf
      · have := h.ce f hf; omega
      · rw [List.mem_singleton] at hf; subst hf; omega
    · simp [offY]
theorem take_ok10 {s : Wk} {y : Ly} {k T : Nat} {wd : Int} {ch : List S6.Chg} {st tp : Int} (n : Int) (t : ByteArray) (ws : List Int) (hw : 10 ≤ wd ∧ wd ≤ 200) (h : LyOk s y k T) (hf : Ir.fitB ⟨10, n, t, ws⟩ st tp = true) (hm : mayS s 10 = true) : LyOk (takeS s ⟨10, n, t, ws⟩) (takeY wd ch y ⟨10, n, t, ws⟩) (k + 1) (T + t.size) := by
  have hfl := h.fl
  have hlk := h.lk
  have hcel := h.cel
  have hbrl := h.brl
  have hopl := h.opl
  rw [takeS_op _ _ _ _ _ (by decide), takeY_10]
  -- a list
  simp [mayS] at hm
  have hl := h.lists hm.1.1.2
  have hws : ws.length = 0 := by
    simp [Ir.fitB] at hf
    simp [hf.2]
  have e := sm_settle y
  have hm1 := h.mok.settle
  have hl1 := h.lns.settle h.mok
  have et : ({ listY y n with ah := 10 } : Ly) = { ({ settleY y with li := (settleY y).li ++ [⟨decide (n ≠ 0), (settleY y).mg, 0⟩] } : Ly) with ah := 10 } := rfl
  rw [et]
  obtain ⟨y1, hy1⟩ : ∃ y1, settleY y = y1 := ⟨_, rfl⟩
  rw [hy1] at e hm1 hl1 ⊢
  have g1 := hm1.pl0
  have g2 := hm1.mrg
  have g3 := hm1.mg
  refine ⟨hm1.like rfl rfl rfl rfl, hl1.like rfl rfl rfl, ?_, ?_, ?_, ?_, ?_, ?_, ?_, ?_, fun f hf => by have := h.ce f (by simp only at hf; rw [e.ce] at hf; exact hf); omega, ?_⟩
  · have := h.lo; simp [e.lo] at this ⊢; exact this
  · have := h.br; simpa using this
  · simp; omega
  · refine .inl ⟨by simp only [e.co]; exact hl.1, by simp [e.li]; exact hl.2.1, ?_⟩
    intro o ho
    simp at ho
    rcases ho with ho | rfl
    · exact hl.2.2 o ho
    · exact hws
  · simp; omega
  · intro i hi
    simp only at hi
    rcases List.mem_append.1 hi with hi | hi
    · have := h.lis i (by rw [← e.li]; exact hi); omega
    · rw [List.mem_singleton] at hi; subst hi; dsimp only; omega
  · simp only [e.lk]; omega
  · simp only [e.ce]; omega
  · simp only [e.fl]; omega
theorem take_ok11 {s : Wk} {y : Ly} {k T : Nat} {wd : Int} {ch : List S6.Chg} {st tp : Int} (n : Int) (t : ByteArray) (ws : List Int) (hw : 10 ≤ wd ∧ wd ≤ 200) (h : LyOk s y k T) (hf : Ir.fitB ⟨11, n, t, ws⟩ st tp = true) (hm : mayS s 11 = true) : LyOk (takeS s ⟨11, n, t, ws⟩) (takeY wd ch y ⟨11, n, t, ws⟩) (k + 1) (T + t.size) := by
  have hfl := h.fl
  have hlk := h.lk
  have hcel := h.cel
  have hbrl := h.brl
  have hopl := h.opl
  rw [takeS_it _ _ _ _ _ (by decide), takeY_11]
  -- an item
  simp [mayS] at hm
  have hl := h.lists hm.2
  have h0 : 0 < y.li.length := by rw [hl.2.1]; exact hm.1.2
  have e := sm_settle y
  have hm1 := h.mok.settle
  have hl1 := h.lns.settle h.mok
  unfold itemY
  obtain ⟨y1, hy1⟩ : ∃ y1, settleY y = y1 := ⟨_, rfl⟩
  rw [hy1] at e hm1 hl1 ⊢
  have hlast := h.lis (lastLi y1) (by
    have := lastLi_mem h0
    unfold lastLi at this ⊢
    rw [e.li]
    exact this)
  obtain ⟨il, hil⟩ : ∃ il, lastLi y1 = il := ⟨_, rfl⟩
  rw [hil] at hlast
  dsimp only
  rw [hil]
  obtain ⟨i2, hi2⟩ : ∃ i2 : Li, ({ il with items := il.items + 1 } : Li) = i2 := ⟨_, rfl⟩
  have p2 : i2.place = il.place ∧ i2.items = il.items + 1 := by rw [← hi2]; exact ⟨rfl, rfl⟩
  rw [hi2]
  obtain ⟨sg, hsg⟩ : ∃ sg, sgnI i2 = sg := ⟨_, rfl⟩
  rw [hsg]
  obtain ⟨m, hmm⟩ : ∃ m, min (il.place + sg.size + 1) (wd - 4) = m := ⟨_, rfl⟩
  rw [hmm]
  have hm0 : 1 ≤ m ∧ m ≤ 196 := by omega
  have hts : (sg.extract (sg.size - m.toNat) sg.size).size = min sg.size m.toNat := by rw [ByteArray.size_extract]; omega
  obtain ⟨tt, htt⟩ : ∃ tt, sg.extract (sg.size - m.toNat) sg.size = tt := ⟨_, rfl⟩
  rw [htt] at hts ⊢
  have hsp : 0 < sg.size := by rw [← hsg]; exact sgn_pos _
  refine ⟨⟨?_, ?_, ?_, hm1.ls⟩, ⟨hl1.1, fun e => by dsimp only at e; omega⟩, ?_, ?_, ?_, ?_, ?_, ?_, ?_, ?_, fun f hf => by have := h.ce f (by simp only at hf; rw [e.ce] at hf; exact hf); omega, ?_⟩
  · simp only; omega
  · simp only; omega
  · simp only; omega
  · have := h.lo; simp [e.lo] at this ⊢; exact this
  · have := h.br; simpa using this
  · simp; omega
  · refine .inl ⟨by simp only [e.co]; exact hl.1, ?_, ?_⟩
    · have : y1.li.length = s.op.length := by rw [e.li]; exact hl.2.1
      simp [mapTop_len]; omega
    · exact mapTop_wide (P := fun v => v = 0) (f := fun l => { l with parts := l.parts + 1, cells := 0 }) (fun x => rfl) hl.2.2
  · simp [mapTop_len]; omega
  · intro i hi
    simp only at hi
    rcases List.mem_append.1 hi with hi | hi
    · have := h.lis i (by rw [← e.li]; exact List.dropLast_subset _ hi); omega
    · rw [List.mem_singleton] at hi; subst hi; omega
  · simp only [e.lk]; omega
  · simp only [e.ce]; omega
  · simp only [e.fl]; omega
theorem take_ok12 {s : Wk} {y : Ly} {k T : Nat} {wd : Int} {ch : List S6.Chg} {st tp : Int} (n : Int) (t : ByteArray) (ws : List Int) (hw : 10 ≤ wd ∧ wd ≤ 200) (h : LyOk s y k T) (hf : Ir.fitB ⟨12, n, t, ws⟩ st tp = true) (hm : mayS s 12 = true) : LyOk (takeS s ⟨12, n, t, ws⟩) (takeY wd ch y ⟨12, n, t, ws⟩) (k + 1) (T + t.size) := by
  have hfl := h.fl
  have hlk := h.lk
  have hcel := h.cel
  have hbrl := h.brl
  have hopl := h.opl
  rw [takeS_op _ _ _ _ _ (by decide), takeY_12]
  -- a table
  simp [mayS] at hm
  have hcf := cols_full (ws := ws) hw (by simp [Ir.fitB] at hf; exact hf.1.1)
  have hop : s.op = [] := hm.2
  have hli : y.li.length = 0 := by
    rcases h.kind with ⟨k1, k2, k3⟩ | ⟨k1, k2, k3, k4⟩
    · rw [k2, hop]; rfl
    · exact k2
  refine ⟨h.mok.like rfl rfl rfl rfl, h.lns.like rfl rfl rfl, ?_, ?_, ?_, ?_, ?_, fun i hi => by have := h.lis i hi; omega, ?_, ?_, fun f hf => by have := h.ce f hf; omega, ?_⟩
  · have := h.lo; simp at this ⊢; exact this
  · have := h.br; simpa using this
  · simp; omega
  · refine .inr ⟨hcf.1, hli, by simp [hop], ?_⟩
    intro o ho
    simp [hop] at ho
    rw [ho]
    exact hcf.2
  · simp [hop]
  · simp only; omega
  · simp only; omega
  · simp only; omega
theorem take_ok13 {s : Wk} {y : Ly} {k T : Nat} {wd : Int} {ch : List S6.Chg} {st tp : Int} (n : Int) (t : ByteArray) (ws : List Int) (hw : 10 ≤ wd ∧ wd ≤ 200) (h : LyOk s y k T) (hf : Ir.fitB ⟨13, n, t, ws⟩ st tp = true) (hm : mayS s 13 = true) : LyOk (takeS s ⟨13, n, t, ws⟩) (takeY wd ch y ⟨13, n, t, ws⟩) (k + 1) (T + t.size) := by
  have hfl := h.fl
  have hlk := h.lk
  have hcel := h.cel
  have hbrl := h.brl
  have hopl := h.opl
  rw [takeS_it _ _ _ _ _ (by decide), takeY_13]
  -- a row
  simp [mayS] at hm
  have hl := h.tab hm.1.1.1 hm.1.2
  have e1 : ∃ y1 : Ly, Sm y1 y ∧ MkOk y1 ∧ LsOk y1 ∧ ∃ ce', (ce' = [] ∨ ce' = y.ce) ∧ ({ rowY y with ah := 13 } : Ly) = { ({ y1 with ce := ce' } : Ly) with ah := 13 } := by
    unfold rowY
    split
    · exact ⟨y, Sm.refl y, h.mok, h.lns, _, .inr rfl, rfl⟩
    · have h2 := fold_tell (ls := rowL y.co y.ce) (fun l hl => rowL_small hl) h.mok h.lns
      exact ⟨_, sm_fold sm_tell (rowL y.co y.ce) y, h2.1, h2.2, _, .inl rfl, rfl⟩
  obtain ⟨y1, e, hmk, hls, ce', hce, e1⟩ := e1
  rw [e1]
  have hc1 : ce'.length ≤ k ∧ ∀ f ∈ ce', f.length ≤ k + T := by
    rcases hce with rfl | rfl
    · exact ⟨Nat.zero_le _, fun f hf => by simp at hf⟩
    · exact ⟨hcel, h.ce⟩
  refine ⟨hmk.like rfl rfl rfl rfl, hls.like rfl rfl rfl, ?_, ?_, ?_, ?_, ?_, fun i hi => by have := h.lis i (by simp only at hi; rw [e.li] at hi; exact hi); omega, ?_, ?_, fun f hf => by have := hc1.2 f hf; omega, ?_⟩
  · have := h.lo; simp [e.lo] at this ⊢; exact this
  · have := h.br; simpa using this
  · simp; omega
  · refine .inr ⟨by simp only [e.co]; exact hl.1, by simp only [e.li]; exact hl.2.1, by simp [mapTop_len]; exact hl.2.2.1, ?_⟩
    exact mapTop_wide (P := fun v => 0 < v) (f := fun l => { l with parts := l.parts + 1, cells := 0 }) (fun x => rfl) hl.2.2.2
  · simp [mapTop_len]; omega
  · simp only [e.lk]; omega
  · simp only; omega
  · simp only [e.fl]; omega
theorem take_ok14 {s : Wk} {y : Ly} {k T : Nat} {wd : Int} {ch : List S6.Chg} {st tp : Int} (n : Int) (t : ByteArray) (ws : List Int) (hw : 10 ≤ wd ∧ wd ≤ 200) (h : LyOk s y k T) (hf : Ir.fitB ⟨14, n, t, ws⟩ st tp = true) (hm : mayS s 14 = true) : LyOk (takeS s ⟨14, n, t, ws⟩) (takeY wd ch y ⟨14, n, t, ws⟩) (k + 1) (T + t.size) := by
  have hfl := h.fl
  have hlk := h.lk
  have hcel := h.cel
  have hbrl := h.brl
  have hopl := h.opl
  rw [takeS_14, takeY_14]
  -- an end
  simp [mayS] at hm
  have hk : s.op.length ≠ 0 := by have := hm.1.2; omega
  unfold endY
  by_cases hc : y.co.length = 0
  · rw [if_pos hc]
    have hl : y.li.length = s.op.length ∧ ∀ o ∈ s.op, o.wide = 0 := by
      rcases h.kind with ⟨k1, k2, k3⟩ | ⟨k1, k2, k3, k4⟩
      · exact ⟨k2, k3⟩
      · omega
    have h0 : 0 < y.li.length := by omega
    have e := sm_settle y
    have hm1 := h.mok.settle
    have hl1 := h.lns.settle h.mok
    have q1 := settle_none y
    obtain ⟨y1, hy1⟩ : ∃ y1, settleY y = y1 := ⟨_, rfl⟩
    rw [hy1] at e hm1 hl1 q1 ⊢
    have hlast := h.lis (lastLi y1) (by
      have := lastLi_mem h0
      unfold lastLi at this ⊢
      rw [e.li]
      exact this)
    dsimp only
    refine ⟨⟨hm1.pl0, ?_, hlast.1.2, hm1.ls⟩, hl1.like rfl rfl rfl, ?_, ?_, ?_, ?_, ?_, ?_, ?_, ?_, fun f hf => by have := h.ce f (by simp only at hf; rw [e.ce] at hf; exact hf); omega, ?_⟩
    · have := hl1.2 q1; simp only; omega
    · have := h.lo; simp [e.lo] at this ⊢; exact this
    · have := h.br; simpa using this
    · simp; omega
    · refine .inl ⟨by simp only [e.co]; exact hc, by simp [e.li]; omega, ?_⟩
      intro o ho
      simp at ho
      exact hl.2 o (List.dropLast_subset _ ho)
    · simp; omega
    · intro i hi
      simp only at hi
      have := h.lis i (by rw [← e.li]; exact List.dropLast_subset _ hi); omega
    · simp only [e.lk]; omega
    · simp only [e.ce]; omega
    · simp only [e.fl]; omega
  · rw [if_neg hc]
    have hl : y.li.length = 0 ∧ s.op.length = 1 := by
      rcases h.kind with ⟨k1, k2, k3⟩ | ⟨k1, k2, k3, k4⟩
      · exact absurd k1 hc
      · exact ⟨k2, k3⟩
    have e1 : ∃ y1 : Ly, Sm y1 y ∧ MkOk y1 ∧ LsOk y1 ∧ ∃ ce', (ce' = [] ∨ ce' = y.ce) ∧ rowY y = { y1 with ce := ce' } := by
      unfold rowY
      split
      · exact ⟨y, Sm.refl y, h.mok, h.lns, _, .inr rfl, rfl⟩
      · have h2 := fold_tell (ls := rowL y.co y.ce) (fun l hl => rowL_small hl) h.mok h.lns
        exact ⟨_, sm_fold sm_tell (rowL y.co y.ce) y, h2.1, h2.2, _, .inl rfl, rfl⟩
    obtain ⟨y1, e, hmk, hls, ce', hce, e1⟩ := e1
    rw [e1]
    have hc1 : ce'.length ≤ k ∧ ∀ f ∈ ce', f.length ≤ k + T := by
      rcases hce with rfl | rfl
      · exact ⟨Nat.zero_le _, fun f hf => by simp at hf⟩
      · exact ⟨hcel, h.ce⟩
    refine ⟨hmk.like rfl rfl rfl rfl, hls.like rfl rfl rfl, ?_, ?_, ?_, ?_, ?_, fun i hi => by have := h.lis i (by simp only at hi; rw [e.li] at hi; exact hi); omega, ?_, ?_, fun f hf => by have := hc1.2 f hf; omega, ?_⟩
    · have := h.lo; simp [e.lo] at this ⊢; exact this
    · have := h.br; simpa using this
    · simp; omega
    · have hd : s.op.dropLast = [] := List.eq_nil_of_length_eq_zero (by simp; omega)
      refine .inl ⟨rfl, by simp only [e.li]; simp; omega, ?_⟩
      intro o ho
      simp [hd] at ho
    · simp; omega
    · simp only [e.lk]; omega
    · simp only; omega
    · simp only [e.fl]; omega
/-- Behind an operation that may come next. -/
theorem take_ok {s : Wk} {y : Ly} {k T : Nat} {wd : Int} {ch : List S6.Chg} {x : Opr} {st tp : Int} (hw : 10 ≤ wd ∧ wd ≤ 200) (h : LyOk s y k T) (hf : Ir.fitB x st tp = true) (hm : mayS s x.k = true) : LyOk (takeS s x) (takeY wd ch y x) (k + 1) (T + x.t.size) := by
  have hk14 : 1 ≤ x.k ∧ x.k ≤ 14 := by
    by_cases h : 1 ≤ x.k ∧ x.k ≤ 14
    · exact h
    · rw [Ir.may_other h] at hm; cases hm
  obtain ⟨kd, n, t, ws⟩ := x
  dsimp only at hk14 hm ⊢
  have cs : kd = 1 ∨ kd = 2 ∨ kd = 3 ∨ kd = 4 ∨ kd = 5 ∨ kd = 6 ∨ kd = 7 ∨ kd = 8 ∨ kd = 9 ∨ kd = 10 ∨ kd = 11 ∨ kd = 12 ∨ kd = 13 ∨ kd = 14 := by omega
  rcases cs with rfl | rfl | rfl | rfl | rfl | rfl | rfl | rfl | rfl | rfl | rfl | rfl | rfl | rfl
  · exact take_ok1 n t ws hw h hf hm
  · exact take_ok2 n t ws hw h hf hm
  · exact take_ok3 n t ws hw h hf hm
  · exact take_ok4 n t ws hw h hf hm
  · exact take_ok5 n t ws hw h hf hm
  · exact take_ok6 n t ws hw h hf hm
  · exact take_ok7 n t ws hw h hf hm
  · exact take_ok8 n t ws hw h hf hm
  · exact take_ok9 n t ws hw h hf hm
  · exact take_ok10 n t ws hw h hf hm
  · exact take_ok11 n t ws hw h hf hm
  · exact take_ok12 n t ws hw h hf hm
  · exact take_ok13 n t ws hw h hf hm
  · exact take_ok14 n t ws hw h hf hm
end Go.Proofs.YtalomeialegmiaaGreatDoor.Tb
end
section
namespace Go.Proofs.YtalomeialegmiaaGreatDoor.Tb
open Go.RowKit Go.Maps
set_option linter.unusedVariables false
set_option linter.unusedSimpArgs false
theorem post_to {op op' : Bool} {B M : Nat} {K : Nat → Prop} {wd : Int} {ch : List S6.Chg} {y : Ly} {v : Value} {w : World} (h : op = op') {e : Ending} {w' : World} (hp : LyPost op B M K wd ch y v w e w') : LyPost op' B M K wd ch y v w e w' := by
  subst h; exact hp
theorem take_any {B M : Nat} {K : Nat → Prop} {wd : Int} {ch : List S6.Chg} {y : Ly} {s : Wk} {k T st : Nat} {tp : Int} {P : Nat → Prop} (x : Opr) (pw : Option Addr) (cw : Nat) (w : World) (h : LyI s.para B M K wd ch y w) (ho : LyOk s y k T)
    (hf : Ir.fitB x st tp = true) (hm : mayS s x.k = true) (hr : Ir.RdZ P w (.slice pw x.w.length cw) x.w) (hw : 10 ≤ wd ∧ wd ≤ 200) (hT : TbL B w) (hKB : ∀ b, b < B → K b) (hst : ch.length = st) (hk : k ≤ 65536) (hS : T + x.t.size ≤ 16384) :
    Calls Tryz.prog 32 #[.pointer (some ⟨M, 0, none⟩), .agg #[.int .i64 x.k, .int .i64 x.n, .string x.t, .slice pw x.w.length cw]] w (LyPost (takeS s x).para B M K wd ch (takeY wd ch y x) (.tuple #[]) w) := by
  have hk14 : 1 ≤ x.k ∧ x.k ≤ 14 := by
    by_cases h : 1 ≤ x.k ∧ x.k ≤ 14
    · exact h
    · rw [Ir.may_other h] at hm; cases hm
  obtain ⟨kd, n, t, ws⟩ := x
  dsimp only at hk14 hm hr hS ⊢
  have hfl := ho.fl
  have hlk := ho.lk
  have hcel := ho.cel
  have hbrl := ho.brl
  have hce := ho.ce
  have hlo := ho.lo
  have h0 : 0 < y.lo.length := by rw [hlo]; split <;> omega
  have cs : kd = 1 ∨ kd = 2 ∨ kd = 3 ∨ kd = 4 ∨ kd = 5 ∨ kd = 6 ∨ kd = 7 ∨ kd = 8 ∨ kd = 9 ∨ kd = 10 ∨ kd = 11 ∨ kd = 12 ∨ kd = 13 ∨ kd = 14 := by omega
  have hce' : ∀ f ∈ y.ce, f.length ≤ 1000000 := fun f hf => by have := hce f hf; omega
  rcases cs with rfl | rfl | rfl | rfl | rfl | rfl | rfl | rfl | rfl | rfl | rfl | rfl | rfl | rfl
  · simp [mayS] at hm
    rw [hm.1] at h
    exact (ltake_1 n t ws pw ws.length cw w h h0 (by omega)).mono fun e w' hp => post_to (by rw [takeS_1]; exact hm.1.symm) hp
  · simp [mayS] at hm
    rw [hm.2] at h hlo
    rw [if_pos rfl] at hlo
    simp [Ir.fitB] at hf
    exact (ltake_2 n t ws pw ws.length cw w h h0 (by omega) (by omega)).mono fun e w' hp => post_to (by rw [takeS_br _ _ _ _ _ (by decide)]; exact hm.2.symm) hp
  · simp [mayS] at hm
    rw [hm.2] at h hlo
    rw [if_pos rfl] at hlo
    exact (ltake_3 n t ws pw ws.length cw w h h0 (by omega) (by omega)).mono fun e w' hp => post_to (by rw [takeS_br _ _ _ _ _ (by decide)]; exact hm.2.symm) hp
  · simp [mayS] at hm
    rw [hm.2] at h hlo
    rw [if_pos rfl] at hlo
    exact (ltake_4 n t ws pw ws.length cw w h h0 (by omega) (by omega)).mono fun e w' hp => post_to (by rw [takeS_br _ _ _ _ _ (by decide)]; exact hm.2.symm) hp
  · exact (ltake_5 n t ws pw ws.length cw w h h0).mono fun e w' hp => post_to (by rw [takeS_5]) hp
  · simp [mayS] at hm
    rw [hm] at h
    exact (ltake_6 n t ws pw ws.length cw w h h0 (by omega)).mono fun e w' hp => post_to (by rw [takeS_6]; exact hm.symm) hp
  · simp [mayS] at hm
    rw [hm] at h
    exact (ltake_7 n t ws pw ws.length cw w h h0 (by omega)).mono fun e w' hp => post_to (by rw [takeS_7]; exact hm.symm) hp
  · simp [mayS] at hm
    rw [hm.1] at hlo
    rw [if_neg (by decide)] at hlo
    simp [Ir.fitB] at hf
    exact (ltake_8 n t ws pw ws.length cw w h h0 (by omega) ho.mok.ls (by omega)).mono fun e w' hp => post_to (by rw [takeS_8]) hp
  · simp [mayS] at hm
    rw [hm.1] at h
    by_cases hc : y.co.length = 0
    · exact (ltake_9l n t ws pw ws.length cw w h h0 hc hw ho.mok (by omega)).mono fun e w' hp => post_to (by rw [takeS_9]) hp
    · exact (ltake_9c n t ws pw ws.length cw w h h0 (by omega) (by omega)).mono fun e w' hp => post_to (by rw [takeS_9]) hp
  · simp [mayS] at hm
    have hl := ho.lists hm.1.1.2
    have := ho.opl
    exact (ltake_10 n t ws pw ws.length cw w h ho.mok (by omega)).mono fun e w' hp => post_to (by rw [takeS_op _ _ _ _ _ (by decide)]) hp
  · simp [mayS] at hm
    have hl := ho.lists hm.2
    have h1 : 0 < y.li.length := by rw [hl.2.1]; exact hm.1.2
    have hi := ho.lis _ (lastLi_mem h1)
    exact (ltake_11 n t ws pw ws.length cw w h hT hKB ho.mok h1 hi.1 (by omega) hw).mono fun e w' hp => post_to (by rw [takeS_it _ _ _ _ _ (by decide)]) hp
  · exact (ltake_12 n t ws pw ws.length cw w h (rdz_ir hr) hw).mono fun e w' hp => post_to (by rw [takeS_op _ _ _ _ _ (by decide)]) hp
  · exact (ltake_13 n t ws pw ws.length cw w h ho.mok.ls hce').mono fun e w' hp => post_to (by rw [takeS_it _ _ _ _ _ (by decide)]) hp
  · simp [mayS] at hm
    by_cases hc : y.co.length = 0
    · have h1 : 0 < y.li.length := by
        rcases ho.kind with ⟨k1, k2, k3⟩ | ⟨k1, k2, k3, k4⟩
        · have := hm.1.2; omega
        · omega
      exact (ltake_14l n t ws pw ws.length cw w h ho.mok hc h1).mono fun e w' hp => post_to (by rw [takeS_14]) hp
    · exact (ltake_14t n t ws pw ws.length cw w h ho.mok.ls hce' (by omega)).mono fun e w' hp => post_to (by rw [takeS_14]) hp
end Go.Proofs.YtalomeialegmiaaGreatDoor.Tb
end
section
namespace Go.Proofs.YtalomeialegmiaaGreatDoor.Tb
open Go.RowKit Go.Maps
set_option linter.unusedVariables false
set_option linter.unusedSimpArgs false
def lyz : Ly := ⟨⟨#[]⟩, 0, [], false, [], 0, [], 0, [], [], [], [], 0⟩
theorem lyz_lay : layY lyz plainK false = ly0 := rfl
def zero93 (wd : Int) (v : Value) : Array Value := #[.string ⟨#[]⟩, .int .i64 0, .int .i64 wd, v, .slice none 0 0, .bool false, .slice none 0 0, .int .i64 0, .int .i64 0, .int .i64 0, .bool false, .int .i64 0, .int .i64 0, .bool false, .int .i64 0, .int .i64 0, .bool false, .int .i64 0, .int .i64 0, .bool false, .int .i64 0, .int .i64 0, .bool false, .int .i64 0, .int .i64 0, .bool false, .int .i64 0, .int .i64 0, .bool false, .int .i64 0, .int .i64 0, .bool false, .int .i64 0, .int .i64 0, .bool false, .int .i64 0, .int .i64 0, .bool false, .int .i64 0, .int .i64 0, .bool false, .int .i64 0, .int .i64 0, .bool false, .int .i64 0, .int .i64 0, .bool false, .int .i64 0, .int .i64 0, .bool false, .int .i64 0, .int .i64 0, .bool false, .int .i64 0, .int .i64 0, .bool false, .int .i64 0, .int .i64 0, .bool false, .int .i64 0, .int .i64 0, .bool false, .int .i64 0, .int .i64 0, .bool false, .int .i64 0, .int .i64 0, .bool false, .int .i64 0, .int .i64 0, .bool false, .int .i64 0, .int .i64 0, .bool false, .int .i64 0, .int .i64 0, .bool false, .int .i64 0, .int .i64 0, .bool false, .int .i64 0, .int .i64 0, .bool false, .int .i64 0, .int .i64 0, .bool false, .int .i64 0, .int .i64 0, .int .i64 0, .slice none 0 0, .slice none 0 0, .slice none 0 0, .int .i64 0]
theorem zero93_ok (wd : Int) (v : Value) : LyC (zero93 wd v) wd lyz v nilV nilV nilV nilV nilV :=
  ⟨rfl, rfl, rfl, rfl, rfl, rfl, rfl, rfl, rfl, rfl, rfl, rfl, rfl, rfl, rfl, rfl, fun j hj => absurd hj (by simp [lyz]), fun j hj => absurd hj (by simp [lyz]), by simp [lyz], by simp [lyz]⟩
theorem zero93_eq (wd : Int) : Tryz.zeroCells93.setIfInBounds 2 (.int .i64 wd) = zero93 wd (.slice none 0 0) := by kernel_rfl
theorem zero93_set (wd : Int) (v u : Value) : (zero93 wd v).setIfInBounds 3 u = zero93 wd u := rfl
theorem infoCh : (Tryz.prog.info? 130).map (fun i => (i.zero, i.size, i.bytes)) = some (some (.agg #[.int .i64 0, .int .i64 0, .int .i64 0]), 3, 24) := by kernel_rfl
def chgRow (c : S6.Chg) : List Value := [.int .i64 c.on, .int .i64 c.off, .int .i64 c.col]
def rowsH (l : List S6.Chg) : List Value := l.flatMap chgRow
theorem rowsH_len : ∀ l : List S6.Chg, (rowsH l).length = l.length * 3
  | [] => rfl
  | r :: l => by
    have := rowsH_len l
    unfold rowsH at this ⊢
    rw [List.flatMap_cons, List.length_append, this, List.length_cons]
    simp [chgRow]
    omega
theorem rowsH_at : ∀ (l : List S6.Chg) (j k : Nat) (hj : j < l.length), k < 3 → (rowsH l)[j * 3 + k]? = (chgRow l[j])[k]?
  | [], j, k, hj, _ => absurd hj (by simp)
  | r :: l, 0, k, _, hk => by
    unfold rowsH
    rw [List.flatMap_cons, Nat.zero_mul, Nat.zero_add, List.getElem?_append_left (by simp [chgRow]; exact hk)]
    rfl
  | r :: l, j + 1, k, hj, hk => by
    have h := rowsH_at l j k (by simpa using hj) hk
    unfold rowsH at h ⊢
    rw [List.flatMap_cons, List.getElem?_append_right (by simp [chgRow]; omega), show (chgRow r).length = 3 from rfl, show (j + 1) * 3 + k - 3 = j * 3 + k by omega, h]
    simp
theorem rowsH_snoc (l : List S6.Chg) (r : S6.Chg) : rowsH (l ++ [r]) = rowsH l ++ chgRow r := by simp [rowsH]
theorem chgRow_one (r : S6.Chg) : ∀ u ∈ chgRow r, u.oneCell' = true := by
  intro u hr
  simp only [chgRow, List.mem_cons, List.not_mem_nil, or_false] at hr
  rcases hr with rfl | rfl | rfl <;> rfl
theorem RdH.own {w : World} {v : Value} {cs : List S6.Chg} {base n : Nat} (h : w.ownsRow base 130 3 v n (rowsH cs)) (hn : n = cs.length) : RdH (fun b => v.ownBlock = some b ∧ base ≤ b) w v cs := by
  subst hn
  rcases h.2 with ⟨rfl, h0⟩ | ⟨g, cap, cur, rfl, hb, hg, h1, h2, h3, h4⟩
  · have : cs = [] := List.eq_nil_of_length_eq_zero h0
    subst this
    exact ⟨none, 0, rfl, Nat.le_refl _, Nat.zero_le _, fun i hi => absurd hi (by simp)⟩
  · refine ⟨_, cap, rfl, h1, h2, fun j hj => ⟨g, 0, rfl, ⟨rfl, hb⟩, ?_⟩⟩
    have c : ∀ k, k < 3 → w.cell? ⟨g, j * 3 + k, none⟩ = (chgRow cs[j])[k]? := fun k hk => by
      rw [World.ownsRow.cellAt h (j * 3 + k) (by have := rowsH_len cs; omega), rowsH_at cs j k hj hk]
    rw [Nat.zero_add]
    exact ⟨c 0 (by omega), c 1 (by omega), c 2 (by omega)⟩
set_option maxRecDepth 100000 in
set_option maxHeartbeats 8000000 in
theorem begin_pro (sh : List S6.Sty) (v : Value) (wd : Int) (w : World) (h : S6.Sh w v sh) (hf : S6.Fit sh) (hn : sh.length ≤ 100000) :
    Calls Tryz.prog 31 #[v, .int .i64 wd] w (fun e w' => ∃ M, e = .returned (.pointer (some ⟨M, 0, none⟩)) ∧ LyI false w.heap.size M (fun b => b < w.heap.size) wd (chgs sh) ly0 w' ∧ Below w.heap.size w w') := by
  obtain ⟨i0, hi0, hz0, hz1, hz2⟩ := info_parts infoCh
  obtain ⟨pa, cap, rfl, hc1, hc2⟩ := h.form
  have HS := Lib.hid h
  have HFt := Lib.hid hf
  obtain ⟨n, hnn⟩ : ∃ n, sh.length = n := ⟨_, rfl⟩
  have HN := Lib.hid hnn
  rw [hnn] at HS hn ⊢
  have HCL := Lib.hid (show (chgs sh).length = n by simp [chgs, hnn])
  obtain ⟨M, hM⟩ : ∃ M, w.heap.size = M := ⟨_, rfl⟩
  have HM := Lib.hid hM
  have hA := below_box w (.cells (zero93 wd (.slice none 0 0)) 93)
  have HA := Lib.hid hA
  have HX := Lib.hid (heap_alloc_new w (.cells (zero93 wd (.slice none 0 0)) 93))
  rw [hM] at HX HA ⊢
  obtain ⟨W1, hW1⟩ : ∃ W1, w.alloc (.cells (zero93 wd (.slice none 0 0)) 93) = W1 := ⟨_, rfl⟩
  rw [hW1] at HA HX
  have hW1' := hW1
  rw [← zero93_eq] at hW1'
  have mixed : Tryz.prog.follows .mixedOrders = true := by kernel_rfl
  clear h hf hnn hc1 hA hW1
  go_enter Tryz.func31, Tryz.ntmps31
  go_wp2_with fail
  try simp only [hW1', hM]
  go_loopw [15] (fun i wr => ∃ (k : Nat) (vh : Value), i = .int .i64 k ∧ k ≤ n ∧ Hid (wr.heap[M]? = some (.cells (zero93 wd vh) 93 (0, 0))) ∧ Hid (wr.ownsRow M 130 3 vh k (rowsH ((chgs sh).take k))) ∧ Hid (Below M w wr)) (fun i _ => n - (intOf i).toNat)
  case atStart => exact ⟨0, _, rfl, Nat.zero_le _, HX, Lib.hid (World.ownsRow_nil _ _ _ _), HA⟩
  case round =>
    obtain ⟨k, vh, rfl, hk, HK, HO, HB⟩ := hrel
    by_cases hlt : k < n
    · have hkl : k < sh.length := by rw [HN.out]; exact hlt
      have k1 : (k : Int) < n := by omega
      have HLT := Lib.hid hlt
      have hsl := (HS.out.below (HB.out.mono (by rw [HM.out]; exact Nat.le_refl _)))
      obtain ⟨b, off, rfl, c0, c1, c2, c3, c4⟩ := hsl.cells hkl
      have HSN := Lib.hid (show (chgs sh).take (k + 1) = (chgs sh).take k ++ [(S6.wholeM sh (S6.gets sh k).nm).1] by
        rw [List.take_succ_eq_append_getElem (by rw [HCL.out]; exact hlt)]
        simp [chgs, S6.gets_eq hkl])
      obtain ⟨x, hx⟩ : ∃ x, S6.gets sh k = x := ⟨_, rfl⟩
      rw [hx] at c0 c1 c2 c3 c4 HSN
      have hbx := below_box wr (.cells #[.string (S6.bs x.nm), .string (S6.bs x.pr), .int .i64 x.ch.on, .int .i64 x.ch.off, .int .i64 x.ch.col] 132)
      have HBX := Lib.hid hbx
      have HWh := Lib.hid (S6.Whole_pro sh x.nm _ _ (hsl.below hbx) HFt.out)
      have HX5 := Lib.hid (heap_alloc_new wr (.cells #[.string (S6.bs x.nm), .string (S6.bs x.pr), .int .i64 x.ch.on, .int .i64 x.ch.off, .int .i64 x.ch.col] 132))
      unfold S6.chgE S6.chgVal at HWh
      obtain ⟨⟨g, er⟩, hg⟩ : ∃ g, S6.wholeM sh x.nm = g := ⟨_, rfl⟩
      rw [hg] at HWh HSN
      dsimp only at HWh HSN
      obtain ⟨nm, hnm⟩ : ∃ t, S6.bs x.nm = t := ⟨_, rfl⟩
      obtain ⟨pr, hpr⟩ : ∃ t, S6.bs x.pr = t := ⟨_, rfl⟩
      obtain ⟨W2, hW2⟩ : ∃ W2, wr.alloc (.cells #[.string nm, .string pr, .int .i64 x.ch.on, .int .i64 x.ch.off, .int .i64 x.ch.col] 132) = W2 := ⟨_, rfl⟩
      obtain ⟨sb, hsb⟩ : ∃ sb, wr.heap.size = sb := ⟨_, rfl⟩
      rw [hnm, hpr] at HWh HX5 HBX
      rw [hnm] at c0
      rw [hpr] at c1
      rw [hW2] at HWh HX5 HBX
      rw [hsb] at HX5
      have hx5 := HX5.out
      have e0 : W2.cell? ⟨sb, 0, none⟩ = some (.string nm) := by rw [cell_of_row _ _ _ _ _ _ hx5]; rfl
      clear hsl hx hbx hg hnm hpr hx5 hlt hkl
      obtain ⟨pv, cv, rfl⟩ := lenL HO.out
      go_wp2_with fail
      try simp only [hW2, hsb]
      refine HWh.out.mono ?_
      rintro e w3 ⟨rfl, hb3⟩
      have hB3 : Below wr.heap.size wr w3 := HBX.out.trans (hb3.mono HBX.out.size)
      have HB4 := Lib.hid (hB3.trans ((below_box w3 (.cells #[.int .i64 g.on, .int .i64 g.off, .int .i64 g.col] 130)).mono hB3.size))
      have HX4 := Lib.hid (heap_alloc_new w3 (.cells #[.int .i64 g.on, .int .i64 g.off, .int .i64 g.col] 130))
      obtain ⟨cb, hcb⟩ : ∃ cb, w3.heap.size = cb := ⟨_, rfl⟩
      obtain ⟨W4, hW4⟩ : ∃ W4, w3.alloc (.cells #[.int .i64 g.on, .int .i64 g.off, .int .i64 g.col] 130) = W4 := ⟨_, rfl⟩
      rw [hW4] at HB4 HX4
      rw [hcb] at HX4
      have hx4 := HX4.out
      have hMl : M < wr.heap.size := (Array.getElem?_eq_some_iff.1 HK.out).1
      have HK4 := Lib.hid ((HB4.out.block M hMl).trans HK.out)
      have HO4 := Lib.hid (own_below HO.out HB4.out)
      have HM4 := Lib.hid (show M < W4.heap.size from (Array.getElem?_eq_some_iff.1 HK4.out).1)
      have d0 : W4.cell? ⟨cb, 0, none⟩ = some (.int .i64 g.on) := by rw [cell_of_row _ _ _ _ _ _ hx4]; rfl
      have d1 : W4.cell? ⟨cb, 1, none⟩ = some (.int .i64 g.off) := by rw [cell_of_row _ _ _ _ _ _ hx4]; rfl
      have d2 : W4.cell? ⟨cb, 2, none⟩ = some (.int .i64 g.col) := by rw [cell_of_row _ _ _ _ _ _ hx4]; rfl
      have d3 : W4.cell? ⟨M, 3, none⟩ = some (.slice pv k cv) := by rw [cell_of_row _ _ _ _ _ _ HK4.out]; rfl
      have hq := below_box W4 (.cells #[.int .i64 g.on, .int .i64 g.off, .int .i64 g.col] 130)
      have q0 := (hq.cell (p := ⟨cb, 0, none⟩) (cellInL d0)).trans d0
      have q1 := (hq.cell (p := ⟨cb, 1, none⟩) (cellInL d1)).trans d1
      have q2 := (hq.cell (p := ⟨cb, 2, none⟩) (cellInL d2)).trans d2
      have q3 := (hq.cell (p := ⟨M, 3, none⟩) (cellInL d3)).trans d3
      have hq2 := below_box W4.drew (.cells #[.int .i64 g.on, .int .i64 g.off, .int .i64 g.col] 130)
      have HO5 := Lib.hid (own_below (show W4.drew.ownsRow M 130 3 (.slice pv k cv) k (rowsH ((chgs sh).take k)) from HO4.out) hq2)
      have HK5 := Lib.hid ((hq2.block M HM4.out).trans (show W4.drew.heap[M]? = _ from HK4.out))
      have L1 := Lib.hid (show k + 1 ≤ maxLen by unfold maxLen; omega)
      have L2 := Lib.hid (show (k + 1) * 24 ≤ 140737488355328 by omega)
      have L3 := Lib.hid (show M ≤ (W4.drew.alloc (.cells #[.int .i64 g.on, .int .i64 g.off, .int .i64 g.col] 130)).heap.size by have := hq2.size; have := HM4.out; have h9 : W4.drew.heap.size = W4.heap.size := rfl; omega)
      have HNV := Lib.hid (own_not HO5.out HK5.out (by decide))
      have HBD := Lib.hid ((HB.out.trans (HB4.out.mono (Nat.le_of_lt hMl))).drew.trans (hq2.mono (Nat.le_of_lt HM4.out)))
      clear hb3 hB3 hx4 hMl hq hq2 e0 c0 c1 c2 c3 c4
      go_wp2_with fail
      try simp only [hW4, hcb]
      go_region_law (refine step_append_lies _ rfl (.tmp 30) (.tmp 32) 82 rfl M 130 i0 _ 3 24 Tryz.underlying82 hi0 hz0 hz1 hz2 rfl (by decide) (.slice pv k cv) k (rowsH ((chgs sh).take k)) (by simp [Act.eval]) HO5.out ⟨W4.heap.size, 0, none⟩ 1 1 (chgRow g) (by simp [Act.eval]) rfl (cells_newL _ _ _) (chgRow_one g) (by decide) L1.out L2.out L3.out _ rfl ?_; intro g' cap' w5 hown' hgrow hat _; have HW5 := Lib.hid hown'; have hgk := (hgrow.block M (Array.getElem?_eq_some_iff.1 HK5.out).1 (fun e => HNV.out e.symm)).trans HK5.out; have HGK := Lib.hid hgk; have r3 : w5.cell? ⟨M, 3, none⟩ = some (.slice pv k cv) := (by rw [cell_of_row _ _ _ _ _ _ hgk]; rfl); have f3 : w5.frozen? ⟨M, 3, none⟩ = false := frozen_of_row w5 M 3 _ _ hgk; have HB5 := Lib.hid (HBD.out.grown hgrow L3.out (fun b hb => (own_base HO5.out hb).1)); have HAT := Lib.hid (show g' ≠ M from fun e => (by rcases hat with h | h; exact HNV.out (by rw [h, e]); exact absurd (e.symm.trans h) (Nat.ne_of_lt (Array.getElem?_eq_some_iff.1 HK5.out).1))); clear hown' hgrow hat hgk)
      all_goals
        have hk6 : (w5.setCell ⟨M, 3, none⟩ (.slice (some ⟨g', 0, none⟩) (k + 1) cap')).heap[M]? = some (.cells (zero93 wd (.slice (some ⟨g', 0, none⟩) (k + 1) cap')) 93 (0, 0)) := by
          have h9 := heap_setCell_same w5 M 3 _ _ (.slice (some ⟨g', 0, none⟩) (k + 1) cap') HGK.out
          rw [zero93_set] at h9
          exact h9
        have HK6 := Lib.hid hk6
        have HO6 := Lib.hid (show (w5.setCell ⟨M, 3, none⟩ (.slice (some ⟨g', 0, none⟩) (k + 1) cap')).ownsRow M 130 3 (.slice (some ⟨g', 0, none⟩) (k + 1) cap') (k + 1) (rowsH ((chgs sh).take (k + 1))) by
          rw [HSN.out, rowsH_snoc]
          exact own_stays HW5.out fun b e => Below.heap_setCell _ _ _ _ (by simp only [Value.ownBlock, Option.some.injEq] at e; rw [← e]; exact HAT.out))
        have HB6 := Lib.hid (HB5.out.setCell (p := ⟨M, 3, none⟩) (Nat.le_refl _) (.slice (some ⟨g', 0, none⟩) (k + 1) cap'))
        clear hk6
        go_wp2_with fail
        go_roundw
        case measure => have := HLT.out; simp [intOf]; omega
        case rel => exact ⟨k + 1, _, by go_num, HLT.out, HK6, HO6, HB6⟩
    · obtain rfl : k = n := by omega
      have hzk : ¬ (k : Int) < k := by omega
      have hO : wr.ownsRow M 130 3 vh k (rowsH (chgs sh)) := by
        have h9 := HO.out
        rw [List.take_of_length_le (by rw [HCL.out]; exact Nat.le_refl _)] at h9
        exact h9
      have hch : RdH (TlB M M nilV nilV nilV nilV) wr vh (chgs sh) := (RdH.own hO HCL.out.symm).move fun b h1 _ => ⟨rfl, h1.2, (fun e => by rw [e] at h1; exact own_not hO HK.out (by decide) h1.1), by simp [nilV, Value.ownBlock], by simp [nilV, Value.ownBlock], by simp [nilV, Value.ownBlock], by simp [nilV, Value.ownBlock]⟩
      have HLY := Lib.hid (show LyI false M M (fun b => b < M) wd (chgs sh) lyz wr from ⟨vh, nilV, nilV, nilV, nilV, nilV, nilV, [], [], _, ⟨Nat.le_refl _, HK.out, zero93_ok wd vh, hch, OwnL.nil _ _ _, World.ownsRow_nil _ _ _ _, RdC.nilC _, OwnL.nil _ _ _, World.ownsRow_nil _ _ _ _, fun b e => by simp [nilV, Value.ownBlock], fun b hb => ⟨Nat.lt_trans hb (Array.getElem?_eq_some_iff.1 HK.out).1, Nat.ne_of_lt hb, by simp [nilV, Value.ownBlock], by simp [nilV, Value.ownBlock], by simp [nilV, Value.ownBlock], by simp [nilV, Value.ownBlock]⟩⟩, fun e => by cases e⟩)
      have HPL := Lib.hid (lplain_pro wr.drew)
      have HD := Lib.hid ((Below.refl wr.heap.size wr).drew)
      clear hlt hO hch
      go_wp2_with fail
      go_region_law (first
        | (go_simp; go_at_call 59; refine HPL.out.mono ?_; rintro e w6 ⟨rfl, hb6⟩; have HB6 := Lib.hid (HD.out.trans (hb6.mono HD.out.size)); clear hb6)
        | (go_simp; go_at_call 58; refine (lay_pro plainK false _ (HLY.out.below HB6.out) (by simp [lyz])).mono ?_; rintro e w7 ⟨rfl, h7, hk7⟩; have H7 := Lib.hid h7; have HK7 := Lib.hid hk7; clear h7 hk7))
      all_goals
        go_wp2_with fail
        go_ret
        rw [lyz_lay] at H7
        have hMl : M < wr.heap.size := (Array.getElem?_eq_some_iff.1 HK.out).1
        exact ⟨M, rfl, H7.out, (HB.out.trans (HB6.out.mono (Nat.le_of_lt hMl))).trans (HK7.out.below fun b hb => hb)⟩
end Go.Proofs.YtalomeialegmiaaGreatDoor.Tb
end
section
namespace Go.Proofs.YtalomeialegmiaaGreatDoor.Tb
open Go.RowKit Go.Maps
set_option linter.unusedVariables false
set_option linter.unusedSimpArgs false
theorem results_cell_row_tmp {P : Program} {fn : Func} {p u : Tmp} {ty : TypeId} (h : fn.results = #[.cell p ty, .tmp u]) (tmps : Array Value) (w : World) (g : Nat) (t : TypeId) (cs : Array Value) (fr : Nat × Nat) (d : TypeDesc) (v : Value)
    (hp : tmps.getD p undef = .pointer (some ⟨g, 0, none⟩)) (hv : tmps.getD u undef = v) (hg : w.heap[g]? = some (.cells cs t fr))
    (hu : P.underlying ty = some d) (hd : (match d with | .struct _ | .array _ _ => true | _ => false) = true) (hi : (P.info? ty).map (·.size) = some cs.size) :
    (results fn tmps).run P w = .ok (.tuple #[.agg cs, v]) w := by
  rw [results_cell_tmp h, hp, hv]
  simp [asAddr, run_loadVar_row w g t ty cs fr d hg hu hd hi, Result.andThen]
def laidB (vl vr vk : Value) (mo : Bool) : Obj := .cells #[vl, vr, vk, .bool mo] 29
theorem laid_cells (w : World) (vl vr vk : Value) (mo : Bool) : (w.alloc (.cells #[vl, vr, vk, .bool mo] 29)).heap[w.heap.size]? = some (.cells #[vl, vr, vk, .bool mo] 29 (0, 0)) := heap_alloc_new w _
theorem layE_1 {sh : List S6.Sty} {l : List Opr} {tp wd : Int} (h : wd < 10 ∨ 200 < wd) : layE sh l tp wd = 1 := by unfold layE; rw [if_pos h]
theorem layL_no {sh : List S6.Sty} {l : List Opr} {tp wd : Int} (h : layE sh l tp wd ≠ 0) : layL sh l tp wd = ld0 := by unfold layL; rw [if_neg h]
theorem ldIs0 (P : Nat → Prop) (w : World) : LdIs P w (.slice none 0 0) (.slice none 0 0) (.slice none 0 0) ld0 :=
  ⟨⟨none, 0, rfl, Nat.le_refl _, Nat.zero_le _, fun j hj => absurd hj (by simp [ld0])⟩, ⟨none, 0, rfl, Nat.le_refl _, Nat.zero_le _, fun j hj => absurd hj (by simp [ld0])⟩, ⟨none, 0, rfl, Nat.le_refl _, Nat.zero_le _, fun j hj => absurd hj (by simp [ld0])⟩⟩
/-- What Layout answers. -/
def LayIs (sh : List S6.Sty) (l : List Opr) (tp wd : Int) (w : World) (e : Ending) (w' : World) : Prop := ∃ vl vr vk, e = .returned (.tuple #[laidV vl vr vk (layL sh l tp wd).more, .int .i64 (layE sh l tp wd)]) ∧ LdIs (w.heap.size ≤ ·) w' vl vr vk (layL sh l tp wd) ∧ Below w.heap.size w w'
theorem layIs_err {sh : List S6.Sty} {l : List Opr} {tp wd : Int} {w w' : World} {z : Int} (h : layE sh l tp wd = z) (hz : z ≠ 0) (hb : Below w.heap.size w w') : LayIs sh l tp wd w (.returned (.tuple #[.agg #[.slice none 0 0, .slice none 0 0, .slice none 0 0, .bool false], .int .i64 z])) w' := by
  refine ⟨.slice none 0 0, .slice none 0 0, .slice none 0 0, ?_, ?_, hb⟩
  · rw [layL_no (by rw [h]; exact hz), h]; rfl
  · rw [layL_no (by rw [h]; exact hz)]; exact ldIs0 _ _
/-- The result's cell, wherever it is untouched. -/
structure CellR (C : Nat) (W : World) : Prop where
  row : W.heap[C]? = some (.cells #[.slice none 0 0, .slice none 0 0, .slice none 0 0, .bool false] 29 (0, 0))
theorem CellR.keep {C : Nat} {w w' : World} (h : CellR C w) (hb : Below w.heap.size w w') : CellR C w' := ⟨(hb.block C (Array.getElem?_eq_some_iff.1 h.row).1).trans h.row⟩
theorem CellR.facts {C : Nat} {W : World} (h : CellR C W) : (W.cell? ⟨C, 0, none⟩ = some (.slice none 0 0) ∧ W.cell? ⟨C, 1, none⟩ = some (.slice none 0 0) ∧ W.cell? ⟨C, 2, none⟩ = some (.slice none 0 0) ∧ W.cell? ⟨C, 3, none⟩ = some (.bool false)) ∧ W.frozen? ⟨C, 0, none⟩ = false ∧ W.frozen? ⟨C, 1, none⟩ = false ∧ W.frozen? ⟨C, 2, none⟩ = false ∧ W.frozen? ⟨C, 3, none⟩ = false := by
  refine ⟨⟨?_, ?_, ?_, ?_⟩, frozen_of_row _ _ _ _ _ h.row, frozen_of_row _ _ _ _ _ h.row, frozen_of_row _ _ _ _ _ h.row, frozen_of_row _ _ _ _ _ h.row⟩ <;> rw [cell_of_row _ _ _ _ _ _ h.row] <;> rfl
theorem CellR.put {C : Nat} {W : World} (h : CellR C W) (a b c d : Value) : ((((W.setCell ⟨C, 0, none⟩ a).setCell ⟨C, 1, none⟩ b).setCell ⟨C, 2, none⟩ c).setCell ⟨C, 3, none⟩ d).heap[C]? = some (.cells #[a, b, c, d] 29 (0, 0)) :=
  heap_setCell_same _ C 3 _ _ d (heap_setCell_same _ C 2 _ _ c (heap_setCell_same _ C 1 _ _ b (heap_setCell_same W C 0 _ _ a h.row)))
theorem put_below {C N : Nat} {w W : World} (h : Below N w W) (hC : N ≤ C) (a b c d : Value) : Below N w ((((W.setCell ⟨C, 0, none⟩ a).setCell ⟨C, 1, none⟩ b).setCell ⟨C, 2, none⟩ c).setCell ⟨C, 3, none⟩ d) :=
  (((h.setCell (p := ⟨C, 0, none⟩) hC a).setCell (p := ⟨C, 1, none⟩) hC b).setCell (p := ⟨C, 2, none⟩) hC c).setCell (p := ⟨C, 3, none⟩) hC d
theorem RdC.ownT {w : World} {v : Value} {cs : List (Int × Int)} {base n : Nat} (h : w.ownsRow base 55 2 v n (rowsC cs)) (hn : n = cs.length) : RdC (base ≤ ·) w v cs := by
  subst hn
  rcases h.2 with ⟨rfl, h0⟩ | ⟨g, cap, cur, rfl, hb, hg, h1, h2, h3, h4⟩
  · exact ⟨none, 0, by rw [h0], by omega, Nat.zero_le _, fun i hi => absurd hi (by omega)⟩
  · refine ⟨_, cap, rfl, h1, h2, fun j hj => ⟨g, 0, rfl, hb, ?_⟩⟩
    have c : ∀ k, k < 2 → w.cell? ⟨g, j * 2 + k, none⟩ = (colRow cs[j])[k]? := fun k hk => by
      rw [World.ownsRow.cellAt h (j * 2 + k) (by have := rowsC_len cs; omega), rowsC_at cs j k hj hk]
    rw [Nat.zero_add]
    exact ⟨c 0 (by omega), c 1 (by omega)⟩
theorem flat_le {c : Nat} : ∀ {ls : List (List Gl)}, (∀ l ∈ ls, l.length ≤ c) → ls.flatten.length ≤ ls.length * c
  | [], _ => by simp
  | a :: ls, h => by
    have h1 := flat_le (ls := ls) fun l hl => h l (List.mem_cons_of_mem _ hl)
    have h2 := h a List.mem_cons_self
    rw [List.flatten_cons, List.length_append, List.length_cons, Nat.add_mul]
    omega
theorem below_tr {C : Nat} {w W W' : World} (h1 : Below C w W) (h2 : Below W.heap.size W W') (hC : w.heap.size = C) : Below C w W' := h1.trans (h2.mono (hC ▸ h1.size))
theorem layE_2 {sh : List S6.Sty} {l : List Opr} {tp wd : Int} (h : ¬ (wd < 10 ∨ 200 < wd)) (h2 : (S6.checkM sh).2 ≠ 0) : layE sh l tp wd = ((S6.checkM sh).2 : Nat) := by unfold layE; rw [if_neg h, if_pos h2]
theorem layE_3 {sh : List S6.Sty} {l : List Opr} {tp wd : Int} (h : ¬ (wd < 10 ∨ 200 < wd)) (h2 : (S6.checkM sh).2 = 0) (h3 : (Ir.chkM l sh.length tp).2 ≠ 0) : layE sh l tp wd = (Ir.chkM l sh.length tp).2 := by unfold layE; rw [if_neg h, if_neg (by omega), if_pos h3]
theorem layE_4 {sh : List S6.Sty} {l : List Opr} {tp wd : Int} (h : ¬ (wd < 10 ∨ 200 < wd)) (h2 : (S6.checkM sh).2 = 0) (h3 : (Ir.chkM l sh.length tp).2 = 0) : layE sh l tp wd = if 1000 < tp then 2 else 0 := by unfold layE; rw [if_neg h, if_neg (by omega), if_neg (by omega)]
theorem check_len {sh : List S6.Sty} (h : (S6.checkM sh).2 = 0) : sh.length ≤ 64 := by
  unfold S6.checkM at h
  split at h
  · simp at h
  · omega
theorem lay_last {sh : List S6.Sty} {l : List Opr} {tp wd : Int} {w wr w6 : World} {B C : Nat} {y : Ly} {vl vr vk : Value} (hE : layE sh l tp wd = 0) (hL : layL sh l tp wd = ldOf (runY wd (chgs sh) l)) (hy : y = runY wd (chgs sh) l) (hC : w.heap.size = C) (hCB : C < B)
    (hl : RdL (B ≤ ·) wr vl y.ls) (hk : RdC (B ≤ ·) wr vk y.lk) (hB : B ≤ wr.heap.size) (h6 : Below wr.heap.size wr w6) (hr : w6.ownsRow wr.heap.size 53 4 vr (rectsL y.ls).length (rowsQ (rectsL y.ls))) (hb : Below C w wr) :
    LayIs sh l tp wd w (.returned (.tuple #[.agg #[vl, vr, vk, .bool y.more], .int .i64 0])) ((((w6.setCell ⟨C, 0, none⟩ vl).setCell ⟨C, 1, none⟩ vr).setCell ⟨C, 2, none⟩ vk).setCell ⟨C, 3, none⟩ (.bool y.more)) := by
  have hD : layL sh l tp wd = ⟨y.ls, rectsL y.ls, y.lk, y.more⟩ := by rw [hL, ← hy]; rfl
  have hB6 : Below w6.heap.size w6 w6 := Below.refl _ _
  have hset : ∀ b, B ≤ b → ((((w6.setCell ⟨C, 0, none⟩ vl).setCell ⟨C, 1, none⟩ vr).setCell ⟨C, 2, none⟩ vk).setCell ⟨C, 3, none⟩ (.bool y.more)).heap[b]? = w6.heap[b]? := fun b hb => by
    have hne : b ≠ C := by omega
    rw [Below.heap_setCell _ _ _ _ hne, Below.heap_setCell _ _ _ _ hne, Below.heap_setCell _ _ _ _ hne, Below.heap_setCell _ _ _ _ hne]
  have hq : RdQ (B ≤ ·) w6 vr (rectsL y.ls) := (RdQ.own hr rfl).imp fun b _ h => Nat.le_trans hB h
  refine ⟨vl, vr, vk, ?_, ?_, ?_⟩
  · rw [hD, hE]; rfl
  · rw [hD]
    refine ⟨(hl.below h6).move fun b hb _ => ⟨hset b hb, ?_⟩, ?_, (hk.below h6).move fun b hb _ => ⟨hset b hb, ?_⟩⟩
    · rw [hC]; omega
    · refine RdQ.imp (hq.keep fun a ha _ => World.cell?_of_block (hset _ ha)) fun b _ hb => ?_
      rw [hC]; omega
    · rw [hC]; omega
  · rw [hC]
    exact put_below (below_tr hb h6 hC) (Nat.le_refl _) _ _ _ _
set_option maxRecDepth 100000 in
set_option maxHeartbeats 8000000 in
theorem layout_pro {P : Nat → Prop} (sh : List S6.Sty) (l : List Opr) (sv v : Value) (tp wd : Int) (w : World) (hs : S6.Sh w sv sh) (hf : S6.Fit sh) (h : Ir.RdO P w v l) (hz : Ir.sizeOk l) (hT : Tabs w) (hT6 : S6.Tabs w) :
    Calls Tryz.prog 10 #[sv, v, .int .i64 tp, .int .i64 wd] w (LayIs sh l tp wd w) := by
  have HCK := Lib.hid (fun W (hb : Below w.heap.size w W) => S6.check_pro' sh sv W (hs.below hb) hf)
  have HIR := Lib.hid (fun W (hb : Below w.heap.size w W) => Ir.check_pro l v sh.length tp W (h.below hb) hz (hT.below hb (Nat.le_refl _)))
  have HBG := Lib.hid (fun W (hb : Below w.heap.size w W) (hn : sh.length ≤ 100000) => begin_pro sh sv wd W (hs.below hb) hf hn)
  have hA := below_box w (laidB (.slice none 0 0) (.slice none 0 0) (.slice none 0 0) false)
  unfold laidB at hA
  have HX := Lib.hid (show CellR w.heap.size (w.alloc (.cells #[.slice none 0 0, .slice none 0 0, .slice none 0 0, .bool false] 29)) from ⟨laid_cells w (.slice none 0 0) (.slice none 0 0) (.slice none 0 0) false⟩)
  have HA := Lib.hid hA
  have HH := Lib.hid h
  have HT6 := Lib.hid hT6
  obtain ⟨ps, cps, rfl, q1, q2⟩ := hs.form
  obtain ⟨pa, cap, rfl, hc1, hc2⟩ := h.form
  unfold maxLen at hc2
  by_cases hw : wd < 10 ∨ 200 < wd
  · have HE := Lib.hid (layE_1 (sh := sh) (l := l) (tp := tp) hw)
    have hx := HX.out.row
    by_cases w1 : wd < 10
    · clear h hs hf hz hT hT6 hw hA
      go_enter Tryz.func10, Tryz.ntmps10
      go_wp2_with fail
      exact bodyPost_ret (v := .tuple #[.agg #[.slice none 0 0, .slice none 0 0, .slice none 0 0, .bool false], .int .i64 1]) (results_cell_row_tmp rfl _ _ w.heap.size 29 #[.slice none 0 0, .slice none 0 0, .slice none 0 0, .bool false] _ _ _ rfl rfl hx Tryz.underlying29 rfl (by kernel_rfl)) rfl (layIs_err HE.out (by decide) HA.out)
    · have w2 : 200 < wd := by omega
      clear h hs hf hz hT hT6 hw hA
      go_enter Tryz.func10, Tryz.ntmps10
      go_wp2_with fail
      exact bodyPost_ret (v := .tuple #[.agg #[.slice none 0 0, .slice none 0 0, .slice none 0 0, .bool false], .int .i64 1]) (results_cell_row_tmp rfl _ _ w.heap.size 29 #[.slice none 0 0, .slice none 0 0, .slice none 0 0, .bool false] _ _ _ rfl rfl hx Tryz.underlying29 rfl (by kernel_rfl)) rfl (layIs_err HE.out (by decide) HA.out)
  have g1 : ¬ wd < 10 := by omega
  have g2 : ¬ 200 < wd := by omega
  have HW := Lib.hid hw
  obtain ⟨C, hC⟩ : ∃ C, w.heap.size = C := ⟨_, rfl⟩
  obtain ⟨W1, hW1⟩ : ∃ W1, w.alloc (.cells #[.slice none 0 0, .slice none 0 0, .slice none 0 0, .bool false] 29) = W1 := ⟨_, rfl⟩
  rw [hW1] at HX HA
  have HC := Lib.hid hC
  rw [hC] at HX HA HCK HIR HBG
  have HCK1 := Lib.hid (HCK.out W1 HA.out)
  unfold S6.Says S6.ckV at HCK1
  obtain ⟨ckr, hck⟩ : ∃ r, S6.checkM sh = r := ⟨_, rfl⟩
  have HCKr := Lib.hid hck
  rw [hck] at HCK1
  obtain ⟨n, hn⟩ : ∃ n, l.length = n := ⟨_, rfl⟩
  have HN := Lib.hid hn
  rw [hn] at HH hc1 HIR ⊢
  obtain ⟨N, hNs⟩ : ∃ N, sh.length = N := ⟨_, rfl⟩
  have HNS := Lib.hid hNs
  rw [hNs] at HIR HCK1 HBG q1 ⊢
  have hN62 : n ≤ 9223372036854775807 := by omega
  have hS62 : N ≤ 9223372036854775807 := by unfold maxLen at q2; omega
  clear h hs hf hz hT hT6 hw hA hck hn hNs HCK
  by_cases e2 : ¬ ckr.2 = 0
  · have HE := Lib.hid (layE_2 (sh := sh) (l := l) (tp := tp) HW.out (by rw [HCKr.out]; exact e2))
    rw [HCKr.out] at HE
    have e2b : ((ckr.2 : Int) != 0) = true := S6.natne e2
    have HE2 := Lib.hid (show ((ckr.2 : Nat) : Int) ≠ 0 by omega)
    go_enter Tryz.func10, Tryz.ntmps10
    go_wp2_with fail
    try simp only [hW1, hC]
    refine HCK1.out.mono ?_
    rintro e w2 ⟨rfl, hb⟩
    have hX2 := HX.out.keep hb
    obtain ⟨⟨d0, d1, d2, d3⟩, f0, f1, f2, f3⟩ := hX2.facts
    have HX2 := Lib.hid hX2
    have HB := Lib.hid (below_tr HA.out hb HC.out)
    clear hb hX2
    go_wp2_with fail
    exact bodyPost_ret (v := .tuple #[.agg #[.slice none 0 0, .slice none 0 0, .slice none 0 0, .bool false], .int .i64 (ckr.2 : Nat)]) (results_cell_row_tmp rfl _ _ C 29 #[.slice none 0 0, .slice none 0 0, .slice none 0 0, .bool false] _ _ _ rfl rfl (HX2.out.put _ _ _ _) Tryz.underlying29 rfl (by kernel_rfl)) rfl (layIs_err HE.out HE2.out (by rw [HC.out]; exact put_below HB.out (Nat.le_refl _) _ _ _ _))
  have e2' : ckr.2 = 0 := by omega
  have e2b : ((ckr.2 : Int) != 0) = false := S6.nateq e2'
  have HL64 := Lib.hid (show N ≤ 100000 by have := check_len (sh := sh) (by rw [HCKr.out]; exact e2'); have := HNS.out; omega)
  have HZ0 := Lib.hid (show (S6.checkM sh).2 = 0 by rw [HCKr.out]; exact e2')
  obtain ⟨r, hr⟩ : ∃ r, Ir.chkM l (N : Int) tp = r := ⟨_, rfl⟩
  have HR := Lib.hid hr
  rw [hr] at HIR
  unfold Ir.ChkIs at HIR
  by_cases e3 : ¬ r.2 = 0
  · have HE := Lib.hid (layE_3 (sh := sh) (l := l) (tp := tp) HW.out HZ0.out (by rw [HNS.out, HR.out]; exact e3))
    rw [HNS.out, HR.out] at HE
    have e3b : (r.2 != 0) = true := by simpa using e3
    have HE2 := Lib.hid e3
    clear hr e2 e2' HBG
    go_enter Tryz.func10, Tryz.ntmps10
    go_wp2_with fail
    try simp only [hW1, hC]
    refine HCK1.out.mono ?_
    rintro e w2 ⟨rfl, hb⟩
    have hX2 := HX.out.keep hb
    have HX2 := Lib.hid hX2
    have hB := below_tr HA.out hb HC.out
    have HB := Lib.hid hB
    have HIR2 := Lib.hid (HIR.out w2 hB)
    clear hb hX2 hB HIR
    go_wp2_with fail
    refine HIR2.out.mono ?_
    rintro e w3 ⟨rfl, hb⟩
    have hX3 := HX2.out.keep hb
    obtain ⟨⟨d0, d1, d2, d3⟩, f0, f1, f2, f3⟩ := hX3.facts
    have HX3 := Lib.hid hX3
    have HB3 := Lib.hid (below_tr HB.out hb HC.out)
    clear hb hX3
    go_wp2_with fail
    exact bodyPost_ret (v := .tuple #[.agg #[.slice none 0 0, .slice none 0 0, .slice none 0 0, .bool false], .int .i64 r.2]) (results_cell_row_tmp rfl _ _ C 29 #[.slice none 0 0, .slice none 0 0, .slice none 0 0, .bool false] _ _ _ rfl rfl (HX3.out.put _ _ _ _) Tryz.underlying29 rfl (by kernel_rfl)) rfl (layIs_err HE.out HE2.out (by rw [HC.out]; exact put_below HB3.out (Nat.le_refl _) _ _ _ _))
  have e3' : r.2 = 0 := by omega
  have e3b : (r.2 != 0) = false := by simpa using e3'
  have hE := layE_4 (sh := sh) (l := l) (tp := tp) HW.out HZ0.out (by rw [HNS.out, HR.out]; exact e3')
  by_cases e4 : 1000 < tp
  · rw [if_pos e4] at hE
    have HE := Lib.hid hE
    clear hr e2 e2' e3 e3' HBG hE
    go_enter Tryz.func10, Tryz.ntmps10
    go_wp2_with fail
    try simp only [hW1, hC]
    refine HCK1.out.mono ?_
    rintro e w2 ⟨rfl, hb⟩
    have hX2 := HX.out.keep hb
    have HX2 := Lib.hid hX2
    have hB := below_tr HA.out hb HC.out
    have HB := Lib.hid hB
    have HIR2 := Lib.hid (HIR.out w2 hB)
    clear hb hX2 hB HIR
    go_wp2_with fail
    refine HIR2.out.mono ?_
    rintro e w3 ⟨rfl, hb⟩
    have hX3 := HX2.out.keep hb
    obtain ⟨⟨d0, d1, d2, d3⟩, f0, f1, f2, f3⟩ := hX3.facts
    have HX3 := Lib.hid hX3
    have HB3 := Lib.hid (below_tr HB.out hb HC.out)
    clear hb hX3
    go_wp2_with fail
    exact bodyPost_ret (v := .tuple #[.agg #[.slice none 0 0, .slice none 0 0, .slice none 0 0, .bool false], .int .i64 2]) (results_cell_row_tmp rfl _ _ C 29 #[.slice none 0 0, .slice none 0 0, .slice none 0 0, .bool false] _ _ _ rfl rfl (HX3.out.put _ _ _ _) Tryz.underlying29 rfl (by kernel_rfl)) rfl (layIs_err HE.out (by decide) (by rw [HC.out]; exact put_below HB3.out (Nat.le_refl _) _ _ _ _))
  rw [if_neg e4] at hE
  have HE := Lib.hid hE
  have HLL := Lib.hid (show layL sh l tp wd = ldOf (runY wd (chgs sh) l) by unfold layL; rw [if_pos hE])
  have hck := HR.out
  have HR3 := Lib.hid e3'
  have HCL := Lib.hid (show (chgs sh).length = N by simp [chgs, HNS.out])
  have HBD := Lib.hid (show l.length ≤ 65536 ∧ Ir.sumT l ≤ 16384 ∧ (Ir.runM (N : Int) tp l wk0 0).2 = 0 by
    unfold Ir.chkM at hck
    split at hck
    · rw [← hck] at e3'; simp at e3'
    · rw [hck]; omega)
  clear hr e2 e2' e3 e3' hE hck
  go_enter Tryz.func10, Tryz.ntmps10
  go_wp2_with fail
  try simp only [hW1, hC]
  refine HCK1.out.mono ?_
  rintro e w2 ⟨rfl, hb⟩
  have hX2 := HX.out.keep hb
  have HX2 := Lib.hid hX2
  have hB := below_tr HA.out hb HC.out
  have HB := Lib.hid hB
  have HIR2 := Lib.hid (HIR.out w2 hB)
  clear hb hX2 hB HIR
  go_wp2_with fail
  refine HIR2.out.mono ?_
  rintro e w3 ⟨rfl, hb⟩
  have hX3 := HX2.out.keep hb
  have HX3 := Lib.hid hX3
  have hB3 := below_tr HB.out hb HC.out
  have HB3 := Lib.hid hB3
  have HBG3 := Lib.hid (HBG.out w3 hB3 HL64.out)
  clear hb hX3 hB3 HBG HX2 HB HIR2 HCK1
  go_wp2_with fail
  refine HBG3.out.mono ?_
  rintro e w4 ⟨M, rfl, hI, hb⟩
  obtain ⟨B, hBB⟩ : ∃ B, w3.heap.size = B := ⟨_, rfl⟩
  have HBB := Lib.hid hBB
  have HX4 := Lib.hid (HX3.out.keep hb)
  have HCB := Lib.hid (show C < B from hBB ▸ (Array.getElem?_eq_some_iff.1 HX3.out.row).1)
  have HB4 := Lib.hid (below_tr HB3.out hb HC.out)
  rw [hBB] at hI hb
  have HI := Lib.hid hI
  have HTL := Lib.hid (show TbL B w4 from ⟨w3, HT6.out.below HB3.out (by rw [HC.out]; exact Nat.le_refl _), by rw [hBB]; exact Nat.le_refl _, hb⟩)
  have HSB := Lib.hid (show B ≤ w4.heap.size from hBB ▸ hb.size)
  clear hI hb hBB HBG3
  go_wp2_with fail
  go_loopw [53] (fun i wr => ∃ (k : Nat) (s : Wk) (y : Ly), i = .int .i64 k ∧ k ≤ n ∧ Hid (LyI s.para B M (fun b => b < B) wd (chgs sh) y wr) ∧ Hid (LyOk s y k (Ir.sumT (l.take k))) ∧ Hid (y = runY wd (chgs sh) (l.take k)) ∧ Hid ((Ir.runM (N : Int) tp (l.drop k) s k).2 = 0) ∧ Hid (Below B w4 wr)) (fun i _ => n - (intOf i).toNat)
  case atStart => exact ⟨0, wk0, ly0, rfl, Nat.zero_le _, HI, Lib.hid lyOk0, Lib.hid rfl, Lib.hid HBD.out.2.2, Lib.hid (Below.refl _ _)⟩
  case round =>
    obtain ⟨k, s, y, rfl, hk, HI, HO, HY, HRr, HBr⟩ := hrel
    by_cases hlt : k < n
    · have hkl : k < l.length := by rw [HN.out]; exact hlt
      have hBw : Below C w wr := HB4.out.trans (HBr.out.mono (Nat.le_of_lt HCB.out))
      obtain ⟨b, off, rfl, c0, c1, c2, wv, c3, h4⟩ := (HH.out.below (by rw [HC.out]; exact hBw)).at_ (by rw [HN.out]; exact hlt)
      obtain ⟨p4, q4, rfl, -, -⟩ := h4.form
      have hs := Ir.runM_step (st := (N : Int)) (tp := tp) (s := s) hkl
      have hrr := HRr.out
      rw [hs] at hrr
      have hfm : (Ir.fitB l[k] (N : Int) tp && mayS s l[k].k) = true := by
        cases e : (Ir.fitB l[k] (N : Int) tp && mayS s l[k].k) with
        | true => rfl
        | false => rw [e] at hrr; simp at hrr
      rw [hfm, if_pos rfl] at hrr
      rw [Bool.and_eq_true] at hfm
      have hsum := Ir.sumT_take hkl
      have hle : Ir.sumT (l.take (k + 1)) ≤ 16384 := Nat.le_trans (Ir.sumT_le l (k + 1)) HBD.out.2.1
      have hyt : runY wd (chgs sh) (l.take (k + 1)) = takeY wd (chgs sh) y l[k] := by
        unfold runY
        rw [List.take_succ_eq_append_getElem hkl, List.foldl_append, HY.out]
        rfl
      obtain ⟨x, hx⟩ : ∃ x, l[k] = x := ⟨_, rfl⟩
      rw [hx] at c0 c1 c2 c3 h4 hfm hrr hsum hyt
      have hal := below_box wr (.cells #[.int .i64 x.k, .int .i64 x.n, .string x.t, .slice p4 x.w.length q4] 65)
      have hBN : B ≤ wr.heap.size := Nat.le_trans HSB.out HBr.out.size
      have hTLr : TbL B wr := by obtain ⟨w0, t1, t2, t3⟩ := HTL.out; exact ⟨w0, t1, t2, t3.trans HBr.out⟩
      have HTK := Lib.hid (take_any (tp := tp) x p4 q4 _ (HI.out.below hal) HO.out hfm.1 hfm.2 (h4.below hal) ⟨by omega, by omega⟩ (hTLr.below hBN hal) (fun b hb => hb) HCL.out (by have := HBD.out.1; omega) (by omega))
      have HOK := Lib.hid (take_ok (wd := wd) (ch := chgs sh) ⟨by omega, by omega⟩ HO.out hfm.1 hfm.2)
      have HRR := Lib.hid hrr
      have HSUM := Lib.hid hsum
      have HYT := Lib.hid hyt
      have HAL := Lib.hid (HBr.out.trans (hal.mono hBN))
      have HXX := Lib.hid (heap_alloc_new wr (.cells #[.int .i64 x.k, .int .i64 x.n, .string x.t, .slice p4 x.w.length q4] 65))
      obtain ⟨zl, hzl⟩ : ∃ zl, x.w.length = zl := ⟨_, rfl⟩
      rw [hzl] at c3 HTK HAL HXX
      have k1 : (k : Int) < n := by omega
      have HLT := Lib.hid hlt
      clear hal hrr hs hfm hsum hle hyt hx hzl h4 hTLr hBN hBw hlt hkl
      go_wp2_with fail
      refine HTK.out.mono ?_
      rintro e w5 ⟨rfl, hI5, hk5⟩
      have HI5 := Lib.hid hI5
      have HB5 := Lib.hid (HAL.out.trans (hk5.below fun c hc => hc))
      clear hI5 hk5
      go_wp2_with fail
      go_roundw
      case measure => have := HLT.out; simp [intOf]; omega
      case rel => exact ⟨k + 1, takeS s x, takeY wd (chgs sh) y x, by go_num, HLT.out, HI5, Lib.hid (by rw [HSUM.out]; exact HOK.out), Lib.hid HYT.out.symm, HRR, HB5⟩
    · obtain rfl : k = n := by omega
      have hzk : ¬ (k : Int) < k := by omega
      have hyr : y = runY wd (chgs sh) l := by have h9 := HY.out; rw [List.take_of_length_le (by rw [HN.out]; exact Nat.le_refl _)] at h9; exact h9
      obtain ⟨vh, vl, vk, vc, ve, vf, vo, vs, cs, c, hm, _⟩ := HI.out
      have hMl := hm.lt
      have hwC : w.heap.size < B := by rw [HC.out]; exact HCB.out
      have hrl : RdL (B ≤ ·) wr vl y.ls := hm.ls.rd (fun b hb _ => hb) (fun b _ hb => hb.1)
      have hrk : RdC (B ≤ ·) wr vk y.lk := RdC.ownT hm.lk rfl
      have hfl : y.ls.flatten.length * 32 ≤ 140737488355328 := by
        have h1 := flat_le HO.out.lns.1
        have h2 := HO.out.mok.ls
        have h3 : y.ls.length * 1000 ≤ 2000 * 1000 := Nat.mul_le_mul_right _ h2
        omega
      obtain ⟨pl, cl, rfl⟩ := lenL hm.ls.row
      obtain ⟨pk, ck, rfl⟩ := lenL hm.lk
      have c4 : wr.cell? ⟨M, 4, none⟩ = some (.slice pl y.ls.length cl) := (hm.cell 4).trans hm.cel.ls
      have c5 : wr.cell? ⟨M, 5, none⟩ = some (.bool y.more) := (hm.cell 5).trans hm.cel.mo
      have c6 : wr.cell? ⟨M, 6, none⟩ = some (.slice pk y.lk.length ck) := (hm.cell 6).trans hm.cel.lk
      have HRC := Lib.hid (rects_pro y.ls (.slice pl y.ls.length cl) wr.drew (hrl.below ((Below.refl _ wr).drew)) hfl)
      have HRL := Lib.hid hrl
      have HRK := Lib.hid hrk
      have HM := Lib.hid hMl
      have HFC := Lib.hid (show wr.cell? ⟨M, 4, none⟩ = some (.slice pl y.ls.length cl) ∧ wr.cell? ⟨M, 5, none⟩ = some (.bool y.more) ∧ wr.cell? ⟨M, 6, none⟩ = some (.slice pk y.lk.length ck) from ⟨c4, c5, c6⟩)
      have HXr := Lib.hid (show CellR C wr from ⟨(HBr.out.block C HCB.out).trans HX4.out.row⟩)
      have a4 : wr.drew.cell? ⟨M, 4, none⟩ = some (.slice pl y.ls.length cl) := c4
      have a5 : wr.drew.cell? ⟨M, 5, none⟩ = some (.bool y.more) := c5
      have a6 : wr.drew.cell? ⟨M, 6, none⟩ = some (.slice pk y.lk.length ck) := c6
      have HYR := Lib.hid hyr
      have HBN := Lib.hid (show B ≤ wr.heap.size from Nat.le_trans HSB.out HBr.out.size)
      unfold MakesQ at HRC
      obtain ⟨nl, hnl⟩ : ∃ nl, y.ls.length = nl := ⟨_, rfl⟩
      obtain ⟨nk, hnk⟩ : ∃ nk, y.lk.length = nk := ⟨_, rfl⟩
      rw [hnl] at HRC HRL HFC a4
      rw [hnk] at HRK HFC a6
      clear hm hrl hrk hfl c4 c5 c6 hyr hnl hnk hlt hMl
      go_wp2_with fail
      go_region_law (go_simp; go_at_call 18; refine HRC.out.mono ?_; rintro e w6 ⟨vr, rfl, ho6, hb6⟩; have h6 := (Below.refl wr.heap.size wr).drew.trans hb6; have HO6 := Lib.hid ho6; have HB6 := Lib.hid h6; have b4 : w6.cell? ⟨M, 4, none⟩ = some (.slice pl nl cl) := (h6.cell (p := ⟨M, 4, none⟩) HM.out).trans HFC.out.1; have b5 : w6.cell? ⟨M, 5, none⟩ = some (.bool y.more) := (h6.cell (p := ⟨M, 5, none⟩) HM.out).trans HFC.out.2.1; have b6 : w6.cell? ⟨M, 6, none⟩ = some (.slice pk nk ck) := (h6.cell (p := ⟨M, 6, none⟩) HM.out).trans HFC.out.2.2; have hX6 := HXr.out.keep h6; have HX6 := Lib.hid hX6; obtain ⟨pr, cr, rfl⟩ := lenL ho6; obtain ⟨⟨d0, d1, d2, d3⟩, f0, f1, f2, f3⟩ := hX6.facts; clear ho6 hb6 h6 hX6)
      all_goals
        go_wp2_with fail
        exact bodyPost_ret (v := .tuple #[.agg #[.slice pl nl cl, .slice pr (rectsL y.ls).length cr, .slice pk nk ck, .bool y.more], .int .i64 0]) (results_cell_row_tmp rfl _ _ C 29 #[.slice pl nl cl, .slice pr (rectsL y.ls).length cr, .slice pk nk ck, .bool y.more] _ _ _ rfl rfl (HX6.out.put _ _ _ _) Tryz.underlying29 rfl (by kernel_rfl)) rfl (lay_last HE.out HLL.out HYR.out HC.out HCB.out HRL.out HRK.out HBN.out HB6.out HO6.out (HB4.out.trans (HBr.out.mono (Nat.le_of_lt HCB.out))))
end Go.Proofs.YtalomeialegmiaaGreatDoor.Tb
end
section
namespace Go.Proofs.YtalomeialegmiaaGreatDoor.Tb
open Go.RowKit Go.Maps
set_option linter.unusedVariables false
set_option linter.unusedSimpArgs false
def exLn : List (List Gl) := [letsL ⟨#[115, 101, 101, 32, 116, 104, 101, 32]⟩ ++ [⟨⟨#[103]⟩, 1, 0, 7, 1⟩, ⟨⟨#[111]⟩, 1, 0, 7, 1⟩], [⟨⟨#[111]⟩, 1, 0, 7, 1⟩, ⟨⟨#[110]⟩, 1, 0, 7, 1⟩]]
def exD : Ld := ⟨exLn, [⟨0, 8, 2, 1⟩, ⟨1, 0, 2, 1⟩], [(0, 0)], false⟩
theorem ex_d : layL [] exL 1 10 = exD := by
  have h1 := ex_lines
  have h2 := ex_rects
  have h3 := ex_links
  obtain ⟨d, hd⟩ : ∃ d, layL [] exL 1 10 = d := ⟨_, rfl⟩
  rw [hd] at h1 h2 h3 ⊢
  obtain ⟨a, b, c, m⟩ := d
  dsimp only at h1 h2 h3
  rw [h1, h2, h3.1, h3.2]
  rfl
set_option maxRecDepth 100000 in
theorem ex_show : showL exLn = [⟨#[115, 101, 101, 32, 116, 104, 101, 32, 103, 111]⟩, ⟨#[111, 110]⟩] := by kernel_rfl
set_option maxRecDepth 100000 in
theorem ex_rec : rectsL exLn = [⟨0, 8, 2, 1⟩, ⟨1, 0, 2, 1⟩] := by kernel_rfl
theorem ex_hit : hitF 1 1 [⟨0, 8, 2, 1⟩, ⟨1, 0, 2, 1⟩] = some 1 := by kernel_rfl
def oEx : Obj := .cells #[.int .i64 8, .int .i64 (-1), .string ⟨#[]⟩, .slice none 0 0, .int .i64 1, .int .i64 0, .string ⟨#[115, 101, 101, 32, 116, 104, 101, 32]⟩, .slice none 0 0, .int .i64 3, .int .i64 0, .string ⟨#[]⟩, .slice none 0 0, .int .i64 1, .int .i64 0, .string ⟨#[103, 111, 32, 111, 110]⟩, .slice none 0 0, .int .i64 5, .int .i64 0, .string ⟨#[]⟩, .slice none 0 0, .int .i64 9, .int .i64 0, .string ⟨#[]⟩, .slice none 0 0] 65
theorem ex_op (w : World) : Ir.RdO (fun _ => True) (w.alloc oEx) (.slice (some ⟨w.heap.size, 0, none⟩) 6 6) exL := by
  have h := heap_alloc_new w oEx
  refine ⟨_, 6, rfl, Nat.le_refl _, by decide, fun j hj => ⟨w.heap.size, 0, rfl, trivial, ?_⟩⟩
  have hj4 : j < 6 := hj
  rcases (show j = 0 ∨ j = 1 ∨ j = 2 ∨ j = 3 ∨ j = 4 ∨ j = 5 by omega) with rfl | rfl | rfl | rfl | rfl | rfl <;> (refine ⟨?_, ?_, ?_, _, ?_, ⟨none, 0, rfl, Nat.le_refl _, Nat.zero_le _, fun i hi => absurd hi (Nat.not_lt_zero _)⟩⟩ <;> (rw [cell_of_row _ _ _ _ _ _ h]; rfl))
theorem two_strs {w : World} {B : Nat} {v : Value} {a b : ByteArray} (h : w.ownsRow B 9 1 v [a, b].length (strsV [a, b])) : ∃ g c, v = .slice (some ⟨g, 0, none⟩) 2 c ∧ w.cell? ⟨g, 0, none⟩ = some (.string a) ∧ w.cell? ⟨g, 1, none⟩ = some (.string b) := by
  rcases h.2 with ⟨e, h0⟩ | ⟨g, cap, cur, e, hb, hg, h1, h2, h3, h4⟩
  · simp at h0
  · subst e
    exact ⟨g, cap, rfl, World.ownsRow.cellAt h 0 (by simp [strsV]), World.ownsRow.cellAt h 1 (by simp [strsV])⟩
set_option maxRecDepth 100000 in
set_option maxHeartbeats 8000000 in
theorem awake_law (w : World) (hT : Tabs w) (hT6 : S6.Tabs w) : Calls Tryz.prog 9 #[] w (SaysL (.bool true) w) := by
  have hA := below_box w oEx
  have HA := Lib.hid hA
  have HLy := Lib.hid (layout_pro [] exL (.slice none 0 0) (.slice (some ⟨w.heap.size, 0, none⟩) 6 6) 1 10 (w.alloc oEx) ⟨none, 0, rfl, Nat.le_refl _, Nat.zero_le _, fun i hi => absurd hi (Nat.not_lt_zero _)⟩ (fun s hs => by simp at hs) (ex_op w) (by unfold Ir.sizeOk; decide +kernel) (hT.below hA (Nat.le_refl _)) (hT6.below hA (Nat.le_refl _)))
  unfold LayIs at HLy
  rw [ex_d, ex_err] at HLy
  unfold oEx at HA HLy
  clear hA hT hT6
  go_enter Tryz.func9, Tryz.ntmps9
  go_wp2_with fail
  refine HLy.out.mono ?_
  rintro e w2 ⟨vl, vr, vk, rfl, hD, hb⟩
  obtain ⟨pl, cl, rfl, -, -⟩ := hD.lines.form
  obtain ⟨pr, cr, rfl, -, -⟩ := hD.rects.form
  obtain ⟨pk, ck, rfl, -, -, -⟩ := hD.links
  have hB := HA.out.trans (hb.mono HA.out.size)
  have HB := Lib.hid hB
  unfold laidV
  rw [show exD.more = false from rfl]
  rw [show exD.lines.length = 2 from rfl, show exD.rects.length = 2 from rfl, show exD.links.length = 1 from rfl] at hD ⊢
  have HX := Lib.hid (laid_cells w2 (.slice pl 2 cl) (.slice pr 2 cr) (.slice pk 1 ck) false)
  have hA2 := below_box w2 (.cells #[.slice pl 2 cl, .slice pr 2 cr, .slice pk 1 ck, .bool false] 29)
  have HD := Lib.hid (hD.below hA2)
  have HB2 := Lib.hid (hB.trans (hA2.mono hB.size))
  have hx := HX.out
  obtain ⟨d0, d1, d2, d3⟩ : (w2.alloc (.cells #[.slice pl 2 cl, .slice pr 2 cr, .slice pk 1 ck, .bool false] 29)).cell? ⟨w2.heap.size, 0, none⟩ = some (.slice pl 2 cl) ∧ (w2.alloc (.cells #[.slice pl 2 cl, .slice pr 2 cr, .slice pk 1 ck, .bool false] 29)).cell? ⟨w2.heap.size, 1, none⟩ = some (.slice pr 2 cr) ∧ (w2.alloc (.cells #[.slice pl 2 cl, .slice pr 2 cr, .slice pk 1 ck, .bool false] 29)).cell? ⟨w2.heap.size, 2, none⟩ = some (.slice pk 1 ck) ∧ (w2.alloc (.cells #[.slice pl 2 cl, .slice pr 2 cr, .slice pk 1 ck, .bool false] 29)).cell? ⟨w2.heap.size, 3, none⟩ = some (.bool false) := by
    refine ⟨?_, ?_, ?_, ?_⟩ <;> rw [cell_of_row _ _ _ _ _ _ hx] <;> rfl
  have HSh := Lib.hid (show_pro exLn (.slice pl 2 cl) (.slice pr 2 cr) (.slice pk 1 ck) false _ HD.out.lines rfl rfl (by decide) (by decide +kernel))
  unfold laidV MakesS at HSh
  rw [ex_show] at HSh
  clear hD hb hB hA2 HLy hx
  go_wp2_with fail
  refine HSh.out.mono ?_
  rintro e w4 ⟨vs, rfl, ho4, hb4⟩
  obtain ⟨gs, cs, rfl, s0, s1⟩ := two_strs ho4
  obtain ⟨b, hbn⟩ : ∃ b, w2.heap.size = b := ⟨_, rfl⟩
  have hx4 := (hb4.block w2.heap.size (Array.getElem?_eq_some_iff.1 HX.out).1).trans HX.out
  have HX4 := Lib.hid hx4
  have HD4 := Lib.hid (HD.out.below hb4)
  have HB4 := Lib.hid (HB2.out.trans (hb4.mono HB2.out.size))
  rw [hbn] at HX4 hx4 ⊢
  clear d0 d1 d2 d3 ho4 hb4 HX HD HB2 HSh HB
  have d0 : w4.cell? ⟨b, 0, none⟩ = some (.slice pl 2 cl) := by rw [cell_of_row _ _ _ _ _ _ hx4]; rfl
  have d1 : w4.cell? ⟨b, 1, none⟩ = some (.slice pr 2 cr) := by rw [cell_of_row _ _ _ _ _ _ hx4]; rfl
  have d2 : w4.cell? ⟨b, 2, none⟩ = some (.slice pk 1 ck) := by rw [cell_of_row _ _ _ _ _ _ hx4]; rfl
  have d3 : w4.cell? ⟨b, 3, none⟩ = some (.bool false) := by rw [cell_of_row _ _ _ _ _ _ hx4]; rfl
  have HRc := Lib.hid (rects_pro exLn (.slice pl 2 cl) w4 HD4.out.lines (by decide +kernel))
  unfold MakesQ at HRc
  rw [ex_rec] at HRc
  clear hx4
  go_wp2_with fail
  refine HRc.out.mono ?_
  rintro e w5 ⟨vq, rfl, ho5, hb5⟩
  obtain ⟨pq, cq, rfl⟩ := lenL ho5
  rw [show [(⟨0, 8, 2, 1⟩ : Rc), ⟨1, 0, 2, 1⟩].length = 2 from rfl]
  have hx5 := (hb5.block b (Array.getElem?_eq_some_iff.1 HX4.out).1).trans HX4.out
  have HX5 := Lib.hid hx5
  have HD5 := Lib.hid (HD4.out.below hb5)
  have HB5 := Lib.hid (HB4.out.trans (hb5.mono HB4.out.size))
  clear d0 d1 d2 d3 s0 s1 ho5 hb5 HX4 HD4 HB4 HRc
  have d0 : w5.cell? ⟨b, 0, none⟩ = some (.slice pl 2 cl) := by rw [cell_of_row _ _ _ _ _ _ hx5]; rfl
  have d1 : w5.cell? ⟨b, 1, none⟩ = some (.slice pr 2 cr) := by rw [cell_of_row _ _ _ _ _ _ hx5]; rfl
  have d2 : w5.cell? ⟨b, 2, none⟩ = some (.slice pk 1 ck) := by rw [cell_of_row _ _ _ _ _ _ hx5]; rfl
  have d3 : w5.cell? ⟨b, 3, none⟩ = some (.bool false) := by rw [cell_of_row _ _ _ _ _ _ hx5]; rfl
  have HHt := Lib.hid (hit_pro exD.rects (.slice pl 2 cl) (.slice pr 2 cr) (.slice pk 1 ck) false 1 1 w5 HD5.out.rects rfl rfl)
  unfold laidV at HHt
  rw [show hitF 1 1 exD.rects = some 1 from ex_hit] at HHt
  unfold hitV at HHt
  dsimp only at HHt
  clear hx5
  go_wp2_with fail
  refine HHt.out.mono ?_
  rintro e w6 ⟨rfl, hb6⟩
  have hx6 := (hb6.block b (Array.getElem?_eq_some_iff.1 HX5.out).1).trans HX5.out
  have HX6 := Lib.hid hx6
  have HD6 := Lib.hid (HD5.out.below hb6)
  have HB6 := Lib.hid (HB5.out.trans (hb6.mono HB5.out.size))
  clear d0 d1 d2 d3 hb6 HX5 HD5 HB5 HHt
  have d0 : w6.cell? ⟨b, 0, none⟩ = some (.slice pl 2 cl) := by rw [cell_of_row _ _ _ _ _ _ hx6]; rfl
  have d1 : w6.cell? ⟨b, 1, none⟩ = some (.slice pr 2 cr) := by rw [cell_of_row _ _ _ _ _ _ hx6]; rfl
  have d2 : w6.cell? ⟨b, 2, none⟩ = some (.slice pk 1 ck) := by rw [cell_of_row _ _ _ _ _ _ hx6]; rfl
  have d3 : w6.cell? ⟨b, 3, none⟩ = some (.bool false) := by rw [cell_of_row _ _ _ _ _ _ hx6]; rfl
  have HSm := Lib.hid (lsame_pro exD exD (.slice pl 2 cl) (.slice pr 2 cr) (.slice pk 1 ck) (.slice pl 2 cl) (.slice pr 2 cr) (.slice pk 1 ck) w6 HD6.out HD6.out)
  unfold laidV SaysL at HSm
  rw [decide_eq_true (rfl : exD = exD), show exD.more = false from rfl] at HSm
  clear hx6
  go_wp2_with fail
  refine HSm.out.mono ?_
  rintro e w7 ⟨rfl, hb7⟩
  have hx7 := (hb7.block b (Array.getElem?_eq_some_iff.1 HX6.out).1).trans HX6.out
  have HB7 := Lib.hid (HB6.out.trans (hb7.mono HB6.out.size))
  have hr7 := (HD6.out.below hb7).rects
  obtain ⟨q, off, rfl, _, r0, r1, r2, r3⟩ := hr7.at_ (j := 0) (by decide)
  rw [show exD.rects[0] = ⟨0, 8, 2, 1⟩ from rfl, Nat.zero_mul, Nat.add_zero] at r1 r2
  dsimp only at r1 r2
  clear d0 d1 d2 d3 hb7 HX6 HD6 HB6 HSm r0 r3 hr7
  have d1 : w7.cell? ⟨b, 1, none⟩ = some (.slice (some ⟨q, off, none⟩) 2 cr) := by rw [cell_of_row _ _ _ _ _ _ hx7]; rfl
  clear hx7
  go_wp2_with fail
  go_ret
  exact ⟨rfl, HB7.out⟩
end Go.Proofs.YtalomeialegmiaaGreatDoor.Tb
end
