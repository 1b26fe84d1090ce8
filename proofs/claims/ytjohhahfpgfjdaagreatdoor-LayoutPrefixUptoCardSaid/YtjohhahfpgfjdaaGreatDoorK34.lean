/- The texts that the laws of layout stand on, part 34. -/
import Derived.Test.YtjohhahfpgfjdaaGreatDoorK33
import Derived.Laws.ResultCell
section
namespace Go.Proofs.YtjohhahfpgfjdaaGreatDoor.Tb
open Go.RowKit Go.Maps
set_option linter.unusedVariables false
set_option linter.unusedSimpArgs false
theorem results_cell_row_tmp {P : Program} {fn : Func} {p u : Tmp} {ty : TypeId} (h : fn.results = #[.cell p ty, .tmp u]) (tmps : Array Value) (w : World) (g : Nat) (t : TypeId) (cs : Array Value) (fr : Nat × Nat) (d : TypeDesc) (v : Value)
    (hp : tmps.getD p undef = .pointer (some ⟨g, 0, none⟩)) (hv : tmps.getD u undef = v) (hg : w.heap[g]? = some (.cells cs t fr))
    (hu : P.underlying ty = some d) (hd : (match d with | .struct _ | .array _ _ => true | _ => false) = true) (hi : (P.info? ty).map (·.size) = some cs.size) :
    (results fn tmps).run P w = .ok (.tuple #[.agg cs, v]) w := by
  rw [results_cell_tmp h, hp, hv]
  simp [asAddr, run_loadVar_row w g t ty cs fr d hg hu hd hi, Result.andThen]
def laidB (vl vr vk : Value) (mo : Bool) : Obj := .cells #[vl, vr, vk, .bool mo] 29
theorem laid_cells (w : World) (vl vr vk : Value) (mo : Bool) : (w.alloc (.cells #[vl, vr, vk, .bool mo] 29)).heap[w.heap.size]? = some (.cells #[vl, vr, vk, .bool mo] 29 (0, 0)) := heap_alloc_new w _
theorem layE_1 {sh : List S6.Sty} {l : List Opr} {tp wd : Int} (h : wd < 10 ∨ 200 < wd) : layE sh l tp wd = 1 := by unfold layE; rw [if_pos h]
theorem layL_no {sh : List S6.Sty} {l : List Opr} {tp wd : Int} (h : layE sh l tp wd ≠ 0) : layL sh l tp wd = ld0 := by unfold layL; rw [if_neg h]
theorem ldIs0 (P : Nat → Prop) (w : World) : LdIs P w (.slice none 0 0) (.slice none 0 0) (.slice none 0 0) ld0 :=
  ⟨⟨none, 0, rfl, Nat.le_refl _, Nat.zero_le _, fun j hj => absurd hj (by simp [ld0])⟩, ⟨none, 0, rfl, Nat.le_refl _, Nat.zero_le _, fun j hj => absurd hj (by simp [ld0])⟩, ⟨none, 0, rfl, Nat.le_refl _, Nat.zero_le _, fun j hj => absurd hj (by simp [ld0])⟩⟩
/-- What Layout answers. -/
def LayIs (sh : List S6.Sty) (l : List Opr) (tp wd : Int) (w : World) (e : Ending) (w' : World) : Prop := ∃ vl vr vk, e = .returned (.tuple #[laidV vl vr vk (layL sh l tp wd).more, .int .i64 (layE sh l tp wd)]) ∧ LdIs (w.heap.size ≤ ·) w' vl vr vk (layL sh l tp wd) ∧ Below w.heap.size w w'
theorem layIs_err {sh : List S6.Sty} {l : List Opr} {tp wd : Int} {w w' : World} {z : Int} (h : layE sh l tp wd = z) (hz : z ≠ 0) (hb : Below w.heap.size w w') : LayIs sh l tp wd w (.returned (.tuple #[.agg #[.slice none 0 0, .slice none 0 0, .slice none 0 0, .bool false], .int .i64 z])) w' := by
  refine ⟨.slice none 0 0, .slice none 0 0, .slice none 0 0, ?_, ?_, hb⟩
  · rw [layL_no (by rw [h]; exact hz), h]; rfl
  · rw [layL_no (by rw [h]; exact hz)]; exact ldIs0 _ _
/-- The result's cell, wherever it is untouched. -/
structure CellR (C : Nat) (W : World) : Prop where
  row : W.heap[C]? = some (.cells #[.slice none 0 0, .slice none 0 0, .slice none 0 0, .bool false] 29 (0, 0))
theorem CellR.keep {C : Nat} {w w' : World} (h : CellR C w) (hb : Below w.heap.size w w') : CellR C w' := ⟨(hb.block C (Array.getElem?_eq_some_iff.1 h.row).1).trans h.row⟩
theorem CellR.facts {C : Nat} {W : World} (h : CellR C W) : (W.cell? ⟨C, 0, none⟩ = some (.slice none 0 0) ∧ W.cell? ⟨C, 1, none⟩ = some (.slice none 0 0) ∧ W.cell? ⟨C, 2, none⟩ = some (.slice none 0 0) ∧ W.cell? ⟨C, 3, none⟩ = some (.bool false)) ∧ W.frozen? ⟨C, 0, none⟩ = false ∧ W.frozen? ⟨C, 1, none⟩ = false ∧ W.frozen? ⟨C, 2, none⟩ = false ∧ W.frozen? ⟨C, 3, none⟩ = false := by
  refine ⟨⟨?_, ?_, ?_, ?_⟩, frozen_of_row _ _ _ _ _ h.row, frozen_of_row _ _ _ _ _ h.row, frozen_of_row _ _ _ _ _ h.row, frozen_of_row _ _ _ _ _ h.row⟩ <;> rw [cell_of_row _ _ _ _ _ _ h.row] <;> rfl
theorem CellR.put {C : Nat} {W : World} (h : CellR C W) (a b c d : Value) : ((((W.setCell ⟨C, 0, none⟩ a).setCell ⟨C, 1, none⟩ b).setCell ⟨C, 2, none⟩ c).setCell ⟨C, 3, none⟩ d).heap[C]? = some (.cells #[a, b, c, d] 29 (0, 0)) :=
  heap_setCell_same _ C 3 _ _ d (heap_setCell_same _ C 2 _ _ c (heap_setCell_same _ C 1 _ _ b (heap_setCell_same W C 0 _ _ a h.row)))
theorem put_below {C N : Nat} {w W : World} (h : Below N w W) (hC : N ≤ C) (a b c d : Value) : Below N w ((((W.setCell ⟨C, 0, none⟩ a).setCell ⟨C, 1, none⟩ b).setCell ⟨C, 2, none⟩ c).setCell ⟨C, 3, none⟩ d) :=
  (((h.setCell (p := ⟨C, 0, none⟩) hC a).setCell (p := ⟨C, 1, none⟩) hC b).setCell (p := ⟨C, 2, none⟩) hC c).setCell (p := ⟨C, 3, none⟩) hC d
theorem RdC.ownT {w : World} {v : Value} {cs : List (Int × Int)} {base n : Nat} (h : w.ownsRow base 39 2 v n (rowsC cs)) (hn : n = cs.length) : RdC (base ≤ ·) w v cs := by
  subst hn
  rcases h.2 with ⟨rfl, h0⟩ | ⟨g, cap, cur, rfl, hb, hg, h1, h2, h3, h4⟩
  · exact ⟨none, 0, by rw [h0], by omega, Nat.zero_le _, fun i hi => absurd hi (by omega)⟩
  · refine ⟨_, cap, rfl, h1, h2, fun j hj => ⟨g, 0, rfl, hb, ?_⟩⟩
    have c : ∀ k, k < 2 → w.cell? ⟨g, j * 2 + k, none⟩ = (colRow cs[j])[k]? := fun k hk => by
      rw [World.ownsRow.cellAt h (j * 2 + k) (by have := rowsC_len cs; omega), rowsC_at cs j k hj hk]
    rw [Nat.zero_add]
    exact ⟨c 0 (by omega), c 1 (by omega)⟩
theorem flat_le {c : Nat} : ∀ {ls : List (List Gl)}, (∀ l ∈ ls, l.length ≤ c) → ls.flatten.length ≤ ls.length * c
  | [], _ => by simp
  | a :: ls, h => by
    have h1 := flat_le (ls := ls) fun l hl => h l (List.mem_cons_of_mem _ hl)
    have h2 := h a List.mem_cons_self
    rw [List.flatten_cons, List.length_append, List.length_cons, Nat.add_mul]
    omega
theorem below_tr {C : Nat} {w W W' : World} (h1 : Below C w W) (h2 : Below W.heap.size W W') (hC : w.heap.size = C) : Below C w W' := h1.trans (h2.mono (hC ▸ h1.size))
theorem layE_2 {sh : List S6.Sty} {l : List Opr} {tp wd : Int} (h : ¬ (wd < 10 ∨ 200 < wd)) (h2 : (S6.checkM sh).2 ≠ 0) : layE sh l tp wd = ((S6.checkM sh).2 : Nat) := by unfold layE; rw [if_neg h, if_pos h2]
theorem layE_3 {sh : List S6.Sty} {l : List Opr} {tp wd : Int} (h : ¬ (wd < 10 ∨ 200 < wd)) (h2 : (S6.checkM sh).2 = 0) (h3 : (Ir.chkM l sh.length tp).2 ≠ 0) : layE sh l tp wd = (Ir.chkM l sh.length tp).2 := by unfold layE; rw [if_neg h, if_neg (by omega), if_pos h3]
theorem layE_4 {sh : List S6.Sty} {l : List Opr} {tp wd : Int} (h : ¬ (wd < 10 ∨ 200 < wd)) (h2 : (S6.checkM sh).2 = 0) (h3 : (Ir.chkM l sh.length tp).2 = 0) : layE sh l tp wd = if 1000 < tp then 2 else 0 := by unfold layE; rw [if_neg h, if_neg (by omega), if_neg (by omega)]
theorem check_len {sh : List S6.Sty} (h : (S6.checkM sh).2 = 0) : sh.length ≤ 64 := by
  unfold S6.checkM at h
  split at h
  · simp at h
  · omega
theorem lay_last {sh : List S6.Sty} {l : List Opr} {tp wd : Int} {w wr w6 : World} {B C : Nat} {y : Ly} {vl vr vk : Value} (hE : layE sh l tp wd = 0) (hL : layL sh l tp wd = ldOf (runY wd (chgs sh) l)) (hy : y = runY wd (chgs sh) l) (hC : w.heap.size = C) (hCB : C < B)
    (hl : RdL (B ≤ ·) wr vl y.ls) (hk : RdC (B ≤ ·) wr vk y.lk) (hB : B ≤ wr.heap.size) (h6 : Below wr.heap.size wr w6) (hr : w6.ownsRow wr.heap.size 37 4 vr (rectsL y.ls).length (rowsQ (rectsL y.ls))) (hb : Below C w wr) :
    LayIs sh l tp wd w (.returned (.tuple #[.agg #[vl, vr, vk, .bool y.more], .int .i64 0])) ((((w6.setCell ⟨C, 0, none⟩ vl).setCell ⟨C, 1, none⟩ vr).setCell ⟨C, 2, none⟩ vk).setCell ⟨C, 3, none⟩ (.bool y.more)) := by
  have hD : layL sh l tp wd = ⟨y.ls, rectsL y.ls, y.lk, y.more⟩ := by rw [hL, ← hy]; rfl
  have hB6 : Below w6.heap.size w6 w6 := Below.refl _ _
  have hset : ∀ b, B ≤ b → ((((w6.setCell ⟨C, 0, none⟩ vl).setCell ⟨C, 1, none⟩ vr).setCell ⟨C, 2, none⟩ vk).setCell ⟨C, 3, none⟩ (.bool y.more)).heap[b]? = w6.heap[b]? := fun b hb => by
    have hne : b ≠ C := by omega
    rw [Below.heap_setCell _ _ _ _ hne, Below.heap_setCell _ _ _ _ hne, Below.heap_setCell _ _ _ _ hne, Below.heap_setCell _ _ _ _ hne]
  have hq : RdQ (B ≤ ·) w6 vr (rectsL y.ls) := (RdQ.own hr rfl).imp fun b _ h => Nat.le_trans hB h
  refine ⟨vl, vr, vk, ?_, ?_, ?_⟩
  · rw [hD, hE]; rfl
  · rw [hD]
    refine ⟨(hl.below h6).move fun b hb _ => ⟨hset b hb, ?_⟩, ?_, (hk.below h6).move fun b hb _ => ⟨hset b hb, ?_⟩⟩
    · rw [hC]; omega
    · refine RdQ.imp (hq.keep fun a ha _ => World.cell?_of_block (hset _ ha)) fun b _ hb => ?_
      rw [hC]; omega
    · rw [hC]; omega
  · rw [hC]
    exact put_below (below_tr hb h6 hC) (Nat.le_refl _) _ _ _ _
set_option maxRecDepth 100000 in
set_option maxHeartbeats 8000000 in
theorem layout_pro {P : Nat → Prop} (sh : List S6.Sty) (l : List Opr) (sv v : Value) (tp wd : Int) (w : World) (hs : S6.Sh w sv sh) (hf : S6.Fit sh) (h : Ir.RdO P w v l) (hz : Ir.sizeOk l) (hT : Tabs w) (hT6 : S6.Tabs w) :
    Calls Tryz.prog 10 #[sv, v, .int .i64 tp, .int .i64 wd] w (LayIs sh l tp wd w) := by
  have HCK := Lib.hid (fun W (hb : Below w.heap.size w W) => S6.check_pro' sh sv W (hs.below hb) hf)
  have HIR := Lib.hid (fun W (hb : Below w.heap.size w W) => Ir.check_pro l v sh.length tp W (h.below hb) hz (hT.below hb (Nat.le_refl _)))
  have HBG := Lib.hid (fun W (hb : Below w.heap.size w W) (hn : sh.length ≤ 100000) => begin_pro sh sv wd W (hs.below hb) hf hn)
  have hA := below_box w (laidB (.slice none 0 0) (.slice none 0 0) (.slice none 0 0) false)
  unfold laidB at hA
  have HX := Lib.hid (show CellR w.heap.size (w.alloc (.cells #[.slice none 0 0, .slice none 0 0, .slice none 0 0, .bool false] 29)) from ⟨laid_cells w (.slice none 0 0) (.slice none 0 0) (.slice none 0 0) false⟩)
  have HA := Lib.hid hA
  have HH := Lib.hid h
  have HT6 := Lib.hid hT6
  obtain ⟨ps, cps, rfl, q1, q2⟩ := hs.form
  obtain ⟨pa, cap, rfl, hc1, hc2⟩ := h.form
  unfold maxLen at hc2
  by_cases hw : wd < 10 ∨ 200 < wd
  · have HE := Lib.hid (layE_1 (sh := sh) (l := l) (tp := tp) hw)
    have hx := HX.out.row
    by_cases w1 : wd < 10
    · clear h hs hf hz hT hT6 hw hA
      go_enter Tryz.func10, Tryz.ntmps10
      go_wp2_with fail
      exact bodyPost_ret (v := .tuple #[.agg #[.slice none 0 0, .slice none 0 0, .slice none 0 0, .bool false], .int .i64 1]) (results_cell_row_tmp rfl _ _ w.heap.size 29 #[.slice none 0 0, .slice none 0 0, .slice none 0 0, .bool false] _ _ _ rfl rfl hx Tryz.underlying29 rfl (by kernel_rfl)) rfl (layIs_err HE.out (by decide) HA.out)
    · have w2 : 200 < wd := by omega
      clear h hs hf hz hT hT6 hw hA
      go_enter Tryz.func10, Tryz.ntmps10
      go_wp2_with fail
      exact bodyPost_ret (v := .tuple #[.agg #[.slice none 0 0, .slice none 0 0, .slice none 0 0, .bool false], .int .i64 1]) (results_cell_row_tmp rfl _ _ w.heap.size 29 #[.slice none 0 0, .slice none 0 0, .slice none 0 0, .bool false] _ _ _ rfl rfl hx Tryz.underlying29 rfl (by kernel_rfl)) rfl (layIs_err HE.out (by decide) HA.out)
  have g1 : ¬ wd < 10 := by omega
  have g2 : ¬ 200 < wd := by omega
  have HW := Lib.hid hw
  obtain ⟨C, hC⟩ : ∃ C, w.heap.size = C := ⟨_, rfl⟩
  obtain ⟨W1, hW1⟩ : ∃ W1, w.alloc (.cells #[.slice none 0 0, .slice none 0 0, .slice none 0 0, .bool false] 29) = W1 := ⟨_, rfl⟩
  rw [hW1] at HX HA
  have HC := Lib.hid hC
  rw [hC] at HX HA HCK HIR HBG
  have HCK1 := Lib.hid (HCK.out W1 HA.out)
  unfold S6.Says S6.ckV at HCK1
  obtain ⟨ckr, hck⟩ : ∃ r, S6.checkM sh = r := ⟨_, rfl⟩
  have HCKr := Lib.hid hck
  rw [hck] at HCK1
  obtain ⟨n, hn⟩ : ∃ n, l.length = n := ⟨_, rfl⟩
  have HN := Lib.hid hn
  rw [hn] at HH hc1 HIR ⊢
  obtain ⟨N, hNs⟩ : ∃ N, sh.length = N := ⟨_, rfl⟩
  have HNS := Lib.hid hNs
  rw [hNs] at HIR HCK1 HBG q1 ⊢
  have hN62 : n ≤ 9223372036854775807 := by omega
  have hS62 : N ≤ 9223372036854775807 := by unfold maxLen at q2; omega
  clear h hs hf hz hT hT6 hw hA hck hn hNs HCK
  by_cases e2 : ¬ ckr.2 = 0
  · have HE := Lib.hid (layE_2 (sh := sh) (l := l) (tp := tp) HW.out (by rw [HCKr.out]; exact e2))
    rw [HCKr.out] at HE
    have e2b : ((ckr.2 : Int) != 0) = true := S6.natne e2
    have HE2 := Lib.hid (show ((ckr.2 : Nat) : Int) ≠ 0 by omega)
    go_enter Tryz.func10, Tryz.ntmps10
    go_wp2_with fail
    try simp only [hW1, hC]
    refine HCK1.out.mono ?_
    rintro e w2 ⟨rfl, hb⟩
    have hX2 := HX.out.keep hb
    obtain ⟨⟨d0, d1, d2, d3⟩, f0, f1, f2, f3⟩ := hX2.facts
    have HX2 := Lib.hid hX2
    have HB := Lib.hid (below_tr HA.out hb HC.out)
    clear hb hX2
    go_wp2_with fail
    exact bodyPost_ret (v := .tuple #[.agg #[.slice none 0 0, .slice none 0 0, .slice none 0 0, .bool false], .int .i64 (ckr.2 : Nat)]) (results_cell_row_tmp rfl _ _ C 29 #[.slice none 0 0, .slice none 0 0, .slice none 0 0, .bool false] _ _ _ rfl rfl (HX2.out.put _ _ _ _) Tryz.underlying29 rfl (by kernel_rfl)) rfl (layIs_err HE.out HE2.out (by rw [HC.out]; exact put_below HB.out (Nat.le_refl _) _ _ _ _))
  have e2' : ckr.2 = 0 := by omega
  have e2b : ((ckr.2 : Int) != 0) = false := S6.nateq e2'
  have HL64 := Lib.hid (show N ≤ 100000 by have := check_len (sh := sh) (by rw [HCKr.out]; exact e2'); have := HNS.out; omega)
  have HZ0 := Lib.hid (show (S6.checkM sh).2 = 0 by rw [HCKr.out]; exact e2')
  obtain ⟨r, hr⟩ : ∃ r, Ir.chkM l (N : Int) tp = r := ⟨_, rfl⟩
  have HR := Lib.hid hr
  rw [hr] at HIR
  unfold Ir.ChkIs at HIR
  by_cases e3 : ¬ r.2 = 0
  · have HE := Lib.hid (layE_3 (sh := sh) (l := l) (tp := tp) HW.out HZ0.out (by rw [HNS.out, HR.out]; exact e3))
    rw [HNS.out, HR.out] at HE
    have e3b : (r.2 != 0) = true := by simpa using e3
    have HE2 := Lib.hid e3
    clear hr e2 e2' HBG
    go_enter Tryz.func10, Tryz.ntmps10
    go_wp2_with fail
    try simp only [hW1, hC]
    refine HCK1.out.mono ?_
    rintro e w2 ⟨rfl, hb⟩
    have hX2 := HX.out.keep hb
    have HX2 := Lib.hid hX2
    have hB := below_tr HA.out hb HC.out
    have HB := Lib.hid hB
    have HIR2 := Lib.hid (HIR.out w2 hB)
    clear hb hX2 hB HIR
    go_wp2_with fail
    refine HIR2.out.mono ?_
    rintro e w3 ⟨rfl, hb⟩
    have hX3 := HX2.out.keep hb
    obtain ⟨⟨d0, d1, d2, d3⟩, f0, f1, f2, f3⟩ := hX3.facts
    have HX3 := Lib.hid hX3
    have HB3 := Lib.hid (below_tr HB.out hb HC.out)
    clear hb hX3
    go_wp2_with fail
    exact bodyPost_ret (v := .tuple #[.agg #[.slice none 0 0, .slice none 0 0, .slice none 0 0, .bool false], .int .i64 r.2]) (results_cell_row_tmp rfl _ _ C 29 #[.slice none 0 0, .slice none 0 0, .slice none 0 0, .bool false] _ _ _ rfl rfl (HX3.out.put _ _ _ _) Tryz.underlying29 rfl (by kernel_rfl)) rfl (layIs_err HE.out HE2.out (by rw [HC.out]; exact put_below HB3.out (Nat.le_refl _) _ _ _ _))
  have e3' : r.2 = 0 := by omega
  have e3b : (r.2 != 0) = false := by simpa using e3'
  have hE := layE_4 (sh := sh) (l := l) (tp := tp) HW.out HZ0.out (by rw [HNS.out, HR.out]; exact e3')
  by_cases e4 : 1000 < tp
  · rw [if_pos e4] at hE
    have HE := Lib.hid hE
    clear hr e2 e2' e3 e3' HBG hE
    go_enter Tryz.func10, Tryz.ntmps10
    go_wp2_with fail
    try simp only [hW1, hC]
    refine HCK1.out.mono ?_
    rintro e w2 ⟨rfl, hb⟩
    have hX2 := HX.out.keep hb
    have HX2 := Lib.hid hX2
    have hB := below_tr HA.out hb HC.out
    have HB := Lib.hid hB
    have HIR2 := Lib.hid (HIR.out w2 hB)
    clear hb hX2 hB HIR
    go_wp2_with fail
    refine HIR2.out.mono ?_
    rintro e w3 ⟨rfl, hb⟩
    have hX3 := HX2.out.keep hb
    obtain ⟨⟨d0, d1, d2, d3⟩, f0, f1, f2, f3⟩ := hX3.facts
    have HX3 := Lib.hid hX3
    have HB3 := Lib.hid (below_tr HB.out hb HC.out)
    clear hb hX3
    go_wp2_with fail
    exact bodyPost_ret (v := .tuple #[.agg #[.slice none 0 0, .slice none 0 0, .slice none 0 0, .bool false], .int .i64 2]) (results_cell_row_tmp rfl _ _ C 29 #[.slice none 0 0, .slice none 0 0, .slice none 0 0, .bool false] _ _ _ rfl rfl (HX3.out.put _ _ _ _) Tryz.underlying29 rfl (by kernel_rfl)) rfl (layIs_err HE.out (by decide) (by rw [HC.out]; exact put_below HB3.out (Nat.le_refl _) _ _ _ _))
  rw [if_neg e4] at hE
  have HE := Lib.hid hE
  have HLL := Lib.hid (show layL sh l tp wd = ldOf (runY wd (chgs sh) l) by unfold layL; rw [if_pos hE])
  have hck := HR.out
  have HR3 := Lib.hid e3'
  have HCL := Lib.hid (show (chgs sh).length = N by simp [chgs, HNS.out])
  have HBD := Lib.hid (show l.length ≤ 65536 ∧ Ir.sumT l ≤ 16384 ∧ (Ir.runM (N : Int) tp l wk0 0).2 = 0 by
    unfold Ir.chkM at hck
    split at hck
    · rw [← hck] at e3'; simp at e3'
    · rw [hck]; omega)
  clear hr e2 e2' e3 e3' hE hck
  go_enter Tryz.func10, Tryz.ntmps10
  go_wp2_with fail
  try simp only [hW1, hC]
  refine HCK1.out.mono ?_
  rintro e w2 ⟨rfl, hb⟩
  have hX2 := HX.out.keep hb
  have HX2 := Lib.hid hX2
  have hB := below_tr HA.out hb HC.out
  have HB := Lib.hid hB
  have HIR2 := Lib.hid (HIR.out w2 hB)
  clear hb hX2 hB HIR
  go_wp2_with fail
  refine HIR2.out.mono ?_
  rintro e w3 ⟨rfl, hb⟩
  have hX3 := HX2.out.keep hb
  have HX3 := Lib.hid hX3
  have hB3 := below_tr HB.out hb HC.out
  have HB3 := Lib.hid hB3
  have HBG3 := Lib.hid (HBG.out w3 hB3 HL64.out)
  clear hb hX3 hB3 HBG HX2 HB HIR2 HCK1
  go_wp2_with fail
  refine HBG3.out.mono ?_
  rintro e w4 ⟨M, rfl, hI, hb⟩
  obtain ⟨B, hBB⟩ : ∃ B, w3.heap.size = B := ⟨_, rfl⟩
  have HBB := Lib.hid hBB
  have HX4 := Lib.hid (HX3.out.keep hb)
  have HCB := Lib.hid (show C < B from hBB ▸ (Array.getElem?_eq_some_iff.1 HX3.out.row).1)
  have HB4 := Lib.hid (below_tr HB3.out hb HC.out)
  rw [hBB] at hI hb
  have HI := Lib.hid hI
  have HTL := Lib.hid (show TbL B w4 from ⟨w3, HT6.out.below HB3.out (by rw [HC.out]; exact Nat.le_refl _), by rw [hBB]; exact Nat.le_refl _, hb⟩)
  have HSB := Lib.hid (show B ≤ w4.heap.size from hBB ▸ hb.size)
  clear hI hb hBB HBG3
  go_wp2_with fail
  go_loopw [53] (fun i wr => ∃ (k : Nat) (s : Wk) (y : Ly), i = .int .i64 k ∧ k ≤ n ∧ Hid (LyI s.para B M (fun b => b < B) wd (chgs sh) y wr) ∧ Hid (LyOk s y k (Ir.sumT (l.take k))) ∧ Hid (y = runY wd (chgs sh) (l.take k)) ∧ Hid ((Ir.runM (N : Int) tp (l.drop k) s k).2 = 0) ∧ Hid (Below B w4 wr)) (fun i _ => n - (intOf i).toNat)
  case atStart => exact ⟨0, wk0, ly0, rfl, Nat.zero_le _, HI, Lib.hid lyOk0, Lib.hid rfl, Lib.hid HBD.out.2.2, Lib.hid (Below.refl _ _)⟩
  case round =>
    obtain ⟨k, s, y, rfl, hk, HI, HO, HY, HRr, HBr⟩ := hrel
    by_cases hlt : k < n
    · have hkl : k < l.length := by rw [HN.out]; exact hlt
      have hBw : Below C w wr := HB4.out.trans (HBr.out.mono (Nat.le_of_lt HCB.out))
      obtain ⟨b, off, rfl, c0, c1, c2, wv, c3, h4⟩ := (HH.out.below (by rw [HC.out]; exact hBw)).at_ (by rw [HN.out]; exact hlt)
      obtain ⟨p4, q4, rfl, -, -⟩ := h4.form
      have hs := Ir.runM_step (st := (N : Int)) (tp := tp) (s := s) hkl
      have hrr := HRr.out
      rw [hs] at hrr
      have hfm : (Ir.fitB l[k] (N : Int) tp && mayS s l[k].k) = true := by
        cases e : (Ir.fitB l[k] (N : Int) tp && mayS s l[k].k) with
        | true => rfl
        | false => rw [e] at hrr; simp at hrr
      rw [hfm, if_pos rfl] at hrr
      rw [Bool.and_eq_true] at hfm
      have hsum := Ir.sumT_take hkl
      have hle : Ir.sumT (l.take (k + 1)) ≤ 16384 := Nat.le_trans (Ir.sumT_le l (k + 1)) HBD.out.2.1
      have hyt : runY wd (chgs sh) (l.take (k + 1)) = takeY wd (chgs sh) y l[k] := by
        unfold runY
        rw [List.take_succ_eq_append_getElem hkl, List.foldl_append, HY.out]
        rfl
      obtain ⟨x, hx⟩ : ∃ x, l[k] = x := ⟨_, rfl⟩
      rw [hx] at c0 c1 c2 c3 h4 hfm hrr hsum hyt
      have hal := below_box wr (.cells #[.int .i64 x.k, .int .i64 x.n, .string x.t, .slice p4 x.w.length q4] 53)
      have hBN : B ≤ wr.heap.size := Nat.le_trans HSB.out HBr.out.size
      have hTLr : TbL B wr := by obtain ⟨w0, t1, t2, t3⟩ := HTL.out; exact ⟨w0, t1, t2, t3.trans HBr.out⟩
      have HTK := Lib.hid (take_any (tp := tp) x p4 q4 _ (HI.out.below hal) HO.out hfm.1 hfm.2 (h4.below hal) ⟨by omega, by omega⟩ (hTLr.below hBN hal) (fun b hb => hb) HCL.out (by have := HBD.out.1; omega) (by omega))
      have HOK := Lib.hid (take_ok (wd := wd) (ch := chgs sh) ⟨by omega, by omega⟩ HO.out hfm.1 hfm.2)
      have HRR := Lib.hid hrr
      have HSUM := Lib.hid hsum
      have HYT := Lib.hid hyt
      have HAL := Lib.hid (HBr.out.trans (hal.mono hBN))
      have HXX := Lib.hid (heap_alloc_new wr (.cells #[.int .i64 x.k, .int .i64 x.n, .string x.t, .slice p4 x.w.length q4] 53))
      obtain ⟨zl, hzl⟩ : ∃ zl, x.w.length = zl := ⟨_, rfl⟩
      rw [hzl] at c3 HTK HAL HXX
      have k1 : (k : Int) < n := by omega
      have HLT := Lib.hid hlt
      clear hal hrr hs hfm hsum hle hyt hx hzl h4 hTLr hBN hBw hlt hkl
      go_wp2_with fail
      refine HTK.out.mono ?_
      rintro e w5 ⟨rfl, hI5, hk5⟩
      have HI5 := Lib.hid hI5
      have HB5 := Lib.hid (HAL.out.trans (hk5.below fun c hc => hc))
      clear hI5 hk5
      go_wp2_with fail
      go_roundw
      case measure => have := HLT.out; simp [intOf]; omega
      case rel => exact ⟨k + 1, takeS s x, takeY wd (chgs sh) y x, by go_num, HLT.out, HI5, Lib.hid (by rw [HSUM.out]; exact HOK.out), Lib.hid HYT.out.symm, HRR, HB5⟩
    · obtain rfl : k = n := by omega
      have hzk : ¬ (k : Int) < k := by omega
      have hyr : y = runY wd (chgs sh) l := by have h9 := HY.out; rw [List.take_of_length_le (by rw [HN.out]; exact Nat.le_refl _)] at h9; exact h9
      obtain ⟨vh, vl, vk, vc, ve, vf, vo, vs, cs, c, hm, _⟩ := HI.out
      have hMl := hm.lt
      have hwC : w.heap.size < B := by rw [HC.out]; exact HCB.out
      have hrl : RdL (B ≤ ·) wr vl y.ls := hm.ls.rd (fun b hb _ => hb) (fun b _ hb => hb.1)
      have hrk : RdC (B ≤ ·) wr vk y.lk := RdC.ownT hm.lk rfl
      have hfl : y.ls.flatten.length * 32 ≤ 140737488355328 := by
        have h1 := flat_le HO.out.lns.1
        have h2 := HO.out.mok.ls
        have h3 : y.ls.length * 1000 ≤ 2000 * 1000 := Nat.mul_le_mul_right _ h2
        omega
      obtain ⟨pl, cl, rfl⟩ := lenL hm.ls.row
      obtain ⟨pk, ck, rfl⟩ := lenL hm.lk
      have c4 : wr.cell? ⟨M, 4, none⟩ = some (.slice pl y.ls.length cl) := (hm.cell 4).trans hm.cel.ls
      have c5 : wr.cell? ⟨M, 5, none⟩ = some (.bool y.more) := (hm.cell 5).trans hm.cel.mo
      have c6 : wr.cell? ⟨M, 6, none⟩ = some (.slice pk y.lk.length ck) := (hm.cell 6).trans hm.cel.lk
      have HRC := Lib.hid (rects_pro y.ls (.slice pl y.ls.length cl) wr.drew (hrl.below ((Below.refl _ wr).drew)) hfl)
      have HRL := Lib.hid hrl
      have HRK := Lib.hid hrk
      have HM := Lib.hid hMl
      have HFC := Lib.hid (show wr.cell? ⟨M, 4, none⟩ = some (.slice pl y.ls.length cl) ∧ wr.cell? ⟨M, 5, none⟩ = some (.bool y.more) ∧ wr.cell? ⟨M, 6, none⟩ = some (.slice pk y.lk.length ck) from ⟨c4, c5, c6⟩)
      have HXr := Lib.hid (show CellR C wr from ⟨(HBr.out.block C HCB.out).trans HX4.out.row⟩)
      have a4 : wr.drew.cell? ⟨M, 4, none⟩ = some (.slice pl y.ls.length cl) := c4
      have a5 : wr.drew.cell? ⟨M, 5, none⟩ = some (.bool y.more) := c5
      have a6 : wr.drew.cell? ⟨M, 6, none⟩ = some (.slice pk y.lk.length ck) := c6
      have HYR := Lib.hid hyr
      have HBN := Lib.hid (show B ≤ wr.heap.size from Nat.le_trans HSB.out HBr.out.size)
      unfold MakesQ at HRC
      obtain ⟨nl, hnl⟩ : ∃ nl, y.ls.length = nl := ⟨_, rfl⟩
      obtain ⟨nk, hnk⟩ : ∃ nk, y.lk.length = nk := ⟨_, rfl⟩
      rw [hnl] at HRC HRL HFC a4
      rw [hnk] at HRK HFC a6
      clear hm hrl hrk hfl c4 c5 c6 hyr hnl hnk hlt hMl
      go_wp2_with fail
      go_region_law (go_simp; go_at_call 23; refine HRC.out.mono ?_; rintro e w6 ⟨vr, rfl, ho6, hb6⟩; have h6 := (Below.refl wr.heap.size wr).drew.trans hb6; have HO6 := Lib.hid ho6; have HB6 := Lib.hid h6; have b4 : w6.cell? ⟨M, 4, none⟩ = some (.slice pl nl cl) := (h6.cell (p := ⟨M, 4, none⟩) HM.out).trans HFC.out.1; have b5 : w6.cell? ⟨M, 5, none⟩ = some (.bool y.more) := (h6.cell (p := ⟨M, 5, none⟩) HM.out).trans HFC.out.2.1; have b6 : w6.cell? ⟨M, 6, none⟩ = some (.slice pk nk ck) := (h6.cell (p := ⟨M, 6, none⟩) HM.out).trans HFC.out.2.2; have hX6 := HXr.out.keep h6; have HX6 := Lib.hid hX6; obtain ⟨pr, cr, rfl⟩ := lenL ho6; obtain ⟨⟨d0, d1, d2, d3⟩, f0, f1, f2, f3⟩ := hX6.facts; clear ho6 hb6 h6 hX6)
      all_goals
        go_wp2_with fail
        exact bodyPost_ret (v := .tuple #[.agg #[.slice pl nl cl, .slice pr (rectsL y.ls).length cr, .slice pk nk ck, .bool y.more], .int .i64 0]) (results_cell_row_tmp rfl _ _ C 29 #[.slice pl nl cl, .slice pr (rectsL y.ls).length cr, .slice pk nk ck, .bool y.more] _ _ _ rfl rfl (HX6.out.put _ _ _ _) Tryz.underlying29 rfl (by kernel_rfl)) rfl (lay_last HE.out HLL.out HYR.out HC.out HCB.out HRL.out HRK.out HBN.out HB6.out HO6.out (HB4.out.trans (HBr.out.mono (Nat.le_of_lt HCB.out))))
end Go.Proofs.YtjohhahfpgfjdaaGreatDoor.Tb
end
