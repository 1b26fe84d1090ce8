/- What is proved: LayoutHits holds of all lines, layouts and places (the statement's second form). Its condition: what comes in is of bulk at most 1048576. Part 17: its texts. -/
import Derived.Test.YtalomeialegmiaaGreatDoorKLayoutHits1
import Derived.Test.YtalomeialegmiaaGreatDoorKLayoutHits2
import Derived.Test.YtalomeialegmiaaGreatDoorKLayoutHits5
import Derived.Test.YtalomeialegmiaaGreatDoorKLayoutHits16
import Derived.Deep.RegionHeld3
import Derived.Deep.CutRange
section
namespace Go.Proofs.YtalomeialegmiaaGreatDoor.Tb
open Go.RowKit Go.Maps
set_option linter.unusedVariables false
set_option linter.unusedSimpArgs false
/-- Rows that a call is making: a row of its own, whose lines lie elsewhere. -/
def OwnR (B : Nat) (w : World) (v : Value) (rows : List (List Gl)) (vs : List Value) : Prop := OwnL B (fun b => B ≤ b ∧ v.ownBlock ≠ some b) w v rows vs
theorem OwnR.below {B : Nat} {w w' : World} {v : Value} {rows : List (List Gl)} {vs : List Value} (h : OwnR B w v rows vs) (hb : Below w.heap.size w w') : OwnR B w' v rows vs := OwnL.below h hb
theorem OwnR.at_ {B : Nat} {w : World} {v : Value} {rows : List (List Gl)} {vs : List Value} (h : OwnR B w v rows vs) {k : Nat} (hk : k < rows.length) : ∃ g cap pr cr, v = .slice (some ⟨g, 0, none⟩) rows.length cap ∧ B ≤ g ∧ g < w.heap.size ∧ rows.length ≤ cap ∧ w.cell? ⟨g, k, none⟩ = some (.slice pr rows[k].length cr) ∧ w.frozen? ⟨g, k, none⟩ = false ∧ RdG (fun b => B ≤ b ∧ v.ownBlock ≠ some b) w (.slice pr rows[k].length cr) rows[k] := by
  rcases h.row.2 with ⟨rfl, h0⟩ | ⟨g, cap, cur, rfl, hb, hg, h1, h2, h3, h4⟩
  · omega
  · have hl := h.line k hk
    obtain ⟨pr, cr, e, _, _⟩ := hl.form
    refine ⟨g, cap, pr, cr, rfl, hb, (Array.getElem?_eq_some_iff.1 hg).1, h1, ?_, World.ownsRow.frozenAt h.row _, by rw [← e]; exact hl⟩
    rw [World.ownsRow.cellAt h.row k (by omega), ← e]
    exact List.getElem?_eq_getElem (by have := h.num; omega)
/-- One row is another. -/
theorem OwnR.set {B g n cap : Nat} {w : World} {rows : List (List Gl)} {vs : List Value} (h : OwnR B w (.slice (some ⟨g, 0, none⟩) n cap) rows vs) (hn : n = rows.length) {k : Nat} (hk : k < rows.length) {u : Value} {l : List Gl} (hu : RdG (fun b => B ≤ b ∧ b ≠ g) w u l) :
    OwnR B (w.setCell ⟨g, k, none⟩ u) (.slice (some ⟨g, 0, none⟩) n cap) (rows.set k l) (vs.set k u) := by
  subst hn
  have mv : ∀ b, (B ≤ b ∧ (Value.slice (some ⟨g, 0, none⟩) rows.length cap).ownBlock ≠ some b) → b < w.heap.size → (w.setCell ⟨g, k, none⟩ u).heap[b]? = w.heap[b]? ∧ (B ≤ b ∧ (Value.slice (some ⟨g, 0, none⟩) rows.length cap).ownBlock ≠ some b) := fun b hb _ => by
    refine ⟨Below.heap_setCell _ _ _ _ (fun e => hb.2 ?_), hb⟩
    have e' : b = g := e
    rw [e']; rfl
  have hl := (h.row.stored k u).1
  refine ⟨by simp [h.num], by rw [List.length_set]; exact hl, fun j hj => ?_⟩
  rw [List.length_set] at hj
  by_cases e : k = j
  · subst e
    simp only [List.getElem_set, if_true]
    exact hu.move fun b hb _ => ⟨Below.heap_setCell _ _ _ _ (fun e => hb.2 e), hb.1, fun e => hb.2 (by simpa [Value.ownBlock] using e.symm)⟩
  · simp only [List.getElem_set, if_neg e]
    exact (h.line j hj).move mv
theorem three_new {P : Nat → Prop} (w : World) (v1 v2 v3 : Value) (l1 l2 l3 : List Gl) (h1 : RdG P w v1 l1) (h2 : RdG P w v2 l2) (h3 : RdG P w v3 l3) (hp : P w.heap.size) : RdL P (w.alloc (.cells #[v1, v2, v3] 50)) (.slice (some ⟨w.heap.size, 0, none⟩) 3 3) [l1, l2, l3] := by
  have hb := below_box w (.cells #[v1, v2, v3] 50)
  refine ⟨_, 3, rfl, Nat.le_refl _, by unfold maxLen; omega, fun j hj => ?_⟩
  have hj3 : j < 3 := hj
  have hc : ∀ (j : Nat) (u : Value), #[v1, v2, v3][j]? = some u → (w.alloc (.cells #[v1, v2, v3] 50)).cell? ⟨w.heap.size, 0 + j, none⟩ = some u := fun j u hu => by
    rw [Nat.zero_add, cell_of_row _ _ _ _ _ _ (heap_alloc_new w _)]
    exact hu
  match j, hj3 with
  | 0, _ => exact ⟨_, _, v1, rfl, hp, hc 0 _ rfl, h1.below hb⟩
  | 1, _ => exact ⟨_, _, v2, rfl, hp, hc 1 _ rfl, h2.below hb⟩
  | 2, _ => exact ⟨_, _, v3, rfl, hp, hc 2 _ rfl, h3.below hb⟩
def PutPost (B : Nat) (rows : List (List Gl)) (w : World) (e : Ending) (w' : World) : Prop := ∃ v vs, e = .returned v ∧ OwnR B w' v rows vs ∧ Below B w w'
theorem blank_plain : blank ⟨⟨#[]⟩, 0, 0, 7, 0⟩ = plainG := rfl
/-- Behind the rows, empty ones. -/
theorem OwnR.grow {B : Nat} {w : World} {v : Value} {rows : List (List Gl)} {vs : List Value} (h : OwnR B w v rows vs) (hB : B ≤ w.heap.size) (k : Nat) (hk : 0 < k) (hl : (rows.length + k) * 24 ≤ 140737488355328) :
    ∀ ty, ∃ v' w', (Builtin.append_ #[25, 3] ty #[v, .int .i64 k]).run Tryz.prog w = .ok v' w' ∧ OwnR B w' v' (rows ++ List.replicate k []) (vs ++ List.replicate k (.slice none 0 0)) ∧ w.grownBy w' v.ownBlock ∧ ∀ b, v'.ownBlock = some b → v.ownBlock = some b ∨ w.heap.size ≤ b := by
  intro ty
  obtain ⟨i0, hi0, hz0, hz1, hz2⟩ := info_parts infoL
  obtain ⟨v', w', hr, ho, hg, hnb⟩ := run_append_zeros (P := Tryz.prog) w B 25 3 ty 50 i0 _ 24 .i64 Tryz.underlying25 Tryz.underlying3 hi0 hz0 hz1 hz2 rfl rfl v rows.length vs h.row k hk (by unfold maxLen; omega) hl hB
  refine ⟨v', w', hr, ⟨by simp [h.num], by rw [List.length_append, List.length_replicate]; exact ho, fun j hj => ?_⟩, hg, hnb⟩
  by_cases hjl : j < rows.length
  · have e1 : (rows ++ List.replicate k [])[j] = rows[j] := List.getElem_append_left hjl
    have e2 : (vs ++ List.replicate k (Value.slice none 0 0))[j]'(by simp [h.num]; omega) = vs[j]'(by have := h.num; omega) := List.getElem_append_left (by have := h.num; omega)
    rw [e1, e2]
    refine (h.line j hjl).move fun b hb hlt => ⟨hg.block b hlt (fun e => hb.2 e.symm), hb.1, fun e => ?_⟩
    -- the new row's block is no line's
    rcases hnb b e with e1 | e1
    · exact hb.2 e1
    · omega
  · have e1 : (rows ++ List.replicate k [])[j] = [] := by rw [List.getElem_append_right (by omega)]; simp
    have e2 : (vs ++ List.replicate k (Value.slice none 0 0))[j]'(by simp [h.num]; simp at hj; omega) = .slice none 0 0 := by rw [List.getElem_append_right (by have := h.num; omega)]; simp
    rw [e1, e2]
    exact RdG.nil _ 0 (by unfold maxLen; omega) _
end Go.Proofs.YtalomeialegmiaaGreatDoor.Tb
end
section
namespace Go.Proofs.YtalomeialegmiaaGreatDoor.Tb
open Go.RowKit Go.Maps
set_option linter.unusedVariables false
set_option linter.unusedSimpArgs false
theorem S7 {bx g k : Nat} {ov x0 x1 x2 x3 x4 : Value} {W w w' : World} (h : w.cell? ⟨bx, 0, none⟩ = some x0 ∧ w.cell? ⟨bx, 1, none⟩ = some x1 ∧ w.cell? ⟨bx, 2, none⟩ = some x2 ∧ w.cell? ⟨bx, 3, none⟩ = some x3 ∧ w.cell? ⟨bx, 4, none⟩ = some x4 ∧ w.cell? ⟨g, k, none⟩ = some ov ∧ Below W.heap.size W w) (hb : Below w.heap.size w w') :
    w'.cell? ⟨bx, 0, none⟩ = some x0 ∧ w'.cell? ⟨bx, 1, none⟩ = some x1 ∧ w'.cell? ⟨bx, 2, none⟩ = some x2 ∧ w'.cell? ⟨bx, 3, none⟩ = some x3 ∧ w'.cell? ⟨bx, 4, none⟩ = some x4 ∧ w'.cell? ⟨g, k, none⟩ = some ov ∧ Below W.heap.size W w' := by
  obtain ⟨h0, h1, h2, h3, h4, h5, h6⟩ := h
  exact ⟨(hb.cell (p := ⟨bx, 0, none⟩) (cellInL h0)).trans h0, (hb.cell (p := ⟨bx, 1, none⟩) (cellInL h1)).trans h1, (hb.cell (p := ⟨bx, 2, none⟩) (cellInL h2)).trans h2, (hb.cell (p := ⟨bx, 3, none⟩) (cellInL h3)).trans h3, (hb.cell (p := ⟨bx, 4, none⟩) (cellInL h4)).trans h4, (hb.cell (p := ⟨g, k, none⟩) (cellInL h5)).trans h5, h6.trans (hb.mono h6.size)⟩
theorem S6.next {x bx g k : Nat} {ov : Value} {p : Gl} {W w w' : World} (h : GlIs w bx 0 p ∧ w.cell? ⟨g, k, none⟩ = some ov ∧ Below W.heap.size W w) (hb : Below w.heap.size w w') : GlIs w' bx 0 p ∧ w'.cell? ⟨g, k, none⟩ = some ov ∧ Below W.heap.size W w' :=
  ⟨h.1.keep fun a ha => hb.cell (by rw [ha]; exact cellInL h.1.1), (hb.cell (p := ⟨g, k, none⟩) (cellInL h.2.1)).trans h.2.1, h.2.2.trans (hb.mono h.2.2.size)⟩
theorem line_len {e : Int} {r : List Gl} (h : LineOk e r) : (r.length : Int) ≤ e := Int.le_trans (wid_ge r h.1).1 h.2
theorem line_small {e : Int} {r : List Gl} (h : LineOk e r) : SmallW r := fun g hg => by have := h.1 g hg; omega
theorem line_nn {e : Int} {r : List Gl} (h : LineOk e r) : 0 ≤ wid r := by have := (wid_ge r h.1).1; omega
set_option maxRecDepth 100000 in
set_option maxHeartbeats 4000000 in
theorem beside_pro {B : Nat} (rows lines : List (List Gl)) (vr vl : Value) (vs : List Value) (a e wide : Int) (w : World) (hR : OwnR B w vr rows vs) (hB : B ≤ w.heap.size) (hL : RdL (fun b => vr.ownBlock ≠ some b) w vl lines)
    (hr : ∀ r ∈ rows, LineOk e r) (hl : ∀ r ∈ lines, LineOk wide r) (he : 0 ≤ e) (hea : e ≤ a) (ha : a ≤ 200) (hw0 : 0 ≤ wide) (hw : wide ≤ 200) (hs : (rows.length + lines.length) * 24 ≤ 140737488355328) :
    Calls Tryz.prog 152 #[vr, vl, .int .i64 a] w (PutPost B (putB rows lines a) w) := by
  obtain ⟨pr, cr, rfl⟩ := lenL hR.row
  obtain ⟨pl, cl, rfl, hc1, hc2⟩ := hL.form
  unfold maxLen at hc2
  have HR := Lib.hid hR
  have HL := Lib.hid (hL.imp (Q := fun b => b < w.heap.size ∧ (Value.slice pr rows.length cr).ownBlock ≠ some b) fun b hb h => ⟨hb, h⟩)
  have HRO := Lib.hid hr
  have HLO := Lib.hid hl
  have HZ := Lib.hid (fun (k : Nat) (hk : 0 < k) (hle : (rows.length + k) * 24 ≤ 140737488355328) => hR.grow hB k hk hle)
  have HP0 := Lib.hid (putK_zero rows lines a)
  obtain ⟨n, hn⟩ : ∃ n, rows.length = n := ⟨_, rfl⟩
  obtain ⟨m, hm⟩ : ∃ m, lines.length = m := ⟨_, rfl⟩
  have HN := Lib.hid hn
  have HM := Lib.hid hm
  have HS := Lib.hid hs
  rw [hn] at HR HL HZ ⊢
  rw [hm] at hc1 HL ⊢
  have hn2 : n ≤ 5864062014806 := by omega
  have hm2 : m ≤ 5864062014806 := by omega
  clear hR hL hr hl hn hm hs hc1
  by_cases hlt : n < m
  · obtain ⟨d, hd⟩ : ∃ d : Nat, m - n = d := ⟨_, rfl⟩
    obtain ⟨v1, W, hr1, hO1, hg1, hnb1⟩ := HZ.out d (by omega) (by have := HS.out; have := HN.out; have := HM.out; omega) 25
    have hB1 : Below B w W := (Below.refl B w).grown hg1 hB (fun c hc => (own_base HR.out.row hc).1)
    have hL1 := HL.out.keep (w' := W) fun x hx hlt => World.cell?_of_block (hg1.block _ hlt (fun e => hx.2 e.symm))
    rw [show rows ++ List.replicate d [] = putK rows lines a 0 by rw [HP0.out, HN.out, HM.out, hd]] at hO1
    obtain ⟨p1, c1, rfl⟩ := lenL hO1.row
    have hl2 : (putK rows lines a 0).length = m := by rw [putK_len, HN.out, HM.out]; omega
    rw [hl2] at hr1 hO1 hnb1
    have hnew : ∀ b, b < w.heap.size ∧ (Value.slice pr n cr).ownBlock ≠ some b → b < w.heap.size ∧ (Value.slice p1 m c1).ownBlock ≠ some b := fun b hb => ⟨hb.1, fun e => by
      rcases hnb1 b e with h | h
      · exact hb.2 h
      · omega⟩
    have HR1 := Lib.hid hr1
    have HRW := Lib.hid hO1
    have HLW := Lib.hid (hL1.imp fun b _ hb => hnew b hb)
    have HBL := Lib.hid hB1
    have HBS := Lib.hid (show B ≤ W.heap.size from Nat.le_trans hB hB1.size)
    have HNN := Lib.hid (show max rows.length lines.length = m by rw [HN.out, HM.out]; omega)
    have e1 : wrap64 ((m : Int) - n) = (d : Int) := by rw [IntWalk.wrap64_in _ (by omega)]; omega
    have e2 : (m : Int) - n = (d : Int) := by omega
    have d0 : (0 : Int) < d := by omega
    clear hr1 hO1 hg1 hB1 hL1 hnew hlt hd hl2 hnb1
    go_enter Tryz.func152, Tryz.ntmps152
    go_wp2_with (at_builtin; go_loud (refine Lib.wpList_append_run _ rfl _ _ _ _ rfl _ _ rfl rfl _ _ HR1.out ?_))
    have hA2 := HBL.out
    refine (blank_pro ⟨⟨#[]⟩, 0, 0, 7, 0⟩ W).mono ?_
    unfold MakesG
    rw [blank_plain]
    rintro e w2 ⟨rfl, hb2⟩
    have hBx := below_box w2 (boxG plainG)
    have HX := Lib.hid (heap_alloc_new w2 (boxG plainG))
    have HRX := Lib.hid ((HRW.out.below hb2).below hBx)
    have HLX := Lib.hid ((HLW.out.below hb2).below hBx)
    have HBX := Lib.hid ((HBL.out.trans (hb2.mono HBS.out)).trans (hBx.mono (Nat.le_trans HBS.out hb2.size)))
    have HRB := Lib.hid (show ∀ c, (Value.slice p1 m c1).ownBlock = some c → c < w2.heap.size from fun c hc => Nat.lt_of_lt_of_le (own_base HRW.out.row (c := c) hc).2 hb2.size)
    obtain ⟨bx, hbx⟩ : ∃ bx, w2.heap.size = bx := ⟨_, rfl⟩
    have HBXE := Lib.hid hbx
    rw [hbx] at HX HRB
    unfold plainG at HX
    unfold boxG at HX HRX HLX HBX
    unfold plainG at HRX HLX HBX
    simp only [bl1] at HX HRX HLX HBX
    clear hb2 hBx hA2
    unfold glV plainG
    simp only [bl1]
    go_wp2_with fail
    clear hbx
    go_loopw [27] (fun i wr => ∃ (k : Nat) (us : List Value), i = .int .i64 k ∧ k ≤ m ∧ Hid (OwnR B wr (.slice p1 m c1) (putK rows lines a k) us) ∧ Hid (Below B w wr) ∧ Hid (wr.heap[bx]? = some (boxG plainG)) ∧ Hid (RdL (fun b => b < w.heap.size ∧ (Value.slice p1 m c1).ownBlock ≠ some b) wr (.slice pl m cl) lines)) (fun i _ => m - (intOf i).toNat)
    case atStart => exact ⟨0, _, rfl, Nat.zero_le _, HRX, HBX, HX, HLX⟩
    case round =>
      obtain ⟨k, us, rfl, hk, HRk, HBk, HXk, HLk⟩ := hrel
      by_cases hlt : k < m
      · have hkl : k < lines.length := by rw [HM.out]; exact hlt
        obtain ⟨b, off, q1, c2, rfl, _, lc, _, _, hx⟩ := HLk.out.at_ hkl
        have hkp : k < (putK rows lines a k).length := by rw [putK_len]; omega
        obtain ⟨g, cap, p2, q2, e1, hBg, hgw, hcap, rc, fz, hrr⟩ := HRk.out.at_ hkp
        have hplen : (putK rows lines a k).length = m := by rw [putK_len, HNN.out]
        rw [hplen] at e1
        cases e1
        have hpk : (putK rows lines a k)[k] = rows.getD k [] := by rw [putK_at]; unfold putAt; rw [if_neg (by omega)]
        have HST := Lib.hid (putK_set (rows := rows) (a := a) hkl)
        rw [hpk] at rc hrr
        have hok := lineOk_getD HRO.out he k
        have hlo := HLO.out _ (List.getElem_mem hkl)
        obtain ⟨r, hre⟩ : ∃ r, rows.getD k [] = r := ⟨_, rfl⟩
        obtain ⟨l, hle⟩ : ∃ l, lines[k] = l := ⟨_, rfl⟩
        rw [hre] at rc hrr hok HST
        rw [hle] at lc hx hlo HST
        have hwr1 := line_nn hok
        have hwr2 := hok.2
        have hrl := line_len hok
        have hll := line_len hlo
        have HSW := Lib.hid (line_small hok)
        have HR47 := Lib.hid (show r.length ≤ 140737488355328 by omega)
        obtain ⟨c, hcc⟩ : ∃ c : Nat, a - wid r = c := ⟨(a - wid r).toNat, by omega⟩
        have hct : (a - wid r).toNat = c := by omega
        have HFL := Lib.hid (show flat [r, List.replicate c plainG, l] = putLine r a l by unfold flat putLine; rw [hct]; simp)
        have HFN := Lib.hid (show (flat [r, List.replicate c plainG, l]).length * 48 ≤ 140737488355328 by
          have h0 : (flat [r, List.replicate c plainG, l]).length = r.length + (c + l.length) := by simp [flat]
          rw [h0]
          omega)
        have hc200 : c ≤ 1000 := by omega
        obtain ⟨d0, d1, d2, d3, d4⟩ : GlIs wr bx 0 plainG := by
          have h := HXk.out
          unfold boxG at h
          refine ⟨?_, ?_, ?_, ?_, ?_⟩ <;> rw [cell_of_row _ _ _ _ _ _ h] <;> rfl
        have HRR := Lib.hid hrr
        have HXL := Lib.hid hx
        have HWR := Lib.hid (show (wid r : Int) = wid r from rfl)
        obtain ⟨u, hu⟩ : ∃ u, wid r = u := ⟨_, rfl⟩
        have HU := Lib.hid hu
        rw [hu] at hwr1 hwr2 hcc
        obtain ⟨z1, hz1⟩ : ∃ z1, r.length = z1 := ⟨_, rfl⟩
        obtain ⟨z2, hz2⟩ : ∃ z2, l.length = z2 := ⟨_, rfl⟩
        have HZ1 := Lib.hid hz1
        have HZ2 := Lib.hid hz2
        rw [hz1] at rc HRR
        rw [hz2] at lc HXL
        have HS0 := Lib.hid (show wr.drew.cell? ⟨bx, 0, none⟩ = some (.string ⟨#[32]⟩) ∧ wr.drew.cell? ⟨bx, 1, none⟩ = some (.int .i64 1) ∧ wr.drew.cell? ⟨bx, 2, none⟩ = some (.int .i64 0) ∧ wr.drew.cell? ⟨bx, 3, none⟩ = some (.int .i64 7) ∧ wr.drew.cell? ⟨bx, 4, none⟩ = some (.int .i64 0) ∧ wr.drew.cell? ⟨g, k, none⟩ = some (.slice p2 z1 q2) ∧ Below wr.heap.size wr wr.drew from ⟨d0, d1, d2, d3, d4, rc, (Below.refl _ _).drew⟩)
        have sw : IntKind.i64.wrap (a - u) = (c : Int) := by rw [IntWalk.i64_in _ (by omega)]; exact hcc
        have k1 : (k : Int) < m := by omega
        have kN : k < m := by rw [← hplen]; exact hkp
        have k2 : (k : Int) < m := by omega
        have HLT := Lib.hid hlt
        have HKL := Lib.hid hkl
        have HGW := Lib.hid hgw
        have HBG := Lib.hid hBg
        have HCC := Lib.hid hcc
        have HRB2 := HRB.out g rfl
        have HKP := Lib.hid hkp
        have HPN := Lib.hid hplen
        clear hpk hok hlo hrl hll hct hrr hx hre hle hu hz1 hz2 hcc hkp hplen hcap hlt d0 d1 d2 d3 d4
        go_upto_region 8 with fail
        go_region_held3 (fun w' => w'.cell? ⟨bx, 0, none⟩ = some (.string ⟨#[32]⟩) ∧ w'.cell? ⟨bx, 1, none⟩ = some (.int .i64 1) ∧ w'.cell? ⟨bx, 2, none⟩ = some (.int .i64 0) ∧ w'.cell? ⟨bx, 3, none⟩ = some (.int .i64 7) ∧ w'.cell? ⟨bx, 4, none⟩ = some (.int .i64 0) ∧ w'.cell? ⟨g, k, none⟩ = some (.slice p2 z1 q2) ∧ Below wr.heap.size wr w')
          (first | exact HS0.out | exact S7 (by assumption) h8 | exact S7 (by assumption) (below_box _ _) | assumption)
          ((first
            | (go_at_call 185; refine (wide_pro r _ _ (HRR.out.below ((by assumption : _ ∧ _ ∧ _ ∧ _ ∧ _ ∧ _ ∧ Below wr.heap.size wr _).2.2.2.2.2.2)) HR47.out HSW.out).mono ?_; rw [HU.out]; rintro e w8 ⟨rfl, h8⟩)
            | (go_at_call 148; refine (repeat_pro (P := fun _ => True) plainG _ c _ (by first | exact (one_new (P := fun _ => True) wr.drew plainG trivial).below h8 | exact one_new (P := fun _ => True) _ plainG trivial) hc200).mono ?_; rintro e w9 ⟨v9, rfl, ho9, h8⟩)))
        all_goals
          have h9 : Below wr.heap.size wr w9 := (by assumption : _ ∧ _ ∧ _ ∧ _ ∧ _ ∧ _ ∧ Below wr.heap.size wr w9).2.2.2.2.2.2
          have rc9 : w9.cell? ⟨g, k, none⟩ = some (.slice p2 z1 q2) := (by assumption : _ ∧ _ ∧ _ ∧ _ ∧ _ ∧ _ ∧ Below wr.heap.size wr w9).2.2.2.2.2.1
          rw [List.length_replicate] at ho9
          obtain ⟨p9, c9, rfl⟩ := lenL ho9
          have hG9 := (RdG.own ho9 (by simp)).imp (Q := fun _ => True) fun _ _ _ => trivial
          have hA10 := below_box w9 (.cells #[.slice p2 z1 q2, .slice p9 c c9, .slice q1 z2 c2] 50)
          have HCN := Lib.hid (concat_pro [r, List.replicate c plainG, l] _ _ (three_new (P := fun _ => True) w9 (.slice p2 z1 q2) (.slice p9 c c9) (.slice q1 z2 c2) r (List.replicate c plainG) l ((HRR.out.below h9).imp fun _ _ _ => trivial) hG9 ((HXL.out.below h9).imp fun _ _ _ => trivial) trivial) HFN.out)
          rw [HFL.out] at HCN
          have H10 := Lib.hid (h9.trans (hA10.mono h9.size))
          clear h9 ho9 hG9 hA10
          go_wp2_with fail
          refine HCN.out.mono ?_
          rintro e w11 ⟨v11, rfl, ho11, hb11⟩
          have h11 := H10.out.trans (hb11.mono H10.out.size)
          have hR11 := HRk.out.below h11
          have hu11 : RdG (fun b => B ≤ b ∧ b ≠ g) w11 v11 (putLine r a l) := (RdG.own ho11 rfl).imp fun b _ hb => by
            have := H10.out.size
            have := HGW.out
            have := HBG.out
            exact ⟨by omega, by omega⟩
          obtain ⟨_, _, _, _, e11, _, _, _, rc11, fz11, _⟩ := hR11.at_ HKP.out
          rw [HPN.out] at e11
          cases e11
          have hset := OwnR.set hR11 HPN.out.symm HKP.out hu11
          rw [HST.out] at hset
          have HSET := Lib.hid hset
          have HB12 := Lib.hid ((HBk.out.trans (h11.mono (Nat.le_trans hB HBk.out.size))).setCell (p := ⟨g, k, none⟩) HBG.out v11)
          have HX12 := Lib.hid (show (w11.setCell ⟨g, k, none⟩ v11).heap[bx]? = some (boxG plainG) from (Below.heap_setCell _ _ _ _ (fun e => by have := HRB2; have e' : bx = g := e; omega)).trans ((h11.block bx (Array.getElem?_eq_some_iff.1 HXk.out).1).trans HXk.out))
          have HL12 := Lib.hid ((HLk.out.below h11).keep (w' := w11.setCell ⟨g, k, none⟩ v11) fun x hx _ => World.cell?_of_block (Below.heap_setCell _ _ _ _ (fun e => hx.2 (by rw [e]; rfl))))
          obtain ⟨p11, c11, rfl⟩ := lenL ho11
          obtain ⟨t11, ht11⟩ : ∃ t11, (putLine r a l).length = t11 := ⟨_, rfl⟩
          rw [ht11] at HSET HB12 HX12 HL12 ⊢
          clear hb11 h11 hR11 hu11 ho11 hset
          go_wp2_with fail
          go_roundw
          case measure => have := HLT.out; simp [intOf]; omega
          case rel => exact ⟨k + 1, _, by go_num, HLT.out, HSET, HB12, HX12, HL12⟩
      · obtain rfl : k = m := by omega
        have hzk : ¬ (k : Int) < k := by omega
        have HFIN := Lib.hid (show putK rows lines a k = putB rows lines a by unfold putB; rw [HM.out])
        clear hlt
        go_wp2_with fail
        go_ret
        exact ⟨_, us, rfl, by have h := HRk.out; rw [HFIN.out] at h; exact h, HBk.out⟩
  · have hm0 : m - n = 0 := by omega
    have hR0 := HR.out
    have hl2 : (putK rows lines a 0).length = n := by rw [putK_len, HN.out, HM.out]; omega
    rw [show rows = putK rows lines a 0 by rw [HP0.out, HN.out, HM.out, hm0]; simp] at hR0
    obtain ⟨p1, hp1⟩ : ∃ p1, p1 = pr := ⟨_, rfl⟩
    subst hp1
    obtain ⟨c1, hc1⟩ : ∃ c1, c1 = cr := ⟨_, rfl⟩
    subst hc1
    obtain ⟨W, hWw⟩ : ∃ W, W = w := ⟨_, rfl⟩
    subst hWw
    have HRW := Lib.hid hR0
    have HLW := HL
    have HBL := Lib.hid (Below.refl B W)
    have HBS := Lib.hid hB
    have HNN := Lib.hid (show max rows.length lines.length = n by rw [HN.out, HM.out]; omega)
    have e1 : wrap64 ((m : Int) - n) = (m : Int) - n := IntWalk.wrap64_in _ (by omega)
    have d0 : ¬ (0 : Int) < (m : Int) - n := by omega
    have mn : m ≤ n := by omega
    clear hR0 hlt hl2 hm0
    go_enter Tryz.func152, Tryz.ntmps152
    go_wp2_with fail
    have hA2 := HBL.out
    refine (blank_pro ⟨⟨#[]⟩, 0, 0, 7, 0⟩ W).mono ?_
    unfold MakesG
    rw [blank_plain]
    rintro e w2 ⟨rfl, hb2⟩
    have hBx := below_box w2 (boxG plainG)
    have HX := Lib.hid (heap_alloc_new w2 (boxG plainG))
    have HRX := Lib.hid ((HRW.out.below hb2).below hBx)
    have HLX := Lib.hid ((HLW.out.below hb2).below hBx)
    have HBX := Lib.hid ((HBL.out.trans (hb2.mono HBS.out)).trans (hBx.mono (Nat.le_trans HBS.out hb2.size)))
    have HRB := Lib.hid (show ∀ c, (Value.slice p1 n c1).ownBlock = some c → c < w2.heap.size from fun c hc => Nat.lt_of_lt_of_le (own_base HRW.out.row (c := c) hc).2 hb2.size)
    obtain ⟨bx, hbx⟩ : ∃ bx, w2.heap.size = bx := ⟨_, rfl⟩
    have HBXE := Lib.hid hbx
    rw [hbx] at HX HRB
    unfold plainG at HX
    unfold boxG at HX HRX HLX HBX
    unfold plainG at HRX HLX HBX
    simp only [bl1] at HX HRX HLX HBX
    clear hb2 hBx hA2
    unfold glV plainG
    simp only [bl1]
    go_wp2_with fail
    clear hbx
    go_loopw [27] (fun i wr => ∃ (k : Nat) (us : List Value), i = .int .i64 k ∧ k ≤ m ∧ Hid (OwnR B wr (.slice p1 n c1) (putK rows lines a k) us) ∧ Hid (Below B W wr) ∧ Hid (wr.heap[bx]? = some (boxG plainG)) ∧ Hid (RdL (fun b => b < W.heap.size ∧ (Value.slice p1 n c1).ownBlock ≠ some b) wr (.slice pl m cl) lines)) (fun i _ => m - (intOf i).toNat)
    case atStart => exact ⟨0, _, rfl, Nat.zero_le _, HRX, HBX, HX, HLX⟩
    case round =>
      obtain ⟨k, us, rfl, hk, HRk, HBk, HXk, HLk⟩ := hrel
      by_cases hlt : k < m
      · have hkl : k < lines.length := by rw [HM.out]; exact hlt
        obtain ⟨b, off, q1, c2, rfl, _, lc, _, _, hx⟩ := HLk.out.at_ hkl
        have hkp : k < (putK rows lines a k).length := by rw [putK_len]; omega
        obtain ⟨g, cap, p2, q2, e1, hBg, hgw, hcap, rc, fz, hrr⟩ := HRk.out.at_ hkp
        have hplen : (putK rows lines a k).length = n := by rw [putK_len, HNN.out]
        rw [hplen] at e1
        cases e1
        have hpk : (putK rows lines a k)[k] = rows.getD k [] := by rw [putK_at]; unfold putAt; rw [if_neg (by omega)]
        have HST := Lib.hid (putK_set (rows := rows) (a := a) hkl)
        rw [hpk] at rc hrr
        have hok := lineOk_getD HRO.out he k
        have hlo := HLO.out _ (List.getElem_mem hkl)
        obtain ⟨r, hre⟩ : ∃ r, rows.getD k [] = r := ⟨_, rfl⟩
        obtain ⟨l, hle⟩ : ∃ l, lines[k] = l := ⟨_, rfl⟩
        rw [hre] at rc hrr hok HST
        rw [hle] at lc hx hlo HST
        have hwr1 := line_nn hok
        have hwr2 := hok.2
        have hrl := line_len hok
        have hll := line_len hlo
        have HSW := Lib.hid (line_small hok)
        have HR47 := Lib.hid (show r.length ≤ 140737488355328 by omega)
        obtain ⟨c, hcc⟩ : ∃ c : Nat, a - wid r = c := ⟨(a - wid r).toNat, by omega⟩
        have hct : (a - wid r).toNat = c := by omega
        have HFL := Lib.hid (show flat [r, List.replicate c plainG, l] = putLine r a l by unfold flat putLine; rw [hct]; simp)
        have HFN := Lib.hid (show (flat [r, List.replicate c plainG, l]).length * 48 ≤ 140737488355328 by
          have h0 : (flat [r, List.replicate c plainG, l]).length = r.length + (c + l.length) := by simp [flat]
          rw [h0]
          omega)
        have hc200 : c ≤ 1000 := by omega
        obtain ⟨d0, d1, d2, d3, d4⟩ : GlIs wr bx 0 plainG := by
          have h := HXk.out
          unfold boxG at h
          refine ⟨?_, ?_, ?_, ?_, ?_⟩ <;> rw [cell_of_row _ _ _ _ _ _ h] <;> rfl
        have HRR := Lib.hid hrr
        have HXL := Lib.hid hx
        have HWR := Lib.hid (show (wid r : Int) = wid r from rfl)
        obtain ⟨u, hu⟩ : ∃ u, wid r = u := ⟨_, rfl⟩
        have HU := Lib.hid hu
        rw [hu] at hwr1 hwr2 hcc
        obtain ⟨z1, hz1⟩ : ∃ z1, r.length = z1 := ⟨_, rfl⟩
        obtain ⟨z2, hz2⟩ : ∃ z2, l.length = z2 := ⟨_, rfl⟩
        have HZ1 := Lib.hid hz1
        have HZ2 := Lib.hid hz2
        rw [hz1] at rc HRR
        rw [hz2] at lc HXL
        have HS0 := Lib.hid (show wr.drew.cell? ⟨bx, 0, none⟩ = some (.string ⟨#[32]⟩) ∧ wr.drew.cell? ⟨bx, 1, none⟩ = some (.int .i64 1) ∧ wr.drew.cell? ⟨bx, 2, none⟩ = some (.int .i64 0) ∧ wr.drew.cell? ⟨bx, 3, none⟩ = some (.int .i64 7) ∧ wr.drew.cell? ⟨bx, 4, none⟩ = some (.int .i64 0) ∧ wr.drew.cell? ⟨g, k, none⟩ = some (.slice p2 z1 q2) ∧ Below wr.heap.size wr wr.drew from ⟨d0, d1, d2, d3, d4, rc, (Below.refl _ _).drew⟩)
        have sw : IntKind.i64.wrap (a - u) = (c : Int) := by rw [IntWalk.i64_in _ (by omega)]; exact hcc
        have k1 : (k : Int) < m := by omega
        have kN : k < n := by rw [← hplen]; exact hkp
        have k2 : (k : Int) < n := by omega
        have HLT := Lib.hid hlt
        have HKL := Lib.hid hkl
        have HGW := Lib.hid hgw
        have HBG := Lib.hid hBg
        have HCC := Lib.hid hcc
        have HRB2 := HRB.out g rfl
        have HKP := Lib.hid hkp
        have HPN := Lib.hid hplen
        clear hpk hok hlo hrl hll hct hrr hx hre hle hu hz1 hz2 hcc hkp hplen hcap hlt d0 d1 d2 d3 d4
        go_upto_region 8 with fail
        go_region_held3 (fun w' => w'.cell? ⟨bx, 0, none⟩ = some (.string ⟨#[32]⟩) ∧ w'.cell? ⟨bx, 1, none⟩ = some (.int .i64 1) ∧ w'.cell? ⟨bx, 2, none⟩ = some (.int .i64 0) ∧ w'.cell? ⟨bx, 3, none⟩ = some (.int .i64 7) ∧ w'.cell? ⟨bx, 4, none⟩ = some (.int .i64 0) ∧ w'.cell? ⟨g, k, none⟩ = some (.slice p2 z1 q2) ∧ Below wr.heap.size wr w')
          (first | exact HS0.out | exact S7 (by assumption) h8 | exact S7 (by assumption) (below_box _ _) | assumption)
          ((first
            | (go_at_call 185; refine (wide_pro r _ _ (HRR.out.below ((by assumption : _ ∧ _ ∧ _ ∧ _ ∧ _ ∧ _ ∧ Below wr.heap.size wr _).2.2.2.2.2.2)) HR47.out HSW.out).mono ?_; rw [HU.out]; rintro e w8 ⟨rfl, h8⟩)
            | (go_at_call 148; refine (repeat_pro (P := fun _ => True) plainG _ c _ (by first | exact (one_new (P := fun _ => True) wr.drew plainG trivial).below h8 | exact one_new (P := fun _ => True) _ plainG trivial) hc200).mono ?_; rintro e w9 ⟨v9, rfl, ho9, h8⟩)))
        all_goals
          have h9 : Below wr.heap.size wr w9 := (by assumption : _ ∧ _ ∧ _ ∧ _ ∧ _ ∧ _ ∧ Below wr.heap.size wr w9).2.2.2.2.2.2
          have rc9 : w9.cell? ⟨g, k, none⟩ = some (.slice p2 z1 q2) := (by assumption : _ ∧ _ ∧ _ ∧ _ ∧ _ ∧ _ ∧ Below wr.heap.size wr w9).2.2.2.2.2.1
          rw [List.length_replicate] at ho9
          obtain ⟨p9, c9, rfl⟩ := lenL ho9
          have hG9 := (RdG.own ho9 (by simp)).imp (Q := fun _ => True) fun _ _ _ => trivial
          have hA10 := below_box w9 (.cells #[.slice p2 z1 q2, .slice p9 c c9, .slice q1 z2 c2] 50)
          have HCN := Lib.hid (concat_pro [r, List.replicate c plainG, l] _ _ (three_new (P := fun _ => True) w9 (.slice p2 z1 q2) (.slice p9 c c9) (.slice q1 z2 c2) r (List.replicate c plainG) l ((HRR.out.below h9).imp fun _ _ _ => trivial) hG9 ((HXL.out.below h9).imp fun _ _ _ => trivial) trivial) HFN.out)
          rw [HFL.out] at HCN
          have H10 := Lib.hid (h9.trans (hA10.mono h9.size))
          clear h9 ho9 hG9 hA10
          go_wp2_with fail
          refine HCN.out.mono ?_
          rintro e w11 ⟨v11, rfl, ho11, hb11⟩
          have h11 := H10.out.trans (hb11.mono H10.out.size)
          have hR11 := HRk.out.below h11
          have hu11 : RdG (fun b => B ≤ b ∧ b ≠ g) w11 v11 (putLine r a l) := (RdG.own ho11 rfl).imp fun b _ hb => by
            have := H10.out.size
            have := HGW.out
            have := HBG.out
            exact ⟨by omega, by omega⟩
          obtain ⟨_, _, _, _, e11, _, _, _, rc11, fz11, _⟩ := hR11.at_ HKP.out
          rw [HPN.out] at e11
          cases e11
          have hset := OwnR.set hR11 HPN.out.symm HKP.out hu11
          rw [HST.out] at hset
          have HSET := Lib.hid hset
          have HB12 := Lib.hid ((HBk.out.trans (h11.mono (Nat.le_trans hB HBk.out.size))).setCell (p := ⟨g, k, none⟩) HBG.out v11)
          have HX12 := Lib.hid (show (w11.setCell ⟨g, k, none⟩ v11).heap[bx]? = some (boxG plainG) from (Below.heap_setCell _ _ _ _ (fun e => by have := HRB2; have e' : bx = g := e; omega)).trans ((h11.block bx (Array.getElem?_eq_some_iff.1 HXk.out).1).trans HXk.out))
          have HL12 := Lib.hid ((HLk.out.below h11).keep (w' := w11.setCell ⟨g, k, none⟩ v11) fun x hx _ => World.cell?_of_block (Below.heap_setCell _ _ _ _ (fun e => hx.2 (by rw [e]; rfl))))
          obtain ⟨p11, c11, rfl⟩ := lenL ho11
          obtain ⟨t11, ht11⟩ : ∃ t11, (putLine r a l).length = t11 := ⟨_, rfl⟩
          rw [ht11] at HSET HB12 HX12 HL12 ⊢
          clear hb11 h11 hR11 hu11 ho11 hset
          go_wp2_with fail
          go_roundw
          case measure => have := HLT.out; simp [intOf]; omega
          case rel => exact ⟨k + 1, _, by go_num, HLT.out, HSET, HB12, HX12, HL12⟩
      · obtain rfl : k = m := by omega
        have hzk : ¬ (k : Int) < k := by omega
        have HFIN := Lib.hid (show putK rows lines a k = putB rows lines a by unfold putB; rw [HM.out])
        clear hlt
        go_wp2_with fail
        go_ret
        exact ⟨_, us, rfl, by have h := HRk.out; rw [HFIN.out] at h; exact h, HBk.out⟩

end Go.Proofs.YtalomeialegmiaaGreatDoor.Tb
end
section
namespace Go.Proofs.YtalomeialegmiaaGreatDoor.Tb
open Go.RowKit Go.Maps
set_option linter.unusedVariables false
set_option linter.unusedSimpArgs false
theorem standF_cons (e : Int) (c : Int × Int) (cs : List (Int × Int)) : standF e (c :: cs) = (within c.2 1 200 && within c.1 e (200 - c.2) && standF (c.1 + c.2) cs) := rfl
set_option maxRecDepth 100000 in
set_option maxHeartbeats 2000000 in
theorem stand_pro {P : Nat → Prop} (cs : List (Int × Int)) (v : Value) (w : World) (h : RdC P w v cs) : Calls Tryz.prog 151 #[v] w (SaysL (.bool (standF 0 cs)) w) := by
  obtain ⟨pa, cap, rfl, h1, h2⟩ := sliceC h
  have HH := Lib.hid h
  obtain ⟨n, hn⟩ : ∃ n, cs.length = n := ⟨_, rfl⟩
  have HN := Lib.hid hn
  rw [hn] at HH h1 ⊢
  have hn62 : n ≤ 9223372036854775807 := by omega
  clear h hn h1
  go_enter Tryz.func151, Tryz.ntmps151
  go_wp2_with fail
  go_loopw [3, 8] (fun e i wr => ∃ (k : Nat) (d : Int), i = .int .i64 k ∧ k ≤ n ∧ e = .int .i64 d ∧ 0 ≤ d ∧ d ≤ 200 ∧ Hid (standF 0 cs = standF d (cs.drop k)) ∧ Hid (Below w.heap.size w wr)) (fun _ i _ => n - (intOf i).toNat)
  case atStart => exact ⟨0, 0, rfl, Nat.zero_le _, rfl, by omega, by omega, Lib.hid (by rw [List.drop_zero]), Lib.hid (Below.refl _ _)⟩
  case round =>
    obtain ⟨k, d, rfl, hk, rfl, hd0, hd2, HS, HB⟩ := hrel
    by_cases hlt : k < n
    · have hkl : k < cs.length := by rw [HN.out]; exact hlt
      obtain ⟨b, off, rfl, _, c0, c1⟩ := (HH.out.below HB.out).cell hkl
      have hd := List.drop_eq_getElem_cons hkl
      obtain ⟨c, hc⟩ : ∃ c, cs[k] = c := ⟨_, rfl⟩
      rw [hc] at c0 c1 hd
      have hS := HS.out
      rw [hd, standF_cons] at hS
      have HSE := Lib.hid hS
      have HB1 := Lib.hid (HB.out.trans ((below_box wr (.cells #[.int .i64 c.1, .int .i64 c.2] 189)).mono HB.out.size))
      have k1 : (k : Int) < n := by omega
      have HLT := Lib.hid hlt
      have HW1 := Lib.hid (within_pro c.2 1 200)
      have HW2 := Lib.hid (within_pro c.1 d (200 - c.2))
      clear hc hlt hd hS
      by_cases hw : 1 ≤ c.2 ∧ c.2 ≤ 200
      · have hwt : within c.2 1 200 = true := decide_eq_true hw
        rw [hwt] at HW1 HSE
        have w1 := hw.1
        have w2 := hw.2
        by_cases ha : d ≤ c.1 ∧ c.1 ≤ 200 - c.2
        · have hat : within c.1 d (200 - c.2) = true := decide_eq_true ha
          rw [hat] at HW2 HSE
          have a1 := ha.1
          have a2 := ha.2
          clear hw hwt ha hat
          go_wp2_with fail
          refine (HW1.out _).mono ?_
          rintro e w2 ⟨rfl, rfl⟩
          go_wp2_with fail
          refine (HW2.out _).mono ?_
          rintro e w2 ⟨rfl, rfl⟩
          go_wp2_with fail
          go_roundw
          case measure => have := HLT.out; simp [intOf]; omega
          case rel => exact ⟨k + 1, c.1 + c.2, by go_num, HLT.out, rfl, by omega, by omega, Lib.hid (by rw [HSE.out]; rfl), HB1⟩
        · have hat : within c.1 d (200 - c.2) = false := decide_eq_false ha
          rw [hat] at HW2 HSE
          clear hw hwt ha hat
          go_wp2_with fail
          refine (HW1.out _).mono ?_
          rintro e w2 ⟨rfl, rfl⟩
          go_wp2_with fail
          refine (HW2.out _).mono ?_
          rintro e w2 ⟨rfl, rfl⟩
          go_wp2_with fail
          go_ret
          exact ⟨by rw [HSE.out]; rfl, HB1.out⟩
      · have hwt : within c.2 1 200 = false := decide_eq_false hw
        rw [hwt] at HW1 HSE
        clear hw hwt
        go_wp2_with fail
        refine (HW1.out _).mono ?_
        rintro e w2 ⟨rfl, rfl⟩
        go_wp2_with fail
        go_ret
        exact ⟨by rw [HSE.out]; rfl, HB1.out⟩
    · obtain rfl : k = n := by omega
      have hzk : ¬ (k : Int) < k := by omega
      have HF := Lib.hid (show standF 0 cs = true by rw [HS.out, List.drop_eq_nil_of_le (by rw [HN.out]; exact Nat.le_refl _)]; rfl)
      clear hlt
      go_wp2_with fail
      go_ret
      exact ⟨by rw [HF.out]; rfl, HB.out⟩
def RowPost (cs : List (Int × Int)) (fs : List (List Gl)) (w : World) (e : Ending) (w' : World) : Prop := ∃ v, e = .returned (.tuple #[v, .int .i64 (rowE cs fs)]) ∧ RdL (w.heap.size ≤ ·) w' v (rowL cs fs) ∧ Below w.heap.size w w'
theorem row_bad {cs : List (Int × Int)} {fs : List (List Gl)} {w w' : World} {x : Int} (h : rowE cs fs = x) (hx : x ≠ 0) (hb : Below w.heap.size w w') : RowPost cs fs w (.returned (.tuple #[.slice none 0 0, .int .i64 x])) w' := by
  have e : rowL cs fs = [] := by unfold rowL; rw [h, if_neg hx]
  exact ⟨.slice none 0 0, by rw [h], by rw [e]; exact ⟨none, 0, rfl, Nat.le_refl _, Nat.zero_le _, fun j hj => absurd hj (by simp)⟩, hb⟩
/-- The row of which k columns are done. -/
def RowAt (cs : List (Int × Int)) (fs : List (List Gl)) (k : Nat) (d : Int) (rows : List (List Gl)) : Prop :=
  0 ≤ d ∧ d ≤ 200 ∧ standF d (cs.drop k) = true ∧ (∀ r ∈ rows, LineOk d r) ∧ rowF [] cs fs = rowF rows (cs.drop k) (fs.drop k) ∧ errF cs fs = errF (cs.drop k) (fs.drop k) ∧ rows.length * 48 ≤ 140737488355328
set_option maxRecDepth 100000 in
set_option maxHeartbeats 4000000 in
theorem row_pro {P Q : Nat → Prop} (cs : List (Int × Int)) (fs : List (List Gl)) (v u : Value) (w : World) (h : RdC P w v cs) (hf : RdL Q w u fs) (hl : ∀ f ∈ fs, (f.length + 1) * 48 ≤ 140737488355328) :
    Calls Tryz.prog 121 #[v, u] w (RowPost cs fs w) := by
  obtain ⟨pa, cap, rfl, h1, h2⟩ := sliceC h
  obtain ⟨pf, cf, rfl, h3, h4⟩ := hf.form
  unfold maxLen at h4
  have HST := Lib.hid (stand_pro cs _ w h)
  have HC := Lib.hid h
  have HF := Lib.hid hf
  have HL := Lib.hid hl
  have HWN := Lib.hid (within_pro cs.length 1 8 w)
  obtain ⟨n, hn⟩ : ∃ n, cs.length = n := ⟨_, rfl⟩
  obtain ⟨m, hm⟩ : ∃ m, fs.length = m := ⟨_, rfl⟩
  have HN := Lib.hid hn
  have HM := Lib.hid hm
  rw [hn] at HC HST HWN h1 ⊢
  rw [hm] at HF h3 ⊢
  have n62 : n ≤ 9223372036854775807 := by omega
  have m62 : m ≤ 9223372036854775807 := by omega
  clear h hf hl hn hm h1 h3
  by_cases hmn : m = n
  · obtain rfl : m = n := hmn
    have t0 : ((m : Int) != (m : Int)) = false := by simp
    by_cases h8 : 1 ≤ m ∧ m ≤ 8
    · have hwt : within m 1 8 = true := decide_eq_true (by omega)
      rw [hwt] at HWN
      obtain ⟨z, hz⟩ : ∃ z, standF 0 cs = z := ⟨_, rfl⟩
      rw [hz] at HST
      cases z with
      | false =>
        have HE := Lib.hid (show rowE cs fs = 1 by unfold rowE; rw [if_pos (by rw [hz]; exact .inr (.inr (.inr rfl)))])
        clear h8 hwt hz
        go_enter Tryz.func121, Tryz.ntmps121
        go_wp2_with fail
        refine HWN.out.mono ?_
        rintro e w1 ⟨rfl, rfl⟩
        go_wp2_with fail
        refine HST.out.mono ?_
        rintro e w1 ⟨rfl, hb⟩
        have HB := Lib.hid hb
        clear hb
        go_wp2_with fail
        go_ret2
        exact row_bad HE.out (by omega) HB.out
      | true =>
        have HEE := Lib.hid (show rowE cs fs = errF cs fs by
          unfold rowE
          rw [if_neg]
          rintro (h | h | h | h)
          · exact h (by rw [HN.out, HM.out])
          · rw [HN.out] at h; omega
          · rw [HN.out] at h; omega
          · rw [hz] at h; cases h)
        have HAT := Lib.hid (show RowAt cs fs 0 0 [] from ⟨by omega, by omega, by rw [List.drop_zero]; exact hz, fun r hr => absurd hr (by simp), by rw [List.drop_zero, List.drop_zero], by rw [List.drop_zero, List.drop_zero], by simp⟩)
        clear hwt hz
        go_enter Tryz.func121, Tryz.ntmps121
        go_wp2_with fail
        refine HWN.out.mono ?_
        rintro e w1 ⟨rfl, rfl⟩
        go_wp2_with fail
        refine HST.out.mono ?_
        rintro e w1 ⟨rfl, hb⟩
        have HB := Lib.hid hb
        clear hb
        go_wp2_with fail
        go_loopw [6, 29] (fun rv i wr => ∃ (k : Nat) (d : Int) (rows : List (List Gl)) (vs : List Value), i = .int .i64 k ∧ k ≤ m ∧ Hid (RowAt cs fs k d rows) ∧ Hid (OwnR w.heap.size wr rv rows vs) ∧ Hid (Below w.heap.size w wr)) (fun _ i _ => m - (intOf i).toNat)
        case atStart => exact ⟨0, 0, [], [], rfl, Nat.zero_le _, HAT, Lib.hid (OwnL.nil _ _ _), HB⟩
        case round =>
          obtain ⟨k, d, rows, vs, rfl, hk, HA, HR, HBr⟩ := hrel
          by_cases hlt : k < m
          · have hkc : k < cs.length := by rw [HN.out]; exact hlt
            have hkf : k < fs.length := by rw [HM.out]; exact hlt
            obtain ⟨b, off, rfl, _, c0, c1⟩ := (HC.out.below HBr.out).cell hkc
            obtain ⟨b2, o2, p2, q2, rfl, _, l0, _, _, hx⟩ := (HF.out.below HBr.out).at_ hkf
            have hdc := List.drop_eq_getElem_cons hkc
            have hdf := List.drop_eq_getElem_cons hkf
            have hxl := HL.out _ (List.getElem_mem hkf)
            obtain ⟨c, hc⟩ : ∃ c, cs[k] = c := ⟨_, rfl⟩
            obtain ⟨x, hxx⟩ : ∃ x, fs[k] = x := ⟨_, rfl⟩
            rw [hc] at c0 c1 hdc
            rw [hxx] at l0 hx hdf hxl
            obtain ⟨a1, a2, a3, a4, a5, a6, a7⟩ := HA.out
            rw [hdc, standF_cons] at a3
            rw [hdc, hdf] at a5 a6
            simp only [rowF] at a5
            simp only [errF] at a6
            have hA := below_box wr (.cells #[.int .i64 c.1, .int .i64 c.2] 189)
            have hX := heap_alloc_new wr (.cells #[.int .i64 c.1, .int .i64 c.2] 189)
            have HXG := Lib.hid (hx.below hA)
            have HRA := Lib.hid (HR.out.below hA)
            have HBA := Lib.hid (HBr.out.trans (hA.mono HBr.out.size))
            have HA3 := Lib.hid a3
            have HA4 := Lib.hid a4
            have HA5 := Lib.hid a5
            have HA6 := Lib.hid a6
            have HA7 := Lib.hid a7
            have HXL := Lib.hid hxl
            have k1 : (k : Int) < m := by omega
            have HLT := Lib.hid hlt
            have f2 := (hA.cell (p := ⟨b2, o2 + k, none⟩) (cellInL l0)).trans l0
            obtain ⟨W1, hW1⟩ : ∃ W1, wr.alloc (.cells #[.int .i64 c.1, .int .i64 c.2] 189) = W1 := ⟨_, rfl⟩
            rw [hW1] at hX HXG HRA HBA f2
            obtain ⟨e0, e1⟩ : W1.cell? ⟨wr.heap.size, 0, none⟩ = some (.int .i64 c.1) ∧ W1.cell? ⟨wr.heap.size, 1, none⟩ = some (.int .i64 c.2) := by
              refine ⟨?_, ?_⟩ <;> rw [cell_of_row _ _ _ _ _ _ hX] <;> rfl
            obtain ⟨z, hz⟩ : ∃ z, x.length = z := ⟨_, rfl⟩
            rw [hz] at f2 HXG l0
            have HZ := Lib.hid hz
            have HX := Lib.hid hX
            have HS0 := Lib.hid (show W1.drew.cell? ⟨b2, o2 + k, none⟩ = some (.slice p2 z q2) ∧ W1.drew.cell? ⟨wr.heap.size, 1, none⟩ = some (.int .i64 c.2) ∧ Below W1.heap.size W1 W1.drew from ⟨f2, e1, (Below.refl _ _).drew⟩)
            have HXLL := Lib.hid (show (x.length + 1) * 24 ≤ 140737488355328 by omega)
            clear hc hxx hx hdc hdf hxl a3 a4 a5 a6 a7 hA hlt hz hX
            go_upto_region 7 with fail
            go_region_held3 (fun w' => w'.cell? ⟨b2, o2 + k, none⟩ = some (.slice p2 z q2) ∧ w'.cell? ⟨wr.heap.size, 1, none⟩ = some (.int .i64 c.2) ∧ Below W1.heap.size W1 w')
              (first | exact HS0.out | exact ⟨(h8.cell (p := ⟨b2, o2 + k, none⟩) (cellInL (by assumption : _ ∧ _ ∧ Below W1.heap.size W1 _).1)).trans (by assumption : _ ∧ _ ∧ Below W1.heap.size W1 _).1, (h8.cell (p := ⟨wr.heap.size, 1, none⟩) (cellInL (by assumption : _ ∧ _ ∧ Below W1.heap.size W1 _).2.1)).trans (by assumption : _ ∧ _ ∧ Below W1.heap.size W1 _).2.1, (by assumption : _ ∧ _ ∧ Below W1.heap.size W1 _).2.2.trans (h8.mono (by assumption : _ ∧ _ ∧ Below W1.heap.size W1 _).2.2.size)⟩ | assumption)
              ((first
                | (go_at_call 112; refine (fill_pro c.2 x _ _ (HXG.out.below ((by assumption : _ ∧ _ ∧ Below W1.heap.size W1 _).2.2)) HXLL.out).mono ?_; rintro e w8 ⟨v8, rfl, ho8, h8⟩)))
            have hh : Below W1.heap.size W1 w8 := (by assumption : _ ∧ _ ∧ Below W1.heap.size W1 w8).2.2
            have g0 := (hh.cell (p := ⟨wr.heap.size, 0, none⟩) (cellInL e0)).trans e0
            have hB8 := HBA.out.trans (hh.mono HBA.out.size)
            obtain ⟨E, hE⟩ : ∃ E, fillE c.2 x = E := ⟨_, rfl⟩
            rw [hE] at HA6
            by_cases h0 : E = 0
            · subst h0
              have hf : fillL c.2 x = fillM c.2 x := by unfold fillL; rw [if_pos hE]
              rw [hf] at ho8
              have hR8 := HRA.out.below hh
              have hown : ∀ b, u6.ownBlock = some b → b < W1.heap.size := fun b hb => (own_base HRA.out.row hb).2
              have hL8 : RdL (fun b => u6.ownBlock ≠ some b) w8 v8 (fillM c.2 x) := ho8.imp fun b _ hb e => by
                have := hown b e
                have hb' : W1.heap.size ≤ b := hb
                omega
              have hs := HA3.out
              rw [Bool.and_eq_true, Bool.and_eq_true] at hs
              have s1 : 1 ≤ c.2 ∧ c.2 ≤ 200 := of_decide_eq_true hs.1.1
              have s2 : d ≤ c.1 ∧ c.1 ≤ 200 - c.2 := of_decide_eq_true hs.1.2
              have s3 := hs.2
              have hlen := fill_len hE
              have hxl := HXL.out
              have h7 := HA7.out
              have HBP := Lib.hid (beside_pro (B := w.heap.size) rows (fillM c.2 x) u6 v8 vs c.1 d c.2 w8 hR8 hB8.size hL8 HA4.out (fill_lines hE) a1 s2.1 (by omega) (by omega) s1.2 (by omega))
              have HAT2 := Lib.hid (show RowAt cs fs (k + 1) (c.1 + c.2) (putB rows (fillM c.2 x) c.1) from ⟨by omega, by omega, s3, putB_ok HA4.out a1 s2.1 (fill_lines hE) (by omega), HA5.out, by rw [HA6.out, if_pos rfl], by unfold putB; rw [putK_len]; omega⟩)
              rw [hE]
              have HB8 := Lib.hid hB8
              clear hh hB8 hf hR8 hown hL8 hs s1 s2 s3 hlen hxl h7 ho8 hE h8
              go_wp2_with fail
              refine HBP.out.mono ?_
              rintro e w9 ⟨v9, vs9, rfl, hO9, hb9⟩
              have HO9 := Lib.hid hO9
              have HB9 := Lib.hid (HB8.out.trans hb9)
              clear hO9 hb9
              go_wp2_with fail
              go_roundw
              case measure => have := HLT.out; simp [intOf]; omega
              case rel => exact ⟨k + 1, c.1 + c.2, _, vs9, by go_num, HLT.out, HAT2, HO9, HB9⟩
            · have tE : (E != 0) = true := by simp [h0]
              have HEC := Lib.hid (show errF cs fs = E by rw [HA6.out, if_neg h0])
              have HB8 := Lib.hid hB8
              rw [hE]
              clear hh hB8 ho8 hE h8
              go_wp2_with fail
              go_ret2
              exact row_bad (HEE.out.trans HEC.out) h0 HB8.out
          · obtain rfl : k = m := by omega
            have hzk : ¬ (k : Int) < k := by omega
            obtain ⟨_, _, _, _, a5, a6, _⟩ := HA.out
            have e1 : cs.drop k = [] := List.drop_eq_nil_of_le (by rw [HN.out]; exact Nat.le_refl _)
            rw [e1] at a5 a6
            have HE0 := Lib.hid (show rowE cs fs = 0 by rw [HEE.out, a6]; rfl)
            have HRL := Lib.hid (show rowL cs fs = rows by unfold rowL; rw [if_pos HE0.out, a5]; cases fs.drop k <;> rfl)
            clear hlt a5 a6 e1
            go_wp2_with fail
            go_ret2
            exact ⟨u6, by rw [HE0.out]; rfl, by rw [HRL.out]; exact HR.out.rd (fun b hb _ => hb) (fun b _ hb => hb.1), HBr.out⟩
    · have hwt : within m 1 8 = false := decide_eq_false (by omega)
      rw [hwt] at HWN
      have HE := Lib.hid (show rowE cs fs = 1 by unfold rowE; rw [if_pos (by rw [HN.out]; omega)])
      clear h8 hwt HST
      go_enter Tryz.func121, Tryz.ntmps121
      go_wp2_with fail
      refine HWN.out.mono ?_
      rintro e w1 ⟨rfl, rfl⟩
      go_wp2_with fail
      go_ret2
      exact row_bad HE.out (by omega) (Below.refl _ _)
  · have t0 : ((m : Int) != (n : Int)) = true := by simp; omega
    have HE := Lib.hid (show rowE cs fs = 1 by unfold rowE; rw [if_pos (by rw [HN.out, HM.out]; exact .inl hmn)])
    clear HST HWN
    go_enter Tryz.func121, Tryz.ntmps121
    go_wp2_with fail
    go_ret2
    exact row_bad HE.out (by omega) (Below.refl _ _)
end Go.Proofs.YtalomeialegmiaaGreatDoor.Tb
end
