/- Layer 11: the program's lower and Lower, where nothing is wrong. -/
import Derived.Test.YtdagombmgcnofaaGreatDoorIp
namespace Go.Proofs.YtdagombmgcnofaaGreatDoor.Ir
open Go.RowKit Go.Maps Go.Proofs.YtdagombmgcnofaaGreatDoor
set_option linter.unusedVariables false
set_option linter.unusedSimpArgs false
def lowerL (sheet : List S6.Sty) (dir : List Nd) (bl : List Bk) : Option (List Opr) := (blocksL sheet dir ⟨[], []⟩ bl).bind fun s => if (chkM s.ops sheet.length dir.length).2 = 0 then some s.ops else none
/-- A topic by value: what is asked of it are its blocks and its line. -/
structure TopV (w : World) (v : Value) (bl : List Bk) : Prop where
  form : ∃ (k : Int) (a b : ByteArray) (lv : Int) (p1 p2 pb : Option Addr) (n1 c1 n2 c2 cb : Nat) (line : Int), v = .agg #[.int .i64 k, .string a, .string b, .int .i64 lv, .slice p1 n1 c1, .slice p2 n2 c2, .slice pb bl.length cb, .int .i64 line] ∧ RdRow 6 BkIs w (.slice pb bl.length cb) bl
theorem sumT_of {l : List Opr} {N : Nat} (h : ∀ x ∈ l, x.t.size ≤ N) : sumT l ≤ N * l.length := by
  induction l with
  | nil => simp [sumT]
  | cons y l ih =>
    have := ih fun x hx => h x (List.mem_cons_of_mem _ hx)
    have := h y List.mem_cons_self
    simp only [sumT, List.length_cons, Nat.mul_succ]
    omega
/-- How many bytes are put down, or wait. -/
def sumS (s : Ls) : Nat := sumT s.ops + s.t.length
theorem putL_sum (s : Ls) (x : Opr) : sumS (putL s x) = sumS s + x.t.size := by
  unfold sumS putL
  dsimp only
  rw [sumT_app]
  by_cases h : s.t = []
  · rw [if_pos h, h]; simp [sumT]
  · rw [if_neg h, sumT_app]
    simp only [sumT, txtOp, List.length_nil]
    have : (⟨s.t.toArray⟩ : ByteArray).size = s.t.length := by show s.t.toArray.size = _; simp
    omega
theorem pieceL_sum {sheet : List S6.Sty} {dir : List Nd} {s s' : Ls} {p : Pc} (h : pieceL sheet dir s p = some s') : sumS s' ≤ sumS s + p.txt.size := by
  have e0 : (ByteArray.empty).size = 0 := rfl
  unfold pieceL at h
  split at h
  · obtain rfl := Option.some.inj h
    unfold sumS
    dsimp only
    rw [List.length_append, toList_size]
    omega
  split at h
  · obtain ⟨n, _, rfl⟩ := Option.map_eq_some_iff.1 h
    rw [putL_sum]; simp only [op0]; omega
  split at h
  · obtain ⟨n, _, rfl⟩ := Option.map_eq_some_iff.1 h
    rw [putL_sum]; simp only [op0]; omega
  split at h
  · obtain rfl := Option.some.inj h
    rw [putL_sum]; simp only [op0]; omega
  · cases h
theorem piecesL_sum {sheet : List S6.Sty} {dir : List Nd} : ∀ {l : List Pc} {s s' : Ls}, piecesL sheet dir s l = some s' → sumS s' ≤ sumS s + wP l
  | [], s, s', h => by obtain rfl := Option.some.inj h; exact Nat.le_add_right _ _
  | p :: l, s, s', h => by
    obtain ⟨s1, h1, h2⟩ := Option.bind_eq_some_iff.1 h
    have := pieceL_sum h1
    have := piecesL_sum h2
    simp only [wP]
    omega
theorem blockL_sum {sheet : List S6.Sty} {dir : List Nd} {s s' : Ls} {x : Bk} (h : blockL sheet dir s x = some s') : sumS s' ≤ sumS s + wB x := by
  have e0 : (ByteArray.empty).size = 0 := rfl
  unfold blockL at h
  unfold wB
  split at h
  · obtain ⟨n, _, h⟩ := Option.bind_eq_some_iff.1 h
    obtain ⟨s1, h1, rfl⟩ := Option.map_eq_some_iff.1 h
    have h2 := piecesL_sum h1
    rw [putL_sum] at h2 ⊢
    simp only [op0] at h2 ⊢
    omega
  split at h
  · obtain rfl := Option.some.inj h; rw [putL_sum]; simp only [op0]; omega
  split at h
  · obtain rfl := Option.some.inj h; rw [putL_sum]; simp only [op0]; omega
  split at h
  · obtain rfl := Option.some.inj h; rw [putL_sum]; dsimp only; omega
  split at h
  · obtain rfl := Option.some.inj h; rw [putL_sum]; simp only [op0]; omega
  split at h
  · obtain rfl := Option.some.inj h; rw [putL_sum]; simp only [op0]; omega
  · cases h
theorem blocksL_sum {sheet : List S6.Sty} {dir : List Nd} : ∀ {l : List Bk} {s s' : Ls}, blocksL sheet dir s l = some s' → sumS s' ≤ sumS s + wT l
  | [], s, s', h => by obtain rfl := Option.some.inj h; exact Nat.le_add_right _ _
  | x :: l, s, s', h => by
    obtain ⟨s1, h1, h2⟩ := Option.bind_eq_some_iff.1 h
    have := blockL_sum h1
    have := blocksL_sum h2
    simp only [wT]
    omega
def MakesO (l : List Opr) (w : World) (e : Ending) (w' : World) : Prop := ∃ v ps, e = .returned (.tuple #[v, .nilIface]) ∧ OwnO w.heap.size w' v ps ∧ ps.map (·.1) = l ∧ Below w.heap.size w w'
set_option maxRecDepth 100000 in
set_option maxHeartbeats 8000000 in
theorem lower_pro (w : World) (sv dv tv : Value) (sheet : List S6.Sty) (dir : List Nd) (bl : List Bk) (r : List Opr) (hE : Env w sv dv sheet dir) (ht : TopV w tv bl) (hsz : wT bl ≤ 1000000000) (hdl : dir.length ≤ 4611686018427387904) (hdn : ∀ d ∈ dir, d.norm.size ≤ maxLen) (hr : lowerL sheet dir bl = some r) :
    Calls Tryz.prog 54 #[sv, dv, tv] w (MakesO r w) := by
  obtain ⟨k, na, ti, lv, p1, p2, pb, n1, c1, n2, c2, cb, line, rfl, hbl⟩ := ht.form
  obtain ⟨s9, hs9, hr9⟩ := Option.bind_eq_some_iff.1 hr
  have hchk : (chkM s9.ops sheet.length dir.length).2 = 0 ∧ s9.ops = r := by
    by_cases e : (chkM s9.ops sheet.length dir.length).2 = 0
    · rw [if_pos e] at hr9; exact ⟨e, Option.some.inj hr9⟩
    · rw [if_neg e] at hr9; cases hr9
  obtain ⟨pd, cd, hdv, _, hdm⟩ := hE.dr.form
  obtain ⟨ps, cs, hsv, _, hsm⟩ := hE.sh.form
  subst hdv hsv
  have HCK := Lib.hid hchk.1
  have HR := Lib.hid hchk.2
  have HE := Lib.hid hE
  have HS9 := Lib.hid hs9
  have HSUM := Lib.hid (blocksL_sum hs9)
  have HSZ := Lib.hid hsz
  have HBL := Lib.hid hbl
  obtain ⟨q, hq⟩ : ∃ q, bl.length = q := ⟨_, rfl⟩
  have HQ := Lib.hid hq
  obtain ⟨sl, hsl⟩ : ∃ q, sheet.length = q := ⟨_, rfl⟩
  obtain ⟨dl, hdl'⟩ : ∃ q, dir.length = q := ⟨_, rfl⟩
  have hA : Below w.heap.size w (w.alloc (.cells #[.int .i64 k, .string na, .string ti, .int .i64 lv, .slice p1 n1 c1, .slice p2 n2 c2, .slice pb bl.length cb, .int .i64 line] 29)) := (Below.refl _ _).alloc (Nat.le_refl _) _
  have HA := Lib.hid hA
  have HX := Lib.hid (heap_alloc_new w (.cells #[.int .i64 k, .string na, .string ti, .int .i64 lv, .slice p1 n1 c1, .slice p2 n2 c2, .slice pb bl.length cb, .int .i64 line] 29))
  have HFi := Lib.hid (first_pro dir (.slice pd dir.length cd) _ (hE.below hA).dr hdl hdn)
  rw [hq] at HA HX HFi HBL ⊢
  rw [hsl] at HCK HE ⊢
  rw [hdl'] at HCK HE HFi ⊢
  have hq62 : q ≤ 9223372036854775807 := by obtain ⟨_, _, e, h5, h6⟩ := hbl.form; cases e; unfold maxLen at h6; omega
  clear hr hr9 hchk hE hs9 hsz hbl hq hsl hdl' hA hdn hdl hdm hsm ht
  go_enter Tryz.func54, Tryz.ntmps54
  go_wp2_with fail
  refine HFi.out.mono ?_
  rintro e w1 ⟨rfl, hfm, hb1⟩
  have HB1 := Lib.hid (HA.out.trans (hb1.mono HA.out.size))
  have HFM := Lib.hid hfm
  have hx1 := (hb1.block w.heap.size (Array.getElem?_eq_some_iff.1 HX.out).1).trans HX.out
  have HX1 := Lib.hid hx1
  obtain ⟨K, hK⟩ : ∃ K, (w.alloc (.cells #[.int .i64 k, .string na, .string ti, .int .i64 lv, .slice p1 n1 c1, .slice p2 n2 c2, .slice pb q cb, .int .i64 line] 29)).heap.size = K := ⟨_, rfl⟩
  rw [hK] at HFM ⊢
  clear hfm hb1 hx1 hK
  have HLo := Lib.hid (show Low w.heap.size w1.heap.size K (.slice ps sl cs) (.slice pd dl cd) dir ⟨[], []⟩ (w1.alloc (.cells #[.slice ps sl cs, .slice pd dl cd, .map (some K), .slice none 0 0, .pointer none, .slice none 0 0] 218)) from
    ⟨_, _, [], ⟨.inl rfl, ⟨HB1.out.size, _, heap_alloc_new w1 _, ⟨rfl, .inl ⟨rfl, rfl⟩⟩, by simp [Value.ownBlock]⟩, OwnO.nil _ _, HFM.out.below ((Below.refl _ w1).alloc (Nat.le_refl _) _)⟩, rfl⟩)
  have hA1 : Below w1.heap.size w1 (w1.alloc (.cells #[.slice ps sl cs, .slice pd dl cd, .map (some K), .slice none 0 0, .pointer none, .slice none 0 0] 218)) := (Below.refl _ _).alloc (Nat.le_refl _) _
  have HB2 := Lib.hid (HB1.out.trans (hA1.mono HB1.out.size))
  have hx2 := (hA1.block w.heap.size (Array.getElem?_eq_some_iff.1 HX1.out).1).trans HX1.out
  have HX2 := Lib.hid hx2
  have hxl : w.heap.size < w1.heap.size := (Array.getElem?_eq_some_iff.1 HX1.out).1
  have HXL := Lib.hid hxl
  have d6 : w1.cell? ⟨w.heap.size, 6, none⟩ = some (.slice pb q cb) := by rw [cell_of_row _ _ _ _ _ _ HX1.out]; rfl
  go_wp2_with fail
  obtain ⟨W2, hW2⟩ : ∃ W2, w1.alloc (.cells #[.slice ps sl cs, .slice pd dl cd, .map (some K), .slice none 0 0, .pointer none, .slice none 0 0] 218) = W2 := ⟨_, rfl⟩
  obtain ⟨M, hM⟩ : ∃ M, w1.heap.size = M := ⟨_, rfl⟩
  rw [hW2] at HLo HB2 ⊢
  rw [hM] at HLo HXL ⊢
  clear hx2 hA1 hxl HX2 d6 hW2 hM
  go_loopw [22] (fun i wr => ∃ (j : Nat) (s2 : Ls), i = .int .i64 j ∧ j ≤ q ∧ Hid (Low w.heap.size M K (.slice ps sl cs) (.slice pd dl cd) dir s2 wr) ∧ Hid (blocksL sheet dir s2 (bl.drop j) = some s9) ∧ Hid (szL s2 + wT (bl.drop j) ≤ 1000000000) ∧ Hid (Below w.heap.size w wr)) (fun i _ => q - (intOf i).toNat)
  case atStart => exact ⟨0, ⟨[], []⟩, rfl, Nat.zero_le _, HLo, HS9, Lib.hid (by have := HSZ.out; simpa [szL] using this), HB2⟩
  case round =>
    obtain ⟨j, s2, rfl, hj, HL2, HP2, HZ2, HBr⟩ := hrel
    by_cases hlt : j < q
    · have hkl : j < bl.length := by rw [HQ.out]; exact hlt
      obtain ⟨b, off, e, hB6⟩ := (RdRow.below (E := BkIs) (fun h hb => BkIs.below h hb) HBL.out HBr.out).at_ hkl
      obtain ⟨b0, off0, e0, hB0⟩ := HBL.out.at_ hkl
      subst e
      cases e0
      obtain ⟨s3, hs3, hp3⟩ := blocksL_step hkl HP2.out
      have hz3 := blockL_sz hs3
      have hwd := wT_drop hkl
      obtain ⟨x, hpx⟩ : ∃ x, bl[j] = x := ⟨_, rfl⟩
      rw [hpx] at hB6 hB0 hs3 hz3 hwd
      obtain ⟨a0, a1, a2, ⟨wv, a3, _⟩, ⟨tv, a4, _⟩, a5⟩ := hB6
      obtain ⟨z0, z1, z2, ⟨wv0, z3, hw0⟩, ⟨tv0, z4, ht0⟩, z5⟩ := hB0
      obtain rfl : wv = wv0 := by have := (cell_below z3 HBr.out).symm.trans a3; exact (Option.some.inj this).symm
      obtain rfl : tv = tv0 := by have := (cell_below z4 HBr.out).symm.trans a4; exact (Option.some.inj this).symm
      obtain ⟨p3, c3, rfl, _, _⟩ := hw0.form
      obtain ⟨p4, c4, rfl, _, _⟩ := ht0.form
      have hA2 : Below wr.heap.size wr (wr.alloc (.cells #[.int .i64 x.k, .int .i64 x.n, .string x.st, .slice p3 x.w.length c3, .slice p4 x.ps.length c4, .int .i64 x.line] 112)) := (Below.refl _ _).alloc (Nat.le_refl _) _
      have HA2 := Lib.hid hA2
      have HE' : Env w (.slice ps sl cs) (.slice pd dl cd) sheet dir := HE.out
      have HPC := Lib.hid (block_pro w M K (.slice ps sl cs) (.slice pd dl cd) sheet dir HE' s2 s3 x _ _ _ (HBr.out.trans (hA2.mono HBr.out.size)) (HL2.out.below hA2) hw0 ht0 (by have := HZ2.out; omega) hs3)
      have HZ3 := Lib.hid (show szL s3 + wT (bl.drop (j + 1)) ≤ 1000000000 by have := HZ2.out; omega)
      have HP3 := Lib.hid hp3
      have HLT := Lib.hid hlt
      have k1 : (j : Int) < q := by omega
      clear hA2 hs3 hp3 hz3 hwd hpx hkl HE' hw0 ht0 z0 z1 z2 z3 z4 z5
      go_wp2_with fail
      refine HPC.out.mono ?_
      rintro e w3 ⟨rfl, hl3, hb3, hk3⟩
      have HL3 := Lib.hid hl3
      have HB3 := Lib.hid (HBr.out.trans ((HA2.out.mono HBr.out.size).trans hb3))
      clear hl3 hb3 hk3
      go_wp2_with fail
      go_roundw
      case measure => have := HLT.out; simp [intOf]; omega
      case rel => exact ⟨j + 1, s3, by go_num, HLT.out, HL3, HP3, HZ3, HB3⟩
    · obtain rfl : j = q := by omega
      have hs : s2 = s9 := by
        have := HP2.out
        rw [List.drop_eq_nil_of_le (by rw [HQ.out]; exact Nat.le_refl _)] at this
        exact Option.some.inj this
      subst hs
      have hz1 : ¬ (j : Int) < j := by omega
      obtain ⟨ov, pv, pp, hLA, hpp⟩ := HL2.out
      obtain ⟨q3, _, hML, _⟩ := hLA.cell3
      have hrd := hLA.2.2.1.rd
      rw [hpp] at hrd
      have HC := Lib.hid (check_pro s2.ops ov sl dl wr hrd (by have h1 := HSUM.out; have h2 := HSZ.out; unfold sizeOk; unfold sumS at h1; simp [sumT] at h1; omega) (HE.out.tb.below HBr.out (Nat.le_refl _)))
      unfold ChkIs at HC
      obtain ⟨⟨ck1, ck2⟩, hck⟩ : ∃ p, chkM s2.ops sl dl = p := ⟨_, rfl⟩
      have hc0 := HCK.out
      rw [hck] at HC hc0
      dsimp only at hc0
      subst hc0
      obtain ⟨po, co, hov⟩ := lenL hLA.2.2.1.row
      subst hov
      have HLA := Lib.hid hLA
      have HPP := Lib.hid (hpp.trans HR.out)
      clear hlt hLA hpp hrd hck
      go_wp2_with fail
      refine HC.out.mono ?_
      rintro e w4 ⟨rfl, hb4⟩
      have HL4 := Lib.hid (HLA.out.below hb4)
      have HB4 := Lib.hid (HBr.out.trans (hb4.mono HBr.out.size))
      obtain ⟨q4, _, _, _⟩ := HL4.out.cell3
      clear hb4
      go_wp2_with fail
      go_ret2
      exact ⟨_, _, rfl, HL4.out.2.2.1, HPP.out, HB4.out⟩
end Go.Proofs.YtdagombmgcnofaaGreatDoor.Ir
