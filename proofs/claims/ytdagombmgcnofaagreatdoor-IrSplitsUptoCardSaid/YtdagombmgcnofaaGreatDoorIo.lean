/- Layer 11: the program's paragraph and block, where nothing is wrong. -/
import Derived.Test.YtdagombmgcnofaaGreatDoorIn
namespace Go.Proofs.YtdagombmgcnofaaGreatDoor.Ir
open Go.RowKit Go.Maps Go.Proofs.YtdagombmgcnofaaGreatDoor
set_option linter.unusedVariables false
set_option linter.unusedSimpArgs false
/-- A copy of a list of numbers. -/
theorem cloneZ_pro {P : Nat → Prop} (xs : List Int) (v : Value) (w : World) (h : RdZ P w v xs) (hx : xs.length * 8 ≤ 140737488355328) :
    Calls Tryz.prog 124 #[v] w fun e w' => ∃ v', e = .returned v' ∧ w'.ownsRow w.heap.size 3 1 v' xs.length (numsZ xs) ∧ Below w.heap.size w w' := by
  obtain ⟨pa, cap, rfl, h1, h2, h4⟩ := h
  rcases Nat.eq_zero_or_pos xs.length with h0 | h0
  · have hx0 : xs = [] := List.eq_nil_of_length_eq_zero h0
    subst hx0
    cases pa with
    | none => exact (Tryz.slices_Clone_int_nil 0 cap w).mono fun _ _ ⟨he, hw⟩ => ⟨_, he, by rw [hw]; exact World.ownsRow_nil _ _ _ _, by rw [hw]; exact Below.refl _ _⟩
    | some a => exact (Tryz.slices_Clone_int_zero a cap w).mono fun _ _ ⟨v', he, ho, _, hb⟩ => ⟨v', he, ho, hb⟩
  · obtain ⟨b, off, rfl, _, _⟩ := h4 0 h0
    refine (Tryz.slices_Clone_int b off xs.length cap xs w (Nat.le_refl _) hx fun j hj => ?_).mono fun _ _ ⟨v', he, ho, _, hb⟩ => ⟨v', he, ?_, hb⟩
    · obtain ⟨b', off', e, _, hc⟩ := h4 j hj
      cases e
      rw [hc]; simp [hj]
    · rw [List.take_length] at ho; exact ho
/-- A block of a topic. -/
structure Bk where
  k : Int
  n : Int
  st : ByteArray
  w : List Int
  ps : List Pc
  line : Int
def Any1 (_ : Nat) : Prop := True
def BkIs (W : World) (b o : Nat) (x : Bk) : Prop := W.cell? ⟨b, o, none⟩ = some (.int .i64 x.k) ∧ W.cell? ⟨b, o + 1, none⟩ = some (.int .i64 x.n) ∧ W.cell? ⟨b, o + 2, none⟩ = some (.string x.st) ∧
  (∃ wv, W.cell? ⟨b, o + 3, none⟩ = some wv ∧ RdZ Any1 W wv x.w) ∧ (∃ tv, W.cell? ⟨b, o + 4, none⟩ = some tv ∧ RdRow 5 InlIs W tv x.ps) ∧ W.cell? ⟨b, o + 5, none⟩ = some (.int .i64 x.line)
theorem BkIs.below {W W' : World} {b o : Nat} {x : Bk} (h : BkIs W b o x) (hb : Below W.heap.size W W') : BkIs W' b o x := by
  obtain ⟨h0, h1, h2, ⟨wv, h3, h4⟩, ⟨tv, h5, h6⟩, h7⟩ := h
  exact ⟨cell_below h0 hb, cell_below h1 hb, cell_below h2 hb, ⟨wv, cell_below h3 hb, h4.below hb⟩, ⟨tv, cell_below h5 hb, RdRow.below (E := InlIs) (fun h hb => InlIs.below h hb) h6 hb⟩, cell_below h7 hb⟩
def piecesL (sheet : List S6.Sty) (dir : List Nd) : Ls → List Pc → Option Ls
  | s, [] => some s
  | s, p :: l => (pieceL sheet dir s p).bind fun s' => piecesL sheet dir s' l
def styNo (sheet : List S6.Sty) (st : ByteArray) : Option Int := if st.size = 0 then some (-1) else (stN sheet st).map fun (n : Nat) => (n : Int)
def paraL (sheet : List S6.Sty) (dir : List Nd) (s : Ls) (x : Bk) : Option Ls :=
  (styNo sheet x.st).bind fun n => (piecesL sheet dir (putL s (op0 8 n)) x.ps).map fun s' => putL s' (op0 9 0)
def wP : List Pc → Nat
  | [] => 0
  | p :: l => 2 + p.txt.size + wP l
def szL (s : Ls) : Nat := s.ops.length + s.t.length
theorem putL_sz (s : Ls) (x : Opr) : szL (putL s x) ≤ szL s + 2 := by
  have := put_len s x
  unfold szL
  have h : (putL s x).t.length = 0 := rfl
  omega
theorem toList_size (t : ByteArray) : t.data.toList.length = t.size := by rw [Array.length_toList]; rfl
theorem pieceL_sz {sheet : List S6.Sty} {dir : List Nd} {s s' : Ls} {p : Pc} (h : pieceL sheet dir s p = some s') : szL s' ≤ szL s + 2 + p.txt.size := by
  unfold pieceL at h
  split at h
  · obtain rfl := Option.some.inj h
    unfold szL
    dsimp only
    rw [List.length_append, toList_size]
    omega
  split at h
  · obtain ⟨n, _, rfl⟩ := Option.map_eq_some_iff.1 h
    have := putL_sz s (op0 2 n); omega
  split at h
  · obtain ⟨n, _, rfl⟩ := Option.map_eq_some_iff.1 h
    have := putL_sz s (op0 p.kind n); omega
  split at h
  · obtain rfl := Option.some.inj h
    have := putL_sz s (op0 p.kind 0); omega
  · cases h
theorem wP_drop {l : List Pc} {k : Nat} (h : k < l.length) : wP (l.drop k) = 2 + l[k].txt.size + wP (l.drop (k + 1)) := by
  rw [List.drop_eq_getElem_cons h]
  rfl
theorem piecesL_step {sheet : List S6.Sty} {dir : List Nd} {s r : Ls} {l : List Pc} {k : Nat} (h : k < l.length) (hr : piecesL sheet dir s (l.drop k) = some r) : ∃ s', pieceL sheet dir s l[k] = some s' ∧ piecesL sheet dir s' (l.drop (k + 1)) = some r := by
  rw [List.drop_eq_getElem_cons h] at hr
  exact Option.bind_eq_some_iff.1 hr
theorem low_box {M : Nat} {w w' : World} {b : Nat} {cs : Array Value} {T : TypeId} (hk : Kp M w w') (h : w.heap[b]? = some (.cells cs T (0, 0))) (hbM : b ≠ M) (h1 : T ≠ 81) (h2 : T ≠ 5) : w'.heap[b]? = some (.cells cs T (0, 0)) :=
  hk b _ h hbM (fun c fz e => by injection e with _ e; exact h1 e) (fun c fz e => by injection e with _ e; exact h2 e)

set_option maxRecDepth 100000 in
set_option maxHeartbeats 8000000 in
theorem para_pro (w0 : World) (M K : Nat) (sv dv : Value) (sheet : List S6.Sty) (dir : List Nd) (hE : Env w0 sv dv sheet dir) (s s' : Ls) (x : Bk) (wv tv : Value) (W : World) (hb : Below w0.heap.size w0 W) (h : Low w0.heap.size M K sv dv dir s W) (hwv : RdZ Any1 w0 wv x.w) (htv : RdRow 5 InlIs w0 tv x.ps) (hsz : szL s + 4 + wP x.ps ≤ 1000000000) (hp : paraL sheet dir s x = some s') :
    Calls Tryz.prog 158 #[.pointer (some ⟨M, 0, none⟩), .agg #[.int .i64 x.k, .int .i64 x.n, .string x.st, wv, tv, .int .i64 x.line]] W (lowP w0.heap.size M K sv dv dir s' .nilIface W) := by
  obtain ⟨k, n, st, ws, ps, line⟩ := x
  dsimp only at hwv htv hsz hp ⊢
  obtain ⟨pw, cw, rfl, _, _⟩ := hwv.form
  obtain ⟨pt, ct, rfl, hc1, hc2⟩ := htv.form
  obtain ⟨sn, hsn, hp⟩ := Option.bind_eq_some_iff.1 hp
  obtain ⟨s1, hs1, rfl⟩ := Option.map_eq_some_iff.1 hp
  obtain ⟨cwl, hcwl⟩ : ∃ q, ws.length = q := ⟨_, rfl⟩
  obtain ⟨ctl, hctl⟩ : ∃ q, ps.length = q := ⟨_, rfl⟩
  dsimp only at hsn hs1
  have HE := Lib.hid hE
  have HB := Lib.hid hb
  have HTV := Lib.hid htv
  have HSZ := Lib.hid hsz
  have HS1 := Lib.hid hs1
  have HC := Lib.hid hctl
  rw [hcwl]
  rw [hctl] at HTV hc1 ⊢
  have hA : Below W.heap.size W (W.alloc (.cells #[.int .i64 k, .int .i64 n, .string st, .slice pw cwl cw, .slice pt ctl ct, .int .i64 line] 112)) := (Below.refl _ _).alloc (Nat.le_refl _) _
  have HA := Lib.hid hA
  have HBA := Lib.hid (hb.trans (hA.mono hb.size))
  have HAB := Lib.hid (hA.mono hb.size)
  have HLA := Lib.hid (h.below hA)
  have HX := Lib.hid (heap_alloc_new W (.cells #[.int .i64 k, .int .i64 n, .string st, .slice pw cwl cw, .slice pt ctl ct, .int .i64 line] 112))
  obtain ⟨e0, e1, e2, hML, hBM, _⟩ := HLA.out.cells
  have HbM := Lib.hid (show W.heap.size ≠ M by have := h.cells.2.2.2.1; omega)
  have HPT := Lib.hid (fun q W2 (h2 : Low w0.heap.size M K sv dv dir s W2) => put_bare w0.heap.size M K sv dv dir s 8 q W2 h2 (by have := HSZ.out; unfold szL at this; omega))
  have n62 : ctl ≤ 9223372036854775807 := by unfold maxLen at hc2; omega
  have mixed : Tryz.prog.follows .mixedOrders = true := by kernel_rfl
  have HBS := Lib.hid hb.size
  clear hwv htv hsz hp hs1 hcwl hctl hA hb h hc1 hc2
  by_cases h0 : st.size = 0
  · have n1 := isNil h0
    have hq : sn = -1 := by unfold styNo at hsn; rw [if_pos h0] at hsn; exact (Option.some.inj hsn).symm
    subst hq
    clear h0 hsn hE
    go_enter Tryz.func158, Tryz.ntmps158
    go_wp2_with fail
    refine (HPT.out (-1) _ HLA.out).mono ?_
    rintro e w1 ⟨rfl, hl1, hb1, hk1⟩
    have HL1 := Lib.hid hl1
    have HB1 := Lib.hid (HAB.out.trans hb1)
    have HK1 := Lib.hid ((Kp.below HA.out).trans hk1)
    have hx1 := low_box hk1 HX.out HbM.out (by decide) (by decide)
    have d4 : w1.cell? ⟨W.heap.size, 4, none⟩ = some (.slice pt ctl ct) := by rw [cell_of_row _ _ _ _ _ _ hx1]; rfl
    have HS0 := Lib.hid (putL_sz s (op0 8 (-1)))
    obtain ⟨sp, hsp⟩ : ∃ sp, putL s (op0 8 (-1)) = sp := ⟨_, rfl⟩
    rw [hsp] at HS1 HL1 HS0
    have HSZ1 := Lib.hid (show szL sp + wP ps + 2 ≤ 1000000000 by have := HSZ.out; have := HS0.out; omega)
    clear hl1 hb1 hk1 hx1 hsp e0 e1 e2 hML
    go_wp2_with fail
    go_loopw [37] (fun i wr => ∃ (k : Nat) (s2 : Ls), i = .int .i64 k ∧ k ≤ ctl ∧ Hid (Low w0.heap.size M K sv dv dir s2 wr) ∧ Hid (piecesL sheet dir s2 (ps.drop k) = some s1) ∧ Hid (szL s2 + wP (ps.drop k) + 2 ≤ 1000000000) ∧ Hid (Below w0.heap.size W wr) ∧ Hid (Kp M W wr)) (fun i _ => ctl - (intOf i).toNat)
    case atStart => exact ⟨0, sp, rfl, Nat.zero_le _, HL1, HS1, HSZ1, HB1, HK1⟩
    case round =>
      obtain ⟨k, s2, rfl, hk, HL2, HP2, HZ2, HB2, HK2⟩ := hrel
      have HBw := Lib.hid (HB.out.trans HB2.out)
      by_cases hlt : k < ctl
      · have hkl : k < ps.length := by rw [HC.out]; exact hlt
        obtain ⟨b, off, e, hE5⟩ := (RdRow.below (E := InlIs) (fun h hb => InlIs.below h hb) HTV.out HBw.out).at_ hkl
        subst e
        obtain ⟨s3, hs3, hp3⟩ := piecesL_step hkl HP2.out
        have hz3 := pieceL_sz hs3
        have hwd := wP_drop hkl
        obtain ⟨p, hpx⟩ : ∃ p, ps[k] = p := ⟨_, rfl⟩
        rw [hpx] at hE5 hs3 hz3 hwd
        obtain ⟨c0, c1, c2, c3, c4⟩ := hE5
        have hA2 : Below wr.heap.size wr (wr.alloc (.cells #[.int .i64 p.kind, .string p.txt, .string p.name, .int .i64 p.line, .int .i64 p.col] 109)) := (Below.refl _ _).alloc (Nat.le_refl _) _
        have HA2 := Lib.hid hA2
        have HPC := Lib.hid (piece_pro w0 M K sv dv sheet dir HE.out s2 s3 p _ (HBw.out.trans (hA2.mono HBw.out.size)) (HL2.out.below hA2) (by have := HZ2.out; unfold szL at this; omega) (by have := HZ2.out; unfold szL at this; omega) hs3)
        have HZ3 := Lib.hid (show szL s3 + wP (ps.drop (k + 1)) + 2 ≤ 1000000000 by have := HZ2.out; omega)
        have HP3 := Lib.hid hp3
        have HLT := Lib.hid hlt
        have k1 : (k : Int) < ctl := by omega
        clear hA2 hs3 hp3 hz3 hwd hpx hkl
        go_wp2_with fail
        refine HPC.out.mono ?_
        rintro e w3 ⟨rfl, hl3, hb3, hk3⟩
        have HL3 := Lib.hid hl3
        have HB3 := Lib.hid (HB2.out.trans ((HA2.out.mono HBw.out.size).trans hb3))
        have HK3 := Lib.hid (HK2.out.trans ((Kp.below HA2.out).trans hk3))
        clear hl3 hb3 hk3
        go_wp2_with fail
        go_roundw
        case measure => have := HLT.out; simp [intOf]; omega
        case rel => exact ⟨k + 1, s3, by go_num, HLT.out, HL3, HP3, HZ3, HB3, HK3⟩
      · obtain rfl : k = ctl := by omega
        have hs : s2 = s1 := by
          have := HP2.out
          rw [List.drop_eq_nil_of_le (by rw [HC.out]; exact Nat.le_refl _)] at this
          exact Option.some.inj this
        subst hs
        have hz1 : ¬ (k : Int) < k := by omega
        have HPD := Lib.hid (put_bare w0.heap.size M K sv dv dir s2 9 0 wr HL2.out (by have := HZ2.out; unfold szL at this; omega))
        clear hlt
        go_wp2_with fail
        refine HPD.out.mono ?_
        rintro e w3 ⟨rfl, hl3, hb3, hk3⟩
        have HL3 := Lib.hid hl3
        have HB3 := Lib.hid (HB2.out.trans hb3)
        have HK3 := Lib.hid (HK2.out.trans hk3)
        clear hl3 hb3 hk3
        go_wp2_with fail
        go_ret
        exact ⟨rfl, HL3.out, HB3.out, HK3.out⟩
  · have n1 := notEmpty (s := st) (by omega)
    unfold styNo at hsn
    rw [if_neg h0] at hsn
    obtain ⟨j, hj, rfl⟩ := Option.map_eq_some_iff.1 hsn
    obtain ⟨pa, cap, hsv, _, _⟩ := hE.sh.form
    subst hsv
    have HFi := Lib.hid (fun (q : Nat) => (S6.find_pro sheet st.data.toList (.slice pa sheet.length cap) ((W.alloc (.cells #[.int .i64 k, .int .i64 n, .string st, .slice pw cwl cw, .slice pt ctl ct, .int .i64 line] 112)).drewN q) (HE.out.sh.below (HBA.out.trans ⟨rfl, rfl, rfl, Nat.le_refl _, fun _ _ => rfl⟩))).mono (fun e w2 he => (⟨he.1, he.2.symm⟩ : e = .returned (S6.fndV (S6.fnd sheet st.data.toList)) ∧ w2 = _)))
    rw [show S6.fnd sheet st.data.toList = some j from hj, bs_of] at HFi
    unfold S6.fndV at HFi
    dsimp only [Option.getD, Option.isSome] at HFi
    clear h0 hsn hj hE
    go_enter Tryz.func158, Tryz.ntmps158
    go_wp2_with fail
    go_quiet ((go_at_call 148; with_reducible exact Calls.quiet_of_same (HFi.out _)))
    go_wp2_with fail
    refine (HPT.out j _ (Low.drewN HLA.out _)).mono ?_
    rintro e w1 ⟨rfl, hl1, hb1, hk1⟩
    have HL1 := Lib.hid hl1
    have HB1 := Lib.hid (drewN_trans HAB.out hb1)
    have HK1 := Lib.hid (kp_drewN (Kp.below HA.out) hk1)
    have hx1 := low_box hk1 (show (World.drewN _ _).heap[W.heap.size]? = _ from HX.out) HbM.out (by decide) (by decide)
    have d4 : w1.cell? ⟨W.heap.size, 4, none⟩ = some (.slice pt ctl ct) := by rw [cell_of_row _ _ _ _ _ _ hx1]; rfl
    have HS0 := Lib.hid (putL_sz s (op0 8 j))
    obtain ⟨sp, hsp⟩ : ∃ sp, putL s (op0 8 j) = sp := ⟨_, rfl⟩
    rw [hsp] at HS1 HL1 HS0
    have HSZ1 := Lib.hid (show szL sp + wP ps + 2 ≤ 1000000000 by have := HSZ.out; have := HS0.out; omega)
    clear hl1 hb1 hk1 hx1 hsp e0 e1 e2 hML
    go_wp2_with fail
    go_loopw [37] (fun i wr => ∃ (k : Nat) (s2 : Ls), i = .int .i64 k ∧ k ≤ ctl ∧ Hid (Low w0.heap.size M K (.slice pa sheet.length cap) dv dir s2 wr) ∧ Hid (piecesL sheet dir s2 (ps.drop k) = some s1) ∧ Hid (szL s2 + wP (ps.drop k) + 2 ≤ 1000000000) ∧ Hid (Below w0.heap.size W wr) ∧ Hid (Kp M W wr)) (fun i _ => ctl - (intOf i).toNat)
    case atStart => exact ⟨0, sp, rfl, Nat.zero_le _, HL1, HS1, HSZ1, HB1, HK1⟩
    case round =>
      obtain ⟨k, s2, rfl, hk, HL2, HP2, HZ2, HB2, HK2⟩ := hrel
      have HBw := Lib.hid (HB.out.trans HB2.out)
      by_cases hlt : k < ctl
      · have hkl : k < ps.length := by rw [HC.out]; exact hlt
        obtain ⟨b, off, e, hE5⟩ := (RdRow.below (E := InlIs) (fun h hb => InlIs.below h hb) HTV.out HBw.out).at_ hkl
        subst e
        obtain ⟨s3, hs3, hp3⟩ := piecesL_step hkl HP2.out
        have hz3 := pieceL_sz hs3
        have hwd := wP_drop hkl
        obtain ⟨p, hpx⟩ : ∃ p, ps[k] = p := ⟨_, rfl⟩
        rw [hpx] at hE5 hs3 hz3 hwd
        obtain ⟨c0, c1, c2, c3, c4⟩ := hE5
        have hA2 : Below wr.heap.size wr (wr.alloc (.cells #[.int .i64 p.kind, .string p.txt, .string p.name, .int .i64 p.line, .int .i64 p.col] 109)) := (Below.refl _ _).alloc (Nat.le_refl _) _
        have HA2 := Lib.hid hA2
        have HPC := Lib.hid (piece_pro w0 M K (.slice pa sheet.length cap) dv sheet dir HE.out s2 s3 p _ (HBw.out.trans (hA2.mono HBw.out.size)) (HL2.out.below hA2) (by have := HZ2.out; unfold szL at this; omega) (by have := HZ2.out; unfold szL at this; omega) hs3)
        have HZ3 := Lib.hid (show szL s3 + wP (ps.drop (k + 1)) + 2 ≤ 1000000000 by have := HZ2.out; omega)
        have HP3 := Lib.hid hp3
        have HLT := Lib.hid hlt
        have k1 : (k : Int) < ctl := by omega
        clear hA2 hs3 hp3 hz3 hwd hpx hkl
        go_wp2_with fail
        refine HPC.out.mono ?_
        rintro e w3 ⟨rfl, hl3, hb3, hk3⟩
        have HL3 := Lib.hid hl3
        have HB3 := Lib.hid (HB2.out.trans ((HA2.out.mono HBw.out.size).trans hb3))
        have HK3 := Lib.hid (HK2.out.trans ((Kp.below HA2.out).trans hk3))
        clear hl3 hb3 hk3
        go_wp2_with fail
        go_roundw
        case measure => have := HLT.out; simp [intOf]; omega
        case rel => exact ⟨k + 1, s3, by go_num, HLT.out, HL3, HP3, HZ3, HB3, HK3⟩
      · obtain rfl : k = ctl := by omega
        have hs : s2 = s1 := by
          have := HP2.out
          rw [List.drop_eq_nil_of_le (by rw [HC.out]; exact Nat.le_refl _)] at this
          exact Option.some.inj this
        subst hs
        have hz1 : ¬ (k : Int) < k := by omega
        have HPD := Lib.hid (put_bare w0.heap.size M K (.slice pa sheet.length cap) dv dir s2 9 0 wr HL2.out (by have := HZ2.out; unfold szL at this; omega))
        clear hlt
        go_wp2_with fail
        refine HPD.out.mono ?_
        rintro e w3 ⟨rfl, hl3, hb3, hk3⟩
        have HL3 := Lib.hid hl3
        have HB3 := Lib.hid (HB2.out.trans hb3)
        have HK3 := Lib.hid (HK2.out.trans hk3)
        clear hl3 hb3 hk3
        go_wp2_with fail
        go_ret
        exact ⟨rfl, HL3.out, HB3.out, HK3.out⟩
end Go.Proofs.YtdagombmgcnofaaGreatDoor.Ir
