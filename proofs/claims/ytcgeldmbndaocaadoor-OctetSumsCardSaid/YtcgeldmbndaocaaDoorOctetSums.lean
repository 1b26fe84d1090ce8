/- What is proved: OctetSums holds of any three lists of bytes: the sums of three lists of one length, exclusive-or'd, are the sum of the lists, exclusive-or'd. No condition but the form's own. -/
import Derived.Test.YtcgeldmbndaocaaDoorOAwake
import Derived.Test.YtcgeldmbndaocaaDoorOBytes
import Derived.Test.YtcgeldmbndaocaaDoorPost
import Derived.Test.YtcgeldmbndaocaaDoorOLft
import Derived.Test.YtcgeldmbndaocaaDoorCards
import Derived.Test.YtcgeldmbndaocaaDoorTie
import Derived.ProofKit
import Derived.OpenShut
import Derived.Deep.DeepHandedRow
import Derived.WideKeyArgs
import Derived.RegionCalls
import Derived.Laws.Cover1
import Derived.Deep.RegionLaw
namespace Go.Proofs.YtcgeldmbndaocaaDoor.octetSums
open Go.ChangeShapes Go.WideShapes Go.ChangeAt Go.RowKit
open Go.ChangeMaps (open_string shut_string)
set_option linter.unusedVariables false

theorem xor3_len : ∀ (l m n : List UInt8), l.length = m.length → m.length = n.length → (xor3 l m n).length = l.length
  | [], [], [], _, _ => rfl
  | _ :: l, _ :: m, _ :: n, h1, h2 => by
    simp only [xor3, List.length_cons]
    rw [xor3_len l m n (by simpa using h1) (by simpa using h2)]
theorem xor3_snoc : ∀ (l m n : List UInt8) (a b c : UInt8), l.length = m.length → m.length = n.length → xor3 (l ++ [a]) (m ++ [b]) (n ++ [c]) = xor3 l m n ++ [a ^^^ b ^^^ c]
  | [], [], [], _, _, _, _, _ => rfl
  | _ :: l, _ :: m, _ :: n, a, b, c, h1, h2 => by
    simp only [List.cons_append, xor3]
    rw [xor3_snoc l m n a b c (by simpa using h1) (by simpa using h2)]

theorem Rd_at {w : World} {pa : Option Addr} {n cap : Nat} {l : List UInt8} (h : Rd w (.slice pa n cap) l) (j : Nat) (hj : j < l.length) : ∃ b off, pa = some ⟨b, off, none⟩ ∧ w.cell? ⟨b, off + j, none⟩ = some (.int .u8 (l[j].toNat : Int)) := by
  obtain ⟨pa', cap', e, h2, h3, h4⟩ := h
  cases e
  exact h4 j hj

set_option maxRecDepth 100000 in
set_option maxHeartbeats 4000000 in
theorem walk (va : Value) (la : List UInt8) (vb : Value) (lb : List UInt8) (vc : Value) (lc : List UInt8) (W : World) (ha : Rd W va la) (ba : la.length ≤ 140737488351232) (hb : Rd W vb lb) (bb : lb.length ≤ 140737488351232) (hc : Rd W vc lc) (bc : lc.length ≤ 140737488351232) (hT : Tabs W) :
    Calls Tryd.prog 8 #[va, vb, vc] W fun e W' => e = .returned (.bool true) ∧ Below W.heap.size W W' := by
  obtain ⟨i0, hi, hz0, hz1, hz2⟩ := info_parts info5
  have HT := Lib.hid hT
  have RA := Lib.hid ha
  have RB := Lib.hid hb
  have RC := Lib.hid hc
  obtain ⟨pa, ca, rfl, ka, _⟩ := ha.form
  obtain ⟨pb, cb, rfl, kb, _⟩ := hb.form
  obtain ⟨pc, cc, rfl, kc, _⟩ := hc.form
  obtain ⟨n, hn⟩ : ∃ n : Nat, min (min la.length lb.length) lc.length = n := ⟨_, rfl⟩
  have na : n ≤ la.length := by omega
  have nb : n ≤ lb.length := by omega
  have nc : n ≤ lc.length := by omega
  have hmin : ∀ w : World, (Builtin.min_ #[3, 3, 3] 3 #[.int .i64 (la.length : Int), .int .i64 (lb.length : Int), .int .i64 (lc.length : Int)]).run Tryd.prog w = .ok (.int .i64 (n : Int)) w := by
    intro w
    rw [run_min_int3]
    congr 2
    rw [← hn]
    split <;> split <;> omega
  clear hT ha hb hc hn
  go_enter Tryd.func8, Tryd.ntmps8
  go_wp2_with fail
  refine (awake_law _ HT.out).mono ?_
  rintro e w1 ⟨rfl, hb1⟩
  have B1 := Lib.hid hb1
  clear hb1
  go_wp2_with fail
  clear hmin
  go_loopw [8, 9, 20] (fun v _ i wr => ∃ k : Nat, i = .int .i64 k ∧ k ≤ n ∧ wr.ownsRow W.heap.size 5 1 v k (Lib.byteCells (xor3 (la.take k) (lb.take k) (lc.take k))) ∧ Below W.heap.size W wr) (fun _ _ i _ => n - (intOf i).toNat)
  case atStart => exact ⟨0, rfl, Nat.zero_le _, World.ownsRow_nil _ _ _ _, B1.out⟩
  case round =>
    obtain ⟨k, rfl, hk, hown, hbw⟩ := hrel
    have HO := Lib.hid hown
    have HB := Lib.hid hbw
    have SZ := Lib.hid hbw.size
    clear hown hbw
    by_cases hlt : k < n
    · have E3 := Lib.hid (show xor3 (la.take (k + 1)) (lb.take (k + 1)) (lc.take (k + 1)) = xor3 (la.take k) (lb.take k) (lc.take k) ++ [la[k]'(by omega) ^^^ lb[k]'(by omega) ^^^ lc[k]'(by omega)] by
        rw [take_next (show k < la.length by omega), take_next (show k < lb.length by omega), take_next (show k < lc.length by omega)]
        exact xor3_snoc _ _ _ _ _ _ (by simp; omega) (by simp; omega))
      obtain ⟨qa, oa, ea, xa⟩ := Rd_at (RA.out.below HB.out) k (by omega)
      obtain ⟨qb, ob, eb, xb⟩ := Rd_at (RB.out.below HB.out) k (by omega)
      obtain ⟨qc, oc, ec, xc⟩ := Rd_at (RC.out.below HB.out) k (by omega)
      subst ea eb ec
      obtain ⟨x, ex⟩ : ∃ x, la[k]'(by omega) = x := ⟨_, rfl⟩
      obtain ⟨y, ey⟩ : ∃ y, lb[k]'(by omega) = y := ⟨_, rfl⟩
      obtain ⟨z, ez⟩ : ∃ z, lc[k]'(by omega) = z := ⟨_, rfl⟩
      rw [ex] at xa
      rw [ey] at xb
      rw [ez] at xc
      rw [ex, ey, ez] at E3
      have f1 : bits .xor .u8 (x.toNat : Int) (y.toNat : Int) = ((x ^^^ y).toNat : Nat) := by rw [UInt8.toNat_xor]; exact u8_xor_nat _ _ x.toNat_lt y.toNat_lt
      have f2 : bits .xor .u8 ((x ^^^ y).toNat : Int) (z.toNat : Int) = ((x ^^^ y ^^^ z).toNat : Nat) := by rw [UInt8.toNat_xor (x ^^^ y)]; exact u8_xor_nat _ _ (x ^^^ y).toNat_lt z.toNat_lt
      obtain ⟨t, et⟩ : ∃ t, x ^^^ y = t := ⟨_, rfl⟩
      rw [et] at f1 f2 E3
      obtain ⟨u, eu⟩ : ∃ u, t ^^^ z = u := ⟨_, rfl⟩
      rw [eu] at f2 E3
      clear ex ey ez et eu
      have ia : (k : Int) < la.length := by omega
      have ib : (k : Int) < lb.length := by omega
      have ic : (k : Int) < lc.length := by omega
      have L1 := Lib.hid (show k + 1 ≤ maxLen by unfold maxLen; omega)
      have L2 := Lib.hid (show (k + 1) * 1 ≤ 140737488355328 by omega)
      have L3 := Lib.hid (show W.heap.size ≤ (wr.drew.alloc (.cells #[.int .u8 (u.toNat : Int)] 5)).heap.size by have := SZ.out; simp; omega)
      go_wp2_with fail
      go_region_law (refine step_append_lies _ rfl (.tmp 23) (.tmp 38) 22 rfl W.heap.size 5 i0 (.int .u8 0) 1 1 Tryd.underlying22 hi hz0 hz1 hz2 rfl (by decide) _ k _ (by simp [Act.eval]) ((show wr.drew.ownsRow _ _ _ _ _ _ from HO.out).alloc _) ⟨wr.heap.size, 0, none⟩ 1 1 [.int .u8 (u.toNat : Int)] (by simp [Act.eval]) rfl (cells_new _ _ _) (by intro u hu; simp at hu; subst hu; rfl) (by decide) L1.out L2.out L3.out _ rfl ?_; intro g cap w3 hown' hgrow _ _; have HO' := Lib.hid hown'; have HG' := Lib.hid hgrow; clear hown' hgrow)
      all_goals
        go_wp2_with fail
        go_roundw
      all_goals first | (exact ⟨k + 1, by go_num, by omega, (by rw [E3.out, Lib.byteCells_append]; exact HO'.out), ((HB.out.drew).alloc SZ.out _).grown HG'.out L3.out (fun j hj => (HO.out.lt j hj).1)⟩) | (simp [intOf]; done) | (simp [intOf]; omega)
    · obtain rfl : k = n := by omega
      have ia : (k : Int) ≤ ca := by omega
      have ib : (k : Int) ≤ cb := by omega
      have ic : (k : Int) ≤ cc := by omega
      have TA := rd_take (RA.out.below HB.out) na
      have TB := rd_take (RB.out.below HB.out) nb
      have TC := rd_take (RC.out.below HB.out) nc
      have LA : (la.take k).length = k := by rw [List.length_take]; omega
      have LB : (lb.take k).length = k := by rw [List.length_take]; omega
      have LC : (lc.take k).length = k := by rw [List.length_take]; omega
      have T0 := Rd.own HO.out
      have B0 := HB.out
      obtain ⟨A, eA⟩ : ∃ A, la.take k = A := ⟨_, rfl⟩
      obtain ⟨B, eB⟩ : ∃ B, lb.take k = B := ⟨_, rfl⟩
      obtain ⟨C, eC⟩ : ∃ C, lc.take k = C := ⟨_, rfl⟩
      rw [eA] at TA LA T0
      rw [eB] at TB LB T0
      rw [eC] at TC LC T0
      have XL := Lib.hid (show (xor3 A B C).length ≤ 140737488355328 by rw [xor3_len A B C (by omega) (by omega)]; omega)
      have LA' := Lib.hid (show A.length ≤ 140737488355328 by omega)
      have LB' := Lib.hid (show B.length ≤ 140737488355328 by omega)
      have LC' := Lib.hid (show C.length ≤ 140737488355328 by omega)
      have hx := crc_xor3 A B C (by omega) (by omega)
      obtain ⟨X, eX⟩ : ∃ X, xor3 A B C = X := ⟨_, rfl⟩
      rw [eX] at T0 XL hx
      have g1 : bits .xor .u32 (crc A : Nat) (crc B : Nat) = (crc A ^^^ crc B : Nat) := u32_xor_nat _ _ (crc_lt A) (crc_lt B)
      have g2 : bits .xor .u32 (crc A ^^^ crc B : Nat) (crc C : Nat) = (crc X : Nat) := by rw [hx]; exact u32_xor_nat _ _ (Nat.xor_lt_two_pow (n := 32) (crc_lt A) (crc_lt B)) (crc_lt C)
      clear LA LB LC eA eB eC eX hx HO HB RA RB RC SZ na nb nc ka kb kc hlt
      obtain ⟨p0, c0, e0, _⟩ := T0.form
      subst e0
      go_wp2_with fail
      have DD : Below wr.heap.size wr wr.drew := (Below.refl _ _).drew
      replace TA := TA.below DD
      replace TB := TB.below DD
      replace TC := TC.below DD
      replace T0 := T0.below DD
      replace B0 := B0.drew
      clear DD
      go_region_with (first
        | (go_at_call 11; refine (twin_pro _ _ _ (by assumption) (by first | exact LA'.out | exact LB'.out | exact LC'.out)).mono ?_; rintro e w9 ⟨v9, rfl, ho, hb⟩; replace TA := TA.below hb; replace TB := TB.below hb; replace TC := TC.below hb; replace T0 := T0.below hb; have T9 := Rd.own ho; have hb9 := hb.size; replace B0 := B0.trans (hb.mono B0.size); clear ho hb hb9)
        | (go_at_call 10; refine (sum_pro _ _ _ (by assumption) (by first | exact LA'.out | exact LB'.out | exact LC'.out | exact XL.out)).mono ?_; rintro e w9 ⟨rfl, rfl⟩))
      all_goals
        go_wp2_with fail
        go_ret
        exact ⟨by rfl, B0⟩

set_option maxRecDepth 100000 in
theorem contract (H : Type) (enc : TypeId × Value → H) (W : World) (base : Nat) (args : Array Value) (ds gs : List (DataW H)) (before : List MemPlace)
    (hval : ∀ (j : Nat) t v, Tryd.f8.params[j]? = some t → args[j]? = some v → Value.okWide Tryd.prog W .any base t v)
    (hW : DataW.Whole enc Tryd.prog Tryd.f8.params.toList Rows.octetSumsSpec.vars false W args.toList ds gs before) (hsz0 : (DataW.weightsEach Tryd.prog (Tryd.f8.params.toList ++ Rows.octetSumsSpec.plain.varTypes Tryd.prog) (ds ++ gs)).all (· ≤ reachBytes) = true) (hT : Tabs W) :
    Calls Tryd.prog 8 args W fun e W' => ∃ v, e = .returned v ∧ Rows.octetSumsSpec.post enc Tryd.prog Tryd.f8 false true false false W args v W' := by
  have hW' := hW
  obtain ⟨p, q, hA0, hV, rfl, hfz, hnd⟩ := hW
  have hA : DataW.TrodAll enc Tryd.prog W 0 (fun _ => true) true Tryd.f8.params.toList args.toList ds p := hA0
  rw [Tryd.params8] at hA hval
  have hsz := hsz0
  rw [Tryd.params8] at hsz
  clear hsz0
  obtain ⟨v0, vs0, d0, ds0, p0, q0, hargs, rfl, rfl, h0, r0⟩ := trodAll_cons hA
  obtain ⟨v1, vs1, d1, ds1, p1, q1, rfl, rfl, rfl, h1, r1⟩ := trodAll_cons r0
  obtain ⟨v2, vs2, d2, ds2, p2, q2, rfl, rfl, rfl, h2, r2⟩ := trodAll_cons r1
  obtain ⟨rfl, rfl, rfl⟩ := trodAll_nil r2
  obtain rfl : args = #[v0, v1, v2] := by cases args; simp_all
  obtain ⟨rfl, rfl⟩ := trodVars_none hV
  have hk0 := h0
  obtain ⟨l0, hR0, hD0⟩ := bytes_read h0 (okWide_slice Tryd.underlying22 (hval 0 22 v0 rfl rfl))
  have hk1 := h1
  obtain ⟨l1, hR1, hD1⟩ := bytes_read h1 (okWide_slice Tryd.underlying22 (hval 1 22 v1 rfl rfl))
  have hk2 := h2
  obtain ⟨l2, hR2, hD2⟩ := bytes_read h2 (okWide_slice Tryd.underlying22 (hval 2 22 v2 rfl rfl))
  clear hA0
  have size0 : l0.length ≤ 140737488351232 := bytes_reach hsz (j := 0) rfl rfl hD0
  have size1 : l1.length ≤ 140737488351232 := bytes_reach hsz (j := 1) rfl rfl hD1
  have size2 : l2.length ≤ 140737488351232 := bytes_reach hsz (j := 2) rfl rfl hD2
  refine (walk v0 l0 v1 l1 v2 l2 W hR0 size0 hR1 size1 hR2 size2 hT).mono fun e W' ⟨he, hg⟩ => ?_
  subst he
  have hlt := hW'.lt
  exact ⟨_, rfl, post_of_below (pa := (p0 ++ (p1 ++ (p2 ++ [])))) (pv := []) hW' (fun _ _ _ => trodAll_cons_mk (shut_bool Tryd.underlying4 _) trodAll_mk0) (fun sp hsp => (trodAll_cons_mk (Go.WideElems.Trod_stays (by kernel_rfl) (by kernel_rfl) (of_decide_eq_true (by kernel_rfl)) hk0 (fun p hp => hg.same (hlt p (by simp [hp]))) (fun p hp => hsp p (by simp [hp]))) (trodAll_cons_mk (Go.WideElems.Trod_stays (by kernel_rfl) (by kernel_rfl) (of_decide_eq_true (by kernel_rfl)) hk1 (fun p hp => hg.same (hlt p (by simp [hp]))) (fun p hp => hsp p (by simp [hp]))) (trodAll_cons_mk (Go.WideElems.Trod_stays (by kernel_rfl) (by kernel_rfl) (of_decide_eq_true (by kernel_rfl)) hk2 (fun p hp => hg.same (hlt p (by simp [hp]))) (fun p hp => hsp p (by simp [hp]))) trodAll_mk0)))) (fun _ _ => rfl) rfl hg (ok_one (by kernel_rfl) rfl (okWide_bool_mk Tryd.underlying4 _))⟩

theorem witness_row (os : Os) {H : Type} (enc : TypeId × Value → H) :
    (OpenSpec.ofChange Rows.octetSumsSpec).preRow enc Tryd.prog Tryd.f8 Rows.octetSumsRow.domain false Rows.octetSumsRow.laid ((laidWorld os).forCall (fun _ _ => 0) ⟨#[], #[.slice none 0 0, .slice none 0 0, .slice none 0 0], []⟩).memory #[.slice none 0 0, .slice none 0 0, .slice none 0 0] := by
  have hw : (DataW.whole enc Tryd.prog ((laidWorld os).forCall (fun _ _ => 0) ⟨#[], #[.slice none 0 0, .slice none 0 0, .slice none 0 0], []⟩).memory Tryd.f8.params.toList Rows.octetSumsSpec.vars false (#[.slice none 0 0, .slice none 0 0, .slice none 0 0] : Array Value).toList 8).map (fun x => (x.1, x.2.1)) =
      some ([.nil, .nil, .nil], []) := by kernel_rfl
  obtain ⟨⟨x1, x2, x3⟩, hx, hx1⟩ := Option.map_eq_some_iff.1 hw
  simp only [Prod.mk.injEq] at hx1
  obtain ⟨rfl, rfl⟩ := hx1
  exact OpenSpec.preRow_of_cond 8 hx (by kernel_rfl) (fun k hk => by cases hk) (by kernel_rfl) (laid_met os _)

set_option maxRecDepth 100000 in
theorem lifted (os : Os) (started : os.Started) (H : Type) (enc : TypeId × Value → H) (F : Stop.Interp) :
    ReturnsInHanded {} Tryd.checked os 8 .any ((OpenSpec.ofChange Rows.octetSumsSpec).preRow enc Tryd.prog Tryd.f8 Rows.octetSumsRow.domain false Rows.octetSumsRow.laid) (((OpenSpec.ofChange Rows.octetSumsSpec).at F).post enc Tryd.prog Tryd.f8 false true false false) := by
  refine returnsInHanded_of_row (C := Tryd.checked) (s := (OpenSpec.ofChange Rows.octetSumsSpec)) own started (by kernel_rfl) Tryd.func8
    (witness_row_at (enc := enc) (C := Tryd.checked) false (laidWorld os) #[.slice none 0 0, .slice none 0 0, .slice none 0 0] rfl (by kernel_rfl) (by kernel_rfl) (by kernel_rfl) (witness_row os enc)) ?_
  intro W base args ds gs before hval hW _ hcond hsz hL hS _
  exact contract H enc W base args ds gs before hval hW hsz (tabs_of hL)

theorem row : Rows.OctetSumsSaid :=
  OpenClaim.holds_of_cond 8 Tryd.f8 rfl rfl rfl rfl rfl rfl rfl ⟨rfl, rfl, rfl, rfl, rfl⟩ rfl rfl rfl rfl rfl (by kernel_rfl) Tryd.func8 (by kernel_rfl)
    (of_decide_eq_true (by kernel_rfl)) (by unfold Func.isWrapper; first | (rw [if_pos (by decide +kernel)]; kernel_rfl) | (rw [if_neg (by decide +kernel)]; exact ⟨rfl, rfl⟩))
    (fun os started H enc _ F => by rw [OpenClaim.pre_eq_preRow]; exact lifted os started H enc F)

theorem plain (f : FuncId) (fn : Func) (hf : Tryd.pinned.checked.prog.funcNamed Rows.octetSumsRow.func = some f) (hfn : Tryd.pinned.checked.prog.funcs[f]? = some fn) :
    false = Tryd.pinned.checked.prog.looks [] ∧ ∀ (j : Nat) t, fn.params[j]? = some t → Tryd.pinned.checked.prog.wantsStandIn t = false := by
  obtain rfl : f = 8 := Option.some.inj ((show Tryd.prog.funcNamed Rows.octetSumsRow.func = some 8 by kernel_rfl).symm.trans hf) |>.symm
  obtain rfl : fn = Tryd.f8 := (Option.some.inj (Tryd.func8.symm.trans hfn)).symm
  refine ⟨by kernel_rfl, fun j t ht => ?_⟩
  rw [Tryd.params8] at ht
  have hm : t ∈ [22, 22, 22] := by simpa using Array.mem_of_getElem? ht
  simp only [List.mem_cons, List.mem_nil_iff, or_false] at hm
  have hm1 : t = 22 := by first | exact hm | (rcases hm with h | h | h <;> exact h)
  subst hm1
  exact (show Tryd.prog.wantsStandIn 22 = false by kernel_rfl)

theorem proved : Rows.OctetSumsCardSaid :=
  Claim7.holds_tied_plain_at .later [] _ _ _ _ row (fun _ h => by cases h) (by kernel_rfl) (fun _ h => by cases h) octetSums_row_tie rfl ⟨rfl, rfl⟩ (by kernel_rfl) rfl plain (by kernel_rfl)
end Go.Proofs.YtcgeldmbndaocaaDoor.octetSums
