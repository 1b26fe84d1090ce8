/- What is proved: OctetBurst holds of any bytes, any place and any four bytes: bytes of which some are changed, all among four side by side, have another sum. No condition but the form's own. -/
import Derived.Test.YtcgeldmbndaocaaDoorOAwake
import Derived.Test.YtcgeldmbndaocaaDoorOBytes
import Derived.Test.YtcgeldmbndaocaaDoorPost
import Derived.Test.YtcgeldmbndaocaaDoorOLft
import Derived.Test.YtcgeldmbndaocaaDoorCards
import Derived.Test.YtcgeldmbndaocaaDoorTie
import Derived.ProofKit
import Derived.OpenShut
import Derived.Deep.DeepHandedRow
import Derived.WideKeyArgs
import Derived.Laws.IdiomArrays
namespace Go.Proofs.YtcgeldmbndaocaaDoor.octetBurst
open Go.ChangeShapes Go.WideShapes Go.ChangeAt Go.RowKit
open Go.ChangeMaps (open_string shut_string)
set_option linter.unusedVariables false

theorem byte_of {n : Int} (h : (Lit.int .u8 n).wf = true) : ∃ x : UInt8, n = (x.toNat : Int) := by
  simp [Lit.wf, IntKind.min, IntKind.max, IntKind.signed, IntKind.bits] at h
  exact ⟨UInt8.ofNat n.toNat, by rw [u8_of (by omega)]; omega⟩
theorem four_read {H : Type} {enc : TypeId × Value → H} {W : World} {base : Nat} {v : Value} {d : DataW H} {p : List MemPlace} (h : DataW.Trod enc Tryd.prog W 0 (fun _ => true) true 67 v d p) (hv : Value.okWide Tryd.prog W .any base 67 v) :
    ∃ x0 x1 x2 x3 : UInt8, v = .agg #[.int .u8 x0.toNat, .int .u8 x1.toNat, .int .u8 x2.toNat, .int .u8 x3.toNat] := by
  obtain ⟨cs, rfl, hsz⟩ : ∃ cs, v = .agg cs ∧ cs.size = 4 := by
    simp only [Value.okWide, Tryd.underlying67] at hv
    obtain ⟨cs, rfl, hs, _⟩ := hv
    exact ⟨cs, rfl, hs.trans (by kernel_rfl)⟩
  obtain ⟨n, hn⟩ := h
  obtain ⟨c0, c1, c2, c3, rfl⟩ : ∃ c0 c1 c2 c3, cs = #[c0, c1, c2, c3] := by
    rcases cs with ⟨l⟩
    match l, hsz with
    | [a, b, c, d], _ => exact ⟨a, b, c, d, rfl⟩
  obtain ⟨y0, y1, y2, y3, m, _, h0, h1, h2, h3⟩ := trod_array4 Tryd.underlying67 (by kernel_rfl) hn
  obtain ⟨n0, e0, _, w0⟩ := DataW.trod_int Tryd.underlying5 h0
  obtain ⟨n1, e1, _, w1⟩ := DataW.trod_int Tryd.underlying5 h1
  obtain ⟨n2, e2, _, w2⟩ := DataW.trod_int Tryd.underlying5 h2
  obtain ⟨n3, e3, _, w3⟩ := DataW.trod_int Tryd.underlying5 h3
  obtain ⟨x0, rfl⟩ := byte_of w0
  obtain ⟨x1, rfl⟩ := byte_of w1
  obtain ⟨x2, rfl⟩ := byte_of w2
  obtain ⟨x3, rfl⟩ := byte_of w3
  simp at e0 e1 e2 e3
  exact ⟨x0, x1, x2, x3, by rw [e0, e1, e2, e3]⟩

theorem place_of (a : Int) (n : Nat) (h1 : 4 ≤ n) (h2 : n ≤ 140737488351232) : ∃ k : Nat, (wrap64 (wrap64 (a.tmod ((n : Int) - 3) + n) - 3)).tmod ((n : Int) - 3) = k ∧ k + 4 ≤ n := by
  have m1 : a.tmod ((n : Int) - 3) < n - 3 := Int.tmod_lt_of_pos _ (by omega)
  have m2 : -((n : Int) - 3) < a.tmod ((n : Int) - 3) := Int.lt_tmod_of_pos _ (by omega)
  obtain ⟨r, er⟩ : ∃ r, a.tmod ((n : Int) - 3) = r := ⟨_, rfl⟩
  rw [er] at m1 m2 ⊢
  have w1 : wrap64 (r + n) = r + n := by unfold wrap64; omega
  have w2 : wrap64 (r + n - 3) = r + n - 3 := by unfold wrap64; omega
  rw [w1, w2]
  have m3 : (r + n - 3).tmod ((n : Int) - 3) < n - 3 := Int.tmod_lt_of_pos _ (by omega)
  have m4 : 0 ≤ (r + n - 3).tmod ((n : Int) - 3) := Int.tmod_nonneg _ (by omega)
  exact ⟨((r + n - 3).tmod ((n : Int) - 3)).toNat, by omega, by omega⟩
theorem eq_four (a b c d : Int) (w : World) : (Op.equalIn 10000 67 (.agg #[.int .u8 a, .int .u8 b, .int .u8 c, .int .u8 d]) (.agg #[.int .u8 0, .int .u8 0, .int .u8 0, .int .u8 0])).run Tryd.prog w = .ok (a == 0 && b == 0 && c == 0 && d == 0) w := by
  have u3 := Tryd.underlying5
  have a3 := Tryd.isAgg5
  have z3 := Tryd.sizeOf5
  rw [show (10000 : Nat) = 9999 + 1 from rfl, Op.equalIn]
  simp only [Sem.run_bind, run_underlying Tryd.underlying67, Result.andThen_ok]
  simp only [Std.Legacy.Range.forIn_eq_forIn_range', Std.Legacy.Range.size, Nat.sub_zero, Nat.add_sub_cancel, Nat.div_one, List.range'_succ, List.range'_zero, List.forIn_cons, List.forIn_nil]
  go_simp
  by_cases h1 : a = 0 <;> by_cases h2 : b = 0 <;> by_cases h3 : c = 0 <;> by_cases h4 : d = 0 <;> simp [h1, h2, h3, h4]
theorem four_cells {w : World} {g : Nat} {t : TypeId} {a b c d : Value} (h : w.heap[g]? = some (.cells #[a, b, c, d] t)) : w.cell? ⟨g, 0, none⟩ = some a ∧ w.cell? ⟨g, 1, none⟩ = some b ∧ w.cell? ⟨g, 2, none⟩ = some c ∧ w.cell? ⟨g, 3, none⟩ = some d := by
  simp [World.cell?, h]
/-- The bytes behind so many rounds. -/
def mixn (l : List UInt8) (k : Nat) (x : List UInt8) : Nat → List UInt8
  | 0 => l
  | i + 1 => (mixn l k x i).set (k + i) ((mixn l k x i).getD (k + i) 0 ^^^ x.getD i 0)
theorem mixn_len (l : List UInt8) (k : Nat) (x : List UInt8) : ∀ i, (mixn l k x i).length = l.length
  | 0 => rfl
  | i + 1 => by rw [mixn, List.length_set, mixn_len l k x i]
theorem mixn4 (pre post : List UInt8) (a b c d x y z u : UInt8) : mixn (pre ++ a :: b :: c :: d :: post) pre.length [x, y, z, u] 4 = pre ++ (a ^^^ x) :: (b ^^^ y) :: (c ^^^ z) :: (d ^^^ u) :: post := by
  have g : ∀ (m : List UInt8) (i : Nat), (pre ++ m).getD (pre.length + i) 0 = m.getD i 0 := by
    intro m i; simp [List.getD, List.getElem?_append_right]
  have s : ∀ (m : List UInt8) (i : Nat) (v : UInt8), (pre ++ m).set (pre.length + i) v = pre ++ m.set i v := by
    intro m i v; rw [List.set_append_right _ _ (by omega)]; congr 2; omega
  simp only [mixn, g, s]
  rfl
theorem burst4 (l : List UInt8) (k : Nat) (hk : k + 4 ≤ l.length) (x y z u : UInt8) (h : ¬ (x = 0 ∧ y = 0 ∧ z = 0 ∧ u = 0)) : crc (mixn l k [x, y, z, u] 4) ≠ crc l := by
  obtain ⟨pre, r, rfl, hp⟩ : ∃ pre r, l = pre ++ r ∧ pre.length = k := ⟨l.take k, l.drop k, by simp, by rw [List.length_take]; omega⟩
  subst hp
  rw [List.length_append] at hk
  match r, hk with
  | a :: b :: c :: d :: post, _ => rw [mixn4]; exact burst pre post a b c d x y z u h
  | [], hk => simp at hk; omega
  | [_], hk => simp at hk
  | [_, _], hk => simp at hk
  | [_, _, _], hk => simp at hk

set_option maxRecDepth 100000 in
set_option maxHeartbeats 4000000 in
theorem walk (v : Value) (l : List UInt8) (at_ : Int) (x0 x1 x2 x3 : UInt8) (W : World) (hv : Rd W v l) (bl : l.length ≤ 140737488351232) (ha : (Lit.int .i64 at_).wf = true) (hT : Tabs W) :
    Calls Tryd.prog 7 #[v, .int .i64 at_, .agg #[.int .u8 x0.toNat, .int .u8 x1.toNat, .int .u8 x2.toNat, .int .u8 x3.toNat]] W fun e W' => e = .returned (.bool true) ∧ Below W.heap.size W W' := by
  have BX := Lib.hid ((Below.refl W.heap.size W).alloc (Nat.le_refl _) (.cells #[.int .u8 x0.toNat, .int .u8 x1.toNat, .int .u8 x2.toNat, .int .u8 x3.toNat] 67))
  have HT := Lib.hid (hT.at BX.out)
  have RV := Lib.hid (hv.below BX.out)
  have ha2 : -9223372036854775808 ≤ at_ ∧ at_ ≤ 9223372036854775807 := by simpa [Lit.wf, IntKind.min, IntKind.max, IntKind.signed, IntKind.bits] using ha
  obtain ⟨pa, ca, rfl, ka, _⟩ := hv.form
  clear hT hv ha
  have S0 := Lib.hid (show W.heap.size < (W.alloc (.cells #[.int .u8 x0.toNat, .int .u8 x1.toNat, .int .u8 x2.toNat, .int .u8 x3.toNat] 67)).heap.size by simp)
  have HX0 := Lib.hid (heap_alloc_new W (.cells #[.int .u8 x0.toNat, .int .u8 x1.toNat, .int .u8 x2.toNat, .int .u8 x3.toNat] 67))
  by_cases h4 : l.length < 4
  · have h5 : (l.length : Int) < 4 := by omega
    go_enter Tryd.func7, Tryd.ntmps7
    go_wp2_with fail
    refine (awake_law _ HT.out).mono ?_
    rintro e w1 ⟨rfl, hb1⟩
    have B1 := Lib.hid hb1
    clear hb1
    go_wp2_with fail
    go_ret
    exact ⟨rfl, BX.out.trans (B1.out.mono BX.out.size)⟩
  · go_enter Tryd.func7, Tryd.ntmps7
    go_wp2_with fail
    refine (awake_law _ HT.out).mono ?_
    rintro e w1 ⟨rfl, hb1⟩
    have HX := Lib.hid ((hb1.block _ S0.out).trans HX0.out)
    have BB := Lib.hid (BX.out.trans (hb1.mono BX.out.size))
    have R1 := Lib.hid (RV.out.below hb1)
    have S1 := Lib.hid (show W.heap.size < w1.heap.size by have := hb1.size; have := S0.out; omega)
    have cx := four_cells HX.out
    obtain ⟨c0, c1, c2, c3⟩ := cx
    clear hb1 HX0 S0 RV HT BX
    have h5 : ¬ (l.length : Int) < 4 := by omega
    have heq := eq_four x0.toNat x1.toNat x2.toNat x3.toNat w1
    by_cases hz : x0 = 0 ∧ x1 = 0 ∧ x2 = 0 ∧ x3 = 0
    · obtain ⟨rfl, rfl, rfl, rfl⟩ := hz
      have heq2 : (Op.equalIn 10000 67 (.agg #[.int .u8 0, .int .u8 0, .int .u8 0, .int .u8 0]) (.agg #[.int .u8 0, .int .u8 0, .int .u8 0, .int .u8 0])).run Tryd.prog w1 = .ok true w1 := heq
      clear heq
      go_wp2_with fail
      go_ret
      exact ⟨rfl, BB.out⟩
    · have HZ := Lib.hid hz
      have e0 : (((x0.toNat : Int) == 0 && (x1.toNat : Int) == 0 && (x2.toNat : Int) == 0 && (x3.toNat : Int) == 0) : Bool) = false := by
        rw [Bool.eq_false_iff]
        intro h
        apply hz
        simp only [Bool.and_eq_true, beq_iff_eq] at h
        refine ⟨UInt8.toNat_inj.1 ?_, UInt8.toNat_inj.1 ?_, UInt8.toNat_inj.1 ?_, UInt8.toNat_inj.1 ?_⟩ <;> (show _ = 0; omega)
      rw [e0] at heq
      clear hz e0
      obtain ⟨k, ek, hk⟩ := place_of at_ l.length (by omega) bl
      have EK := Lib.hid ek
      have L47 := Lib.hid (show l.length ≤ 140737488355328 by omega)
      clear ek
      go_wp2_with fail
      rw [EK.out]
      refine (twin_pro l _ _ R1.out L47.out).mono ?_
      rintro e w2 ⟨v7, rfl, ho, hb⟩
      obtain ⟨g, cap, rfl, hg, hgl⟩ := World.ownsRow.form ho (by omega)
      have HO := Lib.hid ho
      have HX2 := Lib.hid ((hb.block _ S1.out).trans HX.out)
      have BB2 := Lib.hid (BB.out.trans (hb.mono BB.out.size))
      have R2 := Lib.hid (R1.out.below hb)
      have SG := Lib.hid hg
      have HB2 := Lib.hid hb
      have SW := Lib.hid (show w1.heap.size ≤ w2.heap.size from hb.size)
      clear ho hb hg hgl heq c0 c1 c2 c3
      go_wp2_with fail
      go_loopw [8, 34] (fun _ i wr => ∃ m : Nat, i = .int .i64 m ∧ m ≤ 4 ∧ wr.ownsRow w1.heap.size 5 1 (.slice (some ⟨g, 0, none⟩) l.length cap) l.length (Lib.byteCells (mixn l k [x0, x1, x2, x3] m)) ∧ Below w1.heap.size w1 wr) (fun _ i _ => 4 - (intOf i).toNat)
      case atStart => exact ⟨0, rfl, by omega, HO.out, HB2.out⟩
      case round =>
        obtain ⟨m, rfl, hm, hown, hbw⟩ := hrel
        have HM := Lib.hid hown
        have HB := Lib.hid hbw
        clear hown hbw
        by_cases hlt : m < 4
        · have hml := mixn_len l k [x0, x1, x2, x3] m
          have cm := (World.ownsRow.cellAt HM.out (k + m) (by omega))
          have fm := World.ownsRow.frozenAt HM.out (k + m)
          have ST := Lib.hid (World.ownsRow.stored HM.out (k + m))
          have hcb : (Lib.byteCells (mixn l k [x0, x1, x2, x3] m))[k + m]? = some (.int .u8 ((mixn l k [x0, x1, x2, x3] m).getD (k + m) 0).toNat) := by
            simp [Lib.byteCells, List.getD, List.getElem?_eq_getElem (show k + m < (mixn l k [x0, x1, x2, x3] m).length by omega)]
          rw [hcb] at cm
          have HXR := (HB.out.block _ S1.out).trans HX.out
          obtain ⟨d0, d1, d2, d3⟩ := four_cells HXR
          have dm : wr.cell? ⟨W.heap.size, m, none⟩ = some (.int .u8 (([x0, x1, x2, x3] : List UInt8).getD m 0).toNat) := by
            rcases m with _ | _ | _ | _ | m
            · exact d0
            · exact d1
            · exact d2
            · exact d3
            · omega
          have MN := Lib.hid (show mixn l k [x0, x1, x2, x3] (m + 1) = (mixn l k [x0, x1, x2, x3] m).set (k + m) ((mixn l k [x0, x1, x2, x3] m).getD (k + m) 0 ^^^ ([x0, x1, x2, x3] : List UInt8).getD m 0) from rfl)
          obtain ⟨M, eM⟩ : ∃ M, mixn l k [x0, x1, x2, x3] m = M := ⟨_, rfl⟩
          rw [eM] at HM cm ST hml MN
          obtain ⟨p, ep⟩ : ∃ p, M.getD (k + m) 0 = p := ⟨_, rfl⟩
          obtain ⟨q, eq⟩ : ∃ q, ([x0, x1, x2, x3] : List UInt8).getD m 0 = q := ⟨_, rfl⟩
          rw [ep] at cm MN
          rw [eq] at dm MN
          have f1 : bits .xor .u8 (p.toNat : Int) (q.toNat : Int) = ((p ^^^ q).toNat : Nat) := by rw [UInt8.toNat_xor]; exact u8_xor_nat _ _ p.toNat_lt q.toNat_lt
          obtain ⟨t, et⟩ : ∃ t, p ^^^ q = t := ⟨_, rfl⟩
          rw [et] at f1 MN
          obtain ⟨j, ej⟩ : ∃ j, k + m = j := ⟨_, rfl⟩
          have hj : (k : Int) + m = j := by omega
          rw [ej] at cm fm ST MN
          have i1 : (j : Int) < l.length := by omega
          have i2 : (m : Int) < 4 := by omega
          clear hml hcb HXR d0 d1 d2 d3 eM ep eq et ej
          go_wp2_with fail
          go_region
          go_wp2_with fail
          go_roundw
          case rel =>
            refine ⟨m + 1, by go_num, by omega, ?_, ((HB.out.setCell (p := ⟨g, j, none⟩) SG.out _).drew)⟩
            rw [MN.out]
            have h := (ST.out (.int .u8 t.toNat)).1.drew
            rw [show (Lib.byteCells M).set j (.int .u8 t.toNat) = Lib.byteCells (M.set j t) by simp [Lib.byteCells, List.map_set]] at h
            exact h
          case measure => simp [intOf]; omega
        · obtain rfl : m = 4 := by omega
          have hml := mixn_len l k [x0, x1, x2, x3] 4
          have NE := burst4 l k hk x0 x1 x2 x3 HZ.out
          obtain ⟨M, eM⟩ : ∃ M, mixn l k [x0, x1, x2, x3] 4 = M := ⟨_, rfl⟩
          rw [eM] at HM hml NE
          have NE2 : (((crc M : Nat) : Int) != (crc l : Nat)) = true := by simp; omega
          have RM := Lib.hid (Rd.own HM.out)
          have LM := Lib.hid (show M.length ≤ 140737488355328 by omega)
          have RL := Lib.hid (R1.out.below HB.out)
          have BW := Lib.hid (BB.out.trans (HB.out.mono BB.out.size))
          clear hml NE eM
          go_wp2_with fail
          refine (sum_pro M _ _ RM.out LM.out).mono ?_
          rintro e w3 ⟨rfl, rfl⟩
          go_wp2_with fail
          refine (twin_pro l _ _ RL.out L47.out).mono ?_
          rintro e w4 ⟨v4, rfl, ho, hb⟩
          have R4 := Lib.hid (Rd.own ho)
          have B4 := Lib.hid (BW.out.trans (hb.mono BW.out.size))
          clear ho hb
          go_wp2_with fail
          refine (sum_pro l _ _ R4.out L47.out).mono ?_
          rintro e w5 ⟨rfl, rfl⟩
          go_wp2_with fail
          go_ret
          exact ⟨rfl, B4.out⟩

set_option maxRecDepth 100000 in
theorem contract (H : Type) (enc : TypeId × Value → H) (W : World) (base : Nat) (args : Array Value) (ds gs : List (DataW H)) (before : List MemPlace)
    (hval : ∀ (j : Nat) t v, Tryd.f7.params[j]? = some t → args[j]? = some v → Value.okWide Tryd.prog W .any base t v)
    (hW : DataW.Whole enc Tryd.prog Tryd.f7.params.toList Rows.octetBurstSpec.vars false W args.toList ds gs before) (hsz0 : (DataW.weightsEach Tryd.prog (Tryd.f7.params.toList ++ Rows.octetBurstSpec.plain.varTypes Tryd.prog) (ds ++ gs)).all (· ≤ reachBytes) = true) (hT : Tabs W) :
    Calls Tryd.prog 7 args W fun e W' => ∃ v, e = .returned v ∧ Rows.octetBurstSpec.post enc Tryd.prog Tryd.f7 false true false false W args v W' := by
  have hW' := hW
  obtain ⟨p, q, hA0, hV, rfl, hfz, hnd⟩ := hW
  have hA : DataW.TrodAll enc Tryd.prog W 0 (fun _ => true) true Tryd.f7.params.toList args.toList ds p := hA0
  rw [Tryd.params7] at hA hval
  have hsz := hsz0
  rw [Tryd.params7] at hsz
  clear hsz0
  obtain ⟨v0, vs0, d0, ds0, p0, q0, hargs, rfl, rfl, h0, r0⟩ := trodAll_cons hA
  obtain ⟨v1, vs1, d1, ds1, p1, q1, rfl, rfl, rfl, h1, r1⟩ := trodAll_cons r0
  obtain ⟨v2, vs2, d2, ds2, p2, q2, rfl, rfl, rfl, h2, r2⟩ := trodAll_cons r1
  obtain ⟨rfl, rfl, rfl⟩ := trodAll_nil r2
  obtain rfl : args = #[v0, v1, v2] := by cases args; simp_all
  obtain ⟨rfl, rfl⟩ := trodVars_none hV
  have hk0 := h0
  obtain ⟨l0, hR0, hD0⟩ := bytes_read h0 (okWide_slice Tryd.underlying22 (hval 0 22 v0 rfl rfl))
  obtain ⟨a1, rfl, rfl, rfl, w1⟩ := open_int Tryd.underlying3 (hval 1 3 v1 rfl rfl) h1
  have hk2 := h2
  obtain ⟨b2_0, b2_1, b2_2, b2_3, rfl⟩ := four_read h2 (hval 2 67 v2 rfl rfl)
  clear hA0
  have size0 : l0.length ≤ 140737488351232 := bytes_reach hsz (j := 0) rfl rfl hD0
  refine (walk v0 l0 a1 b2_0 b2_1 b2_2 b2_3 W hR0 size0 w1 hT).mono fun e W' ⟨he, hg⟩ => ?_
  subst he
  have hlt := hW'.lt
  exact ⟨_, rfl, post_of_below (pa := (p0 ++ ([] ++ (p2 ++ [])))) (pv := []) hW' (fun _ _ _ => trodAll_cons_mk (shut_bool Tryd.underlying4 _) trodAll_mk0) (fun sp hsp => (trodAll_cons_mk (Go.WideElems.Trod_stays (by kernel_rfl) (by kernel_rfl) (of_decide_eq_true (by kernel_rfl)) hk0 (fun p hp => hg.same (hlt p (by simp [hp]))) (fun p hp => hsp p (by simp [hp]))) (trodAll_cons_mk (shut_int Tryd.underlying3 w1) (trodAll_cons_mk (Go.WideElems.Trod_stays (by kernel_rfl) (by kernel_rfl) (of_decide_eq_true (by kernel_rfl)) hk2 (fun p hp => hg.same (hlt p (by simp [hp]))) (fun p hp => hsp p (by simp [hp]))) trodAll_mk0)))) (fun _ _ => rfl) rfl hg (ok_one (by kernel_rfl) rfl (okWide_bool_mk Tryd.underlying4 _))⟩

theorem witness_row (os : Os) {H : Type} (enc : TypeId × Value → H) :
    (OpenSpec.ofChange Rows.octetBurstSpec).preRow enc Tryd.prog Tryd.f7 Rows.octetBurstRow.domain false Rows.octetBurstRow.laid ((laidWorld os).forCall (fun _ _ => 0) ⟨#[], #[.slice none 0 0, .int .i64 0, .agg #[.int .u8 0, .int .u8 0, .int .u8 0, .int .u8 0]], []⟩).memory #[.slice none 0 0, .int .i64 0, .agg #[.int .u8 0, .int .u8 0, .int .u8 0, .int .u8 0]] := by
  have hw : (DataW.whole enc Tryd.prog ((laidWorld os).forCall (fun _ _ => 0) ⟨#[], #[.slice none 0 0, .int .i64 0, .agg #[.int .u8 0, .int .u8 0, .int .u8 0, .int .u8 0]], []⟩).memory Tryd.f7.params.toList Rows.octetBurstSpec.vars false (#[.slice none 0 0, .int .i64 0, .agg #[.int .u8 0, .int .u8 0, .int .u8 0, .int .u8 0]] : Array Value).toList 8).map (fun x => (x.1, x.2.1)) =
      some ([.nil, .lit (.int .i64 0), .agg [.lit (.int .u8 0), .lit (.int .u8 0), .lit (.int .u8 0), .lit (.int .u8 0)]], []) := by kernel_rfl
  obtain ⟨⟨x1, x2, x3⟩, hx, hx1⟩ := Option.map_eq_some_iff.1 hw
  simp only [Prod.mk.injEq] at hx1
  obtain ⟨rfl, rfl⟩ := hx1
  exact OpenSpec.preRow_of_cond 8 hx (by kernel_rfl) (fun k hk => by cases hk) (by kernel_rfl) (laid_met os _)

set_option maxRecDepth 100000 in
theorem lifted (os : Os) (started : os.Started) (H : Type) (enc : TypeId × Value → H) (F : Stop.Interp) :
    ReturnsInHanded {} Tryd.checked os 7 .any ((OpenSpec.ofChange Rows.octetBurstSpec).preRow enc Tryd.prog Tryd.f7 Rows.octetBurstRow.domain false Rows.octetBurstRow.laid) (((OpenSpec.ofChange Rows.octetBurstSpec).at F).post enc Tryd.prog Tryd.f7 false true false false) := by
  refine returnsInHanded_of_row (C := Tryd.checked) (s := (OpenSpec.ofChange Rows.octetBurstSpec)) own started (by kernel_rfl) Tryd.func7
    (witness_row_at (enc := enc) (C := Tryd.checked) false (laidWorld os) #[.slice none 0 0, .int .i64 0, .agg #[.int .u8 0, .int .u8 0, .int .u8 0, .int .u8 0]] rfl (by kernel_rfl) (by kernel_rfl) (by kernel_rfl) (witness_row os enc)) ?_
  intro W base args ds gs before hval hW _ hcond hsz hL hS _
  exact contract H enc W base args ds gs before hval hW hsz (tabs_of hL)

theorem row : Rows.OctetBurstSaid :=
  OpenClaim.holds_of_cond 7 Tryd.f7 rfl rfl rfl rfl rfl rfl rfl ⟨rfl, rfl, rfl, rfl, rfl⟩ rfl rfl rfl rfl rfl (by kernel_rfl) Tryd.func7 (by kernel_rfl)
    (of_decide_eq_true (by kernel_rfl)) (by unfold Func.isWrapper; first | (rw [if_pos (by decide +kernel)]; kernel_rfl) | (rw [if_neg (by decide +kernel)]; exact ⟨rfl, rfl⟩))
    (fun os started H enc _ F => by rw [OpenClaim.pre_eq_preRow]; exact lifted os started H enc F)

theorem plain (f : FuncId) (fn : Func) (hf : Tryd.pinned.checked.prog.funcNamed Rows.octetBurstRow.func = some f) (hfn : Tryd.pinned.checked.prog.funcs[f]? = some fn) :
    false = Tryd.pinned.checked.prog.looks [] ∧ ∀ (j : Nat) t, fn.params[j]? = some t → Tryd.pinned.checked.prog.wantsStandIn t = false := by
  obtain rfl : f = 7 := Option.some.inj ((show Tryd.prog.funcNamed Rows.octetBurstRow.func = some 7 by kernel_rfl).symm.trans hf) |>.symm
  obtain rfl : fn = Tryd.f7 := (Option.some.inj (Tryd.func7.symm.trans hfn)).symm
  refine ⟨by kernel_rfl, fun j t ht => ?_⟩
  rw [Tryd.params7] at ht
  have hm : t ∈ [22, 3, 67] := by simpa using Array.mem_of_getElem? ht
  simp only [List.mem_cons, List.mem_nil_iff, or_false] at hm
  rcases hm with rfl | rfl | rfl
  · exact (show Tryd.prog.wantsStandIn 22 = false by kernel_rfl)
  · exact (show Tryd.prog.wantsStandIn 3 = false by kernel_rfl)
  · exact (show Tryd.prog.wantsStandIn 67 = false by kernel_rfl)

theorem proved : Rows.OctetBurstCardSaid :=
  Claim7.holds_tied_plain_at .later [] _ _ _ _ row (fun _ h => by cases h) (by kernel_rfl) (fun _ h => by cases h) octetBurst_row_tie rfl ⟨rfl, rfl⟩ (by kernel_rfl) rfl plain (by kernel_rfl)
end Go.Proofs.YtcgeldmbndaocaaDoor.octetBurst
