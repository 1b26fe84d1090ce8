/- What is proved: MarkComments holds of every text, comment and number: a line that begins with '#', of plain characters and not too long, put in as a line ahead of any line of a source that Lex takes, changes the lines' numbers alone; of a source that Lex does not take there are no tokens. Its condition: the arguments are together of bulk at most 1048576 (the statement's second form). -/
import Derived.Test.YtmceiehnfmgioaaGreatDoorCm2
import Derived.Test.YtmceiehnfmgioaaGreatDoorLl
import Derived.Test.YtmceiehnfmgioaaGreatDoorMawk
import Derived.Test.YtmceiehnfmgioaaGreatDoorPost
import Derived.Test.YtmceiehnfmgioaaGreatDoorMLft
import Derived.Test.YtmceiehnfmgioaaGreatDoorCards
import Derived.Test.YtmceiehnfmgioaaGreatDoorTie
import Derived.ProofKit
import Derived.OpenShut
import Derived.Deep.DeepHandedRow
import Derived.BigQuiet
import Derived.Deep.QuietTactic
namespace Go.Proofs.YtmceiehnfmgioaaGreatDoor.markComments
open Go.ChangeShapes Go.WideShapes Go.ChangeAt Go.RowKit
open Go.ChangeMaps (open_string shut_string)
set_option linter.unusedVariables false

def intRows (l : List Nat) : List Value := l.map fun (n : Nat) => Value.int .i64 (n : Int)
theorem infoInt : (Tryz.prog.info? 3).map (fun i => (i.zero, i.size, i.bytes)) = some (some (.int .i64 0), 1, 8) := by kernel_rfl
theorem begG_cons (c : UInt8) (r : List UInt8) (i : Nat) : begG (c :: r) i = (if c = 10 then [i + 1] else []) ++ begG r (i + 1) := rfl
/-- Where the loop over the bytes stands. -/
def BgI (l : List UInt8) (w : World) (vo iv : Value) (wr : World) : Prop :=
  ∃ (k : Nat) (acc : List Nat), iv = .int .i64 k ∧ k ≤ l.length ∧ acc ++ begG (l.drop k) k = begs l ∧ acc.length ≤ k + 1 ∧ wr.ownsRow w.heap.size 3 1 vo acc.length (intRows acc) ∧ Below w.heap.size w wr
theorem tmod_two (x : Int) (n : Nat) (h : 0 < n) : ∃ k : Nat, k < n ∧ (x.tmod n + n).tmod n = k ∧ -(n : Int) < x.tmod n ∧ x.tmod n < n ∧ 0 < x.tmod n + n ∧ x.tmod n + n < 2 * n := by
  have h1 : x.tmod n < n := Int.tmod_lt_of_pos x (by omega)
  have h2 : -(n : Int) < x.tmod n := by
    have h3 : (-x).tmod n < n := Int.tmod_lt_of_pos (-x) (by omega)
    rw [Int.neg_tmod] at h3
    omega
  refine ⟨((x.tmod n + n).tmod n).toNat, ?_, ?_, h2, h1, by omega, by omega⟩
  · have h4 := Int.tmod_lt_of_pos (x.tmod n + n) (show (0 : Int) < n by omega)
    have h5 := Int.tmod_nonneg (n : Int) (show 0 ≤ x.tmod n + n by omega)
    omega
  · have h5 := Int.tmod_nonneg (n : Int) (show 0 ≤ x.tmod n + n by omega)
    omega
set_option maxRecDepth 100000 in
set_option maxHeartbeats 4000000 in
theorem walk (s0 s1 : ByteArray) (at' : Int) (W : World) (hs0 : s0.size ≤ 1048576) (hs1 : s1.size ≤ 1048576) {Q : Prop} (hQ : Q) (hT : Tabs W) :
    Calls Tryz.prog 6 #[.string s0, .string s1, .int .i64 at'] W fun e W' => e = .returned (.bool true) ∧ Below W.heap.size W W' := by
  obtain ⟨i0, hi0, hz0, hz1, hz2⟩ := info_parts infoInt
  obtain ⟨l, rfl, hl⟩ := of_bs s0
  obtain ⟨c, rfl, hc⟩ := of_bs s1
  have HA := Lib.hid (awake_law W hT)
  have HT := Lib.hid hT
  have HL := Lib.hid (show l.length ≤ 1048576 by rw [hl]; exact hs0)
  have HC := Lib.hid (show c.length ≤ 1048576 by rw [hc]; exact hs1)
  have HQ := Lib.hid hQ
  clear hT hl hs0 hc hs1 hQ
  go_enter Tryz.func6, Tryz.ntmps6
  go_wp2_with fail
  refine HA.out.mono ?_
  rintro e w1 ⟨rfl, hb⟩
  have HB := Lib.hid hb
  have HT1 := Lib.hid (HT.out.at hb)
  clear hb
  go_wp2_with fail
  refine (lex_pro l w1 HT1.out).mono ?_
  unfold LexPost
  cases hr : lexM l with
  | error x =>
    rintro e w2 ⟨ge, rfl, he, hx, hb⟩
    have HB2 := Lib.hid (HB.out.trans (hb.mono HB.out.size))
    clear he hx hb hr
    unfold errAt
    go_wp2_with fail
    go_ret
    exact ⟨rfl, HB2.out⟩
  | ok ts =>
    rintro e w2 ⟨v, rfl, ht, hb⟩
    have HB2 := Lib.hid (HB.out.trans (hb.mono HB.out.size))
    have HT2 := Lib.hid (HT1.out.at hb)
    have HTK := Lib.hid ht
    have HR := Lib.hid hr
    have HN := Lib.hid (lexM_len hr)
    clear hb hr ht
    go_wp2_with fail
    refine (plain_pro (bs c) w2 (by rw [bs_size]; have := HC.out; omega) HT2.out).mono ?_
    rintro e w3 ⟨rfl, hb⟩
    have HB3 := Lib.hid (HB2.out.trans (hb.mono HB2.out.size))
    have HT3 := Lib.hid (HT2.out.at hb)
    have HTK3 := Lib.hid (HTK.out.below hb)
    clear hb
    obtain ⟨pl, hpl⟩ : ∃ pl, ((chars (bs c)).find? unplain).isNone = pl := ⟨_, rfl⟩
    obtain ⟨pc, hpc⟩ : ∃ pc, placeOf ((chars (bs c)).find? unplain) = pc := ⟨_, rfl⟩
    rw [hpl, hpc]
    have HPL := Lib.hid hpl
    have zl := bs_size l
    have zc := bs_size c
    clear hpl hpc
    cases pl with
    | false =>
      go_wp2_with fail
      go_ret
      exact ⟨rfl, HB3.out⟩
    | true =>
    by_cases d1 : 4095 < c.length
    · have d2 : (4095 : Int) < c.length := by omega
      clear d1
      go_wp2_with fail
      go_ret
      exact ⟨rfl, HB3.out⟩
    have d2 : ¬ (4095 : Int) < c.length := by omega
    have D1 := Lib.hid d1
    have zs1 : wrap64 (65536 - (c.length : Int)) = 65536 - (c.length : Int) := IntWalk.wrap64_in _ (by omega)
    have zs2 : wrap64 (65536 - (c.length : Int) - 2) = 65534 - (c.length : Int) := by rw [IntWalk.wrap64_in _ (by omega)]; omega
    by_cases d3 : 65534 < l.length + c.length
    · have d4 : (65534 : Int) - (c.length : Int) < l.length := by omega
      clear d1 d3
      go_wp2_with fail
      go_ret
      exact ⟨rfl, HB3.out⟩
    have d4 : ¬ (65534 : Int) - (c.length : Int) < l.length := by omega
    have D3 := Lib.hid d3
    clear d1 d3
    have S0 := Lib.hid (show BgI l w3 (.slice (some ⟨w3.heap.size, 0, none⟩) 1 1) (.int .i64 (0 : Nat)) (w3.alloc (.cells #[.int .i64 0] 3)) from
      ⟨0, [0], rfl, Nat.zero_le _, rfl, Nat.le_refl _, World.ownsRow_lit w3 _ 1 (Nat.le_refl _) (by decide) rfl, (Below.refl _ _).alloc (Nat.le_refl _) _⟩)
    go_wp2_with fail
    clear zs1 zs2 d2 d4
    go_loopw [11, 12] (fun vo iv wr => BgI l w3 vo iv wr) (fun _ iv _ => l.length - (intOf iv).toNat)
    case atStart => exact S0.out
    case round =>
      obtain ⟨k, acc, rfl, hk, hacc, hal, hrow, hbr⟩ := hrel
      have HAC := Lib.hid hacc
      have HRW := Lib.hid hrow
      have HBR := Lib.hid hbr
      have HAL := Lib.hid hal
      by_cases hlt : k < l.length
      · obtain ⟨x, hx⟩ : ∃ x, l[k] = x := ⟨_, rfl⟩
        have hdk : l.drop k = x :: l.drop (k + 1) := by rw [List.drop_eq_getElem_cons hlt, hx]
        have hix : ∀ hh, (bs l)[k]'hh = x := fun _ => hx
        have lt1 : (k : Int) < l.length := by omega
        have bk : (k : Int) ≤ 1048576 := by have := HL.out; omega
        have bk0 : 0 ≤ (k : Int) := by omega
        have HD := Lib.hid hdk
        have HLT := Lib.hid hlt
        obtain ⟨pv, cv, rfl⟩ := lenOf hrow
        clear hacc hrow hbr hal hdk hx
        by_cases h10 : x.toNat = 10
        · have t1 : ((x.toNat : Int) == 10) = true := u8_eq h10
          have HX := Lib.hid (show x = 10 from UInt8.toNat_inj.1 h10)
          have M1 := Lib.hid (show acc.length + 1 ≤ maxLen by have := HAL.out; have := HL.out; have := HLT.out; unfold maxLen; omega)
          have M2 := Lib.hid (show (acc.length + 1) * 8 ≤ 140737488355328 by have := HAL.out; have := HL.out; have := HLT.out; omega)
          clear h10
          go_wp2_with (at_builtin; go_loud (refine wpList_append_own _ rfl _ _ 44 rfl w3.heap.size 3 i0 (.int .i64 0) 1 8 Tryz.underlying44 hi0 hz0 hz1 hz2 rfl (by decide) _ _ _ rfl (HRW.out.alloc _) ⟨wr.heap.size, 0, none⟩ 1 1 [.int .i64 ((k : Int) + 1)] rfl rfl (cells_at rfl) (by intro u hu; simp at hu; subst hu; rfl) M1.out M2.out (by have := HBR.out.size; simp; omega) ?_); intro v' w' hown' hgrow _)
          go_roundw
          case measure => simp [intOf]; have := HLT.out; omega
          case rel => exact ⟨k + 1, acc ++ [k + 1], by go_num, HLT.out, by rw [← HAC.out, HD.out, HX.out, begG_cons, if_pos rfl]; simp, by simp; exact HAL.out, by rw [List.length_append, show intRows (acc ++ [k + 1]) = intRows acc ++ [.int .i64 ((k : Int) + 1)] by unfold intRows; rw [List.map_append]; rfl]; exact hown', (HBR.out.alloc HBR.out.size _).grown hgrow (by have := HBR.out.size; simp; omega) (fun q hq => (HRW.out.lt q hq).1)⟩
        · have t1 : ((x.toNat : Int) == 10) = false := u8_ne h10
          have HX := Lib.hid (show x ≠ 10 from fun e => h10 (by rw [e]; rfl))
          clear h10
          go_wp2_with fail
          go_roundw
          case measure => simp [intOf]; have := HLT.out; omega
          case rel => exact ⟨k + 1, acc, by go_num, HLT.out, by rw [← HAC.out, HD.out, begG_cons, if_neg HX.out]; rfl, by have := HAL.out; omega, HRW.out, HBR.out⟩
      · have nlt : ¬ (k : Int) < l.length := by omega
        obtain rfl : k = l.length := by omega
        rw [List.drop_length] at hacc
        obtain rfl : acc = begs l := by rw [← hacc]; simp [begG]
        obtain ⟨pv, cv, rfl⟩ := lenOf hrow
        obtain ⟨N, hN⟩ : ∃ N, (begs l).length = N := ⟨_, rfl⟩
        have hN0 : 0 < N := by rw [← hN]; unfold begs; simp
        have hN1 : N ≤ 1048577 := by rw [← hN]; have := begs_len l; have := HL.out; omega
        obtain ⟨q, hq1, hq2, hq3, hq4, hq5, hq6⟩ := tmod_two at' N hN0
        rw [hN] at HRW
        obtain ⟨b, hb⟩ : ∃ b, (begs l)[q]? = some b := ⟨_, List.getElem?_eq_getElem (by omega)⟩
        obtain ⟨hb1, hb2, hb3⟩ := begs_at hb
        obtain ⟨g, cap, hv, hg, hgl⟩ := World.ownsRow.form HRW.out hN0
        obtain ⟨rfl, -, rfl⟩ : pv = some ⟨g, 0, none⟩ ∧ N = N ∧ cv = cap := by
          injection hv with a b c
          exact ⟨a, rfl, c⟩
        have cb : wr.cell? ⟨g, q, none⟩ = some (.int .i64 b) := (World.ownsRow.cellAt HRW.out q (by omega)).trans (by unfold intRows; rw [List.getElem?_map, hb]; rfl)
        have q1 : (q : Int) < N := by omega
        have bI : (b : Int) ≤ l.length := by omega
        have HB2' := Lib.hid hb2
        have HB3' := Lib.hid hb3
        have HB1' := Lib.hid hb1
        have HQ1 := Lib.hid (show q ≤ 1048577 by omega)
        have HLX := Lib.hid (lexM_comment (a := l.take b) (b := l.drop b) (c := c) (by rw [List.take_append_drop]; exact HR.out) hb2 (by have h := HPL.out; unfold PlainL; exact Option.isNone_iff_eq_none.1 h) (by have := D1.out; omega) (by rw [List.take_append_drop]; have := D3.out; omega))
        have HBW := Lib.hid (HB3.out.trans (HBR.out.mono HB3.out.size))
        have HTW := Lib.hid (HT3.out.at HBR.out)
        have HKW := Lib.hid (HTK3.out.below HBR.out)
        clear hacc hal hbr hrow hb hb1 hb2 hb3 hv hg hgl
        go_wp2_with fail
        go_quiet (fail)
        have HBD := Lib.hid (show Below W.heap.size W (wr.drewN nq) from ⟨HBW.out.os, HBW.out.tape, HBW.out.output, HBW.out.size, HBW.out.block⟩)
        have HTD := Lib.hid (HTW.out.at (show Below wr.heap.size wr (wr.drewN nq) from ⟨rfl, rfl, rfl, Nat.le_refl _, fun _ _ => rfl⟩))
        have HKD := Lib.hid (HKW.out.below (show Below wr.heap.size wr (wr.drewN nq) from ⟨rfl, rfl, rfl, Nat.le_refl _, fun _ _ => rfl⟩))
        go_wp2_with fail
        rw [show (bs l).extract 0 b ++ (⟨#[35]⟩ : ByteArray) ++ bs c ++ (⟨#[10]⟩ : ByteArray) ++ (bs l).extract b l.length = bs (l.take b ++ (35 :: c ++ 10 :: l.drop b)) by
          rw [bs_take, bs_extract, show (⟨#[35]⟩ : ByteArray) = bs [35] from rfl, show (⟨#[10]⟩ : ByteArray) = bs [10] from rfl, bs_app, bs_app, bs_app, bs_app, show (l.drop b).take (l.length - b) = l.drop b from List.take_of_length_le (by rw [List.length_drop]; exact Nat.le_refl _)]
          simp]
        refine (lex_pro _ (wr.drewN nq) HTD.out).mono ?_
        unfold LexPost
        rw [HLX.out]
        rintro e w5 ⟨v5, rfl, ht5, hb5⟩
        have HT5 := Lib.hid ht5
        have HB5 := Lib.hid (HBD.out.trans (hb5.mono HBD.out.size))
        have HK5 := Lib.hid (HKD.out.below hb5)
        clear ht5 hb5 cb q1 bI hq1 hq2 hq3 hq4 hq5 hq6
        have zq : wrap64 ((q : Int) + 1) = (q : Int) + 1 := IntWalk.wrap64_in _ (by have := HQ1.out; omega)
        go_wp2_with fail
        refine (moved_law' ts v 1 (q + 1) _ _ rfl (by omega) w5 HK5.out (by have := HN.out.1; omega) (fun t ht => by have := HN.out.2.2.2 t ht; omega) (by omega) (by have := HQ1.out; omega)).mono ?_
        rintro e w6 ⟨v6, rfl, ho6, hb6⟩
        have HB6 := Lib.hid (HB5.out.trans (hb6.mono HB5.out.size))
        have HW6 := Lib.hid (show Toks w6 v6 (ts.map (shT (later ((lines (l.take b)).length + 1)))) from ⟨w5.heap.size, by
          rw [HB3'.out, List.length_map, show (later (q + 1)) = mvF (q + 1) 1 from rfl]
          exact ho6⟩)
        have HT6 := Lib.hid (HT5.out.below hb6)
        clear ho6 hb6
        go_wp2_with fail
        refine (same_ref _ v5 v6 w6 HT6.out HW6.out (by rw [List.length_map]; have := HN.out.1; omega)).mono ?_
        rintro e w7 ⟨rfl, hb⟩
        have HB7 := Lib.hid (HB6.out.trans (hb.mono HB6.out.size))
        clear hb
        go_wp2_with fail
        go_ret
        exact ⟨rfl, HB7.out⟩

set_option maxRecDepth 100000 in
theorem contract (H : Type) (enc : TypeId × Value → H) (W : World) (base : Nat) (args : Array Value) (ds gs : List (DataW H)) (before : List MemPlace)
    (hval : ∀ (j : Nat) t v, Tryz.f6.params[j]? = some t → args[j]? = some v → Value.okWide Tryz.prog W .any base t v)
    (hW : DataW.Whole enc Tryz.prog Tryz.f6.params.toList Rows.markCommentsSpec.vars false W args.toList ds gs before) (hk : Rows.uptoSmall H (ds ++ gs) = true) (hT : Tabs W) :
    Calls Tryz.prog 6 args W fun e W' => ∃ v, e = .returned v ∧ Rows.markCommentsSpec.post enc Tryz.prog Tryz.f6 false true false false W args v W' := by
  have hW' := hW
  obtain ⟨p, q, hA0, hV, rfl, hfz, hnd⟩ := hW
  have hA : DataW.TrodAll enc Tryz.prog W 0 (fun _ => true) true Tryz.f6.params.toList args.toList ds p := hA0
  rw [Tryz.params6] at hA hval
  obtain ⟨v0, vs0, d0, ds0, p0, q0, hargs, rfl, rfl, h0, r0⟩ := trodAll_cons hA
  obtain ⟨v1, vs1, d1, ds1, p1, q1, rfl, rfl, rfl, h1, r1⟩ := trodAll_cons r0
  obtain ⟨v2, vs2, d2, ds2, p2, q2, rfl, rfl, rfl, h2, r2⟩ := trodAll_cons r1
  obtain ⟨rfl, rfl, rfl⟩ := trodAll_nil r2
  obtain rfl : args = #[v0, v1, v2] := by cases args; simp_all
  obtain ⟨rfl, rfl⟩ := trodVars_none hV
  obtain ⟨s0, rfl, rfl, rfl, hm0⟩ := open_string Tryz.underlying9 (hval 0 9 v0 rfl rfl) h0
  obtain ⟨s1, rfl, rfl, rfl, hm1⟩ := open_string Tryz.underlying9 (hval 1 9 v1 rfl rfl) h1
  obtain ⟨a2, rfl, rfl, rfl, w2⟩ := open_int Tryz.underlying3 (hval 2 3 v2 rfl rfl) h2
  clear hA0
  simp only [List.append_nil] at hk
  have hb0 := of_decide_eq_true hk
  simp only [Rows.uptoBulkAll, Rows.uptoBulk] at hb0
  have size0 : s0.size ≤ 1048576 := by
    have e : s0.data.toList.length = s0.size := by rw [Array.length_toList]; rfl
    omega
  have size1 : s1.size ≤ 1048576 := by
    have e : s1.data.toList.length = s1.size := by rw [Array.length_toList]; rfl
    omega
  refine (walk s0 s1 a2 W size0 size1 w2 hT).mono fun e W' ⟨he, hg⟩ => ?_
  subst he
  have hlt := hW'.lt
  exact ⟨_, rfl, post_of_below (pa := ([] ++ ([] ++ ([] ++ [])))) (pv := []) hW' (fun _ _ _ => trodAll_cons_mk (shut_bool Tryz.underlying4 _) trodAll_mk0) (fun sp hsp => (trodAll_cons_mk (shut_string Tryz.underlying9 hm0) (trodAll_cons_mk (shut_string Tryz.underlying9 hm1) (trodAll_cons_mk (shut_int Tryz.underlying3 w2) trodAll_mk0)))) (fun _ _ => rfl) rfl hg (ok_one (by kernel_rfl) rfl (okWide_bool_mk Tryz.underlying4 _))⟩

theorem witness_row (os : Os) {H : Type} (enc : TypeId × Value → H) :
    (Rows.OpenSpec.upto Rows.markCommentsSpec).preRow enc Tryz.prog Tryz.f6 Rows.markCommentsUptoRow.domain false Rows.markCommentsUptoRow.laid ((laidWorld os).forCall (fun _ _ => 0) ⟨#[], #[.string .empty, .string .empty, .int .i64 0], []⟩).memory #[.string .empty, .string .empty, .int .i64 0] := by
  have hw : (DataW.whole enc Tryz.prog ((laidWorld os).forCall (fun _ _ => 0) ⟨#[], #[.string .empty, .string .empty, .int .i64 0], []⟩).memory Tryz.f6.params.toList Rows.markCommentsSpec.vars false (#[.string .empty, .string .empty, .int .i64 0] : Array Value).toList 8).map (fun x => (x.1, x.2.1)) =
      some ([.lit (.string []), .lit (.string []), .lit (.int .i64 0)], []) := by kernel_rfl
  obtain ⟨⟨x1, x2, x3⟩, hx, hx1⟩ := Option.map_eq_some_iff.1 hw
  simp only [Prod.mk.injEq] at hx1
  obtain ⟨rfl, rfl⟩ := hx1
  exact OpenSpec.preRow_of_cond 8 hx (by kernel_rfl) (fun k hk => by cases hk; kernel_rfl) (by kernel_rfl) (laid_met os _)

set_option maxRecDepth 100000 in
theorem lifted (os : Os) (started : os.Started) (H : Type) (enc : TypeId × Value → H) (F : Stop.Interp) :
    ReturnsInHanded {} Tryz.checked os 6 .any ((Rows.OpenSpec.upto Rows.markCommentsSpec).preRow enc Tryz.prog Tryz.f6 Rows.markCommentsUptoRow.domain false Rows.markCommentsUptoRow.laid) (((Rows.OpenSpec.upto Rows.markCommentsSpec).at F).post enc Tryz.prog Tryz.f6 false true false false) := by
  refine returnsInHanded_of_row (C := Tryz.checked) (s := (Rows.OpenSpec.upto Rows.markCommentsSpec)) own started (by kernel_rfl) Tryz.func6
    (witness_row_at (enc := enc) (C := Tryz.checked) false (laidWorld os) #[.string .empty, .string .empty, .int .i64 0] rfl (by kernel_rfl) (by kernel_rfl) (by kernel_rfl) (witness_row os enc)) ?_
  intro W base args ds gs before hval hW _ hcond hsz hL hS _
  exact contract H enc W base args ds gs before hval hW (hcond _ rfl) (tabs_of hL hS)

set_option maxHeartbeats 16000000 in
theorem closed : joinedFacts Tryz.pinned.checked.prog 6 Tryz.f6 ((Rows.OpenSpec.upto Rows.markCommentsSpec)).bare Rows.markCommentsUptoRow = true := by
  unfold joinedFacts
  repeat' (with_reducible refine Bool.and_eq_true_iff.2 ⟨?_, ?_⟩)
  all_goals (as_aux_lemma => kernel_rfl)
theorem named : Tryz.pinned.checked.prog.funcNamed Rows.markCommentsUptoRow.func = some 6 := by kernel_rfl
theorem inst : (Tryz.f6).isInstance Tryz.pinned.checked.prog Rows.markCommentsUptoRow.origin Rows.markCommentsUptoRow.targs := of_decide_eq_true (by kernel_rfl)
theorem wrap : (Tryz.f6).isWrapper Tryz.pinned.checked.prog Rows.markCommentsUptoRow.wrapper Rows.markCommentsUptoRow.mainSum := by
  unfold Func.isWrapper
  first | (rw [if_pos (by decide +kernel)]; kernel_rfl) | (rw [if_neg (by decide +kernel)]; exact ⟨rfl, rfl⟩)
theorem row : Rows.MarkCommentsUptoSaid :=
  OpenClaim.holds_of_cond 6 Tryz.f6 rfl rfl rfl rfl rfl rfl rfl ⟨rfl, rfl, rfl, rfl, rfl⟩ rfl rfl rfl rfl rfl named Tryz.func6 closed inst wrap
    (fun os started H enc _ F => by rw [OpenClaim.pre_eq_preRow]; exact lifted os started H enc F)

theorem plain (f : FuncId) (fn : Func) (hf : Tryz.pinned.checked.prog.funcNamed Rows.markCommentsUptoRow.func = some f) (hfn : Tryz.pinned.checked.prog.funcs[f]? = some fn) :
    true = Tryz.pinned.checked.prog.looks [] ∧ ∀ (j : Nat) t, fn.params[j]? = some t → Tryz.pinned.checked.prog.wantsStandIn t = false := by
  obtain rfl : f = 6 := Option.some.inj ((show Tryz.prog.funcNamed Rows.markCommentsUptoRow.func = some 6 by kernel_rfl).symm.trans hf) |>.symm
  obtain rfl : fn = Tryz.f6 := (Option.some.inj (Tryz.func6.symm.trans hfn)).symm
  refine ⟨by kernel_rfl, fun j t ht => ?_⟩
  rw [Tryz.params6] at ht
  have hm : t ∈ [9, 9, 3] := by simpa using Array.mem_of_getElem? ht
  simp only [List.mem_cons, List.mem_nil_iff, or_false] at hm
  rcases hm with rfl | rfl | rfl
  · exact (show Tryz.prog.wantsStandIn 9 = false by kernel_rfl)
  · exact (show Tryz.prog.wantsStandIn 9 = false by kernel_rfl)
  · exact (show Tryz.prog.wantsStandIn 3 = false by kernel_rfl)

theorem proved : Rows.MarkCommentsUptoCardSaid :=
  Claim7.holds_tied_plain_at .later [] _ _ _ _ row (fun _ h => by cases h) (by kernel_rfl) (fun _ h => by cases h) markCommentsUpto_row_tie rfl ⟨rfl, rfl⟩ (by kernel_rfl) rfl plain (by kernel_rfl)
end Go.Proofs.YtmceiehnfmgioaaGreatDoor.markComments
