/- What is proved: MarkPlaces holds of every text: the tokens that Lex tells stand one behind the other, each within its line of the text; where it tells an error there is no token. Its condition: none but the statement's own. -/
import Derived.Test.YtklohbekmbnmdaaGreatDoorBr
import Derived.Test.YtklohbekmbnmdaaGreatDoorPl
import Derived.Test.YtklohbekmbnmdaaGreatDoorLns
import Derived.Test.YtklohbekmbnmdaaGreatDoorMawk
import Derived.Test.YtklohbekmbnmdaaGreatDoorPost
import Derived.Test.YtklohbekmbnmdaaGreatDoorMLft
import Derived.Test.YtklohbekmbnmdaaGreatDoorCards
import Derived.Test.YtklohbekmbnmdaaGreatDoorTie
import Derived.ProofKit
import Derived.OpenShut
import Derived.Deep.DeepHandedRow
import Derived.BigQuiet
import Derived.Deep.QuietTactic
import Derived.Deep.CutRange
import Derived.Deep.Cut
namespace Go.Proofs.YtklohbekmbnmdaaGreatDoor.markPlaces
open Go.ChangeShapes Go.WideShapes Go.ChangeAt Go.RowKit
open Go.ChangeMaps (open_string shut_string)
set_option linter.unusedVariables false

theorem of_bs (s : ByteArray) : ∃ l, s = bs l ∧ l.length = s.size := ⟨s.data.toList, by unfold bs; apply ByteArray.ext; simp, by rw [Array.length_toList]; rfl⟩
theorem drewN_b (w : World) (n : Nat) : Below w.heap.size w (w.drewN n) := ⟨rfl, rfl, rfl, Nat.le_refl _, fun _ _ => rfl⟩
theorem bl_drewN {w w1 : World} (h : Below w.heap.size w w1) (n : Nat) : Below w.heap.size w (w1.drewN n) := h.trans ((drewN_b _ _).mono h.size)
theorem linesF_le : ∀ (f : Nat) (l x : List UInt8), x ∈ linesF f l → x.length ≤ l.length
  | 0, _, _, h => by cases h
  | f + 1, l, x, h => by
    unfold linesF at h
    by_cases h0 : l = []
    · rw [if_pos h0] at h; cases h
    · rw [if_neg h0] at h
      obtain ⟨q1, q2⟩ := cut_len l h0
      rcases List.mem_cons.1 h with rfl | h'
      · have := chop_len (cutNL l).1; omega
      · have := linesF_le f _ x h'; omega
theorem lineM_short {n : Nat} {l : List UInt8} {m m' : Mk} (he : lineM n l m = .ok m') : l.length ≤ 4096 := by
  unfold lineM at he
  by_cases c1 : 4096 < l.length
  · rw [if_pos c1] at he; cases he
  · omega
theorem linesM_len : ∀ (ls : List (List UInt8)) (n : Nat) (m m' : Mk), linesM ls n m = .ok m' → m'.out.length ≤ m.out.length + m.run.length + 8193 * ls.length
  | [], n, m, m', he => by
    have he' : m.endPara = .ok m' := he
    unfold Mk.endPara at he'
    cases hq : m.opn.getLast? with
    | some t => rw [hq] at he'; cases he'
    | none =>
      rw [hq] at he'
      cases he'
      show m.endRun.out.length ≤ _
      unfold Mk.endRun
      split
      · omega
      · rename_i h0
        have : 0 < m.run.length := List.length_pos_iff.2 h0
        simp; omega
  | l :: r, n, m, m', he => by
    unfold linesM at he
    cases hl : lineM n l m with
    | error e => rw [hl] at he; cases he
    | ok m1 =>
      rw [hl] at he
      have h1 := linesM_len r _ m1 m' he
      have h2 := lineM_cost hl
      have h3 := lineM_short hl
      simp only [List.length_cons]
      omega
theorem lexM_len {l : List UInt8} {ts : List Tok} (h : lexM l = .ok ts) : ts.length ≤ 540000000 := by
  unfold lexM at h
  by_cases c : 65536 < l.length
  · rw [if_pos c] at h; cases h
  rw [if_neg c] at h
  cases hq : linesM (lines l) 1 Mk.zero with
  | error e => rw [hq] at h; cases h
  | ok m =>
    rw [hq] at h; cases h
    have h1 := linesM_len _ _ _ _ hq
    have h2 := linesF_len l.length l
    have h4 : (lines l).length ≤ 65536 := by unfold lines; omega
    have h6 : m.out.length ≤ 8193 * (lines l).length := by simpa [Mk.zero] using h1
    show m.out.length ≤ _
    omega
set_option maxRecDepth 100000 in
set_option maxHeartbeats 4000000 in
theorem walk (s : ByteArray) (W : World) {Q : Prop} (hQ : Q) (hT : Tabs W) :
    Calls Tryz.prog 5 #[.string s] W fun e W' => e = .returned (.bool true) ∧ Below W.heap.size W W' := by
  obtain ⟨l, rfl, hl⟩ := of_bs s
  have HA := Lib.hid (awake_law W hT)
  have HT := Lib.hid hT
  clear hT hl hQ
  go_enter Tryz.func5, Tryz.ntmps5
  go_wp2_with fail
  refine HA.out.mono ?_
  rintro e w1 ⟨rfl, hb⟩
  have HB := Lib.hid hb
  have HT1 := Lib.hid (HT.out.at hb)
  clear hb
  go_wp2_with fail
  refine (lex_pro l w1 HT1.out).mono ?_
  unfold LexPost
  cases hr : lexM l with
  | error x =>
    rintro e w2 ⟨ge, rfl, he, hx, hb⟩
    have HB2 := Lib.hid (HB.out.trans (hb.mono HB.out.size))
    clear he hx hb hr
    unfold errAt
    go_wp2_with fail
    go_ret
    exact ⟨rfl, HB2.out⟩
  | ok ts =>
    rintro e w2 ⟨v, rfl, ht, hb⟩
    have HB2 := Lib.hid (HB.out.trans (hb.mono HB.out.size))
    have HT2 := Lib.hid (HT1.out.at hb)
    obtain ⟨B, ho⟩ := ht
    obtain ⟨pv, cv, rfl⟩ := lenOf ho
    have HO := Lib.hid ho
    obtain ⟨⟨se, hrow⟩, hll⟩ := lexM_pl hr
    have HR := Lib.hid hrow
    have HL := Lib.hid hll
    have HN := Lib.hid (lexM_len hr)
    clear hb hr ho hrow hll
    go_wp2_with fail
    refine (lines_ref l w2 (by have := HL.out; omega)).mono ?_
    rintro e w3 ⟨vl, rfl, hol, hb⟩
    obtain ⟨pl, cl, rfl⟩ := lenOf hol
    have HOL := Lib.hid hol
    have HO3 := Lib.hid (own_below HO.out hb)
    have HB3 := Lib.hid (HB2.out.trans (hb.mono HB2.out.size))
    have HLS := Lib.hid (show (lines l).length ≤ 65536 by have h1 := linesF_len l.length l; have := HL.out; unfold lines; omega)
    clear hol hb
    go_wp2_with fail
    go_loopw [6] (fun iv wr => ∃ (k : Nat), iv = .int .i64 k ∧ k ≤ ts.length ∧ Below w3.heap.size w3 wr) (fun iv _ => ts.length - (intOf iv).toNat)
    case atStart => exact ⟨0, rfl, Nat.zero_le _, Below.refl _ _⟩
    case round =>
      obtain ⟨k, rfl, hk, hbr⟩ := hrel
      have HBR := Lib.hid hbr
      by_cases hlt : k < ts.length
      · obtain ⟨t, ht⟩ : ∃ t, ts[k]? = some t := ⟨_, List.getElem?_eq_getElem hlt⟩
        obtain ⟨⟨ol, oc, x, hx, ox⟩, hpr⟩ := HR.out.at ht
        have ol' : 1 ≤ t.line := ol
        have oc' : 1 ≤ t.col := oc
        have ox' : t.col ≤ x.length + 1 := ox
        obtain ⟨jl, hjl⟩ : ∃ jl, t.line = jl + 1 := ⟨t.line - 1, by omega⟩
        have hx' : (lines l)[jl]? = some x := by rw [show jl = t.line - 1 by omega]; exact hx
        have hjn : jl < (lines l).length := by
          by_cases h : jl < (lines l).length
          · exact h
          · rw [List.getElem?_eq_none (by omega)] at hx'; cases hx'
        have hor := own_below HO3.out hbr
        have hol := own_below HOL.out hbr
        obtain ⟨g, cap, hv, hg, hgl⟩ := World.ownsRow.form hor (by omega)
        obtain ⟨rfl, -, rfl⟩ : pv = some ⟨g, 0, none⟩ ∧ ts.length = ts.length ∧ cv = cap := by
          injection hv with a b c
          exact ⟨a, rfl, c⟩
        obtain ⟨g2, cap2, hv2, hg2, hgl2⟩ := World.ownsRow.form hol (by omega)
        obtain ⟨rfl, -, rfl⟩ : pl = some ⟨g2, 0, none⟩ ∧ ts.length = ts.length ∧ cl = cap2 := by
          injection hv2 with a b c
          exact ⟨a, rfl, c⟩
        have HC : ∀ j t', ts[j]? = some t' → wr.cell? ⟨g, j * 5 + 3, none⟩ = some (.int .i64 t'.line) ∧ wr.cell? ⟨g, j * 5 + 4, none⟩ = some (.int .i64 t'.col) := fun j t' h => by
          have hj : j < ts.length := by
            by_cases hj : j < ts.length
            · exact hj
            · rw [List.getElem?_eq_none (by omega)] at h; cases h
          exact ⟨(World.ownsRow.cellAt hor (j * 5 + 3) (by omega)).trans ((tokRows_get h 3 (by omega)).trans rfl), (World.ownsRow.cellAt hor (j * 5 + 4) (by omega)).trans ((tokRows_get h 4 (by omega)).trans rfl)⟩
        obtain ⟨c3, c4⟩ := HC k t ht
        have cx : wr.cell? ⟨g2, jl, none⟩ = some (.string (bs x)) := (World.ownsRow.cellAt hol jl (by omega)).trans (by unfold strRows; rw [List.getElem?_map, hx']; rfl)
        have hxs : x.length ≤ 65536 := Nat.le_trans (linesF_le l.length l x (List.mem_of_getElem? hx')) HL.out
        obtain ⟨L, hL⟩ : ∃ L, t.line = L := ⟨_, rfl⟩
        obtain ⟨C, hC⟩ : ∃ C, t.col = C := ⟨_, rfl⟩
        rw [hL] at c3 ol' hjl
        rw [hC] at c4 oc' ox'
        have lt1 : (k : Int) < ts.length := by omega
        have zx := bs_size x
        have a1 : ¬ (L : Int) < 1 := by omega
        have a2 : ¬ ((lines l).length : Int) < L := by omega
        have a3 : ¬ (C : Int) < 1 := by omega
        have a4 : ¬ (x.length : Int) + 1 < C := by omega
        have zl : wrap64 ((L : Int) - 1) = (jl : Int) := by
          rw [IntWalk.wrap64_in _ (by have := HLS.out; omega)]; omega
        have zl2 : (jl : Int) < (lines l).length := by omega
        have zc : wrap64 ((x.length : Int) + 1) = (x.length : Int) + 1 := IntWalk.wrap64_in _ (by omega)
        have ZK := Lib.hid (show wrap64 ((k : Int) + 1) = (k : Int) + 1 from IntWalk.wrap64_in _ (by have := HN.out; omega))
        have HCC := Lib.hid HC
        have HPR := Lib.hid hpr
        have HHT := Lib.hid ht
        have HLL := Lib.hid hL
        have HCL := Lib.hid hC
        clear hbr hor hol hv hg hgl hv2 hg2 hgl2 HC hpr ht ol oc ox hx hx' hjl hjn hL hC ol' oc' ox' hxs
        go_upto_region 10 with fail
        go_quiet (fail)
        go_upto_region 12 with fail
        have HX := Lib.hid (show ∀ (wz : World) (b : Int), b = (k : Int) + 1 → Below w3.heap.size w3 wz → ∃ (k' : Nat), Value.int .i64 b = .int .i64 k' ∧ k' ≤ ts.length ∧ Below w3.heap.size w3 wz by
          rintro wz b rfl hz
          exact ⟨k + 1, rfl, hlt, hz⟩)
        by_cases hk0 : k = 0
        · as_aux_lemma =>
          have nk : ¬ (0 : Int) < k := by omega
          go_quiet (fail)
          go_wp2_with fail
          go_roundw
          case measure => (first | (rw [ZK.out]; simp only [intOf]; omega) | (simp only [intOf]; omega))
          case rel => exact HX.out _ _ (by first | exact ZK.out | rfl | omega) (by repeat (first | exact HBR.out | apply bl_drewN))
        · obtain ⟨j, hj⟩ : ∃ j, k = j + 1 := ⟨k - 1, by omega⟩
          obtain ⟨tj, htj⟩ : ∃ t, ts[j]? = some t := ⟨_, List.getElem?_eq_getElem (by omega)⟩
          have hlp := HPR.out j tj hj htj
          unfold ltp at hlp
          dsimp only at hlp
          rw [HLL.out, HCL.out] at hlp
          obtain ⟨d3, d4⟩ := HCC.out j tj htj
          obtain ⟨LJ, hLJ⟩ : ∃ LJ, tj.line = LJ := ⟨_, rfl⟩
          obtain ⟨CJ, hCJ⟩ : ∃ CJ, tj.col = CJ := ⟨_, rfl⟩
          rw [hLJ] at d3 hlp
          rw [hCJ] at d4 hlp
          have gk : (0 : Int) < k := by omega
          have gk2 : 0 < k := by omega
          have gk3 : decide (0 < k) = true := decide_eq_true gk2
          have zj : wrap64 ((k : Int) - 1) = (j : Int) := by
            rw [IntWalk.wrap64_in _ (by have := HN.out; omega)]; omega
          have zj2 : (k : Int) - 1 = (j : Int) := by omega
          have zj3 : (j : Int) < ts.length := by omega
          have zj4 : IntKind.i64.wrap (j : Int) = (j : Int) := IntWalk.i64_in _ (by have := HN.out; omega)
          clear hj htj hLJ hCJ hk0
          rcases hlp with h1 | ⟨h1, h2⟩
          · as_aux_lemma =>
            have b1 : ¬ (L : Int) < LJ := by omega
            have b2 : ((L : Int) == LJ) = false := by rw [beq_eq_false_iff_ne]; omega
            clear h1
            go_quiet (fail)
            go_wp2_with fail
            go_roundw
            case measure => (first | (rw [ZK.out]; simp only [intOf]; omega) | (simp only [intOf]; omega))
            case rel => exact HX.out _ _ (by first | exact ZK.out | rfl | omega) (by repeat (first | exact HBR.out | apply bl_drewN))
          · as_aux_lemma =>
            subst h1
            have b1 : ¬ (LJ : Int) < LJ := by omega
            have b2 : ((LJ : Int) == LJ) = true := by rw [beq_iff_eq]
            have b3 : ¬ (C : Int) ≤ CJ := by omega
            clear h2
            go_quiet (fail)
            go_wp2_with fail
            go_roundw
            case measure => (first | (rw [ZK.out]; simp only [intOf]; omega) | (simp only [intOf]; omega))
            case rel => exact HX.out _ _ (by first | exact ZK.out | rfl | omega) (by repeat (first | exact HBR.out | apply bl_drewN))
      · have nlt : ¬ (k : Int) < ts.length := by omega
        have BB := Lib.hid (HB3.out.trans (hbr.mono HB3.out.size))
        clear hbr
        go_wp2_with fail
        go_ret
        exact ⟨rfl, BB.out⟩

set_option maxRecDepth 100000 in
theorem contract (H : Type) (enc : TypeId × Value → H) (W : World) (base : Nat) (args : Array Value) (ds gs : List (DataW H)) (before : List MemPlace)
    (hval : ∀ (j : Nat) t v, Tryz.f5.params[j]? = some t → args[j]? = some v → Value.okWide Tryz.prog W .any base t v)
    (hW : DataW.Whole enc Tryz.prog Tryz.f5.params.toList Rows.markPlacesSpec.vars false W args.toList ds gs before) (hsz0 : (DataW.weightsEach Tryz.prog (Tryz.f5.params.toList ++ Rows.markPlacesSpec.plain.varTypes Tryz.prog) (ds ++ gs)).all (· ≤ reachBytes) = true) (hT : Tabs W) :
    Calls Tryz.prog 5 args W fun e W' => ∃ v, e = .returned v ∧ Rows.markPlacesSpec.post enc Tryz.prog Tryz.f5 false true false false W args v W' := by
  have hW' := hW
  obtain ⟨p, q, hA0, hV, rfl, hfz, hnd⟩ := hW
  have hA : DataW.TrodAll enc Tryz.prog W 0 (fun _ => true) true Tryz.f5.params.toList args.toList ds p := hA0
  rw [Tryz.params5] at hA hval
  have hsz := hsz0
  rw [Tryz.params5] at hsz
  clear hsz0
  obtain ⟨v0, vs0, d0, ds0, p0, q0, hargs, rfl, rfl, h0, r0⟩ := trodAll_cons hA
  obtain ⟨rfl, rfl, rfl⟩ := trodAll_nil r0
  obtain rfl : args = #[v0] := by cases args; simp_all
  obtain ⟨rfl, rfl⟩ := trodVars_none hV
  obtain ⟨s0, rfl, rfl, rfl, hm0⟩ := open_string Tryz.underlying9 (hval 0 9 v0 rfl rfl) h0
  clear hA0
  refine (walk s0 W hm0 hT).mono fun e W' ⟨he, hg⟩ => ?_
  subst he
  have hlt := hW'.lt
  exact ⟨_, rfl, post_of_below (pa := ([] ++ [])) (pv := []) hW' (fun _ _ _ => trodAll_cons_mk (shut_bool Tryz.underlying4 _) trodAll_mk0) (fun sp hsp => (trodAll_cons_mk (shut_string Tryz.underlying9 hm0) trodAll_mk0)) (fun _ _ => rfl) rfl hg (ok_one (by kernel_rfl) rfl (okWide_bool_mk Tryz.underlying4 _))⟩

theorem witness_row (os : Os) {H : Type} (enc : TypeId × Value → H) :
    (OpenSpec.ofChange Rows.markPlacesSpec).preRow enc Tryz.prog Tryz.f5 Rows.markPlacesRow.domain false Rows.markPlacesRow.laid ((laidWorld os).forCall (fun _ _ => 0) ⟨#[], #[.string .empty], []⟩).memory #[.string .empty] := by
  have hw : (DataW.whole enc Tryz.prog ((laidWorld os).forCall (fun _ _ => 0) ⟨#[], #[.string .empty], []⟩).memory Tryz.f5.params.toList Rows.markPlacesSpec.vars false (#[.string .empty] : Array Value).toList 8).map (fun x => (x.1, x.2.1)) =
      some ([.lit (.string [])], []) := by kernel_rfl
  obtain ⟨⟨x1, x2, x3⟩, hx, hx1⟩ := Option.map_eq_some_iff.1 hw
  simp only [Prod.mk.injEq] at hx1
  obtain ⟨rfl, rfl⟩ := hx1
  exact OpenSpec.preRow_of_cond 8 hx (by kernel_rfl) (fun k hk => by cases hk) (by kernel_rfl) (laid_met os _)

set_option maxRecDepth 100000 in
theorem lifted (os : Os) (started : os.Started) (H : Type) (enc : TypeId × Value → H) (F : Stop.Interp) :
    ReturnsInHanded {} Tryz.checked os 5 .any ((OpenSpec.ofChange Rows.markPlacesSpec).preRow enc Tryz.prog Tryz.f5 Rows.markPlacesRow.domain false Rows.markPlacesRow.laid) (((OpenSpec.ofChange Rows.markPlacesSpec).at F).post enc Tryz.prog Tryz.f5 false true false false) := by
  refine returnsInHanded_of_row (C := Tryz.checked) (s := (OpenSpec.ofChange Rows.markPlacesSpec)) own started (by kernel_rfl) Tryz.func5
    (witness_row_at (enc := enc) (C := Tryz.checked) false (laidWorld os) #[.string .empty] rfl (by kernel_rfl) (by kernel_rfl) (by kernel_rfl) (witness_row os enc)) ?_
  intro W base args ds gs before hval hW _ hcond hsz hL hS _
  exact contract H enc W base args ds gs before hval hW hsz (tabs_of hL hS)

theorem row : Rows.MarkPlacesSaid :=
  OpenClaim.holds_of_cond 5 Tryz.f5 rfl rfl rfl rfl rfl rfl rfl ⟨rfl, rfl, rfl, rfl, rfl⟩ rfl rfl rfl rfl rfl (by kernel_rfl) Tryz.func5 (by kernel_rfl)
    (of_decide_eq_true (by kernel_rfl)) (by unfold Func.isWrapper; first | (rw [if_pos (by decide +kernel)]; kernel_rfl) | (rw [if_neg (by decide +kernel)]; exact ⟨rfl, rfl⟩))
    (fun os started H enc _ F => by rw [OpenClaim.pre_eq_preRow]; exact lifted os started H enc F)

theorem plain (f : FuncId) (fn : Func) (hf : Tryz.pinned.checked.prog.funcNamed Rows.markPlacesRow.func = some f) (hfn : Tryz.pinned.checked.prog.funcs[f]? = some fn) :
    true = Tryz.pinned.checked.prog.looks [] ∧ ∀ (j : Nat) t, fn.params[j]? = some t → Tryz.pinned.checked.prog.wantsStandIn t = false := by
  obtain rfl : f = 5 := Option.some.inj ((show Tryz.prog.funcNamed Rows.markPlacesRow.func = some 5 by kernel_rfl).symm.trans hf) |>.symm
  obtain rfl : fn = Tryz.f5 := (Option.some.inj (Tryz.func5.symm.trans hfn)).symm
  refine ⟨by kernel_rfl, fun j t ht => ?_⟩
  rw [Tryz.params5] at ht
  have hm : t ∈ [9] := by simpa using Array.mem_of_getElem? ht
  simp only [List.mem_cons, List.mem_nil_iff, or_false] at hm
  subst hm
  exact (show Tryz.prog.wantsStandIn 9 = false by kernel_rfl)

theorem proved : Rows.MarkPlacesCardSaid :=
  Claim7.holds_tied_plain_at .later [] _ _ _ _ row (fun _ h => by cases h) (by kernel_rfl) (fun _ h => by cases h) markPlaces_row_tie rfl ⟨rfl, rfl⟩ (by kernel_rfl) rfl plain (by kernel_rfl)
end Go.Proofs.YtklohbekmbnmdaaGreatDoor.markPlaces
