/- What is proved: OctetNone holds of any list of askings: a cursor that nobody made is one over no bytes. No condition but the form's own. -/
import Derived.Test.YtcgeldmbndaocaaDoorOAwake
import Derived.Test.YtcgeldmbndaocaaDoorAsk
import Derived.Test.YtcgeldmbndaocaaDoorOBytes
import Derived.Test.YtcgeldmbndaocaaDoorPost
import Derived.Test.YtcgeldmbndaocaaDoorOLft
import Derived.Test.YtcgeldmbndaocaaDoorCards
import Derived.Test.YtcgeldmbndaocaaDoorTie
import Derived.ProofKit
import Derived.OpenShut
import Derived.Deep.DeepHandedRow
import Derived.Deep.SlicePairs
import Derived.WideKeyArgs
namespace Go.Proofs.YtcgeldmbndaocaaDoor.octetNone
open Go.Deep Go.ChangeShapes Go.WideShapes Go.ChangeAt Go.RowKit Go.Maps
open Go.ChangeMaps (open_string shut_string)
set_option linter.unusedVariables false

/-- A list of askings. -/
def Asks (w : World) (v : Value) (l : List (Int × Int)) : Prop :=
  ∃ (pa : Option Addr) (cap : Nat), v = .slice pa l.length cap ∧ ∀ j (hj : j < l.length), ∃ b off, pa = some ⟨b, off, none⟩ ∧ w.cell? ⟨b, off + j * 2, none⟩ = some (.int .i64 l[j].1) ∧ w.cell? ⟨b, off + j * 2 + 1, none⟩ = some (.int .i64 l[j].2) ∧
    -9223372036854775808 ≤ l[j].2 ∧ l[j].2 ≤ 9223372036854775807
theorem asks_read {H : Type} {enc : TypeId × Value → H} {W : World} {v : Value} {d : DataW H} {p : List MemPlace} (h : DataW.Trod enc Tryd.prog W 0 (fun _ => true) true 42 v d p) (hv : ∃ pa len cap, v = .slice pa len cap) :
    ∃ l : List (Int × Int), Asks W v l ∧ (d = .nil ∧ l = [] ∨ ∃ es sp, d = .slice es sp ∧ es.length = l.length) := by
  obtain ⟨pa, len, cap, rfl⟩ := hv
  obtain ⟨n, hn⟩ := h
  rcases open_slice_pairs Tryd.underlying42 Tryd.underlying51 (by kernel_rfl) rfl rfl (by kernel_rfl) (by kernel_rfl) hn with ⟨h3, h4⟩ | ⟨a, l, c, m, n', V0, V1, D0, D1, P0, P1, h3, _, hlc, hcm, hm, hx, hall⟩
  · simp [Value.cells] at h3
    obtain ⟨rfl, rfl, rfl⟩ := h3
    cases h4
    exact ⟨[], ⟨none, 0, rfl, fun j hj => absurd hj (by simp)⟩, .inl ⟨rfl, rfl⟩⟩
  · simp [Value.cells] at h3
    obtain ⟨rfl, rfl, rfl⟩ := h3
    have hmc : m = cap := by simpa using hm
    subst hmc
    cases hx
    have each : ∀ i, i < len → ∃ z0 z1 : Int, W.cell? (a.add (i * 2)) = some (.int .i64 z0) ∧ W.cell? (a.add (i * 2 + 1)) = some (.int .i64 z1) ∧ (Lit.int .i64 z1).wf = true := by
      intro i hi
      obtain ⟨k0, k1, t0, t1⟩ := hall i (by omega)
      obtain ⟨z0, e0, _, _⟩ := DataW.trod_int Tryd.underlying3 t0
      obtain ⟨z1, e1, _, w1⟩ := DataW.trod_int Tryd.underlying3 t1
      simp at e0 e1
      exact ⟨z0, z1, by rw [k0, e0], by rw [k1, e1], w1⟩
    obtain ⟨f, hf⟩ : ∃ f : Nat → Int × Int, ∀ i, i < len → W.cell? (a.add (i * 2)) = some (.int .i64 (f i).1) ∧ W.cell? (a.add (i * 2 + 1)) = some (.int .i64 (f i).2) ∧ (Lit.int .i64 (f i).2).wf = true := by
      have : ∀ i, ∃ q : Int × Int, i < len → W.cell? (a.add (i * 2)) = some (.int .i64 q.1) ∧ W.cell? (a.add (i * 2 + 1)) = some (.int .i64 q.2) ∧ (Lit.int .i64 q.2).wf = true := by
        intro i
        by_cases hi : i < len
        · obtain ⟨z0, z1, h1⟩ := each i hi
          exact ⟨(z0, z1), fun _ => h1⟩
        · exact ⟨(0, 0), fun h => absurd h hi⟩
      exact ⟨fun i => Classical.choose (this i), fun i hi => Classical.choose_spec (this i) hi⟩
    refine ⟨(List.range len).map f, ⟨_, _, by simp; exact ⟨rfl, rfl⟩, fun j hj => ?_⟩, .inr ⟨_, _, rfl, by simp⟩⟩
    have hj' : j < len := by simpa using hj
    obtain ⟨b, off, spot⟩ := a
    obtain ⟨q0, q1, q2⟩ := hf j hj'
    have hspot : spot = none := by
      have := (hf 0 (by omega)).1
      simpa [Addr.add] using World.cell?_spot this
    subst hspot
    rw [Go.WideShapes.add_plain] at q0 q1
    refine ⟨b, off, rfl, by simpa using q0, by simpa [Nat.add_assoc] using q1, ?_⟩
    simpa [Lit.wf, IntKind.min, IntKind.max, IntKind.signed, IntKind.bits] using q2
theorem asks_reach {H : Type} {d : DataW H} {l : List (Int × Int)} {ts : List TypeId} {ds : List (DataW H)} {j : Nat} (h : (DataW.weightsEach Tryd.prog ts ds).all (· ≤ reachBytes) = true) (ht : ts[j]? = some 42) (hd : ds[j]? = some d)
    (hl : d = .nil ∧ l = [] ∨ ∃ es sp, d = .slice es sp ∧ es.length = l.length) : l.length ≤ 140737488351232 := by
  rcases hl with ⟨_, rfl⟩ | ⟨es, sp, rfl, he⟩
  · simp
  · have := sized_slice h ht hd Tryd.underlying42
    rw [show Tryd.prog.bytesOf 51 = 16 by kernel_rfl] at this
    simp only [reachBytes] at this
    omega

theorem asked_any (B g h : Nat) (f kd n : Int) (w : World) (hk : 0 ≤ kd ∧ kd ≤ 8) (hc : Cur w g [] 0 f) (hr : RCur w h f) (hgh : g ≠ h) (hBg : B ≤ g) (hBh : B ≤ h) (hBw : B ≤ w.heap.size) (hn : -9223372036854775808 ≤ n ∧ n ≤ 9223372036854775807) (hT : ∀ w', Below B w w' → Tabs w') :
    Calls Tryd.prog 26 #[.pointer (some ⟨g, 0, none⟩), .pointer (some ⟨h, 0, none⟩), .agg #[.int .i64 kd, .int .i64 n]] w (Alike B g h w) := by
  have h9 : kd = 0 ∨ kd = 1 ∨ kd = 2 ∨ kd = 3 ∨ kd = 4 ∨ kd = 5 ∨ kd = 6 ∨ kd = 7 ∨ kd = 8 := by omega
  rcases h9 with rfl | rfl | rfl | rfl | rfl | rfl | rfl | rfl | rfl
  · exact asked_0 B g h f n w hc hr hgh hBg hBh hBw hn hT
  · exact asked_1 B g h f n w hc hr hgh hBg hBh hBw hn hT
  · exact asked_2 B g h f n w hc hr hgh hBg hBh hBw hn hT
  · exact asked_3 B g h f n w hc hr hgh hBg hBh hBw hn hT
  · exact asked_4 B g h f n w hc hr hgh hBg hBh hBw hn hT
  · exact asked_5 B g h f n w hc hr hgh hBg hBh hBw hn hT
  · exact asked_6 B g h f n w hc hr hgh hBg hBh hBw hn hT
  · exact asked_7 B g h f n w hc hr hgh hBg hBh hBw hn hT
  · exact asked_8 B g h f n w hc hr hgh hBg hBh hBw hn hT

set_option maxRecDepth 100000 in
set_option maxHeartbeats 4000000 in
theorem walk (v : Value) (l : List (Int × Int)) (W : World) (hv : Asks W v l) (bl : l.length ≤ 140737488351232) (hT : Tabs W) :
    Calls Tryd.prog 4 #[v] W fun e W' => e = .returned (.bool true) ∧ Below W.heap.size W W' := by
  have HT := Lib.hid hT
  obtain ⟨pa, ca, rfl, hcell⟩ := hv
  have HC := Lib.hid hcell
  clear hT hcell
  go_enter Tryd.func4, Tryd.ntmps4
  go_wp2_with fail
  refine (awake_law _ HT.out).mono ?_
  rintro e w1 ⟨rfl, hb1⟩
  have B1 := Lib.hid hb1
  clear hb1
  have C0 := Lib.hid (show Cur ((w1.alloc (.cells #[.slice none 0 0, .int .i64 0, .int .i64 0] 46)).alloc (.cells #[.slice none 0 0, .int .i64 0, .int .i64 0] 49)) w1.heap.size [] 0 0 from
    Cur.below ⟨_, heap_alloc_new w1 _, Rd.nil _, Nat.le_refl _, Nat.zero_le _⟩ ((Below.refl _ _).alloc (Nat.le_refl _) _))
  have R0 := Lib.hid (show RCur ((w1.alloc (.cells #[.slice none 0 0, .int .i64 0, .int .i64 0] 46)).alloc (.cells #[.slice none 0 0, .int .i64 0, .int .i64 0] 49)) (w1.heap.size + 1) 0 from by
    have h := heap_alloc_new (w1.alloc (.cells #[.slice none 0 0, .int .i64 0, .int .i64 0] 46)) (.cells #[.slice none 0 0, .int .i64 0, .int .i64 0] 49)
    rw [show (w1.alloc (.cells #[.slice none 0 0, .int .i64 0, .int .i64 0] 46)).heap.size = w1.heap.size + 1 by simp] at h
    exact h)
  have B0 := Lib.hid (show Below w1.heap.size w1 ((w1.alloc (.cells #[.slice none 0 0, .int .i64 0, .int .i64 0] 46)).alloc (.cells #[.slice none 0 0, .int .i64 0, .int .i64 0] 49)) from ((Below.refl _ _).alloc (Nat.le_refl _) _).alloc (by simp) _)
  have HT1 := Lib.hid (show ∀ w', Below w1.heap.size w1 w' → Tabs w' from fun w' h => (HT.out.at B1.out).at h)
  obtain ⟨B, eB⟩ : ∃ B, w1.heap.size = B := ⟨_, rfl⟩
  have EB := Lib.hid eB
  have LB := Lib.hid (show W.heap.size ≤ B by rw [← eB]; exact B1.out.size)
  rw [eB] at C0 R0 B0 HT1
  go_wp2_with fail
  go_loopw [7, 16] (fun _ i wr => ∃ (k : Nat) (f : Int), i = .int .i64 k ∧ k ≤ l.length ∧ Cur wr B [] 0 f ∧ RCur wr (B + 1) f ∧ Below B w1 wr) (fun _ i _ => l.length - (intOf i).toNat)
  case atStart => exact ⟨0, 0, rfl, Nat.zero_le _, C0.out, R0.out, B0.out⟩
  case round =>
    obtain ⟨k, f, rfl, hk, hc, hr, hb⟩ := hrel
    have HCc := Lib.hid hc
    have HR := Lib.hid hr
    have HB := Lib.hid hb
    clear hc hr hb eB
    by_cases hlt : k < l.length
    · obtain ⟨b, off, rfl, x0, x1, hn⟩ := HC.out k hlt
      have y0 := (HB.out.cell (p := ⟨b, off + k * 2, none⟩) (by have := cell_in x0; have := LB.out; show b < B; omega)).trans ((B1.out.cell (p := ⟨b, off + k * 2, none⟩) (cell_in x0)).trans x0)
      have y1 := (HB.out.cell (p := ⟨b, off + k * 2 + 1, none⟩) (by have := cell_in x1; have := LB.out; show b < B; omega)).trans ((B1.out.cell (p := ⟨b, off + k * 2 + 1, none⟩) (cell_in x1)).trans x1)
      obtain ⟨kd, ek⟩ : ∃ kd, l[k].1 = kd := ⟨_, rfl⟩
      obtain ⟨n, en⟩ : ∃ n, l[k].2 = n := ⟨_, rfl⟩
      rw [ek] at y0
      rw [en] at y1 hn
      have HN := Lib.hid hn
      clear x0 x1 hn ek en
      have SB := Lib.hid (show B ≤ wr.heap.size by have := HB.out.size; have := EB.out; omega)
      have BA := Lib.hid ((Below.refl wr.heap.size wr).alloc (Nat.le_refl _) (.cells #[.int .i64 kd, .int .i64 n] 51))
      have CA := Lib.hid (HCc.out.below BA.out)
      have RA := Lib.hid (HR.out.below BA.out)
      have BB := Lib.hid (HB.out.trans (BA.out.mono SB.out))
      by_cases hkd : 0 ≤ kd ∧ kd ≤ 8
      · obtain ⟨hk0, hk8⟩ := hkd
        obtain ⟨d0, d1⟩ := cell_new2 wr (.int .i64 kd) (.int .i64 n) 51
        have DD := Lib.hid (show Below (wr.alloc (.cells #[.int .i64 kd, .int .i64 n] 51)).heap.size (wr.alloc (.cells #[.int .i64 kd, .int .i64 n] 51)) (wr.alloc (.cells #[.int .i64 kd, .int .i64 n] 51)).drew from (Below.refl _ _).drew)
        have AS := Lib.hid (asked_any B B (B + 1) f kd n (wr.alloc (.cells #[.int .i64 kd, .int .i64 n] 51)).drew ⟨hk0, hk8⟩ (CA.out.below DD.out) (RA.out.below DD.out) (by omega) (Nat.le_refl _) (by omega) (Nat.le_trans SB.out (Nat.le_trans BA.out.size DD.out.size)) HN.out (fun w' h => HT1.out w' (BB.out.drew.trans h)))
        have BD := Lib.hid (show Below B w1 (wr.alloc (.cells #[.int .i64 kd, .int .i64 n] 51)).drew from BB.out.drew)
        go_wp2_with fail
        clear y0 y1
        go_region_with (first
          | (go_at_call 26; refine AS.out.mono ?_; rintro e w9 ⟨rfl, f', hc, hr, hb⟩; have C9 := Lib.hid hc; have R9 := Lib.hid hr; have B9 := Lib.hid (BD.out.trans hb); obtain ⟨_, _, r2, _⟩ := hr.cells; have S9 := Lib.hid (Nat.le_trans (Nat.le_trans SB.out (Nat.le_trans BA.out.size DD.out.size)) hb.size); clear hc hr hb)
          | (go_at_call 27; refine (err_pro B [] 0 f' _ C9.out).mono ?_; rintro e w8 ⟨rfl, rfl⟩)
          | (go_at_call 28; refine (at_pro B [] 0 f' _ C9.out).mono ?_; rintro e w8 ⟨rfl, rfl⟩)
          | (go_at_call 29; refine (left_pro B [] 0 f' _ C9.out).mono ?_; rintro e w8 ⟨rfl, hb⟩; have C10 := Lib.hid (C9.out.below hb); have R10 := Lib.hid (R9.out.below hb); have B10 := Lib.hid (B9.out.trans (hb.mono S9.out)); clear hb))
        all_goals
          go_wp2_with fail
          go_roundw
        all_goals first | exact ⟨k + 1, f', by go_num, by omega, C10.out, R10.out, B10.out⟩ | (simp [intOf]; done) | (simp [intOf]; omega)
      · by_cases hk0 : kd < 0
        · clear hkd
          go_wp2_with fail
          go_roundw
          case rel => exact ⟨k + 1, f, by go_num, by omega, CA.out, RA.out, BB.out⟩
          case measure => simp [intOf]; omega
        · have hk8 : (8 : Int) < kd := by omega
          clear hkd
          go_wp2_with fail
          go_roundw
          case rel => exact ⟨k + 1, f, by go_num, by omega, CA.out, RA.out, BB.out⟩
          case measure => simp [intOf]; omega
    · have BW := Lib.hid (B1.out.trans (HB.out.mono LB.out))
      go_wp2_with fail
      refine (at_nil _).mono ?_
      rintro e w2 ⟨rfl, rfl⟩
      go_wp2_with fail
      refine (left_nil _).mono ?_
      rintro e w2 ⟨rfl, rfl⟩
      go_wp2_with fail
      refine (byte_nil _).mono ?_
      rintro e w2 ⟨rfl, rfl⟩
      go_wp2_with fail
      refine (uint_nil _).mono ?_
      rintro e w2 ⟨rfl, rfl⟩
      go_wp2_with fail
      refine (take_nil _).mono ?_
      rintro e w2 ⟨v2, rfl, ho, hb⟩
      obtain ⟨p2, c2, rfl, _⟩ := (Rd.own ho).form
      have B2 := Lib.hid (BW.out.trans (hb.mono BW.out.size))
      clear ho hb
      go_wp2_with fail
      go_ret
      exact ⟨rfl, B2.out⟩

set_option maxRecDepth 100000 in
theorem contract (H : Type) (enc : TypeId × Value → H) (W : World) (base : Nat) (args : Array Value) (ds gs : List (DataW H)) (before : List MemPlace)
    (hval : ∀ (j : Nat) t v, Tryd.f4.params[j]? = some t → args[j]? = some v → Value.okWide Tryd.prog W .any base t v)
    (hW : DataW.Whole enc Tryd.prog Tryd.f4.params.toList Rows.octetNoneSpec.vars false W args.toList ds gs before) (hsz0 : (DataW.weightsEach Tryd.prog (Tryd.f4.params.toList ++ Rows.octetNoneSpec.plain.varTypes Tryd.prog) (ds ++ gs)).all (· ≤ reachBytes) = true) (hT : Tabs W) :
    Calls Tryd.prog 4 args W fun e W' => ∃ v, e = .returned v ∧ Rows.octetNoneSpec.post enc Tryd.prog Tryd.f4 false true false false W args v W' := by
  have hW' := hW
  obtain ⟨p, q, hA0, hV, rfl, hfz, hnd⟩ := hW
  have hA : DataW.TrodAll enc Tryd.prog W 0 (fun _ => true) true Tryd.f4.params.toList args.toList ds p := hA0
  rw [Tryd.params4] at hA hval
  have hsz := hsz0
  rw [Tryd.params4] at hsz
  clear hsz0
  obtain ⟨v0, vs0, d0, ds0, p0, q0, hargs, rfl, rfl, h0, r0⟩ := trodAll_cons hA
  obtain ⟨rfl, rfl, rfl⟩ := trodAll_nil r0
  obtain rfl : args = #[v0] := by cases args; simp_all
  obtain ⟨rfl, rfl⟩ := trodVars_none hV
  have hk0 := h0
  obtain ⟨l0, hR0, hD0⟩ := asks_read h0 (okWide_slice Tryd.underlying42 (hval 0 42 v0 rfl rfl))
  clear hA0
  have size0 := asks_reach hsz (j := 0) rfl rfl hD0
  refine (walk v0 l0 W hR0 size0 hT).mono fun e W' ⟨he, hg⟩ => ?_
  subst he
  have hlt := hW'.lt
  exact ⟨_, rfl, post_of_below (pa := (p0 ++ [])) (pv := []) hW' (fun _ _ _ => trodAll_cons_mk (shut_bool Tryd.underlying4 _) trodAll_mk0) (fun sp hsp => (trodAll_cons_mk (Go.WideElems.Trod_stays (by kernel_rfl) (by kernel_rfl) (of_decide_eq_true (by kernel_rfl)) hk0 (fun p hp => hg.same (hlt p (by simp [hp]))) (fun p hp => hsp p (by simp [hp]))) trodAll_mk0)) (fun _ _ => rfl) rfl hg (ok_one (by kernel_rfl) rfl (okWide_bool_mk Tryd.underlying4 _))⟩

theorem witness_row (os : Os) {H : Type} (enc : TypeId × Value → H) :
    (OpenSpec.ofChange Rows.octetNoneSpec).preRow enc Tryd.prog Tryd.f4 Rows.octetNoneRow.domain false Rows.octetNoneRow.laid ((laidWorld os).forCall (fun _ _ => 0) ⟨#[], #[.slice none 0 0], []⟩).memory #[.slice none 0 0] := by
  have hw : (DataW.whole enc Tryd.prog ((laidWorld os).forCall (fun _ _ => 0) ⟨#[], #[.slice none 0 0], []⟩).memory Tryd.f4.params.toList Rows.octetNoneSpec.vars false (#[.slice none 0 0] : Array Value).toList 8).map (fun x => (x.1, x.2.1)) =
      some ([.nil], []) := by kernel_rfl
  obtain ⟨⟨x1, x2, x3⟩, hx, hx1⟩ := Option.map_eq_some_iff.1 hw
  simp only [Prod.mk.injEq] at hx1
  obtain ⟨rfl, rfl⟩ := hx1
  exact OpenSpec.preRow_of_cond 8 hx (by kernel_rfl) (fun k hk => by cases hk) (by kernel_rfl) (laid_met os _)

set_option maxRecDepth 100000 in
theorem lifted (os : Os) (started : os.Started) (H : Type) (enc : TypeId × Value → H) (F : Stop.Interp) :
    ReturnsInHanded {} Tryd.checked os 4 .any ((OpenSpec.ofChange Rows.octetNoneSpec).preRow enc Tryd.prog Tryd.f4 Rows.octetNoneRow.domain false Rows.octetNoneRow.laid) (((OpenSpec.ofChange Rows.octetNoneSpec).at F).post enc Tryd.prog Tryd.f4 false true false false) := by
  refine returnsInHanded_of_row (C := Tryd.checked) (s := (OpenSpec.ofChange Rows.octetNoneSpec)) own started (by kernel_rfl) Tryd.func4
    (witness_row_at (enc := enc) (C := Tryd.checked) false (laidWorld os) #[.slice none 0 0] rfl (by kernel_rfl) (by kernel_rfl) (by kernel_rfl) (witness_row os enc)) ?_
  intro W base args ds gs before hval hW _ hcond hsz hL hS _
  exact contract H enc W base args ds gs before hval hW hsz (tabs_of hL)

theorem row : Rows.OctetNoneSaid :=
  OpenClaim.holds_of_cond 4 Tryd.f4 rfl rfl rfl rfl rfl rfl rfl ⟨rfl, rfl, rfl, rfl, rfl⟩ rfl rfl rfl rfl rfl (by kernel_rfl) Tryd.func4 (by kernel_rfl)
    (of_decide_eq_true (by kernel_rfl)) (by unfold Func.isWrapper; first | (rw [if_pos (by decide +kernel)]; kernel_rfl) | (rw [if_neg (by decide +kernel)]; exact ⟨rfl, rfl⟩))
    (fun os started H enc _ F => by rw [OpenClaim.pre_eq_preRow]; exact lifted os started H enc F)

theorem plain (f : FuncId) (fn : Func) (hf : Tryd.pinned.checked.prog.funcNamed Rows.octetNoneRow.func = some f) (hfn : Tryd.pinned.checked.prog.funcs[f]? = some fn) :
    false = Tryd.pinned.checked.prog.looks [] ∧ ∀ (j : Nat) t, fn.params[j]? = some t → Tryd.pinned.checked.prog.wantsStandIn t = false := by
  obtain rfl : f = 4 := Option.some.inj ((show Tryd.prog.funcNamed Rows.octetNoneRow.func = some 4 by kernel_rfl).symm.trans hf) |>.symm
  obtain rfl : fn = Tryd.f4 := (Option.some.inj (Tryd.func4.symm.trans hfn)).symm
  refine ⟨by kernel_rfl, fun j t ht => ?_⟩
  rw [Tryd.params4] at ht
  have hm : t ∈ [42] := by simpa using Array.mem_of_getElem? ht
  simp only [List.mem_cons, List.mem_nil_iff, or_false] at hm
  subst hm
  exact (show Tryd.prog.wantsStandIn 42 = false by kernel_rfl)

theorem proved : Rows.OctetNoneCardSaid :=
  Claim7.holds_tied_plain_at .later [] _ _ _ _ row (fun _ h => by cases h) (by kernel_rfl) (fun _ h => by cases h) octetNone_row_tie rfl ⟨rfl, rfl⟩ (by kernel_rfl) rfl plain (by kernel_rfl)
end Go.Proofs.YtcgeldmbndaocaaDoor.octetNone
