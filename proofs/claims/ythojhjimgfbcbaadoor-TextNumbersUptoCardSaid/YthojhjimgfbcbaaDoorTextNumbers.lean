/- What is proved: TextNumbers holds of any two texts about any two numbers: Compare puts numbers in their order. Its condition: what comes in is of bulk at most 1048576 (the statement's second form). -/
import Derived.Test.YthojhjimgfbcbaaDoorAwake
import Derived.Test.YthojhjimgfbcbaaDoorPost
import Derived.Test.YthojhjimgfbcbaaDoorPdig
import Derived.Test.YthojhjimgfbcbaaDoorLft
import Derived.Test.YthojhjimgfbcbaaDoorCards
import Derived.Test.YthojhjimgfbcbaaDoorTie
import Derived.ProofKit
import Derived.OpenShut
import Derived.Deep.DeepHandedRow
import Derived.Deep.CutRange
namespace Go.Proofs.YthojhjimgfbcbaaDoor.textNumbers
open Go.ChangeShapes Go.WideShapes Go.ChangeAt Go.RowKit
open Go.ChangeMaps (open_string shut_string)
set_option linter.unusedVariables false

theorem nat_of {a : Int} (h : (Lit.int .u64 a).wf = true) : ∃ n : Nat, a = n ∧ n < 18446744073709551616 := by
  have h2 : 0 ≤ a ∧ a ≤ 18446744073709551615 := by simpa [Lit.wf, IntKind.min, IntKind.max, IntKind.signed, IntKind.bits] using h
  exact ⟨a.toNat, by omega, by omega⟩

theorem nd_size {d : ByteArray} {a : Int} {n : Nat} (h : d.data.toList = b8 (nd (nt a) n)) (hn : n < 18446744073709551616) : d.size ≤ 24 := by
  have h1 := dl_len 19 n (by omega)
  have h2 := nt_le a
  have h3 : d.size = (nd (nt a) n).length := by rw [← b8_len, ← h, ← Lib.size_eq]
  rw [h3]
  unfold nd
  rw [List.length_append, List.length_replicate]
  omega
theorem head_first {tl : ByteArray} {x : UInt8} (hsz : 0 < tl.size) (h : tl[0]'hsz = x) : tl.data.toList.head? = some x := by
  have h1 := list_get tl 0 hsz
  rw [h] at h1
  rw [List.head?_eq_getElem?]
  exact h1

theorem tail_cases (tl : ByteArray) : (tl.toList.isEmpty = true ∧ (!tl.toList.isEmpty) = false ∧ tl.toList = [] ∧ Hid (∀ b, tl.data.toList.head? = some b → b.toNat < 48 ∨ 57 < b.toNat)) ∨
      ∃ (x : UInt8) (hsz : 0 < tl.size), (tl[0]'hsz) = x ∧ tl.toList.isEmpty = false ∧ (!tl.toList.isEmpty) = true ∧ ¬ tl.toList = [] ∧
        ((((48 : Int) ≤ x.toNat) ∧ ((x.toNat : Int) ≤ 57)) ∨ (((48 : Int) ≤ x.toNat) ∧ (¬ (x.toNat : Int) ≤ 57) ∧ Hid (∀ b, tl.data.toList.head? = some b → b.toNat < 48 ∨ 57 < b.toNat)) ∨ ((¬ (48 : Int) ≤ x.toNat) ∧ Hid (∀ b, tl.data.toList.head? = some b → b.toNat < 48 ∨ 57 < b.toNat))) := by
  by_cases ht0 : tl.toList = []
  · left
    have e2 : tl.toList.isEmpty = true := by rw [ht0]; rfl
    refine ⟨e2, by rw [e2]; rfl, ht0, Lib.hid ?_⟩
    intro b hb
    rw [← ByteArray.toList_eq, ht0] at hb
    simp at hb
  · right
    have e2 : tl.toList.isEmpty = false := by simpa using ht0
    have e1 : (!tl.toList.isEmpty) = true := by rw [e2]; rfl
    have hsz : 0 < tl.size := by have h9 := emptyB tl; rw [e1] at h9; exact of_decide_eq_true h9.symm
    refine ⟨_, hsz, rfl, e2, e1, ht0, ?_⟩
    have hf := head_first hsz rfl
    by_cases c1 : (48 : Int) ≤ (tl[0]'hsz).toNat
    · by_cases c2 : ((tl[0]'hsz).toNat : Int) ≤ 57
      · exact .inl ⟨c1, c2⟩
      · refine .inr (.inl ⟨c1, c2, Lib.hid ?_⟩)
        intro b hb
        rw [hf] at hb
        cases hb
        omega
    · refine .inr (.inr ⟨c1, Lib.hid ?_⟩)
      intro b hb
      rw [hf] at hb
      cases hb
      omega

set_option maxRecDepth 100000 in
set_option maxHeartbeats 4000000 in
theorem walk (hd tl : ByteArray) (am an a : Int) (hh : hd.size ≤ 1048576) (ht : tl.size ≤ 1048576) (wm : (Lit.int .u64 am).wf = true) (wn : (Lit.int .u64 an).wf = true) (wa : (Lit.int .i64 a).wf = true) (w : World) (hT : Tabs w) :
    Calls Tryd.prog 12 #[.string hd, .string tl, .int .u64 am, .int .u64 an, .int .i64 a] w fun e w' => e = .returned (.bool true) ∧ Below w.heap.size w w' := by
  obtain ⟨m, rfl, hm⟩ := nat_of wm
  obtain ⟨n, rfl, hn⟩ := nat_of wn
  have HS := Lib.hid hh
  have TS := Lib.hid ht
  have WA := Lib.hid wa
  have HTW := Lib.hid hT
  have hl : (chars hd).length ≤ 1048576 := Nat.le_trans (chars_len hd) hh
  clear wm wn wa hT
  go_enter Tryd.func12, Tryd.ntmps12
  go_wp2_with fail
  refine (awake_law _ HTW.out).mono ?_
  rintro e w1 ⟨rfl, h1⟩
  have Z1 := Lib.hid h1
  clear h1
  go_wp2_with fail
  refine (chars_ref hd _ (Nat.le_trans HS.out (by decide))).mono ?_
  rintro e w2 ⟨v, xs, rfl, how, hx, hb⟩
  have Z2 := Lib.hid (Z1.out.trans (hb.mono Z1.out.size))
  have OW := Lib.hid how
  have HX := Lib.hid hx
  clear how hx hb
  have FT := Lib.hid (show (tl.toList.isEmpty = true ∧ (!tl.toList.isEmpty) = false ∧ tl.toList = [] ∧ Hid (∀ b, tl.data.toList.head? = some b → b.toNat < 48 ∨ 57 < b.toNat)) ∨
      ∃ (x : UInt8) (hsz : 0 < tl.size), (tl[0]'hsz) = x ∧ tl.toList.isEmpty = false ∧ (!tl.toList.isEmpty) = true ∧ ¬ tl.toList = [] ∧
        ((((48 : Int) ≤ x.toNat) ∧ ((x.toNat : Int) ≤ 57)) ∨ (((48 : Int) ≤ x.toNat) ∧ (¬ (x.toNat : Int) ≤ 57) ∧ Hid (∀ b, tl.data.toList.head? = some b → b.toNat < 48 ∨ 57 < b.toNat)) ∨ ((¬ (48 : Int) ≤ x.toNat) ∧ Hid (∀ b, tl.data.toList.head? = some b → b.toNat < 48 ∨ 57 < b.toNat))) from tail_cases tl)
  have FH := Lib.hid (show (((chars hd).length : Int) = 0 ∧ Hid (∀ c, (chars hd).getLast? = some c → isDig c = false) ∧ ∃ p cp, v = .slice p (chars hd).length cp) ∨
      ∃ (k g cap : Nat) (c : Ch), v = .slice (some ⟨g, 0, none⟩) (chars hd).length cap ∧ w2.cell? ⟨g, k * 4, none⟩ = some (.int .i32 c.2.1) ∧ wrap64 (k : Int) = k ∧ ((k : Int)).toNat = k ∧ (k : Int) < (k : Int) + 1 ∧ (0 : Int) < (k : Int) + 1 ∧ (0 : Int) ≤ k ∧ ((chars hd).length : Int) = (k : Int) + 1 ∧
        ((((48 : Int) ≤ c.2.1) ∧ ((c.2.1 : Int) ≤ 57)) ∨ (((48 : Int) ≤ c.2.1) ∧ (¬ (c.2.1 : Int) ≤ 57) ∧ Hid (∀ c', (chars hd).getLast? = some c' → isDig c' = false)) ∨ ((¬ (48 : Int) ≤ c.2.1) ∧ Hid (∀ c', (chars hd).getLast? = some c' → isDig c' = false))) by
    rcases Nat.eq_zero_or_pos (chars hd).length with h0 | h0
    · left
      refine ⟨by omega, Lib.hid ?_, lenOf OW.out⟩
      intro c hc
      rw [List.eq_nil_of_length_eq_zero h0] at hc
      simp at hc
    · right
      obtain ⟨k, hk⟩ : ∃ k, (chars hd).length = k + 1 := ⟨(chars hd).length - 1, by omega⟩
      obtain ⟨g, cap, rfl, hg, hgl⟩ := World.ownsRow.form OW.out (by omega)
      obtain ⟨c, hc⟩ : ∃ c, (chars hd)[k]? = some c := ⟨_, List.getElem?_eq_getElem (by omega)⟩
      have hxl := HX.out.1
      have g0 := (World.ownsRow.cellAt OW.out (k * 4) (by omega)).trans (HX.out.2 k c hc).1
      have HL : (chars hd).getLast? = some c := by rw [List.getLast?_eq_getElem?, hk, ← hc]; rfl
      refine ⟨k, g, cap, c, rfl, g0, by unfold wrap64; omega, by omega, by omega, by omega, by omega, by omega, ?_⟩
      by_cases b1 : (48 : Int) ≤ c.2.1
      · by_cases b2 : (c.2.1 : Int) ≤ 57
        · exact .inl ⟨b1, b2⟩
        · refine .inr (.inl ⟨b1, b2, Lib.hid ?_⟩)
          intro c' hc'
          rw [HL] at hc'
          cases hc'
          exact not_dig c (.inr (by omega))
      · refine .inr (.inr ⟨b1, Lib.hid ?_⟩)
        intro c' hc'
        rw [HL] at hc'
        cases hc'
        exact not_dig c (.inl (by omega)))
  clear hl OW HX
  go_upto_region 4 with fail
  go_cut [53] from 17 to 53 (fun b wx => ∃ x : Bool, b = .bool x ∧ wx = w2 ∧ (x = false → (∀ c, (chars hd).getLast? = some c → isDig c = false) ∧ (∀ b, tl.data.toList.head? = some b → b.toNat < 48 ∨ 57 < b.toNat)))
  case first =>
    rcases FH.out with ⟨h0, HH, p, cp, rfl⟩ | ⟨k, g, cap, c, rfl, g0, kl, kt, klt, kp, k0, hk', hc⟩
    · rcases FT.out with ⟨e2, e1, ht0, HT⟩ | ⟨x, hsz, t0, e2, e1, ht0, hc⟩
      · go_wp2_with fail
        go_meet
        case rel => exact ⟨_, rfl, rfl, fun _ => ⟨HH.out, HT.out⟩⟩
      · rcases hc with ⟨c1, c2⟩ | ⟨c1, c2, HT⟩ | ⟨c1, HT⟩
        · go_wp2_with fail
          go_meet
          case rel => exact ⟨_, rfl, rfl, fun h => by cases h⟩
        · go_wp2_with fail
          go_meet
          case rel => exact ⟨_, rfl, rfl, fun _ => ⟨HH.out, HT.out⟩⟩
        · go_wp2_with fail
          go_meet
          case rel => exact ⟨_, rfl, rfl, fun _ => ⟨HH.out, HT.out⟩⟩
    · rcases hc with ⟨b1, b2⟩ | ⟨b1, b2, HH⟩ | ⟨b1, HH⟩
      · go_wp2_with fail
        go_meet
        case rel => exact ⟨_, rfl, rfl, fun h => by cases h⟩
      · rcases FT.out with ⟨e2, e1, ht0, HT⟩ | ⟨x, hsz, t0, e2, e1, ht0, hc⟩
        · go_wp2_with fail
          go_meet
          case rel => exact ⟨_, rfl, rfl, fun _ => ⟨HH.out, HT.out⟩⟩
        · rcases hc with ⟨c1, c2⟩ | ⟨c1, c2, HT⟩ | ⟨c1, HT⟩
          · go_wp2_with fail
            go_meet
            case rel => exact ⟨_, rfl, rfl, fun h => by cases h⟩
          · go_wp2_with fail
            go_meet
            case rel => exact ⟨_, rfl, rfl, fun _ => ⟨HH.out, HT.out⟩⟩
          · go_wp2_with fail
            go_meet
            case rel => exact ⟨_, rfl, rfl, fun _ => ⟨HH.out, HT.out⟩⟩
      · rcases FT.out with ⟨e2, e1, ht0, HT⟩ | ⟨x, hsz, t0, e2, e1, ht0, hc⟩
        · go_wp2_with fail
          go_meet
          case rel => exact ⟨_, rfl, rfl, fun _ => ⟨HH.out, HT.out⟩⟩
        · rcases hc with ⟨c1, c2⟩ | ⟨c1, c2, HT⟩ | ⟨c1, HT⟩
          · go_wp2_with fail
            go_meet
            case rel => exact ⟨_, rfl, rfl, fun h => by cases h⟩
          · go_wp2_with fail
            go_meet
            case rel => exact ⟨_, rfl, rfl, fun _ => ⟨HH.out, HT.out⟩⟩
          · go_wp2_with fail
            go_meet
            case rel => exact ⟨_, rfl, rfl, fun _ => ⟨HH.out, HT.out⟩⟩
  case rest =>
    obtain ⟨x, rfl, rfl, hh3⟩ := hcut
    cases x
    · have HH := Lib.hid (hh3 rfl).1
      have HT := Lib.hid (hh3 rfl).2
      clear hh3
      rcases Nat.lt_trichotomy m n with hmn | hmn | hmn
      · have e5 : ((m : Int) == n) = false := by simp; omega
        have e6 : ¬ n < m := by omega
        go_wp2_with fail
        refine (digits_law a m _ WA.out hm).mono ?_
        rintro e w3 ⟨⟨d, rfl, hd3⟩, h3⟩
        have sd3 := nd_size hd3 hm
        have D3 := Lib.hid hd3
        have Z3 := Lib.hid (Z2.out.trans (h3.mono Z2.out.size))
        clear hd3 h3
        go_wp2_with fail
        refine (digits_law 0 n _ (by decide) hn).mono ?_
        rintro e w4 ⟨⟨d2, rfl, hd4⟩, h4⟩
        have sd4 := nd_size hd4 hn
        have D4 := Lib.hid hd4
        have Z4 := Lib.hid (Z3.out.trans (h4.mono Z3.out.size))
        clear hd4 h4
        have s5 : (hd ++ d ++ tl).size ≤ 16777216 := by rw [ByteArray.size_append, ByteArray.size_append]; omega
        have s6 : (hd ++ d2 ++ tl).size ≤ 16777216 := by rw [ByteArray.size_append, ByteArray.size_append]; omega
        have CM := Lib.hid (show compare (hd ++ d ++ tl) (hd ++ d2 ++ tl) = -1 by have h6 := compare_ord.anti (hd ++ d2 ++ tl) (hd ++ d ++ tl); have h7 := compare_number hd tl d2 d _ _ n m D4.out D3.out HH.out HT.out hmn; omega)
        have S5 := Lib.hid s5
        have S6 := Lib.hid s6
        have q1 : (hd ++ d).size ≤ 16777216 := by rw [ByteArray.size_append]; omega
        have q2 : (hd ++ d2).size ≤ 16777216 := by rw [ByteArray.size_append]; omega
        clear s5 s6
        go_wp2_with fail
        refine (compare_pro _ _ _ S5.out S6.out (HTW.out.at Z4.out)).mono ?_
        rintro e w5 ⟨rfl, h5⟩
        have Z5 := Lib.hid (Z4.out.trans (h5.mono Z4.out.size))
        clear h5
        rw [CM.out]
        go_wp2_with fail
        go_ret
        exact ⟨rfl, Z5.out⟩
      · subst hmn
        go_wp2_with fail
        refine (digits_law a m _ WA.out hm).mono ?_
        rintro e w3 ⟨⟨d, rfl, hd3⟩, h3⟩
        have sd3 := nd_size hd3 hm
        have D3 := Lib.hid hd3
        have Z3 := Lib.hid (Z2.out.trans (h3.mono Z2.out.size))
        clear hd3 h3
        go_wp2_with fail
        refine (digits_law a m _ WA.out hm).mono ?_
        rintro e w4 ⟨⟨d2, rfl, hd4⟩, h4⟩
        have sd4 := nd_size hd4 hm
        have D4 := Lib.hid hd4
        have Z4 := Lib.hid (Z3.out.trans (h4.mono Z3.out.size))
        clear hd4 h4
        have s5 : (hd ++ d ++ tl).size ≤ 16777216 := by rw [ByteArray.size_append, ByteArray.size_append]; omega
        have s6 : (hd ++ d2 ++ tl).size ≤ 16777216 := by rw [ByteArray.size_append, ByteArray.size_append]; omega
        have CM := Lib.hid (show compare (hd ++ d ++ tl) (hd ++ d2 ++ tl) = 0 by rw [data_inj (D4.out.trans D3.out.symm)]; exact compare_ord.self _)
        have S5 := Lib.hid s5
        have S6 := Lib.hid s6
        have q1 : (hd ++ d).size ≤ 16777216 := by rw [ByteArray.size_append]; omega
        have q2 : (hd ++ d2).size ≤ 16777216 := by rw [ByteArray.size_append]; omega
        clear s5 s6
        go_wp2_with fail
        refine (compare_pro _ _ _ S5.out S6.out (HTW.out.at Z4.out)).mono ?_
        rintro e w5 ⟨rfl, h5⟩
        have Z5 := Lib.hid (Z4.out.trans (h5.mono Z4.out.size))
        clear h5
        rw [CM.out]
        go_wp2_with fail
        go_ret
        exact ⟨rfl, Z5.out⟩
      · have e5 : ((m : Int) == n) = false := by simp; omega
        go_wp2_with fail
        refine (digits_law a m _ WA.out hm).mono ?_
        rintro e w3 ⟨⟨d, rfl, hd3⟩, h3⟩
        have sd3 := nd_size hd3 hm
        have D3 := Lib.hid hd3
        have Z3 := Lib.hid (Z2.out.trans (h3.mono Z2.out.size))
        clear hd3 h3
        go_wp2_with fail
        refine (digits_law 0 n _ (by decide) hn).mono ?_
        rintro e w4 ⟨⟨d2, rfl, hd4⟩, h4⟩
        have sd4 := nd_size hd4 hn
        have D4 := Lib.hid hd4
        have Z4 := Lib.hid (Z3.out.trans (h4.mono Z3.out.size))
        clear hd4 h4
        have s5 : (hd ++ d ++ tl).size ≤ 16777216 := by rw [ByteArray.size_append, ByteArray.size_append]; omega
        have s6 : (hd ++ d2 ++ tl).size ≤ 16777216 := by rw [ByteArray.size_append, ByteArray.size_append]; omega
        have CM := Lib.hid (show compare (hd ++ d ++ tl) (hd ++ d2 ++ tl) = 1 from compare_number hd tl d d2 _ _ m n D3.out D4.out HH.out HT.out hmn)
        have S5 := Lib.hid s5
        have S6 := Lib.hid s6
        have q1 : (hd ++ d).size ≤ 16777216 := by rw [ByteArray.size_append]; omega
        have q2 : (hd ++ d2).size ≤ 16777216 := by rw [ByteArray.size_append]; omega
        clear s5 s6
        go_wp2_with fail
        refine (compare_pro _ _ _ S5.out S6.out (HTW.out.at Z4.out)).mono ?_
        rintro e w5 ⟨rfl, h5⟩
        have Z5 := Lib.hid (Z4.out.trans (h5.mono Z4.out.size))
        clear h5
        rw [CM.out]
        go_wp2_with fail
        go_ret
        exact ⟨rfl, Z5.out⟩
    · clear hh3
      go_wp2_with fail
      go_ret
      exact ⟨rfl, Z2.out⟩

set_option maxRecDepth 100000 in
theorem contract (H : Type) (enc : TypeId × Value → H) (W : World) (base : Nat) (args : Array Value) (ds gs : List (DataW H)) (before : List MemPlace)
    (hval : ∀ (j : Nat) t v, Tryd.f12.params[j]? = some t → args[j]? = some v → Value.okWide Tryd.prog W .any base t v)
    (hW : DataW.Whole enc Tryd.prog Tryd.f12.params.toList Rows.textNumbersSpec.vars false W args.toList ds gs before) (hk : Rows.uptoSmall H (ds ++ gs) = true) (hT : Tabs W) :
    Calls Tryd.prog 12 args W fun e W' => ∃ v, e = .returned v ∧ Rows.textNumbersSpec.post enc Tryd.prog Tryd.f12 false true false false W args v W' := by
  have hW' := hW
  obtain ⟨p, q, hA0, hV, rfl, hfz, hnd⟩ := hW
  have hA : DataW.TrodAll enc Tryd.prog W 0 (fun _ => true) true Tryd.f12.params.toList args.toList ds p := hA0
  rw [Tryd.params12] at hA hval
  obtain ⟨v0, vs0, d0, ds0, p0, q0, hargs, rfl, rfl, h0, r0⟩ := trodAll_cons hA
  obtain ⟨v1, vs1, d1, ds1, p1, q1, rfl, rfl, rfl, h1, r1⟩ := trodAll_cons r0
  obtain ⟨v2, vs2, d2, ds2, p2, q2, rfl, rfl, rfl, h2, r2⟩ := trodAll_cons r1
  obtain ⟨v3, vs3, d3, ds3, p3, q3, rfl, rfl, rfl, h3, r3⟩ := trodAll_cons r2
  obtain ⟨v4, vs4, d4, ds4, p4, q4, rfl, rfl, rfl, h4, r4⟩ := trodAll_cons r3
  obtain ⟨rfl, rfl, rfl⟩ := trodAll_nil r4
  obtain rfl : args = #[v0, v1, v2, v3, v4] := by cases args; simp_all
  obtain ⟨rfl, rfl⟩ := trodVars_none hV
  obtain ⟨s0, rfl, rfl, rfl, hm0⟩ := open_string Tryd.underlying9 (hval 0 9 v0 rfl rfl) h0
  obtain ⟨s1, rfl, rfl, rfl, hm1⟩ := open_string Tryd.underlying9 (hval 1 9 v1 rfl rfl) h1
  obtain ⟨a2, rfl, rfl, rfl, w2⟩ := open_int Tryd.underlying68 (hval 2 68 v2 rfl rfl) h2
  obtain ⟨a3, rfl, rfl, rfl, w3⟩ := open_int Tryd.underlying68 (hval 3 68 v3 rfl rfl) h3
  obtain ⟨a4, rfl, rfl, rfl, w4⟩ := open_int Tryd.underlying3 (hval 4 3 v4 rfl rfl) h4
  clear hA0
  simp only [List.append_nil] at hW' hk
  have hb0 := of_decide_eq_true hk
  simp only [Rows.uptoBulkAll, Rows.uptoBulk] at hb0
  have size0 : s0.size ≤ 1048576 := by
    have e : s0.data.toList.length = s0.size := by rw [Array.length_toList]; rfl
    omega
  have size1 : s1.size ≤ 1048576 := by
    have e : s1.data.toList.length = s1.size := by rw [Array.length_toList]; rfl
    omega
  refine (walk s0 s1 a2 a3 a4 size0 size1 w2 w3 w4 W hT).mono fun e W' ⟨he, hg⟩ => ?_
  subst he
  exact ⟨_, rfl, post_of_below (pa := []) (pv := []) hW' (fun _ _ _ => trodAll_cons_mk (shut_bool Tryd.underlying4 _) trodAll_mk0) (fun _ _ => (trodAll_cons_mk (shut_string Tryd.underlying9 hm0) (trodAll_cons_mk (shut_string Tryd.underlying9 hm1) (trodAll_cons_mk (shut_int Tryd.underlying68 w2) (trodAll_cons_mk (shut_int Tryd.underlying68 w3) (trodAll_cons_mk (shut_int Tryd.underlying3 w4) trodAll_mk0)))))) (fun _ _ => rfl) rfl hg (ok_one (by kernel_rfl) rfl (okWide_bool_mk Tryd.underlying4 _))⟩

theorem witness_row (os : Os) {H : Type} (enc : TypeId × Value → H) :
    (Rows.OpenSpec.upto Rows.textNumbersSpec).preRow enc Tryd.prog Tryd.f12 Rows.textNumbersUptoRow.domain false Rows.textNumbersUptoRow.laid ((laidWorld os).forCall (fun _ _ => 0) ⟨#[], #[.string .empty, .string .empty, .int .u64 0, .int .u64 0, .int .i64 0], []⟩).memory #[.string .empty, .string .empty, .int .u64 0, .int .u64 0, .int .i64 0] := by
  have hw : (DataW.whole enc Tryd.prog ((laidWorld os).forCall (fun _ _ => 0) ⟨#[], #[.string .empty, .string .empty, .int .u64 0, .int .u64 0, .int .i64 0], []⟩).memory Tryd.f12.params.toList Rows.textNumbersSpec.vars false (#[.string .empty, .string .empty, .int .u64 0, .int .u64 0, .int .i64 0] : Array Value).toList 8).map (fun x => (x.1, x.2.1)) =
      some ([.lit (.string []), .lit (.string []), .lit (.int .u64 0), .lit (.int .u64 0), .lit (.int .i64 0)], []) := by kernel_rfl
  obtain ⟨⟨x1, x2, x3⟩, hx, hx1⟩ := Option.map_eq_some_iff.1 hw
  simp only [Prod.mk.injEq] at hx1
  obtain ⟨rfl, rfl⟩ := hx1
  exact OpenSpec.preRow_of_cond 8 hx (by kernel_rfl) (fun k hk => by cases hk; kernel_rfl) (by kernel_rfl) (laid_met os _)

set_option maxRecDepth 100000 in
theorem lifted (os : Os) (started : os.Started) (H : Type) (enc : TypeId × Value → H) (F : Stop.Interp) :
    ReturnsInHanded {} Tryd.checked os 12 .any ((Rows.OpenSpec.upto Rows.textNumbersSpec).preRow enc Tryd.prog Tryd.f12 Rows.textNumbersUptoRow.domain false Rows.textNumbersUptoRow.laid) (((Rows.OpenSpec.upto Rows.textNumbersSpec).at F).post enc Tryd.prog Tryd.f12 false true false false) := by
  refine returnsInHanded_of_row (C := Tryd.checked) (s := (Rows.OpenSpec.upto Rows.textNumbersSpec)) own started (by kernel_rfl) Tryd.func12
    (witness_row_at (enc := enc) (C := Tryd.checked) false (laidWorld os) #[.string .empty, .string .empty, .int .u64 0, .int .u64 0, .int .i64 0] rfl (by kernel_rfl) (by kernel_rfl) (by kernel_rfl) (witness_row os enc)) ?_
  intro W base args ds gs before hval hW _ hcond _ hL hS _
  exact contract H enc W base args ds gs before hval hW (hcond _ rfl) (tabs_of hL hS)

theorem row : Rows.TextNumbersUptoSaid :=
  OpenClaim.holds_of_cond 12 Tryd.f12 rfl rfl rfl rfl rfl rfl rfl ⟨rfl, rfl, rfl, rfl, rfl⟩ rfl rfl rfl rfl rfl (by kernel_rfl) Tryd.func12 (by kernel_rfl)
    (of_decide_eq_true (by kernel_rfl)) (by unfold Func.isWrapper; first | (rw [if_pos (by decide +kernel)]; kernel_rfl) | (rw [if_neg (by decide +kernel)]; exact ⟨rfl, rfl⟩))
    (fun os started H enc _ F => by rw [OpenClaim.pre_eq_preRow]; exact lifted os started H enc F)

theorem plain (f : FuncId) (fn : Func) (hf : Tryd.pinned.checked.prog.funcNamed Rows.textNumbersUptoRow.func = some f) (hfn : Tryd.pinned.checked.prog.funcs[f]? = some fn) :
    false = Tryd.pinned.checked.prog.looks [] ∧ ∀ (j : Nat) t, fn.params[j]? = some t → Tryd.pinned.checked.prog.wantsStandIn t = false := by
  obtain rfl : f = 12 := Option.some.inj ((show Tryd.prog.funcNamed Rows.textNumbersUptoRow.func = some 12 by kernel_rfl).symm.trans hf) |>.symm
  obtain rfl : fn = Tryd.f12 := (Option.some.inj (Tryd.func12.symm.trans hfn)).symm
  refine ⟨by kernel_rfl, fun j t ht => ?_⟩
  rw [Tryd.params12] at ht
  have hm : t ∈ [9, 9, 68, 68, 3] := by simpa using Array.mem_of_getElem? ht
  simp only [List.mem_cons, List.mem_nil_iff, or_false] at hm
  rcases hm with rfl | rfl | rfl | rfl | rfl
  · exact (show Tryd.prog.wantsStandIn 9 = false by kernel_rfl)
  · exact (show Tryd.prog.wantsStandIn 9 = false by kernel_rfl)
  · exact (show Tryd.prog.wantsStandIn 68 = false by kernel_rfl)
  · exact (show Tryd.prog.wantsStandIn 68 = false by kernel_rfl)
  · exact (show Tryd.prog.wantsStandIn 3 = false by kernel_rfl)

theorem proved : Rows.TextNumbersUptoCardSaid :=
  Claim7.holds_tied_plain_at .later [] _ _ _ _ row (fun _ h => by cases h) (by kernel_rfl) (fun _ h => by cases h) textNumbersUpto_row_tie rfl ⟨rfl, rfl⟩ (by kernel_rfl) rfl plain (by kernel_rfl)
end Go.Proofs.YthojhjimgfbcbaaDoor.textNumbers
