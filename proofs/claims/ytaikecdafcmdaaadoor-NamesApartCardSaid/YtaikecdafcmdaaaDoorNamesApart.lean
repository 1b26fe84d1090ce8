/- What is proved: NamesApart holds of any three texts, with no bound: how far they are apart is a distance, and as the document says. -/
import Derived.Test.YtaikecdafcmdaaaDoorNar
import Derived.Test.YtaikecdafcmdaaaDoorNk
import Derived.Test.YtaikecdafcmdaaaDoorNlf
import Derived.Test.YtaikecdafcmdaaaDoorPost
import Derived.Test.YtaikecdafcmdaaaDoorCards
import Derived.Test.YtaikecdafcmdaaaDoorTie
import Derived.ProofKit
import Derived.OpenShut
import Derived.Deep.DeepHandedRow
import Derived.Laws.Cover4
import Derived.Lib.MapLaws
namespace Go.Proofs.YtaikecdafcmdaaaDoor.namesApart
open Go.ChangeShapes Go.WideShapes Go.ChangeAt Go.RowKit Go.Maps
open Go.ChangeMaps (open_string shut_string)
set_option linter.unusedVariables false

/-- A code point that may be encoded. -/
def Okr (n : Nat) : Prop := n ≤ 1114111 ∧ ¬ (55296 ≤ n ∧ n ≤ 57343)
theorem cds_okr (s : ByteArray) : ∀ n ∈ cds s, Okr n := by
  intro n hn
  unfold cds at hn
  obtain ⟨c, hc, rfl⟩ := List.mem_map.1 hn
  obtain ⟨_, h2⟩ := chars_at s c hc
  rw [h2, Lib.decode_at]
  have h1 := (s.get! (c.1 + 1)).toNat_lt
  have h3 := (s.get! c.1).toNat_lt
  rcases Lib.decodeN_shape (s.size - c.1) (s.get! c.1).toNat (s.get! (c.1 + 1)).toNat (s.get! (c.1 + 2)).toNat (s.get! (c.1 + 3)).toNat with ⟨_, e⟩ | ⟨_, _, _, _, e⟩ | ⟨_, _, _, _, _, _, e⟩ | ⟨_, _, _, _, _, _, _, e⟩ | e <;> rw [e] <;> unfold Okr <;> simp only [] <;> omega
/-- No code point's bytes begin another's. -/
theorem enc_pre {r q : Int} {s t : List Int} (hr0 : 0 ≤ r) (hr : r ≤ 1114111 ∧ ¬ (55296 ≤ r ∧ r ≤ 57343)) (hq0 : 0 ≤ q) (hq : q ≤ 1114111 ∧ ¬ (55296 ≤ q ∧ q ≤ 57343)) (h : Lib.encodeRuneZ r ++ s = Lib.encodeRuneZ q ++ t) : r = q ∧ s = t := by
  have sh : ∀ z : Int, 0 ≤ z → (z ≤ 1114111 ∧ ¬ (55296 ≤ z ∧ z ≤ 57343)) → (z ≤ 127 ∧ Lib.encodeRuneZ z = [z]) ∨ (128 ≤ z ∧ z ≤ 2047 ∧ Lib.encodeRuneZ z = [192 + z / 64, 128 + z % 64]) ∨
      (2048 ≤ z ∧ z ≤ 65535 ∧ Lib.encodeRuneZ z = [224 + z / 4096, 128 + z / 64 % 64, 128 + z % 64]) ∨ (65536 ≤ z ∧ z ≤ 1114111 ∧ Lib.encodeRuneZ z = [240 + z / 262144, 128 + z / 4096 % 64, 128 + z / 64 % 64, 128 + z % 64]) := by
    intro z h0 hz
    by_cases a : z ≤ 127
    · exact .inl ⟨a, Lib.encodeRuneZ_one h0 a⟩
    · by_cases b : z ≤ 2047
      · exact .inr (.inl ⟨by omega, b, Lib.encodeRuneZ_two (by omega) b⟩)
      · by_cases c : z ≤ 65535
        · exact .inr (.inr (.inl ⟨by omega, c, Lib.encodeRuneZ_three (by omega)⟩))
        · exact .inr (.inr (.inr ⟨by omega, hz.1, Lib.encodeRuneZ_four (by omega) hz.1⟩))
  rcases sh r hr0 hr with ⟨a1, e1⟩ | ⟨a1, b1, e1⟩ | ⟨a1, b1, e1⟩ | ⟨a1, b1, e1⟩ <;> rcases sh q hq0 hq with ⟨a2, e2⟩ | ⟨a2, b2, e2⟩ | ⟨a2, b2, e2⟩ | ⟨a2, b2, e2⟩ <;> rw [e1, e2] at h <;> simp only [List.cons_append, List.nil_append, List.cons.injEq] at h
  all_goals first
    | (exfalso; omega)
    | (refine ⟨by omega, ?_⟩; first | exact h.2 | exact h.2.2 | exact h.2.2.2 | exact h.2.2.2.2)
theorem enc_inj : ∀ (x y : List Nat), (∀ n ∈ x, Okr n) → (∀ n ∈ y, Okr n) → (x.flatMap fun (n : Nat) => Lib.encodeRuneZ n) = (y.flatMap fun (n : Nat) => Lib.encodeRuneZ n) → x = y
  | [], [], _, _, _ => rfl
  | [], b :: y, _, _, h => by
    have := Lib.encodeRuneZ_length b
    have h2 := congrArg List.length h
    simp only [List.flatMap_nil, List.flatMap_cons, List.length_nil, List.length_append] at h2
    omega
  | a :: x, [], _, _, h => by
    have := Lib.encodeRuneZ_length a
    have h2 := congrArg List.length h
    simp only [List.flatMap_nil, List.flatMap_cons, List.length_nil, List.length_append] at h2
    omega
  | a :: x, b :: y, hx, hy, h => by
    have h1 := hx a (by simp)
    have h2 := hy b (by simp)
    unfold Okr at h1 h2
    simp only [List.flatMap_cons] at h
    obtain ⟨e1, e2⟩ := enc_pre (by omega) (by omega) (by omega) (by omega) h
    obtain rfl : a = b := by omega
    rw [enc_inj x y (fun n hn => hx n (by simp [hn])) (fun n hn => hy n (by simp [hn])) e2]
/-- The bytes of the code points of a text. -/
def rb (s : ByteArray) : ByteArray := runesBytes (ints (cds s))
def byZ (s : ByteArray) : List Int := s.data.toList.map fun (b : UInt8) => (b.toNat : Int)
theorem byZ_app (a b : ByteArray) : byZ (a ++ b) = byZ a ++ byZ b := by simp [byZ]
theorem byZ_enc (r : Int) : byZ (Utf8.encode r) = Lib.encodeRuneZ r := by
  rw [← enc_rune]
  unfold byZ Lib.encodeRune
  simp only [List.map_map]
  have : ∀ l : List Int, (∀ x ∈ l, 0 ≤ x ∧ x < 256) → l.map ((fun (b : UInt8) => (b.toNat : Int)) ∘ fun x => x.toNat.toUInt8) = l := by
    intro l hl
    induction l with
    | nil => rfl
    | cons x l ih =>
      rw [List.map_cons, ih fun y hy => hl y (by simp [hy])]
      have h := hl x (by simp)
      congr 1
      show (((x.toNat.toUInt8).toNat : Nat) : Int) = x
      have : (x.toNat.toUInt8).toNat = x.toNat := by
        show (UInt8.ofNat x.toNat).toNat = x.toNat
        rw [UInt8.toNat_ofNat']
        omega
      rw [this]
      omega
  exact this _ (Lib.encodeRuneZ_byte r)
theorem byZ_runes : ∀ (l : List Nat) (s : ByteArray), byZ ((ints l).foldl (fun r n => r ++ Utf8.encode n) s) = byZ s ++ l.flatMap fun (n : Nat) => Lib.encodeRuneZ n
  | [], s => by simp [ints]
  | n :: l, s => by
    have := byZ_runes l (s ++ Utf8.encode n)
    simp only [ints, List.map_cons, List.foldl_cons] at this ⊢
    rw [this, byZ_app, byZ_enc]
    simp
theorem rb_eq (a b : ByteArray) : rb a = rb b ↔ cds a = cds b := by
  constructor
  · intro h
    have h2 := congrArg byZ h
    unfold rb runesBytes at h2
    rw [byZ_runes, byZ_runes] at h2
    exact enc_inj _ _ (cds_okr a) (cds_okr b) (by simpa [byZ] using h2)
  · intro h
    unfold rb
    rw [h]
theorem ints_inj {x y : List Nat} (h : ints x = ints y) : x = y := by
  have := congrArg (List.map Int.toNat) h
  simpa [ints, Function.comp_def] using this
theorem apart_zero (a b : ByteArray) : apartN a b = 0 ↔ rb a = rb b := by
  rw [rb_eq]
  unfold apartN
  rw [lev_eq]
  constructor
  · intro h
    exact ints_inj (List.reverse_inj.1 h)
  · intro h
    rw [h]
theorem conv_rs (s : ByteArray) (w : World) (hs : s.size ≤ 16777216) : ∃ cap W1, (convert 9 48 (.string s)).run Tryd.prog w = .ok (.slice (some ⟨w.heap.size, 0, none⟩) (cds s).length cap) W1 ∧ Below w.heap.size w W1 ∧
    (convert 48 9 (.slice (some ⟨w.heap.size, 0, none⟩) (cds s).length cap)).run Tryd.prog W1 = .ok (.string (rb s)) W1 := by
  obtain ⟨cap, W1, h1, h2, h3, _⟩ := runes_run' s w hs
  refine ⟨cap, W1, h1, h3, ?_⟩
  have h := run_convert_runes (P := Tryd.prog) W1 48 9 21 ⟨w.heap.size, 0, none⟩ (cds s).length cap (ints (cds s)) (by rw [ints_len]; exact Nat.le_refl _) Tryd.underlying48 Tryd.underlying21 Tryd.underlying9 (fun j hj => by
    have hj' : j < (cds s).length := by rwa [ints_len] at hj
    rw [show ((⟨w.heap.size, 0, none⟩ : Addr).add j) = ⟨w.heap.size, j, none⟩ by simp [Addr.add]; exact fun h => h.symm]
    rw [h2.2 j hj']
    simp [ints, hj'])
  rw [h]
  unfold rb
  rw [List.take_of_length_le (by rw [ints_len]; exact Nat.le_refl _)]

set_option maxRecDepth 100000 in
set_option maxHeartbeats 4000000 in
theorem walk (a b c : ByteArray) (W : World) (za : a.size ≤ maxLen) (zb : b.size ≤ maxLen) (zc : c.size ≤ maxLen) (hT : Tabs W) :
    Calls Tryd.prog 6 #[.string a, .string b, .string c] W fun e w' => e = .returned (.bool true) ∧ Below W.heap.size W w' := by
  have HT := Lib.hid hT
  clear hT za zb zc
  by_cases ha : 300 < a.size
  · have h1 : (300 : Int) < a.size := by omega
    go_enter Tryd.func6, Tryd.ntmps6
    go_wp2_with fail
    refine (awake_law _ HT.out).mono ?_
    rintro e w1 ⟨rfl, hb1⟩
    have HB1 := Lib.hid hb1
    clear hb1
    go_wp2_with fail
    go_ret
    exact ⟨rfl, HB1.out⟩
  by_cases hb : 300 < b.size
  · have h1 : ¬ (300 : Int) < a.size := by omega
    have h2 : (300 : Int) < b.size := by omega
    go_enter Tryd.func6, Tryd.ntmps6
    go_wp2_with fail
    refine (awake_law _ HT.out).mono ?_
    rintro e w1 ⟨rfl, hb1⟩
    have HB1 := Lib.hid hb1
    clear hb1
    go_wp2_with fail
    go_ret
    exact ⟨rfl, HB1.out⟩
  by_cases hc : 300 < c.size
  · have h1 : ¬ (300 : Int) < a.size := by omega
    have h2 : ¬ (300 : Int) < b.size := by omega
    have h3 : (300 : Int) < c.size := by omega
    go_enter Tryd.func6, Tryd.ntmps6
    go_wp2_with fail
    refine (awake_law _ HT.out).mono ?_
    rintro e w1 ⟨rfl, hb1⟩
    have HB1 := Lib.hid hb1
    clear hb1
    go_wp2_with fail
    go_ret
    exact ⟨rfl, HB1.out⟩
  have SA := Lib.hid (show a.size ≤ 16777216 by omega)
  have SB := Lib.hid (show b.size ≤ 16777216 by omega)
  have SC := Lib.hid (show c.size ≤ 16777216 by omega)
  have h1 : ¬ (300 : Int) < a.size := by omega
  have h2 : ¬ (300 : Int) < b.size := by omega
  have h3 : ¬ (300 : Int) < c.size := by omega
  have la := cds_len a
  have lb := cds_len b
  have q1 : apartN a c ≤ apartN a b + apartN b c := lev_tri _ _ _
  have q2 : apartN a b ≤ max (cds a).length (cds b).length := by
    have := lev_max (ints (cds a)).reverse (ints (cds b)).reverse
    simpa [apartN, ints_len] using this
  have q3 : (cds a).length ≤ apartN a b + (cds b).length := by
    have := lev_ge (ints (cds a)).reverse (ints (cds b)).reverse
    simpa [apartN, ints_len] using this
  have q4 : (cds b).length ≤ apartN a b + (cds a).length := by
    have := lev_ge' (ints (cds a)).reverse (ints (cds b)).reverse
    simpa [apartN, ints_len] using this
  have q5 := apart_zero a b
  have q6 : apartN b c ≤ max (cds b).length (cds c).length := by
    have := lev_max (ints (cds b)).reverse (ints (cds c)).reverse
    simpa [apartN, ints_len] using this
  have lc := cds_len c
  have q7 := apartN_sym b a
  have HPA := Lib.hid (fun w => apart_pro a b w SA.out SB.out)
  have HPB := Lib.hid (fun w => apart_pro b c w SB.out SC.out)
  have HPC := Lib.hid (fun w => apart_pro a c w SA.out SC.out)
  have HPD := Lib.hid (fun w => apart_pro b a w SB.out SA.out)
  have HPR := Lib.hid (fun w => apart_ref a b w SA.out SB.out)
  have HCA := Lib.hid (fun w => conv_rs a w SA.out)
  have HCB := Lib.hid (fun w => conv_rs b w SB.out)
  obtain ⟨ab, hab⟩ : ∃ n, apartN a b = n := ⟨_, rfl⟩
  obtain ⟨bc, hbc⟩ : ∃ n, apartN b c = n := ⟨_, rfl⟩
  obtain ⟨ac, hac⟩ : ∃ n, apartN a c = n := ⟨_, rfl⟩
  obtain ⟨x, hx⟩ : ∃ n, (cds a).length = n := ⟨_, rfl⟩
  obtain ⟨y, hy⟩ : ∃ n, (cds b).length = n := ⟨_, rfl⟩
  obtain ⟨ra, hra⟩ : ∃ n, rb a = n := ⟨_, rfl⟩
  obtain ⟨rb', hrb⟩ : ∃ n, rb b = n := ⟨_, rfl⟩
  rw [q7] at HPD
  simp only [hab, hbc, hac, hx, hy, hra, hrb] at q1 q2 q3 q4 q5 q6 HPA HPB HPC HPD HPR HCA HCB la lb
  have HE := Lib.hid (show ((ab : Int) == 0) = (ra.toList == rb'.toList) by
    rw [Bool.eq_iff_iff]
    simp only [beq_iff_eq]
    constructor
    · intro h; rw [q5.1 (by omega)]
    · intro h; have := q5.2 (same_text h); omega)
  have v1 : IntKind.i64.wrap ((ab : Int) + bc) = ab + bc := IntWalk.i64_in _ (by omega)
  have v2 : IntKind.i64.wrap ((x : Int) - y) = x - y := IntWalk.i64_in _ (by omega)
  have v3 : IntKind.i64.wrap ((y : Int) - x) = y - x := IntWalk.i64_in _ (by omega)
  have V1 := Lib.hid v1
  have V2 := Lib.hid v2
  have V3 := Lib.hid v3
  have D1 := Lib.hid (show ¬ ((ab : Int) + bc < ac) by omega)
  have D2 := Lib.hid (show ¬ ((ab : Int) < x - y) by omega)
  have D3 := Lib.hid (show ¬ ((ab : Int) < y - x) by omega)
  have Q2 := Lib.hid q2
  clear q1 q2 q3 q4 q5 q6 q7 hab hbc hac hx hy hra hrb la lb lc ha hb hc v1 v2 v3
  go_enter Tryd.func6, Tryd.ntmps6
  go_wp2_with fail
  refine (awake_law _ HT.out).mono ?_
  rintro e w1 ⟨rfl, hb1⟩
  have HB1 := Lib.hid hb1
  clear hb1
  go_wp2_with fail
  refine (HPA.out _).mono ?_
  rintro e w2 ⟨rfl, hb2⟩
  have HB2 := Lib.hid (HB1.out.trans (hb2.mono HB1.out.size))
  clear hb2
  go_wp2_with fail
  refine (HPB.out _).mono ?_
  rintro e w3 ⟨rfl, hb3⟩
  have HB3 := Lib.hid (HB2.out.trans (hb3.mono HB2.out.size))
  clear hb3
  go_wp2_with fail
  refine (HPC.out _).mono ?_
  rintro e w4 ⟨rfl, hb4⟩
  have HB4 := Lib.hid (HB3.out.trans (hb4.mono HB3.out.size))
  clear hb4
  obtain ⟨cp1, w5, hc1, hb5, _⟩ := HCA.out w4
  obtain ⟨cp2, w6, hc2, hb6, _⟩ := HCB.out w5
  have HB6 := Lib.hid ((HB4.out.trans (hb5.mono HB4.out.size)).trans (hb6.mono (HB4.out.trans (hb5.mono HB4.out.size)).size))
  clear hb5 hb6
  go_wp2_with fail
  refine (HPR.out _).mono ?_
  rintro e w7 ⟨rfl, hb7⟩
  have HB7 := Lib.hid (HB6.out.trans (hb7.mono HB6.out.size))
  clear hb7 hc1 hc2
  go_wp2_with fail
  refine (HPD.out _).mono ?_
  rintro e w8 ⟨rfl, hb8⟩
  have HB8 := Lib.hid (HB7.out.trans (hb8.mono HB7.out.size))
  clear hb8
  obtain ⟨cp3, w9, hc3, hb9, hs3⟩ := HCA.out w8
  obtain ⟨cp4, w10, hc4, hb10, hs4⟩ := HCB.out w9
  have HB10 := Lib.hid ((HB8.out.trans (hb9.mono HB8.out.size)).trans (hb10.mono (HB8.out.trans (hb9.mono HB8.out.size)).size))
  clear hb9 hb10
  have v1 := V1.out
  have v2 := V2.out
  have v3 := V3.out
  have d1 := D1.out
  have d2 := D2.out
  have d3 := D3.out
  have hE := HE.out
  go_wp2_with fail
  all_goals first
    | (exfalso; have := Q2.out; omega)
    | (go_ret; exact ⟨rfl, HB10.out⟩)

set_option maxRecDepth 100000 in
theorem contract (H : Type) (enc : TypeId × Value → H) (W : World) (base : Nat) (args : Array Value) (ds gs : List (DataW H)) (before : List MemPlace)
    (hval : ∀ (j : Nat) t v, Tryd.f6.params[j]? = some t → args[j]? = some v → Value.okWide Tryd.prog W .any base t v)
    (hW : DataW.Whole enc Tryd.prog Tryd.f6.params.toList Rows.namesApartSpec.vars false W args.toList ds gs before) (hsz0 : (DataW.weightsEach Tryd.prog (Tryd.f6.params.toList ++ Rows.namesApartSpec.plain.varTypes Tryd.prog) (ds ++ gs)).all (· ≤ reachBytes) = true) (hT : Tabs W) :
    Calls Tryd.prog 6 args W fun e W' => ∃ v, e = .returned v ∧ Rows.namesApartSpec.post enc Tryd.prog Tryd.f6 false true false false W args v W' := by
  have hW' := hW
  obtain ⟨p, q, hA0, hV, rfl, hfz, hnd⟩ := hW
  have hA : DataW.TrodAll enc Tryd.prog W 0 (fun _ => true) true Tryd.f6.params.toList args.toList ds p := hA0
  rw [Tryd.params6] at hA hval
  have hsz := hsz0
  rw [Tryd.params6] at hsz
  clear hsz0
  obtain ⟨v0, vs0, d0, ds0, p0, q0, hargs, rfl, rfl, h0, r0⟩ := trodAll_cons hA
  obtain ⟨v1, vs1, d1, ds1, p1, q1, rfl, rfl, rfl, h1, r1⟩ := trodAll_cons r0
  obtain ⟨v2, vs2, d2, ds2, p2, q2, rfl, rfl, rfl, h2, r2⟩ := trodAll_cons r1
  obtain ⟨rfl, rfl, rfl⟩ := trodAll_nil r2
  obtain rfl : args = #[v0, v1, v2] := by cases args; simp_all
  obtain ⟨rfl, rfl⟩ := trodVars_none hV
  obtain ⟨s0, rfl, rfl, rfl, hm0⟩ := open_string Tryd.underlying9 (hval 0 9 v0 rfl rfl) h0
  obtain ⟨s1, rfl, rfl, rfl, hm1⟩ := open_string Tryd.underlying9 (hval 1 9 v1 rfl rfl) h1
  obtain ⟨s2, rfl, rfl, rfl, hm2⟩ := open_string Tryd.underlying9 (hval 2 9 v2 rfl rfl) h2
  clear hA0
  refine (walk s0 s1 s2 W hm0 hm1 hm2 hT).mono fun e W' ⟨he, hg⟩ => ?_
  subst he
  have hlt := hW'.lt
  exact ⟨_, rfl, post_of_below (pa := ([] ++ ([] ++ ([] ++ [])))) (pv := []) hW' (fun _ _ _ => trodAll_cons_mk (shut_bool Tryd.underlying4 _) trodAll_mk0) (fun sp hsp => (trodAll_cons_mk (shut_string Tryd.underlying9 hm0) (trodAll_cons_mk (shut_string Tryd.underlying9 hm1) (trodAll_cons_mk (shut_string Tryd.underlying9 hm2) trodAll_mk0)))) (fun _ _ => rfl) rfl hg (ok_one (by kernel_rfl) rfl (okWide_bool_mk Tryd.underlying4 _))⟩

theorem witness_row (os : Os) {H : Type} (enc : TypeId × Value → H) :
    (OpenSpec.ofChange Rows.namesApartSpec).preRow enc Tryd.prog Tryd.f6 Rows.namesApartRow.domain false Rows.namesApartRow.laid ((laidWorld os).forCall (fun _ _ => 0) ⟨#[], #[.string .empty, .string .empty, .string .empty], []⟩).memory #[.string .empty, .string .empty, .string .empty] := by
  have hw : (DataW.whole enc Tryd.prog ((laidWorld os).forCall (fun _ _ => 0) ⟨#[], #[.string .empty, .string .empty, .string .empty], []⟩).memory Tryd.f6.params.toList Rows.namesApartSpec.vars false (#[.string .empty, .string .empty, .string .empty] : Array Value).toList 8).map (fun x => (x.1, x.2.1)) =
      some ([.lit (.string []), .lit (.string []), .lit (.string [])], []) := by kernel_rfl
  obtain ⟨⟨x1, x2, x3⟩, hx, hx1⟩ := Option.map_eq_some_iff.1 hw
  simp only [Prod.mk.injEq] at hx1
  obtain ⟨rfl, rfl⟩ := hx1
  exact OpenSpec.preRow_of_cond 8 hx (by kernel_rfl) (fun k hk => by cases hk) (by kernel_rfl) (laid_met os _)

set_option maxRecDepth 100000 in
theorem lifted (os : Os) (started : os.Started) (H : Type) (enc : TypeId × Value → H) (F : Stop.Interp) :
    ReturnsInHanded {} Tryd.checked os 6 .any ((OpenSpec.ofChange Rows.namesApartSpec).preRow enc Tryd.prog Tryd.f6 Rows.namesApartRow.domain false Rows.namesApartRow.laid) (((OpenSpec.ofChange Rows.namesApartSpec).at F).post enc Tryd.prog Tryd.f6 false true false false) := by
  refine returnsInHanded_of_row (C := Tryd.checked) (s := (OpenSpec.ofChange Rows.namesApartSpec)) own started (by kernel_rfl) Tryd.func6
    (witness_row_at (enc := enc) (C := Tryd.checked) false (laidWorld os) #[.string .empty, .string .empty, .string .empty] rfl (by kernel_rfl) (by kernel_rfl) (by kernel_rfl) (witness_row os enc)) ?_
  intro W base args ds gs before hval hW _ hcond hsz hL hS _
  exact contract H enc W base args ds gs before hval hW hsz (tabs_of hL hS)

set_option maxHeartbeats 16000000 in
theorem closed : joinedFacts Tryd.pinned.checked.prog 6 Tryd.f6 ((OpenSpec.ofChange Rows.namesApartSpec)).bare Rows.namesApartRow = true := by
  unfold joinedFacts
  repeat' (with_reducible refine Bool.and_eq_true_iff.2 ⟨?_, ?_⟩)
  all_goals (as_aux_lemma => kernel_rfl)
theorem named : Tryd.pinned.checked.prog.funcNamed Rows.namesApartRow.func = some 6 := by kernel_rfl
theorem inst : (Tryd.f6).isInstance Tryd.pinned.checked.prog Rows.namesApartRow.origin Rows.namesApartRow.targs := of_decide_eq_true (by kernel_rfl)
theorem wrap : (Tryd.f6).isWrapper Tryd.pinned.checked.prog Rows.namesApartRow.wrapper Rows.namesApartRow.mainSum := by
  unfold Func.isWrapper
  first | (rw [if_pos (by decide +kernel)]; kernel_rfl) | (rw [if_neg (by decide +kernel)]; exact ⟨rfl, rfl⟩)
theorem row : Rows.NamesApartSaid :=
  OpenClaim.holds_of_cond 6 Tryd.f6 rfl rfl rfl rfl rfl rfl rfl ⟨rfl, rfl, rfl, rfl, rfl⟩ rfl rfl rfl rfl rfl named Tryd.func6 closed inst wrap
    (fun os started H enc _ F => by rw [OpenClaim.pre_eq_preRow]; exact lifted os started H enc F)

theorem plain (f : FuncId) (fn : Func) (hf : Tryd.pinned.checked.prog.funcNamed Rows.namesApartRow.func = some f) (hfn : Tryd.pinned.checked.prog.funcs[f]? = some fn) :
    false = Tryd.pinned.checked.prog.looks [] ∧ ∀ (j : Nat) t, fn.params[j]? = some t → Tryd.pinned.checked.prog.wantsStandIn t = false := by
  obtain rfl : f = 6 := Option.some.inj ((show Tryd.prog.funcNamed Rows.namesApartRow.func = some 6 by kernel_rfl).symm.trans hf) |>.symm
  obtain rfl : fn = Tryd.f6 := (Option.some.inj (Tryd.func6.symm.trans hfn)).symm
  refine ⟨by kernel_rfl, fun j t ht => ?_⟩
  rw [Tryd.params6] at ht
  have hm : t ∈ [9, 9, 9] := by simpa using Array.mem_of_getElem? ht
  simp only [List.mem_cons, List.mem_nil_iff, or_false] at hm
  have hm1 : t = 9 := by first | exact hm | (rcases hm with h | h | h <;> exact h)
  subst hm1
  exact (show Tryd.prog.wantsStandIn 9 = false by kernel_rfl)

theorem proved : Rows.NamesApartCardSaid :=
  Claim7.holds_tied_plain_at .later [] _ _ _ _ row (fun _ h => by cases h) (by kernel_rfl) (fun _ h => by cases h) namesApart_row_tie rfl ⟨rfl, rfl⟩ (by kernel_rfl) rfl plain (by kernel_rfl)
end Go.Proofs.YtaikecdafcmdaaaDoor.namesApart
