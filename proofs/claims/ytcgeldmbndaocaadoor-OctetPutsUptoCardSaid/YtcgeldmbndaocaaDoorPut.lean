/- The statements' twin and same; the program's PutUint, PutInt, Put16, Put32, PutBytes, PutText of layer 3. -/
import Derived.Test.YtcgeldmbndaocaaDoorJoined
import Derived.Laws.AppendOwnNone
namespace Go.Proofs.YtcgeldmbndaocaaDoor
open Go.RowKit

theorem rd_string {w : World} {v : Value} {l : List UInt8} (h : Rd w v l) : (convert 22 9 v).run Tryd.prog w = .ok (.string ⟨l.toArray⟩) w := by
  obtain ⟨pa, cap, rfl, _, _, h4⟩ := h
  by_cases hl : l = []
  · subst hl
    cases pa with
    | none =>
      show (convert 22 9 (.slice none 0 cap)).run Tryd.prog w = _
      rw [run_convert_bytes_string w _ _ _ none 0 cap Tryd.underlying22 Tryd.underlying5 Tryd.underlying9]
      simp [Conv.bytesToString]
      rfl
    | some a => exact run_convert_bytes_back w _ _ _ a cap [] Tryd.underlying22 Tryd.underlying5 Tryd.underlying9 (fun j hj => absurd hj (by simp))
  · obtain ⟨b, off, rfl, _⟩ := h4 0 (List.length_pos_iff.2 hl)
    refine run_convert_bytes_back w _ _ _ ⟨b, off, none⟩ cap l Tryd.underlying22 Tryd.underlying5 Tryd.underlying9 fun j hj => ?_
    obtain ⟨b', off', e, hc⟩ := h4 j hj
    cases e
    have e : (⟨b, off, none⟩ : Addr).add j = ⟨b, off + j, none⟩ := by unfold Addr.add; split <;> simp_all
    rw [e]; exact hc

set_option maxRecDepth 100000 in
set_option maxHeartbeats 2000000 in
theorem same_pro (la lb : List UInt8) (va vb : Value) (w : World) (ha : Rd w va la) (hb : Rd w vb lb) :
    Calls Tryd.prog 25 #[va, vb] w fun e w' => e = .returned (.bool (la == lb)) ∧ w = w' := by
  have h1 := rd_string ha
  have h2 := rd_string hb
  clear ha hb
  go_enter Tryd.func25, Tryd.ntmps25
  go_wp2_with fail
  all_goals go_ret
  exact ⟨rfl, rfl⟩

set_option maxRecDepth 100000 in
set_option maxHeartbeats 2000000 in
theorem twin_pro (l : List UInt8) (v : Value) (w : World) (h : Rd w v l) (hl : l.length ≤ 140737488355328) :
    Calls Tryd.prog 11 #[v] w (Makes l w) := by
  obtain ⟨i0, hi, hz0, hz1, hz2⟩ := info_parts info5
  obtain ⟨pa, cap, rfl, hc, hcm⟩ := h.form
  have K := Lib.hid (rd_cells h)
  have L1 := Lib.hid (show 0 + l.length ≤ maxLen by unfold maxLen; omega)
  have L2 := Lib.hid (show (0 + l.length) * 1 ≤ 140737488355328 by omega)
  have L3 := Lib.hid (show (Lib.byteCells l).length = l.length * 1 by rw [Lib.byteCells_length]; omega)
  have ON := Lib.hid (World.ownsRow_nil w w.heap.size 5 1)
  have O1 := Lib.hid (byteCells_one l)
  have LE := Lib.hid (Nat.le_refl w.heap.size)
  cases pa with
  | none =>
    have h0 : l = [] := by
      rcases l with _ | ⟨x, l⟩
      · rfl
      · obtain ⟨ad, h1, _⟩ := K.out (by simp [Lib.byteCells])
        cases h1
    subst h0
    clear h hc hcm hl
    go_enter Tryd.func11, Tryd.ntmps11
    go_wp2_with fail
    go_ret
    exact ⟨_, rfl, ON.out, Below.refl _ _⟩
  | some ad =>
    have C := Lib.hid (show ∀ j u, (Lib.byteCells l)[j]? = some u → w.cell? (ad.add j) = some u by
      intro j u hu
      obtain ⟨ad', e, hc⟩ := K.out (by rcases l with _ | ⟨x, l⟩ <;> simp_all [Lib.byteCells])
      cases e
      exact hc j u hu)
    clear h hc hcm hl
    go_enter Tryd.func11, Tryd.ntmps11
    go_wp2_with (at_builtin; go_loud (refine wpList_append_own _ rfl _ _ 22 rfl w.heap.size 5 i0 (.int .u8 0) 1 1 Tryd.underlying22 hi hz0 hz1 hz2 rfl (by decide) _ 0 [] rfl ON.out ad l.length cap (Lib.byteCells l) rfl L3.out C.out O1.out L1.out L2.out LE.out ?_); intro v' w1 hown' hgrow _)
    go_ret
    refine ⟨v', rfl, ?_, (Below.refl _ _).grown hgrow (Nat.le_refl _) (fun k hk => by cases hk)⟩
    simpa using hown'
theorem own_mono {w : World} {base base' : Nat} {e : TypeId} {size : Nat} {v : Value} {n : Nat} {xs : List Value} (h : w.ownsRow base e size v n xs) (hb : base' ≤ base) : w.ownsRow base' e size v n xs := by
  refine ⟨h.1, ?_⟩
  rcases h.2 with h0 | ⟨g, cap, cur, h1, h2, h3⟩
  · exact .inl h0
  · exact .inr ⟨g, cap, cur, h1, Nat.le_trans hb h2, h3⟩

set_option maxRecDepth 100000 in
set_option maxHeartbeats 2000000 in
theorem putUint_pro (l : List UInt8) (v : Value) (n : Nat) (w : World) (h : Rd w v l) (hl : l.length ≤ 281474976710000) (hn : n < 18446744073709551616) :
    Calls Tryd.prog 15 #[v, .int .u64 n] w (Makes (l ++ gr n) w) := by
  have H := Lib.hid h
  have HL := Lib.hid (show l.length + (gr n).length ≤ 281474976710656 by have := gr_len n; omega)
  have HN := Lib.hid hn
  clear h hl hn
  go_enter Tryd.func15, Tryd.ntmps15
  go_wp2_with fail
  refine (groups_pro n _ HN.out).mono ?_
  rintro e w1 ⟨v1, rfl, h1, hb1⟩
  have O1 := Lib.hid h1
  have B1 := Lib.hid hb1
  clear h1 hb1
  go_wp2_with fail
  refine (joined_pro l (gr n) _ _ _ (H.out.below B1.out) (Rd.own O1.out) HL.out).mono ?_
  rintro e w2 ⟨v2, rfl, h2, hb2⟩
  have O2 := Lib.hid h2
  have B2 := Lib.hid hb2
  clear h2 hb2
  go_wp2_with fail
  go_ret
  exact ⟨_, rfl, own_mono O2.out B1.out.size, B1.out.trans (B2.out.mono B1.out.size)⟩

theorem compl64 {x : Nat} (h : x < 18446744073709551616) : 18446744073709551615 - x = 18446744073709551615 ^^^ x := by
  apply Nat.eq_of_testBit_eq
  intro i
  rw [Nat.testBit_xor, show 18446744073709551615 - x = 2 ^ 64 - (x + 1) by omega, Nat.testBit_two_pow_sub_succ (by omega), show (18446744073709551615 : Nat) = 2 ^ 64 - 1 by decide, Nat.testBit_two_pow_sub_one]
  by_cases hi : i < 64
  · simp [hi]
  · have : x.testBit i = false := Nat.testBit_lt_two_pow (Nat.lt_of_lt_of_le h (show 18446744073709551616 ≤ 2 ^ i from by
      have := Nat.pow_le_pow_right (show 0 < 2 by omega) (show 64 ≤ i by omega)
      simpa using this))
    simp [hi, this]
/-- An int as a number that tells its sign at the low end. -/
def zz (i : Int) : Nat := if i < 0 then (-2 * i - 1).toNat else (2 * i).toNat

set_option maxRecDepth 100000 in
set_option maxHeartbeats 2000000 in
theorem putInt_pro (l : List UInt8) (v : Value) (i : Int) (w : World) (h : Rd w v l) (hl : l.length ≤ 281474976710000) (hi : -9223372036854775808 ≤ i ∧ i ≤ 9223372036854775807) :
    Calls Tryd.prog 16 #[v, .int .i64 i] w (Makes (l ++ gr (zz i)) w) := by
  have H := Lib.hid h
  have HL := Lib.hid hl
  have HZ := Lib.hid (show zz i < 18446744073709551616 by unfold zz; split <;> omega)
  clear h hl
  by_cases h0 : i < 0
  · have E : bits .xor .u64 IntKind.u64.max (IntKind.u64.wrap (IntKind.u64.wrap i * 2)) = (zz i : Nat) := by
      have e1 : IntKind.u64.wrap (IntKind.u64.wrap i * 2) = ((2 * i + 18446744073709551616).toNat : Nat) := by rw [IntKind.wrap_u64, IntKind.wrap_u64]; omega
      have hc : (2 * i + 18446744073709551616).toNat < 18446744073709551616 := by omega
      have e2 := u64_xor_nat 18446744073709551615 _ (by decide) hc
      rw [← compl64 hc] at e2
      rw [e1]
      refine e2.trans ?_
      unfold zz
      rw [if_pos h0]
      omega
    go_enter Tryd.func16, Tryd.ntmps16
    go_wp2_with fail
    all_goals first | exact absurd (by assumption : IntKind.u64.signed = true) (by decide) | skip
    refine (putUint_pro l _ _ _ H.out HL.out HZ.out).mono ?_
    rintro e w2 ⟨v2, rfl, h2, hb2⟩
    have O2 := Lib.hid h2
    have B2 := Lib.hid hb2
    clear h2 hb2
    go_wp2_with fail
    go_ret
    exact ⟨_, rfl, O2.out, B2.out⟩
  · have E : i * 2 = (zz i : Nat) := by unfold zz; rw [if_neg h0]; omega
    go_enter Tryd.func16, Tryd.ntmps16
    go_wp2_with fail
    refine (putUint_pro l _ _ _ H.out HL.out HZ.out).mono ?_
    rintro e w2 ⟨v2, rfl, h2, hb2⟩
    have O2 := Lib.hid h2
    have B2 := Lib.hid hb2
    clear h2 hb2
    go_wp2_with fail
    go_ret
    exact ⟨_, rfl, O2.out, B2.out⟩

theorem rd_new (w : World) (cs : Array Value) (t : TypeId) (l : List UInt8) (n : Nat) (h : cs.toList = Lib.byteCells l) (hn : n = l.length) (hm : n ≤ maxLen) (fr : Nat × Nat := (0, 0)) : Rd (w.alloc (.cells cs t fr)) (.slice (some ⟨w.heap.size, 0, none⟩) n n) l := by
  subst hn
  refine ⟨_, _, rfl, Nat.le_refl _, hm, fun j hj => ⟨_, 0, rfl, ?_⟩⟩
  rw [Nat.zero_add, World.cell?_alloc_mark w cs t fr j]
  have e : cs.toList[j]? = some (.int .u8 (l[j].toNat : Int)) := by rw [h]; simp [Lib.byteCells, hj]
  simpa using e
/-- So many bytes of a number, the lowest ahead. -/
def lo : Nat → Nat → List UInt8
  | 0, _ => []
  | k + 1, n => UInt8.ofNat (n % 256) :: lo k (n / 256)
theorem lo_len : ∀ (k n : Nat), (lo k n).length = k
  | 0, _ => rfl
  | k + 1, n => by simp only [lo, List.length_cons]; rw [lo_len k]
theorem lo_cells (k n : Nat) : Lib.byteCells (lo (k + 1) n) = .int .u8 ((n % 256 : Nat) : Int) :: Lib.byteCells (lo k (n / 256)) := by
  simp only [lo, Lib.byteCells, List.map_cons]
  rw [u8_of (by omega)]
end Go.Proofs.YtcgeldmbndaocaaDoor
