/- sign, bytes, first, codes of the document's answer for layer 2: how parts of two texts compare. -/
import Derived.Test.YtoeknophfcfahaaGreatDoorCharsn
import Derived.Deep.QuietTactic
import Derived.BigQuiet
import Derived.IntWalk
import Derived.WalkLawsBesides
namespace Go.Proofs.YtoeknophfcfahaaGreatDoor
open Go.RowKit Go.Maps

def sgn (a b : Int) : Int := if a < b then -1 else if b < a then 1 else 0
/-- Two lists, one by one; what is a beginning of the other stands ahead. -/
def cmpL {α : Type} (f : α → α → Int) : List α → List α → Int
  | [], [] => 0
  | [], _ :: _ => -1
  | _ :: _, [] => 1
  | x :: l, y :: m => if f x y = 0 then cmpL f l m else f x y
theorem cmpL_end {α : Type} (f : α → α → Int) (l m : List α) (k : Nat) (h : ¬ (k < l.length ∧ k < m.length)) (hl : k ≤ l.length) (hm : k ≤ m.length) : cmpL f (l.drop k) (m.drop k) = sgn l.length m.length := by
  rcases Nat.lt_or_ge k l.length with h1 | h1
  · have h2 : ¬ k < m.length := fun h2 => h ⟨h1, h2⟩
    rw [List.drop_eq_getElem_cons h1, List.drop_of_length_le (by omega : m.length ≤ k)]
    simp only [cmpL, sgn]
    rw [if_neg (by omega), if_pos (by omega)]
  · rcases Nat.lt_or_ge k m.length with h2 | h2
    · rw [List.drop_of_length_le h1, List.drop_eq_getElem_cons h2]
      simp only [cmpL, sgn]
      rw [if_pos (by omega)]
    · rw [List.drop_of_length_le h1, List.drop_of_length_le h2]
      simp only [cmpL, sgn]
      rw [if_neg (by omega), if_neg (by omega)]
theorem cmpL_drop {α : Type} (f : α → α → Int) {l m : List α} {k : Nat} {x y : α} (hx : l[k]? = some x) (hy : m[k]? = some y) : cmpL f (l.drop k) (m.drop k) = if f x y = 0 then cmpL f (l.drop (k + 1)) (m.drop (k + 1)) else f x y := by
  obtain ⟨h1, e1⟩ := List.getElem?_eq_some_iff.1 hx
  obtain ⟨h2, e2⟩ := List.getElem?_eq_some_iff.1 hy
  rw [List.drop_eq_getElem_cons h1, List.drop_eq_getElem_cons h2, e1, e2]
  rfl
theorem ret_i {k : IntKind} {a b : Int} (h : a = b) : Ending.returned (.int k a) = Ending.returned (.int k b) := by rw [h]

theorem sign_ref (a b : Int) (w : World) : Calls Tryz.prog 70 #[.int .i64 a, .int .i64 b] w fun e w' => e = .returned (.int .i64 (sgn a b)) ∧ w = w' := by
  go_enter Tryz.func70, Tryz.ntmps70
  go_wp2
  all_goals go_ret
  all_goals (refine ⟨ret_i ?_, rfl⟩; unfold sgn; repeat' split)
  all_goals omega

def byteCmp (x y : UInt8) : Int := sgn x.toNat y.toNat
/-- Two texts by their bytes. -/
def bytesCmp (a b : ByteArray) : Int := cmpL byteCmp a.data.toList b.data.toList
theorem list_get (a : ByteArray) (k : Nat) (h : k < a.size) : a.data.toList[k]? = some a[k] := by
  have h' : k < a.data.size := h
  rw [List.getElem?_eq_getElem (by simpa using h')]
  rfl
theorem wrap_u8 (x : UInt8) : IntKind.i64.wrap (x.toNat : Int) = x.toNat := IntWalk.i64_in _ (by have := x.toNat_lt; omega)
theorem list_len (a : ByteArray) : a.data.toList.length = a.size := by simp
theorem sign_q (a b : Int) (w : World) : Calls Tryz.prog 70 #[.int .i64 a, .int .i64 b] w fun e w' => e = .returned (.int .i64 (sgn a b)) ∧ w' = w :=
  (sign_ref a b w).mono fun _ _ ⟨h1, h2⟩ => ⟨h1, h2.symm⟩
/-- A call that draws nothing, in a region behind another that has drawn. -/
theorem quiet_on {P : Program} {f : FuncId} {args : Array Value} {w : World} {a n : Nat} {v : Value}
    (h : Calls P f args (w.drewN (a + n)) fun e w' => e = .returned v ∧ w' = w.drewN (a + n)) :
    Calls P f args (w.drewN (a + n)) fun e w'' => e = .returned v ∧ ∃ m, w'' = w.drewN (a + m) :=
  h.mono fun _ _ ⟨he, hm⟩ => ⟨he, n, hm⟩
theorem sgn_ne {a b : Int} (h : a ≠ b) : sgn a b ≠ 0 := by unfold sgn; split <;> (try split) <;> omega
theorem sgn_self (a : Int) : sgn a a = 0 := by unfold sgn; rw [if_neg (by omega), if_neg (by omega)]

set_option maxRecDepth 100000 in
set_option maxHeartbeats 1000000 in
theorem bytes_ref (a b : ByteArray) (w : World) (ha : a.size ≤ 16777216) (_hb : b.size ≤ 16777216) :
    Calls Tryz.prog 73 #[.string a, .string b] w fun e w' => e = .returned (.int .i64 (bytesCmp a b)) ∧ ∃ n, w' = w.drewN n := by
  go_enter Tryz.func73, Tryz.ntmps73
  go_wp2
  go_loopw [5] (fun i wr => ∃ k : Nat, i = .int .i64 k ∧ k ≤ a.size ∧ k ≤ b.size ∧ bytesCmp a b = cmpL byteCmp (a.data.toList.drop k) (b.data.toList.drop k) ∧ ∃ n, wr = w.drewN n) (fun i _ => a.size - (intOf i).toNat)
  case atStart => exact ⟨0, rfl, Nat.zero_le _, Nat.zero_le _, rfl, 0, rfl⟩
  case round =>
    obtain ⟨k, rfl, hka, hkb, hc, nq, rfl⟩ := hrel
    have HC := Lib.hid hc
    clear hc
    by_cases hlt : k < a.size ∧ k < b.size
    · obtain ⟨h1, h2⟩ := hlt
      have HD := Lib.hid (HC.out.trans (cmpL_drop byteCmp (list_get a k h1) (list_get b k h2)))
      by_cases he : a[k] = b[k]
      · have HE := Lib.hid (show bytesCmp a b = cmpL byteCmp (a.data.toList.drop (k + 1)) (b.data.toList.drop (k + 1)) by rw [HD.out, he, if_pos (by simp [byteCmp, sgn_self])])
        go_wp2_with fail
        go_quiet (fail)
        go_wp2_with fail
        go_roundw
        case rel => exact ⟨k + 1, by go_num, by omega, by omega, HE.out, _, rfl⟩
        case measure => simp [intOf]; omega
      · have hn : ¬ (a[k].toNat : Int) = b[k].toNat := by intro h; exact he (UInt8.toNat_inj.1 (by omega))
        have hn2 : ((a[k].toNat : Int) != b[k].toNat) = true := by simpa using hn
        have HE := Lib.hid (show bytesCmp a b = sgn a[k].toNat b[k].toNat by rw [HD.out, if_neg (by exact sgn_ne hn)]; rfl)
        clear he
        go_wp2_with fail
        go_quiet (fail)
        go_wp2_with fail
        have e1 := wrap_u8 a[k]
        have e2 := wrap_u8 b[k]
        go_quiet ((go_at_call 70; exact quiet_on (sign_q _ _ _)))
        clear e1 e2
        go_wp2_with fail
        go_ret
        exact ⟨ret_i HE.out.symm, _, by rw [World.drewN_drewN, World.drewN_drewN]⟩
    · have HE := Lib.hid (show bytesCmp a b = sgn a.size b.size by rw [HC.out, cmpL_end _ _ _ k (by rw [list_len, list_len]; exact hlt) (by rw [list_len]; exact hka) (by rw [list_len]; exact hkb), list_len, list_len])
      by_cases h1 : k < a.size
      · have h2 : ¬ k < b.size := fun h2 => hlt ⟨h1, h2⟩
        clear hlt
        go_wp2_with (go_at_call 70; refine (sign_ref _ _ _).mono ?_; rintro e w' ⟨rfl, rfl⟩)
        go_ret
        exact ⟨ret_i HE.out.symm, _, rfl⟩
      · clear hlt
        go_wp2_with (go_at_call 70; refine (sign_ref _ _ _).mono ?_; rintro e w' ⟨rfl, rfl⟩)
        go_ret
        exact ⟨ret_i HE.out.symm, _, rfl⟩

/-- An element of a text: a sign (0), a number (1), a letter (2); of a number its digits. -/
structure El where
  cls : Int
  code : Int
  digs : ByteArray
def elV (x : El) : Value := .agg #[.int .i64 x.cls, .int .i32 x.code, .string x.digs]
/-- How two elements compare. -/
def elCmp (x y : El) : Int :=
  if x.cls ≠ y.cls then sgn x.cls y.cls else if x.cls ≠ 1 then sgn x.code y.code else if x.digs.size ≠ y.digs.size then sgn x.digs.size y.digs.size else bytesCmp x.digs y.digs
theorem wrap_i32 (x : Int) (h : -2147483648 ≤ x ∧ x ≤ 2147483647) : wrap64 x = x := by unfold wrap64; omega

set_option maxRecDepth 100000 in
set_option maxHeartbeats 1000000 in
theorem first_ref (x y : El) (w : World) (hx : x.digs.size ≤ 16777216) (hy : y.digs.size ≤ 16777216) (cx : -2147483648 ≤ x.code ∧ x.code ≤ 2147483647) (cy : -2147483648 ≤ y.code ∧ y.code ≤ 2147483647) :
    Calls Tryz.prog 69 #[elV x, elV y] w fun e w' => e = .returned (.int .i64 (elCmp x y)) ∧ Below w.heap.size w w' := by
  have hb : Below w.heap.size w ((w.alloc (.cells #[.int .i64 x.cls, .int .i32 x.code, .string x.digs] 135)).alloc (.cells #[.int .i64 y.cls, .int .i32 y.code, .string y.digs] 135)) := ((Below.refl _ w).alloc (Nat.le_refl _) _).alloc (by simp) _
  have HB := Lib.hid hb
  clear hb
  unfold elV
  by_cases h1 : x.cls = y.cls
  · by_cases h2 : x.cls = 1
    · by_cases h3 : x.digs.size = y.digs.size
      · have HE := Lib.hid (show elCmp x y = bytesCmp x.digs y.digs by simp [elCmp, h1, h3]; omega)
        have t1 : (x.cls != y.cls) = false := by simp [h1]
        have t2 : (x.cls != 1) = false := by simp [h2]
        have t3 : ((x.digs.size : Int) != y.digs.size) = false := by simp; omega
        have HX := Lib.hid hx
        have HY := Lib.hid hy
        clear h1 h2 h3
        go_enter Tryz.func69, Tryz.ntmps69
        go_wp2_with (go_at_call 73; refine (bytes_ref _ _ _ HX.out HY.out).mono ?_; rintro e w' ⟨rfl, nq, rfl⟩)
        go_ret
        exact ⟨ret_i HE.out.symm, below_drewN HB.out _⟩
      · have HE := Lib.hid (show elCmp x y = sgn x.digs.size y.digs.size by simp [elCmp, h1, h3]; omega)
        have t1 : (x.cls != y.cls) = false := by simp [h1]
        have t2 : (x.cls != 1) = false := by simp [h2]
        have t3 : ((x.digs.size : Int) != y.digs.size) = true := by simp; omega
        clear h1 h2 h3
        go_enter Tryz.func69, Tryz.ntmps69
        go_wp2_with (go_at_call 70; refine (sign_ref _ _ _).mono ?_; rintro e w' ⟨rfl, rfl⟩)
        go_ret
        exact ⟨ret_i HE.out.symm, HB.out⟩
    · have HE := Lib.hid (show elCmp x y = sgn x.code y.code by simp [elCmp, h1]; intro h; omega)
      have t1 : (x.cls != y.cls) = false := by simp [h1]
      have t2 : (x.cls != 1) = true := by simp [h2]
      clear h1 h2
      go_enter Tryz.func69, Tryz.ntmps69
      go_wp2_with (go_at_call 70; refine (sign_ref _ _ _).mono ?_; rintro e w' ⟨rfl, rfl⟩)
      go_ret
      exact ⟨ret_i HE.out.symm, HB.out⟩
  · have HE := Lib.hid (show elCmp x y = sgn x.cls y.cls by simp [elCmp, h1])
    have t1 : (x.cls != y.cls) = true := by simp [h1]
    clear h1
    go_enter Tryz.func69, Tryz.ntmps69
    go_wp2_with (go_at_call 70; refine (sign_ref _ _ _).mono ?_; rintro e w' ⟨rfl, rfl⟩)
    go_ret
    exact ⟨ret_i HE.out.symm, HB.out⟩

/-- A value is a list of a text's characters, wherever it lies. -/
def CharsAt (s : ByteArray) (v : Value) (w : World) : Prop :=
  ∃ (B : Nat) (xs : List Value), w.ownsRow B 151 4 v (chars s).length xs ∧ Holds4 xs (chars s) (chars s).length
def codeCmp (small : Bool) (x y : Ch) : Int := if small then sgn (sml x.2.1) (sml y.2.1) else sgn x.2.1 y.2.1
theorem sml_range (r : Int) (h : -2147483648 ≤ r ∧ r ≤ 2147483647) : -2147483648 ≤ sml r ∧ sml r ≤ 2147483647 := by
  unfold sml
  split
  · rename_i h1
    have : r ≤ 1071 := by
      simp [inB] at h1
      omega
    omega
  · split
    · rename_i h1
      simp [inB] at h1
      omega
    · exact h

set_option maxRecDepth 100000 in
set_option maxHeartbeats 1000000 in
theorem codes_ref (a b : ByteArray) (small : Bool) (va vb : Value) (w : World) (ha : a.size ≤ 16777216) (hb : b.size ≤ 16777216) (hva : CharsAt a va w) (hvb : CharsAt b vb w) :
    Calls Tryz.prog 71 #[va, vb, .bool small] w fun e w' => e = .returned (.int .i64 (cmpL (codeCmp small) (chars a) (chars b))) ∧ ∃ n, w' = w.drewN n := by
  obtain ⟨Ba, xa, oa, ca⟩ := hva
  obtain ⟨Bb, xb, ob, cb⟩ := hvb
  have hla : (chars a).length ≤ 16777216 := Nat.le_trans (chars_len a) ha
  have hlb : (chars b).length ≤ 16777216 := Nat.le_trans (chars_len b) hb
  have OA := Lib.hid oa
  have OB := Lib.hid ob
  have CA := Lib.hid ca
  have CB := Lib.hid cb
  clear oa ob ca cb ha hb
  go_enter Tryz.func71, Tryz.ntmps71
  go_wp2_with fail
  go_loopw [7, 8, 9] (fun i _ _ wr => ∃ k : Nat, i = .int .i64 k ∧ k ≤ (chars a).length ∧ k ≤ (chars b).length ∧ cmpL (codeCmp small) (chars a) (chars b) = cmpL (codeCmp small) ((chars a).drop k) ((chars b).drop k) ∧ ∃ n, wr = w.drewN n) (fun i _ _ _ => (chars a).length - (intOf i).toNat)
  case atStart => exact ⟨0, rfl, Nat.zero_le _, Nat.zero_le _, rfl, 0, rfl⟩
  case round =>
    obtain ⟨k, rfl, hka, hkb, hc, nq, rfl⟩ := hrel
    have HC := Lib.hid hc
    clear hc
    by_cases hlt : k < (chars a).length ∧ k < (chars b).length
    · obtain ⟨h1, h2⟩ := hlt
      obtain ⟨ga, capa, rfl, _, _⟩ := World.ownsRow.form OA.out (by omega)
      obtain ⟨gb, capb, rfl, _, _⟩ := World.ownsRow.form OB.out (by omega)
      obtain ⟨x, hx⟩ : ∃ x, (chars a)[k]? = some x := ⟨_, List.getElem?_eq_getElem h1⟩
      obtain ⟨y, hy⟩ : ∃ y, (chars b)[k]? = some y := ⟨_, List.getElem?_eq_getElem h2⟩
      have g1 := (World.ownsRow.cellAt OA.out (k * 4) (by omega)).trans (CA.out.2 k x hx).1
      have g2 := (World.ownsRow.cellAt OB.out (k * 4) (by omega)).trans (CB.out.2 k y hy).1
      have rx := chars_rune a x (List.mem_of_getElem? hx)
      have ry := chars_rune b y (List.mem_of_getElem? hy)
      have RX := Lib.hid (show -2147483648 ≤ (x.2.1 : Int) ∧ (x.2.1 : Int) ≤ 2147483647 by omega)
      have RY := Lib.hid (show -2147483648 ≤ (y.2.1 : Int) ∧ (y.2.1 : Int) ≤ 2147483647 by omega)
      have HD := Lib.hid (HC.out.trans (cmpL_drop (codeCmp small) hx hy))
      clear hx hy rx ry
      cases small
      · by_cases he : x.2.1 = y.2.1
        · have t : ((x.2.1 : Int) != y.2.1) = false := by simp; omega
          have HE := Lib.hid (show cmpL (codeCmp false) (chars a) (chars b) = cmpL (codeCmp false) ((chars a).drop (k + 1)) ((chars b).drop (k + 1)) by rw [HD.out, if_pos (by simp [codeCmp, he, sgn_self])])
          clear he
          go_wp2_with fail
          go_quiet (fail)
          go_wp2_with fail
          go_roundw
          case rel => exact ⟨k + 1, by go_num, by omega, by omega, HE.out, _, rfl⟩
          case measure => simp [intOf]; omega
        · have hn : ¬ (x.2.1 : Int) = y.2.1 := by omega
          have t : ((x.2.1 : Int) != y.2.1) = true := by simp; omega
          have HE := Lib.hid (show cmpL (codeCmp false) (chars a) (chars b) = sgn x.2.1 y.2.1 by rw [HD.out, if_neg (by simp [codeCmp]; exact sgn_ne hn)]; rfl)
          clear he hn
          go_wp2_with fail
          go_quiet (fail)
          go_wp2_with (go_at_call 70; refine (sign_ref _ _ _).mono ?_; rintro e w' ⟨rfl, rfl⟩)
          go_ret
          exact ⟨ret_i (by first | exact HE.out.symm | (rw [wrap_i32 _ RX.out, wrap_i32 _ RY.out]; exact HE.out.symm)), _, rfl⟩
      · have W1 := Lib.hid (wrap_i32 _ (sml_range _ RX.out))
        have W2 := Lib.hid (wrap_i32 _ (sml_range _ RY.out))
        by_cases he : sml x.2.1 = sml y.2.1
        · have t : (sml (x.2.1 : Int) != sml y.2.1) = false := by simpa using he
          have HE := Lib.hid (show cmpL (codeCmp true) (chars a) (chars b) = cmpL (codeCmp true) ((chars a).drop (k + 1)) ((chars b).drop (k + 1)) by rw [HD.out, if_pos (by simp [codeCmp, he, sgn_self])])
          clear he
          go_wp2_with fail
          go_quiet (fail)
          go_wp2_with (first | (go_at_call 83; refine (small_ref _ _ (by first | exact RX.out | exact RY.out)).mono ?_; rintro e w' ⟨rfl, rfl⟩))
          go_roundw
          case rel => exact ⟨k + 1, by go_num, by omega, by omega, HE.out, _, rfl⟩
          case measure => simp [intOf]; omega
        · have t : (sml (x.2.1 : Int) != sml y.2.1) = true := by simpa using he
          have HE := Lib.hid (show cmpL (codeCmp true) (chars a) (chars b) = sgn (sml x.2.1) (sml y.2.1) by rw [HD.out, if_neg (by simp [codeCmp]; exact sgn_ne he)]; rfl)
          clear he
          go_wp2_with fail
          go_quiet (fail)
          go_wp2_with (first | (go_at_call 83; refine (small_ref _ _ (by first | exact RX.out | exact RY.out)).mono ?_; rintro e w' ⟨rfl, rfl⟩) | (go_at_call 70; refine (sign_ref _ _ _).mono ?_; rintro e w' ⟨rfl, rfl⟩))
          go_ret
          exact ⟨ret_i (by first | exact HE.out.symm | (rw [W1.out, W2.out]; exact HE.out.symm)), _, rfl⟩
    · have HE := Lib.hid (show cmpL (codeCmp small) (chars a) (chars b) = sgn (chars a).length (chars b).length by rw [HC.out, cmpL_end _ _ _ k hlt hka hkb])
      by_cases h1 : k < (chars a).length
      · have h2 : ¬ k < (chars b).length := fun h2 => hlt ⟨h1, h2⟩
        clear hlt
        obtain ⟨ga, capa, rfl, _, _⟩ := World.ownsRow.form OA.out (by omega)
        rcases OB.out.2 with ⟨rfl, h0⟩ | ⟨gb, capb, curb, rfl, _⟩
        · have HL := Lib.hid h0
          have hz : ((chars b).length : Int) ≤ 0 := by omega
          clear h0
          go_wp2_with (go_at_call 70; refine (sign_ref _ _ _).mono ?_; rintro e w' ⟨rfl, rfl⟩)
          go_ret
          exact ⟨ret_i (by rw [HE.out, HL.out]; rfl), _, rfl⟩
        · go_wp2_with (go_at_call 70; refine (sign_ref _ _ _).mono ?_; rintro e w' ⟨rfl, rfl⟩)
          go_ret
          exact ⟨ret_i HE.out.symm, _, rfl⟩
      · clear hlt
        rcases OA.out.2 with ⟨rfl, h0⟩ | ⟨ga, capa, cura, rfl, _⟩ <;> rcases OB.out.2 with ⟨rfl, h3⟩ | ⟨gb, capb, curb, rfl, _⟩
        · have HL := Lib.hid h0
          have HM := Lib.hid h3
          have hz : ((chars a).length : Int) ≤ 0 := by omega
          clear h0 h3
          go_wp2_with (go_at_call 70; refine (sign_ref _ _ _).mono ?_; rintro e w' ⟨rfl, rfl⟩)
          go_ret
          exact ⟨ret_i (by rw [HE.out, HL.out, HM.out]; rfl), _, rfl⟩
        · have HL := Lib.hid h0
          have hz : ((chars a).length : Int) ≤ 0 := by omega
          clear h0
          go_wp2_with (go_at_call 70; refine (sign_ref _ _ _).mono ?_; rintro e w' ⟨rfl, rfl⟩)
          go_ret
          exact ⟨ret_i (by rw [HE.out, HL.out]; rfl), _, rfl⟩
        · have HM := Lib.hid h3
          clear h3
          go_wp2_with (go_at_call 70; refine (sign_ref _ _ _).mono ?_; rintro e w' ⟨rfl, rfl⟩)
          go_ret
          exact ⟨ret_i (by rw [HE.out, HM.out]; rfl), _, rfl⟩
        · go_wp2_with (go_at_call 70; refine (sign_ref _ _ _).mono ?_; rintro e w' ⟨rfl, rfl⟩)
          go_ret
          exact ⟨ret_i HE.out.symm, _, rfl⟩
end Go.Proofs.YtoeknophfcfahaaGreatDoor
