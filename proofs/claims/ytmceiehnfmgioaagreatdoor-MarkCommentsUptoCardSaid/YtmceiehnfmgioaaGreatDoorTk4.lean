/- A text as its pieces: characters in good bytes, and bytes that are none. Plain mathematics. -/
import Derived.Test.YtmceiehnfmgioaaGreatDoorLx7
import Derived.Lib.MapLaws
namespace Go.Proofs.YtmceiehnfmgioaaGreatDoor
open Go
set_option linter.unusedVariables false

inductive Tk where
  | good (r : Nat)
  | bad (b : UInt8)
namespace Tk
def bytes : Tk → List UInt8
  | good r => Lib.encodeRune r
  | bad b => [b]
def rn : Tk → Nat
  | good r => r
  | bad _ => 65533
def n : Tk → Nat
  | good r => (Lib.encodeRune r).length
  | bad _ => 1
def isBad : Tk → Bool
  | good _ => false
  | bad _ => true
end Tk
def joinT (l : List Tk) : List UInt8 := l.flatMap Tk.bytes
def okR (r : Nat) : Prop := r < 55296 ∨ 57343 < r ∧ r ≤ 1114111
def isCont (b : UInt8) : Bool := b.toNat / 64 == 2
def conts (l : List UInt8) : List UInt8 := l.takeWhile isCont
/-- The bytes at the head that would go on with a character. -/
def ctsT : List Tk → List UInt8
  | [] => []
  | .good _ :: _ => []
  | .bad b :: l => if isCont b then b :: ctsT l else []
def Snd : List Tk → Prop
  | [] => True
  | .good r :: l => okR r ∧ Snd l
  | .bad b :: l => Lib.decodeL (b :: ctsT l) = (65533, 1) ∧ Snd l

theorem conts_cons (y : UInt8) (l : List UInt8) : conts (y :: l) = if isCont y then y :: conts l else [] := by unfold conts; rw [List.takeWhile_cons]
theorem cont_iff (y : UInt8) : isCont y = true ↔ y.toNat / 64 = 2 := by unfold isCont; exact beq_iff_eq
theorem cont_no (y : UInt8) (h : isCont y = false) : ¬ y.toNat / 64 = 2 := fun h2 => by rw [(cont_iff y).2 h2] at h; exact Bool.noConfusion h
/-- A byte is read with no more than what goes on with it. -/
theorem decodeL_conts (b : UInt8) (x : List UInt8) : Lib.decodeL (b :: conts x) = Lib.decodeL (b :: x) := by
  rw [Lib.decodeL_N, Lib.decodeL_N]
  cases x with
  | nil => rfl
  | cons y x =>
    rw [conts_cons]
    cases hy : isCont y
    · have hy' := cont_no y hy
      simp only [Bool.false_eq_true, if_false]
      apply decodeN_congr <;> simp [hy']
    · have hy' := (cont_iff y).1 hy
      simp only [if_true]
      cases x with
      | nil => rfl
      | cons z x =>
        rw [conts_cons]
        cases hz : isCont z
        · have hz' := cont_no z hz
          simp only [Bool.false_eq_true, if_false]
          apply decodeN_congr <;> simp [hy', hz']
        · have hz' := (cont_iff z).1 hz
          simp only [if_true]
          cases x with
          | nil => rfl
          | cons v x =>
            rw [conts_cons]
            cases hv : isCont v
            · have hv' := cont_no v hv
              simp only [Bool.false_eq_true, if_false]
              apply decodeN_congr <;> simp [hy', hz', hv']
            · have hv' := (cont_iff v).1 hv
              simp only [if_true]
              apply decodeN_congr <;> simp [hy', hz', hv']
theorem u8_nat (z : Int) (h0 : 0 ≤ z) (h1 : z < 256) : ((z.toNat.toUInt8).toNat : Int) = z := by
  have : z.toNat < 256 := by omega
  simp
  omega
theorem toNat_toU8 (k : Nat) (h : k < 256) : (k.toUInt8).toNat = k := by simp; omega
/-- The bytes of a code point: its first goes on with nothing. -/
theorem enc_head (r : Int) : ∃ b l, Lib.encodeRune r = b :: l ∧ isCont b = false := by
  unfold Lib.encodeRune Lib.encodeRuneZ
  have key : ∀ z : Int, 0 ≤ z → z < 256 → (z < 128 ∨ 192 ≤ z) → isCont z.toNat.toUInt8 = false := by
    intro z h0 h1 h2
    unfold isCont
    rw [toNat_toU8 _ (by omega)]
    simp
    omega
  split
  · exact ⟨_, _, rfl, key _ (by omega) (by omega) (by omega)⟩
  · split
    · exact ⟨_, _, rfl, key _ (by omega) (by omega) (by omega)⟩
    · split
      · exact ⟨_, _, rfl, key _ (by omega) (by omega) (by omega)⟩
      · split
        · exact ⟨_, _, rfl, key _ (by omega) (by omega) (by omega)⟩
        · exact ⟨_, _, rfl, key _ (by omega) (by omega) (by omega)⟩
theorem conts_join : ∀ l : List Tk, conts (joinT l) = ctsT l
  | [] => rfl
  | .good r :: l => by
    obtain ⟨b, t, h1, h2⟩ := enc_head (r : Int)
    show conts (Lib.encodeRune r ++ joinT l) = []
    rw [h1, List.cons_append, conts_cons, h2]
    rfl
  | .bad b :: l => by
    show conts (b :: joinT l) = _
    rw [conts_cons, conts_join l]
    rfl
set_option maxHeartbeats 1000000 in
/-- The bytes of a code point are read as that code point, whatever stands behind. -/
theorem decode_enc (r : Nat) (h : okR r) (x : List UInt8) : Lib.decodeL (Lib.encodeRune r ++ x) = (r, (Lib.encodeRune r).length) := by
  rw [Lib.decodeL_N]
  unfold okR at h
  by_cases h1 : r < 128
  · unfold Lib.encodeRune
    rw [Lib.encodeRuneZ_one (by omega) (by omega)]
    simp only [List.map_cons, List.map_nil, List.cons_append, List.nil_append, List.getD_cons_zero, List.length_cons, List.length_nil]
    rw [toNat_toU8 _ (by omega)]
    simp [Lib.decodeN]
    omega
  · by_cases h2 : r < 2048
    · unfold Lib.encodeRune
      rw [Lib.encodeRuneZ_two (by omega) (by omega)]
      simp only [List.map_cons, List.map_nil, List.cons_append, List.nil_append, List.getD_cons_zero, List.getD_cons_succ, List.length_cons, List.length_nil]
      rw [toNat_toU8 _ (by omega), toNat_toU8 _ (by omega)]
      unfold Lib.decodeN
      rw [if_neg (by omega), if_pos (by omega), if_pos (by omega)]
      apply Prod.ext <;> simp only <;> omega
    · by_cases h3 : r < 65536
      · unfold Lib.encodeRune
        rw [Lib.encodeRuneZ_three (by omega)]
        simp only [List.map_cons, List.map_nil, List.cons_append, List.nil_append, List.getD_cons_zero, List.getD_cons_succ, List.length_cons, List.length_nil]
        rw [toNat_toU8 _ (by omega), toNat_toU8 _ (by omega), toNat_toU8 _ (by omega)]
        unfold Lib.decodeN
        rw [if_neg (by omega), if_neg (by omega), if_pos (by omega), if_pos (by omega)]
        apply Prod.ext <;> simp only <;> omega
      · unfold Lib.encodeRune
        rw [Lib.encodeRuneZ_four (by omega) (by omega)]
        simp only [List.map_cons, List.map_nil, List.cons_append, List.nil_append, List.getD_cons_zero, List.getD_cons_succ, List.length_cons, List.length_nil]
        rw [toNat_toU8 _ (by omega), toNat_toU8 _ (by omega), toNat_toU8 _ (by omega), toNat_toU8 _ (by omega)]
        unfold Lib.decodeN
        rw [if_neg (by omega), if_neg (by omega), if_neg (by omega), if_pos (by omega), if_pos (by omega)]
        apply Prod.ext <;> simp only <;> omega
theorem decode_ok (l : List UInt8) (hne : l ≠ []) (hv : ¬ ((Lib.decodeL l).1 = 65533 ∧ (Lib.decodeL l).2 = 1)) : okR (Lib.decodeL l).1 := by
  rw [Lib.decodeL_N] at hv ⊢
  unfold okR
  have k0 := (l.getD 0 0).toNat_lt
  rcases Lib.decodeN_shape l.length (l.getD 0 0).toNat (l.getD 1 0).toNat (l.getD 2 0).toNat (l.getD 3 0).toNat with ⟨c, e⟩ | ⟨c1, c2, c3, cv, e⟩ | ⟨c1, c2, c3, c4, cv, cs, e⟩ | ⟨c1, c2, c3, c4, c5, cv, cw, e⟩ | e
  all_goals (rw [e] at hv ⊢; simp only at hv ⊢)
  all_goals first | omega | exact absurd ⟨rfl, rfl⟩ hv
/-- Each text has pieces. -/
theorem pieces : ∀ (n : Nat) (l : List UInt8), l.length ≤ n → ∃ L : List Tk, Snd L ∧ joinT L = l
  | _, [], _ => ⟨[], trivial, rfl⟩
  | 0, b :: l, h => by simp at h
  | n + 1, b :: l, h => by
    by_cases hv : (Lib.decodeL (b :: l)).1 = 65533 ∧ (Lib.decodeL (b :: l)).2 = 1
    · obtain ⟨L, h1, h2⟩ := pieces n l (by simpa using h)
      refine ⟨.bad b :: L, ⟨?_, h1⟩, ?_⟩
      · rw [← conts_join, h2, decodeL_conts]
        exact Prod.ext hv.1 hv.2
      · show b :: joinT L = _
        rw [h2]
    · have hw := Lib.decodeL_width (b :: l)
      obtain ⟨L, h1, h2⟩ := pieces n ((b :: l).drop (Lib.decodeL (b :: l)).2) (by rw [List.length_drop]; simp at h ⊢; omega)
      refine ⟨.good (Lib.decodeL (b :: l)).1 :: L, ⟨decode_ok _ (by simp) hv, h1⟩, ?_⟩
      show Lib.encodeRune _ ++ joinT L = _
      rw [h2, Lib.encode_decode _ (by simp) hv, List.take_append_drop]
def chOf : Nat → List Tk → List Ch
  | _, [] => []
  | p, t :: l => (p, t.rn, t.n) :: chOf (p + t.n) l
theorem tk_n (t : Tk) : t.n = t.bytes.length := by cases t <;> rfl
theorem tk_pos (t : Tk) : 1 ≤ t.n := by
  cases t with
  | good r => obtain ⟨b, l, h, _⟩ := enc_head (r : Int); show 1 ≤ (Lib.encodeRune r).length; rw [h]; simp
  | bad b => exact Nat.le_refl _
theorem decode_tk (t : Tk) (l : List Tk) (h : Snd (t :: l)) : Lib.decodeL (joinT (t :: l)) = (t.rn, t.n) := by
  cases t with
  | good r => exact decode_enc r h.1 _
  | bad b =>
    show Lib.decodeL (b :: joinT l) = (65533, 1)
    rw [← decodeL_conts, conts_join]
    exact h.1
theorem snd_tail {t : Tk} {l : List Tk} (h : Snd (t :: l)) : Snd l := by cases t <;> exact h.2
/-- The characters of a text are its pieces. -/
theorem chs_pieces (s : ByteArray) : ∀ (L : List Tk) (f p : Nat), Snd L → s.data.toList.drop p = joinT L → s.size ≤ p + f → chs s f p = chOf p L
  | [], f, p, _, h, hf => by
    have : ¬ p < s.size := by
      intro hp
      have h1 := congrArg List.length h
      rw [List.length_drop, ← Lib.size_eq] at h1
      simp [joinT] at h1
      omega
    rw [chs_end s f p this]
    rfl
  | t :: l, f, p, hs, h, hf => by
    have hn := tk_pos t
    have hlen : p + t.n ≤ s.size := by
      have h1 := congrArg List.length h
      rw [List.length_drop, ← Lib.size_eq] at h1
      have h2 : (joinT (t :: l)).length = t.bytes.length + (joinT l).length := by show (t.bytes ++ joinT l).length = _; rw [List.length_append]
      rw [h2, ← tk_n] at h1
      omega
    have hd : Utf8.decode s p = (t.rn, t.n) := by rw [← Lib.decodeL_drop, h, decode_tk t l hs]
    obtain ⟨f, rfl⟩ : ∃ f', f = f' + 1 := ⟨f - 1, by omega⟩
    have hp : p < s.size := by omega
    simp only [chs, hp, if_true, hd, chOf]
    rw [chs_pieces s l f (p + t.n) (snd_tail hs) (by rw [← List.drop_drop, h, tk_n]; show (t.bytes ++ joinT l).drop _ = _; exact List.drop_left) (by omega)]
theorem chars_pieces (s : ByteArray) (L : List Tk) (hs : Snd L) (h : s.data.toList = joinT L) : chars s = chOf 0 L := chs_pieces s L s.size 0 hs (by rw [List.drop_zero, h]) (by omega)
theorem text_pieces (s : ByteArray) : ∃ L : List Tk, Snd L ∧ s.data.toList = joinT L := by
  obtain ⟨L, h1, h2⟩ := pieces s.data.toList.length s.data.toList (Nat.le_refl _)
  exact ⟨L, h1, h2.symm⟩
theorem badB_tk (p : Nat) (t : Tk) : badB (p, t.rn, t.n) = t.isBad := by
  cases t with
  | bad b => rfl
  | good r =>
    by_cases h : r = 65533
    · subst h; rfl
    · show (r == 65533 && _) = false
      simp [h]
end Go.Proofs.YtmceiehnfmgioaaGreatDoor
