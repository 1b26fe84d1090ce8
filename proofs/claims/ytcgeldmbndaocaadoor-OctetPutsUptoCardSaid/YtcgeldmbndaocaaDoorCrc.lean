/- CRC-32, in plain mathematics: a step is linear and loses nothing. -/
import Derived.Laws.BitsAll
import Derived.Lib.UnsafeStr
namespace Go.Proofs.YtcgeldmbndaocaaDoor
open Go

def poly : Nat := 3988292384
/-- One bit. -/
def bit1 (s : Nat) : Nat := if s % 2 = 1 then (s / 2) ^^^ poly else s / 2
def bitN : Nat → Nat → Nat
  | 0, s => s
  | n + 1, s => bitN n (bit1 s)
/-- One byte. -/
def byt (s : Nat) (x : UInt8) : Nat := bitN 8 (s ^^^ x.toNat)
def reg (s : Nat) (l : List UInt8) : Nat := l.foldl byt s
def crc (l : List UInt8) : Nat := 4294967295 - reg 4294967295 l

theorem bit1_lt {s : Nat} (h : s < 4294967296) : bit1 s < 4294967296 := by
  unfold bit1
  split
  · exact Nat.xor_lt_two_pow (n := 32) (by omega) (by decide)
  · omega
theorem bitN_lt : ∀ (n : Nat) {s : Nat}, s < 4294967296 → bitN n s < 4294967296
  | 0, _, h => h
  | n + 1, _, h => bitN_lt n (bit1_lt h)
theorem xor_byte_lt {s : Nat} (x : UInt8) (h : s < 4294967296) : s ^^^ x.toNat < 4294967296 :=
  Nat.xor_lt_two_pow (n := 32) h (Nat.lt_trans x.toNat_lt (by decide))
theorem byt_lt {s : Nat} (x : UInt8) (h : s < 4294967296) : byt s x < 4294967296 := bitN_lt 8 (xor_byte_lt x h)
theorem reg_lt : ∀ (l : List UInt8) {s : Nat}, s < 4294967296 → reg s l < 4294967296
  | [], _, h => h
  | x :: l, _, h => reg_lt l (byt_lt x h)
theorem crc_lt (l : List UInt8) : crc l < 4294967296 := by unfold crc; omega

theorem half_xor (a b : Nat) : (a ^^^ b) / 2 = (a / 2) ^^^ (b / 2) := by
  have := Nat.shiftRight_xor_distrib (a := a) (b := b) (i := 1)
  simpa [Nat.shiftRight_eq_div_pow] using this
theorem low_xor (a b : Nat) : (a ^^^ b) % 2 = 1 ↔ ¬ (a % 2 = 1 ↔ b % 2 = 1) := by
  have h := Nat.testBit_xor a b 0
  simp only [Nat.testBit_zero] at h
  by_cases ha : a % 2 = 1 <;> by_cases hb : b % 2 = 1 <;> simp_all
theorem xor_cancel {a b c : Nat} (h : a ^^^ c = b ^^^ c) : a = b := by
  have h2 : a ^^^ c ^^^ c = b ^^^ c ^^^ c := by rw [h]
  rwa [Nat.xor_assoc, Nat.xor_assoc, Nat.xor_self, Nat.xor_zero, Nat.xor_zero] at h2
theorem bit1_xor (a b : Nat) : bit1 (a ^^^ b) = bit1 a ^^^ bit1 b := by
  unfold bit1
  simp only [low_xor, half_xor]
  by_cases ha : a % 2 = 1 <;> by_cases hb : b % 2 = 1 <;> simp only [ha, hb, not_true_eq_false, if_true, if_false, iff_true, iff_false, not_false_eq_true, iff_self]
  · rw [show a / 2 ^^^ poly ^^^ (b / 2 ^^^ poly) = (a / 2 ^^^ b / 2) ^^^ (poly ^^^ poly) by ac_rfl, Nat.xor_self, Nat.xor_zero]
  · ac_rfl
  · ac_rfl
theorem bitN_xor : ∀ (n a b : Nat), bitN n (a ^^^ b) = bitN n a ^^^ bitN n b
  | 0, _, _ => rfl
  | n + 1, a, b => by simp only [bitN, bit1_xor]; exact bitN_xor n _ _
theorem bitN_add : ∀ (m n s : Nat), bitN (m + n) s = bitN n (bitN m s)
  | 0, n, s => by rw [Nat.zero_add]; rfl
  | m + 1, n, s => by rw [show m + 1 + n = (m + n) + 1 by omega]; exact bitN_add m n (bit1 s)
theorem bit1_zero {s : Nat} (hs : s < 4294967296) (h : bit1 s = 0) : s = 0 := by
  unfold bit1 at h
  split at h
  · have h2 : s / 2 = poly := by
      exact xor_cancel (show s / 2 ^^^ poly = poly ^^^ poly by rw [h, Nat.xor_self])
    unfold poly at h2
    omega
  · omega
theorem bitN_zero : ∀ (n : Nat) {s : Nat}, s < 4294967296 → bitN n s = 0 → s = 0
  | 0, _, _, h => h
  | n + 1, _, hs, h => bit1_zero hs (bitN_zero n (bit1_lt hs) h)
theorem bitN_even : ∀ (n s : Nat), bitN n (s * 2 ^ n) = s
  | 0, s => by simp [bitN]
  | n + 1, s => by
    have h1 : bit1 (s * 2 ^ (n + 1)) = s * 2 ^ n := by
      unfold bit1
      rw [Nat.pow_succ, ← Nat.mul_assoc]
      rw [if_neg (by omega)]
      omega
    show bitN n (bit1 _) = s
    rw [h1]
    exact bitN_even n s

/-- Three lists of one length, exclusive-or'd. -/
def xor3 : List UInt8 → List UInt8 → List UInt8 → List UInt8
  | a :: l, b :: m, c :: n => (a ^^^ b ^^^ c) :: xor3 l m n
  | _, _, _ => []
theorem byt_xor3 (p q r : Nat) (a b c : UInt8) : byt (p ^^^ q ^^^ r) (a ^^^ b ^^^ c) = byt p a ^^^ byt q b ^^^ byt r c := by
  unfold byt
  rw [← bitN_xor, ← bitN_xor, UInt8.toNat_xor, UInt8.toNat_xor]
  congr 1
  ac_rfl
theorem reg_xor3 : ∀ (l m n : List UInt8) (p q r : Nat), l.length = m.length → m.length = n.length → reg (p ^^^ q ^^^ r) (xor3 l m n) = reg p l ^^^ reg q m ^^^ reg r n
  | [], [], [], _, _, _, _, _ => rfl
  | a :: l, b :: m, c :: n, p, q, r, h1, h2 => by
    simp only [xor3, reg, List.foldl_cons, byt_xor3]
    exact reg_xor3 l m n _ _ _ (by simpa using h1) (by simpa using h2)
theorem compl {x : Nat} (h : x < 4294967296) : 4294967295 - x = 4294967295 ^^^ x := by
  apply Nat.eq_of_testBit_eq
  intro i
  rw [Nat.testBit_xor, show 4294967295 - x = 2 ^ 32 - (x + 1) by omega, Nat.testBit_two_pow_sub_succ (by omega), show (4294967295 : Nat) = 2 ^ 32 - 1 by decide, Nat.testBit_two_pow_sub_one]
  by_cases hi : i < 32
  · simp [hi]
  · have : x.testBit i = false := Nat.testBit_lt_two_pow (Nat.lt_of_lt_of_le h (show 4294967296 ≤ 2 ^ i from by
      have := Nat.pow_le_pow_right (show 0 < 2 by omega) (show 32 ≤ i by omega)
      simpa using this))
    simp [hi, this]
theorem crc_xor3 (l m n : List UInt8) (h1 : l.length = m.length) (h2 : m.length = n.length) : crc (xor3 l m n) = crc l ^^^ crc m ^^^ crc n := by
  unfold crc
  have hr : ∀ l : List UInt8, reg 4294967295 l < 4294967296 := fun l => reg_lt l (by decide)
  rw [compl (hr _), compl (hr _), compl (hr _), compl (hr _)]
  have := reg_xor3 l m n 4294967295 4294967295 4294967295 h1 h2
  rw [show (4294967295 : Nat) ^^^ 4294967295 ^^^ 4294967295 = 4294967295 by decide] at this
  rw [this, show (4294967295 : Nat) ^^^ reg 4294967295 l ^^^ (4294967295 ^^^ reg 4294967295 m) ^^^ (4294967295 ^^^ reg 4294967295 n) = (4294967295 ^^^ 4294967295 ^^^ 4294967295) ^^^ (reg 4294967295 l ^^^ reg 4294967295 m ^^^ reg 4294967295 n) by ac_rfl]
  rw [show (4294967295 : Nat) ^^^ 4294967295 ^^^ 4294967295 = 4294967295 by decide]

/-- The same bytes behind unlike registers leave unlike ones. -/
theorem reg_inj : ∀ (l : List UInt8) {p q : Nat}, p < 4294967296 → q < 4294967296 → reg p l = reg q l → p = q
  | [], _, _, _, _, h => h
  | x :: l, p, q, hp, hq, h => by
    have h1 := reg_inj l (byt_lt x hp) (byt_lt x hq) h
    unfold byt at h1
    have h2 : bitN 8 ((p ^^^ x.toNat) ^^^ (q ^^^ x.toNat)) = 0 := by rw [bitN_xor, h1, Nat.xor_self]
    have h3 := bitN_zero 8 (Nat.xor_lt_two_pow (n := 32) (xor_byte_lt x hp) (xor_byte_lt x hq)) h2
    have h4 : p ^^^ q = 0 := by
      rw [← h3, show p ^^^ x.toNat ^^^ (q ^^^ x.toNat) = (p ^^^ q) ^^^ (x.toNat ^^^ x.toNat) by ac_rfl, Nat.xor_self, Nat.xor_zero]
    have h5 : p ^^^ q = q ^^^ q := by rw [h4, Nat.xor_self]
    exact xor_cancel h5
/-- Four bytes at zero are their word, 32 bits on. -/
theorem four_word (a b c d : UInt8) : reg 0 [a, b, c, d] = bitN 32 (a.toNat + 256 * (b.toNat + 256 * (c.toNat + 256 * d.toNat))) := by
  have step : ∀ (s : Nat) (x : UInt8) (k : Nat), bitN 8 (s ^^^ (x.toNat + 256 * k)) = byt s x ^^^ k := by
    intro s x k
    have e : x.toNat + 256 * k = x.toNat ^^^ (k * 2 ^ 8) := by
      have hx := x.toNat_lt
      have h := Nat.two_pow_add_eq_or_of_lt (i := 8) (b := x.toNat) (by simpa using hx) k
      have h2 : (2 ^ 8 * k) ^^^ x.toNat = (2 ^ 8 * k) ||| x.toNat := by
        apply Nat.eq_of_testBit_eq
        intro i
        rw [Nat.testBit_xor, Nat.testBit_or, Nat.testBit_two_pow_mul]
        by_cases hi : 8 ≤ i
        · have : x.toNat.testBit i = false := Nat.testBit_lt_two_pow (Nat.lt_of_lt_of_le hx (show 256 ≤ 2 ^ i from by
            have := Nat.pow_le_pow_right (show 0 < 2 by omega) hi
            simpa using this))
          simp [this]
        · simp [hi]
      rw [Nat.xor_comm, show k * 2 ^ 8 = 2 ^ 8 * k by omega, h2, ← h]
      omega
    rw [e, ← Nat.xor_assoc, bitN_xor, bitN_even]
    rfl
  have h0 := step 0 a (b.toNat + 256 * (c.toNat + 256 * d.toNat))
  rw [Nat.zero_xor] at h0
  have h3 := step (byt (byt (byt 0 a) b) c) d 0
  rw [Nat.mul_zero, Nat.add_zero, Nat.xor_zero] at h3
  rw [show (32 : Nat) = 8 + (8 + (8 + 8)) by decide, bitN_add, h0, bitN_add, step, bitN_add, step]
  show byt (byt (byt (byt 0 a) b) c) d = _
  rfl
/-- A burst of four bytes, not all zero, tells. -/
theorem burst (pre post : List UInt8) (a b c d x y z u : UInt8) (h : ¬ (x = 0 ∧ y = 0 ∧ z = 0 ∧ u = 0)) :
    crc (pre ++ (a ^^^ x) :: (b ^^^ y) :: (c ^^^ z) :: (d ^^^ u) :: post) ≠ crc (pre ++ a :: b :: c :: d :: post) := by
  intro he
  have hr : ∀ l : List UInt8, reg 4294967295 l < 4294967296 := fun l => reg_lt l (by decide)
  have h1 : reg 4294967295 (pre ++ (a ^^^ x) :: (b ^^^ y) :: (c ^^^ z) :: (d ^^^ u) :: post) = reg 4294967295 (pre ++ a :: b :: c :: d :: post) := by
    unfold crc at he
    have := hr (pre ++ (a ^^^ x) :: (b ^^^ y) :: (c ^^^ z) :: (d ^^^ u) :: post)
    have := hr (pre ++ a :: b :: c :: d :: post)
    omega
  have split : ∀ (p q r t : UInt8), reg 4294967295 (pre ++ p :: q :: r :: t :: post) = reg (reg (reg 4294967295 pre) [p, q, r, t]) post := by
    intro p q r t
    simp only [reg, List.foldl_append, List.foldl_cons, List.foldl_nil]
  rw [split, split] at h1
  have hp := hr pre
  have h2 := reg_inj post (reg_lt _ hp) (reg_lt _ hp) h1
  have h3 := reg_xor3 [a ^^^ x, b ^^^ y, c ^^^ z, d ^^^ u] [a, b, c, d] [x, y, z, u] (reg 4294967295 pre) (reg 4294967295 pre) 0 rfl rfl
  rw [h2, Nat.xor_self, Nat.zero_xor, Nat.xor_self, Nat.zero_xor] at h3
  have e0 : ∀ p q : UInt8, p ^^^ q ^^^ p ^^^ q = 0 := by
    intro p q
    rw [show p ^^^ q ^^^ p ^^^ q = (p ^^^ p) ^^^ (q ^^^ q) by ac_rfl, UInt8.xor_self, UInt8.xor_self]; rfl
  simp only [xor3, e0] at h3
  rw [four_word, four_word] at h3
  have hz : bitN 32 (UInt8.toNat 0 + 256 * (UInt8.toNat 0 + 256 * (UInt8.toNat 0 + 256 * UInt8.toNat 0))) = 0 := by decide
  rw [hz] at h3
  have hx := x.toNat_lt
  have hy := y.toNat_lt
  have hzz := z.toNat_lt
  have hu := u.toNat_lt
  have h4 := bitN_zero 32 (by omega) h3.symm
  apply h
  refine ⟨UInt8.toNat_inj.1 ?_, UInt8.toNat_inj.1 ?_, UInt8.toNat_inj.1 ?_, UInt8.toNat_inj.1 ?_⟩ <;> (show _ = 0; omega)
end Go.Proofs.YtcgeldmbndaocaaDoor
