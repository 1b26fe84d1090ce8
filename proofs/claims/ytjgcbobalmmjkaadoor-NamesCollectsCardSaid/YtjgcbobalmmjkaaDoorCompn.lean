/- Compare and Group of the document's answer for layer 2. -/
import Derived.Test.YtjgcbobalmmjkaaDoorElemsn
import Derived.StillTailTactics
namespace Go.Proofs.YtjgcbobalmmjkaaDoor
open Go.RowKit Go.Maps

theorem encode_digit (r : Int) (h : inB r 48 57 = true) : (Utf8.encode r).size = 1 := by
  simp [inB] at h
  have h2 : r = 48 ∨ r = 49 ∨ r = 50 ∨ r = 51 ∨ r = 52 ∨ r = 53 ∨ r = 54 ∨ r = 55 ∨ r = 56 ∨ r = 57 := by omega
  rcases h2 with rfl | rfl | rfl | rfl | rfl | rfl | rfl | rfl | rfl | rfl <;> rfl
theorem runD_size : ∀ (l : List Ch) (d : ByteArray), (runD l d).1.size ≤ d.size + l.length ∧ (runD l d).2.length ≤ l.length
  | [], d => by simp [runD]
  | c :: l, d => by
    cases hd : isDig c
    · simp [runD, hd]
    · have ih := runD_size l (digStep d c)
      have h1 : (digStep d c).size ≤ d.size + 1 := by
        unfold digStep
        split
        · rw [ByteArray.size_append, encode_digit _ hd]; omega
        · omega
      simp only [runD, hd, if_true, List.length_cons]
      omega
def ElOk (n : Nat) (y : El) : Prop := y.digs.size ≤ n ∧ -2147483648 ≤ y.code ∧ y.code ≤ 2147483647
theorem elemsF_ok : ∀ (f : Nat) (l : List Ch) (n : Nat), l.length ≤ n → ∀ y ∈ elemsF f l, ElOk n y
  | 0, l, n, _, y, h => by simp [elemsF] at h
  | f + 1, [], n, _, y, h => by simp [elemsF] at h
  | f + 1, c :: l, n, hn, y, h => by
    have hs := runD_size (c :: l) ByteArray.empty
    have he : ByteArray.empty.size = 0 := rfl
    cases hd : isDig c
    · by_cases hz : wid c.2.1 = 0
      · simp only [elemsF, hd, Bool.false_eq_true, if_false, hz, if_true] at h
        exact elemsF_ok f l n (by simp at hn; omega) y h
      · simp only [elemsF, hd, Bool.false_eq_true, if_false, hz, List.mem_append, List.mem_map] at h
        rcases h with ⟨d, hm, rfl⟩ | h
        · have := chars_rune _ d hm
          refine ⟨by show ByteArray.empty.size ≤ n; omega, ?_, ?_⟩
          · show -2147483648 ≤ (d.2.1 : Int); omega
          · show (d.2.1 : Int) ≤ 2147483647; omega
        · exact elemsF_ok f l n (by simp at hn; omega) y h
    · simp only [elemsF, hd, if_true, List.mem_cons] at h
      rcases h with rfl | h
      · refine ⟨?_, ?_, ?_⟩
        · show (runD (c :: l) ByteArray.empty).1.size ≤ n; omega
        · show -2147483648 ≤ (0 : Int); omega
        · show (0 : Int) ≤ 2147483647; omega
      · exact elemsF_ok f _ n (by omega) y h
theorem elems_ok (s : ByteArray) (hs : s.size ≤ 16777216) : ∀ y ∈ elems s, ElOk 16777216 y := elemsF_ok _ _ _ (Nat.le_trans (chars_len s) hs)
theorem elemsF_len : ∀ (f : Nat) (l : List Ch), (elemsF f l).length ≤ 4 * l.length
  | 0, l => by simp [elemsF]
  | f + 1, [] => by simp [elemsF]
  | f + 1, c :: l => by
    cases hd : isDig c
    · have ih := elemsF_len f l
      by_cases hz : wid c.2.1 = 0
      · simp only [elemsF, hd, Bool.false_eq_true, if_false, hz, if_true, List.length_cons]; omega
      · have hb : (chars (bas c.2.1)).length ≤ 4 := Nat.le_trans (chars_len _) (bas_size _)
        simp only [elemsF, hd, Bool.false_eq_true, if_false, hz, List.length_append, List.length_map, List.length_cons]; omega
    · have hr : (runD (c :: l) ByteArray.empty).2.length ≤ l.length := by simp only [runD, hd, if_true]; exact (runD_size _ _).2
      have ih := elemsF_len f (runD (c :: l) ByteArray.empty).2
      simp only [elemsF, hd, if_true, List.length_cons]; omega
theorem elems_len (s : ByteArray) : (elems s).length ≤ 4 * s.size := Nat.le_trans (elemsF_len _ _) (Nat.mul_le_mul_left 4 (chars_len s))
/-- The order of an index. -/
def compare (a b : ByteArray) : Int :=
  if cmpL elCmp (elems a) (elems b) ≠ 0 then cmpL elCmp (elems a) (elems b)
  else if cmpL (codeCmp true) (chars a) (chars b) ≠ 0 then cmpL (codeCmp true) (chars a) (chars b)
  else if cmpL (codeCmp false) (chars a) (chars b) ≠ 0 then cmpL (codeCmp false) (chars a) (chars b)
  else bytesCmp a b

/-- Under which heading of an index a text stands. -/
def groupOf (l : List El) : ByteArray :=
  match l with
  | [] => ⟨#[42]⟩
  | x :: _ => if x.cls = 0 then ⟨#[42]⟩ else if x.cls = 1 then ⟨#[48]⟩ else if inB x.code 97 122 then Utf8.encode (x.code - 32) else Utf8.encode x.code
def group (s : ByteArray) : ByteArray := groupOf (elems s)

end Go.Proofs.YtjgcbobalmmjkaaDoor
