/- The program's Words of layer 2. -/
import Derived.Test.YtoeknophfcfahaaGreatDoorPgoodn
import Derived.Test.YtoeknophfcfahaaGreatDoorOrdn
namespace Go.Proofs.YtoeknophfcfahaaGreatDoor
open Go.RowKit Go.Maps

/-- The longest beginning without a blank. -/
def unb (l : List UInt8) : List UInt8 := l.takeWhile fun x => !(x == 32)
theorem cut_unb : ∀ l : List UInt8, (Lib.cut l [32]).1 = unb l := by
  have key : ∀ l : List UInt8, (if 0 ≤ Lib.indexByte l 32 then l.take (Lib.indexByte l 32).toNat else l) = unb l := by
    intro l
    induction l with
    | nil => simp [Lib.indexByte, unb]
    | cons b l ih =>
      have hg := Lib.indexByte_ge l 32
      by_cases hb : b = 32
      · simp [Lib.indexByte, unb, hb]
      · have hb2 : (b == 32) = false := by simpa using hb
        by_cases h : Lib.indexByte l 32 = -1
        · rw [h] at ih
          simp only [Lib.indexByte, hb2, h, unb, List.takeWhile_cons] at ih ⊢
          simp at ih ⊢
          exact ih
        · have h0 : 0 ≤ Lib.indexByte l 32 := by omega
          rw [if_pos h0] at ih
          have h1 : (Lib.indexByte l 32 == -1) = false := by simpa using h
          simp only [Lib.indexByte, hb2, h1, unb, List.takeWhile_cons]
          simp only [Bool.false_eq_true, if_false, Bool.not_false, if_true]
          rw [if_pos (by omega), show (Lib.indexByte l 32 + 1).toNat = (Lib.indexByte l 32).toNat + 1 by omega, List.take_succ_cons, ih]
          rfl
  intro l
  rw [← key l]
  unfold Lib.cut
  rw [Lib.index_one]
  split <;> rfl
theorem unb_take (l : List UInt8) : unb l = l.take (unb l).length := by
  have h := List.takeWhile_prefix (fun x : UInt8 => !(x == 32)) (l := l)
  exact (List.prefix_iff_eq_take.1 h)
theorem unb_in : ∀ (l : List UInt8) (t : Nat), t < (unb l).length → ∃ b, l[t]? = some b ∧ ¬ b = 32
  | [], t, h => by simp [unb] at h
  | b :: l, t, h => by
    by_cases hb : b = 32
    · simp [unb, hb] at h
    · have e : unb (b :: l) = b :: unb l := by simp [unb, hb]
      rw [e] at h
      cases t with
      | zero => exact ⟨b, rfl, hb⟩
      | succ t => simpa using unb_in l t (by simpa using h)
theorem unb_end : ∀ (l : List UInt8), (unb l).length = l.length ∨ l[(unb l).length]? = some 32
  | [] => .inl rfl
  | b :: l => by
    by_cases hb : b = 32
    · right; simp [unb, hb]
    · have e : unb (b :: l) = b :: unb l := by simp [unb, hb]
      rw [e]
      rcases unb_end l with h | h
      · left; simp [h]
      · right; simpa using h
theorem unb_le (l : List UInt8) : (unb l).length ≤ l.length := by
  have := congrArg List.length (unb_take l)
  simp at this; omega
/-- How many bytes stand from a place on up to the next blank. -/
def run (s : ByteArray) (k : Nat) : Nat := (unb (s.data.toList.drop k)).length
theorem run_le (s : ByteArray) (k : Nat) (h : k ≤ s.size) : k + run s k ≤ s.size := by
  have := unb_le (s.data.toList.drop k)
  rw [List.length_drop, list_len] at this
  unfold run; omega
theorem run_within (s : ByteArray) (k t : Nat) (h1 : k ≤ t) (h2 : t < k + run s k) (h3 : t < s.size) : ¬ s[t] = 32 := by
  obtain ⟨b, hb, hn⟩ := unb_in (s.data.toList.drop k) (t - k) (by unfold run at h2; omega)
  rw [List.getElem?_drop, show k + (t - k) = t by omega, list_get s t h3] at hb
  rw [Option.some.inj hb]; exact hn
theorem run_end (s : ByteArray) (k : Nat) (h : k ≤ s.size) : k + run s k = s.size ∨ ∃ h : k + run s k < s.size, s[k + run s k] = 32 := by
  have hle := run_le s k h
  rcases unb_end (s.data.toList.drop k) with h1 | h1
  · left; rw [List.length_drop, list_len] at h1; unfold run; omega
  · right
    have hlt : k + run s k < s.size := by
      have := (List.getElem?_eq_some_iff.1 h1).1
      rw [List.length_drop, list_len] at this
      unfold run; omega
    refine ⟨hlt, ?_⟩
    rw [List.getElem?_drop] at h1
    have := list_get s _ hlt
    unfold run at this ⊢
    rw [h1] at this
    exact (Option.some.inj this).symm
theorem word_is (s : ByteArray) (k : Nat) (h : k ≤ s.size) : (ByteArray.mk (Lib.cut (s.extract k s.size).data.toList [32]).1.toArray) = s.extract k (k + run s k) := by
  have hle := run_le s k h
  have e1 : (s.extract k s.size).data.toList = s.data.toList.drop k := by
    rw [Lib.extract_data, List.take_of_length_le (by rw [List.length_drop, list_len]; exact Nat.le_refl _)]
  have e2 : (s.extract k (k + run s k)).data.toList = (s.data.toList.drop k).take (run s k) := by
    rw [Lib.extract_data]; congr 1; omega
  rw [cut_unb, e1]
  apply ByteArray.ext
  apply Array.ext'
  rw [e2]
  show unb (s.data.toList.drop k) = _
  rw [unb_take]
  rfl
theorem wrds_skip (s : ByteArray) : ∀ (n f k b : Nat), (∀ t, k ≤ t → t < k + n → ∃ h : t < s.size, ¬ s[t] = 32) → wrds s (f + n) k b = wrds s f (k + n) b
  | 0, f, k, b, _ => rfl
  | n + 1, f, k, b, h => by
    obtain ⟨h1, h2⟩ := h k (Nat.le_refl _) (by omega)
    rw [show f + (n + 1) = (f + n) + 1 by omega, wrds_more h1 h2, wrds_skip s n f (k + 1) b (fun t ht ht2 => h t (by omega) (by omega))]
    congr 1
    omega
/-- One step of the program is a word, if there is one, and the blank behind it. -/
theorem wrds_step (s : ByteArray) (k fuel : Nat) (hk : k ≤ s.size) (hf : k + fuel = s.size + 1) :
    wrds s fuel k k = (if 0 < run s k then [(k, k + run s k)] else []) ++ wrds s (s.size - (k + run s k)) (k + run s k + 1) (k + run s k + 1) := by
  have hle := run_le s k hk
  have e : fuel = (s.size - (k + run s k) + 1) + run s k := by omega
  rw [e, wrds_skip s (run s k) _ k k (fun t h1 h2 => ⟨by omega, run_within s k t h1 h2 (by omega)⟩), wrds_part (run_end s k hk) _ k (by intro h; omega)]
  by_cases h : 0 < run s k
  · rw [if_pos h, if_pos (by omega)]
  · rw [if_neg h, if_neg (by omega)]

end Go.Proofs.YtoeknophfcfahaaGreatDoor
