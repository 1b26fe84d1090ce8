/- Plain mathematics of a text's characters: nothing of the program is in it. -/
import Derived.Laws.RangeAny
import GoSem.Core.Utf8
namespace Go.Proofs.YtoeknophfcfahaaGreatDoor
open Go

theorem decode_fits (s : ByteArray) (pos : Nat) (h : pos < s.size) : pos + (Utf8.decode s pos).2 ≤ s.size := by
  simp only [Utf8.decode]
  repeat' split
  all_goals simp_all
  all_goals omega
theorem width_pos (s : ByteArray) (pos : Nat) (h : pos < s.size) : 1 ≤ (Utf8.decode s pos).2 := by
  by_cases ha : (s[pos]'h).toNat < 128
  · rw [decode_ascii s pos h ha]
    exact Nat.le_refl _
  · exact (decode_high s pos h (by omega)).2

/-- A character: its place, its code point, its bytes. -/
abbrev Ch := Nat × Nat × Nat
def chs (s : ByteArray) : Nat → Nat → List Ch
  | 0, _ => []
  | fuel + 1, pos => if pos < s.size then (pos, (Utf8.decode s pos).1, (Utf8.decode s pos).2) :: chs s fuel (pos + (Utf8.decode s pos).2) else []
def chars (s : ByteArray) : List Ch := chs s s.size 0
def badB (c : Ch) : Bool := c.2.1 == 65533 && c.2.2 == 1

theorem chs_end (s : ByteArray) (fuel pos : Nat) (h : ¬ pos < s.size) : chs s fuel pos = [] := by
  cases fuel with
  | zero => rfl
  | succ f => simp [chs, h]
theorem chs_head (s : ByteArray) (fuel pos : Nat) (h : 0 < (chs s fuel pos).length) : ((chs s fuel pos)[0]'h).1 = pos := by
  cases fuel with
  | zero => simp [chs] at h
  | succ f =>
    by_cases hp : pos < s.size
    · simp [chs, hp]
    · simp [chs, hp] at h
/-- Each character ends where the next one begins, the last one at the text's end. -/
theorem chs_ends (s : ByteArray) : ∀ (fuel pos : Nat), s.size ≤ pos + fuel → pos ≤ s.size → ∀ (i : Nat) (h : i < (chs s fuel pos).length),
    ((chs s fuel pos)[i]).1 + ((chs s fuel pos)[i]).2.2 = (if h' : i + 1 < (chs s fuel pos).length then ((chs s fuel pos)[i + 1]).1 else s.size)
  | 0, pos, _, _, i, h => by simp [chs] at h
  | fuel + 1, pos, hf, hps, i, h => by
    by_cases hp : pos < s.size
    · have hw := width_pos s pos hp
      have hfit := decode_fits s pos hp
      have ih := chs_ends s fuel (pos + (Utf8.decode s pos).2) (by omega) (by omega)
      simp only [chs, hp, if_true] at h ⊢
      cases i with
      | zero =>
        by_cases hl : 0 < (chs s fuel (pos + (Utf8.decode s pos).2)).length
        · have := chs_head s fuel _ hl
          simp [hl, this]
        · have hnil : chs s fuel (pos + (Utf8.decode s pos).2) = [] := List.eq_nil_of_length_eq_zero (by omega)
          have hend : ¬ (pos + (Utf8.decode s pos).2) < s.size := by
            intro hlt
            cases fuel with
            | zero => omega
            | succ f => simp [chs, hlt] at hnil
          simp [hnil]
          omega
      | succ i =>
        have := ih i (by simpa using h)
        simpa using this
    · simp [chs, hp] at h
theorem chars_ends (s : ByteArray) (i : Nat) (h : i < (chars s).length) :
    ((chars s)[i]).1 + ((chars s)[i]).2.2 = (if h' : i + 1 < (chars s).length then ((chars s)[i + 1]).1 else s.size) :=
  chs_ends s s.size 0 (by omega) (by omega) i h
/-- Each character is what is decoded at its place. -/
theorem chs_at (s : ByteArray) : ∀ (fuel pos : Nat) (c : Ch), c ∈ chs s fuel pos → pos ≤ c.1 ∧ c.1 < s.size ∧ c.2 = Utf8.decode s c.1
  | 0, pos, c, h => by simp [chs] at h
  | fuel + 1, pos, c, h => by
    by_cases hp : pos < s.size
    · simp only [chs, hp, if_true, List.mem_cons] at h
      rcases h with rfl | h
      · exact ⟨by simp, hp, rfl⟩
      · obtain ⟨h1, h2, h3⟩ := chs_at s fuel _ c h
        exact ⟨by omega, h2, h3⟩
    · simp [chs, hp] at h
theorem chars_at (s : ByteArray) (c : Ch) (h : c ∈ chars s) : c.1 < s.size ∧ c.2 = Utf8.decode s c.1 := (chs_at s _ _ c h).2
theorem chars_rune (s : ByteArray) (c : Ch) (h : c ∈ chars s) : c.2.1 ≤ 2147483647 := by
  rw [(chars_at s c h).2]; exact decode_le s c.1
theorem chars_width (s : ByteArray) (c : Ch) (h : c ∈ chars s) : 1 ≤ c.2.2 ∧ c.1 + c.2.2 ≤ s.size := by
  obtain ⟨h1, h2⟩ := chars_at s c h
  rw [h2]; exact ⟨width_pos s _ h1, decode_fits s _ h1⟩
theorem chs_len (s : ByteArray) : ∀ (fuel pos : Nat), pos ≤ s.size → (chs s fuel pos).length + pos ≤ s.size
  | 0, pos, h => by simp [chs]; exact h
  | fuel + 1, pos, h => by
    by_cases hp : pos < s.size
    · have hw := width_pos s pos hp
      have hfit := decode_fits s pos hp
      have := chs_len s fuel (pos + (Utf8.decode s pos).2) hfit
      simp [chs, hp]; omega
    · simp [chs, hp]; exact h
theorem chars_len (s : ByteArray) : (chars s).length ≤ s.size := by have := chs_len s s.size 0 (by omega); simpa [chars] using this

/-- What the cells of a list of characters hold: of all their code points and places, of the first k the rest. -/
def Holds4 (xs : List Value) (l : List Ch) (k : Nat) : Prop :=
  xs.length = l.length * 4 ∧ ∀ (i : Nat) (c : Ch), l[i]? = some c → xs[i * 4]? = some (.int .i32 c.2.1) ∧ xs[i * 4 + 1]? = some (.int .i64 c.1) ∧ (i < k → xs[i * 4 + 2]? = some (.int .i64 c.2.2) ∧ xs[i * 4 + 3]? = some (.bool (badB c)))
def raw (c : Ch) : List Value := [.int .i32 c.2.1, .int .i64 c.1, .int .i64 0, .bool false]
def raws (l : List Ch) : List Value := l.flatMap raw
theorem raws_len (l : List Ch) : (raws l).length = l.length * 4 := by
  induction l with
  | nil => rfl
  | cons a l ih => simp [raws, raw] at ih ⊢; omega
theorem raws_snoc (l : List Ch) (c : Ch) : raws (l ++ [c]) = raws l ++ raw c := by simp [raws]
theorem raws_get : ∀ (l : List Ch) (i : Nat) (c : Ch), l[i]? = some c → (raws l)[i * 4]? = some (.int .i32 c.2.1) ∧ (raws l)[i * 4 + 1]? = some (.int .i64 c.1)
  | [], i, c, h => by simp at h
  | a :: l, 0, c, h => by simp at h; subst h; simp [raws, raw]
  | a :: l, i + 1, c, h => by
    have ih := raws_get l i c (by simpa using h)
    have e : raws (a :: l) = raw a ++ raws l := by simp [raws]
    have hl : (raw a).length = 4 := rfl
    rw [e, List.getElem?_append_right (by omega), List.getElem?_append_right (by omega), hl, show (i + 1) * 4 - 4 = i * 4 by omega, show (i + 1) * 4 + 1 - 4 = i * 4 + 1 by omega]
    exact ih
theorem holds4_raws (l : List Ch) : Holds4 (raws l) l 0 := ⟨raws_len l, fun i c h => ⟨(raws_get l i c h).1, (raws_get l i c h).2, fun h0 => absurd h0 (by omega)⟩⟩
theorem holds4_step {xs : List Value} {l : List Ch} {k : Nat} {c : Ch} (h : Holds4 xs l k) (hk : l[k]? = some c) :
    Holds4 ((xs.set (k * 4 + 2) (.int .i64 c.2.2)).set (k * 4 + 3) (.bool (badB c))) l (k + 1) := by
  have hkl : k < l.length := (List.getElem?_eq_some_iff.1 hk).1
  refine ⟨by simpa using h.1, fun i d hd => ?_⟩
  have hlen := h.1
  obtain ⟨h1, h2, h3⟩ := h.2 i d hd
  refine ⟨?_, ?_, fun hi => ?_⟩
  · rw [List.getElem?_set_ne (by omega), List.getElem?_set_ne (by omega)]; exact h1
  · rw [List.getElem?_set_ne (by omega), List.getElem?_set_ne (by omega)]; exact h2
  · by_cases e : i = k
    · subst e
      obtain rfl : d = c := by rw [hk] at hd; exact (Option.some.inj hd).symm
      refine ⟨?_, ?_⟩
      · rw [List.getElem?_set_ne (by omega), List.getElem?_set_self (by omega)]
      · rw [List.getElem?_set_self (by simp; omega)]
    · obtain ⟨h4, h5⟩ := h3 (by omega)
      refine ⟨?_, ?_⟩
      · rw [List.getElem?_set_ne (by omega), List.getElem?_set_ne (by omega)]; exact h4
      · rw [List.getElem?_set_ne (by omega), List.getElem?_set_ne (by omega)]; exact h5
end Go.Proofs.YtoeknophfcfahaaGreatDoor
