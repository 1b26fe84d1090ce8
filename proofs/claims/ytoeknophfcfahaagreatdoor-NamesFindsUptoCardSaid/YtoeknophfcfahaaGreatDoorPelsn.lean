/- Plain mathematics of a text's elements, told one by one from what is left of it: nothing of the program is in it. -/
import Derived.Test.YtoeknophfcfahaaGreatDoorJoinn
import Derived.Test.YtoeknophfcfahaaGreatDoorElemsn
import Derived.Lib.TrimByte
namespace Go.Proofs.YtoeknophfcfahaaGreatDoor
open Go.RowKit

/-- The code points of a text. -/
def cds (s : ByteArray) : List Nat := (chars s).map (·.2.1)
def elR (r : Nat) : El := ⟨clsOf r, r, ByteArray.empty⟩
def isDigC (r : Nat) : Bool := inB r 48 57
def stepC (d : ByteArray) (r : Nat) : ByteArray := if !d.toList.isEmpty || (r : Int) != 48 then d ++ Utf8.encode r else d
def runC : List Nat → ByteArray → ByteArray × List Nat
  | [], d => (d, [])
  | r :: l, d => if isDigC r then runC l (stepC d r) else (d, r :: l)
def elemsC : Nat → List Nat → List El
  | 0, _ => []
  | _ + 1, [] => []
  | f + 1, r :: l => if isDigC r then ⟨1, 0, (runC (r :: l) ByteArray.empty).1⟩ :: elemsC f (runC (r :: l) ByteArray.empty).2
    else if wid r = 0 then elemsC f l else (cds (bas r)).map elR ++ elemsC f l
theorem runD_codes : ∀ (l : List Ch) (d : ByteArray), (runD l d).1 = (runC (l.map (·.2.1)) d).1 ∧ (runD l d).2.map (·.2.1) = (runC (l.map (·.2.1)) d).2
  | [], d => ⟨rfl, rfl⟩
  | c :: l, d => by
    simp only [runD, List.map_cons, runC]
    by_cases h : isDig c = true
    · have h2 : isDigC c.2.1 = true := h
      rw [if_pos h, if_pos h2]
      exact runD_codes l (digStep d c)
    · have h2 : ¬ isDigC c.2.1 = true := h
      rw [if_neg h, if_neg h2]
      exact ⟨rfl, rfl⟩
theorem elemsF_codes : ∀ (f : Nat) (l : List Ch), elemsF f l = elemsC f (l.map (·.2.1))
  | 0, l => rfl
  | f + 1, [] => rfl
  | f + 1, c :: l => by
    have hr := runD_codes (c :: l) ByteArray.empty
    simp only [elemsF, List.map_cons, elemsC]
    by_cases h : isDig c = true
    · have h2 : isDigC c.2.1 = true := h
      rw [if_pos h, if_pos h2, elemsF_codes f _, hr.1, hr.2]
      rfl
    · have h2 : ¬ isDigC c.2.1 = true := h
      rw [if_neg h, if_neg h2, elemsF_codes f l]
      have e : (chars (bas c.2.1)).map elOf = (cds (bas c.2.1)).map elR := by simp [cds, elOf, elR, Function.comp_def]
      rw [e]
theorem runC_len : ∀ (l : List Nat) (d : ByteArray), (runC l d).2.length ≤ l.length
  | [], d => Nat.le_refl _
  | r :: l, d => by
    unfold runC
    split
    · exact Nat.le_succ_of_le (runC_len l _)
    · exact Nat.le_refl _
theorem elemsC_fuel : ∀ (n f g : Nat) (l : List Nat), l.length ≤ n → l.length < f → l.length < g → elemsC f l = elemsC g l
  | n, 0, g, l, h, hf, hg => by omega
  | n, f + 1, 0, l, h, hf, hg => by omega
  | n, f + 1, g + 1, [], h, hf, hg => rfl
  | 0, f + 1, g + 1, r :: l, h, hf, hg => by simp at h
  | n + 1, f + 1, g + 1, r :: l, h, hf, hg => by
    simp only [List.length_cons] at h hf hg
    simp only [elemsC]
    cases hd : isDigC r
    · simp only [Bool.false_eq_true, if_false]
      rw [elemsC_fuel n f g l (by omega) (by omega) (by omega)]
    · have hl : (runC (r :: l) ByteArray.empty).2.length ≤ l.length := by simp only [runC, hd, if_true]; exact runC_len l _
      simp only [if_true]
      rw [elemsC_fuel n f g _ (by omega) (by omega) (by omega)]
/-- The elements of a list of code points. -/
def tl (l : List Nat) : List El := elemsC (l.length + 1) l
theorem tl_cons (r : Nat) (l : List Nat) : tl (r :: l) = if isDigC r then ⟨1, 0, (runC (r :: l) ByteArray.empty).1⟩ :: tl (runC (r :: l) ByteArray.empty).2
    else if wid r = 0 then tl l else (cds (bas r)).map elR ++ tl l := by
  show elemsC (l.length + 1 + 1) (r :: l) = _
  simp only [elemsC]
  cases hd : isDigC r
  · rfl
  · have hl : (runC (r :: l) ByteArray.empty).2.length ≤ l.length := by simp only [runC, hd, if_true]; exact runC_len l _
    simp only [if_true]
    unfold tl
    rw [elemsC_fuel l.length _ ((runC (r :: l) ByteArray.empty).2.length + 1) _ hl (by omega) (by omega)]
theorem elems_tl (s : ByteArray) : elems s = tl (cds s) := by
  unfold elems tl cds
  rw [elemsF_codes, List.length_map]

/-- What is behind the first n bytes. -/
def behind (s : ByteArray) (n : Nat) : ByteArray := s.extract n s.size
theorem behind_size (s : ByteArray) (n : Nat) : (behind s n).size = s.size - n := by unfold behind; rw [ByteArray.size_extract]; omega
theorem chs_behind (s : ByteArray) (f n : Nat) (h : n ≤ s.size) : (chs s f n).map (·.2.1) = (chs (behind s n) f 0).map (·.2.1) := by
  have e : s = s.extract 0 n ++ behind s n := by
    have := extract_join s 0 n s.size (by omega) h
    unfold behind
    rw [this]
    simp
  have hz : (s.extract 0 n).size = n := by rw [ByteArray.size_extract]; omega
  have h1 := chs_right (s.extract 0 n) (behind s n) f 0
  rw [← e, hz, Nat.add_zero] at h1
  rw [h1, List.map_map]
  congr 1
theorem cds_nil {s : ByteArray} (h : s.size = 0) : cds s = [] := by
  unfold cds chars
  rw [h]; rfl
theorem cds_cons {s : ByteArray} (h : 0 < s.size) : cds s = (Utf8.decode s 0).1 :: cds (behind s (Utf8.decode s 0).2) := by
  have hfit := decode_fits s 0 h
  have hw := width_pos s 0 h
  have e : chars s = (0, (Utf8.decode s 0).1, (Utf8.decode s 0).2) :: chs s (s.size - 1) (Utf8.decode s 0).2 := by
    unfold chars
    obtain ⟨n, hn⟩ : ∃ n, s.size = n + 1 := ⟨s.size - 1, by omega⟩
    have : chs s (n + 1) 0 = (0, (Utf8.decode s 0).1, (Utf8.decode s 0).2) :: chs s n (0 + (Utf8.decode s 0).2) := by simp [chs, h]
    rw [hn, this, Nat.zero_add, Nat.add_sub_cancel]
  unfold cds
  rw [e, List.map_cons, chs_behind s _ _ (by omega), chs_fuel (behind s (Utf8.decode s 0).2) (s.size - 1) (behind s (Utf8.decode s 0).2).size 0 (by rw [behind_size]; omega) (by omega)]
  rfl
theorem cds_ascii {s : ByteArray} (h : 0 < s.size) (ha : s[0].toNat < 128) : cds s = s[0].toNat :: cds (behind s 1) := by
  have := cds_cons h
  rw [decode_ascii s 0 h ha] at this
  exact this

/-! ### the digits at the head of a text -/
def digB (b : UInt8) : Bool := 48 ≤ b.toNat && b.toNat ≤ 57
/-- How many digits a text begins with. -/
def dig (s : ByteArray) : Nat := (s.data.toList.takeWhile digB).length
theorem dig_le (s : ByteArray) : dig s ≤ s.size := by
  have := (List.takeWhile_prefix digB (l := s.data.toList)).length_le
  rw [list_len] at this
  exact this
/-- The first code point is a digit just where the first byte is one. -/
theorem first_dig {s : ByteArray} (h : 0 < s.size) : isDigC (Utf8.decode s 0).1 = digB s[0] := by
  by_cases ha : s[0].toNat < 128
  · rw [decode_ascii s 0 h ha, Bool.eq_iff_iff]
    simp [isDigC, inB, digB]; omega
  · have hh := (decode_high s 0 h (by omega)).1
    rw [Bool.eq_iff_iff]
    simp [isDigC, inB, digB]; omega
theorem behind_list (s : ByteArray) (n : Nat) : (behind s n).data.toList = s.data.toList.drop n := by
  unfold behind
  rw [Lib.extract_data, List.take_of_length_le (by rw [List.length_drop, list_len]; exact Nat.le_refl _)]
theorem list_cons {s : ByteArray} (h : 0 < s.size) : s.data.toList = s[0] :: (behind s 1).data.toList := by
  rw [behind_list]
  have h' : 0 < s.data.toList.length := by rw [list_len]; exact h
  have := List.drop_eq_getElem_cons h'
  rw [List.drop_zero] at this
  have e : s.data.toList[0]'h' = s[0] := Option.some.inj ((List.getElem?_eq_getElem h').symm.trans (list_get s 0 h))
  rw [e] at this
  exact this
theorem dig_cons {s : ByteArray} (h : 0 < s.size) (hd : digB s[0] = true) : dig s = dig (behind s 1) + 1 := by
  unfold dig
  rw [list_cons h, List.takeWhile_cons, hd]
  simp
theorem dig_zero {s : ByteArray} (h : 0 < s.size) (hd : digB s[0] = false) : dig s = 0 := by
  unfold dig
  rw [list_cons h, List.takeWhile_cons, hd]
  rfl
theorem behind_behind (s : ByteArray) (a b : Nat) : behind (behind s a) b = behind s (a + b) := by
  apply ByteArray.ext
  apply Array.ext'
  rw [behind_list, behind_list, behind_list, List.drop_drop]
theorem behind_zero (s : ByteArray) : behind s 0 = s := by
  apply ByteArray.ext
  apply Array.ext'
  rw [behind_list]; rfl
/-- The digits of a text, without noughts ahead. -/
def digs (s : ByteArray) : ByteArray := ⟨(Lib.trimLeftB (s.extract 0 (dig s)).data.toList 48).toArray⟩
theorem head_list (s : ByteArray) : (s.extract 0 (dig s)).data.toList = s.data.toList.takeWhile digB := by
  rw [Lib.extract_data, List.drop_zero, Nat.sub_zero]
  exact (List.prefix_iff_eq_take.1 (List.takeWhile_prefix digB)).symm
theorem enc_ascii (r : Nat) (h : r < 128) : Utf8.encode r = ⟨#[UInt8.ofNat r]⟩ := by
  have hv : Utf8.valid (r : Int) = true := by simp [Utf8.valid]; omega
  unfold Utf8.encode
  simp only [hv, if_true, Int.toNat_natCast]
  rw [if_pos (by omega)]
/-- A list of digit bytes laid behind others. -/
def layD (d : List UInt8) (l : List UInt8) : List UInt8 := if d = [] then Lib.trimLeftB l 48 else d ++ l
theorem stepC_lay (d : ByteArray) (b : UInt8) (l : List UInt8) (hb : digB b = true) : layD d.data.toList (b :: l) = layD (stepC d b.toNat).data.toList l := by
  have hb2 : b.toNat < 128 := by simp [digB] at hb; omega
  have he : Utf8.encode (b.toNat : Int) = ⟨#[b]⟩ := by rw [enc_ascii _ hb2]; simp
  have hl : d.toList = d.data.toList := ByteArray.toList_eq d
  unfold stepC
  rw [hl, he]
  by_cases hd : d.data.toList = []
  · by_cases h0 : b = 48
    · subst h0
      simp only [hd, List.isEmpty_nil, Bool.not_true, Bool.false_or]
      rw [if_neg (by decide)]
      simp [layD, hd, Lib.trimLeftB]
    · have h1 : ((b.toNat : Int) != 48) = true := by
        simp only [bne_iff_ne, ne_eq]
        intro h
        exact h0 (UInt8.toNat_inj.1 (by simpa using (by omega : b.toNat = 48)))
      rw [h1, Bool.or_true, if_pos rfl]
      have h2 : (d ++ (⟨#[b]⟩ : ByteArray)).data.toList = [b] := by
        rw [ByteArray.data_append, Array.toList_append, hd]; rfl
      rw [h2]
      simp [layD, hd, Lib.trimLeftB, h0]
  · have h1 : d.data.toList.isEmpty = false := by simpa using hd
    simp only [h1, Bool.not_false, Bool.true_or, if_true]
    have h2 : (d ++ (⟨#[b]⟩ : ByteArray)).data.toList = d.data.toList ++ [b] := by
      rw [ByteArray.data_append, Array.toList_append]
    rw [h2]
    simp [layD, hd]
/-- The run of digits at the head of a text, and what is behind it. -/
theorem runC_dig : ∀ (n : Nat) (s d : ByteArray), s.size ≤ n → (runC (cds s) d).1.data.toList = layD d.data.toList (s.data.toList.takeWhile digB) ∧ (runC (cds s) d).2 = cds (behind s (dig s))
  | n, s, d, hn => by
    by_cases h : 0 < s.size
    · cases hd : digB s[0]
      · have hf := first_dig h
        rw [hd] at hf
        rw [dig_zero h hd, behind_zero, cds_cons h]
        simp only [runC, hf, Bool.false_eq_true, if_false]
        have : s.data.toList.takeWhile digB = [] := by rw [list_cons h, List.takeWhile_cons, hd]; rfl
        rw [this]
        refine ⟨?_, trivial⟩
        unfold layD
        split
        · rename_i e; rw [e]; rfl
        · simp
      · have hb2 : s[0].toNat < 128 := by simp [digB] at hd; omega
        have hf := first_dig h
        rw [hd, decode_ascii s 0 h hb2] at hf
        cases n with
        | zero => omega
        | succ n =>
          have ih := runC_dig n (behind s 1) (stepC d s[0].toNat) (by rw [behind_size]; omega)
          rw [cds_ascii h hb2]
          simp only [runC]
          rw [if_pos hf, ih.1, ih.2, behind_behind, dig_cons h hd]
          refine ⟨?_, by rw [Nat.add_comm 1]⟩
          have e : s.data.toList.takeWhile digB = s[0] :: (behind s 1).data.toList.takeWhile digB := by rw [list_cons h, List.takeWhile_cons, hd]; rfl
          rw [e, stepC_lay d s[0] _ hd]
    · have hz : s.size = 0 := by omega
      have hl : s.data.toList = [] := List.eq_nil_of_length_eq_zero (by rw [list_len]; exact hz)
      have hdz : dig s = 0 := by have := dig_le s; omega
      rw [hdz, behind_zero, cds_nil hz, hl]
      refine ⟨?_, rfl⟩
      simp only [runC, List.takeWhile_nil]
      unfold layD
      split
      · rename_i e; rw [e]; rfl
      · simp

/-! ### what is still to be told -/
def told (rest base : ByteArray) : List El := (cds base).map elR ++ tl (cds rest)
theorem elems_told (s : ByteArray) : elems s = told s ByteArray.empty := by rw [elems_tl]; rfl
theorem told_end {rest base : ByteArray} (hr : rest.size = 0) (hb : base.size = 0) : told rest base = [] := by
  unfold told; rw [cds_nil hr, cds_nil hb]; rfl
theorem told_base {rest base : ByteArray} (hb : 0 < base.size) : told rest base = elR (Utf8.decode base 0).1 :: told rest (behind base (Utf8.decode base 0).2) := by
  unfold told; rw [cds_cons hb]; rfl
theorem told_number {rest base : ByteArray} (hb : base.size = 0) (hd : 0 < dig rest) : told rest base = ⟨1, 0, digs rest⟩ :: told (behind rest (dig rest)) base := by
  have hr : 0 < rest.size := by have := dig_le rest; omega
  have hdb : digB rest[0] = true := by
    cases h : digB rest[0]
    · have := dig_zero hr h; omega
    · rfl
  have hf := first_dig hr
  rw [hdb] at hf
  have hrun := runC_dig rest.size rest ByteArray.empty (Nat.le_refl _)
  unfold told
  rw [cds_nil hb]
  have e : cds rest = (Utf8.decode rest 0).1 :: cds (behind rest (Utf8.decode rest 0).2) := cds_cons hr
  rw [List.map_nil, List.nil_append, List.nil_append, e, tl_cons, if_pos hf, ← e, hrun.2]
  congr 2
  apply ByteArray.ext
  apply Array.ext'
  rw [hrun.1]
  unfold digs
  rw [head_list]
  rfl
theorem told_none {rest base : ByteArray} (hb : base.size = 0) (hr : 0 < rest.size) (hd : dig rest = 0) (hw : wid (Utf8.decode rest 0).1 = 0) : told rest base = told (behind rest (Utf8.decode rest 0).2) base := by
  have hf := first_dig hr
  have hdb : digB rest[0] = false := by
    cases h : digB rest[0]
    · rfl
    · have := dig_cons hr h; omega
  rw [hdb] at hf
  unfold told
  rw [cds_nil hb, cds_cons hr, tl_cons, if_neg (by rw [hf]; exact Bool.false_ne_true), if_pos hw]
theorem told_letter {rest base : ByteArray} (hb : base.size = 0) (hr : 0 < rest.size) (hd : dig rest = 0) (hw : ¬ wid (Utf8.decode rest 0).1 = 0) : told rest base = told (behind rest (Utf8.decode rest 0).2) (bas (Utf8.decode rest 0).1) := by
  have hf := first_dig hr
  have hdb : digB rest[0] = false := by
    cases h : digB rest[0]
    · rfl
    · have := dig_cons hr h; omega
  rw [hdb] at hf
  unfold told
  rw [cds_nil hb, cds_cons hr, tl_cons, if_neg (by rw [hf]; exact Bool.false_ne_true), if_neg hw]
  rfl
end Go.Proofs.YtoeknophfcfahaaGreatDoor
