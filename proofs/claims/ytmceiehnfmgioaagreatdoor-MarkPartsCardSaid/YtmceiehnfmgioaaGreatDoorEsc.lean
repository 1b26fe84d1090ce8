/- Escape: the program's and the document's. -/
import Derived.Test.YtmceiehnfmgioaaGreatDoorMBld
import Derived.Test.YtmceiehnfmgioaaGreatDoorLxa
namespace Go.Proofs.YtmceiehnfmgioaaGreatDoor
open Go.RowKit Go.Maps
set_option linter.unusedVariables false

def escB (first : Bool) (c : UInt8) : List UInt8 :=
  if c == 92 || c == 123 || c == 125 || c == 124 || first && (c == 46 || c == 35) then [92, c] else [c]
def escG : Nat → List UInt8 → List UInt8
  | _, [] => []
  | k, c :: r => escB (k == 0) c ++ escG (k + 1) r
def escM (l : List UInt8) : List UInt8 := escG 0 l
theorem bis_below {B b : Nat} {bs : List Value} {w w' : World} (h : BIs B b bs w) (hb : Below w.heap.size w w') : BIs B b bs w' := by
  have go : ∀ p, Lib.BuilderAtF 108 5 B b p bs w → Lib.BuilderAtF 108 5 B b p bs w' := by
    rintro p ⟨h1, v, h2, h3, h4⟩
    refine ⟨h1, v, (hb.block b (lt_heap h2)).trans h2, ⟨h3.1, ?_⟩, h4⟩
    rcases h3.2 with h0 | ⟨g, cap, cur, fz, e1, e2, e3, e4⟩
    · exact .inl h0
    · exact .inr ⟨g, cap, cur, fz, e1, e2, (hb.block g (lt_heap e3)).trans e3, e4⟩
  exact h.elim (fun x => .inl (go _ x)) (fun x => .inr (go _ x))

/-- Where Escape's loop stands. -/
def EscI (l : List UInt8) (w : World) (i : Value) (wr : World) : Prop :=
  ∃ (k : Nat) (out : List UInt8), i = .int .i64 k ∧ k ≤ l.length ∧ BIs w.heap.size w.heap.size (Lib.byteCells out) wr ∧ out ++ escG k (l.drop k) = escM l ∧ out.length ≤ 2 * k ∧ Below w.heap.size w wr ∧ w.heap.size ≤ wr.heap.size
theorem esc_step {l out : List UInt8} {k : Nat} {c : UInt8} {r : List UInt8} (hd : l.drop k = c :: r) (h : out ++ escG k (l.drop k) = escM l) {s : List UInt8} (hs : escB (k == 0) c = s) : (out ++ s) ++ escG (k + 1) (l.drop (k + 1)) = escM l := by
  have e : l.drop (k + 1) = r := by rw [← List.drop_drop, hd]; rfl
  rw [e, ← h, hd, ← hs]
  simp [escG]

theorem num_neE {b c : UInt8} (h : b ≠ c) {k : Int} (hk : k = c.toNat := by rfl) : ((b.toNat : Int) == k) = false := by
  rw [beq_eq_false_iff_ne, hk]
  intro e
  exact h (UInt8.toNat_inj.1 (by omega))
set_option maxRecDepth 100000 in
set_option maxHeartbeats 16000000 in
theorem escape_pro (l : List UInt8) (w : World) (hl : l.length ≤ 1048576) :
    Calls Tryz.prog 22 #[.string (bs l)] w (Says (.string (bs (escM l))) w) := by
  have z1 := bs_size l
  have HLL := Lib.hid hl
  have b0 : (l.length : Int) ≤ 1048576 := by omega
  have S0 := Lib.hid (show EscI l w (.int .i64 (0 : Nat)) (w.alloc (.cells #[.pointer none, .slice none 0 0] 108)) from
    ⟨0, [], rfl, Nat.zero_le _, Lib.IsBuilderF.of (Lib.fresh_isBuilder 108 5 w), rfl, Nat.zero_le _, (Below.refl _ w).alloc (Nat.le_refl _) _, by simp⟩)
  clear hl
  go_enter Tryz.func22, Tryz.ntmps22
  go_wp2_with fail
  go_loopw [7] (fun i wr => EscI l w i wr) (fun i _ => l.length - (intOf i).toNat)
  case atStart => exact S0.out
  case round =>
    obtain ⟨k, out, rfl, hk, hbi, hout, hol, hbl, hsz⟩ := hrel
    have BI := Lib.hid hbi
    have HO := Lib.hid hout
    have HB := Lib.hid hbl
    have HS := Lib.hid hsz
    have HL1 := Lib.hid (show (Lib.byteCells out).length + 1 ≤ 140737488355328 by rw [Lib.byteCells_length]; have := HLL.out; omega)
    have HL2 := Lib.hid (show (Lib.byteCells out ++ [Value.int .u8 92]).length + 1 ≤ 140737488355328 by rw [List.length_append, Lib.byteCells_length]; have := HLL.out; simp; omega)
    have HOL := Lib.hid hol
    by_cases hlt : k < l.length
    · obtain ⟨c, hc⟩ : ∃ c, l[k] = c := ⟨_, rfl⟩
      have hdk : l.drop k = c :: l.drop (k + 1) := by rw [List.drop_eq_getElem_cons hlt, hc]
      have HD := Lib.hid hdk
      have hix : ∀ hh, (bs l)[k]'hh = c := fun _ => hc
      have bk0 : 0 ≤ (k : Int) := by omega
      have HLT := Lib.hid hlt
      clear hbi hout hbl hsz hol hdk hc
      by_cases h92 : c = 92
      · subst h92
        have HE := Lib.hid (show escB (k == 0) 92 = [92, 92] from by unfold escB; rfl)
        go_wp2_with fail
        refine (byte_pro w.heap.size w.heap.size (Lib.byteCells out) 92 wr BI.out HL1.out HS.out).mono ?_
        rintro e w1 ⟨rfl, hat, hb, _⟩
        have BI1 := Lib.hid (show BIs w.heap.size w.heap.size (Lib.byteCells out ++ [.int .u8 92]) w1 from .inr hat)
        have HB1 := Lib.hid (HB.out.trans hb)
        have HS1 := Lib.hid (Nat.le_trans HS.out hb.size)
        clear hat hb
        go_wp2_with fail
        refine (byte_pro w.heap.size w.heap.size (Lib.byteCells out ++ [.int .u8 92]) 92 w1 BI1.out HL2.out HS1.out).mono ?_
        rintro e w2 ⟨rfl, hat, hb, _⟩
        have BI2 := Lib.hid (show BIs w.heap.size w.heap.size (Lib.byteCells (out ++ [92, 92])) w2 by rw [byteCells_app]; rw [List.append_assoc] at hat; exact .inr hat)
        have HB2 := Lib.hid (HB1.out.trans hb)
        have HS2 := Lib.hid (Nat.le_trans HS1.out hb.size)
        clear hat hb
        go_wp2_with fail
        go_roundw
        case rel => exact ⟨k + 1, out ++ [92, 92], by go_num, HLT.out, BI2.out, esc_step HD.out HO.out HE.out, by rw [List.length_append]; have := HOL.out; simp only [List.length_cons, List.length_nil]; omega, HB2.out, HS2.out⟩
        case measure => simp [intOf]; have := HLT.out; omega
      by_cases h123 : c = 123
      · subst h123
        have HE := Lib.hid (show escB (k == 0) 123 = [92, 123] from by unfold escB; rfl)
        go_wp2_with fail
        refine (byte_pro w.heap.size w.heap.size (Lib.byteCells out) 92 wr BI.out HL1.out HS.out).mono ?_
        rintro e w1 ⟨rfl, hat, hb, _⟩
        have BI1 := Lib.hid (show BIs w.heap.size w.heap.size (Lib.byteCells out ++ [.int .u8 92]) w1 from .inr hat)
        have HB1 := Lib.hid (HB.out.trans hb)
        have HS1 := Lib.hid (Nat.le_trans HS.out hb.size)
        clear hat hb
        go_wp2_with fail
        refine (byte_pro w.heap.size w.heap.size (Lib.byteCells out ++ [.int .u8 92]) 123 w1 BI1.out HL2.out HS1.out).mono ?_
        rintro e w2 ⟨rfl, hat, hb, _⟩
        have BI2 := Lib.hid (show BIs w.heap.size w.heap.size (Lib.byteCells (out ++ [92, 123])) w2 by rw [byteCells_app]; rw [List.append_assoc] at hat; exact .inr hat)
        have HB2 := Lib.hid (HB1.out.trans hb)
        have HS2 := Lib.hid (Nat.le_trans HS1.out hb.size)
        clear hat hb
        go_wp2_with fail
        go_roundw
        case rel => exact ⟨k + 1, out ++ [92, 123], by go_num, HLT.out, BI2.out, esc_step HD.out HO.out HE.out, by rw [List.length_append]; have := HOL.out; simp only [List.length_cons, List.length_nil]; omega, HB2.out, HS2.out⟩
        case measure => simp [intOf]; have := HLT.out; omega
      by_cases h125 : c = 125
      · subst h125
        have HE := Lib.hid (show escB (k == 0) 125 = [92, 125] from by unfold escB; rfl)
        go_wp2_with fail
        refine (byte_pro w.heap.size w.heap.size (Lib.byteCells out) 92 wr BI.out HL1.out HS.out).mono ?_
        rintro e w1 ⟨rfl, hat, hb, _⟩
        have BI1 := Lib.hid (show BIs w.heap.size w.heap.size (Lib.byteCells out ++ [.int .u8 92]) w1 from .inr hat)
        have HB1 := Lib.hid (HB.out.trans hb)
        have HS1 := Lib.hid (Nat.le_trans HS.out hb.size)
        clear hat hb
        go_wp2_with fail
        refine (byte_pro w.heap.size w.heap.size (Lib.byteCells out ++ [.int .u8 92]) 125 w1 BI1.out HL2.out HS1.out).mono ?_
        rintro e w2 ⟨rfl, hat, hb, _⟩
        have BI2 := Lib.hid (show BIs w.heap.size w.heap.size (Lib.byteCells (out ++ [92, 125])) w2 by rw [byteCells_app]; rw [List.append_assoc] at hat; exact .inr hat)
        have HB2 := Lib.hid (HB1.out.trans hb)
        have HS2 := Lib.hid (Nat.le_trans HS1.out hb.size)
        clear hat hb
        go_wp2_with fail
        go_roundw
        case rel => exact ⟨k + 1, out ++ [92, 125], by go_num, HLT.out, BI2.out, esc_step HD.out HO.out HE.out, by rw [List.length_append]; have := HOL.out; simp only [List.length_cons, List.length_nil]; omega, HB2.out, HS2.out⟩
        case measure => simp [intOf]; have := HLT.out; omega
      by_cases h124 : c = 124
      · subst h124
        have HE := Lib.hid (show escB (k == 0) 124 = [92, 124] from by unfold escB; rfl)
        go_wp2_with fail
        refine (byte_pro w.heap.size w.heap.size (Lib.byteCells out) 92 wr BI.out HL1.out HS.out).mono ?_
        rintro e w1 ⟨rfl, hat, hb, _⟩
        have BI1 := Lib.hid (show BIs w.heap.size w.heap.size (Lib.byteCells out ++ [.int .u8 92]) w1 from .inr hat)
        have HB1 := Lib.hid (HB.out.trans hb)
        have HS1 := Lib.hid (Nat.le_trans HS.out hb.size)
        clear hat hb
        go_wp2_with fail
        refine (byte_pro w.heap.size w.heap.size (Lib.byteCells out ++ [.int .u8 92]) 124 w1 BI1.out HL2.out HS1.out).mono ?_
        rintro e w2 ⟨rfl, hat, hb, _⟩
        have BI2 := Lib.hid (show BIs w.heap.size w.heap.size (Lib.byteCells (out ++ [92, 124])) w2 by rw [byteCells_app]; rw [List.append_assoc] at hat; exact .inr hat)
        have HB2 := Lib.hid (HB1.out.trans hb)
        have HS2 := Lib.hid (Nat.le_trans HS1.out hb.size)
        clear hat hb
        go_wp2_with fail
        go_roundw
        case rel => exact ⟨k + 1, out ++ [92, 124], by go_num, HLT.out, BI2.out, esc_step HD.out HO.out HE.out, by rw [List.length_append]; have := HOL.out; simp only [List.length_cons, List.length_nil]; omega, HB2.out, HS2.out⟩
        case measure => simp [intOf]; have := HLT.out; omega
      by_cases h46 : c = 46
      · subst h46
        rcases Nat.eq_zero_or_pos k with hz | hz
        · subst hz
          have HE := Lib.hid (show escB ((0 : Nat) == 0) 46 = [92, 46] from rfl)
          go_wp2_with fail
          refine (byte_pro w.heap.size w.heap.size (Lib.byteCells out) 92 wr BI.out HL1.out HS.out).mono ?_
          rintro e w1 ⟨rfl, hat, hb, _⟩
          have BI1 := Lib.hid (show BIs w.heap.size w.heap.size (Lib.byteCells out ++ [.int .u8 92]) w1 from .inr hat)
          have HB1 := Lib.hid (HB.out.trans hb)
          have HS1 := Lib.hid (Nat.le_trans HS.out hb.size)
          clear hat hb
          go_wp2_with fail
          refine (byte_pro w.heap.size w.heap.size (Lib.byteCells out ++ [.int .u8 92]) 46 w1 BI1.out HL2.out HS1.out).mono ?_
          rintro e w2 ⟨rfl, hat, hb, _⟩
          have BI2 := Lib.hid (show BIs w.heap.size w.heap.size (Lib.byteCells (out ++ [92, 46])) w2 by rw [byteCells_app]; rw [List.append_assoc] at hat; exact .inr hat)
          have HB2 := Lib.hid (HB1.out.trans hb)
          have HS2 := Lib.hid (Nat.le_trans HS1.out hb.size)
          clear hat hb
          go_wp2_with fail
          go_roundw
          case rel => exact ⟨0 + 1, out ++ [92, 46], by go_num, HLT.out, BI2.out, esc_step HD.out HO.out HE.out, by rw [List.length_append]; have := HOL.out; simp only [List.length_cons, List.length_nil]; omega, HB2.out, HS2.out⟩
          case measure => simp [intOf]; have := HLT.out; omega
        · have hz' : (0 : Int) < k := by omega
          have hz2 : (k == 0) = false := by simp; omega
          have HZ := Lib.hid hz2
          clear hz hz2
          have HE := Lib.hid (show escB (k == 0) 46 = [46] from by rw [HZ.out]; rfl)
          go_wp2_with fail
          refine (byte_pro w.heap.size w.heap.size (Lib.byteCells out) 46 wr BI.out HL1.out HS.out).mono ?_
          rintro e w1 ⟨rfl, hat, hb, _⟩
          have BI1 := Lib.hid (show BIs w.heap.size w.heap.size (Lib.byteCells (out ++ [46])) w1 by rw [byteCells_app]; exact .inr hat)
          have HB1 := Lib.hid (HB.out.trans hb)
          have HS1 := Lib.hid (Nat.le_trans HS.out hb.size)
          clear hat hb
          go_wp2_with fail
          go_roundw
          case rel => exact ⟨k + 1, out ++ [46], by go_num, HLT.out, BI1.out, esc_step HD.out HO.out HE.out, by rw [List.length_append]; have := HOL.out; simp only [List.length_cons, List.length_nil]; omega, HB1.out, HS1.out⟩
          case measure => simp [intOf]; have := HLT.out; omega
      by_cases h35 : c = 35
      · subst h35
        rcases Nat.eq_zero_or_pos k with hz | hz
        · subst hz
          have HE := Lib.hid (show escB ((0 : Nat) == 0) 35 = [92, 35] from rfl)
          go_wp2_with fail
          refine (byte_pro w.heap.size w.heap.size (Lib.byteCells out) 92 wr BI.out HL1.out HS.out).mono ?_
          rintro e w1 ⟨rfl, hat, hb, _⟩
          have BI1 := Lib.hid (show BIs w.heap.size w.heap.size (Lib.byteCells out ++ [.int .u8 92]) w1 from .inr hat)
          have HB1 := Lib.hid (HB.out.trans hb)
          have HS1 := Lib.hid (Nat.le_trans HS.out hb.size)
          clear hat hb
          go_wp2_with fail
          refine (byte_pro w.heap.size w.heap.size (Lib.byteCells out ++ [.int .u8 92]) 35 w1 BI1.out HL2.out HS1.out).mono ?_
          rintro e w2 ⟨rfl, hat, hb, _⟩
          have BI2 := Lib.hid (show BIs w.heap.size w.heap.size (Lib.byteCells (out ++ [92, 35])) w2 by rw [byteCells_app]; rw [List.append_assoc] at hat; exact .inr hat)
          have HB2 := Lib.hid (HB1.out.trans hb)
          have HS2 := Lib.hid (Nat.le_trans HS1.out hb.size)
          clear hat hb
          go_wp2_with fail
          go_roundw
          case rel => exact ⟨0 + 1, out ++ [92, 35], by go_num, HLT.out, BI2.out, esc_step HD.out HO.out HE.out, by rw [List.length_append]; have := HOL.out; simp only [List.length_cons, List.length_nil]; omega, HB2.out, HS2.out⟩
          case measure => simp [intOf]; have := HLT.out; omega
        · have hz' : (0 : Int) < k := by omega
          have hz2 : (k == 0) = false := by simp; omega
          have HZ := Lib.hid hz2
          clear hz hz2
          have HE := Lib.hid (show escB (k == 0) 35 = [35] from by rw [HZ.out]; rfl)
          go_wp2_with fail
          refine (byte_pro w.heap.size w.heap.size (Lib.byteCells out) 35 wr BI.out HL1.out HS.out).mono ?_
          rintro e w1 ⟨rfl, hat, hb, _⟩
          have BI1 := Lib.hid (show BIs w.heap.size w.heap.size (Lib.byteCells (out ++ [35])) w1 by rw [byteCells_app]; exact .inr hat)
          have HB1 := Lib.hid (HB.out.trans hb)
          have HS1 := Lib.hid (Nat.le_trans HS.out hb.size)
          clear hat hb
          go_wp2_with fail
          go_roundw
          case rel => exact ⟨k + 1, out ++ [35], by go_num, HLT.out, BI1.out, esc_step HD.out HO.out HE.out, by rw [List.length_append]; have := HOL.out; simp only [List.length_cons, List.length_nil]; omega, HB1.out, HS1.out⟩
          case measure => simp [intOf]; have := HLT.out; omega
      have e1 : ((c.toNat : Int) == 92) = false := num_neE h92
      have e2 : ((c.toNat : Int) == 123) = false := num_neE h123
      have e3 : ((c.toNat : Int) == 125) = false := num_neE h125
      have e4 : ((c.toNat : Int) == 124) = false := num_neE h124
      have e5 : ((c.toNat : Int) == 46) = false := num_neE h46
      have e6 : ((c.toNat : Int) == 35) = false := num_neE h35
      have HE := Lib.hid (show escB (k == 0) c = [c] from by unfold escB; rw [beq_eq_false_iff_ne.2 h92, beq_eq_false_iff_ne.2 h123, beq_eq_false_iff_ne.2 h125, beq_eq_false_iff_ne.2 h124, beq_eq_false_iff_ne.2 h46, beq_eq_false_iff_ne.2 h35]; simp)
      go_wp2_with fail
      refine (byte_pro w.heap.size w.heap.size (Lib.byteCells out) c.toNat wr BI.out HL1.out HS.out).mono ?_
      rintro e w1 ⟨rfl, hat, hb, _⟩
      have BI1 := Lib.hid (show BIs w.heap.size w.heap.size (Lib.byteCells (out ++ [c])) w1 by rw [byteCells_app]; exact .inr hat)
      have HB1 := Lib.hid (HB.out.trans hb)
      have HS1 := Lib.hid (Nat.le_trans HS.out hb.size)
      clear hat hb
      go_wp2_with fail
      go_roundw
      case rel => exact ⟨k + 1, out ++ [c], by go_num, HLT.out, BI1.out, esc_step HD.out HO.out HE.out, by rw [List.length_append]; have := HOL.out; simp only [List.length_cons, List.length_nil]; omega, HB1.out, HS1.out⟩
      case measure => simp [intOf]; have := HLT.out; omega
    · obtain rfl : k = l.length := by omega
      have HE := Lib.hid (show out = escM l by rw [← hout, List.drop_length]; simp [escG])
      clear hbi hout hbl hsz hol hk
      go_wp2_with fail
      refine (Tryz.Builder_String_any_f w.heap.size w.heap.size out wr BI.out HS.out).mono ?_
      rintro e w1 ⟨rfl, _, hb⟩
      have HB1 := Lib.hid (HB.out.trans hb)
      clear hb
      go_wp2_with fail
      go_ret
      rw [← HE.out]
      exact ⟨rfl, HB1.out⟩

end Go.Proofs.YtmceiehnfmgioaaGreatDoor
