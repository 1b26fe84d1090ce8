/- The program's readBit. -/
import Derived.Test.YtceanagnkcejgaaGreatDoorBo
namespace Go.Proofs.YtceanagnkcejgaaGreatDoor
open Go.RowKit
set_option linter.unusedVariables false

def styCells (s : Sty) : Array Value := #[.string (bs s.nm), .string (bs s.pr), .int .i64 s.ch.on, .int .i64 s.ch.off, .int .i64 s.ch.col]
/-- Block b is a box of a style. -/
def SBox (w : World) (b : Nat) (s : Sty) : Prop := w.heap[b]? = some (.cells (styCells s) 29 (0, 0))
theorem SBox.get {w : World} {b : Nat} {s : Sty} (h : SBox w b s) : w.cell? ⟨b, 0, none⟩ = some (.string (bs s.nm)) ∧ w.cell? ⟨b, 1, none⟩ = some (.string (bs s.pr)) ∧ w.cell? ⟨b, 2, none⟩ = some (.int .i64 s.ch.on) ∧ w.cell? ⟨b, 3, none⟩ = some (.int .i64 s.ch.off) ∧ w.cell? ⟨b, 4, none⟩ = some (.int .i64 s.ch.col) := by
  refine ⟨?_, ?_, ?_, ?_, ?_⟩ <;> (rw [cell_of_row _ _ _ _ _ _ h]; rfl)
theorem SBox.free {w : World} {b : Nat} {s : Sty} (h : SBox w b s) (k : Nat) : w.frozen? ⟨b, k, none⟩ = false := frozen_of_row w b k _ _ h
theorem SBox.lt {w : World} {b : Nat} {s : Sty} (h : SBox w b s) : b < w.heap.size := (Array.getElem?_eq_some_iff.1 h).1
theorem SBox.keep {w w' : World} {b : Nat} {s : Sty} (h : SBox w b s) (hb : Below w.heap.size w w') : SBox w' b s := (hb.block b h.lt).trans h
/-- Only block b has turned, and what is new. -/
def Only (b : Nat) (w w' : World) : Prop := w.grownBy w' (some b)
theorem Only.of {b : Nat} {w w' : World} (h : Below w.heap.size w w') : Only b w w' := ⟨h.os, h.tape, h.output, h.size, fun k hk _ => h.block k hk⟩
theorem Only.set {b k : Nat} {w w' : World} (h : Only b w w') (u : Value) : Only b w (w'.setCell ⟨b, k, none⟩ u) :=
  ⟨h.os, h.tape, h.output, by simpa [World.setCell] using h.size, fun i hi hne => (Below.heap_setCell w' ⟨b, k, none⟩ u i (by rintro rfl; exact hne rfl)).trans (h.block i hi hne)⟩
theorem Only.trans {b : Nat} {w w1 w2 : World} (h : Only b w w1) (k : Only b w1 w2) : Only b w w2 :=
  ⟨k.os.trans h.os, k.tape.trans h.tape, k.output.trans h.output, Nat.le_trans h.size k.size, fun i hi hne => (k.block i (Nat.lt_of_lt_of_le hi h.size) hne).trans (h.block i hi hne)⟩
/-- What a step of reading a change answers: how many words; the style in its box. -/
def RdPost (b : Nat) (s : Sty) (n : Nat) (o : Option Chg) (w : World) (e : Ending) (w' : World) : Prop :=
  e = .returned (.int .i64 (if o.isSome then n else 0 : Nat)) ∧ Only b w w' ∧ SBox w' b ⟨s.nm, s.pr, o.getD s.ch⟩
theorem sty_eta (s : Sty) : (⟨s.nm, s.pr, s.ch⟩ : Sty) = s := by cases s; rfl
theorem tail_bs (g : UInt8) (x : List UInt8) : (bs (g :: x)).extract 1 (x.length + 1) = bs x := by
  rw [ext_list _ _ _ (by simp)]
  simp
theorem chg1_no {c : Chg} {g : UInt8} {x : List UInt8} (h : taken c x = false) : chg1 c (g :: x) = none := by
  simp [chg1, h]
theorem chg1_on {c : Chg} {x : List UInt8} (h : taken c x = true) : chg1 c (43 :: x) = some ⟨bits .or .i64 c.on (bitOf x), c.off, c.col⟩ := by
  simp [chg1, h]
theorem chg1_off {c : Chg} {x : List UInt8} (h : taken c x = true) : chg1 c (45 :: x) = some ⟨c.on, bits .or .i64 c.off (bitOf x), c.col⟩ := by
  simp [chg1, h]
theorem chg1_sign {c : Chg} {g : UInt8} {x : List UInt8} (h1 : g ≠ 43) (h2 : g ≠ 45) : chg1 c (g :: x) = none := by
  simp [chg1, h1, h2]

theorem u8_t {c : UInt8} {n : Nat} (h : c.toNat = n) : ((c.toNat : Int) == (n : Int)) = true := by simp; omega
theorem u8_f {c : UInt8} {n : Nat} (h : ¬ c.toNat = n) : ((c.toNat : Int) == (n : Int)) = false := by simp; omega
theorem draws_only (b : Nat) (w : World) (n : Nat) : Only b w (w.drewN n) := ⟨rfl, rfl, rfl, Nat.le_refl _, fun _ _ _ => rfl⟩

set_option maxRecDepth 100000 in
set_option maxHeartbeats 4000000 in
theorem readBit_pro (b : Nat) (s : Sty) (g : UInt8) (x : List UInt8) (w : World) (h : SBox w b s) (hx : x.length ≤ 4096) (hT : Tabs w) :
    Calls Tryz.prog 61 #[.pointer (some ⟨b, 2, none⟩), .string (bs (g :: x))] w (RdPost b s 1 (chg1 s.ch (g :: x)) w) := by
  obtain ⟨c0, c1, c2, c3, c4⟩ := h.get
  have z2 := h.free 2
  have z3 := h.free 3
  have hz := bs_len (g :: x)
  simp only [List.length_cons] at hz
  have ht := tail_bs g x
  have HB := Lib.hid (bitOf_pro x w hT)
  have H := Lib.hid h
  have hg : ∀ hh, (bs (g :: x))[0]'hh = g := fun hh => rfl
  obtain ⟨v, hv⟩ : ∃ v, bitOf x = v := ⟨_, rfl⟩
  have HV := Lib.hid hv
  rw [hv] at HB
  clear h hT
  by_cases hz0 : v = 0
  · have t1 : (v == 0) = true := by simpa using hz0
    have HC := Lib.hid (chg1_no (c := s.ch) (g := g) (x := x) (by unfold taken; rw [hv, hz0]; rfl))
    clear hv hz0
    go_enter Tryz.func61, Tryz.ntmps61
    go_wp2_with fail
    refine HB.out.mono ?_
    rintro e w1 ⟨rfl, rfl⟩
    go_wp2_with fail
    go_quiet (fail)
    go_wp2_with fail
    go_ret
    rw [HC.out]
    exact ⟨rfl, draws_only _ _ _, H.out⟩
  · have t1 : (v == 0) = false := by simpa using hz0
    by_cases ha : bits .and .i64 (bits .or .i64 s.ch.on s.ch.off) v = 0
    · have htk : taken s.ch x = true := by
        unfold taken; rw [hv, ha]
        simpa using hz0
      have t2 := bne_f ha
      by_cases h43 : g = 43
      · subst h43
        have HC := Lib.hid (chg1_on (c := s.ch) (x := x) htk)
        rw [hv] at HC
        clear hv hz0 ha htk
        go_enter Tryz.func61, Tryz.ntmps61
        go_wp2_with fail
        refine HB.out.mono ?_
        rintro e w1 ⟨rfl, rfl⟩
        go_wp2_with fail
        go_quiet (fail)
        go_wp2_with fail
        go_ret
        rw [HC.out]
        refine ⟨rfl, (draws_only _ _ _).set _, ?_⟩
        have hh : SBox (w.drewN nq) b s := H.out
        have h3 := heap_setCell_same _ b 2 _ _ (.int .i64 (bits .or .i64 s.ch.on v)) hh
        exact h3
      · by_cases h45 : g = 45
        · subst h45
          have HC := Lib.hid (chg1_off (c := s.ch) (x := x) htk)
          rw [hv] at HC
          clear hv hz0 ha htk h43
          go_enter Tryz.func61, Tryz.ntmps61
          go_wp2_with fail
          refine HB.out.mono ?_
          rintro e w1 ⟨rfl, rfl⟩
          go_wp2_with fail
          go_quiet (fail)
          go_wp2_with fail
          go_ret
          rw [HC.out]
          refine ⟨rfl, (draws_only _ _ _).set _, ?_⟩
          have hh : SBox (w.drewN nq) b s := H.out
          have h3 := heap_setCell_same _ b 3 _ _ (.int .i64 (bits .or .i64 s.ch.off v)) hh
          exact h3
        · have HC := Lib.hid (chg1_sign (c := s.ch) (x := x) h43 h45)
          have t3 : ((g.toNat : Int) == 43) = false := u8_f (fun e => h43 (UInt8.toNat_inj.1 e))
          have t4 : ((g.toNat : Int) == 45) = false := u8_f (fun e => h45 (UInt8.toNat_inj.1 e))
          clear hv hz0 ha htk h43 h45
          go_enter Tryz.func61, Tryz.ntmps61
          go_wp2_with fail
          refine HB.out.mono ?_
          rintro e w1 ⟨rfl, rfl⟩
          go_wp2_with fail
          go_quiet (fail)
          go_wp2_with fail
          go_ret
          rw [HC.out]
          exact ⟨rfl, draws_only _ _ _, H.out⟩
    · have HC := Lib.hid (chg1_no (c := s.ch) (g := g) (x := x) (by unfold taken; rw [hv]; simp [ha]))
      have t2 := bne_t ha
      clear hv hz0 ha
      go_enter Tryz.func61, Tryz.ntmps61
      go_wp2_with fail
      refine HB.out.mono ?_
      rintro e w1 ⟨rfl, rfl⟩
      go_wp2_with fail
      go_quiet (fail)
      go_wp2_with fail
      go_ret
      rw [HC.out]
      exact ⟨rfl, draws_only _ _ _, H.out⟩
end Go.Proofs.YtceanagnkcejgaaGreatDoor
