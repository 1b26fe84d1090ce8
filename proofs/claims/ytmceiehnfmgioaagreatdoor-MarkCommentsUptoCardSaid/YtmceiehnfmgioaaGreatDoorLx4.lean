/- The program's within, endParagraph, between, closeBrace of the lexer, and wrong. -/
import Derived.Test.YtmceiehnfmgioaaGreatDoorLx3
import Derived.Test.YtmceiehnfmgioaaGreatDoorFl3
namespace Go.Proofs.YtmceiehnfmgioaaGreatDoor
open Go.RowKit
set_option linter.unusedVariables false

def tokV (k : Int) (name text : List UInt8) (l c : Int) : Value := .agg #[.int .i64 k, .string (bs name), .string (bs text), .int .i64 l, .int .i64 c]
/-- The fault of a line; its line's number is laid later, unless it has one. -/
def ErrL (B g n : Nat) (x : Wr) (w : World) (v : Value) (w' : World) : Prop :=
  ∃ (ge l : Nat), v = errAt ge ∧ Erd w' ge ⟨x.code, 0, l, x.col, bs x.word⟩ ∧ x.code ≠ 0 ∧ (l = 0 ∧ x.line = n ∨ l = x.line ∧ 0 < l) ∧ Below B w w' ∧ w'.cell? ⟨g, 1, none⟩ = some (.int .i64 n)
/-- A call that answers an error has left the lexer so. -/
def DidE (B g n : Nat) (r : Except Wr Mk) (vt vo : Value) (w : World) (e : Ending) (w' : World) : Prop :=
  match r with
  | .ok m => e = .returned .nilIface ∧ Moved B g n m vt vo w w'
  | .error x => ∃ v, e = .returned v ∧ ErrL B g n x w v w'

/-- The same, where the fault has its line. -/
def DidU (B g n : Nat) (r : Except Wr Mk) (vt vo : Value) (w : World) (e : Ending) (w' : World) : Prop :=
  match r with
  | .ok m => e = .returned .nilIface ∧ Moved B g n m vt vo w w'
  | .error x => ∃ ge, e = .returned (errAt ge) ∧ Erd w' ge ⟨x.code, 0, x.line, x.col, bs x.word⟩ ∧ x.code ≠ 0 ∧ 0 < x.line ∧ Below B w w' ∧ w'.cell? ⟨g, 1, none⟩ = some (.int .i64 n)
set_option maxRecDepth 100000 in
set_option maxHeartbeats 2000000 in
theorem wrong_pro (code : Nat) (col : Nat) (word : List UInt8) (w : World) (h : (code : Int) ≠ 0) :
    Calls Tryz.prog 133 #[.int .i64 code, .int .i64 col, .string (bs word)] w fun e w' => e = .returned (errAt w.heap.size) ∧ Erd w' w.heap.size ⟨code, 0, (0 : Nat), col, bs word⟩ ∧ Below w.heap.size w w' := by
  have H := Lib.hid h
  clear h
  go_enter Tryz.func133, Tryz.ntmps133
  go_wp2_with fail
  refine (new_pro ⟨code, 0, (0 : Nat), col, bs word⟩ w H.out).mono ?_
  rintro e w1 ⟨rfl, he, hb⟩
  have HE := Lib.hid he
  have HB := Lib.hid hb
  clear he hb
  go_wp2_with fail
  go_ret
  exact ⟨rfl, HE.out, HB.out⟩

theorem fill_out (m : Mk) : m.fill.out = m.out := by unfold Mk.fill; split <;> rfl
theorem fill_opn (m : Mk) : m.fill.opn = m.opn := by unfold Mk.fill; split <;> rfl
set_option maxRecDepth 100000 in
set_option maxHeartbeats 2000000 in
theorem within_pro' (w : World) (B g n : Nat) (m : Mk) (k : Nat) (name : List UInt8) (l0 c0 : Int) (col : Nat) (vt vo vr : Value) (h : Lx w B g n m vt vo vr) (hl : m.out.length ≤ 3000000) (hr : m.run.length ≤ 3000000) :
    Calls Tryz.prog 144 #[.pointer (some ⟨g, 0, none⟩), tokV k name [] l0 c0, .int .i64 col] w (Did B g n (m.within k name (n, col)) vt vo w) := by
  unfold tokV
  have HL0 := Lib.hid hl
  have HR0 := Lib.hid hr
  have H1 := Lib.hid (h.alloc (.cells #[.int .i64 k, .string (bs name), .string (bs []), .int .i64 l0, .int .i64 c0] 40))
  have X1 := Lib.hid (heap_alloc_new w (.cells #[.int .i64 k, .string (bs name), .string (bs []), .int .i64 l0, .int .i64 c0] 40))
  have AP1 := Lib.hid h.apart
  have BA := Lib.hid ((Below.refl B w).alloc h.size (.cells #[.int .i64 k, .string (bs name), .string (bs []), .int .i64 l0, .int .i64 c0] 40))
  clear h hl hr
  go_enter Tryz.func144, Tryz.ntmps144
  go_wp2_with fail
  refine (fillGap_pro _ B g n m vt vo vr H1.out (by have := HR0.out; omega)).mono ?_
  rintro e w1 ⟨rfl, hb, vt1, vo1, vr1, h1, hk⟩
  obtain ⟨x1, ap⟩ := hk.box X1.out (noU8 (by decide)) AP1.out
  have HK1 := Lib.hid hk.alloc0
  have HB1 := Lib.hid (BA.out.trans hb)
  have H2 := Lib.hid h1
  obtain ⟨_, x_0, x_1, x_2, x_3, x_4⟩ := box_all x1
  clear hb h1 hk x1 ap
  go_wp2_with fail
  refine (put_pro w1 B g n m.fill k name [] l0 c0 col vt1 vo1 vr1 H2.out (by have := HL0.out; rw [fill_out]; omega)).mono ?_
  rintro e w2 ⟨rfl, hb, vt2, vo2, vr2, h3, hk⟩
  have c8 := h3.cells.2.2.2.2.2.2.2.2
  have f8 := h3.frozen 8
  have H3 := Lib.hid h3
  have HK2 := Lib.hid hk
  have HB2 := Lib.hid hb
  clear hb h3 hk x_0 x_1 x_2 x_3 x_4
  go_wp2_with fail
  go_end0
  refine ⟨rfl, HB1.out.trans (HB2.out.setCell (p := ⟨g, 8, none⟩) H3.out.base _), _, _, _, H3.out.set1 (m' := m.within k name (n, col)) (n' := n) rfl rfl rfl rfl H3.out.gap, HK1.out.trans (HK2.out.trans (Kp.three ((Kp.refl _ _).set 8 _)))⟩

theorem endPara_len {m m' : Mk} (h : m.endPara = .ok m') : m'.out.length ≤ m.out.length + 1 := by
  unfold Mk.endPara at h
  split at h
  · cases h
  · cases h; exact endRun_len m
theorem tokRows_get : ∀ {l : List Tok} {i : Nat} {t : Tok} (h : l[i]? = some t) (j : Nat) (hj : j < 5), (tokRows l)[i * 5 + j]? = (tokRow t)[j]?
  | [], i, t, h, _, _ => by simp at h
  | a :: l, 0, t, h, j, hj => by
    simp at h; subst h
    have e : tokRows (a :: l) = tokRow a ++ tokRows l := by simp [tokRows]
    rw [e, List.getElem?_append_left (by simp [tokRow]; omega), Nat.zero_mul, Nat.zero_add]
  | a :: l, i + 1, t, h, j, hj => by
    have ih := tokRows_get (l := l) (i := i) (by simpa using h) j hj
    have e : tokRows (a :: l) = tokRow a ++ tokRows l := by simp [tokRows]
    have hl : (tokRow a).length = 5 := rfl
    rw [e, List.getElem?_append_right (by omega), hl, show (i + 1) * 5 + j - 5 = i * 5 + j by omega]
    exact ih
set_option maxRecDepth 100000 in
set_option maxHeartbeats 4000000 in
theorem endPara_pro0 (w : World) (B g n : Nat) (m : Mk) (vt vo vr : Value) (h : Lx w B g n m vt vo vr) (hl : m.out.length ≤ 3000000) :
    Calls Tryz.prog 48 #[.pointer (some ⟨g, 0, none⟩)] w (DidU B g n m.endPara vt vo w) := by
  have H0 := Lib.hid h
  have HL := Lib.hid hl
  obtain ⟨L, hL⟩ : ∃ L, m.opn.length = L := ⟨_, rfl⟩
  have ho := h.opns
  rw [hL] at ho
  obtain ⟨po, co, hvo⟩ := lenS ho
  have c2 := h.cells.2.2.1
  rw [hvo] at c2
  have h16 := h.opn16.1
  rw [hL] at h16
  have HV := Lib.hid hvo
  by_cases h0 : L = 0
  · have hE : m.opn = [] := List.eq_nil_of_length_eq_zero (by rw [hL, h0])
    have HE := Lib.hid (show m.endPara = .ok { m.endRun with gap := none, parts := false } by unfold Mk.endPara; rw [hE]; rfl)
    have b0 : (L : Int) ≤ 0 := by omega
    have b0' : ¬ (1 ≤ (L : Int)) := by omega
    clear h hl ho hvo hL h0 hE
    go_enter Tryz.func48, Tryz.ntmps48
    go_wp2_with fail
    refine (endRun_pro w B g n m vt vo vr H0.out (by have := HL.out; omega)).mono ?_
    rintro e w1 ⟨rfl, hb, vt1, vo1, vr1, h1, hk⟩
    obtain ⟨d0, d1, d2, d3, d4, d5, d6, d7, d8⟩ := h1.cells
    have f6 := h1.frozen 6
    have f7 := h1.frozen 7
    have f8 := h1.frozen 8
    have H1 := Lib.hid h1
    have HK := Lib.hid hk
    have HB := Lib.hid hb
    clear hb h1 hk d0 d1 d2 d3 d4 d5 c2
    go_wp2_with fail
    go_ret
    unfold DidU
    rw [HE.out]
    have l1 := H1.out.set2 (k := 6) (k' := 7) (u := .int .i64 0) (u' := .int .i64 0) (m' := { m.endRun with gap := none }) (n' := n) rfl rfl rfl rfl (fun _ h => by cases h)
    have l2 := l1.set1 (k := 8) (u := .bool false) (m' := { m.endRun with gap := none, parts := false }) (n' := n) rfl rfl rfl rfl (fun _ h => by cases h)
    exact ⟨rfl, ((HB.out.setCell (p := ⟨g, 6, none⟩) H1.out.base _).setCell (p := ⟨g, 7, none⟩) H1.out.base _).setCell (p := ⟨g, 8, none⟩) H1.out.base _, _, _, _, l2, HK.out.trans (Kp.three ((((Kp.refl _ _).set 6 _).set 7 _).set 8 _))⟩
  · obtain ⟨q, rfl⟩ : ∃ q, L = q + 1 := ⟨L - 1, by omega⟩
    obtain ⟨go, co', hform, _⟩ := ho.form (by omega)
    have hpo : po = some ⟨go, 0, none⟩ := by rw [hvo] at hform; cases hform; rfl
    subst hpo
    rw [hvo] at ho
    obtain ⟨t, ht⟩ : ∃ t, m.opn[q]? = some t := ⟨_, List.getElem?_eq_getElem (by omega)⟩
    have tp := h.opn16.2 t (List.mem_of_getElem? ht)
    have r0 : w.cell? ⟨go, q * 5, none⟩ = some (.int .i64 t.kind) := (World.ownsRow.cellAt ho (q * 5) (by omega)).trans ((tokRows_get ht 0 (by omega)).trans rfl)
    have r1 : w.cell? ⟨go, q * 5 + 1, none⟩ = some (.string (bs t.name)) := (World.ownsRow.cellAt ho (q * 5 + 1) (by omega)).trans ((tokRows_get ht 1 (by omega)).trans rfl)
    have r2 : w.cell? ⟨go, q * 5 + 2, none⟩ = some (.string (bs t.text)) := (World.ownsRow.cellAt ho (q * 5 + 2) (by omega)).trans ((tokRows_get ht 2 (by omega)).trans rfl)
    have r3 : w.cell? ⟨go, q * 5 + 3, none⟩ = some (.int .i64 t.line) := (World.ownsRow.cellAt ho (q * 5 + 3) (by omega)).trans ((tokRows_get ht 3 (by omega)).trans rfl)
    have r4 : w.cell? ⟨go, q * 5 + 4, none⟩ = some (.int .i64 t.col) := (World.ownsRow.cellAt ho (q * 5 + 4) (by omega)).trans ((tokRows_get ht 4 (by omega)).trans rfl)
    have HE := Lib.hid (show m.endPara = .error ⟨45, t.line, t.col, t.name⟩ by
      unfold Mk.endPara
      rw [List.getLast?_eq_getElem?, hL, show q + 1 - 1 = q by omega, ht])
    have b0 : (q : Int) ≤ 15 := by omega
    have b1 : 0 ≤ (q : Int) := by omega
    have b2 : ¬ ((q : Int) < 0) := by omega
    have HT := Lib.hid tp
    have HHL := Lib.hid hL
    have HZ := Lib.hid h.size
    clear h hl ho hvo hL h0 ht tp h16 hform
    go_enter Tryz.func48, Tryz.ntmps48
    go_wp2_with fail
    have HA := Lib.hid ((Below.refl B w).alloc HZ.out (.cells #[.int .i64 t.kind, .string (bs t.name), .string (bs t.text), .int .i64 t.line, .int .i64 t.col] 40))
    have HS := Lib.hid (show B ≤ (w.alloc (.cells #[.int .i64 t.kind, .string (bs t.name), .string (bs t.text), .int .i64 t.line, .int .i64 t.col] 40)).heap.size by rw [World.size_alloc]; have := HZ.out; omega)
    obtain ⟨W, hW⟩ : ∃ W, w.alloc (.cells #[.int .i64 t.kind, .string (bs t.name), .string (bs t.text), .int .i64 t.line, .int .i64 t.col] 40) = W := ⟨_, rfl⟩
    have HLW := Lib.hid (H0.out.alloc (.cells #[.int .i64 t.kind, .string (bs t.name), .string (bs t.text), .int .i64 t.line, .int .i64 t.col] 40))
    rw [hW] at HA HS HLW ⊢
    clear hW
    refine (new_pro ⟨45, 0, t.line, t.col, bs t.name⟩ _ (show (45 : Int) ≠ 0 by decide)).mono ?_
    rintro e w1 ⟨rfl, he, hb⟩
    have HN := Lib.hid he
    have HB := Lib.hid hb
    clear he hb r0 r1 r2 r3 r4
    go_wp2_with fail
    go_ret
    unfold DidU
    rw [HE.out]
    exact ⟨_, rfl, HN.out, (show (45 : Nat) ≠ 0 by decide), HT.out, HA.out.trans (HB.out.mono HS.out), (HLW.out.keep HB.out).cells.2.1⟩

theorem endPara_pro (w : World) (B g n : Nat) (m : Mk) (vt vo vr : Value) (h : Lx w B g n m vt vo vr) (hl : m.out.length ≤ 3000000) :
    Calls Tryz.prog 48 #[.pointer (some ⟨g, 0, none⟩)] w (DidE B g n m.endPara vt vo w) := by
  refine (endPara_pro0 w B g n m vt vo vr h hl).mono fun e w' h => ?_
  unfold DidU at h
  unfold DidE
  revert h
  cases m.endPara with
  | ok m' => exact fun h => h
  | error x =>
    intro h
    obtain ⟨ge, h1, h2, h3, h4, h5, h6⟩ := h
    exact ⟨_, h1, ge, x.line, rfl, h2, h3, .inr ⟨rfl, h4⟩, h5, h6⟩

set_option maxRecDepth 100000 in
set_option maxHeartbeats 4000000 in
theorem between_pro (w : World) (B g n : Nat) (m : Mk) (k : Nat) (name text : List UInt8) (l0 c0 : Int) (vt vo vr : Value) (h : Lx w B g n m vt vo vr) (hl : m.out.length ≤ 2000000) :
    Calls Tryz.prog 83 #[.pointer (some ⟨g, 0, none⟩), tokV k name text l0 c0] w (DidE B g n (m.whole k name text n) vt vo w) := by
  unfold tokV
  have HL0 := Lib.hid hl
  have H1 := Lib.hid (h.alloc (.cells #[.int .i64 k, .string (bs name), .string (bs text), .int .i64 l0, .int .i64 c0] 40))
  have X1 := Lib.hid (heap_alloc_new w (.cells #[.int .i64 k, .string (bs name), .string (bs text), .int .i64 l0, .int .i64 c0] 40))
  have AP1 := Lib.hid h.apart
  have BA := Lib.hid ((Below.refl B w).alloc h.size (.cells #[.int .i64 k, .string (bs name), .string (bs text), .int .i64 l0, .int .i64 c0] 40))
  clear h hl
  have HP := Lib.hid (endPara_pro _ B g n m vt vo vr H1.out (by have := HL0.out; omega))
  cases hr : m.endPara with
  | error x =>
    rw [hr] at HP
    have HE := Lib.hid (show m.whole k name text n = .error x by unfold Mk.whole; rw [hr])
    clear hr
    go_enter Tryz.func83, Tryz.ntmps83
    go_wp2_with fail
    refine HP.out.mono ?_
    rintro e w1 ⟨v, rfl, ge, l, rfl, he, hc, hq, hb, hcl⟩
    have H2 := Lib.hid (show ErrL B g n x w (errAt ge) w1 from ⟨ge, l, rfl, he, hc, hq, BA.out.trans hb, hcl⟩)
    clear he hc hq hb hcl
    unfold errAt
    go_wp2_with fail
    go_ret
    unfold DidE
    rw [HE.out]
    exact ⟨_, rfl, H2.out⟩
  | ok m' =>
    rw [hr] at HP
    have HE := Lib.hid (show m.whole k name text n = .ok (m'.put k name text (n, 1)) by unfold Mk.whole; rw [hr])
    have HM := Lib.hid (endPara_len hr)
    clear hr
    go_enter Tryz.func83, Tryz.ntmps83
    go_wp2_with fail
    refine HP.out.mono ?_
    rintro e w1 ⟨rfl, hb, vt1, vo1, vr1, h1, hk⟩
    obtain ⟨x1, ap⟩ := hk.box X1.out (noU8 (by decide)) AP1.out
    have HK1 := Lib.hid hk.alloc0
    have HB1 := Lib.hid (BA.out.trans hb)
    have H2 := Lib.hid h1
    obtain ⟨_, x_0, x_1, x_2, x_3, x_4⟩ := box_all x1
    clear hb h1 hk x1 ap
    go_wp2_with fail
    refine (put_pro w1 B g n m' k name text l0 c0 1 vt1 vo1 vr1 H2.out (by have := HL0.out; have := HM.out; omega)).mono ?_
    rintro e w2 ⟨rfl, h3⟩
    have H3 := Lib.hid h3
    clear h3
    go_wp2_with fail
    go_ret
    unfold DidE
    rw [HE.out]
    exact ⟨rfl, Moved.then HB1.out HK1.out H3.out⟩
end Go.Proofs.YtmceiehnfmgioaaGreatDoor
