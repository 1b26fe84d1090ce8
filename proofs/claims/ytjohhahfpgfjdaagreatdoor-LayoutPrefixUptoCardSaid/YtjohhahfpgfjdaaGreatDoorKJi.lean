/- Layer 11: the document's checker: what is open. -/
import Derived.Test.YtjohhahfpgfjdaaGreatDoorKJh
namespace Go.Proofs.YtjohhahfpgfjdaaGreatDoor.Ir
open Go.RowKit Go.Maps Go.Proofs.YtjohhahfpgfjdaaGreatDoor
set_option linter.unusedVariables false
set_option linter.unusedSimpArgs false
/-- A list or a table, as the document counts. -/
structure Dl where
  tab : Bool
  items : Nat
  wide : Nat
  rows : Nat
  cells : Nat
structure Dc where
  para : Bool
  br : List Bool
  op : List Dl
  tx : Bool
def dl0 : Dl := ⟨false, 0, 0, 0, 0⟩
def dlRow (l : Dl) : List Value := [.bool l.tab, .int .i64 l.items, .int .i64 l.wide, .int .i64 l.rows, .int .i64 l.cells]
def dlVal (l : Dl) : Value := .agg #[.bool l.tab, .int .i64 l.items, .int .i64 l.wide, .int .i64 l.rows, .int .i64 l.cells]
def fullB (l : Dl) : Bool := decide (l.rows = 0) || decide (l.cells = l.wide)
def RdB (w : World) (v : Value) (bs : List Bool) : Prop :=
  ∃ (pa : Option Addr) (cap : Nat), v = .slice pa bs.length cap ∧ bs.length ≤ cap ∧ cap ≤ maxLen ∧ ∀ j (hj : j < bs.length), ∃ b off, pa = some ⟨b, off, none⟩ ∧ w.cell? ⟨b, off + j, none⟩ = some (.bool bs[j])
def RdL (w : World) (v : Value) (ls : List Dl) : Prop :=
  ∃ (pa : Option Addr) (cap : Nat), v = .slice pa ls.length cap ∧ ls.length ≤ cap ∧ cap ≤ maxLen ∧ ∀ j (hj : j < ls.length), ∃ b off, pa = some ⟨b, off, none⟩ ∧ ∀ k u, (dlRow ls[j])[k]? = some u → w.cell? ⟨b, off + j * 5 + k, none⟩ = some u
theorem RdB.below {w w' : World} {v : Value} {bs : List Bool} (h : RdB w v bs) (hb : Below w.heap.size w w') : RdB w' v bs := by
  obtain ⟨pa, cap, e, h1, h2, h4⟩ := h
  refine ⟨pa, cap, e, h1, h2, fun j hj => ?_⟩
  obtain ⟨b, off, e, hc⟩ := h4 j hj
  exact ⟨b, off, e, (hb.cell (p := ⟨b, off + j, none⟩) (cellInL hc)).trans hc⟩
theorem RdL.below {w w' : World} {v : Value} {ls : List Dl} (h : RdL w v ls) (hb : Below w.heap.size w w') : RdL w' v ls := by
  obtain ⟨pa, cap, e, h1, h2, h4⟩ := h
  refine ⟨pa, cap, e, h1, h2, fun j hj => ?_⟩
  obtain ⟨b, off, e, hc⟩ := h4 j hj
  exact ⟨b, off, e, fun k u hu => (hb.cell (p := ⟨b, off + j * 5 + k, none⟩) (cellInL (hc k u hu))).trans (hc k u hu)⟩
set_option maxRecDepth 100000
/-- Where the checker's four cells lie, and what they read as. -/
structure DcIs (g : Nat) (w : World) (s : Dc) (vb vo : Value) : Prop where
  row : w.heap[g]? = some (.cells #[.bool s.para, vb, vo, .bool s.tx] 105 (0, 0))
  br : RdB w vb s.br
  op : RdL w vo s.op
theorem full_ref (l : Dl) (w : World) : Calls Tryz.prog 104 #[dlVal l] w (SaysL (.bool (fullB l)) w) := by
  obtain ⟨tab, items, wide, rows, cells⟩ := l
  unfold dlVal fullB
  dsimp only
  by_cases h0 : rows = 0
  · subst h0
    go_enter Tryz.func104, Tryz.ntmps104
    go_wp2_with fail
    go_ret
    exact ⟨by simp, (Below.refl _ _).alloc (Nat.le_refl _) _⟩
  · have t0 : ((rows : Int) == 0) = false := by simp; omega
    by_cases h1 : cells = wide
    · subst h1
      rw [decide_eq_false h0]
      clear h0
      go_enter Tryz.func104, Tryz.ntmps104
      go_wp2_with fail
      go_ret
      exact ⟨by simp, (Below.refl _ _).alloc (Nat.le_refl _) _⟩
    · have t1 : ((cells : Int) == (wide : Int)) = false := by simp; omega
      rw [decide_eq_false h0, decide_eq_false h1]
      clear h0 h1
      go_enter Tryz.func104, Tryz.ntmps104
      go_wp2_with fail
      go_ret
      exact ⟨by simp, (Below.refl _ _).alloc (Nat.le_refl _) _⟩
theorem linked_ref (s : Dc) (vb vo : Value) (g : Nat) (w : World) (h : DcIs g w s vb vo) : Calls Tryz.prog 102 #[.pointer (some ⟨g, 0, none⟩)] w (SaysL (.bool (s.br.any id)) w) := by
  have hx := h.row
  obtain ⟨c0, c1, c2, c3⟩ : w.cell? ⟨g, 0, none⟩ = some (.bool s.para) ∧ w.cell? ⟨g, 1, none⟩ = some vb ∧ w.cell? ⟨g, 2, none⟩ = some vo ∧ w.cell? ⟨g, 3, none⟩ = some (.bool s.tx) := by
    refine ⟨?_, ?_, ?_, ?_⟩ <;> rw [cell_of_row _ _ _ _ _ _ hx] <;> rfl
  obtain ⟨pa, cap, rfl, h1, h2, h4⟩ := h.br
  obtain ⟨n, hn⟩ : ∃ n, s.br.length = n := ⟨_, rfl⟩
  have HN := Lib.hid hn
  have H4 := Lib.hid h4
  have hn62 : n ≤ 9223372036854775807 := by unfold maxLen at h2; omega
  obtain ⟨q, hq⟩ : ∃ q, s.br.any id = q := ⟨_, rfl⟩
  have HQ := Lib.hid hq
  rw [hn] at c1
  rw [hq]
  clear h hx hn h4 hq h1 h2
  go_enter Tryz.func102, Tryz.ntmps102
  go_wp2_with fail
  go_loopw [10] (fun i wr => ∃ j : Nat, i = .int .i64 j ∧ j ≤ n ∧ Hid ((s.br.take j).any id = false) ∧ Hid (wr = w)) (fun i _ => n - (intOf i).toNat)
  case atStart => exact ⟨0, rfl, Nat.zero_le _, Lib.hid (by simp), Lib.hid rfl⟩
  case round =>
    obtain ⟨j, rfl, hj, HC, HW⟩ := hrel
    have hw := HW.out
    subst hw
    by_cases hlt : j < n
    · have hjl : j < s.br.length := by rw [HN.out]; exact hlt
      obtain ⟨b, off, rfl, hc⟩ := H4.out j hjl
      have htk := List.take_succ_eq_append_getElem hjl
      have hmem := List.getElem_mem hjl
      obtain ⟨z, hz⟩ : ∃ z, s.br[j]'hjl = z := ⟨_, rfl⟩
      rw [hz] at hc htk hmem
      have k1 : (j : Int) < n := by omega
      have HLT := Lib.hid hlt
      have HTK := Lib.hid htk
      have HME := Lib.hid hmem
      clear htk hmem hz hlt
      cases z with
      | true =>
        have HZ := Lib.hid (show s.br.any id = true from List.any_eq_true.2 ⟨true, HME.out, rfl⟩)
        go_wp2_with fail
        go_ret
        exact ⟨by rw [show q = true from HQ.out.symm.trans HZ.out]; rfl, Below.refl _ _⟩
      | false =>
        go_wp2_with fail
        go_roundw
        case measure => have := HLT.out; simp [intOf]; omega
        case rel => exact ⟨j + 1, by go_num, HLT.out, Lib.hid (by rw [HTK.out, List.any_append, HC.out]; rfl), Lib.hid (by first | rfl | trivial)⟩
    · obtain rfl : j = n := by omega
      have hz1 : ¬ (j : Int) < j := by omega
      have HC2 := Lib.hid (show s.br.any id = false by have h9 := HC.out; rw [show s.br.take j = s.br by rw [← HN.out, List.take_length]] at h9; exact h9)
      clear hlt
      go_wp2_with fail
      go_ret
      exact ⟨by rw [show q = false from HQ.out.symm.trans HC2.out]; rfl, Below.refl _ _⟩
theorem top_ref (s : Dc) (vb vo : Value) (g : Nat) (w : World) (h : DcIs g w s vb vo) : Calls Tryz.prog 103 #[.pointer (some ⟨g, 0, none⟩)] w (SaysL (.tuple #[dlVal (s.op.getLast?.getD dl0), .bool !s.op.isEmpty]) w) := by
  have hA : Below w.heap.size w (w.alloc (.cells #[.bool false, .int .i64 0, .int .i64 0, .int .i64 0, .int .i64 0] 176)) := (Below.refl _ _).alloc (Nat.le_refl _) _
  have HA := Lib.hid hA
  have hx := h.row
  have hgl : g < w.heap.size := (Array.getElem?_eq_some_iff.1 hx).1
  obtain ⟨c1, c2⟩ : w.cell? ⟨g, 1, none⟩ = some vb ∧ w.cell? ⟨g, 2, none⟩ = some vo := by
    refine ⟨?_, ?_⟩ <;> rw [cell_of_row _ _ _ _ _ _ hx] <;> rfl
  have hop := h.op
  obtain ⟨pa, cap, rfl, h1, h2, h4⟩ := hop
  obtain ⟨n, hn⟩ : ∃ n, s.op.length = n := ⟨_, rfl⟩
  have hn62 : n ≤ 9223372036854775807 := by unfold maxLen at h2; omega
  rw [hn] at c2
  by_cases h0 : n = 0
  · have he : s.op = [] := List.eq_nil_of_length_eq_zero (by omega)
    rw [he, show (([] : List Dl).getLast?.getD dl0) = dl0 from rfl, show (!([] : List Dl).isEmpty) = false from rfl]
    subst h0
    clear hA h hx h1 h2 h4 hn he
    go_enter Tryz.func103, Tryz.ntmps103
    go_wp2_with fail
    exact bodyPost_ret (v := .tuple #[dlVal dl0, .bool false]) (by simp [results, Tryz.results103, go_sem, dlVal, dl0]) rfl ⟨rfl, HA.out⟩
  · obtain ⟨m, rfl⟩ : ∃ m, n = m + 1 := ⟨n - 1, by omega⟩
    obtain ⟨b, off, rfl, hc⟩ := h4 m (by omega)
    have hl : s.op.getLast? = some (s.op[m]'(by omega)) := by
      rw [List.getLast?_eq_getElem?, show s.op.length - 1 = m by omega, List.getElem?_eq_getElem (by omega)]
    obtain ⟨y, hy⟩ : ∃ y, s.op[m]'(by omega) = y := ⟨_, rfl⟩
    have hem : s.op.isEmpty = false := by
      cases hs : s.op with
      | nil => rw [hs] at hn; simp at hn
      | cons a r => rfl
    rw [hl, hem, Bool.not_false, Option.getD_some]
    rw [hy] at hc ⊢
    have d0 := hc 0 _ rfl
    rw [Nat.add_zero] at d0
    have d1 := hc 1 _ rfl
    have d2 := hc 2 _ rfl
    have d3 := hc 3 _ rfl
    have d4 := hc 4 _ rfl
    have t0 : (((m + 1 : Nat) : Int) == 0) = false := by simp; omega
    have e1 : wrap64 (((m + 1 : Nat) : Int) - 1) = (m : Int) := by unfold wrap64; omega
    have e2 : ((m + 1 : Nat) : Int) - 1 = (m : Int) := by omega
    have n8' : m < m + 1 := by omega
    have hbl := cellInL d0
    clear hA h hx h1 h2 h4 hn hl hy hem hc h0
    go_enter Tryz.func103, Tryz.ntmps103
    go_wp2_with fail
    go_region
    go_wp2_with fail
    exact bodyPost_ret (v := .tuple #[dlVal y, .bool true]) (by simp [results, Tryz.results103, go_sem, dlVal]) rfl ⟨rfl, ((Below.refl _ _).alloc (Nat.le_refl _) _).drew⟩
end Go.Proofs.YtjohhahfpgfjdaaGreatDoor.Ir
