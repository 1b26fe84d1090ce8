/- Layer 11: the program's take: what is open behind an operation. -/
import Derived.Test.YtdagombmgcnofaaGreatDoorIf0
import Derived.BigRegion
namespace Go.Proofs.YtdagombmgcnofaaGreatDoor.Ir
open Go.RowKit Go.Maps Go.Proofs.YtdagombmgcnofaaGreatDoor
set_option linter.unusedVariables false

set_option maxRecDepth 100000 in
set_option maxHeartbeats 2000000 in
theorem take_item11 (M : Nat) (s : Wk) (n : Int) (t : ByteArray) (ws : List Int) (pw : Option Addr) (cw : Nat) (w : World) (h : WkIs M w s) (hb : 0 < s.op.length) (hbd : ∀ l ∈ s.op, l.parts ≤ 65536 ∧ l.cells ≤ 65536) : Calls Tryz.prog 64 #[.pointer (some ⟨M, 0, none⟩), .agg #[.int .i64 11, .int .i64 n, .string t, .slice pw ws.length cw]] w (TakeIs M w s ⟨11, n, t, ws⟩) := by
  obtain ⟨c0, c1, c2, c3⟩ := h.cells
  obtain ⟨b8, b16⟩ := h.bounds
  have hL := h.lt
  have HL := Lib.hid hL
  obtain ⟨c, hc, hs⟩ := h
  have HC := Lib.hid (show CurAt M w c from hc)
  have HS := Lib.hid hs
  have f43 : w.frozen? ⟨M, 43, none⟩ = false := HC.out.free 43
  obtain ⟨m, hm⟩ : ∃ m, s.op.length = m + 1 := ⟨s.op.length - 1, by omega⟩
  have HX := Lib.hid ((hs.partUp m hm).setAh 11)
  obtain ⟨d0, d1, d2⟩ := (show WkIs M w s from ⟨c, hc, hs⟩).lv (j := m) (by omega)
  have hcl := (hbd _ (List.getElem_mem (show m < s.op.length by omega))).1
  obtain ⟨z, hz⟩ : ∃ z, s.op[m].parts = z := ⟨_, rfl⟩
  rw [hz, Int.natCast_succ] at HX
  rw [hz] at d1 hcl
  rw [hm] at c0 b8
  have fb : w.frozen? ⟨M, m * 3 + 1, none⟩ = false := HC.out.free _
  have fc : w.frozen? ⟨M, m * 3 + 2, none⟩ = false := HC.out.free _
  have w1 : wrap64 (((m + 1 : Nat) : Int) - 1) = (m : Int) := by unfold wrap64; omega
  have w2 : ((m + 1 : Nat) : Int) - 1 = (m : Int) := by omega
  have w3 : wrap64 ((z : Int) + 1) = ((z + 1 : Nat) : Int) := by unfold wrap64; omega
  have m8 : (m : Int) < 8 := by omega
  have m8n : m < 8 := by omega
  clear hs hc
  unfold TakeIs takeS
  rw [if_neg (by simp), if_neg (by simp), if_neg (by simp), if_neg (by simp), if_neg (by simp), if_pos (by simp)]
  go_enter Tryz.func64, Tryz.ntmps64
  go_wp2_with fail
  go_region
  go_wp2_with fail
  go_end0
  exact ⟨rfl, ⟨_, ((((HC.out.set _ _).set _ _).set _ _).alloc _).drew, HX.out⟩, (((((Below.refl M w).setCell (p := ⟨M, _, none⟩) (Nat.le_refl M) _).setCell (p := ⟨M, _, none⟩) (Nat.le_refl M) _).setCell (p := ⟨M, _, none⟩) (Nat.le_refl M) _).alloc (szM4 HL.out) _).drew⟩

set_option maxRecDepth 100000 in
set_option maxHeartbeats 2000000 in
theorem take_item13 (M : Nat) (s : Wk) (n : Int) (t : ByteArray) (ws : List Int) (pw : Option Addr) (cw : Nat) (w : World) (h : WkIs M w s) (hb : 0 < s.op.length) (hbd : ∀ l ∈ s.op, l.parts ≤ 65536 ∧ l.cells ≤ 65536) : Calls Tryz.prog 64 #[.pointer (some ⟨M, 0, none⟩), .agg #[.int .i64 13, .int .i64 n, .string t, .slice pw ws.length cw]] w (TakeIs M w s ⟨13, n, t, ws⟩) := by
  obtain ⟨c0, c1, c2, c3⟩ := h.cells
  obtain ⟨b8, b16⟩ := h.bounds
  have hL := h.lt
  have HL := Lib.hid hL
  obtain ⟨c, hc, hs⟩ := h
  have HC := Lib.hid (show CurAt M w c from hc)
  have HS := Lib.hid hs
  have f43 : w.frozen? ⟨M, 43, none⟩ = false := HC.out.free 43
  obtain ⟨m, hm⟩ : ∃ m, s.op.length = m + 1 := ⟨s.op.length - 1, by omega⟩
  have HX := Lib.hid ((hs.partUp m hm).setAh 13)
  obtain ⟨d0, d1, d2⟩ := (show WkIs M w s from ⟨c, hc, hs⟩).lv (j := m) (by omega)
  have hcl := (hbd _ (List.getElem_mem (show m < s.op.length by omega))).1
  obtain ⟨z, hz⟩ : ∃ z, s.op[m].parts = z := ⟨_, rfl⟩
  rw [hz, Int.natCast_succ] at HX
  rw [hz] at d1 hcl
  rw [hm] at c0 b8
  have fb : w.frozen? ⟨M, m * 3 + 1, none⟩ = false := HC.out.free _
  have fc : w.frozen? ⟨M, m * 3 + 2, none⟩ = false := HC.out.free _
  have w1 : wrap64 (((m + 1 : Nat) : Int) - 1) = (m : Int) := by unfold wrap64; omega
  have w2 : ((m + 1 : Nat) : Int) - 1 = (m : Int) := by omega
  have w3 : wrap64 ((z : Int) + 1) = ((z + 1 : Nat) : Int) := by unfold wrap64; omega
  have m8 : (m : Int) < 8 := by omega
  have m8n : m < 8 := by omega
  clear hs hc
  unfold TakeIs takeS
  rw [if_neg (by simp), if_neg (by simp), if_neg (by simp), if_neg (by simp), if_neg (by simp), if_pos (by simp)]
  go_enter Tryz.func64, Tryz.ntmps64
  go_wp2_with fail
  go_region
  go_wp2_with fail
  go_end0
  exact ⟨rfl, ⟨_, ((((HC.out.set _ _).set _ _).set _ _).alloc _).drew, HX.out⟩, (((((Below.refl M w).setCell (p := ⟨M, _, none⟩) (Nat.le_refl M) _).setCell (p := ⟨M, _, none⟩) (Nat.le_refl M) _).setCell (p := ⟨M, _, none⟩) (Nat.le_refl M) _).alloc (szM4 HL.out) _).drew⟩
end Go.Proofs.YtdagombmgcnofaaGreatDoor.Ir
