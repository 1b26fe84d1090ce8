/- Layer 11: the program's take: what is open behind an operation. -/
import Derived.Test.YtdagombmgcnofaaGreatDoorIf0
import Derived.BigRegion
namespace Go.Proofs.YtdagombmgcnofaaGreatDoor.Ir
open Go.RowKit Go.Maps Go.Proofs.YtdagombmgcnofaaGreatDoor
set_option linter.unusedVariables false

set_option maxRecDepth 100000 in
set_option maxHeartbeats 2000000 in
theorem take_br2 (M : Nat) (s : Wk) (n : Int) (t : ByteArray) (ws : List Int) (pw : Option Addr) (cw : Nat) (w : World) (h : WkIs M w s) (hb : s.br.length < 16) : Calls Tryz.prog 64 #[.pointer (some ⟨M, 0, none⟩), .agg #[.int .i64 2, .int .i64 n, .string t, .slice pw ws.length cw]] w (TakeIs M w s ⟨2, n, t, ws⟩) := by
  obtain ⟨c0, c1, c2, c3⟩ := h.cells
  obtain ⟨b8, b16⟩ := h.bounds
  have hL := h.lt
  have HL := Lib.hid hL
  obtain ⟨c, hc, hs⟩ := h
  have HC := Lib.hid (show CurAt M w c from hc)
  have HS := Lib.hid hs
  have f43 : w.frozen? ⟨M, 43, none⟩ = false := HC.out.free 43
  obtain ⟨m, hm⟩ : ∃ m, s.br.length = m := ⟨_, rfl⟩
  have HX := Lib.hid ((hs.pushBr 2 hb).setAh 2)
  rw [hm, Int.natCast_succ] at HX
  rw [hm] at c1 hb b16
  have fb : w.frozen? ⟨M, 25 + m, none⟩ = false := HC.out.free _
  obtain ⟨y, hy⟩ : ∃ y, c[25 + m]? = some y := ⟨_, Array.getElem?_eq_getElem (by have := hs.size; omega)⟩
  have eb : w.cell? ⟨M, 25 + m, none⟩ = some y := by rw [cell_of_row _ _ _ _ _ _ hc]; exact hy
  clear hy
  have f41 : w.frozen? ⟨M, 41, none⟩ = false := HC.out.free 41
  have m16 : (m : Int) < 16 := by omega
  have wr : wrap64 ((m : Int) + 1) = ((m + 1 : Nat) : Int) := by unfold wrap64; omega
  clear hs hc
  unfold TakeIs takeS
  rw [if_pos (by simp)]
  go_enter Tryz.func64, Tryz.ntmps64
  go_wp2_with fail
  go_region
  go_wp2_with fail
  go_end0
  exact ⟨rfl, ⟨_, ((((HC.out.set _ _).set _ _).set _ _).alloc _).drew, HX.out⟩, (((((Below.refl M w).setCell (p := ⟨M, _, none⟩) (Nat.le_refl M) _).setCell (p := ⟨M, _, none⟩) (Nat.le_refl M) _).setCell (p := ⟨M, _, none⟩) (Nat.le_refl M) _).alloc (szM4 HL.out) _).drew⟩

set_option maxRecDepth 100000 in
set_option maxHeartbeats 2000000 in
theorem take_br3 (M : Nat) (s : Wk) (n : Int) (t : ByteArray) (ws : List Int) (pw : Option Addr) (cw : Nat) (w : World) (h : WkIs M w s) (hb : s.br.length < 16) : Calls Tryz.prog 64 #[.pointer (some ⟨M, 0, none⟩), .agg #[.int .i64 3, .int .i64 n, .string t, .slice pw ws.length cw]] w (TakeIs M w s ⟨3, n, t, ws⟩) := by
  obtain ⟨c0, c1, c2, c3⟩ := h.cells
  obtain ⟨b8, b16⟩ := h.bounds
  have hL := h.lt
  have HL := Lib.hid hL
  obtain ⟨c, hc, hs⟩ := h
  have HC := Lib.hid (show CurAt M w c from hc)
  have HS := Lib.hid hs
  have f43 : w.frozen? ⟨M, 43, none⟩ = false := HC.out.free 43
  obtain ⟨m, hm⟩ : ∃ m, s.br.length = m := ⟨_, rfl⟩
  have HX := Lib.hid ((hs.pushBr 3 hb).setAh 3)
  rw [hm, Int.natCast_succ] at HX
  rw [hm] at c1 hb b16
  have fb : w.frozen? ⟨M, 25 + m, none⟩ = false := HC.out.free _
  obtain ⟨y, hy⟩ : ∃ y, c[25 + m]? = some y := ⟨_, Array.getElem?_eq_getElem (by have := hs.size; omega)⟩
  have eb : w.cell? ⟨M, 25 + m, none⟩ = some y := by rw [cell_of_row _ _ _ _ _ _ hc]; exact hy
  clear hy
  have f41 : w.frozen? ⟨M, 41, none⟩ = false := HC.out.free 41
  have m16 : (m : Int) < 16 := by omega
  have wr : wrap64 ((m : Int) + 1) = ((m + 1 : Nat) : Int) := by unfold wrap64; omega
  clear hs hc
  unfold TakeIs takeS
  rw [if_pos (by simp)]
  go_enter Tryz.func64, Tryz.ntmps64
  go_wp2_with fail
  go_region
  go_wp2_with fail
  go_end0
  exact ⟨rfl, ⟨_, ((((HC.out.set _ _).set _ _).set _ _).alloc _).drew, HX.out⟩, (((((Below.refl M w).setCell (p := ⟨M, _, none⟩) (Nat.le_refl M) _).setCell (p := ⟨M, _, none⟩) (Nat.le_refl M) _).setCell (p := ⟨M, _, none⟩) (Nat.le_refl M) _).alloc (szM4 HL.out) _).drew⟩
end Go.Proofs.YtdagombmgcnofaaGreatDoor.Ir
