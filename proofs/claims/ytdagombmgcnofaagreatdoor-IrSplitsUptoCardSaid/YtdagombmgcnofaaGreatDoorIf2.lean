/- Layer 11: the program's take: what is open behind an operation. -/
import Derived.Test.YtdagombmgcnofaaGreatDoorIf0
import Derived.BigRegion
namespace Go.Proofs.YtdagombmgcnofaaGreatDoor.Ir
open Go.RowKit Go.Maps Go.Proofs.YtdagombmgcnofaaGreatDoor
set_option linter.unusedVariables false

set_option maxRecDepth 100000 in
set_option maxHeartbeats 2000000 in
theorem take_br4 (M : Nat) (s : Wk) (n : Int) (t : ByteArray) (ws : List Int) (pw : Option Addr) (cw : Nat) (w : World) (h : WkIs M w s) (hb : s.br.length < 16) : Calls Tryz.prog 64 #[.pointer (some ⟨M, 0, none⟩), .agg #[.int .i64 4, .int .i64 n, .string t, .slice pw ws.length cw]] w (TakeIs M w s ⟨4, n, t, ws⟩) := by
  obtain ⟨c0, c1, c2, c3⟩ := h.cells
  obtain ⟨b8, b16⟩ := h.bounds
  have hL := h.lt
  have HL := Lib.hid hL
  obtain ⟨c, hc, hs⟩ := h
  have HC := Lib.hid (show CurAt M w c from hc)
  have HS := Lib.hid hs
  have f43 : w.frozen? ⟨M, 43, none⟩ = false := HC.out.free 43
  obtain ⟨m, hm⟩ : ∃ m, s.br.length = m := ⟨_, rfl⟩
  have HX := Lib.hid ((hs.pushBr 4 hb).setAh 4)
  rw [hm, Int.natCast_succ] at HX
  rw [hm] at c1 hb b16
  have fb : w.frozen? ⟨M, 25 + m, none⟩ = false := HC.out.free _
  obtain ⟨y, hy⟩ : ∃ y, c[25 + m]? = some y := ⟨_, Array.getElem?_eq_getElem (by have := hs.size; omega)⟩
  have eb : w.cell? ⟨M, 25 + m, none⟩ = some y := by rw [cell_of_row _ _ _ _ _ _ hc]; exact hy
  clear hy
  have f41 : w.frozen? ⟨M, 41, none⟩ = false := HC.out.free 41
  have m16 : (m : Int) < 16 := by omega
  have wr : wrap64 ((m : Int) + 1) = ((m + 1 : Nat) : Int) := by unfold wrap64; omega
  clear hs hc
  unfold TakeIs takeS
  rw [if_pos (by simp)]
  go_enter Tryz.func64, Tryz.ntmps64
  go_wp2_with fail
  go_region
  go_wp2_with fail
  go_end0
  exact ⟨rfl, ⟨_, ((((HC.out.set _ _).set _ _).set _ _).alloc _).drew, HX.out⟩, (((((Below.refl M w).setCell (p := ⟨M, _, none⟩) (Nat.le_refl M) _).setCell (p := ⟨M, _, none⟩) (Nat.le_refl M) _).setCell (p := ⟨M, _, none⟩) (Nat.le_refl M) _).alloc (szM4 HL.out) _).drew⟩

set_option maxRecDepth 100000 in
set_option maxHeartbeats 2000000 in
theorem take_close (M : Nat) (s : Wk) (n : Int) (t : ByteArray) (ws : List Int) (pw : Option Addr) (cw : Nat) (w : World) (h : WkIs M w s) (hb : 0 < s.br.length) : Calls Tryz.prog 64 #[.pointer (some ⟨M, 0, none⟩), .agg #[.int .i64 5, .int .i64 n, .string t, .slice pw ws.length cw]] w (TakeIs M w s ⟨5, n, t, ws⟩) := by
  obtain ⟨c0, c1, c2, c3⟩ := h.cells
  obtain ⟨b8, b16⟩ := h.bounds
  have hL := h.lt
  have HL := Lib.hid hL
  obtain ⟨c, hc, hs⟩ := h
  have HC := Lib.hid (show CurAt M w c from hc)
  have HS := Lib.hid hs
  have f43 : w.frozen? ⟨M, 43, none⟩ = false := HC.out.free 43
  obtain ⟨m, hm⟩ : ∃ m, s.br.length = m + 1 := ⟨s.br.length - 1, by omega⟩
  have HX := Lib.hid ((hs.popBr m hm).setAh 5)
  rw [hm] at c1 b16
  have f41 : w.frozen? ⟨M, 41, none⟩ = false := HC.out.free 41
  have wr : wrap64 (((m + 1 : Nat) : Int) - 1) = (m : Int) := by unfold wrap64; omega
  clear hs hc
  unfold TakeIs takeS
  rw [if_neg (by simp), if_pos (by simp)]
  go_enter Tryz.func64, Tryz.ntmps64
  go_wp2_with fail
  go_end0
  exact ⟨rfl, ⟨_, ((HC.out.set _ _).set _ _).alloc _, HX.out⟩, (((Below.refl M w).setCell (p := ⟨M, _, none⟩) (Nat.le_refl M) _).setCell (p := ⟨M, _, none⟩) (Nat.le_refl M) _).alloc (szM2 HL.out) _⟩

set_option maxRecDepth 100000 in
set_option maxHeartbeats 2000000 in
theorem take_para0 (M : Nat) (s : Wk) (n : Int) (t : ByteArray) (ws : List Int) (pw : Option Addr) (cw : Nat) (w : World) (h : WkIs M w s) (hb : s.op.length = 0) : Calls Tryz.prog 64 #[.pointer (some ⟨M, 0, none⟩), .agg #[.int .i64 8, .int .i64 n, .string t, .slice pw ws.length cw]] w (TakeIs M w s ⟨8, n, t, ws⟩) := by
  obtain ⟨c0, c1, c2, c3⟩ := h.cells
  obtain ⟨b8, b16⟩ := h.bounds
  have hL := h.lt
  have HL := Lib.hid hL
  obtain ⟨c, hc, hs⟩ := h
  have HC := Lib.hid (show CurAt M w c from hc)
  have HS := Lib.hid hs
  have f43 : w.frozen? ⟨M, 43, none⟩ = false := HC.out.free 43
  have HX := Lib.hid ((hs.setPara true).setAh 8)
  have HE := Lib.hid hb
  rw [hb] at c0
  have f42 : w.frozen? ⟨M, 42, none⟩ = false := HC.out.free 42
  clear hs hc
  unfold TakeIs takeS
  rw [if_neg (by simp), if_neg (by simp), if_pos (by simp)]
  go_enter Tryz.func64, Tryz.ntmps64
  go_wp2_with fail
  go_end0
  exact ⟨rfl, ⟨_, ((HC.out.set _ _).set _ _).alloc _, by rw [mapTop_nil _ HE.out]; exact HX.out⟩, (((Below.refl M w).setCell (p := ⟨M, _, none⟩) (Nat.le_refl M) _).setCell (p := ⟨M, _, none⟩) (Nat.le_refl M) _).alloc (szM2 HL.out) _⟩

set_option maxRecDepth 100000 in
set_option maxHeartbeats 2000000 in
theorem take_done (M : Nat) (s : Wk) (n : Int) (t : ByteArray) (ws : List Int) (pw : Option Addr) (cw : Nat) (w : World) (h : WkIs M w s) : Calls Tryz.prog 64 #[.pointer (some ⟨M, 0, none⟩), .agg #[.int .i64 9, .int .i64 n, .string t, .slice pw ws.length cw]] w (TakeIs M w s ⟨9, n, t, ws⟩) := by
  obtain ⟨c0, c1, c2, c3⟩ := h.cells
  obtain ⟨b8, b16⟩ := h.bounds
  have hL := h.lt
  have HL := Lib.hid hL
  obtain ⟨c, hc, hs⟩ := h
  have HC := Lib.hid (show CurAt M w c from hc)
  have HS := Lib.hid hs
  have f43 : w.frozen? ⟨M, 43, none⟩ = false := HC.out.free 43
  have HX := Lib.hid ((hs.setPara false).setAh 9)
  have f42 : w.frozen? ⟨M, 42, none⟩ = false := HC.out.free 42
  clear hs hc
  unfold TakeIs takeS
  rw [if_neg (by simp), if_neg (by simp), if_neg (by simp), if_pos (by simp)]
  go_enter Tryz.func64, Tryz.ntmps64
  go_wp2_with fail
  go_end0
  exact ⟨rfl, ⟨_, ((HC.out.set _ _).set _ _).alloc _, HX.out⟩, (((Below.refl M w).setCell (p := ⟨M, _, none⟩) (Nat.le_refl M) _).setCell (p := ⟨M, _, none⟩) (Nat.le_refl M) _).alloc (szM2 HL.out) _⟩

set_option maxRecDepth 100000 in
set_option maxHeartbeats 2000000 in
theorem take_end (M : Nat) (s : Wk) (n : Int) (t : ByteArray) (ws : List Int) (pw : Option Addr) (cw : Nat) (w : World) (h : WkIs M w s) (hb : 0 < s.op.length) : Calls Tryz.prog 64 #[.pointer (some ⟨M, 0, none⟩), .agg #[.int .i64 14, .int .i64 n, .string t, .slice pw ws.length cw]] w (TakeIs M w s ⟨14, n, t, ws⟩) := by
  obtain ⟨c0, c1, c2, c3⟩ := h.cells
  obtain ⟨b8, b16⟩ := h.bounds
  have hL := h.lt
  have HL := Lib.hid hL
  obtain ⟨c, hc, hs⟩ := h
  have HC := Lib.hid (show CurAt M w c from hc)
  have HS := Lib.hid hs
  have f43 : w.frozen? ⟨M, 43, none⟩ = false := HC.out.free 43
  obtain ⟨m, hm⟩ : ∃ m, s.op.length = m + 1 := ⟨s.op.length - 1, by omega⟩
  have HX := Lib.hid ((hs.popOp m hm).setAh 14)
  rw [hm] at c0 b8
  have f24 : w.frozen? ⟨M, 24, none⟩ = false := HC.out.free 24
  have wr : wrap64 (((m + 1 : Nat) : Int) - 1) = (m : Int) := by unfold wrap64; omega
  clear hs hc
  unfold TakeIs takeS
  rw [if_neg (by simp), if_neg (by simp), if_neg (by simp), if_neg (by simp), if_neg (by simp), if_neg (by simp), if_pos (by simp)]
  go_enter Tryz.func64, Tryz.ntmps64
  go_wp2_with fail
  go_end0
  exact ⟨rfl, ⟨_, ((HC.out.set _ _).set _ _).alloc _, HX.out⟩, (((Below.refl M w).setCell (p := ⟨M, _, none⟩) (Nat.le_refl M) _).setCell (p := ⟨M, _, none⟩) (Nat.le_refl M) _).alloc (szM2 HL.out) _⟩

set_option maxRecDepth 100000 in
set_option maxHeartbeats 2000000 in
theorem take_x1 (M : Nat) (s : Wk) (n : Int) (t : ByteArray) (ws : List Int) (pw : Option Addr) (cw : Nat) (w : World) (h : WkIs M w s) : Calls Tryz.prog 64 #[.pointer (some ⟨M, 0, none⟩), .agg #[.int .i64 1, .int .i64 n, .string t, .slice pw ws.length cw]] w (TakeIs M w s ⟨1, n, t, ws⟩) := by
  obtain ⟨c0, c1, c2, c3⟩ := h.cells
  obtain ⟨b8, b16⟩ := h.bounds
  have hL := h.lt
  have HL := Lib.hid hL
  obtain ⟨c, hc, hs⟩ := h
  have HC := Lib.hid (show CurAt M w c from hc)
  have HS := Lib.hid hs
  have f43 : w.frozen? ⟨M, 43, none⟩ = false := HC.out.free 43
  have HX := Lib.hid (hs.setAh 1)
  clear hs hc
  unfold TakeIs takeS
  rw [if_neg (by simp), if_neg (by simp), if_neg (by simp), if_neg (by simp), if_neg (by simp), if_neg (by simp), if_neg (by simp)]
  go_enter Tryz.func64, Tryz.ntmps64
  go_wp2_with fail
  go_end0
  exact ⟨rfl, ⟨_, (HC.out.set _ _).alloc _, HX.out⟩, ((Below.refl M w).setCell (p := ⟨M, _, none⟩) (Nat.le_refl M) _).alloc (szM HL.out) _⟩

set_option maxRecDepth 100000 in
set_option maxHeartbeats 2000000 in
theorem take_x6 (M : Nat) (s : Wk) (n : Int) (t : ByteArray) (ws : List Int) (pw : Option Addr) (cw : Nat) (w : World) (h : WkIs M w s) : Calls Tryz.prog 64 #[.pointer (some ⟨M, 0, none⟩), .agg #[.int .i64 6, .int .i64 n, .string t, .slice pw ws.length cw]] w (TakeIs M w s ⟨6, n, t, ws⟩) := by
  obtain ⟨c0, c1, c2, c3⟩ := h.cells
  obtain ⟨b8, b16⟩ := h.bounds
  have hL := h.lt
  have HL := Lib.hid hL
  obtain ⟨c, hc, hs⟩ := h
  have HC := Lib.hid (show CurAt M w c from hc)
  have HS := Lib.hid hs
  have f43 : w.frozen? ⟨M, 43, none⟩ = false := HC.out.free 43
  have HX := Lib.hid (hs.setAh 6)
  clear hs hc
  unfold TakeIs takeS
  rw [if_neg (by simp), if_neg (by simp), if_neg (by simp), if_neg (by simp), if_neg (by simp), if_neg (by simp), if_neg (by simp)]
  go_enter Tryz.func64, Tryz.ntmps64
  go_wp2_with fail
  go_end0
  exact ⟨rfl, ⟨_, (HC.out.set _ _).alloc _, HX.out⟩, ((Below.refl M w).setCell (p := ⟨M, _, none⟩) (Nat.le_refl M) _).alloc (szM HL.out) _⟩

set_option maxRecDepth 100000 in
set_option maxHeartbeats 2000000 in
theorem take_x7 (M : Nat) (s : Wk) (n : Int) (t : ByteArray) (ws : List Int) (pw : Option Addr) (cw : Nat) (w : World) (h : WkIs M w s) : Calls Tryz.prog 64 #[.pointer (some ⟨M, 0, none⟩), .agg #[.int .i64 7, .int .i64 n, .string t, .slice pw ws.length cw]] w (TakeIs M w s ⟨7, n, t, ws⟩) := by
  obtain ⟨c0, c1, c2, c3⟩ := h.cells
  obtain ⟨b8, b16⟩ := h.bounds
  have hL := h.lt
  have HL := Lib.hid hL
  obtain ⟨c, hc, hs⟩ := h
  have HC := Lib.hid (show CurAt M w c from hc)
  have HS := Lib.hid hs
  have f43 : w.frozen? ⟨M, 43, none⟩ = false := HC.out.free 43
  have HX := Lib.hid (hs.setAh 7)
  clear hs hc
  unfold TakeIs takeS
  rw [if_neg (by simp), if_neg (by simp), if_neg (by simp), if_neg (by simp), if_neg (by simp), if_neg (by simp), if_neg (by simp)]
  go_enter Tryz.func64, Tryz.ntmps64
  go_wp2_with fail
  go_end0
  exact ⟨rfl, ⟨_, (HC.out.set _ _).alloc _, HX.out⟩, ((Below.refl M w).setCell (p := ⟨M, _, none⟩) (Nat.le_refl M) _).alloc (szM HL.out) _⟩
end Go.Proofs.YtdagombmgcnofaaGreatDoor.Ir
