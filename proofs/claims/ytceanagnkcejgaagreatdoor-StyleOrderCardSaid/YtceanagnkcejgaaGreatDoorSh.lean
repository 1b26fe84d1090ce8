/- A sheet in memory; Find. -/
import Derived.Test.YtceanagnkcejgaaGreatDoorOBase
import Derived.Test.YtceanagnkcejgaaGreatDoorSt
namespace Go.Proofs.YtceanagnkcejgaaGreatDoor
open Go.RowKit
set_option linter.unusedVariables false

def styVal (s : Sty) : Value := .agg #[.string (bs s.nm), .string (bs s.pr), .int .i64 s.ch.on, .int .i64 s.ch.off, .int .i64 s.ch.col]
def chgVal (c : Chg) : Value := .agg #[.int .i64 c.on, .int .i64 c.off, .int .i64 c.col]
def lkVal (l : Lk) : Value := .agg #[.int .i64 l.att, .int .i64 l.col]
def styRow (s : Sty) : List Value := [.string (bs s.nm), .string (bs s.pr), .int .i64 s.ch.on, .int .i64 s.ch.off, .int .i64 s.ch.col]
theorem infoSty : (Tryz.prog.info? 29).map (fun i => (i.zero, i.size, i.bytes)) = some (some (.agg #[.string .empty, .string .empty, .int .i64 0, .int .i64 0, .int .i64 0]), 5, 56) := by kernel_rfl
/-- The slice v reads as the styles l. -/
def Sh (w : World) (v : Value) (l : List Sty) : Prop :=
  ∃ (pa : Option Addr) (cap : Nat), v = .slice pa l.length cap ∧ l.length ≤ cap ∧ cap ≤ maxLen ∧
    ∀ i (hi : i < l.length), ∃ b off, pa = some ⟨b, off, none⟩ ∧ ∀ k u, (styRow l[i])[k]? = some u → w.cell? ⟨b, off + i * 5 + k, none⟩ = some u
theorem Sh.below {w w' : World} {v : Value} {l : List Sty} (h : Sh w v l) (hb : Below w.heap.size w w') : Sh w' v l := by
  obtain ⟨pa, cap, h1, h2, h3, h4⟩ := h
  refine ⟨pa, cap, h1, h2, h3, fun i hi => ?_⟩
  obtain ⟨b, off, e, hc⟩ := h4 i hi
  exact ⟨b, off, e, fun k u hk => (hb.cell (p := ⟨b, off + i * 5 + k, none⟩) (cell_in (hc k u hk))).trans (hc k u hk)⟩
theorem Sh.form {w : World} {v : Value} {l : List Sty} (h : Sh w v l) : ∃ (pa : Option Addr) (cap : Nat), v = .slice pa l.length cap ∧ l.length ≤ cap ∧ cap ≤ maxLen := by
  obtain ⟨pa, cap, h1, h2, h3, _⟩ := h
  exact ⟨pa, cap, h1, h2, h3⟩
theorem Sh.cells {w : World} {pa : Option Addr} {n cap : Nat} {l : List Sty} (h : Sh w (.slice pa n cap) l) {i : Nat} (hi : i < l.length) : ∃ b off, pa = some ⟨b, off, none⟩ ∧
    w.cell? ⟨b, off + i * 5, none⟩ = some (.string (bs (gets l i).nm)) ∧ w.cell? ⟨b, off + i * 5 + 1, none⟩ = some (.string (bs (gets l i).pr)) ∧
    w.cell? ⟨b, off + i * 5 + 2, none⟩ = some (.int .i64 (gets l i).ch.on) ∧ w.cell? ⟨b, off + i * 5 + 3, none⟩ = some (.int .i64 (gets l i).ch.off) ∧ w.cell? ⟨b, off + i * 5 + 4, none⟩ = some (.int .i64 (gets l i).ch.col) := by
  obtain ⟨pa, cap, h1, _, _, h4⟩ := h
  cases h1
  obtain ⟨b, off, e, hc⟩ := h4 i hi
  rw [gets_eq hi]
  exact ⟨b, off, e, hc 0 _ rfl, hc 1 _ rfl, hc 2 _ rfl, hc 3 _ rfl, hc 4 _ rfl⟩
def fndV (o : Option Nat) : Value := .tuple #[.int .i64 ((o.getD 0 : Nat) : Int), .bool o.isSome]
theorem bs_eq {a b : List UInt8} : ((bs a).toList == (bs b).toList) = decide (a = b) := by
  rw [ByteArray.toList_eq, ByteArray.toList_eq]
  show (a.toArray.toList == b.toArray.toList) = _
  simp
  rw [Bool.eq_iff_iff]; simp

set_option maxRecDepth 100000 in
set_option maxHeartbeats 1000000 in
theorem find_pro (l : List Sty) (x : List UInt8) (v : Value) (w : World) (h : Sh w v l) :
    Calls Tryz.prog 15 #[v, .string (bs x)] w fun e w' => e = .returned (fndV (fnd l x)) ∧ w = w' := by
  obtain ⟨pa, cap, rfl, hc1, hc2⟩ := h.form
  unfold maxLen at hc2
  have HH := Lib.hid h
  clear h
  go_enter Tryz.func15, Tryz.ntmps15
  go_wp2_with fail
  go_loop [6, 9] (fun _ i => ∃ k : Nat, k ≤ l.length ∧ i = .int .i64 k ∧ Hid (fndF x (l.drop k) k = fnd l x)) (fun _ i => l.length - (intOf i).toNat)
  case atStart => exact ⟨0, Nat.zero_le _, rfl, rfl⟩
  case round =>
    obtain ⟨k, hk, rfl, HF⟩ := hrel
    by_cases hlt : k < l.length
    · obtain ⟨b, off, rfl, c0, c1, c2, c3, c4⟩ := HH.out.cells hlt
      have hs := fndF_step (x := x) hlt
      by_cases he : (l[k]).nm = x
      · rw [if_pos he] at hs
        have hz : fnd l x = some k := HF.out.symm.trans hs
        have t1 : ((bs (gets l k).nm).toList == (bs x).toList) = true := by rw [bs_eq, gets_eq hlt]; simpa using he
        have HZ := Lib.hid hz
        clear hs he hz
        go_wp2_with fail
        go_ret2
        rw [HZ.out]
        exact ⟨rfl, rfl⟩
      · rw [if_neg he] at hs
        have hz := hs.symm.trans HF.out
        have t1 : ((bs (gets l k).nm).toList == (bs x).toList) = false := by rw [bs_eq, gets_eq hlt]; simpa using he
        have HZ := Lib.hid hz
        clear hs he hz
        go_wp2_with fail
        go_round
        case rel => exact ⟨k + 1, by omega, by go_num, HZ.out⟩
        case measure => simp [intOf]; omega
    · have hz : fnd l x = none := by rw [← HF.out]; exact fndF_end (by omega)
      have HZ := Lib.hid hz
      clear hz
      go_wp2_with fail
      go_ret2
      rw [HZ.out]
      exact ⟨rfl, rfl⟩
end Go.Proofs.YtceanagnkcejgaaGreatDoor
