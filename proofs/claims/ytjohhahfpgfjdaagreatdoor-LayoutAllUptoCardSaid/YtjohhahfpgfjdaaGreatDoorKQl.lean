/- Layer 2 at a seat of layer 13: the document's Width and Cells. -/
import Derived.Test.YtjohhahfpgfjdaaGreatDoorK8
import Derived.Deep.QuietTactic
import Derived.BigQuiet
namespace Go.Proofs.YtjohhahfpgfjdaaGreatDoor
open Go.RowKit Go.Maps
theorem width_ref (r : Int) (w : World) :
    Calls Tryz.prog 31 #[.int .i32 r] w fun e w' => e = .returned (.int .i64 (wid r)) ∧ w = w' := by
  go_enter Tryz.func31, Tryz.ntmps31
  go_wp2_with (first | (go_at_call 68; refine (in_ref _ _ _ _).mono ?_; rintro e w' ⟨rfl, rfl⟩) | (go_at_call 39; refine (control_ref _ _).mono ?_; rintro e w' ⟨rfl, rfl⟩))
  all_goals go_ret
  all_goals (refine ⟨ret_int ?_, rfl⟩; simp [wid, *])

theorem infoCel : (Tryz.prog.info? 57).map (fun i => (i.zero, i.size, i.bytes)) = some (some (.agg #[.string .empty, .int .i64 0, .int .i64 0]), 3, 32) := by kernel_rfl

/-- What Cells answers: a new list that holds the text's cells. -/
def IsCells (s : ByteArray) (w : World) (e : Ending) (w' : World) : Prop :=
  ∃ v : Value, e = .returned v ∧ w'.ownsRow w.heap.size 57 3 v (cells s).length (celsV s (cells s)) ∧ Below w.heap.size w w'

/-- A new cell has been laid behind the others. -/
theorem rel_new {s : ByteArray} {w1 wr w2 : World} {u v' : Value} {k n : Nat} {c : Ch} {t : Value} {o : Obj} (hc : (chars s)[k]? = some c) (hlt : k < (chars s).length)
    (hst : celStep (celsOf ((chars s).take k)) c = celsOf ((chars s).take k) ++ [celNew c]) (ht : t = .int .i64 (celNew c).2.2)
    (ho : wr.ownsRow w1.heap.size 57 3 u (celsOf ((chars s).take k)).length (celsV s (celsOf ((chars s).take k)))) (hb : Below w1.heap.size w1 wr)
    (hown' : w2.ownsRow w1.heap.size 57 3 v' ((celsOf ((chars s).take k)).length + 1) (celsV s (celsOf ((chars s).take k)) ++ [.string (s.extract c.1 (c.1 + c.2.2)), .int .i64 c.1, t]))
    (hg : ((wr.drewN n).alloc o).grownBy w2 u.ownBlock) :
    ∃ k' : Nat, Value.int .i64 ((k : Int) + 1) = .int .i64 k' ∧ k' ≤ (chars s).length ∧ w2.ownsRow w1.heap.size 57 3 v' (celsOf ((chars s).take k')).length (celsV s (celsOf ((chars s).take k'))) ∧ Below w1.heap.size w1 w2 := by
  refine ⟨k + 1, by simp, hlt, ?_, ((below_drewN hb n).alloc hb.size o).grown hg (by simpa using Nat.le_succ_of_le hb.size) (fun j hj => (ho.lt j hj).1)⟩
  rw [celsOf_take hc, hst, List.length_append, celsV_snoc]
  subst ht
  exact hown'
/-- The last cell has been made longer. -/
theorem rel_more {s : ByteArray} {w1 wr : World} {g cap k n : Nat} {c : Ch} {init : List Cel} {y : Cel} {t : Value} (hc : (chars s)[k]? = some c) (hlt : k < (chars s).length)
    (hz : wid c.2.1 = 0) (e : celsOf ((chars s).take k) = init ++ [y]) (hg : w1.heap.size ≤ g)
    (ho : wr.ownsRow w1.heap.size 57 3 (.slice (some ⟨g, 0, none⟩) (init.length + 1) cap) (init.length + 1) (celsV s (init ++ [y]))) (hb : Below w1.heap.size w1 wr)
    (ht : t = .string (s.extract y.1 (c.1 + c.2.2))) :
    ∃ k' : Nat, Value.int .i64 ((k : Int) + 1) = .int .i64 k' ∧ k' ≤ (chars s).length ∧ ((wr.drewN n).setCell ⟨g, init.length * 3, none⟩ t).ownsRow w1.heap.size 57 3 (.slice (some ⟨g, 0, none⟩) (init.length + 1) cap) (celsOf ((chars s).take k')).length (celsV s (celsOf ((chars s).take k'))) ∧
      Below w1.heap.size w1 ((wr.drewN n).setCell ⟨g, init.length * 3, none⟩ t) := by
  refine ⟨k + 1, by simp, hlt, ?_, (below_drewN hb n).setCell (p := ⟨g, init.length * 3, none⟩) hg _⟩
  rw [celsOf_take hc, e, celStep_more _ _ _ hz, List.length_append, ← celsV_set]
  subst ht
  exact (World.ownsRow.stored (own_drewN ho n) (init.length * 3) _).1

set_option maxRecDepth 100000 in
set_option maxHeartbeats 1000000 in
theorem cells_ref (s : ByteArray) (w : World) (hs : s.size ≤ 16777216) :
    Calls Tryz.prog 16 #[.string s] w (IsCells s w) := by
  obtain ⟨i0, hi, hz0, hz1, hz2⟩ := info_parts infoCel
  have HS := Lib.hid hs
  have hl : (chars s).length ≤ 16777216 := Nat.le_trans (chars_len s) hs
  clear hs
  go_enter Tryz.func16, Tryz.ntmps16
  go_wp2_with (go_at_call 30; refine (chars_ref s _ HS.out).mono ?_; rintro e w1 ⟨v, xs, rfl, hown, hx, hbw⟩; have HW := Lib.hid hown; have HX := Lib.hid hx; have HB := Lib.hid hbw; clear hown hx hbw)
  go_loopw [3, 5, 6, 7] (fun u i _ _ wr => ∃ k : Nat, i = .int .i64 k ∧ k ≤ (chars s).length ∧ wr.ownsRow w1.heap.size 57 3 u (celsOf ((chars s).take k)).length (celsV s (celsOf ((chars s).take k))) ∧ Below w1.heap.size w1 wr) (fun _ i _ _ _ => (chars s).length - (intOf i).toNat)
  case atStart => exact ⟨0, rfl, Nat.zero_le _, World.ownsRow_nil _ _ _ _, Below.refl _ _⟩
  case round =>
    obtain ⟨k, rfl, hk, how, hbr⟩ := hrel
    have HO := Lib.hid how
    have HR := Lib.hid hbr
    clear how hbr
    by_cases hlt : k < (chars s).length
    · obtain ⟨g, cap, rfl, hg, hgl⟩ := World.ownsRow.form HW.out (by omega)
      obtain ⟨c, hc⟩ : ∃ c, (chars s)[k]? = some c := ⟨_, List.getElem?_eq_getElem hlt⟩
      obtain ⟨h0, h1, h2⟩ := HX.out.2 k c hc
      have hxl := HX.out.1
      have g0 := (HR.out.cell (p := ⟨g, k * 4, none⟩) hgl).trans ((World.ownsRow.cellAt HW.out (k * 4) (by omega)).trans h0)
      have g1 := (HR.out.cell (p := ⟨g, k * 4 + 1, none⟩) hgl).trans ((World.ownsRow.cellAt HW.out (k * 4 + 1) (by omega)).trans h1)
      have g2 := (HR.out.cell (p := ⟨g, k * 4 + 2, none⟩) hgl).trans ((World.ownsRow.cellAt HW.out (k * 4 + 2) (by omega)).trans (h2 hlt).1)
      have HC := Lib.hid hc
      have hmem : c ∈ chars s := List.mem_of_getElem? hc
      have hw := chars_width s c hmem
      have hr := chars_rune s c hmem
      have hS := HS.out
      have b1 : (0 : Int) ≤ c.1 := by omega
      have b2 : (c.1 : Int) ≤ 16777216 := by omega
      have b3 : (0 : Int) ≤ c.2.2 := by omega
      have b4 : (c.2.2 : Int) ≤ 16777216 := by omega
      have b5 : (c.1 : Int) ≤ c.1 + c.2.2 := by omega
      have b6 : (c.1 : Int) + c.2.2 ≤ s.size := by omega
      have b7 : (0 : Int) ≤ c.1 + c.2.2 := by omega
      have v1 : IntKind.i64.wrap ((c.1 : Int) + c.2.2) = c.1 + c.2.2 := IntWalk.i64_in _ (by omega)
      have v2 : ((c.1 : Int) + c.2.2).toNat = c.1 + c.2.2 := by omega
      have V1 := Lib.hid v1
      have V2 := Lib.hid v2
      clear v1 v2 h0 h1 h2 hxl hc hmem
      have hcl : (celsOf ((chars s).take k)).length ≤ k := celsOf_len _ _
      have B1 := Lib.hid (show (celsOf ((chars s).take k)).length + 1 ≤ maxLen by unfold maxLen; omega)
      have B2 := Lib.hid (show ((celsOf ((chars s).take k)).length + 1) * 32 ≤ 140737488355328 by omega)
      by_cases hz : wid c.2.1 = 0
      · have HZ := Lib.hid hz
        rcases List.eq_nil_or_concat (celsOf ((chars s).take k)) with h0 | ⟨init, y, h0⟩
        · have hst := Lib.hid (show celStep (celsOf ((chars s).take k)) c = celsOf ((chars s).take k) ++ [celNew c] by rw [h0]; exact celStep_nil c)
          have ht := Lib.hid (show Value.int .i64 1 = .int .i64 (celNew c).2.2 by simp [celNew, hz])
          have hlen : ((celsOf ((chars s).take k)).length : Int) ≤ 0 := by rw [h0]; simp
          clear h0
          rcases HO.out.2 with ⟨rfl, _⟩ | ⟨g2, cap2, cur2, rfl, _⟩
          all_goals
            go_wp2_with (first | (go_at_call 31; refine (width_ref _ _).mono ?_; rintro e w2 ⟨rfl, rfl⟩))
            have v1 := V1.out
            have v2 := V2.out
            go_quiet (fail)
            clear v1 v2
            go_wp2_with (at_builtin; go_loud (refine wpList_append_own _ rfl _ _ 54 rfl w1.heap.size 57 i0 (.agg #[.string .empty, .int .i64 0, .int .i64 0]) 3 32 Tryz.underlying54 hi hz0 hz1 hz2 rfl (by decide) _ _ _ rfl ((own_drewN HO.out _).alloc _) ⟨wr.heap.size, 0, none⟩ 1 1 [.string (s.extract c.1 (c.1 + c.2.2)), .int .i64 c.1, .int .i64 1] rfl rfl (cells_new _ _ _) (celV_one s (c.1, c.1 + c.2.2, 1)) B1.out B2.out (by simpa using Nat.le_succ_of_le HR.out.size) ?_); intro v' w2 hown' hgrow _)
            go_roundw
            case rel => exact rel_new HC.out hlt hst.out ht.out HO.out HR.out hown' hgrow
            case measure => simp [intOf]; omega
        · rw [List.concat_eq_append] at h0
          have ho := HO.out
          rw [h0, List.length_append, List.length_singleton] at ho
          obtain ⟨g2, cap2, rfl, hg2, hgl2⟩ := World.ownsRow.form ho (by omega)
          have hlast := celsOf_last s k hk init y h0
          rw [dif_pos hlt, (List.getElem?_eq_some_iff.1 HC.out).2] at hlast
          have hy : (init ++ [y])[init.length]? = some y := by simp
          have gy := (World.ownsRow.cellAt ho (init.length * 3) (by omega)).trans (celsV_get s _ _ y hy).1
          have fy := World.ownsRow.frozenAt ho (init.length * 3)
          have ht := Lib.hid (show Value.string (s.extract y.1 y.2.1 ++ s.extract c.1 (c.1 + c.2.2)) = .string (s.extract y.1 (c.1 + c.2.2)) by rw [hlast.1, extract_join s _ _ _ (by omega) (by omega)])
          have HH := Lib.hid ho
          have H0 := Lib.hid h0
          have hil : init.length ≤ 16777216 := by have := congrArg List.length h0; simp at this; omega
          have hlen : (celsOf ((chars s).take k)).length = init.length + 1 := by rw [h0]; simp
          clear h0 ho hy hlast hcl B1 B2
          go_wp2_with (first | (go_at_call 31; refine (width_ref _ _).mono ?_; rintro e w2 ⟨rfl, rfl⟩))
          have v1 := V1.out
          have v2 := V2.out
          go_quiet (fail)
          clear v1 v2
          go_wp2_with fail
          go_roundw
          case rel => exact rel_more HC.out hlt HZ.out H0.out hg2 HH.out HR.out ht.out
          case measure => simp [intOf]; omega
      · have hw1 : 1 ≤ wid c.2.1 := by have := wid_012 c.2.1; omega
        have ht := Lib.hid (show Value.int .i64 (wid c.2.1) = .int .i64 (celNew c).2.2 by simp [celNew, hz])
        have hst := Lib.hid (celStep_new (celsOf ((chars s).take k)) c hz)
        go_wp2_with (first | (go_at_call 31; refine (width_ref _ _).mono ?_; rintro e w2 ⟨rfl, rfl⟩))
        have v1 := V1.out
        have v2 := V2.out
        go_quiet (fail)
        clear v1 v2
        go_wp2_with (at_builtin; refine wpList_append_own _ rfl _ _ 54 rfl w1.heap.size 57 i0 (.agg #[.string .empty, .int .i64 0, .int .i64 0]) 3 32 Tryz.underlying54 hi hz0 hz1 hz2 rfl (by decide) _ _ _ rfl ((own_drewN HO.out _).alloc _) ⟨wr.heap.size, 0, none⟩ 1 1 [.string (s.extract c.1 (c.1 + c.2.2)), .int .i64 c.1, .int .i64 (wid c.2.1)] rfl rfl (cells_new _ _ _) (celV_one s (c.1, c.1 + c.2.2, wid c.2.1)) B1.out B2.out (by simpa using Nat.le_succ_of_le HR.out.size) ?_; intro v' w2 hown' hgrow _)
        go_roundw
        case rel => exact rel_new HC.out hlt hst.out ht.out HO.out HR.out hown' hgrow
        case measure => simp [intOf]; omega
    · obtain rfl : k = (chars s).length := by omega
      have hfin : IsCells s w (.returned u3) wr := ⟨_, rfl, by have h := World.ownsRow.mono HO.out HB.out.size; rw [List.take_length] at h; exact h, HB.out.trans (HR.out.mono HB.out.size)⟩
      have HF := Lib.hid hfin
      clear hfin
      rcases HW.out.2 with ⟨rfl, h0⟩ | ⟨g, cap, cur, rfl, _⟩
      · have hz : ((chars s).length : Int) ≤ 0 := by omega
        clear h0
        go_wp2_with fail
        go_ret
        exact HF.out
      · go_wp2_with fail
        go_ret
        exact HF.out
end Go.Proofs.YtjohhahfpgfjdaaGreatDoor
