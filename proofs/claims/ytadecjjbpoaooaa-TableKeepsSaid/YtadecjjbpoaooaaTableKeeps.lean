/- What is proved: TableKeeps holds of every flow and every width: lines fit, no sign is lost, no line ends with a blank where there is no tab. -/
import Derived.Test.YtadecjjbpoaooaaVh
import Derived.Test.YtadecjjbpoaooaaVi
import Derived.Test.YtadecjjbpoaooaaVq
import Derived.Test.YtadecjjbpoaooaaVr
import Derived.Test.YtadecjjbpoaooaaPost
import Derived.ProofKit
import Derived.OpenShut
import Derived.Deep.DeepHandedRow
import Derived.Deep.RegionHeld
namespace Go.Proofs.Ytadecjjbpoaooaa.tableKeeps
open Go.ChangeShapes Go.WideShapes Go.ChangeAt Go.RowKit Go.Maps Go.Proofs.Ytadecjjbpoaooaa.Tb
open Go.ChangeMaps (open_string shut_string)
set_option linter.unusedVariables false
set_option linter.unusedSimpArgs false
/-- One operation of a region that draws its order, carried out. -/
theorem op_via {P : Program} {ops : Array Oper} {Q : Exit → Act → World → Prop} {i : Nat} {o : Oper} {K : Act → World → Prop} {a : Act} {w : World} (hi : ops[i]? = some o) (hw : Region.wanted o (yielded ops a.tmps) = true)
    (h : ∀ K' : Act → World → Prop, (∀ a w, K a w → K' a w) → o.wp P a w K' Q) : wpOp P ops Q i K a w := by
  unfold wpOp
  simp only [hi, hw, if_true]
  exact .inl (h K fun _ _ h => h)
/-- What is kept of the flow's first ones. -/
def keptK (x : Int) (l : List Gl) (k : Nat) : List Gl := ((l.take k).filter sgn).map (fitG x)
theorem keptK_len (x : Int) (l : List Gl) (k : Nat) : (keptK x l k).length ≤ k := by
  unfold keptK
  rw [List.length_map]
  exact Nat.le_trans (List.length_filter_le _ _) (List.length_take_le _ _)
theorem small_of {wide : Int} {r : List Gl} (h : LineOk wide r) : SmallW r := fun g hg => by have := h.1 g hg; omega
theorem len_of {wide : Int} {r : List Gl} (h : LineOk wide r) : (r.length : Int) ≤ wide := Int.le_trans (wid_ge r h.1).1 h.2
def tabsK (l : List Gl) (k : Nat) : Bool := (l.take k).any isT
theorem fill_zero {x : Int} {l : List Gl} (h : fillE x l ≠ 0) : fillL x l = [] := by unfold fillL; rw [if_neg h]
set_option maxRecDepth 100000 in
set_option maxHeartbeats 8000000 in
theorem walk (v : Value) (l : List Gl) (x : Int) (W : World) (hR : RdG (fun _ => True) W v l) (hs : l.length * 48 ≤ 140737488351232) (hx : (Lit.int .i64 x).wf = true) :
    Calls Try.prog 4 #[v, .int .i64 x] W fun e W' => e = .returned (.bool true) ∧ Below W.heap.size W W' := by
  obtain ⟨i0, hi0, hz0, hz1, hz2⟩ := info_parts infoG
  obtain ⟨E, hE⟩ : ∃ E, fillE x l = E := ⟨_, rfl⟩
  obtain ⟨ls, hls⟩ : ∃ ls, fillL x l = ls := ⟨_, rfl⟩
  have HR := Lib.hid hR
  have HE := Lib.hid hE
  have HLS := Lib.hid hls
  have S1 := Lib.hid (show l.length * 48 ≤ 140737488355328 by omega)
  have S2 := Lib.hid (show (l.length + 1) * 24 ≤ 140737488355328 by omega)
  have S3 := Lib.hid (show (l.length + 1) * 48 ≤ 140737488355328 by omega)
  obtain ⟨pa, ca, rfl, _, _⟩ := sliceG hR
  obtain ⟨N, hN⟩ : ∃ N, l.length = N := ⟨_, rfl⟩
  have HN := Lib.hid hN
  have N62 : N ≤ 9223372036854775807 := by omega
  rw [hN] at HR ⊢
  clear hR hE hls hs hN
  go_enter Try.func4, Try.ntmps4
  go_wp2_with fail
  refine (awake_law W).mono ?_
  rintro e w0 ⟨rfl, b0⟩
  have B0 := Lib.hid b0
  have R0 := Lib.hid (HR.out.below b0)
  clear b0
  go_wp2_with fail
  refine (twin_law l _ w0 R0.out S1.out).mono ?_
  rintro e w1 ⟨v1, rfl, o1, b1⟩
  have B1 := Lib.hid (B0.out.trans (b1.mono B0.out.size))
  have R1 := Lib.hid (any_own o1)
  clear b1 o1
  go_wp2_with fail
  refine (fill_pro x l v1 w1 R1.out S2.out).mono ?_
  rintro e w2 ⟨v2, rfl, o2, b2⟩
  have B2 := Lib.hid (B1.out.trans (b2.mono B1.out.size))
  have R2 := Lib.hid (any_l o2)
  have R3 := Lib.hid (HR.out.below B2.out)
  rw [HLS.out] at R2
  rw [HE.out]
  clear b2 o2
  obtain ⟨p5, c5, rfl, hc1, hc2⟩ := R2.out.form
  obtain ⟨m, hm⟩ : ∃ m, ls.length = m := ⟨_, rfl⟩
  have HM := Lib.hid hm
  rw [hm] at R2 hc1 ⊢
  have m62 : m ≤ 9223372036854775807 := by unfold maxLen at hc2; omega
  clear hm hc1 hc2
  by_cases h0 : E = 0
  · subst h0
    obtain ⟨⟨x1, x2⟩, hbad⟩ := fillE_ok HE.out
    have HBD := Lib.hid hbad
    have hfl : fillL x l = fillM x l := by unfold fillL; rw [if_pos HE.out]
    have HFM := Lib.hid (hfl.symm.trans HLS.out)
    clear hbad hfl
    go_wp2_with fail
    go_loopw [7, 8, 9] (fun tv ov i wr => ∃ (k : Nat), i = .int .i64 k ∧ k ≤ N ∧ tv = .bool (tabsK l k) ∧ Hid (wr.ownsRow w2.heap.size 40 5 ov (keptK x l k).length (rowsG (keptK x l k))) ∧ Hid (Below w2.heap.size w2 wr)) (fun _ _ i _ => N - (intOf i).toNat)
    case atStart => exact ⟨0, rfl, Nat.zero_le _, rfl, Lib.hid (World.ownsRow_nil _ _ _ _), Lib.hid (Below.refl _ _)⟩
    case round =>
      obtain ⟨k, rfl, hk, rfl, HO, HB⟩ := hrel
      by_cases hlt : k < N
      · have hkl : k < l.length := by rw [HN.out]; exact hlt
        have k1 : (k : Int) < N := by omega
        have HLT := Lib.hid hlt
        obtain ⟨b, off, rfl, _, hg⟩ := (R3.out.below HB.out).at_ hkl
        have HTK := Lib.hid (show l.take (k + 1) = l.take k ++ [l[k]] from List.take_succ_eq_append_getElem hkl)
        have HGB := Lib.hid (HBD.out _ (List.getElem_mem hkl))
        obtain ⟨y, hy⟩ : ∃ y, l[k] = y := ⟨_, rfl⟩
        rw [hy] at hg HTK HGB
        obtain ⟨d0, d1, d2, d3, d4⟩ := hg
        have HT2 := Lib.hid (show tabsK l (k + 1) = (tabsK l k || isT y) by unfold tabsK; rw [HTK.out, List.any_append]; simp)
        have hlen := keptK_len x l k
        have L1 := Lib.hid (show (keptK x l k).length + 1 ≤ maxLen by unfold maxLen; have := S1.out; have := HN.out; omega)
        have L2 := Lib.hid (show ((keptK x l k).length + 1) * 48 ≤ 140737488355328 by have := S1.out; have := HN.out; omega)
        have HKS := Lib.hid (show sgn y = true → keptK x l (k + 1) = keptK x l k ++ [fitG x y] by intro h; unfold keptK; rw [HTK.out, List.filter_append, List.filter_cons_of_pos h]; simp)
        have HKN := Lib.hid (show sgn y = false → keptK x l (k + 1) = keptK x l k by intro h; unfold keptK; rw [HTK.out, List.filter_append, List.filter_cons_of_neg (by simp [h])]; simp)
        have hA := below_box wr (boxG y)
        have HA := Lib.hid hA
        have HSG := Lib.hid (sign_ref y (wr.alloc (boxG y)))
        have hbk := heap_alloc_new wr (boxG y)
        have HBK := Lib.hid hbk
        have HO1 := Lib.hid (own_below HO.out hA)
        have HB1 := Lib.hid (HB.out.trans (hA.mono HB.out.size))
        obtain ⟨KL, hKL⟩ : ∃ KL, keptK x l k = KL := ⟨_, rfl⟩
        rw [hKL] at HO1 L1 L2 HKS HKN
        obtain ⟨N3, hN3⟩ : ∃ N3, KL.length = N3 := ⟨_, rfl⟩
        rw [hN3] at HO1 L1 L2
        obtain ⟨tb, htb⟩ : ∃ tb, tabsK l k = tb := ⟨_, rfl⟩
        rw [htb] at HT2 ⊢
        have HN3 := Lib.hid hN3
        obtain ⟨p3, c3, rfl⟩ := lenL HO1.out
        have HOC := Lib.hid (fun (j : Nat) (hj : (Value.slice p3 N3 c3).ownBlock = some j) => (own_base HO.out hj).2)
        obtain ⟨it, hit⟩ : ∃ it, isT y = it := ⟨_, rfl⟩
        rw [hit] at HT2
        have t1 : (y.t.toList == [9]) = it := hit
        obtain ⟨z, hz⟩ : ∃ z, sgn y = z := ⟨_, rfl⟩
        rw [hz] at HSG HKS HKN
        unfold glV at HSG
        unfold boxG at HSG HBK HO1 HB1
        clear hA hbk hKL hN3 htb hit hy hlen hkl hlt HO
        have HCC := Lib.hid hz
        clear hz
        cases z with
        | true =>
          have HK2 := Lib.hid (HKS.out rfl)
          clear HKS HKN
          by_cases hw : x < y.wd
          · have hwd : decide (y.wd > x) = true := decide_eq_true hw
            have HFT := Lib.hid (show fitG x y = ⟨bl1 63, 1, y.at_, y.co, y.lk⟩ by unfold fitG; rw [if_pos hw])
            go_upto_region 12 with fail
            go_cut [7] from 37 to 42 (fun s7 wx => s7 = .bool (tb || it) ∧ wx = wr.alloc (.cells #[.string y.t, .int .i64 y.wd, .int .i64 y.at_, .int .i64 y.co, .int .i64 y.lk] 40))
            case first =>
              cases tb with
              | true =>
                go_wp2_with fail
                go_meet
                case rel => exact ⟨by simp, rfl⟩
              | false =>
                go_wp2_with fail
                go_meet
                case rel => exact ⟨by simp, rfl⟩
            case rest =>
              obtain ⟨rfl, rfl⟩ := hcut
              obtain ⟨tn, htn⟩ : ∃ tn, (tb || it) = tn := ⟨_, rfl⟩
              rw [htn] at HT2 ⊢
              clear htn t1
              go_wp2_with fail
              refine HSG.out.mono ?_
              rintro e w4 ⟨rfl, b4⟩
              have hb4 := (b4.block wr.heap.size (by simp)).trans HBK.out
              have HO4 := Lib.hid (own_below HO1.out b4)
              have HB4 := Lib.hid (HB1.out.trans (b4.mono HB1.out.size))
              have e0 : w4.cell? ⟨wr.heap.size, 0, none⟩ = some (.string y.t) := by rw [cell_of_row _ _ _ _ _ _ hb4]; rfl
              have e1 : w4.cell? ⟨wr.heap.size, 1, none⟩ = some (.int .i64 y.wd) := by rw [cell_of_row _ _ _ _ _ _ hb4]; rfl
              have e2 : w4.cell? ⟨wr.heap.size, 2, none⟩ = some (.int .i64 y.at_) := by rw [cell_of_row _ _ _ _ _ _ hb4]; rfl
              have e3 : w4.cell? ⟨wr.heap.size, 3, none⟩ = some (.int .i64 y.co) := by rw [cell_of_row _ _ _ _ _ _ hb4]; rfl
              have e4 : w4.cell? ⟨wr.heap.size, 4, none⟩ = some (.int .i64 y.lk) := by rw [cell_of_row _ _ _ _ _ _ hb4]; rfl
              have f0 := frozen_of_row w4 wr.heap.size 0 _ _ hb4
              have hb5 := heap_setCell_same w4 wr.heap.size 0 _ _ (.string ⟨#[63]⟩) hb4
              have f1 := frozen_of_row _ wr.heap.size 1 _ _ hb5
              have hb6 := heap_setCell_same _ wr.heap.size 1 _ _ (.int .i64 1) hb5
              obtain ⟨w6, hw6⟩ : ∃ w6, (w4.setCell ⟨wr.heap.size, 0, none⟩ (.string ⟨#[63]⟩)).setCell ⟨wr.heap.size, 1, none⟩ (.int .i64 1) = w6 := ⟨_, rfl⟩
              have hb6' : w6.heap[wr.heap.size]? = some (.cells #[.string ⟨#[63]⟩, .int .i64 1, .int .i64 y.at_, .int .i64 y.co, .int .i64 y.lk] 40) := by rw [← hw6]; exact hb6
              have hz6 : w6.heap.size = w4.heap.size := by rw [← hw6]; simp [World.setCell]
              have hn6 : ∀ j, j ≠ wr.heap.size → w6.heap[j]? = w4.heap[j]? := fun j hj => by rw [← hw6]; exact (Below.heap_setCell _ _ _ j hj).trans (Below.heap_setCell _ _ _ j hj)
              have HOW := Lib.hid (show w6.ownsRow w2.heap.size 40 5 (.slice p3 N3 c3) N3 (rowsG KL) from own_stays HO4.out fun j hj => hn6 j (by have := HOC.out j hj; omega))
              have HBW := Lib.hid (show Below w2.heap.size w2 w6 by rw [← hw6]; exact ((HB4.out.setCell (p := ⟨wr.heap.size, 0, none⟩) HB.out.size _).setCell (p := ⟨wr.heap.size, 1, none⟩) HB.out.size _))
              have g0 : w6.cell? ⟨wr.heap.size, 0, none⟩ = some (.string ⟨#[63]⟩) := by rw [cell_of_row _ _ _ _ _ _ hb6']; rfl
              have g1 : w6.cell? ⟨wr.heap.size, 1, none⟩ = some (.int .i64 1) := by rw [cell_of_row _ _ _ _ _ _ hb6']; rfl
              have g2 : w6.cell? ⟨wr.heap.size, 2, none⟩ = some (.int .i64 y.at_) := by rw [cell_of_row _ _ _ _ _ _ hb6']; rfl
              have g3 : w6.cell? ⟨wr.heap.size, 3, none⟩ = some (.int .i64 y.co) := by rw [cell_of_row _ _ _ _ _ _ hb6']; rfl
              have g4 : w6.cell? ⟨wr.heap.size, 4, none⟩ = some (.int .i64 y.lk) := by rw [cell_of_row _ _ _ _ _ _ hb6']; rfl
              have hA := below_box w6 (boxG ⟨⟨#[63]⟩, 1, y.at_, y.co, y.lk⟩)
              have HW6 := Lib.hid hw6
              have hyw := Lib.hid hw
              clear b4 hb4 hb5 hb6 hb6' hz6 hn6 hw6 hw d0 d1 d2 d3 d4
              go_upto_region 17 with fail
              rw [HW6.out]
              have HO2 := Lib.hid (own_below HOW.out hA)
              have HB2 := Lib.hid (HBW.out.trans (hA.mono HBW.out.size))
              have L3 := Lib.hid HB2.out.size
              unfold boxG at HO2 HB2 L3
              clear hA
              go_wp2_with (at_builtin; go_loud (refine wpList_append_own _ rfl _ _ 32 rfl w2.heap.size 40 i0 _ 5 48 Try.underlying32 hi0 hz0 hz1 hz2 rfl (by decide) _ _ _ rfl HO2.out ⟨w6.heap.size, 0, none⟩ 1 1 (glRow ⟨⟨#[63]⟩, 1, y.at_, y.co, y.lk⟩) rfl rfl (cells_newL _ _ _) (glRow_one ⟨⟨#[63]⟩, 1, y.at_, y.co, y.lk⟩) L1.out L2.out L3.out ?_); intro v7 w7 hown7 hg7 _; have HO7 := Lib.hid hown7; have HB7 := Lib.hid (HB2.out.grown hg7 L3.out (fun c hc => (own_base HO2.out hc).1)); clear hown7 hg7)
              have HO8 := Lib.hid (show w7.ownsRow w2.heap.size 40 5 v7 (keptK x l (k + 1)).length (rowsG (keptK x l (k + 1))) by
                rw [HK2.out, HFT.out, List.length_append, HN3.out, rowsG_snoc]; exact HO7.out)
              go_wp2_with fail
              go_roundw
              case measure => have := HLT.out; simp [intOf]; omega
              case rel => exact ⟨k + 1, by go_num, HLT.out, by rw [HT2.out], HO8, HB7⟩
          · have hwd : decide (y.wd > x) = false := decide_eq_false hw
            have HFT := Lib.hid (show fitG x y = y by unfold fitG; rw [if_neg hw])
            go_upto_region 12 with fail
            go_cut [7] from 37 to 42 (fun s7 wx => s7 = .bool (tb || it) ∧ wx = wr.alloc (.cells #[.string y.t, .int .i64 y.wd, .int .i64 y.at_, .int .i64 y.co, .int .i64 y.lk] 40))
            case first =>
              cases tb with
              | true =>
                go_wp2_with fail
                go_meet
                case rel => exact ⟨by simp, rfl⟩
              | false =>
                go_wp2_with fail
                go_meet
                case rel => exact ⟨by simp, rfl⟩
            case rest =>
              obtain ⟨rfl, rfl⟩ := hcut
              obtain ⟨tn, htn⟩ : ∃ tn, (tb || it) = tn := ⟨_, rfl⟩
              rw [htn] at HT2 ⊢
              clear htn t1
              go_wp2_with fail
              refine HSG.out.mono ?_
              rintro e w4 ⟨rfl, b4⟩
              have hb4 := (b4.block wr.heap.size (by simp)).trans HBK.out
              have HO4 := Lib.hid (own_below HO1.out b4)
              have HB4 := Lib.hid (HB1.out.trans (b4.mono HB1.out.size))
              have e0 : w4.cell? ⟨wr.heap.size, 0, none⟩ = some (.string y.t) := by rw [cell_of_row _ _ _ _ _ _ hb4]; rfl
              have e1 : w4.cell? ⟨wr.heap.size, 1, none⟩ = some (.int .i64 y.wd) := by rw [cell_of_row _ _ _ _ _ _ hb4]; rfl
              have e2 : w4.cell? ⟨wr.heap.size, 2, none⟩ = some (.int .i64 y.at_) := by rw [cell_of_row _ _ _ _ _ _ hb4]; rfl
              have e3 : w4.cell? ⟨wr.heap.size, 3, none⟩ = some (.int .i64 y.co) := by rw [cell_of_row _ _ _ _ _ _ hb4]; rfl
              have e4 : w4.cell? ⟨wr.heap.size, 4, none⟩ = some (.int .i64 y.lk) := by rw [cell_of_row _ _ _ _ _ _ hb4]; rfl
              have HOW := HO4
              have HBW := HB4
              have hA := below_box w4 (boxG y)
              have hyw := Lib.hid hw
              clear b4 hb4 hw d0 d1 d2 d3 d4
              have HO2 := Lib.hid (own_below HOW.out hA)
              have HB2 := Lib.hid (HBW.out.trans (hA.mono HBW.out.size))
              have L3 := Lib.hid HB2.out.size
              unfold boxG at HO2 HB2 L3
              clear hA
              go_wp2_with (at_builtin; go_loud (refine wpList_append_own _ rfl _ _ 32 rfl w2.heap.size 40 i0 _ 5 48 Try.underlying32 hi0 hz0 hz1 hz2 rfl (by decide) _ _ _ rfl HO2.out ⟨w4.heap.size, 0, none⟩ 1 1 (glRow y) rfl rfl (cells_newL _ _ _) (glRow_one y) L1.out L2.out L3.out ?_); intro v7 w7 hown7 hg7 _; have HO7 := Lib.hid hown7; have HB7 := Lib.hid (HB2.out.grown hg7 L3.out (fun c hc => (own_base HO2.out hc).1)); clear hown7 hg7)
              have HO8 := Lib.hid (show w7.ownsRow w2.heap.size 40 5 v7 (keptK x l (k + 1)).length (rowsG (keptK x l (k + 1))) by
                rw [HK2.out, HFT.out, List.length_append, HN3.out, rowsG_snoc]; exact HO7.out)
              go_wp2_with fail
              go_roundw
              case measure => have := HLT.out; simp [intOf]; omega
              case rel => exact ⟨k + 1, by go_num, HLT.out, by rw [HT2.out], HO8, HB7⟩
        | false =>
          have HK2 := Lib.hid (HKN.out rfl)
          clear HKS HKN
          go_upto_region 12 with fail
          go_cut [7] from 37 to 42 (fun s7 wx => s7 = .bool (tb || it) ∧ wx = wr.alloc (.cells #[.string y.t, .int .i64 y.wd, .int .i64 y.at_, .int .i64 y.co, .int .i64 y.lk] 40))
          case first =>
            cases tb with
            | true =>
              go_wp2_with fail
              go_meet
              case rel => exact ⟨by simp, rfl⟩
            | false =>
              go_wp2_with fail
              go_meet
              case rel => exact ⟨by simp, rfl⟩
          case rest =>
            obtain ⟨rfl, rfl⟩ := hcut
            obtain ⟨tn, htn⟩ : ∃ tn, (tb || it) = tn := ⟨_, rfl⟩
            rw [htn] at HT2 ⊢
            clear htn t1
            go_wp2_with fail
            refine HSG.out.mono ?_
            rintro e w4 ⟨rfl, b4⟩
            have hb4 := (b4.block wr.heap.size (by simp)).trans HBK.out
            have HO4 := Lib.hid (own_below HO1.out b4)
            have HB4 := Lib.hid (HB1.out.trans (b4.mono HB1.out.size))
            clear b4 hb4
            have HO8 := Lib.hid (show w4.ownsRow w2.heap.size 40 5 (.slice p3 N3 c3) (keptK x l (k + 1)).length (rowsG (keptK x l (k + 1))) by
              rw [HK2.out, HN3.out]; exact HO4.out)
            go_wp2_with fail
            go_roundw
            case measure => have := HLT.out; simp [intOf]; omega
            case rel => exact ⟨k + 1, by go_num, HLT.out, by rw [HT2.out], HO8, HB4⟩
      · obtain rfl : k = N := by omega
        have hzk : ¬ (k : Int) < k := by omega
        have HFK := Lib.hid (show keptK x l k = (l.filter sgn).map (fitG x) by unfold keptK; rw [List.take_of_length_le (by rw [HN.out]; exact Nat.le_refl _)])
        have HTK := Lib.hid (show tabsK l k = l.any isT by unfold tabsK; rw [List.take_of_length_le (by rw [HN.out]; exact Nat.le_refl _)])
        obtain ⟨tb, htb⟩ : ∃ tb, tabsK l k = tb := ⟨_, rfl⟩
        have HTB := Lib.hid (HTK.out.symm.trans htb)
        rw [htb]
        clear htb hlt HTK
        have HW2 := Lib.hid (show w2.heap.size ≤ wr.heap.size from HB.out.size)
        obtain ⟨W9, hW9⟩ : ∃ W9 : World, W9 = wr := ⟨_, rfl⟩
        rw [← hW9] at HO HB HW2 ⊢
        have HR9 := Lib.hid (R2.out.below HB.out)
        obtain ⟨KF, hKF⟩ : ∃ KF, keptK x l k = KF := ⟨_, rfl⟩
        rw [hKF] at HO HFK
        have HG9 := Lib.hid (show RdG (fun _ => True) W9 _ KF from (RdG.own HO.out rfl).imp fun _ _ _ => trivial)
        clear hKF HO
        have HB9 := Lib.hid (B2.out.trans (HB.out.mono B2.out.size))
        clear hW9
        go_wp2_with fail
        go_loopw [11] (fun i wr => ∃ k : Nat, i = .int .i64 k ∧ k ≤ m ∧ Hid (Below W9.heap.size W9 wr)) (fun i _ => m - (intOf i).toNat)
        case atStart => exact ⟨0, rfl, Nat.zero_le _, Lib.hid (Below.refl _ _)⟩
        case round =>
          obtain ⟨k, rfl, hk, HB⟩ := hrel
          by_cases hlt : k < m
          · have hkl : k < ls.length := by rw [HM.out]; exact hlt
            have k1 : (k : Int) < m := by omega
            have HLT := Lib.hid hlt
            obtain ⟨b, off, pz, cz, rfl, _, c0, q1, q2, hln⟩ := (HR9.out.below HB.out).at_ hkl
            have hmem : ls[k] ∈ fillM x l := by rw [HFM.out]; exact List.getElem_mem hkl
            have hok := fill_lines HE.out _ hmem
            have HNE := Lib.hid (fun (h : ∀ y ∈ l, isT y = false) => fill_noEnd HE.out h _ hmem)
            obtain ⟨r, hr⟩ : ∃ r, ls[k] = r := ⟨_, rfl⟩
            rw [hr] at c0 q1 hln hok HNE
            have hle := len_of hok
            have HSM := Lib.hid (small_of hok)
            have HLE := Lib.hid (show r.length ≤ 140737488355328 by omega)
            have huw := hok.2
            obtain ⟨u, hu⟩ : ∃ u, wid r = u := ⟨_, rfl⟩
            have HU := Lib.hid hu
            rw [hu] at huw
            have dgt : decide (u > x) = false := decide_eq_false (by omega)
            have dgt2 : decide (x < u) = false := decide_eq_false (by omega)
            have dne : (u != u) = false := by simp
            obtain ⟨n, hn⟩ : ∃ n, r.length = n := ⟨_, rfl⟩
            have HNR := Lib.hid hn
            have HLN := Lib.hid hln
            rw [hn] at c0 HLN q1
            have n62 : n ≤ 9223372036854775807 := by unfold maxLen at q2; omega
            clear hr hmem hok hle hu hn hln hlt hkl q1 q2
            by_cases hn0 : n = 0
            · subst hn0
              have d1 : decide ((0 : Nat) > (0 : Int)) = false := by simp
              have d2 : decide ((0 : Int) < ((0 : Nat) : Int)) = false := by simp
              go_upto_region 22 with fail
              have hS0 : (fun w' => w'.cell? ⟨b, off + k, none⟩ = some (.slice pz 0 cz) ∧ Below wr.heap.size wr w') wr.drew := ⟨c0, (Below.refl _ _).drew⟩
              refine wp_region_held_drew (S := (fun w' => w'.cell? ⟨b, off + k, none⟩ = some (.slice pz 0 cz) ∧ Below wr.heap.size wr w')) (by kernel_rfl) hS0 (fun hS => ?_)
              obtain ⟨wd, hwd⟩ : ∃ wd, wr.drew = wd := ⟨_, rfl⟩
              rw [hwd] at hS ⊢
              clear hwd hS0
              refine wpAnyH_take (i := 0) (v := .slice (some ⟨b, off, none⟩) m c5) rfl (by kernel_rfl) (by kernel_rfl) (by kernel_rfl) (fun _ _ _ h => h) (.inl ⟨by kernel_rfl, fun w' hS => by go_simp⟩) hS ?_
              simp only [Act.put, List.getElem_toArray, List.getElem_cons_zero, List.getElem_cons_succ, List.setIfInBounds_toArray, List.set_cons_zero, List.set_cons_succ]
              refine wpAnyH_take (i := 1) (v := .int .i64 k) rfl (by kernel_rfl) (by kernel_rfl) (by kernel_rfl) (fun _ _ _ h => h) (.inl ⟨by kernel_rfl, fun w' hS => by go_simp⟩) hS ?_
              simp only [Act.put, List.getElem_toArray, List.getElem_cons_zero, List.getElem_cons_succ, List.setIfInBounds_toArray, List.set_cons_zero, List.set_cons_succ]
              refine wpAnyH_take (i := 2) (v := .pointer (some ⟨b, off + k, none⟩)) rfl (by kernel_rfl) (by kernel_rfl) (by kernel_rfl) (fun _ _ _ h => h) (.inl ⟨by kernel_rfl, fun w' hS => by go_simp⟩) hS ?_
              simp only [Act.put, List.getElem_toArray, List.getElem_cons_zero, List.getElem_cons_succ, List.setIfInBounds_toArray, List.set_cons_zero, List.set_cons_succ]
              refine wpAnyH_take (i := 3) (v := .slice pz 0 cz) rfl (by kernel_rfl) (by kernel_rfl) (by kernel_rfl) (fun _ _ _ h => h) (.inl ⟨by kernel_rfl, fun w' hS => by have h1 := hS.1; go_simp⟩) hS ?_
              simp only [Act.put, List.getElem_toArray, List.getElem_cons_zero, List.getElem_cons_succ, List.setIfInBounds_toArray, List.set_cons_zero, List.set_cons_succ]
              refine wpAnyH_take (i := 5) (v := .int .i64 x) rfl (by kernel_rfl) (by kernel_rfl) (by kernel_rfl) (fun _ _ _ h => h) (.inl ⟨by kernel_rfl, fun w' hS => by go_simp⟩) hS ?_
              simp only [Act.put, List.getElem_toArray, List.getElem_cons_zero, List.getElem_cons_succ, List.setIfInBounds_toArray, List.set_cons_zero, List.set_cons_succ]
              refine wpAnyH_all (rs := [4]) (by kernel_rfl) (by simp) ?_
              intro i' hi'
              obtain rfl : i' = 4 := by simpa using hi'
              clear hi'
              refine op_via rfl (by kernel_rfl) (fun K hK => ?_)
              go_simp
              refine (wide_ref r _ _ (HLN.out.below hS.2) HLE.out HSM.out).mono ?_
              rw [HU.out]
              rintro e w8 ⟨rfl, rfl⟩
              refine hK _ _ ⟨hS, ?_⟩
              clear hK K
              refine wpAnyH_take (i := 6) (v := .bool false) rfl (by kernel_rfl) (by kernel_rfl) (by kernel_rfl) (fun _ _ _ h => h) (.inl ⟨by kernel_rfl, fun w' hS => by go_simp⟩) hS ?_
              simp only [Act.put, List.getElem_toArray, List.getElem_cons_zero, List.getElem_cons_succ, List.setIfInBounds_toArray, List.set_cons_zero, List.set_cons_succ]
              refine wpAnyH_take (i := 7) (v := .bool false) rfl (by kernel_rfl) (by kernel_rfl) (by kernel_rfl) (fun _ _ _ h => h) (.inl ⟨by kernel_rfl, fun w' hS => by go_simp⟩) hS ?_
              simp only [Act.put, List.getElem_toArray, List.getElem_cons_zero, List.getElem_cons_succ, List.setIfInBounds_toArray, List.set_cons_zero, List.set_cons_succ]
              refine wpAnyH_take (i := 8) (v := .slice (some ⟨b, off, none⟩) m c5) rfl (by kernel_rfl) (by kernel_rfl) (by kernel_rfl) (fun _ _ _ h => h) (.inl ⟨by kernel_rfl, fun w' hS => by go_simp⟩) hS ?_
              simp only [Act.put, List.getElem_toArray, List.getElem_cons_zero, List.getElem_cons_succ, List.setIfInBounds_toArray, List.set_cons_zero, List.set_cons_succ]
              refine wpAnyH_take (i := 9) (v := .int .i64 k) rfl (by kernel_rfl) (by kernel_rfl) (by kernel_rfl) (fun _ _ _ h => h) (.inl ⟨by kernel_rfl, fun w' hS => by go_simp⟩) hS ?_
              simp only [Act.put, List.getElem_toArray, List.getElem_cons_zero, List.getElem_cons_succ, List.setIfInBounds_toArray, List.set_cons_zero, List.set_cons_succ]
              refine wpAnyH_take (i := 10) (v := .pointer (some ⟨b, off + k, none⟩)) rfl (by kernel_rfl) (by kernel_rfl) (by kernel_rfl) (fun _ _ _ h => h) (.inl ⟨by kernel_rfl, fun w' hS => by go_simp⟩) hS ?_
              simp only [Act.put, List.getElem_toArray, List.getElem_cons_zero, List.getElem_cons_succ, List.setIfInBounds_toArray, List.set_cons_zero, List.set_cons_succ]
              refine wpAnyH_take (i := 11) (v := .slice pz 0 cz) rfl (by kernel_rfl) (by kernel_rfl) (by kernel_rfl) (fun _ _ _ h => h) (.inl ⟨by kernel_rfl, fun w' hS => by have h1 := hS.1; go_simp⟩) hS ?_
              simp only [Act.put, List.getElem_toArray, List.getElem_cons_zero, List.getElem_cons_succ, List.setIfInBounds_toArray, List.set_cons_zero, List.set_cons_succ]
              refine wpAnyH_take (i := 13) (v := .slice (some ⟨b, off, none⟩) m c5) rfl (by kernel_rfl) (by kernel_rfl) (by kernel_rfl) (fun _ _ _ h => h) (.inl ⟨by kernel_rfl, fun w' hS => by go_simp⟩) hS ?_
              simp only [Act.put, List.getElem_toArray, List.getElem_cons_zero, List.getElem_cons_succ, List.setIfInBounds_toArray, List.set_cons_zero, List.set_cons_succ]
              refine wpAnyH_take (i := 14) (v := .int .i64 k) rfl (by kernel_rfl) (by kernel_rfl) (by kernel_rfl) (fun _ _ _ h => h) (.inl ⟨by kernel_rfl, fun w' hS => by go_simp⟩) hS ?_
              simp only [Act.put, List.getElem_toArray, List.getElem_cons_zero, List.getElem_cons_succ, List.setIfInBounds_toArray, List.set_cons_zero, List.set_cons_succ]
              refine wpAnyH_take (i := 15) (v := .pointer (some ⟨b, off + k, none⟩)) rfl (by kernel_rfl) (by kernel_rfl) (by kernel_rfl) (fun _ _ _ h => h) (.inl ⟨by kernel_rfl, fun w' hS => by go_simp⟩) hS ?_
              simp only [Act.put, List.getElem_toArray, List.getElem_cons_zero, List.getElem_cons_succ, List.setIfInBounds_toArray, List.set_cons_zero, List.set_cons_succ]
              refine wpAnyH_take (i := 16) (v := .slice pz 0 cz) rfl (by kernel_rfl) (by kernel_rfl) (by kernel_rfl) (fun _ _ _ h => h) (.inl ⟨by kernel_rfl, fun w' hS => by have h1 := hS.1; go_simp⟩) hS ?_
              simp only [Act.put, List.getElem_toArray, List.getElem_cons_zero, List.getElem_cons_succ, List.setIfInBounds_toArray, List.set_cons_zero, List.set_cons_succ]
              refine wpAnyH_all (rs := [12]) (by kernel_rfl) (by simp) ?_
              intro i' hi'
              obtain rfl : i' = 12 := by simpa using hi'
              clear hi'
              refine op_via rfl (by kernel_rfl) (fun K hK => ?_)
              go_simp
              refine (wide_pro r _ _ (HLN.out.below hS.2) HLE.out HSM.out).mono ?_
              rw [HU.out]
              rintro e w9 ⟨rfl, h9⟩
              replace hS : w9.cell? ⟨b, off + k, none⟩ = some (.slice pz 0 cz) ∧ Below wr.heap.size wr w9 := ⟨(h9.cell (p := ⟨b, off + k, none⟩) (cellInL hS.1)).trans hS.1, hS.2.trans (h9.mono hS.2.size)⟩
              clear h9
              refine hK _ _ ⟨hS, ?_⟩
              clear hK K
              refine wpAnyH_all (rs := [17]) (by kernel_rfl) (by simp) ?_
              intro i' hi'
              obtain rfl : i' = 17 := by simpa using hi'
              clear hi'
              refine op_via rfl (by kernel_rfl) (fun K hK => ?_)
              go_simp
              refine (wide_ref r _ _ (HLN.out.below hS.2) HLE.out HSM.out).mono ?_
              rw [HU.out]
              rintro e w8 ⟨rfl, rfl⟩
              refine hK _ _ ⟨hS, ?_⟩
              clear hK K
              refine wpAnyH_take (i := 18) (v := .bool false) rfl (by kernel_rfl) (by kernel_rfl) (by kernel_rfl) (fun _ _ _ h => h) (.inl ⟨by kernel_rfl, fun w' hS => by go_simp⟩) hS ?_
              simp only [Act.put, List.getElem_toArray, List.getElem_cons_zero, List.getElem_cons_succ, List.setIfInBounds_toArray, List.set_cons_zero, List.set_cons_succ]
              refine wpAnyH_take (i := 19) (v := .bool false) rfl (by kernel_rfl) (by kernel_rfl) (by kernel_rfl) (fun _ _ _ h => h) (.inl ⟨by kernel_rfl, fun w' hS => by go_simp⟩) hS ?_
              simp only [Act.put, List.getElem_toArray, List.getElem_cons_zero, List.getElem_cons_succ, List.setIfInBounds_toArray, List.set_cons_zero, List.set_cons_succ]
              refine wpAnyH_take (i := 20) (v := .bool false) rfl (by kernel_rfl) (by kernel_rfl) (by kernel_rfl) (fun _ _ _ h => h) (.inl ⟨by kernel_rfl, fun w' hS => by go_simp⟩) hS ?_
              simp only [Act.put, List.getElem_toArray, List.getElem_cons_zero, List.getElem_cons_succ, List.setIfInBounds_toArray, List.set_cons_zero, List.set_cons_succ]
              refine wpAnyH_take (i := 21) (v := .int .i64 (0 : Nat)) rfl (by kernel_rfl) (by kernel_rfl) (by kernel_rfl) (fun _ _ _ h => h) (.inl ⟨by kernel_rfl, fun w' hS => by go_simp⟩) hS ?_
              simp only [Act.put, List.getElem_toArray, List.getElem_cons_zero, List.getElem_cons_succ, List.setIfInBounds_toArray, List.set_cons_zero, List.set_cons_succ]
              refine wpAnyH_take (i := 22) (v := .bool false) rfl (by kernel_rfl) (by kernel_rfl) (by kernel_rfl) (fun _ _ _ h => h) (.inl ⟨by kernel_rfl, fun w' hS => by go_simp⟩) hS ?_
              simp only [Act.put, List.getElem_toArray, List.getElem_cons_zero, List.getElem_cons_succ, List.setIfInBounds_toArray, List.set_cons_zero, List.set_cons_succ]
              refine wpAnyH_take (i := 23) (v := .bool false) rfl (by kernel_rfl) (by kernel_rfl) (by kernel_rfl) (fun _ _ _ h => h) (.inl ⟨by kernel_rfl, fun w' hS => by go_simp⟩) hS ?_
              simp only [Act.put, List.getElem_toArray, List.getElem_cons_zero, List.getElem_cons_succ, List.setIfInBounds_toArray, List.set_cons_zero, List.set_cons_succ]
              refine wpAnyH_take (i := 24) (v := undef) rfl (by kernel_rfl) (by kernel_rfl) (by kernel_rfl) (fun _ _ _ h => h) (.inr ⟨by kernel_rfl, rfl⟩) hS ?_
              simp only [Act.put, List.getElem_toArray, List.getElem_cons_zero, List.getElem_cons_succ, List.setIfInBounds_toArray, List.set_cons_zero, List.set_cons_succ]
              refine wpAnyH_take (i := 25) (v := undef) rfl (by kernel_rfl) (by kernel_rfl) (by kernel_rfl) (fun _ _ _ h => h) (.inr ⟨by kernel_rfl, rfl⟩) hS ?_
              simp only [Act.put, List.getElem_toArray, List.getElem_cons_zero, List.getElem_cons_succ, List.setIfInBounds_toArray, List.set_cons_zero, List.set_cons_succ]
              refine wpAnyH_take (i := 26) (v := .bool false) rfl (by kernel_rfl) (by kernel_rfl) (by kernel_rfl) (fun _ _ _ h => h) (.inl ⟨by kernel_rfl, fun w' hS => by go_simp⟩) hS ?_
              simp only [Act.put, List.getElem_toArray, List.getElem_cons_zero, List.getElem_cons_succ, List.setIfInBounds_toArray, List.set_cons_zero, List.set_cons_succ]
              refine wpAnyH_take (i := 27) (v := .bool false) rfl (by kernel_rfl) (by kernel_rfl) (by kernel_rfl) (fun _ _ _ h => h) (.inl ⟨by kernel_rfl, fun w' hS => by go_simp⟩) hS ?_
              simp only [Act.put, List.getElem_toArray, List.getElem_cons_zero, List.getElem_cons_succ, List.setIfInBounds_toArray, List.set_cons_zero, List.set_cons_succ]
              refine wpAnyH_take (i := 28) (v := undef) rfl (by kernel_rfl) (by kernel_rfl) (by kernel_rfl) (fun _ _ _ h => h) (.inr ⟨by kernel_rfl, rfl⟩) hS ?_
              simp only [Act.put, List.getElem_toArray, List.getElem_cons_zero, List.getElem_cons_succ, List.setIfInBounds_toArray, List.set_cons_zero, List.set_cons_succ]
              refine wpAnyH_take (i := 29) (v := undef) rfl (by kernel_rfl) (by kernel_rfl) (by kernel_rfl) (fun _ _ _ h => h) (.inr ⟨by kernel_rfl, rfl⟩) hS ?_
              simp only [Act.put, List.getElem_toArray, List.getElem_cons_zero, List.getElem_cons_succ, List.setIfInBounds_toArray, List.set_cons_zero, List.set_cons_succ]
              refine wpAnyH_take (i := 30) (v := undef) rfl (by kernel_rfl) (by kernel_rfl) (by kernel_rfl) (fun _ _ _ h => h) (.inr ⟨by kernel_rfl, rfl⟩) hS ?_
              simp only [Act.put, List.getElem_toArray, List.getElem_cons_zero, List.getElem_cons_succ, List.setIfInBounds_toArray, List.set_cons_zero, List.set_cons_succ]
              refine wpAnyH_take (i := 31) (v := undef) rfl (by kernel_rfl) (by kernel_rfl) (by kernel_rfl) (fun _ _ _ h => h) (.inr ⟨by kernel_rfl, rfl⟩) hS ?_
              simp only [Act.put, List.getElem_toArray, List.getElem_cons_zero, List.getElem_cons_succ, List.setIfInBounds_toArray, List.set_cons_zero, List.set_cons_succ]
              refine wpAnyH_take (i := 32) (v := undef) rfl (by kernel_rfl) (by kernel_rfl) (by kernel_rfl) (fun _ _ _ h => h) (.inr ⟨by kernel_rfl, rfl⟩) hS ?_
              simp only [Act.put, List.getElem_toArray, List.getElem_cons_zero, List.getElem_cons_succ, List.setIfInBounds_toArray, List.set_cons_zero, List.set_cons_succ]
              refine wpAnyH_take (i := 33) (v := undef) rfl (by kernel_rfl) (by kernel_rfl) (by kernel_rfl) (fun _ _ _ h => h) (.inr ⟨by kernel_rfl, rfl⟩) hS ?_
              simp only [Act.put, List.getElem_toArray, List.getElem_cons_zero, List.getElem_cons_succ, List.setIfInBounds_toArray, List.set_cons_zero, List.set_cons_succ]
              refine wpAnyH_take (i := 34) (v := undef) rfl (by kernel_rfl) (by kernel_rfl) (by kernel_rfl) (fun _ _ _ h => h) (.inr ⟨by kernel_rfl, rfl⟩) hS ?_
              simp only [Act.put, List.getElem_toArray, List.getElem_cons_zero, List.getElem_cons_succ, List.setIfInBounds_toArray, List.set_cons_zero, List.set_cons_succ]
              refine wpAnyH_take (i := 35) (v := undef) rfl (by kernel_rfl) (by kernel_rfl) (by kernel_rfl) (fun _ _ _ h => h) (.inr ⟨by kernel_rfl, rfl⟩) hS ?_
              simp only [Act.put, List.getElem_toArray, List.getElem_cons_zero, List.getElem_cons_succ, List.setIfInBounds_toArray, List.set_cons_zero, List.set_cons_succ]
              refine wpAnyH_take (i := 36) (v := undef) rfl (by kernel_rfl) (by kernel_rfl) (by kernel_rfl) (fun _ _ _ h => h) (.inr ⟨by kernel_rfl, rfl⟩) hS ?_
              simp only [Act.put, List.getElem_toArray, List.getElem_cons_zero, List.getElem_cons_succ, List.setIfInBounds_toArray, List.set_cons_zero, List.set_cons_succ]
              refine wpAnyH_take (i := 37) (v := undef) rfl (by kernel_rfl) (by kernel_rfl) (by kernel_rfl) (fun _ _ _ h => h) (.inr ⟨by kernel_rfl, rfl⟩) hS ?_
              simp only [Act.put, List.getElem_toArray, List.getElem_cons_zero, List.getElem_cons_succ, List.setIfInBounds_toArray, List.set_cons_zero, List.set_cons_succ]
              refine wpAnyH_take (i := 38) (v := .bool false) rfl (by kernel_rfl) (by kernel_rfl) (by kernel_rfl) (fun _ _ _ h => h) (.inl ⟨by kernel_rfl, fun w' hS => by go_simp⟩) hS ?_
              simp only [Act.put, List.getElem_toArray, List.getElem_cons_zero, List.getElem_cons_succ, List.setIfInBounds_toArray, List.set_cons_zero, List.set_cons_succ]
              refine wpAnyH_take (i := 39) (v := .bool false) rfl (by kernel_rfl) (by kernel_rfl) (by kernel_rfl) (fun _ _ _ h => h) (.inl ⟨by kernel_rfl, fun w' hS => by go_simp⟩) hS ?_
              simp only [Act.put, List.getElem_toArray, List.getElem_cons_zero, List.getElem_cons_succ, List.setIfInBounds_toArray, List.set_cons_zero, List.set_cons_succ]
              refine wpAnyH_done (by kernel_rfl) ?_ _
              have HB2 := Lib.hid (HB.out.trans (hS.2.mono HB.out.size))
              clear hS
              go_wp2_with fail
              go_roundw
              case measure => have := HLT.out; simp [intOf]; omega
              case rel => exact ⟨k + 1, by go_num, HLT.out, HB2⟩
            · have n0 : 0 < n := by omega
              have n0i : (0 : Int) < n := by omega
              have dn : decide ((n : Int) > 0) = true := decide_eq_true (by omega)
              have dn2 : decide ((0 : Int) < n) = true := decide_eq_true (by omega)
              cases tb with
              | true =>
                go_upto_region 22 with fail
                have hS0 : (fun w' => w'.cell? ⟨b, off + k, none⟩ = some (.slice pz n cz) ∧ Below wr.heap.size wr w') wr.drew := ⟨c0, (Below.refl _ _).drew⟩
                refine wp_region_held_drew (S := (fun w' => w'.cell? ⟨b, off + k, none⟩ = some (.slice pz n cz) ∧ Below wr.heap.size wr w')) (by kernel_rfl) hS0 (fun hS => ?_)
                obtain ⟨wd, hwd⟩ : ∃ wd, wr.drew = wd := ⟨_, rfl⟩
                rw [hwd] at hS ⊢
                clear hwd hS0
                refine wpAnyH_take (i := 0) (v := .slice (some ⟨b, off, none⟩) m c5) rfl (by kernel_rfl) (by kernel_rfl) (by kernel_rfl) (fun _ _ _ h => h) (.inl ⟨by kernel_rfl, fun w' hS => by go_simp⟩) hS ?_
                simp only [Act.put, List.getElem_toArray, List.getElem_cons_zero, List.getElem_cons_succ, List.setIfInBounds_toArray, List.set_cons_zero, List.set_cons_succ]
                refine wpAnyH_take (i := 1) (v := .int .i64 k) rfl (by kernel_rfl) (by kernel_rfl) (by kernel_rfl) (fun _ _ _ h => h) (.inl ⟨by kernel_rfl, fun w' hS => by go_simp⟩) hS ?_
                simp only [Act.put, List.getElem_toArray, List.getElem_cons_zero, List.getElem_cons_succ, List.setIfInBounds_toArray, List.set_cons_zero, List.set_cons_succ]
                refine wpAnyH_take (i := 2) (v := .pointer (some ⟨b, off + k, none⟩)) rfl (by kernel_rfl) (by kernel_rfl) (by kernel_rfl) (fun _ _ _ h => h) (.inl ⟨by kernel_rfl, fun w' hS => by go_simp⟩) hS ?_
                simp only [Act.put, List.getElem_toArray, List.getElem_cons_zero, List.getElem_cons_succ, List.setIfInBounds_toArray, List.set_cons_zero, List.set_cons_succ]
                refine wpAnyH_take (i := 3) (v := .slice pz n cz) rfl (by kernel_rfl) (by kernel_rfl) (by kernel_rfl) (fun _ _ _ h => h) (.inl ⟨by kernel_rfl, fun w' hS => by have h1 := hS.1; go_simp⟩) hS ?_
                simp only [Act.put, List.getElem_toArray, List.getElem_cons_zero, List.getElem_cons_succ, List.setIfInBounds_toArray, List.set_cons_zero, List.set_cons_succ]
                refine wpAnyH_take (i := 5) (v := .int .i64 x) rfl (by kernel_rfl) (by kernel_rfl) (by kernel_rfl) (fun _ _ _ h => h) (.inl ⟨by kernel_rfl, fun w' hS => by go_simp⟩) hS ?_
                simp only [Act.put, List.getElem_toArray, List.getElem_cons_zero, List.getElem_cons_succ, List.setIfInBounds_toArray, List.set_cons_zero, List.set_cons_succ]
                refine wpAnyH_all (rs := [4]) (by kernel_rfl) (by simp) ?_
                intro i' hi'
                obtain rfl : i' = 4 := by simpa using hi'
                clear hi'
                refine op_via rfl (by kernel_rfl) (fun K hK => ?_)
                go_simp
                refine (wide_ref r _ _ (HLN.out.below hS.2) HLE.out HSM.out).mono ?_
                rw [HU.out]
                rintro e w8 ⟨rfl, rfl⟩
                refine hK _ _ ⟨hS, ?_⟩
                clear hK K
                refine wpAnyH_take (i := 6) (v := .bool false) rfl (by kernel_rfl) (by kernel_rfl) (by kernel_rfl) (fun _ _ _ h => h) (.inl ⟨by kernel_rfl, fun w' hS => by go_simp⟩) hS ?_
                simp only [Act.put, List.getElem_toArray, List.getElem_cons_zero, List.getElem_cons_succ, List.setIfInBounds_toArray, List.set_cons_zero, List.set_cons_succ]
                refine wpAnyH_take (i := 7) (v := .bool false) rfl (by kernel_rfl) (by kernel_rfl) (by kernel_rfl) (fun _ _ _ h => h) (.inl ⟨by kernel_rfl, fun w' hS => by go_simp⟩) hS ?_
                simp only [Act.put, List.getElem_toArray, List.getElem_cons_zero, List.getElem_cons_succ, List.setIfInBounds_toArray, List.set_cons_zero, List.set_cons_succ]
                refine wpAnyH_take (i := 8) (v := .slice (some ⟨b, off, none⟩) m c5) rfl (by kernel_rfl) (by kernel_rfl) (by kernel_rfl) (fun _ _ _ h => h) (.inl ⟨by kernel_rfl, fun w' hS => by go_simp⟩) hS ?_
                simp only [Act.put, List.getElem_toArray, List.getElem_cons_zero, List.getElem_cons_succ, List.setIfInBounds_toArray, List.set_cons_zero, List.set_cons_succ]
                refine wpAnyH_take (i := 9) (v := .int .i64 k) rfl (by kernel_rfl) (by kernel_rfl) (by kernel_rfl) (fun _ _ _ h => h) (.inl ⟨by kernel_rfl, fun w' hS => by go_simp⟩) hS ?_
                simp only [Act.put, List.getElem_toArray, List.getElem_cons_zero, List.getElem_cons_succ, List.setIfInBounds_toArray, List.set_cons_zero, List.set_cons_succ]
                refine wpAnyH_take (i := 10) (v := .pointer (some ⟨b, off + k, none⟩)) rfl (by kernel_rfl) (by kernel_rfl) (by kernel_rfl) (fun _ _ _ h => h) (.inl ⟨by kernel_rfl, fun w' hS => by go_simp⟩) hS ?_
                simp only [Act.put, List.getElem_toArray, List.getElem_cons_zero, List.getElem_cons_succ, List.setIfInBounds_toArray, List.set_cons_zero, List.set_cons_succ]
                refine wpAnyH_take (i := 11) (v := .slice pz n cz) rfl (by kernel_rfl) (by kernel_rfl) (by kernel_rfl) (fun _ _ _ h => h) (.inl ⟨by kernel_rfl, fun w' hS => by have h1 := hS.1; go_simp⟩) hS ?_
                simp only [Act.put, List.getElem_toArray, List.getElem_cons_zero, List.getElem_cons_succ, List.setIfInBounds_toArray, List.set_cons_zero, List.set_cons_succ]
                refine wpAnyH_take (i := 13) (v := .slice (some ⟨b, off, none⟩) m c5) rfl (by kernel_rfl) (by kernel_rfl) (by kernel_rfl) (fun _ _ _ h => h) (.inl ⟨by kernel_rfl, fun w' hS => by go_simp⟩) hS ?_
                simp only [Act.put, List.getElem_toArray, List.getElem_cons_zero, List.getElem_cons_succ, List.setIfInBounds_toArray, List.set_cons_zero, List.set_cons_succ]
                refine wpAnyH_take (i := 14) (v := .int .i64 k) rfl (by kernel_rfl) (by kernel_rfl) (by kernel_rfl) (fun _ _ _ h => h) (.inl ⟨by kernel_rfl, fun w' hS => by go_simp⟩) hS ?_
                simp only [Act.put, List.getElem_toArray, List.getElem_cons_zero, List.getElem_cons_succ, List.setIfInBounds_toArray, List.set_cons_zero, List.set_cons_succ]
                refine wpAnyH_take (i := 15) (v := .pointer (some ⟨b, off + k, none⟩)) rfl (by kernel_rfl) (by kernel_rfl) (by kernel_rfl) (fun _ _ _ h => h) (.inl ⟨by kernel_rfl, fun w' hS => by go_simp⟩) hS ?_
                simp only [Act.put, List.getElem_toArray, List.getElem_cons_zero, List.getElem_cons_succ, List.setIfInBounds_toArray, List.set_cons_zero, List.set_cons_succ]
                refine wpAnyH_take (i := 16) (v := .slice pz n cz) rfl (by kernel_rfl) (by kernel_rfl) (by kernel_rfl) (fun _ _ _ h => h) (.inl ⟨by kernel_rfl, fun w' hS => by have h1 := hS.1; go_simp⟩) hS ?_
                simp only [Act.put, List.getElem_toArray, List.getElem_cons_zero, List.getElem_cons_succ, List.setIfInBounds_toArray, List.set_cons_zero, List.set_cons_succ]
                refine wpAnyH_all (rs := [12]) (by kernel_rfl) (by simp) ?_
                intro i' hi'
                obtain rfl : i' = 12 := by simpa using hi'
                clear hi'
                refine op_via rfl (by kernel_rfl) (fun K hK => ?_)
                go_simp
                refine (wide_pro r _ _ (HLN.out.below hS.2) HLE.out HSM.out).mono ?_
                rw [HU.out]
                rintro e w9 ⟨rfl, h9⟩
                replace hS : w9.cell? ⟨b, off + k, none⟩ = some (.slice pz n cz) ∧ Below wr.heap.size wr w9 := ⟨(h9.cell (p := ⟨b, off + k, none⟩) (cellInL hS.1)).trans hS.1, hS.2.trans (h9.mono hS.2.size)⟩
                clear h9
                refine hK _ _ ⟨hS, ?_⟩
                clear hK K
                refine wpAnyH_all (rs := [17]) (by kernel_rfl) (by simp) ?_
                intro i' hi'
                obtain rfl : i' = 17 := by simpa using hi'
                clear hi'
                refine op_via rfl (by kernel_rfl) (fun K hK => ?_)
                go_simp
                refine (wide_ref r _ _ (HLN.out.below hS.2) HLE.out HSM.out).mono ?_
                rw [HU.out]
                rintro e w8 ⟨rfl, rfl⟩
                refine hK _ _ ⟨hS, ?_⟩
                clear hK K
                refine wpAnyH_take (i := 18) (v := .bool false) rfl (by kernel_rfl) (by kernel_rfl) (by kernel_rfl) (fun _ _ _ h => h) (.inl ⟨by kernel_rfl, fun w' hS => by go_simp⟩) hS ?_
                simp only [Act.put, List.getElem_toArray, List.getElem_cons_zero, List.getElem_cons_succ, List.setIfInBounds_toArray, List.set_cons_zero, List.set_cons_succ]
                refine wpAnyH_take (i := 19) (v := .bool false) rfl (by kernel_rfl) (by kernel_rfl) (by kernel_rfl) (fun _ _ _ h => h) (.inl ⟨by kernel_rfl, fun w' hS => by go_simp⟩) hS ?_
                simp only [Act.put, List.getElem_toArray, List.getElem_cons_zero, List.getElem_cons_succ, List.setIfInBounds_toArray, List.set_cons_zero, List.set_cons_succ]
                refine wpAnyH_take (i := 20) (v := .bool false) rfl (by kernel_rfl) (by kernel_rfl) (by kernel_rfl) (fun _ _ _ h => h) (.inl ⟨by kernel_rfl, fun w' hS => by go_simp⟩) hS ?_
                simp only [Act.put, List.getElem_toArray, List.getElem_cons_zero, List.getElem_cons_succ, List.setIfInBounds_toArray, List.set_cons_zero, List.set_cons_succ]
                refine wpAnyH_take (i := 21) (v := .int .i64 n) rfl (by kernel_rfl) (by kernel_rfl) (by kernel_rfl) (fun _ _ _ h => h) (.inl ⟨by kernel_rfl, fun w' hS => by go_simp⟩) hS ?_
                simp only [Act.put, List.getElem_toArray, List.getElem_cons_zero, List.getElem_cons_succ, List.setIfInBounds_toArray, List.set_cons_zero, List.set_cons_succ]
                refine wpAnyH_take (i := 22) (v := .bool true) rfl (by kernel_rfl) (by kernel_rfl) (by kernel_rfl) (fun _ _ _ h => h) (.inl ⟨by kernel_rfl, fun w' hS => by go_simp⟩) hS ?_
                simp only [Act.put, List.getElem_toArray, List.getElem_cons_zero, List.getElem_cons_succ, List.setIfInBounds_toArray, List.set_cons_zero, List.set_cons_succ]
                refine wpAnyH_take (i := 23) (v := .bool true) rfl (by kernel_rfl) (by kernel_rfl) (by kernel_rfl) (fun _ _ _ h => h) (.inl ⟨by kernel_rfl, fun w' hS => by go_simp⟩) hS ?_
                simp only [Act.put, List.getElem_toArray, List.getElem_cons_zero, List.getElem_cons_succ, List.setIfInBounds_toArray, List.set_cons_zero, List.set_cons_succ]
                refine wpAnyH_take (i := 24) (v := .bool true) rfl (by kernel_rfl) (by kernel_rfl) (by kernel_rfl) (fun _ _ _ h => h) (.inl ⟨by kernel_rfl, fun w' hS => by go_simp⟩) hS ?_
                simp only [Act.put, List.getElem_toArray, List.getElem_cons_zero, List.getElem_cons_succ, List.setIfInBounds_toArray, List.set_cons_zero, List.set_cons_succ]
                refine wpAnyH_take (i := 25) (v := .bool false) rfl (by kernel_rfl) (by kernel_rfl) (by kernel_rfl) (fun _ _ _ h => h) (.inl ⟨by kernel_rfl, fun w' hS => by go_simp⟩) hS ?_
                simp only [Act.put, List.getElem_toArray, List.getElem_cons_zero, List.getElem_cons_succ, List.setIfInBounds_toArray, List.set_cons_zero, List.set_cons_succ]
                refine wpAnyH_take (i := 26) (v := .bool false) rfl (by kernel_rfl) (by kernel_rfl) (by kernel_rfl) (fun _ _ _ h => h) (.inl ⟨by kernel_rfl, fun w' hS => by go_simp⟩) hS ?_
                simp only [Act.put, List.getElem_toArray, List.getElem_cons_zero, List.getElem_cons_succ, List.setIfInBounds_toArray, List.set_cons_zero, List.set_cons_succ]
                refine wpAnyH_take (i := 27) (v := .bool false) rfl (by kernel_rfl) (by kernel_rfl) (by kernel_rfl) (fun _ _ _ h => h) (.inl ⟨by kernel_rfl, fun w' hS => by go_simp⟩) hS ?_
                simp only [Act.put, List.getElem_toArray, List.getElem_cons_zero, List.getElem_cons_succ, List.setIfInBounds_toArray, List.set_cons_zero, List.set_cons_succ]
                refine wpAnyH_take (i := 28) (v := undef) rfl (by kernel_rfl) (by kernel_rfl) (by kernel_rfl) (fun _ _ _ h => h) (.inr ⟨by kernel_rfl, rfl⟩) hS ?_
                simp only [Act.put, List.getElem_toArray, List.getElem_cons_zero, List.getElem_cons_succ, List.setIfInBounds_toArray, List.set_cons_zero, List.set_cons_succ]
                refine wpAnyH_take (i := 29) (v := undef) rfl (by kernel_rfl) (by kernel_rfl) (by kernel_rfl) (fun _ _ _ h => h) (.inr ⟨by kernel_rfl, rfl⟩) hS ?_
                simp only [Act.put, List.getElem_toArray, List.getElem_cons_zero, List.getElem_cons_succ, List.setIfInBounds_toArray, List.set_cons_zero, List.set_cons_succ]
                refine wpAnyH_take (i := 30) (v := undef) rfl (by kernel_rfl) (by kernel_rfl) (by kernel_rfl) (fun _ _ _ h => h) (.inr ⟨by kernel_rfl, rfl⟩) hS ?_
                simp only [Act.put, List.getElem_toArray, List.getElem_cons_zero, List.getElem_cons_succ, List.setIfInBounds_toArray, List.set_cons_zero, List.set_cons_succ]
                refine wpAnyH_take (i := 31) (v := undef) rfl (by kernel_rfl) (by kernel_rfl) (by kernel_rfl) (fun _ _ _ h => h) (.inr ⟨by kernel_rfl, rfl⟩) hS ?_
                simp only [Act.put, List.getElem_toArray, List.getElem_cons_zero, List.getElem_cons_succ, List.setIfInBounds_toArray, List.set_cons_zero, List.set_cons_succ]
                refine wpAnyH_take (i := 32) (v := undef) rfl (by kernel_rfl) (by kernel_rfl) (by kernel_rfl) (fun _ _ _ h => h) (.inr ⟨by kernel_rfl, rfl⟩) hS ?_
                simp only [Act.put, List.getElem_toArray, List.getElem_cons_zero, List.getElem_cons_succ, List.setIfInBounds_toArray, List.set_cons_zero, List.set_cons_succ]
                refine wpAnyH_take (i := 33) (v := undef) rfl (by kernel_rfl) (by kernel_rfl) (by kernel_rfl) (fun _ _ _ h => h) (.inr ⟨by kernel_rfl, rfl⟩) hS ?_
                simp only [Act.put, List.getElem_toArray, List.getElem_cons_zero, List.getElem_cons_succ, List.setIfInBounds_toArray, List.set_cons_zero, List.set_cons_succ]
                refine wpAnyH_take (i := 34) (v := undef) rfl (by kernel_rfl) (by kernel_rfl) (by kernel_rfl) (fun _ _ _ h => h) (.inr ⟨by kernel_rfl, rfl⟩) hS ?_
                simp only [Act.put, List.getElem_toArray, List.getElem_cons_zero, List.getElem_cons_succ, List.setIfInBounds_toArray, List.set_cons_zero, List.set_cons_succ]
                refine wpAnyH_take (i := 35) (v := undef) rfl (by kernel_rfl) (by kernel_rfl) (by kernel_rfl) (fun _ _ _ h => h) (.inr ⟨by kernel_rfl, rfl⟩) hS ?_
                simp only [Act.put, List.getElem_toArray, List.getElem_cons_zero, List.getElem_cons_succ, List.setIfInBounds_toArray, List.set_cons_zero, List.set_cons_succ]
                refine wpAnyH_take (i := 36) (v := undef) rfl (by kernel_rfl) (by kernel_rfl) (by kernel_rfl) (fun _ _ _ h => h) (.inr ⟨by kernel_rfl, rfl⟩) hS ?_
                simp only [Act.put, List.getElem_toArray, List.getElem_cons_zero, List.getElem_cons_succ, List.setIfInBounds_toArray, List.set_cons_zero, List.set_cons_succ]
                refine wpAnyH_take (i := 37) (v := undef) rfl (by kernel_rfl) (by kernel_rfl) (by kernel_rfl) (fun _ _ _ h => h) (.inr ⟨by kernel_rfl, rfl⟩) hS ?_
                simp only [Act.put, List.getElem_toArray, List.getElem_cons_zero, List.getElem_cons_succ, List.setIfInBounds_toArray, List.set_cons_zero, List.set_cons_succ]
                refine wpAnyH_take (i := 38) (v := .bool false) rfl (by kernel_rfl) (by kernel_rfl) (by kernel_rfl) (fun _ _ _ h => h) (.inl ⟨by kernel_rfl, fun w' hS => by go_simp⟩) hS ?_
                simp only [Act.put, List.getElem_toArray, List.getElem_cons_zero, List.getElem_cons_succ, List.setIfInBounds_toArray, List.set_cons_zero, List.set_cons_succ]
                refine wpAnyH_take (i := 39) (v := .bool false) rfl (by kernel_rfl) (by kernel_rfl) (by kernel_rfl) (fun _ _ _ h => h) (.inl ⟨by kernel_rfl, fun w' hS => by go_simp⟩) hS ?_
                simp only [Act.put, List.getElem_toArray, List.getElem_cons_zero, List.getElem_cons_succ, List.setIfInBounds_toArray, List.set_cons_zero, List.set_cons_succ]
                refine wpAnyH_done (by kernel_rfl) ?_ _
                have HB2 := Lib.hid (HB.out.trans (hS.2.mono HB.out.size))
                clear hS
                go_wp2_with fail
                go_roundw
                case measure => have := HLT.out; simp [intOf]; omega
                case rel => exact ⟨k + 1, by go_num, HLT.out, HB2⟩
              | false =>
                obtain ⟨n1, hnn⟩ : ∃ n1, n = n1 + 1 := ⟨n - 1, by omega⟩
                have hn1 : n1 < r.length := by rw [HNR.out]; omega
                obtain ⟨b3, o3, rfl, _, d0, y1, y2, y3, y4⟩ := HLN.out.at_ hn1
                have hnb := HNE.out (fun y hy => by
                  have h := HTB.out
                  cases e : isT y with
                  | false => rfl
                  | true => rw [List.any_eq_true.2 ⟨y, hy, e⟩] at h; cases h) r[n1] (by rw [List.getLast?_eq_getElem?, HNR.out, hnn]; simp [hn1])
                obtain ⟨y, hy⟩ : ∃ y, r[n1] = y := ⟨_, rfl⟩
                rw [hy] at d0 hnb
                have hbt : (y.t.toList == [32]) = false := hnb
                have w1 : IntKind.i64.wrap ((n : Int) - 1) = (n1 : Int) := by rw [IntWalk.i64_in _ (by omega)]; omega
                have w4 : wrap64 ((n : Int) - 1) = (n1 : Int) := by rw [IntWalk.wrap64_in _ (by omega)]; omega
                have n3 : (n1 : Int) < (n : Int) := by omega
                have n4 : n1 < n := by omega
                have W1 := Lib.hid w1
                have W4 := Lib.hid w4
                have W5 := Lib.hid n3
                have W6 := Lib.hid n4
                have W7 := Lib.hid hbt
                have W8 := Lib.hid d0
                clear w1 w4 n3 n4 hbt d0
                clear y1 y2 y3 y4
                clear hn1 hnb hy hnn
                go_upto_region 22 with fail
                have hS0 : (fun w' => w'.cell? ⟨b, off + k, none⟩ = some (.slice (some ⟨b3, o3, none⟩) n cz) ∧ Below wr.heap.size wr w') wr.drew := ⟨c0, (Below.refl _ _).drew⟩
                refine wp_region_held_drew (S := (fun w' => w'.cell? ⟨b, off + k, none⟩ = some (.slice (some ⟨b3, o3, none⟩) n cz) ∧ Below wr.heap.size wr w')) (by kernel_rfl) hS0 (fun hS => ?_)
                obtain ⟨wd, hwd⟩ : ∃ wd, wr.drew = wd := ⟨_, rfl⟩
                rw [hwd] at hS ⊢
                clear hwd hS0
                refine wpAnyH_take (i := 0) (v := .slice (some ⟨b, off, none⟩) m c5) rfl (by kernel_rfl) (by kernel_rfl) (by kernel_rfl) (fun _ _ _ h => h) (.inl ⟨by kernel_rfl, fun w' hS => by go_simp⟩) hS ?_
                simp only [Act.put, List.getElem_toArray, List.getElem_cons_zero, List.getElem_cons_succ, List.setIfInBounds_toArray, List.set_cons_zero, List.set_cons_succ]
                refine wpAnyH_take (i := 1) (v := .int .i64 k) rfl (by kernel_rfl) (by kernel_rfl) (by kernel_rfl) (fun _ _ _ h => h) (.inl ⟨by kernel_rfl, fun w' hS => by go_simp⟩) hS ?_
                simp only [Act.put, List.getElem_toArray, List.getElem_cons_zero, List.getElem_cons_succ, List.setIfInBounds_toArray, List.set_cons_zero, List.set_cons_succ]
                refine wpAnyH_take (i := 2) (v := .pointer (some ⟨b, off + k, none⟩)) rfl (by kernel_rfl) (by kernel_rfl) (by kernel_rfl) (fun _ _ _ h => h) (.inl ⟨by kernel_rfl, fun w' hS => by go_simp⟩) hS ?_
                simp only [Act.put, List.getElem_toArray, List.getElem_cons_zero, List.getElem_cons_succ, List.setIfInBounds_toArray, List.set_cons_zero, List.set_cons_succ]
                refine wpAnyH_take (i := 3) (v := .slice (some ⟨b3, o3, none⟩) n cz) rfl (by kernel_rfl) (by kernel_rfl) (by kernel_rfl) (fun _ _ _ h => h) (.inl ⟨by kernel_rfl, fun w' hS => by have h1 := hS.1; go_simp⟩) hS ?_
                simp only [Act.put, List.getElem_toArray, List.getElem_cons_zero, List.getElem_cons_succ, List.setIfInBounds_toArray, List.set_cons_zero, List.set_cons_succ]
                refine wpAnyH_take (i := 5) (v := .int .i64 x) rfl (by kernel_rfl) (by kernel_rfl) (by kernel_rfl) (fun _ _ _ h => h) (.inl ⟨by kernel_rfl, fun w' hS => by go_simp⟩) hS ?_
                simp only [Act.put, List.getElem_toArray, List.getElem_cons_zero, List.getElem_cons_succ, List.setIfInBounds_toArray, List.set_cons_zero, List.set_cons_succ]
                refine wpAnyH_all (rs := [4]) (by kernel_rfl) (by simp) ?_
                intro i' hi'
                obtain rfl : i' = 4 := by simpa using hi'
                clear hi'
                refine op_via rfl (by kernel_rfl) (fun K hK => ?_)
                go_simp
                refine (wide_ref r _ _ (HLN.out.below hS.2) HLE.out HSM.out).mono ?_
                rw [HU.out]
                rintro e w8 ⟨rfl, rfl⟩
                refine hK _ _ ⟨hS, ?_⟩
                clear hK K
                refine wpAnyH_take (i := 6) (v := .bool false) rfl (by kernel_rfl) (by kernel_rfl) (by kernel_rfl) (fun _ _ _ h => h) (.inl ⟨by kernel_rfl, fun w' hS => by go_simp⟩) hS ?_
                simp only [Act.put, List.getElem_toArray, List.getElem_cons_zero, List.getElem_cons_succ, List.setIfInBounds_toArray, List.set_cons_zero, List.set_cons_succ]
                refine wpAnyH_take (i := 7) (v := .bool false) rfl (by kernel_rfl) (by kernel_rfl) (by kernel_rfl) (fun _ _ _ h => h) (.inl ⟨by kernel_rfl, fun w' hS => by go_simp⟩) hS ?_
                simp only [Act.put, List.getElem_toArray, List.getElem_cons_zero, List.getElem_cons_succ, List.setIfInBounds_toArray, List.set_cons_zero, List.set_cons_succ]
                refine wpAnyH_take (i := 8) (v := .slice (some ⟨b, off, none⟩) m c5) rfl (by kernel_rfl) (by kernel_rfl) (by kernel_rfl) (fun _ _ _ h => h) (.inl ⟨by kernel_rfl, fun w' hS => by go_simp⟩) hS ?_
                simp only [Act.put, List.getElem_toArray, List.getElem_cons_zero, List.getElem_cons_succ, List.setIfInBounds_toArray, List.set_cons_zero, List.set_cons_succ]
                refine wpAnyH_take (i := 9) (v := .int .i64 k) rfl (by kernel_rfl) (by kernel_rfl) (by kernel_rfl) (fun _ _ _ h => h) (.inl ⟨by kernel_rfl, fun w' hS => by go_simp⟩) hS ?_
                simp only [Act.put, List.getElem_toArray, List.getElem_cons_zero, List.getElem_cons_succ, List.setIfInBounds_toArray, List.set_cons_zero, List.set_cons_succ]
                refine wpAnyH_take (i := 10) (v := .pointer (some ⟨b, off + k, none⟩)) rfl (by kernel_rfl) (by kernel_rfl) (by kernel_rfl) (fun _ _ _ h => h) (.inl ⟨by kernel_rfl, fun w' hS => by go_simp⟩) hS ?_
                simp only [Act.put, List.getElem_toArray, List.getElem_cons_zero, List.getElem_cons_succ, List.setIfInBounds_toArray, List.set_cons_zero, List.set_cons_succ]
                refine wpAnyH_take (i := 11) (v := .slice (some ⟨b3, o3, none⟩) n cz) rfl (by kernel_rfl) (by kernel_rfl) (by kernel_rfl) (fun _ _ _ h => h) (.inl ⟨by kernel_rfl, fun w' hS => by have h1 := hS.1; go_simp⟩) hS ?_
                simp only [Act.put, List.getElem_toArray, List.getElem_cons_zero, List.getElem_cons_succ, List.setIfInBounds_toArray, List.set_cons_zero, List.set_cons_succ]
                refine wpAnyH_take (i := 13) (v := .slice (some ⟨b, off, none⟩) m c5) rfl (by kernel_rfl) (by kernel_rfl) (by kernel_rfl) (fun _ _ _ h => h) (.inl ⟨by kernel_rfl, fun w' hS => by go_simp⟩) hS ?_
                simp only [Act.put, List.getElem_toArray, List.getElem_cons_zero, List.getElem_cons_succ, List.setIfInBounds_toArray, List.set_cons_zero, List.set_cons_succ]
                refine wpAnyH_take (i := 14) (v := .int .i64 k) rfl (by kernel_rfl) (by kernel_rfl) (by kernel_rfl) (fun _ _ _ h => h) (.inl ⟨by kernel_rfl, fun w' hS => by go_simp⟩) hS ?_
                simp only [Act.put, List.getElem_toArray, List.getElem_cons_zero, List.getElem_cons_succ, List.setIfInBounds_toArray, List.set_cons_zero, List.set_cons_succ]
                refine wpAnyH_take (i := 15) (v := .pointer (some ⟨b, off + k, none⟩)) rfl (by kernel_rfl) (by kernel_rfl) (by kernel_rfl) (fun _ _ _ h => h) (.inl ⟨by kernel_rfl, fun w' hS => by go_simp⟩) hS ?_
                simp only [Act.put, List.getElem_toArray, List.getElem_cons_zero, List.getElem_cons_succ, List.setIfInBounds_toArray, List.set_cons_zero, List.set_cons_succ]
                refine wpAnyH_take (i := 16) (v := .slice (some ⟨b3, o3, none⟩) n cz) rfl (by kernel_rfl) (by kernel_rfl) (by kernel_rfl) (fun _ _ _ h => h) (.inl ⟨by kernel_rfl, fun w' hS => by have h1 := hS.1; go_simp⟩) hS ?_
                simp only [Act.put, List.getElem_toArray, List.getElem_cons_zero, List.getElem_cons_succ, List.setIfInBounds_toArray, List.set_cons_zero, List.set_cons_succ]
                refine wpAnyH_all (rs := [12]) (by kernel_rfl) (by simp) ?_
                intro i' hi'
                obtain rfl : i' = 12 := by simpa using hi'
                clear hi'
                refine op_via rfl (by kernel_rfl) (fun K hK => ?_)
                go_simp
                refine (wide_pro r _ _ (HLN.out.below hS.2) HLE.out HSM.out).mono ?_
                rw [HU.out]
                rintro e w9 ⟨rfl, h9⟩
                replace hS : w9.cell? ⟨b, off + k, none⟩ = some (.slice (some ⟨b3, o3, none⟩) n cz) ∧ Below wr.heap.size wr w9 := ⟨(h9.cell (p := ⟨b, off + k, none⟩) (cellInL hS.1)).trans hS.1, hS.2.trans (h9.mono hS.2.size)⟩
                clear h9
                refine hK _ _ ⟨hS, ?_⟩
                clear hK K
                refine wpAnyH_all (rs := [17]) (by kernel_rfl) (by simp) ?_
                intro i' hi'
                obtain rfl : i' = 17 := by simpa using hi'
                clear hi'
                refine op_via rfl (by kernel_rfl) (fun K hK => ?_)
                go_simp
                refine (wide_ref r _ _ (HLN.out.below hS.2) HLE.out HSM.out).mono ?_
                rw [HU.out]
                rintro e w8 ⟨rfl, rfl⟩
                refine hK _ _ ⟨hS, ?_⟩
                clear hK K
                refine wpAnyH_take (i := 18) (v := .bool false) rfl (by kernel_rfl) (by kernel_rfl) (by kernel_rfl) (fun _ _ _ h => h) (.inl ⟨by kernel_rfl, fun w' hS => by go_simp⟩) hS ?_
                simp only [Act.put, List.getElem_toArray, List.getElem_cons_zero, List.getElem_cons_succ, List.setIfInBounds_toArray, List.set_cons_zero, List.set_cons_succ]
                refine wpAnyH_take (i := 19) (v := .bool false) rfl (by kernel_rfl) (by kernel_rfl) (by kernel_rfl) (fun _ _ _ h => h) (.inl ⟨by kernel_rfl, fun w' hS => by go_simp⟩) hS ?_
                simp only [Act.put, List.getElem_toArray, List.getElem_cons_zero, List.getElem_cons_succ, List.setIfInBounds_toArray, List.set_cons_zero, List.set_cons_succ]
                refine wpAnyH_take (i := 20) (v := .bool false) rfl (by kernel_rfl) (by kernel_rfl) (by kernel_rfl) (fun _ _ _ h => h) (.inl ⟨by kernel_rfl, fun w' hS => by go_simp⟩) hS ?_
                simp only [Act.put, List.getElem_toArray, List.getElem_cons_zero, List.getElem_cons_succ, List.setIfInBounds_toArray, List.set_cons_zero, List.set_cons_succ]
                refine wpAnyH_take (i := 21) (v := .int .i64 n) rfl (by kernel_rfl) (by kernel_rfl) (by kernel_rfl) (fun _ _ _ h => h) (.inl ⟨by kernel_rfl, fun w' hS => by go_simp⟩) hS ?_
                simp only [Act.put, List.getElem_toArray, List.getElem_cons_zero, List.getElem_cons_succ, List.setIfInBounds_toArray, List.set_cons_zero, List.set_cons_succ]
                refine wpAnyH_take (i := 22) (v := .bool true) rfl (by kernel_rfl) (by kernel_rfl) (by kernel_rfl) (fun _ _ _ h => h) (.inl ⟨by kernel_rfl, fun w' hS => by go_simp⟩) hS ?_
                simp only [Act.put, List.getElem_toArray, List.getElem_cons_zero, List.getElem_cons_succ, List.setIfInBounds_toArray, List.set_cons_zero, List.set_cons_succ]
                refine wpAnyH_take (i := 23) (v := .bool true) rfl (by kernel_rfl) (by kernel_rfl) (by kernel_rfl) (fun _ _ _ h => h) (.inl ⟨by kernel_rfl, fun w' hS => by go_simp⟩) hS ?_
                simp only [Act.put, List.getElem_toArray, List.getElem_cons_zero, List.getElem_cons_succ, List.setIfInBounds_toArray, List.set_cons_zero, List.set_cons_succ]
                refine wpAnyH_take (i := 24) (v := .bool false) rfl (by kernel_rfl) (by kernel_rfl) (by kernel_rfl) (fun _ _ _ h => h) (.inl ⟨by kernel_rfl, fun w' hS => by go_simp⟩) hS ?_
                simp only [Act.put, List.getElem_toArray, List.getElem_cons_zero, List.getElem_cons_succ, List.setIfInBounds_toArray, List.set_cons_zero, List.set_cons_succ]
                refine wpAnyH_take (i := 25) (v := .bool true) rfl (by kernel_rfl) (by kernel_rfl) (by kernel_rfl) (fun _ _ _ h => h) (.inl ⟨by kernel_rfl, fun w' hS => by go_simp⟩) hS ?_
                simp only [Act.put, List.getElem_toArray, List.getElem_cons_zero, List.getElem_cons_succ, List.setIfInBounds_toArray, List.set_cons_zero, List.set_cons_succ]
                refine wpAnyH_take (i := 26) (v := .bool true) rfl (by kernel_rfl) (by kernel_rfl) (by kernel_rfl) (fun _ _ _ h => h) (.inl ⟨by kernel_rfl, fun w' hS => by go_simp⟩) hS ?_
                simp only [Act.put, List.getElem_toArray, List.getElem_cons_zero, List.getElem_cons_succ, List.setIfInBounds_toArray, List.set_cons_zero, List.set_cons_succ]
                refine wpAnyH_take (i := 27) (v := .bool true) rfl (by kernel_rfl) (by kernel_rfl) (by kernel_rfl) (fun _ _ _ h => h) (.inl ⟨by kernel_rfl, fun w' hS => by go_simp⟩) hS ?_
                simp only [Act.put, List.getElem_toArray, List.getElem_cons_zero, List.getElem_cons_succ, List.setIfInBounds_toArray, List.set_cons_zero, List.set_cons_succ]
                refine wpAnyH_take (i := 28) (v := .slice (some ⟨b, off, none⟩) m c5) rfl (by kernel_rfl) (by kernel_rfl) (by kernel_rfl) (fun _ _ _ h => h) (.inl ⟨by kernel_rfl, fun w' hS => by go_simp⟩) hS ?_
                simp only [Act.put, List.getElem_toArray, List.getElem_cons_zero, List.getElem_cons_succ, List.setIfInBounds_toArray, List.set_cons_zero, List.set_cons_succ]
                refine wpAnyH_take (i := 29) (v := .int .i64 k) rfl (by kernel_rfl) (by kernel_rfl) (by kernel_rfl) (fun _ _ _ h => h) (.inl ⟨by kernel_rfl, fun w' hS => by go_simp⟩) hS ?_
                simp only [Act.put, List.getElem_toArray, List.getElem_cons_zero, List.getElem_cons_succ, List.setIfInBounds_toArray, List.set_cons_zero, List.set_cons_succ]
                refine wpAnyH_take (i := 30) (v := .pointer (some ⟨b, off + k, none⟩)) rfl (by kernel_rfl) (by kernel_rfl) (by kernel_rfl) (fun _ _ _ h => h) (.inl ⟨by kernel_rfl, fun w' hS => by go_simp⟩) hS ?_
                simp only [Act.put, List.getElem_toArray, List.getElem_cons_zero, List.getElem_cons_succ, List.setIfInBounds_toArray, List.set_cons_zero, List.set_cons_succ]
                refine wpAnyH_take (i := 31) (v := .slice (some ⟨b3, o3, none⟩) n cz) rfl (by kernel_rfl) (by kernel_rfl) (by kernel_rfl) (fun _ _ _ h => h) (.inl ⟨by kernel_rfl, fun w' hS => by have h1 := hS.1; go_simp⟩) hS ?_
                simp only [Act.put, List.getElem_toArray, List.getElem_cons_zero, List.getElem_cons_succ, List.setIfInBounds_toArray, List.set_cons_zero, List.set_cons_succ]
                refine wpAnyH_take (i := 32) (v := .int .i64 n) rfl (by kernel_rfl) (by kernel_rfl) (by kernel_rfl) (fun _ _ _ h => h) (.inl ⟨by kernel_rfl, fun w' hS => by go_simp⟩) hS ?_
                simp only [Act.put, List.getElem_toArray, List.getElem_cons_zero, List.getElem_cons_succ, List.setIfInBounds_toArray, List.set_cons_zero, List.set_cons_succ]
                refine wpAnyH_take (i := 33) (v := .int .i64 n1) rfl (by kernel_rfl) (by kernel_rfl) (by kernel_rfl) (fun _ _ _ h => h) (.inl ⟨by kernel_rfl, fun w' hS => by have w1 := W1.out; have w4 := W4.out; go_simp⟩) hS ?_
                simp only [Act.put, List.getElem_toArray, List.getElem_cons_zero, List.getElem_cons_succ, List.setIfInBounds_toArray, List.set_cons_zero, List.set_cons_succ]
                refine wpAnyH_take (i := 34) (v := .pointer (some ⟨b3, o3 + n1 * 5, none⟩)) rfl (by kernel_rfl) (by kernel_rfl) (by kernel_rfl) (fun _ _ _ h => h) (.inl ⟨by kernel_rfl, fun w' hS => by have n3 := W5.out; have n4 := W6.out; go_simp⟩) hS ?_
                simp only [Act.put, List.getElem_toArray, List.getElem_cons_zero, List.getElem_cons_succ, List.setIfInBounds_toArray, List.set_cons_zero, List.set_cons_succ]
                refine wpAnyH_take (i := 35) (v := .pointer (some ⟨b3, o3 + n1 * 5, none⟩)) rfl (by kernel_rfl) (by kernel_rfl) (by kernel_rfl) (fun _ _ _ h => h) (.inl ⟨by kernel_rfl, fun w' hS => by go_simp⟩) hS ?_
                simp only [Act.put, List.getElem_toArray, List.getElem_cons_zero, List.getElem_cons_succ, List.setIfInBounds_toArray, List.set_cons_zero, List.set_cons_succ]
                refine wpAnyH_take (i := 36) (v := .string y.t) rfl (by kernel_rfl) (by kernel_rfl) (by kernel_rfl) (fun _ _ _ h => h) (.inl ⟨by kernel_rfl, fun w' hS => by have h1 := (hS.2.cell (p := ⟨b3, o3 + n1 * 5, none⟩) (cellInL W8.out)).trans W8.out; go_simp⟩) hS ?_
                simp only [Act.put, List.getElem_toArray, List.getElem_cons_zero, List.getElem_cons_succ, List.setIfInBounds_toArray, List.set_cons_zero, List.set_cons_succ]
                refine wpAnyH_take (i := 37) (v := .bool false) rfl (by kernel_rfl) (by kernel_rfl) (by kernel_rfl) (fun _ _ _ h => h) (.inl ⟨by kernel_rfl, fun w' hS => by have hbt := W7.out; go_simp⟩) hS ?_
                simp only [Act.put, List.getElem_toArray, List.getElem_cons_zero, List.getElem_cons_succ, List.setIfInBounds_toArray, List.set_cons_zero, List.set_cons_succ]
                refine wpAnyH_take (i := 38) (v := .bool false) rfl (by kernel_rfl) (by kernel_rfl) (by kernel_rfl) (fun _ _ _ h => h) (.inl ⟨by kernel_rfl, fun w' hS => by go_simp⟩) hS ?_
                simp only [Act.put, List.getElem_toArray, List.getElem_cons_zero, List.getElem_cons_succ, List.setIfInBounds_toArray, List.set_cons_zero, List.set_cons_succ]
                refine wpAnyH_take (i := 39) (v := .bool false) rfl (by kernel_rfl) (by kernel_rfl) (by kernel_rfl) (fun _ _ _ h => h) (.inl ⟨by kernel_rfl, fun w' hS => by go_simp⟩) hS ?_
                simp only [Act.put, List.getElem_toArray, List.getElem_cons_zero, List.getElem_cons_succ, List.setIfInBounds_toArray, List.set_cons_zero, List.set_cons_succ]
                refine wpAnyH_done (by kernel_rfl) ?_ _
                have HB2 := Lib.hid (HB.out.trans (hS.2.mono HB.out.size))
                clear hS
                go_wp2_with fail
                go_roundw
                case measure => have := HLT.out; simp [intOf]; omega
                case rel => exact ⟨k + 1, by go_num, HLT.out, HB2⟩
          · obtain rfl : k = m := by omega
            have hzk : ¬ (k : Int) < k := by omega
            have HSL := Lib.hid (show (sgs ls).length * 48 ≤ 140737488355328 by
              rw [← HFM.out, fill_keeps, List.length_map]
              have := List.length_filter_le sgn l
              have := S1.out
              omega)
            have HKE := Lib.hid (show sgs ls = KF by rw [← HFM.out, fill_keeps, HFK.out])
            have HG1 := Lib.hid (HG9.out.below HB.out)
            rw [← HKE.out] at HG1
            clear hlt
            go_wp2_with fail
            refine (signs_law ls _ wr (HR9.out.below HB.out) HSL.out).mono ?_
            rintro e w8 ⟨v8, rfl, o8, b8⟩
            have G2 := Lib.hid (RdG.own o8 rfl)
            have G1 := Lib.hid (HG1.out.below b8)
            have B8 := Lib.hid ((HB9.out.trans (HB.out.mono HB9.out.size)).trans (b8.mono (HB9.out.trans (HB.out.mono HB9.out.size)).size))
            clear o8 b8
            go_wp2_with fail
            refine (same_ref (sgs ls) _ _ w8 G2.out G1.out).mono ?_
            rintro e w9 ⟨rfl, b9⟩
            have B9 := Lib.hid (B8.out.trans (b9.mono B8.out.size))
            clear b9
            go_wp2_with fail
            go_ret
            exact ⟨rfl, B9.out⟩
  · have tE : (E != 0) = true := by simp [h0]
    obtain rfl : m = 0 := by
      rw [← HM.out, ← HLS.out, fill_zero (by rw [HE.out]; exact h0)]
      rfl
    go_wp2_with fail
    go_ret
    exact ⟨rfl, B2.out⟩

set_option maxRecDepth 100000 in
theorem contract (H : Type) (enc : TypeId × Value → H) (W : World) (base : Nat) (args : Array Value) (ds gs : List (DataW H)) (before : List MemPlace)
    (hval : ∀ (j : Nat) t v, Try.f4.params[j]? = some t → args[j]? = some v → Value.okWide Try.prog W .any base t v)
    (hW : DataW.Whole enc Try.prog Try.f4.params.toList Rows.tableKeepsSpec.vars false W args.toList ds gs before) (hsz0 : (DataW.weightsEach Try.prog (Try.f4.params.toList ++ Rows.tableKeepsSpec.plain.varTypes Try.prog) (ds ++ gs)).all (· ≤ reachBytes) = true) :
    Calls Try.prog 4 args W fun e W' => ∃ v, e = .returned v ∧ Rows.tableKeepsSpec.post enc Try.prog Try.f4 false true false false W args v W' := by
  have hW' := hW
  obtain ⟨p, q, hA0, hV, rfl, hfz, hnd⟩ := hW
  have hA : DataW.TrodAll enc Try.prog W 0 (fun _ => true) true Try.f4.params.toList args.toList ds p := hA0
  rw [Try.params4] at hA hval
  have hsz := hsz0
  rw [Try.params4] at hsz
  clear hsz0
  obtain ⟨v0, vs0, d0, ds0, p0, q0, hargs, rfl, rfl, h0, r0⟩ := trodAll_cons hA
  obtain ⟨v1, vs1, d1, ds1, p1, q1, rfl, rfl, rfl, h1, r1⟩ := trodAll_cons r0
  obtain ⟨rfl, rfl, rfl⟩ := trodAll_nil r1
  obtain rfl : args = #[v0, v1] := by cases args; simp_all
  obtain ⟨rfl, rfl⟩ := trodVars_none hV
  have hk0 := h0
  obtain ⟨l0, hR0, hD0⟩ := gls_read h0 (okWide_slice Try.underlying32 (hval 0 32 v0 rfl rfl))
  obtain ⟨a1, rfl, rfl, rfl, w1⟩ := open_int Try.underlying3 (hval 1 3 v1 rfl rfl) h1
  clear hA0
  have size0 := gls_reach hsz (j := 0) rfl rfl hD0
  refine (walk v0 l0 a1 W hR0 size0 w1).mono fun e W' ⟨he, hg⟩ => ?_
  subst he
  have hlt := hW'.lt
  exact ⟨_, rfl, post_of_below (pa := (p0 ++ ([] ++ []))) (pv := []) hW' (fun _ _ _ => trodAll_cons_mk (shut_bool Try.underlying4 _) trodAll_mk0) (fun sp hsp => (trodAll_cons_mk (Go.WideElems.Trod_stays (by kernel_rfl) (by kernel_rfl) (of_decide_eq_true (by kernel_rfl)) hk0 (fun p hp => hg.same (hlt p (by simp [hp]))) (fun p hp => hsp p (by simp [hp]))) (trodAll_cons_mk (shut_int Try.underlying3 w1) trodAll_mk0))) (fun _ _ => rfl) rfl hg (ok_one (by kernel_rfl) rfl (okWide_bool_mk Try.underlying4 _))⟩

theorem witness_row (os : Os) {H : Type} (enc : TypeId × Value → H) :
    (OpenSpec.ofChange Rows.tableKeepsSpec).preRow enc Try.prog Try.f4 Rows.tableKeepsRow.domain false Rows.tableKeepsRow.laid ((laidWorld os).forCall (fun _ _ => 0) ⟨#[], #[.slice none 0 0, .int .i64 0], []⟩).memory #[.slice none 0 0, .int .i64 0] := by
  have hw : (DataW.whole enc Try.prog ((laidWorld os).forCall (fun _ _ => 0) ⟨#[], #[.slice none 0 0, .int .i64 0], []⟩).memory Try.f4.params.toList Rows.tableKeepsSpec.vars false (#[.slice none 0 0, .int .i64 0] : Array Value).toList 8).map (fun x => (x.1, x.2.1)) =
      some ([.nil, .lit (.int .i64 0)], []) := by kernel_rfl
  obtain ⟨⟨x1, x2, x3⟩, hx, hx1⟩ := Option.map_eq_some_iff.1 hw
  simp only [Prod.mk.injEq] at hx1
  obtain ⟨rfl, rfl⟩ := hx1
  exact OpenSpec.preRow_of_cond 8 hx (by kernel_rfl) (fun k hk => by cases hk) (by kernel_rfl) (laid_met _)

set_option maxRecDepth 100000 in
theorem lifted (os : Os) (started : os.Started) (H : Type) (enc : TypeId × Value → H) (F : Stop.Interp) :
    ReturnsInHanded {} Try.checked os 4 .any ((OpenSpec.ofChange Rows.tableKeepsSpec).preRow enc Try.prog Try.f4 Rows.tableKeepsRow.domain false Rows.tableKeepsRow.laid) (((OpenSpec.ofChange Rows.tableKeepsSpec).at F).post enc Try.prog Try.f4 false true false false) := by
  refine returnsInHanded_of_row (C := Try.checked) (s := (OpenSpec.ofChange Rows.tableKeepsSpec)) own started (by kernel_rfl) Try.func4
    (witness_row_at (enc := enc) (C := Try.checked) false (laidWorld os) #[.slice none 0 0, .int .i64 0] rfl (by kernel_rfl) (by kernel_rfl) (by kernel_rfl) (witness_row os enc)) ?_
  intro W base args ds gs before hval hW _ hcond hsz hL hS _
  exact contract H enc W base args ds gs before hval hW hsz

set_option maxHeartbeats 16000000 in
theorem closed : joinedFacts Try.pinned.checked.prog 4 Try.f4 ((OpenSpec.ofChange Rows.tableKeepsSpec)).bare Rows.tableKeepsRow = true := by
  unfold joinedFacts
  repeat' (with_reducible refine Bool.and_eq_true_iff.2 ⟨?_, ?_⟩)
  all_goals (as_aux_lemma => kernel_rfl)
theorem named : Try.pinned.checked.prog.funcNamed Rows.tableKeepsRow.func = some 4 := by kernel_rfl
theorem inst : (Try.f4).isInstance Try.pinned.checked.prog Rows.tableKeepsRow.origin Rows.tableKeepsRow.targs := of_decide_eq_true (by kernel_rfl)
theorem wrap : (Try.f4).isWrapper Try.pinned.checked.prog Rows.tableKeepsRow.wrapper Rows.tableKeepsRow.mainSum := by
  unfold Func.isWrapper
  first | (rw [if_pos (by decide +kernel)]; kernel_rfl) | (rw [if_neg (by decide +kernel)]; exact ⟨rfl, rfl⟩)
theorem row : Rows.TableKeepsSaid :=
  OpenClaim.holds_of_cond 4 Try.f4 rfl rfl rfl rfl rfl rfl rfl ⟨rfl, rfl, rfl, rfl, rfl⟩ rfl rfl rfl rfl rfl named Try.func4 closed inst wrap
    (fun os started H enc _ F => by rw [OpenClaim.pre_eq_preRow]; exact lifted os started H enc F)

theorem proved : Rows.TableKeepsSaid := row
end Go.Proofs.Ytadecjjbpoaooaa.tableKeeps
