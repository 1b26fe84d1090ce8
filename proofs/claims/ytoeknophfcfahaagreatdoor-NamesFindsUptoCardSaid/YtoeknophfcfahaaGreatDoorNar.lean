/- The reference's Apart of layer 7. -/
import Derived.Test.YtoeknophfcfahaaGreatDoorNap
import Derived.Lib.QuietBelow
namespace Go.Proofs.YtoeknophfcfahaaGreatDoor
open Go.RowKit Go.Maps Go.Sort
set_option linter.unusedVariables false

/-- What the reference's Apart holds: the code points of both texts, and the last row. -/
structure RS (w : World) (x y : List Nat) (g n : Nat) (f : Nat → Nat) (W : World) : Prop where
  r : RowN W g y.length n f
  xs : RdR W w.heap.size x
  ys : RdR W (w.heap.size + 1) y
  lo : w.heap.size + 2 ≤ g
  bl : Below w.heap.size w W
namespace RS
variable {w W W' : World} {x y : List Nat} {g n : Nat} {f : Nat → Nat}
theorem set (h : RS w x y g n f W) (hn : n ≤ y.length) : RS w x y g (n + 1) f (W.setCell ⟨g, n, none⟩ (.int .i64 (f n : Nat))) := by
  have k : ∀ c, c ≠ g → (W.setCell ⟨g, n, none⟩ (.int .i64 (f n : Nat))).heap[c]? = W.heap[c]? := fun c hc => Below.heap_setCell _ _ _ _ hc
  have hlo := h.lo
  exact ⟨h.r.set hn, h.xs.block (by simp [World.setCell]) (k _ (by omega)), h.ys.block (by simp [World.setCell]) (k _ (by omega)), h.lo, h.bl.setCell (p := ⟨g, n, none⟩) (by show w.heap.size ≤ g; omega) _⟩
/-- Behind a new row. -/
theorem next (h : RS w x y g n f W) {g' n' : Nat} {f' : Nat → Nat} (hb : Below W.heap.size W W') (hr : RowN W' g' y.length n' f') (hlo : w.heap.size + 2 ≤ g') : RS w x y g' n' f' W' :=
  ⟨hr, h.xs.block hb.size (hb.block _ h.xs.1), h.ys.block hb.size (hb.block _ h.ys.1), hlo, h.bl.trans (hb.mono h.bl.size)⟩
end RS
theorem row_made1 (W : World) (m i : Nat) (f : Nat → Nat) (h : f 0 = i + 1) : RowN (W.alloc (.cells ((madeCells #[.int .i64 0] (m + 1)).setIfInBounds 0 (.int .i64 ((i : Int) + 1))) 3)) W.heap.size m 1 f := by
  refine ⟨_, World.alloc_heap_new W _, by simp [size_madeCells], fun k hk => ?_⟩
  obtain rfl : k = 0 := by omega
  rw [Array.getElem?_setIfInBounds_self_of_lt (by rw [size_madeCells]; omega), h]
  rfl
theorem row_made (W : World) (m : Nat) (f : Nat → Nat) : RowN (W.alloc (.cells (madeCells #[.int .i64 0] (m + 1)) 3)) W.heap.size m 0 f :=
  ⟨_, World.alloc_heap_new W _, size_madeCells _ _, fun k hk => absurd hk (Nat.not_lt_zero _)⟩

set_option maxRecDepth 100000 in
set_option maxHeartbeats 8000000 in
theorem apart_ref (a b : ByteArray) (w : World) (ha : a.size ≤ 16777216) (hb : b.size ≤ 16777216) : Calls Tryz.prog 43 #[.string a, .string b] w (Says (.int .i64 (apartN a b)) w) := by
  obtain ⟨c1, W1, hconv1, hxs1, hb1, hs1⟩ := runes_run' a w ha
  obtain ⟨c2, W2, hconv2, hys2, hb2, hs2⟩ := runes_run' b W1 hb
  obtain ⟨i0, hi, hz0, hz1, hz2⟩ := info_parts infoI
  have hla := cds_len a
  have hlb := cds_len b
  have hxy := apartN_tab a b
  obtain ⟨x, hx⟩ : ∃ x, cds a = x := ⟨_, rfl⟩
  obtain ⟨y, hy⟩ : ∃ y, cds b = y := ⟨_, rfl⟩
  rw [hx] at hconv1 hxs1 hla hxy
  rw [hy] at hconv2 hys2 hlb hxy
  have hmk : ∀ w : World, (Instr.makeSlice 36 (.int .i64 ((y.length : Int) + 1)) (.int .i64 ((y.length : Int) + 1))).run Tryz.prog w = .ok (.slice (some ⟨w.heap.size, 0, none⟩) (y.length + 1) (y.length + 1)) (w.alloc (.cells (madeCells #[.int .i64 0] (y.length + 1)) 3)) := by
    intro w
    have h := run_make (P := Tryz.prog) w 36 3 i0 (.int .i64 0) Tryz.underlying36 hi hz0 .i64 .i64 ((y.length : Int) + 1) ((y.length : Int) + 1) (by omega) (by omega) (by rw [hz2]; omega) (by omega)
    rw [hz1, Nat.mul_one, show ((y.length : Int) + 1).toNat = y.length + 1 by omega] at h
    exact h
  have v1 : IntKind.i64.wrap ((y.length : Int) + 1) = y.length + 1 := IntWalk.i64_in _ (by omega)
  have HLB := Lib.hid (show y.length ≤ 16777216 by omega)
  have HLA := Lib.hid (show x.length ≤ 16777216 by omega)
  have HXY := Lib.hid hxy
  have hsz : W2.heap.size = w.heap.size + 2 := by omega
  have HA := Lib.hid (show RS w x y W2.heap.size 0 (tabN x y 0) (W2.alloc (.cells (madeCells #[.int .i64 0] (y.length + 1)) 3)) from
    ⟨row_made W2 y.length _, (hxs1.block hb2.size (hb2.block _ (by omega))).block (by simp) (Below.heap_alloc _ _ _ (by omega)), (hs1 ▸ hys2).block (by simp) (Below.heap_alloc _ _ _ (by omega)), by omega, (hb1.trans (hb2.mono hb1.size)).alloc (by omega) _⟩)
  have HSZ := Lib.hid hsz
  have HS1 := Lib.hid hs1
  clear hla hlb hxy hx hy hxs1 hb1 hys2 hb2 hs2 ha hb
  go_enter Tryz.func43, Tryz.ntmps43
  go_wp2_with fail
  obtain ⟨W3, hW3⟩ : ∃ W3, W2.alloc (.cells (madeCells #[.int .i64 0] (y.length + 1)) 3) = W3 := ⟨_, rfl⟩
  rw [hW3] at HA ⊢
  rw [hsz] at HA
  clear hW3 hs1 hsz hconv1 hconv2
  go_loopw [23] (fun j wr => ∃ k : Nat, j = .int .i64 k ∧ k ≤ y.length + 1 ∧ RS w x y (w.heap.size + 2) k (tabN x y 0) wr) (fun j _ => y.length + 1 - (intOf j).toNat)
  case atStart => exact ⟨0, rfl, Nat.zero_le _, HA.out⟩
  case round =>
    obtain ⟨k, rfl, hk, hA1⟩ := hrel
    have HA1 := Lib.hid hA1
    have hLB := HLB.out
    by_cases hlt : k < y.length + 1
    · obtain ⟨v2, r2⟩ := hA1.r.some (k := k) (by omega)
      have f2 := hA1.r.frozen k
      have k1 : (k : Int) < (y.length : Int) + 1 := by omega
      have k2 : (k : Int) ≤ 16777216 := by omega
      have HT := Lib.hid (show tabN x y 0 k = k from tab_top _ _ (by rw [ints_len]; omega))
      have HN := Lib.hid (hA1.set (by omega))
      clear hA1 hLB
      go_wp2_with fail
      go_roundw
      case measure => simp [intOf]; omega
      case rel =>
        have h9 := HN.out
        rw [HT.out] at h9
        exact ⟨k + 1, by go_num, by omega, h9⟩
    · obtain rfl : k = y.length + 1 := by omega
      have hlz : ¬ ((y.length + 1 : Nat) : Int) < ((y.length + 1 : Nat) : Int) := by omega
      have hlz2 : ¬ ((y.length : Int) + 1 < (y.length : Int) + 1) := by omega
      clear hA1 hlt hLB
      go_wp2_with fail
      go_loopw [33, 7] (fun j s7 wr => ∃ i g : Nat, j = .int .i64 i ∧ s7 = .slice (some ⟨g, 0, none⟩) (y.length + 1) (y.length + 1) ∧ i ≤ x.length ∧ RS w x y g (y.length + 1) (tabN x y i) wr) (fun j _ _ => x.length - (intOf j).toNat)
      case atStart => exact ⟨0, w.heap.size + 2, rfl, rfl, Nat.zero_le _, HA1.out⟩
      case round =>
        obtain ⟨i, g, rfl, rfl, hi, hR⟩ := hrel
        have HR := Lib.hid hR
        by_cases hlx : i < x.length
        · obtain ⟨c, hc⟩ : ∃ c, x[i]? = some c := ⟨_, List.getElem?_eq_getElem hlx⟩
          have hxc := hR.xs.2 i hlx
          rw [show x[i] = c by rw [List.getElem?_eq_getElem hlx] at hc; exact Option.some.inj hc] at hxc
          have HC := Lib.hid hc
          have HB4 := Lib.hid (show Below wr.heap.size wr (wr.alloc (.cells (madeCells #[.int .i64 0] (y.length + 1)) 3)) from (Below.refl _ wr).alloc (Nat.le_refl _) _)
          have hr4 := row_made wr y.length (tabN x y (i + 1))
          obtain ⟨v0, r0⟩ := hr4.some (k := 0) (Nat.zero_le _)
          have f0 := hr4.frozen 0
          have t1 : tabN x y (i + 1) 0 = i + 1 := tab_side _ _ (by rw [ints_len]; omega)
          have hLA := HLA.out
          have hLB := HLB.out
          have b0 : (0 : Int) ≤ i := by omega
          have b1 : (i : Int) < x.length := by omega
          have b2 : (0 : Int) < (y.length : Int) + 1 := by omega
          have b3 : (i : Int) ≤ 16777216 := by omega
          have HLX := Lib.hid hlx
          have v5 : IntKind.i64.wrap ((i : Int) + 1) = i + 1 := IntWalk.i64_in _ (by omega)
          clear hR hc hr4 hi hLA hLB
          go_wp2_with fail
          clear r0 f0 v5
          obtain ⟨wq, rfl⟩ : ∃ wq : World, wq = wr := ⟨_, rfl⟩
          obtain ⟨W5, hW5⟩ : ∃ W5, wq.alloc (.cells ((madeCells #[.int .i64 0] (y.length + 1)).setIfInBounds 0 (.int .i64 ((i : Int) + 1))) 3) = W5 := ⟨_, rfl⟩
          have HR6 := Lib.hid (show RowN W5 wq.heap.size y.length 1 (tabN x y (i + 1)) by rw [← hW5]; exact row_made1 wq y.length i _ t1)
          have HB6 := Lib.hid (show Below wq.heap.size wq W5 by rw [← hW5]; exact (Below.refl _ wq).alloc (Nat.le_refl _) _)
          rw [hW5]
          clear hW5
          go_loopw [46] (fun j wk => ∃ k : Nat, j = .int .i64 k ∧ k ≤ y.length ∧ RowN wk wq.heap.size y.length (k + 1) (tabN x y (i + 1)) ∧ Below wq.heap.size wq wk) (fun j _ => y.length - (intOf j).toNat)
          case atStart => exact ⟨0, rfl, Nat.zero_le _, HR6.out, HB6.out⟩
          case round =>
            obtain ⟨k, rfl, hk, hRk, hBk⟩ := hrel
            have HRK := Lib.hid hRk
            have HBK := Lib.hid hBk
            by_cases hlt : k < y.length
            · obtain ⟨d, hd⟩ : ∃ d, y[k]? = some d := ⟨_, List.getElem?_eq_getElem hlt⟩
              have hdc := HR.out.ys.2 k hlt
              rw [show y[k] = d by rw [List.getElem?_eq_getElem hlt] at hd; exact Option.some.inj hd] at hdc
              have hcx := (World.cell?_of_block (a := ⟨w.heap.size, i, none⟩) (hBk.block _ HR.out.xs.1)).trans hxc
              have hcy := (World.cell?_of_block (a := ⟨w.heap.size + 1, k, none⟩) (hBk.block _ HR.out.ys.1)).trans hdc
              have hAr := HR.out.r.block (hBk.block g HR.out.r.lt)
              have a1 := hAr.cell (k := k) (by omega)
              have kr1 := cell_regrown hcx
              have kr2 := cell_regrown hcy
              have hHI := HLX.out
              have l1 := tabN_le (x := x) (y := y) (i := i) (k := k) (by omega) (by omega)
              have l2 := tabN_le (x := x) (y := y) (i := i) (k := k + 1) (by omega) (by omega)
              have l3 := tabN_le (x := x) (y := y) (i := i + 1) (k := k) (by omega) (by omega)
              have HS := Lib.hid (tabN_at HC.out hd)
              have hXX := HLA.out
              have hYY := HLB.out
              obtain ⟨p, hp⟩ : ∃ p, tabN x y i k = p := ⟨_, rfl⟩
              obtain ⟨q, hq⟩ : ∃ q, tabN x y i (k + 1) = q := ⟨_, rfl⟩
              obtain ⟨r, hr⟩ : ∃ r, tabN x y (i + 1) k = r := ⟨_, rfl⟩
              have HQ := Lib.hid hq
              have HRR := Lib.hid hr
              rw [hp] at a1 l1 HS
              rw [hq] at l2 HS
              rw [hr] at l3 HS
              have bp : (p : Int) ≤ 33554432 := by omega
              have bq : (q : Int) ≤ 33554432 := by omega
              have br : (r : Int) ≤ 33554432 := by omega
              have bp0 : (0 : Int) ≤ p := by omega
              have bq0 : (0 : Int) ≤ q := by omega
              have br0 : (0 : Int) ≤ r := by omega
              have k0 : (k : Int) < y.length := by omega
              have k1 : (k : Int) < (y.length : Int) + 1 := by omega
              have k2 : (k : Int) + 1 < (y.length : Int) + 1 := by omega
              have k3 : (0 : Int) ≤ (k : Int) + 1 := by omega
              have k4 : (k : Int) ≤ 16777216 := by omega
              have k5 : k < y.length + 1 := by omega
              have k6 : k + 1 < y.length + 1 := by omega
              have HD := Lib.hid hd
              have HAR := Lib.hid hAr
              have V1 := Lib.hid (show IntKind.i64.wrap ((k : Int) + 1) = k + 1 from IntWalk.i64_in _ (by omega))
              have V2 := Lib.hid (show IntKind.i64.wrap ((q : Int) + 1) = q + 1 from IntWalk.i64_in _ (by omega))
              have V3 := Lib.hid (show IntKind.i64.wrap ((r : Int) + 1) = r + 1 from IntWalk.i64_in _ (by omega))
              have V4 := Lib.hid (show ((k : Int) + 1).toNat = k + 1 by omega)
              have V5 := Lib.hid (show IntKind.i64.wrap ((p : Int) + 1) = p + 1 from IntWalk.i64_in _ (by omega))
              have mixed : Tryz.prog.follows .mixedOrders = true := by kernel_rfl
              clear hp hq hr l1 l2 l3 hd hdc hHI hXX hYY hAr hRk hBk hcx hcy
              by_cases he : d = c
              · have t2 : ((c : Int) != (d : Int)) = false := by simp; omega
                have HE := Lib.hid he
                clear he
                go_wp2_with fail
                refine wp_region_quiet_below (by assumption) (by kernel_rfl) ?_
                repeat (quiet_step (fail))
                refine wpQuiet_nil ?_
                intro _ hw'
                obtain ⟨⟨dq, osq⟩, hw''⟩ := hw'
                subst hw''
                obtain ⟨w6, hw6⟩ : ∃ w6, grow (redrawn wr dq) osq = w6 := ⟨_, rfl⟩
                have hb6 : Below wr.heap.size wr w6 := by rw [← hw6]; exact below_regrown wr dq osq
                rw [hw6]
                have hR6 := HRK.out.block (hb6.block _ HRK.out.lt)
                have hA6 := HAR.out.block (hb6.block _ HAR.out.lt)
                have a2 := hA6.cell (k := k + 1) (by omega)
                have r1 := hR6.cell (k := k) (by omega)
                obtain ⟨v2, r2⟩ := hR6.some (k := k + 1) (by omega)
                have f2 := hR6.frozen (k + 1)
                rw [HQ.out] at a2
                rw [HRR.out] at r1
                have HSET := Lib.hid (hR6.set (by omega))
                have HB6 := Lib.hid (HBK.out.trans (hb6.mono HBK.out.size))
                have HM := Lib.hid (show ∀ M : Int, M = ((tabN x y (i + 1) (k + 1) : Nat) : Int) → RowN ((w6.setCell ⟨wq.heap.size, k + 1, none⟩ (.int .i64 M)).drew) wq.heap.size y.length (k + 1 + 1) (tabN x y (i + 1)) from fun M h => by rw [h]; exact HSET.out)
                clear hw6 hb6 hR6 hA6 kr1 kr2 a1
                go_wp2_with fail
                have v1 := V1.out
                have v2 := V2.out
                have v3 := V3.out
                have v4 := V4.out
                go_region
                all_goals go_wp2_with fail
                all_goals go_roundw
                case measure => simp [intOf]; omega
                case rel =>
                  clear v1 v2 v3 v4
                  refine ⟨k + 1, by go_num, by omega, ?_, ?_⟩
                  · refine HM.out _ ?_
                    rw [HS.out, if_pos HE.out]
                    repeat' split
                    all_goals omega
                  · exact (HB6.out.setCell (p := ⟨wq.heap.size, k + 1, none⟩) (Nat.le_refl _) _).drew
              · have t2 : ((c : Int) != (d : Int)) = true := by simp; omega
                have HE := Lib.hid he
                have v5 := V5.out
                clear he
                go_wp2_with fail
                refine wp_region_quiet_below (by assumption) (by kernel_rfl) ?_
                repeat (quiet_step (fail))
                refine wpQuiet_nil ?_
                intro _ hw'
                obtain ⟨⟨dq, osq⟩, hw''⟩ := hw'
                subst hw''
                obtain ⟨w6, hw6⟩ : ∃ w6, grow (redrawn wr dq) osq = w6 := ⟨_, rfl⟩
                have hb6 : Below wr.heap.size wr w6 := by rw [← hw6]; exact below_regrown wr dq osq
                rw [hw6]
                have hR6 := HRK.out.block (hb6.block _ HRK.out.lt)
                have hA6 := HAR.out.block (hb6.block _ HAR.out.lt)
                have a2 := hA6.cell (k := k + 1) (by omega)
                have r1 := hR6.cell (k := k) (by omega)
                obtain ⟨v2, r2⟩ := hR6.some (k := k + 1) (by omega)
                have f2 := hR6.frozen (k + 1)
                rw [HQ.out] at a2
                rw [HRR.out] at r1
                have HSET := Lib.hid (hR6.set (by omega))
                have HB6 := Lib.hid (HBK.out.trans (hb6.mono HBK.out.size))
                have HM := Lib.hid (show ∀ M : Int, M = ((tabN x y (i + 1) (k + 1) : Nat) : Int) → RowN ((w6.setCell ⟨wq.heap.size, k + 1, none⟩ (.int .i64 M)).drew) wq.heap.size y.length (k + 1 + 1) (tabN x y (i + 1)) from fun M h => by rw [h]; exact HSET.out)
                clear hw6 hb6 hR6 hA6 kr1 kr2 a1
                go_wp2_with fail
                have v1 := V1.out
                have v2 := V2.out
                have v3 := V3.out
                have v4 := V4.out
                go_region
                all_goals go_wp2_with fail
                all_goals go_roundw
                case measure => simp [intOf]; omega
                case rel =>
                  clear v1 v2 v3 v4 v5
                  refine ⟨k + 1, by go_num, by omega, ?_, ?_⟩
                  · refine HM.out _ ?_
                    rw [HS.out, if_neg HE.out]
                    repeat' split
                    all_goals omega
                  · exact (HB6.out.setCell (p := ⟨wq.heap.size, k + 1, none⟩) (Nat.le_refl _) _).drew
            · obtain rfl : k = y.length := by omega
              have hlz4 : ¬ (y.length : Int) < y.length := by omega
              have HN := Lib.hid (HR.out.next HBK.out HRK.out (by have := HR.out.bl.size; have := HR.out.ys.1; omega))
              have HI1 := Lib.hid HLX.out
              clear hRk hBk hlt
              go_wp2_with fail
              go_roundw
              case measure => simp [intOf]; omega
              case rel => exact ⟨i + 1, wq.heap.size, by go_num, rfl, HI1.out, HN.out⟩
        · obtain rfl : i = x.length := by omega
          have hlz3 : ¬ ((x.length : Int) < x.length) := by omega
          have HF := Lib.hid (show tabN x y x.length y.length = apartN a b from HXY.out)
          have r9 := hR.r.cell (k := y.length) (by omega)
          have HBL := Lib.hid hR.bl
          rw [HF.out] at r9
          have b4 : (y.length : Int) < (y.length : Int) + 1 := by omega
          have b5 : y.length < y.length + 1 := by omega
          clear hR hlx
          go_wp2_with fail
          go_ret
          exact ⟨rfl, HBL.out⟩
end Go.Proofs.YtoeknophfcfahaaGreatDoor
