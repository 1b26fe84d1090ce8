/- What is proved: LayoutHits holds of all lines, layouts and places (the statement's second form). Its condition: what comes in is of bulk at most 1048576. Part 6: its texts. -/
import Derived.Test.YtalomeialegmiaaGreatDoorKLayoutHits1
import Derived.Test.YtalomeialegmiaaGreatDoorKLayoutHits2
import Derived.Test.YtalomeialegmiaaGreatDoorKLayoutHits4
import Derived.Test.YtalomeialegmiaaGreatDoorKLayoutHits5
import Derived.BigQuiet
import Derived.Deep.RegionHeld3
import Derived.BigRegion
import Derived.Deep.CutRange
section
namespace Go.Proofs.YtalomeialegmiaaGreatDoor.Tb
open Go.RowKit Go.Maps
set_option linter.unusedVariables false
set_option linter.unusedSimpArgs false
theorem enters_eqG : Enters 41 := enters Tryz.func41 (by kernel_rfl) (by kernel_rfl)
set_option maxRecDepth 100000 in
set_option maxHeartbeats 4000000 in
theorem eqLs_pro {P Q : Nat → Prop} (l m : List (List Gl)) (v u : Value) (w : World) (h : RdL P w v l) (hm : RdL Q w u m) : Calls Tryz.prog 40 #[v, u, .func (.func 41) #[] #[]] w (SaysL (.bool (decide (l = m))) w) := by
  obtain ⟨pa, cap, rfl, hc1, hc2⟩ := h.form
  obtain ⟨pb, cab, rfl, hd1, hd2⟩ := hm.form
  unfold maxLen at hc2 hd2
  by_cases hlen : l.length = m.length
  · have HH := Lib.hid h
    have HM := Lib.hid hm
    rw [← hlen] at HM ⊢
    obtain ⟨n, hn⟩ : ∃ n, l.length = n := ⟨_, rfl⟩
    have HN := Lib.hid hn
    have HNM := Lib.hid (hlen.symm.trans hn)
    rw [hn] at HH HM hc1 ⊢
    have n62 : n ≤ 9223372036854775807 := by omega
    have t0 : ((n : Int) != (n : Int)) = false := by simp
    obtain ⟨z, hz⟩ : ∃ z, decide (l = m) = z := ⟨_, rfl⟩
    have HZ := Lib.hid hz
    rw [hz]
    clear h hm hn hlen hd1 hz
    go_enter Tryz.func40, Tryz.ntmps40
    go_wp2_with fail
    go_loopw [17] (fun i wr => ∃ k : Nat, i = .int .i64 k ∧ k ≤ n ∧ Hid (l.take k = m.take k) ∧ Hid (Below w.heap.size w wr)) (fun i _ => n - (intOf i).toNat)
    case atStart => exact ⟨0, rfl, Nat.zero_le _, Lib.hid rfl, Lib.hid (Below.refl _ _)⟩
    case round =>
      obtain ⟨k, rfl, hk, HP, HB⟩ := hrel
      by_cases hlt : k < n
      · have hkl : k < l.length := by rw [HN.out]; exact hlt
        have hkm : k < m.length := by rw [HNM.out]; exact hlt
        have k1 : (k : Int) < n := by omega
        have HLT := Lib.hid hlt
        obtain ⟨b, off, pz, cz, rfl, _, c0, q1, q2, hx1⟩ := (HH.out.below HB.out).at_ hkl
        obtain ⟨b2, off2, py, cy, rfl, _, e0, s1, s2, hy1⟩ := (HM.out.below HB.out).at_ hkm
        have HMO := Lib.hid (fun (e : l[k] = m[k]) => take_more hkl hkm HP.out e)
        have HNO := Lib.hid (fun (e : l[k] ≠ m[k]) => show decide (l = m) = false from decide_eq_false (take_ne hkl hkm e))
        obtain ⟨x, hx⟩ : ∃ x, l[k] = x := ⟨_, rfl⟩
        obtain ⟨y, hy⟩ : ∃ y, m[k] = y := ⟨_, rfl⟩
        rw [hx] at c0 q1 hx1 HMO HNO
        rw [hy] at e0 s1 hy1 HMO HNO
        have HC := Lib.hid (eqG_pro x y _ _ wr hx1 hy1)
        have hE := enters_eqG #[.slice pz x.length cz, .slice py y.length cy] wr
        obtain ⟨xl, hxl⟩ : ∃ xl, x.length = xl := ⟨_, rfl⟩
        obtain ⟨yl, hyl⟩ : ∃ yl, y.length = yl := ⟨_, rfl⟩
        rw [hxl] at c0 HC hE
        rw [hyl] at e0 HC hE
        by_cases hxy : x = y
        · rw [decide_eq_true hxy] at HC
          have HT := Lib.hid (HMO.out hxy)
          clear hx hy hkl hkm hlt hxy hx1 hy1 q1 q2 s1 s2 hxl hyl
          go_wp2_with fail
          refine HC.out.mono ?_
          rintro e w5 ⟨rfl, b5⟩
          have HB2 := Lib.hid (HB.out.trans (b5.mono HB.out.size))
          clear b5
          go_wp2_with fail
          go_roundw
          case measure => have := HLT.out; simp [intOf]; omega
          case rel => exact ⟨k + 1, by go_num, HLT.out, HT, HB2⟩
        · rw [decide_eq_false hxy] at HC
          have HT := Lib.hid (HZ.out.symm.trans (HNO.out hxy))
          clear hx hy hkl hkm hlt hxy hx1 hy1 q1 q2 s1 s2 hxl hyl
          go_wp2_with fail
          refine HC.out.mono ?_
          rintro e w5 ⟨rfl, b5⟩
          have HB2 := Lib.hid (HB.out.trans (b5.mono HB.out.size))
          clear b5
          go_wp2_with fail
          go_ret
          exact ⟨by rw [HT.out]; rfl, HB2.out⟩
      · obtain rfl : n = k := by omega
        have hzk : ¬ (n : Int) < n := by omega
        have HT := Lib.hid (show z = true by
          rw [← HZ.out]
          have h := HP.out
          rw [List.take_of_length_le (by rw [HN.out]; exact Nat.le_refl _), List.take_of_length_le (by rw [HNM.out]; exact Nat.le_refl _)] at h
          exact decide_eq_true h)
        clear hlt
        go_wp2_with fail
        go_ret
        exact ⟨by rw [HT.out]; rfl, HB.out⟩
  · have t0 : ((l.length : Int) != (m.length : Int)) = true := by simp; omega
    rw [decide_eq_false (fun e => hlen (by rw [e]))]
    obtain ⟨n, hn⟩ : ∃ n, l.length = n := ⟨_, rfl⟩
    obtain ⟨k, hk⟩ : ∃ k, m.length = k := ⟨_, rfl⟩
    rw [hn, hk] at t0 ⊢
    have n62 : n ≤ 9223372036854775807 := by omega
    have k62 : k ≤ 9223372036854775807 := by omega
    clear h hm hn hk hlen hc1 hd1
    go_enter Tryz.func40, Tryz.ntmps40
    go_wp2_with fail
    go_ret
    exact ⟨rfl, Below.refl _ _⟩
/-- A layout, plain. -/
structure Ld where
  lines : List (List Gl)
  rects : List Rc
  links : List (Int × Int)
  more : Bool
  deriving DecidableEq
/-- A layout by value, read. -/
structure LdIs (P : Nat → Prop) (w : World) (vl vr vk : Value) (d : Ld) : Prop where
  lines : RdL P w vl d.lines
  rects : RdQ P w vr d.rects
  links : RdC P w vk d.links
theorem LdIs.below {P : Nat → Prop} {w w' : World} {vl vr vk : Value} {d : Ld} (h : LdIs P w vl vr vk d) (hb : Below w.heap.size w w') : LdIs P w' vl vr vk d := ⟨h.lines.below hb, h.rects.below hb, h.links.below hb⟩
set_option maxRecDepth 100000 in
set_option maxHeartbeats 4000000 in
theorem lsame_pro {P Q : Nat → Prop} (a b : Ld) (vl vr vk ul ur uk : Value) (w : World) (ha : LdIs P w vl vr vk a) (hb : LdIs Q w ul ur uk b) : Calls Tryz.prog 20 #[laidV vl vr vk a.more, laidV ul ur uk b.more] w (SaysL (.bool (decide (a = b))) w) := by
  obtain ⟨la, ra, ka, ma⟩ := a
  obtain ⟨lb, rb, kb, mb⟩ := b
  obtain ⟨a1, a2, a3⟩ := ha
  obtain ⟨b1, b2, b3⟩ := hb
  dsimp only at a1 a2 a3 b1 b2 b3 ⊢
  have HD := Lib.hid (show decide (Ld.mk la ra ka ma = Ld.mk lb rb kb mb) = (decide (la = lb) && (decide (ra = rb) && (decide (ka = kb) && (ma == mb)))) by
    by_cases h1 : la = lb <;> by_cases h2 : ra = rb <;> by_cases h3 : ka = kb <;> by_cases h4 : ma = mb <;> simp [h1, h2, h3, h4])
  obtain ⟨p1, c1, rfl, _, _⟩ := a1.form
  obtain ⟨p2, c2, rfl, _, _⟩ := a2.form
  obtain ⟨p3, c3, rfl, _, _⟩ := sliceC a3
  obtain ⟨p4, c4, rfl, _, _⟩ := b1.form
  obtain ⟨p5, c5, rfl, _, _⟩ := b2.form
  obtain ⟨p6, c6, rfl, _, _⟩ := sliceC b3
  obtain ⟨n1, h1⟩ : ∃ n, la.length = n := ⟨_, rfl⟩
  obtain ⟨n2, h2⟩ : ∃ n, ra.length = n := ⟨_, rfl⟩
  obtain ⟨n3, h3⟩ : ∃ n, ka.length = n := ⟨_, rfl⟩
  obtain ⟨n4, h4⟩ : ∃ n, lb.length = n := ⟨_, rfl⟩
  obtain ⟨n5, h5⟩ : ∃ n, rb.length = n := ⟨_, rfl⟩
  obtain ⟨n6, h6⟩ : ∃ n, kb.length = n := ⟨_, rfl⟩
  rw [h1] at a1 ⊢
  rw [h2] at a2 ⊢
  rw [h3] at a3 ⊢
  rw [h4] at b1 ⊢
  rw [h5] at b2 ⊢
  rw [h6] at b3 ⊢
  have A1 := Lib.hid a1
  have A2 := Lib.hid a2
  have A3 := Lib.hid a3
  have B1 := Lib.hid b1
  have B2 := Lib.hid b2
  have B3 := Lib.hid b3
  unfold laidV
  have hA := (below_box w (.cells #[.slice p1 n1 c1, .slice p2 n2 c2, .slice p3 n3 c3, .bool ma] 29)).trans ((below_box (w.alloc (.cells #[.slice p1 n1 c1, .slice p2 n2 c2, .slice p3 n3 c3, .bool ma] 29)) (.cells #[.slice p4 n4 c4, .slice p5 n5 c5, .slice p6 n6 c6, .bool mb] 29)).mono (by simp))
  have HA := Lib.hid hA
  obtain ⟨W1, hW1⟩ : ∃ W1, (w.alloc (.cells #[.slice p1 n1 c1, .slice p2 n2 c2, .slice p3 n3 c3, .bool ma] 29)).alloc (.cells #[.slice p4 n4 c4, .slice p5 n5 c5, .slice p6 n6 c6, .bool mb] 29) = W1 := ⟨_, rfl⟩
  have hx1 : W1.heap[w.heap.size]? = some (.cells #[.slice p1 n1 c1, .slice p2 n2 c2, .slice p3 n3 c3, .bool ma] 29) := by
    rw [← hW1]
    exact ((below_box (w.alloc (.cells #[.slice p1 n1 c1, .slice p2 n2 c2, .slice p3 n3 c3, .bool ma] 29)) _).block w.heap.size (by simp)).trans (heap_alloc_new w _)
  have hx2 : W1.heap[w.heap.size + 1]? = some (.cells #[.slice p4 n4 c4, .slice p5 n5 c5, .slice p6 n6 c6, .bool mb] 29) := by
    rw [← hW1]
    have h := heap_alloc_new (w.alloc (.cells #[.slice p1 n1 c1, .slice p2 n2 c2, .slice p3 n3 c3, .bool ma] 29)) (.cells #[.slice p4 n4 c4, .slice p5 n5 c5, .slice p6 n6 c6, .bool mb] 29)
    rw [show (w.alloc (.cells #[.slice p1 n1 c1, .slice p2 n2 c2, .slice p3 n3 c3, .bool ma] 29)).heap.size = w.heap.size + 1 by simp] at h
    exact h
  have HX1 := Lib.hid hx1
  have HX2 := Lib.hid hx2
  rw [hW1] at HA
  have HW1 := Lib.hid hW1
  clear a1 a2 a3 b1 b2 b3 h1 h2 h3 h4 h5 h6 hA hx1 hx2 hW1
  have hcell : ∀ (W' : World) (hb : Below W1.heap.size W1 W') (j : Nat), W'.cell? ⟨w.heap.size, j, none⟩ = (#[Value.slice p1 n1 c1, .slice p2 n2 c2, .slice p3 n3 c3, .bool ma] : Array Value)[j]? ∧ W'.cell? ⟨w.heap.size + 1, j, none⟩ = (#[Value.slice p4 n4 c4, .slice p5 n5 c5, .slice p6 n6 c6, .bool mb] : Array Value)[j]? := fun W' hb j => by
    constructor
    · rw [cell_of_row _ _ _ _ _ _ ((hb.block _ (Array.getElem?_eq_some_iff.1 HX1.out).1).trans HX1.out)]
    · rw [cell_of_row _ _ _ _ _ _ ((hb.block _ (Array.getElem?_eq_some_iff.1 HX2.out).1).trans HX2.out)]
  have HCL := Lib.hid hcell
  clear hcell
  go_enter Tryz.func20, Tryz.ntmps20
  go_wp2_with fail
  rw [HW1.out]
  refine (eqLs_pro la lb _ _ W1 (A1.out.below HA.out) (B1.out.below HA.out)).mono ?_
  rintro e w2 ⟨rfl, b2⟩
  have BB2 := Lib.hid b2
  obtain ⟨f1, f2⟩ := HCL.out w2 b2 1
  have HB2 := Lib.hid (HA.out.trans (b2.mono HA.out.size))
  obtain ⟨t1, ht1⟩ : ∃ t, decide (la = lb) = t := ⟨_, rfl⟩
  rw [ht1] at HD ⊢
  simp at f1 f2
  clear b2 ht1
  cases t1 with
  | false =>
    go_wp2_with fail
    go_ret
    exact ⟨by rw [HD.out]; rfl, HB2.out⟩
  | true =>
    go_wp2_with fail
    refine (eqQ_pro ra rb _ _ w2 (A2.out.below HB2.out) (B2.out.below HB2.out)).mono ?_
    rintro e w3 ⟨rfl, b3⟩
    have BB3 := Lib.hid (BB2.out.trans (b3.mono BB2.out.size))
    obtain ⟨g1, g2⟩ := HCL.out w3 BB3.out 2
    have HB3 := Lib.hid (HA.out.trans (BB3.out.mono HA.out.size))
    obtain ⟨t2, ht2⟩ : ∃ t, decide (ra = rb) = t := ⟨_, rfl⟩
    rw [ht2] at HD ⊢
    simp at g1 g2
    clear b3 ht2 f1 f2
    cases t2 with
    | false =>
      go_wp2_with fail
      go_ret
      exact ⟨by rw [HD.out]; rfl, HB3.out⟩
    | true =>
      go_wp2_with fail
      refine (eqT_pro ka kb _ _ w3 (A3.out.below HB3.out) (B3.out.below HB3.out)).mono ?_
      rintro e w4 ⟨rfl, b4⟩
      have BB4 := Lib.hid (BB3.out.trans (b4.mono BB3.out.size))
      obtain ⟨g3, g4⟩ := HCL.out w4 BB4.out 3
      have HB4 := Lib.hid (HA.out.trans (BB4.out.mono HA.out.size))
      obtain ⟨t3, ht3⟩ : ∃ t, decide (ka = kb) = t := ⟨_, rfl⟩
      rw [ht3] at HD ⊢
      simp at g3 g4
      clear b4 ht3 g1 g2
      cases t3 with
      | false =>
        go_wp2_with fail
        go_ret
        exact ⟨by rw [HD.out]; rfl, HB4.out⟩
      | true =>
        obtain ⟨t4, ht4⟩ : ∃ t, (ma == mb) = t := ⟨_, rfl⟩
        rw [ht4] at HD
        have HT4 := Lib.hid ht4
        go_wp2_with fail
        go_ret
        exact ⟨by rw [HD.out]; rfl, HB4.out⟩
end Go.Proofs.YtalomeialegmiaaGreatDoor.Tb
end
section
namespace Go.Proofs.YtalomeialegmiaaGreatDoor.Tb
open Go.RowKit Go.Maps
set_option linter.unusedVariables false
set_option linter.unusedSimpArgs false
def strsV (l : List ByteArray) : List Value := l.map .string
theorem strsV_snoc (l : List ByteArray) (s : ByteArray) : strsV (l ++ [s]) = strsV l ++ [.string s] := by simp [strsV]
theorem infoS : (Tryz.prog.info? 9).map (fun i => (i.zero, i.size, i.bytes)) = some (some (.string .empty), 1, 16) := by kernel_rfl
def showL (ls : List (List Gl)) : List ByteArray := ls.map txtS
def MakesS (l : List ByteArray) (w : World) (e : Ending) (w' : World) : Prop := ∃ v, e = .returned v ∧ w'.ownsRow w.heap.size 9 1 v l.length (strsV l) ∧ Below w.heap.size w w'
theorem showL_take {ls : List (List Gl)} {k : Nat} (h : k < ls.length) : showL (ls.take (k + 1)) = showL (ls.take k) ++ [txtS ls[k]] := by
  unfold showL
  rw [List.take_succ_eq_append_getElem h, List.map_append]
  rfl
theorem txtS_snoc (l : List Gl) (g : Gl) : (txtS l).append g.t = txtS (l ++ [g]) := by
  unfold txtS
  rw [txtL_app]
  apply ByteArray.ext
  simp [txtL]
set_option maxRecDepth 100000 in
set_option maxHeartbeats 4000000 in
theorem show_pro {P : Nat → Prop} (ls : List (List Gl)) (vl vr vk : Value) (mo : Bool) (w : World) (h : RdL P w vl ls) (h1 : vr.oneCell' = true) (h2 : vk.oneCell' = true) (hl : ls.length * 24 ≤ 140737488355328) (hz : ∀ l ∈ ls, (txtL l).length ≤ 1000000000) : Calls Tryz.prog 15 #[laidV vl vr vk mo] w (MakesS (showL ls) w) := by
  obtain ⟨i0, hi0, hz0, hz1, hz2⟩ := info_parts infoS
  obtain ⟨pa, cap, rfl, hc1, hc2⟩ := h.form
  unfold maxLen at hc2
  have HH := Lib.hid h
  have HL := Lib.hid hl
  have HZ := Lib.hid hz
  obtain ⟨n, hn⟩ : ∃ n, ls.length = n := ⟨_, rfl⟩
  have HN := Lib.hid hn
  rw [hn] at HH hc1 ⊢
  have n62 : n ≤ 9223372036854775807 := by omega
  unfold laidV
  have HA := Lib.hid (below_box w (.cells #[.slice pa n cap, vr, vk, .bool mo] 29))
  clear h hn hl hz
  go_enter Tryz.func15, Tryz.ntmps15
  go_wp2_with fail
  go_loopw [3, 9] (fun rv i wr => ∃ (k : Nat), i = .int .i64 k ∧ k ≤ n ∧ Hid (wr.ownsRow w.heap.size 9 1 rv k (strsV (showL (ls.take k)))) ∧ Hid (Below w.heap.size w wr)) (fun _ i _ => n - (intOf i).toNat)
  case atStart => exact ⟨0, rfl, Nat.zero_le _, Lib.hid (World.ownsRow_nil _ _ _ _), HA⟩
  case round =>
    obtain ⟨k, rfl, hk, HO, HB⟩ := hrel
    by_cases hlt : k < n
    · have hkl : k < ls.length := by rw [HN.out]; exact hlt
      have k1 : (k : Int) < n := by omega
      have HLT := Lib.hid hlt
      obtain ⟨b, off, pz, cz, rfl, _, c0, q1, q2, hln⟩ := (HH.out.below HB.out).at_ hkl
      have HSN := Lib.hid (showL_take hkl)
      have hzk := HZ.out _ (List.getElem_mem hkl)
      obtain ⟨r, hr⟩ : ∃ r, ls[k] = r := ⟨_, rfl⟩
      rw [hr] at c0 q1 hln HSN hzk
      have HR := Lib.hid hln
      have HZK := Lib.hid hzk
      have L1 := Lib.hid (show k + 1 ≤ maxLen by unfold maxLen; omega)
      have L2 := Lib.hid (show (k + 1) * 16 ≤ 140737488355328 by have := HL.out; have := HN.out; omega)
      obtain ⟨rl, hrl⟩ : ∃ rl, r.length = rl := ⟨_, rfl⟩
      rw [hrl] at c0 q1 HR
      have rl62 : rl ≤ 9223372036854775807 := by unfold maxLen at q2; omega
      obtain ⟨p3, c3, rfl⟩ := lenL HO.out
      clear hlt hkl hr hzk hln q1 q2 hrl
      go_wp2_with fail
      refine (textOf_pro r _ wr HR.out HZK.out).mono ?_
      rintro e w5 ⟨rfl, b5⟩
      obtain ⟨sv, hsv⟩ : ∃ sv, txtS r = sv := ⟨_, rfl⟩
      rw [hsv] at HSN ⊢
      have hA := below_box w5 (.cells #[.string sv] 9)
      have HO5 := Lib.hid (own_below (own_below HO.out b5) hA)
      have HB5 := Lib.hid ((HB.out.trans (b5.mono HB.out.size)).trans (hA.mono (Nat.le_trans HB.out.size b5.size)))
      have L3 := Lib.hid HB5.out.size
      have HON := Lib.hid (show ∀ u ∈ [Value.string sv], u.oneCell' = true from fun u hu => by rw [List.mem_singleton] at hu; rw [hu]; rfl)
      clear b5 hA hsv
      dsimp only
      rename_i K hK
      refine hK _ _ ?_
      clear hK K
      go_wp2_with (at_builtin; go_loud (refine wpList_append_own _ rfl _ _ 38 rfl w.heap.size 9 i0 _ 1 16 Tryz.underlying38 hi0 hz0 hz1 hz2 rfl (by decide) _ _ _ rfl HO5.out ⟨w5.heap.size, 0, none⟩ 1 1 [.string sv] rfl rfl (cells_newL _ _ _) HON.out L1.out L2.out L3.out ?_); intro v7 w7 hown7 hg7 _; have HO7 := Lib.hid hown7; have HB7 := Lib.hid (HB5.out.grown hg7 L3.out (fun c hc => (own_base HO5.out hc).1)); clear hown7 hg7)
      have HO8 := Lib.hid (show w7.ownsRow w.heap.size 9 1 v7 (k + 1) (strsV (showL (ls.take (k + 1)))) by
        rw [HSN.out, strsV_snoc]; exact HO7.out)
      go_wp2_with fail
      go_roundw
      case measure => have := HLT.out; simp [intOf]; omega
      case rel => exact ⟨k + 1, by go_num, HLT.out, HO8, HB7⟩
    · obtain rfl : k = n := by omega
      have hzk : ¬ (k : Int) < k := by omega
      have HF := Lib.hid (show ls.take k = ls by rw [← HN.out, List.take_length])
      have HSL := Lib.hid (show (showL ls).length = k by unfold showL; rw [List.length_map, HN.out])
      clear hlt
      go_wp2_with fail
      go_ret
      refine ⟨_, rfl, ?_, HB.out⟩
      have h := HO.out
      rw [HF.out] at h
      rw [HSL.out]
      exact h
end Go.Proofs.YtalomeialegmiaaGreatDoor.Tb
end
section
namespace Go.Proofs.YtalomeialegmiaaGreatDoor.Tb
open Go.RowKit Go.Maps
set_option linter.unusedVariables false
set_option linter.unusedSimpArgs false
set_option maxRecDepth 100000 in
set_option maxHeartbeats 4000000 in
theorem show_ref {P : Nat → Prop} (ls : List (List Gl)) (vl : Value) (w : World) (h : RdL P w vl ls) (hl : ls.length * 24 ≤ 140737488355328) (hz : ∀ l ∈ ls, (txtL l).length ≤ 1000000000) : Calls Tryz.prog 16 #[vl] w (MakesS (showL ls) w) := by
  obtain ⟨i0, hi0, hz0, hz1, hz2⟩ := info_parts infoS
  obtain ⟨pa, cap, rfl, hc1, hc2⟩ := h.form
  unfold maxLen at hc2
  have HH := Lib.hid h
  have HL := Lib.hid hl
  have HZ := Lib.hid hz
  obtain ⟨n, hn⟩ : ∃ n, ls.length = n := ⟨_, rfl⟩
  have HN := Lib.hid hn
  rw [hn] at HH hc1 ⊢
  have n62 : n ≤ 9223372036854775807 := by omega
  clear h hn hl hz
  go_enter Tryz.func16, Tryz.ntmps16
  go_wp2_with fail
  go_loopw [3, 11] (fun rv i wr => ∃ (k : Nat), i = .int .i64 k ∧ k ≤ n ∧ Hid (wr.ownsRow w.heap.size 9 1 rv k (strsV (showL (ls.take k)))) ∧ Hid (Below w.heap.size w wr)) (fun _ i _ => n - (intOf i).toNat)
  case atStart => exact ⟨0, rfl, Nat.zero_le _, Lib.hid (World.ownsRow_nil _ _ _ _), Lib.hid (Below.refl _ _)⟩
  case round =>
    obtain ⟨wo, rfl⟩ : ∃ wo : World, wo = wr := ⟨wr, rfl⟩
    obtain ⟨k, rfl, hk, HO, HB⟩ := hrel
    by_cases hlt : k < n
    · have hkl : k < ls.length := by rw [HN.out]; exact hlt
      have k1 : (k : Int) < n := by omega
      have HKT := Lib.hid hlt
      obtain ⟨b, off, pz, cz, rfl, _, c0, q1, q2, hln⟩ := (HH.out.below HB.out).at_ hkl
      have HSN := Lib.hid (showL_take hkl)
      have hzk := HZ.out _ (List.getElem_mem hkl)
      obtain ⟨r, hr⟩ : ∃ r, ls[k] = r := ⟨_, rfl⟩
      rw [hr] at c0 q1 hln HSN hzk
      have HR := Lib.hid hln
      have HZK := Lib.hid hzk
      have L1 := Lib.hid (show k + 1 ≤ maxLen by unfold maxLen; omega)
      have L2 := Lib.hid (show (k + 1) * 16 ≤ 140737488355328 by have := HL.out; have := HN.out; omega)
      obtain ⟨rl, hrl⟩ : ∃ rl, r.length = rl := ⟨_, rfl⟩
      have HRL := Lib.hid hrl
      rw [hrl] at c0 q1 HR
      have rl62 : rl ≤ 9223372036854775807 := by unfold maxLen at q2; omega
      obtain ⟨p3, c3, rfl⟩ := lenL HO.out
      clear hlt hkl hr hzk hln q1 q2 hrl
      go_wp2_with fail
      go_loopw [6, 17] (fun sv i wr => ∃ (j : Nat), i = .int .i64 j ∧ j ≤ rl ∧ sv = .string (txtS (r.take j)) ∧ Hid (Below wo.heap.size wo wr)) (fun _ i _ => rl - (intOf i).toNat)
      case atStart => exact ⟨0, rfl, Nat.zero_le _, rfl, Lib.hid (Below.refl _ _)⟩
      case round =>
        obtain ⟨j, rfl, hj, rfl, HBj⟩ := hrel
        by_cases hlt : j < rl
        · have hjl : j < r.length := by rw [HRL.out]; exact hlt
          have j1 : (j : Int) < rl := by omega
          have HLT := Lib.hid hlt
          obtain ⟨b2, off2, rfl, _, d0, d1, d2, d3, d4⟩ := (HR.out.below HBj.out).at_ hjl
          have hsn := txtS_snoc (r.take j) r[j]
          rw [← List.take_succ_eq_append_getElem hjl] at hsn
          have hszz : (txtS (r.take (j + 1))).size ≤ 1000000000 := by
            have h1 := txtL_le r (j + 1)
            have h2 := HZK.out
            show (txtL (r.take (j + 1))).toArray.size ≤ _
            simp; omega
          obtain ⟨x, hx⟩ : ∃ x, r[j] = x := ⟨_, rfl⟩
          rw [hx] at d0 d1 d2 d3 d4 hsn
          obtain ⟨s, hs⟩ : ∃ s, txtS (r.take j) = s := ⟨_, rfl⟩
          rw [hs] at hsn ⊢
          have HSN2 := Lib.hid hsn
          rw [← hsn] at hszz
          have HSZ := Lib.hid hszz
          have hno : ¬ 9223372036854775807 < s.size + x.t.size := by have h1 : (s ++ x.t).size ≤ 1000000000 := hszz; rw [ByteArray.size_append] at h1; omega
          have hA := below_box wr (boxG x)
          have HB2 := Lib.hid (HBj.out.trans (hA.mono HBj.out.size))
          unfold boxG at HB2
          clear hx hs hsn hszz hA hjl hlt
          go_wp2_with fail
          go_roundw
          case measure => have := HLT.out; simp [intOf]; omega
          case rel => exact ⟨j + 1, by go_num, HLT.out, (by rw [← HSN2.out]; rfl), HB2⟩
        · obtain rfl : j = rl := by omega
          have hzj : ¬ (j : Int) < j := by omega
          have HFr := Lib.hid (show r.take j = r by rw [← HRL.out, List.take_length])
          clear hlt
          rw [HFr.out]
          obtain ⟨sv, hsv⟩ : ∃ sv, txtS r = sv := ⟨_, rfl⟩
          rw [hsv] at HSN ⊢
          have hA := below_box wr (.cells #[.string sv] 9)
          have HO5 := Lib.hid (own_below (own_below HO.out HBj.out) hA)
          have HB5 := Lib.hid ((HB.out.trans (HBj.out.mono HB.out.size)).trans (hA.mono (Nat.le_trans HB.out.size HBj.out.size)))
          have L3 := Lib.hid HB5.out.size
          have HON := Lib.hid (show ∀ u ∈ [Value.string sv], u.oneCell' = true from fun u hu => by rw [List.mem_singleton] at hu; rw [hu]; rfl)
          clear hA hsv
          go_wp2_with (at_builtin; go_loud (refine wpList_append_own _ rfl _ _ 38 rfl w.heap.size 9 i0 _ 1 16 Tryz.underlying38 hi0 hz0 hz1 hz2 rfl (by decide) _ _ _ rfl HO5.out ⟨wr.heap.size, 0, none⟩ 1 1 [.string sv] rfl rfl (cells_newL _ _ _) HON.out L1.out L2.out L3.out ?_); intro v7 w7 hown7 hg7 _; have HO7 := Lib.hid hown7; have HB7 := Lib.hid (HB5.out.grown hg7 L3.out (fun c hc => (own_base HO5.out hc).1)); clear hown7 hg7)
          have HO8 := Lib.hid (show w7.ownsRow w.heap.size 9 1 v7 (k + 1) (strsV (showL (ls.take (k + 1)))) by
            rw [HSN.out, strsV_snoc]; exact HO7.out)
          go_wp2_with fail
          go_roundw
          case measure => have := HKT.out; simp [intOf]; omega
          case rel => exact ⟨k + 1, by go_num, HKT.out, HO8, HB7⟩
    · obtain rfl : k = n := by omega
      have hzk : ¬ (k : Int) < k := by omega
      have HF := Lib.hid (show ls.take k = ls by rw [← HN.out, List.take_length])
      have HSL := Lib.hid (show (showL ls).length = k by unfold showL; rw [List.length_map, HN.out])
      clear hlt
      go_wp2_with fail
      go_ret
      refine ⟨_, rfl, ?_, HB.out⟩
      have h := HO.out
      rw [HF.out] at h
      rw [HSL.out]
      exact h
end Go.Proofs.YtalomeialegmiaaGreatDoor.Tb
end
section
namespace Go.Proofs.YtalomeialegmiaaGreatDoor.Tb
open Go.RowKit Go.Maps
set_option linter.unusedVariables false
set_option linter.unusedSimpArgs false
/-- A list of texts in memory, in blocks that P holds of. -/
def RdS (P : Nat → Prop) (w : World) (v : Value) (zs : List ByteArray) : Prop :=
  ∃ (pa : Option Addr) (cap : Nat), v = .slice pa zs.length cap ∧ zs.length ≤ cap ∧ cap ≤ maxLen ∧ ∀ j (hj : j < zs.length), ∃ b off, pa = some ⟨b, off, none⟩ ∧ P b ∧ w.cell? ⟨b, off + j, none⟩ = some (.string zs[j])
section
variable {P Q : Nat → Prop} {w w' : World} {v : Value} {zs : List ByteArray}
theorem RdS.keep (h : RdS P w v zs) (hk : ∀ a : Addr, P a.block → a.block < w.heap.size → w'.cell? a = w.cell? a) : RdS P w' v zs := by
  obtain ⟨pa, cap, e, h1, h2, h4⟩ := h
  refine ⟨pa, cap, e, h1, h2, fun j hj => ?_⟩
  obtain ⟨b, off, e, hp, hc⟩ := h4 j hj
  exact ⟨b, off, e, hp, (hk ⟨b, off + j, none⟩ hp (cellInL hc)).trans hc⟩
theorem RdS.below (h : RdS P w v zs) (hb : Below w.heap.size w w') : RdS P w' v zs := h.keep fun _ _ ha => hb.cell ha
theorem RdS.form (h : RdS P w v zs) : ∃ (pa : Option Addr) (cap : Nat), v = .slice pa zs.length cap ∧ zs.length ≤ cap ∧ cap ≤ maxLen := by
  obtain ⟨pa, cap, e, h1, h2, _⟩ := h
  exact ⟨pa, cap, e, h1, h2⟩
theorem RdS.at_ {pa : Option Addr} {n cap : Nat} (h : RdS P w (.slice pa n cap) zs) {j : Nat} (hj : j < zs.length) : ∃ b off, pa = some ⟨b, off, none⟩ ∧ P b ∧ w.cell? ⟨b, off + j, none⟩ = some (.string zs[j]) := by
  obtain ⟨pa', cap', e, _, _, h4⟩ := h
  cases e
  exact h4 j hj
theorem RdS.own {base n : Nat} (h : w.ownsRow base 9 1 v n (strsV zs)) (hn : n = zs.length) : RdS (base ≤ ·) w v zs := by
  subst hn
  rcases h.2 with ⟨rfl, h0⟩ | ⟨g, cap, cur, rfl, hb, hg, h1, h2, h3, h4⟩
  · have : zs = [] := List.eq_nil_of_length_eq_zero h0
    subst this
    exact ⟨none, 0, rfl, Nat.le_refl _, Nat.zero_le _, fun i hi => absurd hi (by simp)⟩
  · refine ⟨_, cap, rfl, h1, h2, fun j hj => ⟨g, 0, rfl, hb, ?_⟩⟩
    rw [Nat.zero_add]
    have := World.ownsRow.cellAt h j (by omega)
    rw [this]
    simp [strsV, hj]
end
set_option maxRecDepth 100000 in
set_option maxHeartbeats 4000000 in
theorem texts_doc {P Q : Nat → Prop} (l : List ByteArray) (va vb : Value) (w : World) (ha : RdS P w va l) (hb : RdS Q w vb l) :
    Calls Tryz.prog 37 #[va, vb] w (SaysL (.bool true) w) := by
  obtain ⟨pa, ca, rfl, hc1, hc2⟩ := ha.form
  obtain ⟨pb, cb, rfl, _, _⟩ := hb.form
  unfold maxLen at hc2
  have HA := Lib.hid ha
  have HB := Lib.hid hb
  obtain ⟨n, hn⟩ : ∃ n, l.length = n := ⟨_, rfl⟩
  have HN := Lib.hid hn
  rw [hn] at HA HB hc1 ⊢
  have n62 : n ≤ 9223372036854775807 := by omega
  have t0 : ((n : Int) != (n : Int)) = false := by simp
  clear ha hb hn hc1
  go_enter Tryz.func37, Tryz.ntmps37
  go_wp2_with fail
  go_loopw [13] (fun iv wr => ∃ (k : Nat), iv = .int .i64 k ∧ k ≤ n ∧ Hid (Below w.heap.size w wr)) (fun iv _ => n - (intOf iv).toNat)
  case atStart => exact ⟨0, rfl, Nat.zero_le _, Lib.hid (Below.refl _ _)⟩
  case round =>
    obtain ⟨k, rfl, hk, HBR⟩ := hrel
    by_cases hlt : k < n
    · have hkl : k < l.length := by rw [HN.out]; exact hlt
      have k1 : (k : Int) < n := by omega
      have HLT := Lib.hid hlt
      obtain ⟨b, off, rfl, _, d0⟩ := (HA.out.below HBR.out).at_ hkl
      obtain ⟨b2, off2, rfl, _, e0⟩ := (HB.out.below HBR.out).at_ hkl
      obtain ⟨x, hx⟩ : ∃ x, l[k] = x := ⟨_, rfl⟩
      rw [hx] at d0 e0
      have t1 : (x.toList != x.toList) = false := by simp
      clear hx hkl hlt
      go_upto_region 6 with fail
      go_quiet (fail)
      have HB2 := Lib.hid (dn_below HBR.out nq)
      go_wp2_with fail
      go_roundw
      case measure => have := HLT.out; simp [intOf]; omega
      case rel => exact ⟨k + 1, by go_num, HLT.out, HB2⟩
    · obtain rfl : k = n := by omega
      have hzk : ¬ (k : Int) < k := by omega
      clear hlt
      go_wp2_with fail
      go_ret
      exact ⟨rfl, HBR.out⟩
set_option maxRecDepth 100000 in
set_option maxHeartbeats 4000000 in
theorem lrects_law {P Q : Nat → Prop} (l : List Rc) (va vb : Value) (w : World) (ha : RdQ P w va l) (hb : RdQ Q w vb l) :
    Calls Tryz.prog 17 #[va, vb] w (SaysL (.bool true) w) := by
  obtain ⟨pa, ca, rfl, hc1, hc2⟩ := ha.form
  obtain ⟨pb, cb, rfl, _, _⟩ := hb.form
  unfold maxLen at hc2
  have HA := Lib.hid ha
  have HB := Lib.hid hb
  obtain ⟨n, hn⟩ : ∃ n, l.length = n := ⟨_, rfl⟩
  have HN := Lib.hid hn
  rw [hn] at HA HB hc1 ⊢
  have n62 : n ≤ 9223372036854775807 := by omega
  have t0 : ((n : Int) != (n : Int)) = false := by simp
  have hgd : Tryz.prog.eqGuardType Tryz.prog.depth 53 = false := by kernel_rfl
  clear ha hb hn hc1
  go_enter Tryz.func17, Tryz.ntmps17
  go_wp2_with fail
  go_loopw [13] (fun iv wr => ∃ (k : Nat), iv = .int .i64 k ∧ k ≤ n ∧ Hid (Below w.heap.size w wr)) (fun iv _ => n - (intOf iv).toNat)
  case atStart => exact ⟨0, rfl, Nat.zero_le _, Lib.hid (Below.refl _ _)⟩
  case round =>
    obtain ⟨k, rfl, hk, HBR⟩ := hrel
    by_cases hlt : k < n
    · have hkl : k < l.length := by rw [HN.out]; exact hlt
      have k1 : (k : Int) < n := by omega
      have HLT := Lib.hid hlt
      obtain ⟨b, off, rfl, _, d0, d1, d2, d3⟩ := (HA.out.below HBR.out).at_ hkl
      obtain ⟨b2, off2, rfl, _, e0, e1, e2, e3⟩ := (HB.out.below HBR.out).at_ hkl
      obtain ⟨x, hx⟩ : ∃ x, l[k] = x := ⟨_, rfl⟩
      rw [hx] at d0 d1 d2 d3 e0 e1 e2 e3
      have heq := fun w => eqRc x x w
      rw [decide_eq_true rfl] at heq
      clear hx hkl hlt
      go_upto_region 6 with fail
      go_quiet (fail)
      have HB2 := Lib.hid (dn_below HBR.out nq)
      go_wp2_with fail
      go_roundw
      case measure => have := HLT.out; simp [intOf]; omega
      case rel => exact ⟨k + 1, by go_num, HLT.out, HB2⟩
    · obtain rfl : k = n := by omega
      have hzk : ¬ (k : Int) < k := by omega
      clear hlt
      go_wp2_with fail
      go_ret
      exact ⟨rfl, HBR.out⟩
set_option maxRecDepth 100000 in
set_option maxHeartbeats 4000000 in
theorem texts_ref {P Q : Nat → Prop} (l : List ByteArray) (va vb : Value) (w : World) (ha : RdS P w va l) (hb : RdS Q w vb l) :
    Calls Tryz.prog 14 #[va, vb] w (SaysL (.bool true) w) := by
  have HA := Lib.hid ha
  have HB := Lib.hid hb
  clear ha hb
  go_enter Tryz.func14, Tryz.ntmps14
  go_wp2_with fail
  refine (texts_doc l _ _ _ HA.out HB.out).mono ?_
  rintro e w5 ⟨rfl, b5⟩
  have B5 := Lib.hid b5
  clear b5
  dsimp only
  rename_i K hK
  refine hK _ _ ?_
  clear hK K
  go_wp2_with fail
  go_ret
  exact ⟨rfl, B5.out⟩
end Go.Proofs.YtalomeialegmiaaGreatDoor.Tb
end
section
namespace Go.Proofs.YtalomeialegmiaaGreatDoor.Tb
open Go.RowKit Go.Maps
set_option linter.unusedVariables false
set_option linter.unusedSimpArgs false
theorem S4n {a b c d : Addr} {x y z u : Value} {W w w' : World} (h : w.cell? a = some x ∧ w.cell? b = some y ∧ w.cell? c = some z ∧ w.cell? d = some u ∧ Below W.heap.size W w) (hb : Below w.heap.size w w') : w'.cell? a = some x ∧ w'.cell? b = some y ∧ w'.cell? c = some z ∧ w'.cell? d = some u ∧ Below W.heap.size W w' :=
  ⟨(hb.cell (cellInL h.1)).trans h.1, (hb.cell (cellInL h.2.1)).trans h.2.1, (hb.cell (cellInL h.2.2.1)).trans h.2.2.1, (hb.cell (cellInL h.2.2.2.1)).trans h.2.2.2.1, h.2.2.2.2.trans (hb.mono h.2.2.2.2.size)⟩
set_option maxRecDepth 100000 in
set_option maxHeartbeats 4000000 in
theorem sameLine_ref {P Q : Nat → Prop} (l m : List Gl) (v u : Value) (w : World) (h : RdG P w v l) (hm : RdG Q w u m) : Calls Tryz.prog 28 #[v, u] w (SaysL (.bool (decide (l = m))) w) := by
  obtain ⟨pa, cap, rfl, hc1, hc2⟩ := sliceG h
  obtain ⟨pb, cab, rfl, hd1, hd2⟩ := sliceG hm
  skip
  have hgd : Tryz.prog.eqGuardType Tryz.prog.depth 59 = false := by kernel_rfl
  by_cases hlen : l.length = m.length
  · have HH := Lib.hid h
    have HM := Lib.hid hm
    rw [← hlen] at HM ⊢
    obtain ⟨n, hn⟩ : ∃ n, l.length = n := ⟨_, rfl⟩
    have HN := Lib.hid hn
    have HNM := Lib.hid (hlen.symm.trans hn)
    rw [hn] at HH HM hc1 ⊢
    have n62 : n ≤ 9223372036854775807 := by omega
    have t0 : ((n : Int) != (n : Int)) = false := by simp
    obtain ⟨z, hz⟩ : ∃ z, decide (l = m) = z := ⟨_, rfl⟩
    have HZ := Lib.hid hz
    rw [hz]
    clear h hm hn hlen hd1 hz
    go_enter Tryz.func28, Tryz.ntmps28
    go_wp2_with fail
    go_loopw [13] (fun i wr => ∃ k : Nat, i = .int .i64 k ∧ k ≤ n ∧ Hid (l.take k = m.take k) ∧ Hid (Below w.heap.size w wr)) (fun i _ => n - (intOf i).toNat)
    case atStart => exact ⟨0, rfl, Nat.zero_le _, Lib.hid rfl, Lib.hid (Below.refl _ _)⟩
    case round =>
      obtain ⟨k, rfl, hk, HP, HB⟩ := hrel
      by_cases hlt : k < n
      · have hkl : k < l.length := by rw [HN.out]; exact hlt
        have hkm : k < m.length := by rw [HNM.out]; exact hlt
        have k1 : (k : Int) < n := by omega
        have HLT := Lib.hid hlt
        obtain ⟨b, off, rfl, _, d0, d1, d2, d3, d4⟩ := (HH.out.below HB.out).at_ hkl
        obtain ⟨b2, off2, rfl, _, e0, e1, e2, e3, e4⟩ := (HM.out.below HB.out).at_ hkm
        have HMO := Lib.hid (fun (e : l[k] = m[k]) => take_more hkl hkm HP.out e)
        have HNO := Lib.hid (fun (e : l[k] ≠ m[k]) => show decide (l = m) = false from decide_eq_false (take_ne hkl hkm e))
        obtain ⟨x, hx⟩ : ∃ x, l[k] = x := ⟨_, rfl⟩
        obtain ⟨y, hy⟩ : ∃ y, m[k] = y := ⟨_, rfl⟩
        rw [hx] at d0 d1 d2 d3 d4 HMO HNO
        rw [hy] at e0 e1 e2 e3 e4 HMO HNO
        by_cases hxy : x = y
        · have heq := fun w => eqGl x y w
          rw [decide_eq_true hxy] at heq
          have HT := Lib.hid (HMO.out hxy)
          clear hx hy hkl hkm hlt hxy
          go_upto_region 6 with fail
          go_quiet (fail)
          have HB2 := Lib.hid (dn_below HB.out nq)
          go_wp2_with fail
          go_roundw
          case measure => have := HLT.out; simp [intOf]; omega
          case rel => exact ⟨k + 1, by go_num, HLT.out, HT, HB2⟩
        · have heq := fun w => eqGl x y w
          rw [decide_eq_false hxy] at heq
          have HT := Lib.hid (HZ.out.symm.trans (HNO.out hxy))
          clear hx hy hkl hkm hlt hxy
          go_upto_region 6 with fail
          go_quiet (fail)
          have HB2 := Lib.hid (dn_below HB.out nq)
          go_wp2_with fail
          go_ret
          exact ⟨by rw [HT.out]; rfl, HB2.out⟩
      · obtain rfl : n = k := by omega
        have hzk : ¬ (n : Int) < n := by omega
        have HT := Lib.hid (show z = true by
          rw [← HZ.out]
          have h := HP.out
          rw [List.take_of_length_le (by rw [HN.out]; exact Nat.le_refl _), List.take_of_length_le (by rw [HNM.out]; exact Nat.le_refl _)] at h
          exact decide_eq_true h)
        clear hlt
        go_wp2_with fail
        go_ret
        exact ⟨by rw [HT.out]; rfl, HB.out⟩
  · have t0 : ((l.length : Int) != (m.length : Int)) = true := by simp; omega
    rw [decide_eq_false (fun e => hlen (by rw [e]))]
    obtain ⟨n, hn⟩ : ∃ n, l.length = n := ⟨_, rfl⟩
    obtain ⟨k, hk⟩ : ∃ k, m.length = k := ⟨_, rfl⟩
    rw [hn, hk] at t0 ⊢
    have n62 : n ≤ 9223372036854775807 := by omega
    have k62 : k ≤ 9223372036854775807 := by omega
    clear h hm hn hk hlen hc1 hd1
    go_enter Tryz.func28, Tryz.ntmps28
    go_wp2_with fail
    go_ret
    exact ⟨rfl, Below.refl _ _⟩
set_option maxRecDepth 100000 in
set_option maxHeartbeats 4000000 in
theorem lsame_ref {P Q : Nat → Prop} (a b : Ld) (vl vr vk ul ur uk : Value) (w : World) (ha : LdIs P w vl vr vk a) (hb : LdIs Q w ul ur uk b) : Calls Tryz.prog 13 #[laidV vl vr vk a.more, laidV ul ur uk b.more] w (SaysL (.bool (decide (a = b))) w) := by
  obtain ⟨la, ra, ka, ma⟩ := a
  obtain ⟨lb, rb, kb, mb⟩ := b
  obtain ⟨a1, a2, a3⟩ := ha
  obtain ⟨b1, b2, b3⟩ := hb
  dsimp only at a1 a2 a3 b1 b2 b3 ⊢
  have HD := Lib.hid (show decide (Ld.mk la ra ka ma = Ld.mk lb rb kb mb) = (decide (la = lb) && (decide (ra = rb) && (decide (ka = kb) && (ma == mb)))) by
    by_cases h1 : la = lb <;> by_cases h2 : ra = rb <;> by_cases h3 : ka = kb <;> by_cases h4 : ma = mb <;> simp [h1, h2, h3, h4])
  obtain ⟨p1, c1, rfl, k11, k12⟩ := a1.form
  obtain ⟨p2, c2, rfl, k21, k22⟩ := a2.form
  obtain ⟨p3, c3, rfl, k31, k32⟩ := sliceC a3
  obtain ⟨p4, c4, rfl, k41, k42⟩ := b1.form
  obtain ⟨p5, c5, rfl, k51, k52⟩ := b2.form
  obtain ⟨p6, c6, rfl, k61, k62⟩ := sliceC b3
  obtain ⟨n1, h1⟩ : ∃ n, la.length = n := ⟨_, rfl⟩
  obtain ⟨n2, h2⟩ : ∃ n, ra.length = n := ⟨_, rfl⟩
  obtain ⟨n3, h3⟩ : ∃ n, ka.length = n := ⟨_, rfl⟩
  obtain ⟨n4, h4⟩ : ∃ n, lb.length = n := ⟨_, rfl⟩
  obtain ⟨n5, h5⟩ : ∃ n, rb.length = n := ⟨_, rfl⟩
  obtain ⟨n6, h6⟩ : ∃ n, kb.length = n := ⟨_, rfl⟩
  have N1 := Lib.hid h1
  have N2 := Lib.hid h2
  have N3 := Lib.hid h3
  have N4 := Lib.hid h4
  have N5 := Lib.hid h5
  have N6 := Lib.hid h6
  unfold maxLen at k12 k22 k42 k52
  rw [h1] at a1 k11 ⊢
  rw [h2] at a2 k21 ⊢
  rw [h3] at a3 k31 ⊢
  rw [h4] at b1 k41 ⊢
  rw [h5] at b2 k51 ⊢
  rw [h6] at b3 k61 ⊢
  have m1 : n1 ≤ 9223372036854775807 := by omega
  have m2 : n2 ≤ 9223372036854775807 := by omega
  have m3 : n3 ≤ 9223372036854775807 := by omega
  have m4 : n4 ≤ 9223372036854775807 := by omega
  have m5 : n5 ≤ 9223372036854775807 := by omega
  have m6 : n6 ≤ 9223372036854775807 := by omega
  clear k11 k12 k21 k22 k31 k32 k41 k42 k51 k52 k61 k62
  have A1 := Lib.hid a1
  have A2 := Lib.hid a2
  have A3 := Lib.hid a3
  have B1 := Lib.hid b1
  have B2 := Lib.hid b2
  have B3 := Lib.hid b3
  unfold laidV
  have hA := (below_box w (.cells #[.slice p1 n1 c1, .slice p2 n2 c2, .slice p3 n3 c3, .bool ma] 29)).trans ((below_box (w.alloc (.cells #[.slice p1 n1 c1, .slice p2 n2 c2, .slice p3 n3 c3, .bool ma] 29)) (.cells #[.slice p4 n4 c4, .slice p5 n5 c5, .slice p6 n6 c6, .bool mb] 29)).mono (by simp))
  have HA := Lib.hid hA
  obtain ⟨W1, hW1⟩ : ∃ W1, (w.alloc (.cells #[.slice p1 n1 c1, .slice p2 n2 c2, .slice p3 n3 c3, .bool ma] 29)).alloc (.cells #[.slice p4 n4 c4, .slice p5 n5 c5, .slice p6 n6 c6, .bool mb] 29) = W1 := ⟨_, rfl⟩
  have hx1 : W1.heap[w.heap.size]? = some (.cells #[.slice p1 n1 c1, .slice p2 n2 c2, .slice p3 n3 c3, .bool ma] 29) := by
    rw [← hW1]
    exact ((below_box (w.alloc (.cells #[.slice p1 n1 c1, .slice p2 n2 c2, .slice p3 n3 c3, .bool ma] 29)) _).block w.heap.size (by simp)).trans (heap_alloc_new w _)
  have hx2 : W1.heap[w.heap.size + 1]? = some (.cells #[.slice p4 n4 c4, .slice p5 n5 c5, .slice p6 n6 c6, .bool mb] 29) := by
    rw [← hW1]
    have h := heap_alloc_new (w.alloc (.cells #[.slice p1 n1 c1, .slice p2 n2 c2, .slice p3 n3 c3, .bool ma] 29)) (.cells #[.slice p4 n4 c4, .slice p5 n5 c5, .slice p6 n6 c6, .bool mb] 29)
    rw [show (w.alloc (.cells #[.slice p1 n1 c1, .slice p2 n2 c2, .slice p3 n3 c3, .bool ma] 29)).heap.size = w.heap.size + 1 by simp] at h
    exact h
  have HX1 := Lib.hid hx1
  have HX2 := Lib.hid hx2
  rw [hW1] at HA
  have HW1 := Lib.hid hW1
  clear a1 a2 a3 b1 b2 b3 h1 h2 h3 h4 h5 h6 hA hx1 hx2 hW1
  have hcell : ∀ (W' : World) (hb : Below W1.heap.size W1 W') (j : Nat), W'.cell? ⟨w.heap.size, j, none⟩ = (#[Value.slice p1 n1 c1, .slice p2 n2 c2, .slice p3 n3 c3, .bool ma] : Array Value)[j]? ∧ W'.cell? ⟨w.heap.size + 1, j, none⟩ = (#[Value.slice p4 n4 c4, .slice p5 n5 c5, .slice p6 n6 c6, .bool mb] : Array Value)[j]? := fun W' hb j => by
    constructor
    · rw [cell_of_row _ _ _ _ _ _ ((hb.block _ (Array.getElem?_eq_some_iff.1 HX1.out).1).trans HX1.out)]
    · rw [cell_of_row _ _ _ _ _ _ ((hb.block _ (Array.getElem?_eq_some_iff.1 HX2.out).1).trans HX2.out)]
  have HCL := Lib.hid hcell
  clear hcell
  have hA2 := HA.out
  rw [← HW1.out] at hA2
  have HA2 := Lib.hid hA2
  clear hA2
  by_cases q1 : n1 = n4
  · have t1 : ((n1 : Int) != (n4 : Int)) = false := by simp [q1]
    by_cases q2 : n2 = n5
    · have t2 : ((n2 : Int) != (n5 : Int)) = false := by simp [q2]
      by_cases q3 : n3 = n6
      · have t3 : ((n3 : Int) != (n6 : Int)) = false := by simp [q3]
        by_cases q4 : ma = mb
        · have t4 : (ma != mb) = false := by simp [q4]
          have t5 : (ma == mb) = true := by simp [q4]
          have HD2 := Lib.hid (show decide (Ld.mk la ra ka ma = Ld.mk lb rb kb mb) = (decide (la = lb) && (decide (ra = rb) && decide (ka = kb))) by rw [HD.out, q4]; simp)
          subst q1 q2 q3 q4
          clear HD
          have hgd2 : Tryz.prog.eqGuardType Tryz.prog.depth 53 = false := by kernel_rfl
          have hgd3 : Tryz.prog.eqGuardType Tryz.prog.depth 55 = false := by kernel_rfl
          have HBS := Lib.hid (Below.refl W1.heap.size W1)
          go_enter Tryz.func13, Tryz.ntmps13
          go_wp2_with fail
          rw [HW1.out]
          go_loopw [43] (fun i wr => ∃ k : Nat, i = .int .i64 k ∧ k ≤ n1 ∧ Hid (la.take k = lb.take k) ∧ Hid (Below W1.heap.size W1 wr)) (fun i _ => n1 - (intOf i).toNat)
          case atStart => exact ⟨0, rfl, Nat.zero_le _, Lib.hid rfl, HBS⟩
          case round =>
            obtain ⟨k, rfl, hk, HP, HB⟩ := hrel
            obtain ⟨f1, f2⟩ := HCL.out wr HB.out 0
            simp at f1 f2
            obtain ⟨z1, z2⟩ := HCL.out wr HB.out 1
            simp at z1 z2
            have HBW := Lib.hid (HA.out.trans (HB.out.mono HA.out.size))
            by_cases hlt : k < n1
            · have hkl : k < la.length := by rw [N1.out]; exact hlt
              have hkm : k < lb.length := by rw [N4.out]; exact hlt
              have k1 : (k : Int) < n1 := by omega
              have HLT := Lib.hid hlt
              obtain ⟨b, off, pz, cz, hp1, _, c0, q1, q2, hx1⟩ := (A1.out.below HBW.out).at_ hkl
              cases hp1
              obtain ⟨b2, off2, py, cy, hp2, _, e0, s1, s2, hy1⟩ := (B1.out.below HBW.out).at_ hkm
              cases hp2
              have HMO := Lib.hid (fun (e : la[k] = lb[k]) => take_more hkl hkm HP.out e)
              have HNO := Lib.hid (fun (e : la[k] ≠ lb[k]) => show decide (la = lb) = false from decide_eq_false (take_ne hkl hkm e))
              obtain ⟨x, hx⟩ : ∃ x, la[k] = x := ⟨_, rfl⟩
              obtain ⟨y, hy⟩ : ∃ y, lb[k] = y := ⟨_, rfl⟩
              rw [hx] at c0 q1 hx1 HMO HNO
              rw [hy] at e0 s1 hy1 HMO HNO
              have HX := Lib.hid hx1
              have HY := Lib.hid hy1
              obtain ⟨xl, hxl⟩ : ∃ xl, x.length = xl := ⟨_, rfl⟩
              obtain ⟨yl, hyl⟩ : ∃ yl, y.length = yl := ⟨_, rfl⟩
              rw [hxl] at c0 HX
              rw [hyl] at e0 HY
              obtain ⟨t, ht⟩ : ∃ t, decide (x = y) = t := ⟨_, rfl⟩
              have HT0 := Lib.hid ht
              clear hx hy hkl hkm hlt hx1 hy1 q1 q2 s1 s2 hxl hyl ht z1 z2
              go_upto_region 6 with fail
              go_region_held3 (fun w' => w'.cell? ⟨w.heap.size, 0, none⟩ = some (.slice (some ⟨b, off, none⟩) n1 c1) ∧ w'.cell? ⟨w.heap.size + 1, 0, none⟩ = some (.slice (some ⟨b2, off2, none⟩) n1 c4) ∧ w'.cell? ⟨b, off + k, none⟩ = some (.slice pz xl cz) ∧ w'.cell? ⟨b2, off2 + k, none⟩ = some (.slice py yl cy) ∧ Below wr.heap.size wr w')
                (first | exact ⟨f1, f2, c0, e0, (Below.refl _ _).drew⟩ | exact S4n (by assumption) h8 | assumption)
                ((first
                  | (go_at_call 28; refine (sameLine_ref x y _ _ _ (HX.out.below ((by assumption : _ ∧ _ ∧ _ ∧ _ ∧ Below wr.heap.size wr _).2.2.2.2)) (HY.out.below ((by assumption : _ ∧ _ ∧ _ ∧ _ ∧ Below wr.heap.size wr _).2.2.2.2))).mono ?_; rintro e w9 ⟨rfl, h8⟩; rw [HT0.out])))
              have hS9 := (by assumption : w9.cell? ⟨w.heap.size, 0, none⟩ = some (.slice (some ⟨b, off, none⟩) n1 c1) ∧ w9.cell? ⟨w.heap.size + 1, 0, none⟩ = some (.slice (some ⟨b2, off2, none⟩) n1 c4) ∧ w9.cell? ⟨b, off + k, none⟩ = some (.slice pz xl cz) ∧ w9.cell? ⟨b2, off2 + k, none⟩ = some (.slice py yl cy) ∧ Below wr.heap.size wr w9)
              have HB2 := Lib.hid (HB.out.trans (hS9.2.2.2.2.mono HB.out.size))
              have HBF := Lib.hid (HA.out.trans (HB2.out.mono HA.out.size))
              clear hS9 f1 f2 c0 e0
              cases t with
              | true =>
                have HT := Lib.hid (HMO.out (of_decide_eq_true HT0.out))
                go_wp2_with fail
                go_roundw
                case measure => have := HLT.out; simp [intOf]; omega
                case rel => exact ⟨k + 1, by go_num, HLT.out, HT, HB2⟩
              | false =>
                have HT := Lib.hid (HNO.out (of_decide_eq_false HT0.out))
                go_wp2_with fail
                go_ret
                exact ⟨by show Ending.returned (.bool false) = _; first | simp [HT.out] | (rw [HD2.out]; simp [HT.out]), HBF.out⟩
            · obtain rfl : n1 = k := by omega
              have hzk : ¬ (n1 : Int) < n1 := by omega
              have HTA := Lib.hid (show la = lb by
                have h := HP.out
                rw [List.take_of_length_le (by rw [N1.out]; exact Nat.le_refl _), List.take_of_length_le (by rw [N4.out]; exact Nat.le_refl _)] at h
                exact h)
              have HBS := HB
              clear hlt f1 f2 HP
              go_wp2_with fail
              go_loopw [62] (fun i wr => ∃ k : Nat, i = .int .i64 k ∧ k ≤ n2 ∧ Hid (ra.take k = rb.take k) ∧ Hid (Below W1.heap.size W1 wr)) (fun i _ => n2 - (intOf i).toNat)
              case atStart => exact ⟨0, rfl, Nat.zero_le _, Lib.hid rfl, HBS⟩
              case round =>
                obtain ⟨k, rfl, hk, HP, HB⟩ := hrel
                obtain ⟨f1, f2⟩ := HCL.out wr HB.out 1
                simp at f1 f2
                obtain ⟨z1, z2⟩ := HCL.out wr HB.out 2
                simp at z1 z2
                have HBW := Lib.hid (HA.out.trans (HB.out.mono HA.out.size))
                by_cases hlt : k < n2
                · have hkl : k < ra.length := by rw [N2.out]; exact hlt
                  have hkm : k < rb.length := by rw [N5.out]; exact hlt
                  have k1 : (k : Int) < n2 := by omega
                  have HLT := Lib.hid hlt
                  obtain ⟨b, off, hp1, _, d0, d1, d2, d3⟩ := (A2.out.below HBW.out).at_ hkl
                  cases hp1
                  obtain ⟨b2, off2, hp2, _, e0, e1, e2, e3⟩ := (B2.out.below HBW.out).at_ hkm
                  cases hp2
                  have HMO := Lib.hid (fun (e : ra[k] = rb[k]) => take_more hkl hkm HP.out e)
                  have HNO := Lib.hid (fun (e : ra[k] ≠ rb[k]) => show decide (ra = rb) = false from decide_eq_false (take_ne hkl hkm e))
                  obtain ⟨x, hx⟩ : ∃ x, ra[k] = x := ⟨_, rfl⟩
                  obtain ⟨y, hy⟩ : ∃ y, rb[k] = y := ⟨_, rfl⟩
                  rw [hx] at d0 d1 d2 d3 HMO HNO
                  rw [hy] at e0 e1 e2 e3 HMO HNO
                  by_cases hxy : x = y
                  · have heq := fun w => eqRc x y w
                    rw [decide_eq_true hxy] at heq
                    have HT := Lib.hid (HMO.out hxy)
                    clear hx hy hkl hkm hlt hxy z1 z2
                    go_upto_region 12 with fail
                    go_quiet (fail)
                    have HB2 := Lib.hid (dn_below HB.out nq)
                    go_wp2_with fail
                    go_roundw
                    case measure => have := HLT.out; simp [intOf]; omega
                    case rel => exact ⟨k + 1, by go_num, HLT.out, HT, HB2⟩
                  · have heq := fun w => eqRc x y w
                    rw [decide_eq_false hxy] at heq
                    have HT := Lib.hid (HNO.out hxy)
                    clear hx hy hkl hkm hlt hxy z1 z2
                    go_upto_region 12 with fail
                    go_quiet (fail)
                    have HB2 := Lib.hid (HA.out.trans ((dn_below HB.out nq).mono HA.out.size))
                    go_wp2_with fail
                    go_ret
                    exact ⟨by show Ending.returned (.bool false) = _; first | simp [HT.out] | (rw [HD2.out]; simp [HT.out]), HB2.out⟩
                · obtain rfl : n2 = k := by omega
                  have hzk : ¬ (n2 : Int) < n2 := by omega
                  have HTB := Lib.hid (show ra = rb by
                    have h := HP.out
                    rw [List.take_of_length_le (by rw [N2.out]; exact Nat.le_refl _), List.take_of_length_le (by rw [N5.out]; exact Nat.le_refl _)] at h
                    exact h)
                  have HBS := HB
                  clear hlt f1 f2 HP
                  go_wp2_with fail
                  go_loopw [80] (fun i wr => ∃ k : Nat, i = .int .i64 k ∧ k ≤ n3 ∧ Hid (ka.take k = kb.take k) ∧ Hid (Below W1.heap.size W1 wr)) (fun i _ => n3 - (intOf i).toNat)
                  case atStart => exact ⟨0, rfl, Nat.zero_le _, Lib.hid rfl, HBS⟩
                  case round =>
                    obtain ⟨k, rfl, hk, HP, HB⟩ := hrel
                    obtain ⟨f1, f2⟩ := HCL.out wr HB.out 2
                    simp at f1 f2
                    obtain ⟨z1, z2⟩ := HCL.out wr HB.out 3
                    simp at z1 z2
                    have HBW := Lib.hid (HA.out.trans (HB.out.mono HA.out.size))
                    by_cases hlt : k < n3
                    · have hkl : k < ka.length := by rw [N3.out]; exact hlt
                      have hkm : k < kb.length := by rw [N6.out]; exact hlt
                      have k1 : (k : Int) < n3 := by omega
                      have HLT := Lib.hid hlt
                      obtain ⟨b, off, hp1, _, d0, d1⟩ := (A3.out.below HBW.out).cell hkl
                      cases hp1
                      obtain ⟨b2, off2, hp2, _, e0, e1⟩ := (B3.out.below HBW.out).cell hkm
                      cases hp2
                      have HMO := Lib.hid (fun (e : ka[k] = kb[k]) => take_more hkl hkm HP.out e)
                      have HNO := Lib.hid (fun (e : ka[k] ≠ kb[k]) => show decide (ka = kb) = false from decide_eq_false (take_ne hkl hkm e))
                      obtain ⟨x, hx⟩ : ∃ x, ka[k] = x := ⟨_, rfl⟩
                      obtain ⟨y, hy⟩ : ∃ y, kb[k] = y := ⟨_, rfl⟩
                      rw [hx] at d0 d1 HMO HNO
                      rw [hy] at e0 e1 HMO HNO
                      by_cases hxy : x = y
                      · have heq := fun w => eqTg x y w
                        rw [decide_eq_true hxy] at heq
                        have HT := Lib.hid (HMO.out hxy)
                        clear hx hy hkl hkm hlt hxy z1 z2
                        go_upto_region 18 with fail
                        go_quiet (fail)
                        have HB2 := Lib.hid (dn_below HB.out nq)
                        go_wp2_with fail
                        go_roundw
                        case measure => have := HLT.out; simp [intOf]; omega
                        case rel => exact ⟨k + 1, by go_num, HLT.out, HT, HB2⟩
                      · have heq := fun w => eqTg x y w
                        rw [decide_eq_false hxy] at heq
                        have HT := Lib.hid (HNO.out hxy)
                        clear hx hy hkl hkm hlt hxy z1 z2
                        go_upto_region 18 with fail
                        go_quiet (fail)
                        have HB2 := Lib.hid (HA.out.trans ((dn_below HB.out nq).mono HA.out.size))
                        go_wp2_with fail
                        go_ret
                        exact ⟨by show Ending.returned (.bool false) = _; first | simp [HT.out] | (rw [HD2.out]; simp [HT.out]), HB2.out⟩
                    · obtain rfl : n3 = k := by omega
                      have hzk : ¬ (n3 : Int) < n3 := by omega
                      have HTC := Lib.hid (show ka = kb by
                        have h := HP.out
                        rw [List.take_of_length_le (by rw [N3.out]; exact Nat.le_refl _), List.take_of_length_le (by rw [N6.out]; exact Nat.le_refl _)] at h
                        exact h)
                      have HBS := HB
                      clear hlt f1 f2 HP
                      go_wp2_with fail
                      go_ret
                      exact ⟨by show Ending.returned (.bool true) = _; first | simp [HTA.out, HTB.out, HTC.out] | (rw [HD2.out]; simp [HTA.out, HTB.out, HTC.out]), HBW.out⟩
        · have t4 : (ma != mb) = true := by simpa using q4
          have t5 : (ma == mb) = false := by simpa using q4
          have HF := Lib.hid (show decide (Ld.mk la ra ka ma = Ld.mk lb rb kb mb) = false from decide_eq_false fun e => by injection e with _ _ _ e; exact q4 e)
          subst q1 q2 q3
          clear q4 HD
          go_enter Tryz.func13, Tryz.ntmps13
          go_wp2_with fail
          go_ret
          exact ⟨by first | (rw [HF.out]; rfl) | (show Ending.returned (.bool false) = _; rw [HF.out]) | (show Ending.returned (.bool false) = _; simp), HA2.out⟩
      · have t3 : ((n3 : Int) != (n6 : Int)) = true := by simp; omega
        have HF := Lib.hid (show decide (Ld.mk la ra ka ma = Ld.mk lb rb kb mb) = false from decide_eq_false fun e => by injection e with _ _ e; exact q3 (by rw [← N3.out, ← N6.out, e]))
        subst q1 q2
        clear q3 HD
        go_enter Tryz.func13, Tryz.ntmps13
        go_wp2_with fail
        go_ret
        exact ⟨by first | (rw [HF.out]; rfl) | (show Ending.returned (.bool false) = _; rw [HF.out]) | (show Ending.returned (.bool false) = _; simp), HA2.out⟩
    · have t2 : ((n2 : Int) != (n5 : Int)) = true := by simp; omega
      have HF := Lib.hid (show decide (Ld.mk la ra ka ma = Ld.mk lb rb kb mb) = false from decide_eq_false fun e => by injection e with _ e; exact q2 (by rw [← N2.out, ← N5.out, e]))
      subst q1
      clear q2 HD
      go_enter Tryz.func13, Tryz.ntmps13
      go_wp2_with fail
      go_ret
      exact ⟨by first | (rw [HF.out]; rfl) | (show Ending.returned (.bool false) = _; rw [HF.out]) | (show Ending.returned (.bool false) = _; simp), HA2.out⟩
  · have t1 : ((n1 : Int) != (n4 : Int)) = true := by simp; omega
    have HF := Lib.hid (show decide (Ld.mk la ra ka ma = Ld.mk lb rb kb mb) = false from decide_eq_false fun e => by injection e with e; exact q1 (by rw [← N1.out, ← N4.out, e]))
    clear q1 HD
    go_enter Tryz.func13, Tryz.ntmps13
    go_wp2_with fail
    go_ret
    exact ⟨by first | (rw [HF.out]; rfl) | (show Ending.returned (.bool false) = _; rw [HF.out]) | (show Ending.returned (.bool false) = _; simp), HA2.out⟩
end Go.Proofs.YtalomeialegmiaaGreatDoor.Tb
end
section
namespace Go.Proofs.YtalomeialegmiaaGreatDoor.Tb
open Go.RowKit Go.Maps
set_option linter.unusedVariables false
set_option linter.unusedSimpArgs false
set_option maxRecDepth 100000 in
set_option maxHeartbeats 4000000 in
theorem rectsOf_pro {P : Nat → Prop} (row : Int) (l : List Gl) (v : Value) (w : World) (h : RdG P w v l) (hl : l.length * 32 ≤ 140737488355328) : Calls Tryz.prog 39 #[.int .i64 row, v] w (MakesQ (rectsM row l) w) := by
  obtain ⟨i0, hi0, hz0, hz1, hz2⟩ := info_parts infoQ
  obtain ⟨pa, cap, rfl, h1, h2⟩ := sliceG h
  have HH := Lib.hid h
  have HL := Lib.hid hl
  obtain ⟨n, hn⟩ : ∃ n, l.length = n := ⟨_, rfl⟩
  have HN := Lib.hid hn
  rw [hn] at HH h1 ⊢
  have n62 : n ≤ 9223372036854775807 := by omega
  clear h hn hl
  go_enter Tryz.func39, Tryz.ntmps39
  go_wp2_with fail
  go_loopw [5, 6, 7, 12] (fun rv c a i wr => ∃ (k : Nat), i = .int .i64 k ∧ k ≤ n ∧ c = .int .i64 (qRun row (l.take k)).col ∧ a = .int .i64 (qRun row (l.take k)).ah ∧ Hid (wr.ownsRow w.heap.size 53 4 rv (qRun row (l.take k)).rs.length (rowsQ (qRun row (l.take k)).rs)) ∧ Hid (Below w.heap.size w wr)) (fun _ _ _ i _ => n - (intOf i).toNat)
  case atStart => exact ⟨0, rfl, Nat.zero_le _, rfl, rfl, Lib.hid (World.ownsRow_nil _ _ _ _), Lib.hid (Below.refl _ _)⟩
  case round =>
    obtain ⟨k, rfl, hk, rfl, rfl, HO, HB⟩ := hrel
    by_cases hlt : k < n
    · have hkl : k < l.length := by rw [HN.out]; exact hlt
      have k1 : (k : Int) < n := by omega
      have HLT := Lib.hid hlt
      obtain ⟨b, off, rfl, _, hg⟩ := (HH.out.below HB.out).at_ hkl
      have hst : qRun row (l.take (k + 1)) = qStep row (qRun row (l.take k)) l[k] := by rw [List.take_succ_eq_append_getElem hkl, qRun_snoc]
      have hok := qRun_ok row (l.take k)
      rw [List.length_take, Nat.min_eq_left (by omega)] at hok
      obtain ⟨x, hx⟩ : ∃ x, l[k] = x := ⟨_, rfl⟩
      rw [hx] at hg hst
      obtain ⟨d0, d1, d2, d3, d4⟩ := hg
      obtain ⟨s, hs⟩ : ∃ s, qRun row (l.take k) = s := ⟨_, rfl⟩
      rw [hs] at hst hok HO ⊢
      obtain ⟨rs, col, ah⟩ := s
      obtain ⟨o1, o2, o3⟩ := hok
      dsimp only at o1 o2 o3 HO ⊢
      have HST := Lib.hid hst
      obtain ⟨m, hm⟩ : ∃ m, rs.length = m := ⟨_, rfl⟩
      rw [hm] at HO o2
      have HM := Lib.hid hm
      have HO1 := Lib.hid o1
      have HOW := HO
      have HBX := Lib.hid (heap_alloc_new wr (boxG x))
      unfold boxG at HBX
      obtain ⟨p3, c3, rfl⟩ := lenL HO.out
      have hA := below_box wr (boxG x)
      have HO2 := Lib.hid (own_below HO.out hA)
      have HB2 := Lib.hid (HB.out.trans (hA.mono HB.out.size))
      have L0 := Lib.hid HB2.out.size
      unfold boxG at HO2 HB2 L0
      clear hx hs hst hA hm o1 o3 hkl hlt
      by_cases hz : x.lk = 0
      · have z1 : (x.lk != 0) = false := by simp [hz]
        have HNX := Lib.hid (show qRun row (l.take (k + 1)) = ⟨rs, wrap64 (col + x.wd), x.lk⟩ by rw [HST.out]; simp only [qStep]; rw [if_pos hz])
        have HO8 := Lib.hid (show (wr.alloc (.cells #[.string x.t, .int .i64 x.wd, .int .i64 x.at_, .int .i64 x.co, .int .i64 x.lk] 59)).ownsRow w.heap.size 53 4 (.slice p3 m c3) (qRun row (l.take (k + 1))).rs.length (rowsQ (qRun row (l.take (k + 1))).rs) by rw [HNX.out]; dsimp only; rw [HM.out]; exact HO2.out)
        clear hz
        go_wp2_with fail
        go_roundw
        case measure => have := HLT.out; simp [intOf]; omega
        case rel => exact ⟨k + 1, by go_num, HLT.out, by rw [HNX.out], by rw [HNX.out], HO8, HB2⟩
      · have z1 : (x.lk != 0) = true := by simp [hz]
        by_cases he : x.lk = ah
        · have z2 : (x.lk != ah) = false := by simp [he]
          obtain ⟨rs0, r, hrs⟩ : ∃ rs0 r, rs = rs0 ++ [r] := by
            have := HO1.out (by rw [← he]; exact hz)
            exact ⟨rs.dropLast, rs.getLast this, (List.dropLast_concat_getLast this).symm⟩
          have hm2 : m = rs0.length + 1 := by rw [← HM.out, hrs]; simp
          have HNX := Lib.hid (show qRun row (l.take (k + 1)) = ⟨rs0 ++ [⟨r.row, r.col, wrap64 (r.wide + x.wd), r.link⟩], wrap64 (col + x.wd), x.lk⟩ by rw [HST.out]; simp only [qStep]; rw [if_neg hz, if_pos he, hrs, addW_snoc])
          have hlast := own_lastQ (l := rs0) (r := r) (by have h := HO2.out; rw [hrs] at h; exact h) hm2
          obtain ⟨g, cap3, hp3, hB, hg, _, hfz, hcl, hset⟩ := hlast
          cases hp3
          have hN := Lib.hid (hset (wrap64 (r.wide + x.wd)))
          have hmi : wrap64 ((m : Int) - 1) = (rs0.length : Int) := by rw [IntWalk.wrap64_in _ (by omega)]; omega
          have hmi2 : IntKind.i64.wrap ((m : Int) - 1) = (rs0.length : Int) := by rw [IntWalk.i64_in _ (by omega)]; omega
          obtain ⟨m0, hm0⟩ : ∃ m0, rs0.length = m0 := ⟨_, rfl⟩
          rw [hm0] at hfz hcl hN hmi hmi2 hm2
          have m0m : m0 < m := by omega
          have m0mi : (m0 : Int) < m := by omega
          have HM0 := Lib.hid hm0
          have HM2 := Lib.hid hm2
          obtain ⟨rw0, hrw⟩ : ∃ rw0, r.wide = rw0 := ⟨_, rfl⟩
          rw [hrw] at hcl hN HNX
          clear hz he hrs hm2 hset hm0 hrw
          go_upto_region 9 with fail
          go_region
          have hgw : g < wr.heap.size := (own_base HOW.out (c := g) rfl).2
          obtain ⟨W9, hW9⟩ : ∃ W9, ((wr.alloc (.cells #[.string x.t, .int .i64 x.wd, .int .i64 x.at_, .int .i64 x.co, .int .i64 x.lk] 59)).setCell ⟨g, m0 * 4 + 2, none⟩ (.int .i64 (wrap64 (rw0 + x.wd)))).drew = W9 := ⟨_, rfl⟩
          have hb9 : W9.heap[wr.heap.size]? = some (.cells #[.string x.t, .int .i64 x.wd, .int .i64 x.at_, .int .i64 x.co, .int .i64 x.lk] 59) := by
            rw [← hW9]
            exact (Below.heap_setCell _ _ _ _ (show wr.heap.size ≠ g by omega)).trans HBX.out
          have e1 : W9.cell? ⟨wr.heap.size, 1, none⟩ = some (.int .i64 x.wd) := by rw [cell_of_row _ _ _ _ _ _ hb9]; rfl
          have e4 : W9.cell? ⟨wr.heap.size, 4, none⟩ = some (.int .i64 x.lk) := by rw [cell_of_row _ _ _ _ _ _ hb9]; rfl
          have HO9 := Lib.hid (show W9.ownsRow w.heap.size 53 4 (.slice (some ⟨g, 0, none⟩) m c3) (qRun row (l.take (k + 1))).rs.length (rowsQ (qRun row (l.take (k + 1))).rs) by
            rw [HNX.out, ← hW9]
            dsimp only
            rw [List.length_append, HM0.out, show m0 + [(_ : Rc)].length = m from HM2.out.symm]
            exact own_stays hN.out fun c _ => rfl)
          have HB9 := Lib.hid (show Below w.heap.size w W9 by rw [← hW9]; exact (HB2.out.setCell (p := ⟨g, m0 * 4 + 2, none⟩) hB _).drew)
          rw [hW9]
          clear hW9 hb9 hfz hcl hgw
          go_wp2_with fail
          go_roundw
          case measure => have := HLT.out; simp [intOf]; omega
          case rel => exact ⟨k + 1, by go_num, HLT.out, by rw [HNX.out], by rw [HNX.out], HO9, HB9⟩
        · have z2 : (x.lk != ah) = true := by simp [he]
          have HNX := Lib.hid (show qRun row (l.take (k + 1)) = ⟨rs ++ [⟨row, col, wrap64 x.wd, x.lk⟩], wrap64 (col + x.wd), x.lk⟩ by rw [HST.out]; simp only [qStep]; rw [if_neg hz, if_neg he])
          have hA3 := below_box (wr.alloc (.cells #[.string x.t, .int .i64 x.wd, .int .i64 x.at_, .int .i64 x.co, .int .i64 x.lk] 59)) (.cells #[.int .i64 row, .int .i64 col, .int .i64 0, .int .i64 x.lk] 53)
          have HO3 := Lib.hid (own_below HO2.out hA3)
          have HB3 := Lib.hid (HB2.out.trans (hA3.mono HB2.out.size))
          have L1 := Lib.hid (show m + 1 ≤ maxLen by have := HL.out; have := HN.out; unfold maxLen; omega)
          have L2 := Lib.hid (show (m + 1) * 32 ≤ 140737488355328 by have := HL.out; have := HN.out; have := HLT.out; omega)
          have L3 := Lib.hid HB3.out.size
          have HBX3 := Lib.hid ((hA3.block wr.heap.size (by simp)).trans HBX.out)
          have HNE := Lib.hid (fun c (hc : (Value.slice p3 m c3).ownBlock = some c) => (own_base HOW.out hc).2)
          have HNC := Lib.hid (fun (j : Nat) (u : Value) (hu : (rcRow ⟨row, col, 0, x.lk⟩)[j]? = some u) => (show ((wr.alloc (.cells #[.string x.t, .int .i64 x.wd, .int .i64 x.at_, .int .i64 x.co, .int .i64 x.lk] 59)).alloc (.cells #[.int .i64 row, .int .i64 col, .int .i64 0, .int .i64 x.lk] 53)).cell? ((⟨wr.heap.size + 1, 0, none⟩ : Addr).add j) = some u by
            have h := cells_newL (wr.alloc (.cells #[.string x.t, .int .i64 x.wd, .int .i64 x.at_, .int .i64 x.co, .int .i64 x.lk] 59)) #[.int .i64 row, .int .i64 col, .int .i64 0, .int .i64 x.lk] 53 j u hu
            rw [show (wr.alloc (.cells #[.string x.t, .int .i64 x.wd, .int .i64 x.at_, .int .i64 x.co, .int .i64 x.lk] 59)).heap.size = wr.heap.size + 1 by simp] at h
            exact h))
          clear hz he hA3
          go_upto_region 9 with (at_builtin; go_loud (refine wpList_append_own _ rfl _ _ 26 rfl w.heap.size 53 i0 _ 4 32 Tryz.underlying26 hi0 hz0 hz1 hz2 rfl (by decide) _ _ _ rfl HO3.out ⟨wr.heap.size + 1, 0, none⟩ 1 1 (rcRow ⟨row, col, 0, x.lk⟩) rfl rfl HNC.out (rcRow_one _) L1.out L2.out L3.out ?_); intro v7 w7 hown7 hg7 _; have HO7 := Lib.hid hown7; have HB7 := Lib.hid (HB3.out.grown hg7 L3.out (fun c hc => (own_base HO3.out hc).1)); have hb7 := (hg7.block wr.heap.size (by simp; omega) (fun e => absurd (HNE.out _ e.symm) (by omega))).trans HBX3.out; have e4 : w7.cell? ⟨wr.heap.size, 4, none⟩ = some (.int .i64 x.lk) := (by rw [cell_of_row _ _ _ _ _ _ hb7]; rfl); have HB8 := Lib.hid hb7; clear hown7 hg7 hb7)
          have hlast := own_lastQ (B := w.heap.size) (W := w7) (v := v7) (n := m + 1) (l := rs) (r := ⟨row, col, 0, x.lk⟩) (by rw [rowsQ_snoc]; exact HO7.out) (by rw [HM.out])
          obtain ⟨g, cap3, hp3, hB, hg, _, hfz, hcl, hset⟩ := hlast
          subst hp3
          have hgw : g ≠ wr.heap.size := fun e => by
            have h := HO7.out
            rcases h.2 with ⟨e2, _⟩ | ⟨g2, _, _, e2, _, h2, _⟩
            · cases e2
            · cases e2
              rw [e, HB8.out] at h2
              injection h2 with h2
              injection h2 with _ h2
              exact absurd h2 (by decide)
          have hN := Lib.hid (hset (wrap64 x.wd))
          have hmi : wrap64 (((m + 1 : Nat) : Int) - 1) = (m : Int) := by rw [IntWalk.wrap64_in _ (by have := HL.out; have := HN.out; omega)]; omega
          rw [HM.out] at hfz hcl hN
          dsimp only at hcl
          have m0m : m < m + 1 := by omega
          have m0mi : (m : Int) < ((m + 1 : Nat) : Int) := by omega
          have m2 : m ≤ 4398046511104 := by have := HL.out; have := HN.out; omega
          have e1 : w7.cell? ⟨wr.heap.size, 1, none⟩ = some (.int .i64 x.wd) := by rw [cell_of_row _ _ _ _ _ _ HB8.out]; rfl
          clear hset hg
          go_region
          obtain ⟨W9, hW9⟩ : ∃ W9, (w7.setCell ⟨g, m * 4 + 2, none⟩ (.int .i64 (wrap64 x.wd))).drew = W9 := ⟨_, rfl⟩
          have hb9 : W9.heap[wr.heap.size]? = some (.cells #[.string x.t, .int .i64 x.wd, .int .i64 x.at_, .int .i64 x.co, .int .i64 x.lk] 59) := by
            rw [← hW9]
            exact (Below.heap_setCell _ _ _ _ (show wr.heap.size ≠ g from fun e => hgw e.symm)).trans HB8.out
          have e1 : W9.cell? ⟨wr.heap.size, 1, none⟩ = some (.int .i64 x.wd) := by rw [cell_of_row _ _ _ _ _ _ hb9]; rfl
          have e4 : W9.cell? ⟨wr.heap.size, 4, none⟩ = some (.int .i64 x.lk) := by rw [cell_of_row _ _ _ _ _ _ hb9]; rfl
          have HO9 := Lib.hid (show W9.ownsRow w.heap.size 53 4 (.slice (some ⟨g, 0, none⟩) (m + 1) cap3) (qRun row (l.take (k + 1))).rs.length (rowsQ (qRun row (l.take (k + 1))).rs) by
            rw [HNX.out, ← hW9]
            dsimp only
            rw [List.length_append, HM.out]
            exact own_stays hN.out fun c _ => rfl)
          have HB9 := Lib.hid (show Below w.heap.size w W9 by rw [← hW9]; exact (HB7.out.setCell (p := ⟨g, m * 4 + 2, none⟩) hB _).drew)
          rw [hW9]
          clear hW9 hb9 hfz hcl hgw
          go_wp2_with fail
          go_roundw
          case measure => have := HLT.out; simp [intOf]; omega
          case rel => exact ⟨k + 1, by go_num, HLT.out, by rw [HNX.out], by rw [HNX.out], HO9, HB9⟩
    · obtain rfl : k = n := by omega
      have hzk : ¬ (k : Int) < k := by omega
      have HF := Lib.hid (show l.take k = l by rw [← HN.out, List.take_length])
      obtain ⟨s, hs⟩ : ∃ s, qRun row (l.take k) = s := ⟨_, rfl⟩
      have HS := Lib.hid hs
      rw [hs] at HO ⊢
      clear hlt hs
      go_wp2_with fail
      go_ret
      refine ⟨_, rfl, ?_, HB.out⟩
      have h := HO.out
      rw [← HS.out, HF.out] at h
      exact h
end Go.Proofs.YtalomeialegmiaaGreatDoor.Tb
end
section
namespace Go.Proofs.YtalomeialegmiaaGreatDoor.Tb
open Go.RowKit Go.Maps
set_option linter.unusedVariables false
set_option linter.unusedSimpArgs false
theorem rowsQ_cell : ∀ (l : List Rc) (j : Nat) (u : Value), (rowsQ l)[j]? = some u → ∃ i k, ∃ hi : i < l.length, j = i * 4 + k ∧ (rcRow l[i])[k]? = some u
  | [], j, u, h => by simp [rowsQ] at h
  | a :: l, j, u, h => by
    have e : rowsQ (a :: l) = rcRow a ++ rowsQ l := by simp [rowsQ]
    have hl : (rcRow a).length = 4 := rfl
    rw [e] at h
    rcases Nat.lt_or_ge j 4 with h5 | h5
    · rw [List.getElem?_append_left (by omega)] at h
      exact ⟨0, j, by simp, by omega, h⟩
    · rw [List.getElem?_append_right (by omega), hl] at h
      obtain ⟨i, k, hi, h1, h2⟩ := rowsQ_cell l (j - 4) u h
      exact ⟨i + 1, k, by simpa using hi, by omega, by simpa using h2⟩
theorem RcIs.cells {W : World} {b o : Nat} {x : Rc} (h : RcIs W b o x) (k : Nat) (u : Value) (hu : (rcRow x)[k]? = some u) : W.cell? ⟨b, o + k, none⟩ = some u := by
  obtain ⟨h0, h1, h2, h3⟩ := h
  match k with
  | 0 => simp [rcRow] at hu; rw [← hu]; exact h0
  | 1 => simp [rcRow] at hu; rw [← hu]; exact h1
  | 2 => simp [rcRow] at hu; rw [← hu]; exact h2
  | 3 => simp [rcRow] at hu; rw [← hu]; exact h3
  | k + 4 => simp [rcRow] at hu
theorem RdQ.lies {P : Nat → Prop} {w : World} {v : Value} {l : List Rc} (h : RdQ P w v l) : Lies w 4 v l.length (rowsQ l) := by
  obtain ⟨pa, cap, rfl, _, _, h4⟩ := h
  refine ⟨rowsQ_len l, rowsQ_one l, ?_⟩
  cases pa with
  | none =>
    left
    have : l.length = 0 := by
      rcases Nat.eq_zero_or_pos l.length with h | h
      · exact h
      · obtain ⟨b, off, e, _⟩ := h4 0 h; cases e
    exact ⟨cap, by rw [this], this⟩
  | some a =>
    right
    refine ⟨a, cap, rfl, fun j u hj => ?_⟩
    obtain ⟨i, k, hi, rfl, hk⟩ := rowsQ_cell l j u hj
    obtain ⟨b, off, e, _, hc⟩ := h4 i hi
    cases e
    have := hc.cells k u hk
    rw [Addr.add_lit, ← Nat.add_assoc]
    exact this
/-- Where links stand in lines, from a row on. -/
def rectsA : Int → List (List Gl) → List Rc
  | _, [] => []
  | row, l :: ls => rectsM row l ++ rectsA (row + 1) ls
def rectsL (ls : List (List Gl)) : List Rc := rectsA 0 ls
theorem rectsA_snoc : ∀ (ls : List (List Gl)) (row : Int) (l : List Gl), rectsA row (ls ++ [l]) = rectsA row ls ++ rectsM (row + ls.length) l
  | [], row, l => by simp [rectsA]
  | a :: ls, row, l => by
    simp only [List.cons_append, rectsA, rectsA_snoc ls, List.append_assoc, List.length_cons]
    rw [show row + 1 + (ls.length : Int) = row + ((ls.length + 1 : Nat) : Int) by omega]
theorem rectsM_len (row : Int) (l : List Gl) : (rectsM row l).length ≤ l.length := (qRun_ok row l).2.1
theorem rectsA_len : ∀ (ls : List (List Gl)) (row : Int), (rectsA row ls).length ≤ ls.flatten.length
  | [], row => Nat.le_refl _
  | l :: ls, row => by
    have := rectsM_len row l
    have := rectsA_len ls (row + 1)
    simp only [rectsA, List.length_append, List.flatten_cons]
    omega
set_option maxRecDepth 100000 in
set_option maxHeartbeats 4000000 in
theorem rects_pro {P : Nat → Prop} (ls : List (List Gl)) (v : Value) (w : World) (h : RdL P w v ls) (hl : ls.flatten.length * 32 ≤ 140737488355328) : Calls Tryz.prog 18 #[v] w (MakesQ (rectsL ls) w) := by
  obtain ⟨i0, hi0, hz0, hz1, hz2⟩ := info_parts infoQ
  obtain ⟨pa, cap, rfl, h1, h2⟩ := h.form
  unfold maxLen at h2
  have HH := Lib.hid h
  have HL := Lib.hid hl
  obtain ⟨n, hn⟩ : ∃ n, ls.length = n := ⟨_, rfl⟩
  have HN := Lib.hid hn
  rw [hn] at HH h1 ⊢
  have n62 : n ≤ 9223372036854775807 := by omega
  clear h hn hl
  go_enter Tryz.func18, Tryz.ntmps18
  go_wp2_with fail
  go_loopw [3, 8] (fun rv i wr => ∃ (k : Nat), i = .int .i64 k ∧ k ≤ n ∧ Hid (wr.ownsRow w.heap.size 53 4 rv (rectsL (ls.take k)).length (rowsQ (rectsL (ls.take k)))) ∧ Hid (Below w.heap.size w wr)) (fun _ i _ => n - (intOf i).toNat)
  case atStart => exact ⟨0, rfl, Nat.zero_le _, Lib.hid (World.ownsRow_nil _ _ _ _), Lib.hid (Below.refl _ _)⟩
  case round =>
    obtain ⟨k, rfl, hk, HO, HB⟩ := hrel
    by_cases hlt : k < n
    · have hkl : k < ls.length := by rw [HN.out]; exact hlt
      have k1 : (k : Int) < n := by omega
      have HLT := Lib.hid hlt
      obtain ⟨b, off, pz, cz, rfl, _, c0, q1, q2, hln⟩ := (HH.out.below HB.out).at_ hkl
      have HSN := Lib.hid (show rectsL (ls.take (k + 1)) = rectsL (ls.take k) ++ rectsM (k : Int) ls[k] by
        unfold rectsL
        rw [List.take_succ_eq_append_getElem hkl, rectsA_snoc, List.length_take, Nat.min_eq_left (by omega), Int.zero_add])
      have hfl : (ls.take (k + 1)).flatten.length ≤ ls.flatten.length := by
        have e : ls = ls.take (k + 1) ++ ls.drop (k + 1) := (List.take_append_drop _ _).symm
        have e2 : ls.flatten.length = (ls.take (k + 1)).flatten.length + (ls.drop (k + 1)).flatten.length := by conv => lhs; rw [e, List.flatten_append, List.length_append]
        omega
      have hr1 := rectsA_len (ls.take (k + 1)) 0
      have hr2 : ls[k].length ≤ (ls.take (k + 1)).flatten.length := by
        rw [List.take_succ_eq_append_getElem hkl, List.flatten_append, List.length_append]; simp
      obtain ⟨r, hr⟩ : ∃ r, ls[k] = r := ⟨_, rfl⟩
      rw [hr] at c0 q1 hln HSN hr2
      have HR := Lib.hid hln
      have hsl : (rectsL (ls.take (k + 1))).length = (rectsL (ls.take k)).length + (rectsM (k : Int) r).length := by rw [HSN.out, List.length_append]
      have L1 := Lib.hid (show (rectsL (ls.take k)).length + (rectsM (k : Int) r).length ≤ maxLen by rw [← hsl]; have := HL.out; unfold rectsL; unfold maxLen; omega)
      have L2 := Lib.hid (show ((rectsL (ls.take k)).length + (rectsM (k : Int) r).length) * 32 ≤ 140737488355328 by rw [← hsl]; have := HL.out; unfold rectsL; omega)
      have HRL := Lib.hid (show r.length * 32 ≤ 140737488355328 by have := HL.out; omega)
      obtain ⟨Q, hQ⟩ : ∃ Q, rectsL (ls.take k) = Q := ⟨_, rfl⟩
      rw [hQ] at HO HSN L1 L2
      obtain ⟨m, hm⟩ : ∃ m, Q.length = m := ⟨_, rfl⟩
      rw [hm] at HO L1 L2
      have HM := Lib.hid hm
      obtain ⟨p3, c3, rfl⟩ := lenL HO.out
      obtain ⟨rl, hrl⟩ : ∃ rl, r.length = rl := ⟨_, rfl⟩
      rw [hrl] at c0 q1 HR
      have rl62 : rl ≤ 9223372036854775807 := by unfold maxLen at q2; omega
      clear hlt hkl hr hfl hr1 hr2 hsl hQ hm hln q1 q2 hrl
      go_wp2_with fail
      refine (rectsOf_pro (k : Int) r _ wr HR.out HRL.out).mono ?_
      rintro e w5 ⟨v5, rfl, o5, b5⟩
      have HX := Lib.hid (RdQ.own o5 rfl).lies
      have HO5 := Lib.hid (own_below HO.out b5)
      have HB5 := Lib.hid (HB.out.trans (b5.mono HB.out.size))
      have L3 := Lib.hid HB5.out.size
      clear o5 b5
      dsimp only
      rename_i K hK
      refine hK _ _ ?_
      clear hK K
      go_wp2_with (at_builtin; go_loud (refine wpList_append_lies' rfl _ _ 26 rfl w.heap.size 53 i0 _ 4 32 Tryz.underlying26 hi0 hz0 hz1 hz2 rfl (by decide) _ _ _ rfl HO5.out v5 _ _ rfl HX.out L1.out L2.out L3.out ?_); intro v7 w7 hown7 hg7; have HO7 := Lib.hid hown7; have HB7 := Lib.hid (HB5.out.grown hg7 L3.out (fun c hc => (own_base HO5.out hc).1)); clear hown7 hg7)
      have HO8 := Lib.hid (show w7.ownsRow w.heap.size 53 4 v7 (rectsL (ls.take (k + 1))).length (rowsQ (rectsL (ls.take (k + 1)))) by
        rw [HSN.out, List.length_append, HM.out, rowsQ_app]; exact HO7.out)
      go_wp2_with fail
      go_roundw
      case measure => have := HLT.out; simp [intOf]; omega
      case rel => exact ⟨k + 1, by go_num, HLT.out, HO8, HB7⟩
    · obtain rfl : k = n := by omega
      have hzk : ¬ (k : Int) < k := by omega
      have HF := Lib.hid (show ls.take k = ls by rw [← HN.out, List.take_length])
      clear hlt
      go_wp2_with fail
      go_ret
      refine ⟨_, rfl, ?_, HB.out⟩
      have h := HO.out
      rw [HF.out] at h
      exact h
end Go.Proofs.YtalomeialegmiaaGreatDoor.Tb
end
section
namespace Go.Proofs.YtalomeialegmiaaGreatDoor.Tb
open Go.RowKit Go.Maps
set_option linter.unusedVariables false
set_option linter.unusedSimpArgs false
theorem qRun_ah (row : Int) {l : List Gl} {j : Nat} (h : j < l.length) : (qRun row (l.take (j + 1))).ah = l[j].lk := by
  rw [List.take_succ_eq_append_getElem h, qRun_snoc]
  rfl
def OkW (l : List Gl) : Prop := ∀ g ∈ l, wrap64 g.wd = g.wd
set_option maxRecDepth 100000 in
set_option maxHeartbeats 8000000 in
theorem rects_ref {P : Nat → Prop} (ls : List (List Gl)) (v : Value) (w : World) (h : RdL P w v ls) (hl : ls.flatten.length * 32 ≤ 140737488355328) (hw : ∀ l ∈ ls, OkW l) : Calls Tryz.prog 19 #[v] w (MakesQ (rectsL ls) w) := by
  obtain ⟨i0, hi0, hz0, hz1, hz2⟩ := info_parts infoQ
  obtain ⟨pa, cap, rfl, h1, h2⟩ := h.form
  unfold maxLen at h2
  have HH := Lib.hid h
  have HL := Lib.hid hl
  have HW := Lib.hid hw
  obtain ⟨n, hn⟩ : ∃ n, ls.length = n := ⟨_, rfl⟩
  have HN := Lib.hid hn
  rw [hn] at HH h1 ⊢
  have n62 : n ≤ 9223372036854775807 := by omega
  clear h hn hl hw
  go_enter Tryz.func19, Tryz.ntmps19
  go_wp2_with fail
  go_loopw [3, 11] (fun rv i wr => ∃ (k : Nat), i = .int .i64 k ∧ k ≤ n ∧ Hid (wr.ownsRow w.heap.size 53 4 rv (rectsL (ls.take k)).length (rowsQ (rectsL (ls.take k)))) ∧ Hid (Below w.heap.size w wr)) (fun _ i _ => n - (intOf i).toNat)
  case atStart => exact ⟨0, rfl, Nat.zero_le _, Lib.hid (World.ownsRow_nil _ _ _ _), Lib.hid (Below.refl _ _)⟩
  case round =>
    obtain ⟨wo, rfl⟩ : ∃ wo : World, wo = wr := ⟨wr, rfl⟩
    obtain ⟨k, rfl, hk, HO, HB⟩ := hrel
    by_cases hlt : k < n
    · have hkl : k < ls.length := by rw [HN.out]; exact hlt
      have k1 : (k : Int) < n := by omega
      have HKT := Lib.hid hlt
      obtain ⟨b, off, pz, cz, rfl, _, c0w, q1, q2, hln⟩ := HH.out.at_ hkl
      have c0 := (HB.out.cell (p := ⟨b, off + k, none⟩) (cellInL c0w)).trans c0w
      clear c0w
      have HSN := Lib.hid (show rectsL (ls.take (k + 1)) = rectsL (ls.take k) ++ rectsM (k : Int) ls[k] by
        unfold rectsL
        rw [List.take_succ_eq_append_getElem hkl, rectsA_snoc, List.length_take, Nat.min_eq_left (by omega), Int.zero_add])
      have hfl : (ls.take k).flatten.length + ls[k].length ≤ ls.flatten.length := by
        have e : ls = ls.take k ++ ls[k] :: ls.drop (k + 1) := by rw [List.getElem_cons_drop, List.take_append_drop]
        have e2 : ls.flatten.length = (ls.take k).flatten.length + (ls[k].length + (ls.drop (k + 1)).flatten.length) := by conv => lhs; rw [e, List.flatten_append, List.flatten_cons, List.length_append, List.length_append]
        omega
      have hr1 := rectsA_len (ls.take k) 0
      have hwk := HW.out _ (List.getElem_mem hkl)
      obtain ⟨r, hr⟩ : ∃ r, ls[k] = r := ⟨_, rfl⟩
      rw [hr] at c0 q1 hln HSN hfl hwk
      have HR := Lib.hid hln
      have HWK := Lib.hid hwk
      obtain ⟨pre, hpre⟩ : ∃ pre, rectsL (ls.take k) = pre := ⟨_, rfl⟩
      have hpl : pre.length ≤ (ls.take k).flatten.length := by rw [← hpre]; exact hr1
      have HPL := Lib.hid (show (pre.length + r.length) * 32 ≤ 140737488355328 by have := HL.out; omega)
      rw [hpre] at HO HSN
      obtain ⟨rl, hrl⟩ : ∃ rl, r.length = rl := ⟨_, rfl⟩
      have HRL := Lib.hid hrl
      rw [hrl] at c0 q1 HR HPL
      have rl62 : rl ≤ 9223372036854775807 := by unfold maxLen at q2; omega
      have HOS := Lib.hid (show wo.ownsRow w.heap.size 53 4 u3 (pre ++ (qRun (k : Int) (r.take 0)).rs).length (rowsQ (pre ++ (qRun (k : Int) (r.take 0)).rs)) by simpa [qRun] using HO.out)
      clear hlt hkl hr hfl hr1 hwk hpre hpl hrl hln q1 q2 HO
      go_wp2_with fail
      go_loopw [3, 6, 18] (fun rv c i wr => ∃ (j : Nat), i = .int .i64 j ∧ j ≤ rl ∧ c = .int .i64 (qRun (k : Int) (r.take j)).col ∧ Hid (wr.ownsRow w.heap.size 53 4 rv (pre ++ (qRun (k : Int) (r.take j)).rs).length (rowsQ (pre ++ (qRun (k : Int) (r.take j)).rs))) ∧ Hid (Below w.heap.size w wr)) (fun _ _ i _ => rl - (intOf i).toNat)
      case atStart => exact ⟨0, rfl, Nat.zero_le _, rfl, HOS, HB⟩
      case round =>
        obtain ⟨j, rfl, hj, rfl, HO, HBj⟩ := hrel
        by_cases hlt : j < rl
        · have hjl : j < r.length := by rw [HRL.out]; exact hlt
          have j1 : (j : Int) < rl := by omega
          have HLT := Lib.hid hlt
          have hgl : RdG P wr (.slice pz rl cz) r := HR.out.below HBj.out
          obtain ⟨b2, off2, rfl, _, hg⟩ := hgl.at_ hjl
          have hst : qRun (k : Int) (r.take (j + 1)) = qStep (k : Int) (qRun (k : Int) (r.take j)) r[j] := by rw [List.take_succ_eq_append_getElem hjl, qRun_snoc]
          have hok := qRun_ok (k : Int) (r.take j)
          rw [List.length_take, Nat.min_eq_left (by omega)] at hok
          have hwf := HWK.out _ (List.getElem_mem hjl)
          have hprev : ∀ j0, j = j0 + 1 → ∃ y : Gl, (∃ h : j0 < r.length, r[j0] = y) ∧ (qRun (k : Int) (r.take j)).ah = y.lk ∧ GlIs wr b2 (off2 + j0 * 5) y := fun j0 e => by
            subst e
            have h0 : j0 < r.length := by omega
            obtain ⟨b3, off3, e3, _, h3⟩ := hgl.at_ h0
            cases e3
            exact ⟨r[j0], ⟨h0, rfl⟩, qRun_ah _ h0, h3⟩
          have hfirst : j = 0 → (qRun (k : Int) (r.take j)).ah = 0 := fun e => by subst e; rfl
          obtain ⟨x, hx⟩ : ∃ x, r[j] = x := ⟨_, rfl⟩
          rw [hx] at hg hst hwf
          obtain ⟨d0, d1, d2, d3, d4⟩ := hg
          obtain ⟨s, hs⟩ : ∃ s, qRun (k : Int) (r.take j) = s := ⟨_, rfl⟩
          rw [hs] at hst hok HO hprev hfirst ⊢
          obtain ⟨rs, col, ah⟩ := s
          obtain ⟨o1, o2, o3⟩ := hok
          dsimp only at o1 o2 o3 HO hprev hfirst ⊢
          have HST := Lib.hid hst
          have HWF := Lib.hid hwf
          obtain ⟨m, hm⟩ : ∃ m, (pre ++ rs).length = m := ⟨_, rfl⟩
          rw [hm] at HO
          have HM := Lib.hid hm
          have hmm : m = pre.length + rs.length := by rw [← hm, List.length_append]
          have L1 := Lib.hid (show m + 1 ≤ maxLen by have := HPL.out; unfold maxLen; omega)
          have L2 := Lib.hid (show (m + 1) * 32 ≤ 140737488355328 by have := HPL.out; omega)
          have HO1 := Lib.hid o1
          have HOW := HO
          obtain ⟨p3, c3, rfl⟩ := lenL HO.out
          have HNE := Lib.hid (fun c (hc : (Value.slice p3 m c3).ownBlock = some c) => (own_base HOW.out hc).2)
          have hA := below_box wr (boxG x)
          have HO2 := Lib.hid (own_below HO.out hA)
          have HB2 := Lib.hid (HBj.out.trans (hA.mono HBj.out.size))
          have HBX := Lib.hid (heap_alloc_new wr (boxG x))
          have hA2 := Lib.hid hA
          unfold boxG at HO2 HB2 HBX hA2
          clear hx hs hst hA hm o1 o3 hgl hwf hlt
          by_cases hz : x.lk = 0
          · have z1 : (x.lk != 0) = false := by simp [hz]
            have HNX := Lib.hid (show qRun (k : Int) (r.take (j + 1)) = ⟨rs, wrap64 (col + x.wd), x.lk⟩ by rw [HST.out]; simp only [qStep]; rw [if_pos hz])
            clear hz
            go_upto_region 9 with fail
            go_quiet (fail)
            have hq := dn_below (Below.refl (wr.alloc (.cells #[.string x.t, .int .i64 x.wd, .int .i64 x.at_, .int .i64 x.co, .int .i64 x.lk] 59)).heap.size (wr.alloc (.cells #[.string x.t, .int .i64 x.wd, .int .i64 x.at_, .int .i64 x.co, .int .i64 x.lk] 59))) nq
            obtain ⟨W2, hW2⟩ : ∃ W2, (wr.alloc (.cells #[.string x.t, .int .i64 x.wd, .int .i64 x.at_, .int .i64 x.co, .int .i64 x.lk] 59)).drewN nq = W2 := ⟨_, rfl⟩
            rw [hW2] at hq ⊢
            have hb2 := (hq.block wr.heap.size (by simp)).trans HBX.out
            have e1 : W2.cell? ⟨wr.heap.size, 1, none⟩ = some (.int .i64 x.wd) := by rw [cell_of_row _ _ _ _ _ _ hb2]; rfl
            have e4 : W2.cell? ⟨wr.heap.size, 4, none⟩ = some (.int .i64 x.lk) := by rw [cell_of_row _ _ _ _ _ _ hb2]; rfl
            have HO3 := Lib.hid (own_below HO2.out hq)
            have HB3 := Lib.hid (HB2.out.trans (hq.mono HB2.out.size))
            have HBZ := Lib.hid hb2
            clear hW2 hq hb2
            have HO8 := Lib.hid (show W2.ownsRow w.heap.size 53 4 (.slice p3 m c3) (pre ++ (qRun (k : Int) (r.take (j + 1))).rs).length (rowsQ (pre ++ (qRun (k : Int) (r.take (j + 1))).rs)) by rw [HNX.out]; dsimp only; rw [HM.out]; exact HO3.out)
            go_wp2_with fail
            go_roundw
            case measure => have := HLT.out; simp [intOf]; omega
            case rel => exact ⟨j + 1, by go_num, HLT.out, by rw [HNX.out], HO8, HB3⟩
          · have z1 : (x.lk != 0) = true := by simp [hz]
            rcases Nat.eq_zero_or_pos j with h0 | h0
            · have z2 : decide ((0 : Int) < (j : Int)) = false := by simp [h0]
              have z3 : ¬ 0 < j := by omega
              have z4 : decide (0 < j) = false := decide_eq_false z3
              have he : ¬ x.lk = ah := by rw [hfirst h0]; exact hz
              have HNX := Lib.hid (show qRun (k : Int) (r.take (j + 1)) = ⟨rs ++ [⟨(k : Int), col, x.wd, x.lk⟩], wrap64 (col + x.wd), x.lk⟩ by rw [HST.out]; simp only [qStep]; rw [if_neg hz, if_neg he, HWF.out])
              clear hz he hprev hfirst h0 hmm
              go_upto_region 9 with fail
              go_quiet (fail)
              have hq := dn_below (Below.refl (wr.alloc (.cells #[.string x.t, .int .i64 x.wd, .int .i64 x.at_, .int .i64 x.co, .int .i64 x.lk] 59)).heap.size (wr.alloc (.cells #[.string x.t, .int .i64 x.wd, .int .i64 x.at_, .int .i64 x.co, .int .i64 x.lk] 59))) nq
              obtain ⟨W2, hW2⟩ : ∃ W2, (wr.alloc (.cells #[.string x.t, .int .i64 x.wd, .int .i64 x.at_, .int .i64 x.co, .int .i64 x.lk] 59)).drewN nq = W2 := ⟨_, rfl⟩
              rw [hW2] at hq ⊢
              have hb2 := (hq.block wr.heap.size (by simp)).trans HBX.out
              have e1 : W2.cell? ⟨wr.heap.size, 1, none⟩ = some (.int .i64 x.wd) := by rw [cell_of_row _ _ _ _ _ _ hb2]; rfl
              have e4 : W2.cell? ⟨wr.heap.size, 4, none⟩ = some (.int .i64 x.lk) := by rw [cell_of_row _ _ _ _ _ _ hb2]; rfl
              have HO3 := Lib.hid (own_below HO2.out hq)
              have HB3 := Lib.hid (HB2.out.trans (hq.mono HB2.out.size))
              have HBZ := Lib.hid hb2
              clear hW2 hq hb2
              have hA3 := below_box W2 (.cells #[.int .i64 (k : Int), .int .i64 col, .int .i64 x.wd, .int .i64 x.lk] 53)
              have HO4 := Lib.hid (own_below HO3.out hA3)
              have HB4 := Lib.hid (HB3.out.trans (hA3.mono HB3.out.size))
              have L3 := Lib.hid HB4.out.size
              have hlt2 : wr.heap.size < W2.heap.size := (Array.getElem?_eq_some_iff.1 HBZ.out).1
              have HBX3 := Lib.hid ((hA3.block wr.heap.size hlt2).trans HBZ.out)
              have HL2 := Lib.hid (show wr.heap.size < (W2.alloc (.cells #[.int .i64 (k : Int), .int .i64 col, .int .i64 x.wd, .int .i64 x.lk] 53)).heap.size from Nat.lt_of_lt_of_le hlt2 hA3.size)
              clear hA3 hlt2
              go_wp2_with (at_builtin; go_loud (refine wpList_append_own _ rfl _ _ 26 rfl w.heap.size 53 i0 _ 4 32 Tryz.underlying26 hi0 hz0 hz1 hz2 rfl (by decide) _ _ _ rfl HO4.out ⟨W2.heap.size, 0, none⟩ 1 1 (rcRow ⟨(k : Int), col, x.wd, x.lk⟩) rfl rfl (cells_newL _ _ _) (rcRow_one _) L1.out L2.out L3.out ?_); intro v7 w7 hown7 hg7 _; have HO7 := Lib.hid hown7; have HB7 := Lib.hid (HB4.out.grown hg7 L3.out (fun c hc => (own_base HO4.out hc).1)); have hb7 := (hg7.block wr.heap.size HL2.out (fun e => absurd (HNE.out _ e.symm) (by omega))).trans HBX3.out; have e1 : w7.cell? ⟨wr.heap.size, 1, none⟩ = some (.int .i64 x.wd) := (by rw [cell_of_row _ _ _ _ _ _ hb7]; rfl); clear hown7 hg7 hb7)
              have HO8 := Lib.hid (show w7.ownsRow w.heap.size 53 4 v7 (pre ++ (qRun (k : Int) (r.take (j + 1))).rs).length (rowsQ (pre ++ (qRun (k : Int) (r.take (j + 1))).rs)) by
                rw [HNX.out]; dsimp only; rw [← List.append_assoc, List.length_append, HM.out, rowsQ_snoc]; exact HO7.out)
              go_wp2_with fail
              go_roundw
              case measure => have := HLT.out; simp [intOf]; omega
              case rel => exact ⟨j + 1, by go_num, HLT.out, by rw [HNX.out], HO8, HB7⟩
            · have z2 : decide ((0 : Int) < (j : Int)) = true := decide_eq_true (by omega)
              have z3 : 0 < j := h0
              have z4 : decide (0 < j) = true := decide_eq_true h0
              obtain ⟨j0, hj0⟩ : ∃ j0, j = j0 + 1 := ⟨j - 1, by omega⟩
              obtain ⟨y, _, hah, hgy⟩ := hprev j0 hj0
              have f4 := (hA2.out.cell (cellInL hgy.2.2.2.2)).trans hgy.2.2.2.2
              have HJ0 := Lib.hid hj0
              have jm : (j : Int) - 1 = (j0 : Int) := by omega
              have jn : (j0 : Int) < rl := by omega
              have jnn : j0 < rl := by omega
              have jb : (j : Int) ≤ 9223372036854775807 := by omega
              by_cases he : x.lk = ah
              · have z5 : (y.lk == x.lk) = true := by rw [he, hah]; simp
                obtain ⟨rs0, q, hrs⟩ : ∃ rs0 q, rs = rs0 ++ [q] := by
                  have := HO1.out (by rw [← he]; exact hz)
                  exact ⟨rs.dropLast, rs.getLast this, (List.dropLast_concat_getLast this).symm⟩
                have HNX := Lib.hid (show qRun (k : Int) (r.take (j + 1)) = ⟨rs0 ++ [⟨q.row, q.col, wrap64 (q.wide + x.wd), q.link⟩], wrap64 (col + x.wd), x.lk⟩ by rw [HST.out]; simp only [qStep]; rw [if_neg hz, if_pos he, hrs, addW_snoc])
                have HRS := Lib.hid hrs
                clear hz he hprev hfirst hgy hah hj0 hrs
                go_upto_region 9 with fail
                go_quiet (fail)
                have hq := dn_below (Below.refl (wr.alloc (.cells #[.string x.t, .int .i64 x.wd, .int .i64 x.at_, .int .i64 x.co, .int .i64 x.lk] 59)).heap.size (wr.alloc (.cells #[.string x.t, .int .i64 x.wd, .int .i64 x.at_, .int .i64 x.co, .int .i64 x.lk] 59))) nq
                obtain ⟨W2, hW2⟩ : ∃ W2, (wr.alloc (.cells #[.string x.t, .int .i64 x.wd, .int .i64 x.at_, .int .i64 x.co, .int .i64 x.lk] 59)).drewN nq = W2 := ⟨_, rfl⟩
                rw [hW2] at hq ⊢
                have hb2 := (hq.block wr.heap.size (by simp)).trans HBX.out
                have e1 : W2.cell? ⟨wr.heap.size, 1, none⟩ = some (.int .i64 x.wd) := by rw [cell_of_row _ _ _ _ _ _ hb2]; rfl
                have e4 : W2.cell? ⟨wr.heap.size, 4, none⟩ = some (.int .i64 x.lk) := by rw [cell_of_row _ _ _ _ _ _ hb2]; rfl
                have HO3 := Lib.hid (own_below HO2.out hq)
                have HB3 := Lib.hid (HB2.out.trans (hq.mono HB2.out.size))
                have HBZ := Lib.hid hb2
                clear hW2 hq hb2
                have hlast := own_lastQ (W := W2) (B := w.heap.size) (v := .slice p3 m c3) (n := m) (l := pre ++ rs0) (r := q) (by have h := HO3.out; rw [HRS.out, ← List.append_assoc] at h; exact h) (by rw [hmm, HRS.out]; simp; omega)
                obtain ⟨g, cap3, hp3, hB, hg, _, hfz, hcl, hset⟩ := hlast
                cases hp3
                have hN := Lib.hid (hset (wrap64 (q.wide + x.wd)))
                obtain ⟨m0, hm0⟩ : ∃ m0, (pre ++ rs0).length = m0 := ⟨_, rfl⟩
                have hm2 : m = m0 + 1 := by rw [← hm0, hmm, HRS.out]; simp; omega
                rw [hm0] at hfz hcl hN
                have m0m : m0 < m := by omega
                have m0mi : (m0 : Int) < m := by omega
                have m62 : (m : Int) ≤ 9223372036854775807 := by have := L2.out; omega
                have hmi : (m : Int) - 1 = (m0 : Int) := by omega
                have hgw : g < wr.heap.size := (own_base HOW.out (c := g) rfl).2
                have HM0 := Lib.hid hm0
                have HM2 := Lib.hid hm2
                clear hset hm0 hm2 hmm hg f4
                go_upto_region 10 with fail
                go_region
                obtain ⟨W9, hW9⟩ : ∃ W9, (W2.setCell ⟨g, m0 * 4 + 2, none⟩ (.int .i64 (wrap64 (q.wide + x.wd)))).drew = W9 := ⟨_, rfl⟩
                have hb9 : W9.heap[wr.heap.size]? = some (.cells #[.string x.t, .int .i64 x.wd, .int .i64 x.at_, .int .i64 x.co, .int .i64 x.lk] 59) := by
                  rw [← hW9]
                  exact (Below.heap_setCell _ _ _ _ (show wr.heap.size ≠ g by omega)).trans HBZ.out
                have e1 : W9.cell? ⟨wr.heap.size, 1, none⟩ = some (.int .i64 x.wd) := by rw [cell_of_row _ _ _ _ _ _ hb9]; rfl
                have HO9 := Lib.hid (show W9.ownsRow w.heap.size 53 4 (.slice (some ⟨g, 0, none⟩) m c3) (pre ++ (qRun (k : Int) (r.take (j + 1))).rs).length (rowsQ (pre ++ (qRun (k : Int) (r.take (j + 1))).rs)) by
                  rw [HNX.out, ← hW9]
                  dsimp only
                  rw [← List.append_assoc, List.length_append, HM0.out, show m0 + [(_ : Rc)].length = m from HM2.out.symm]
                  exact own_stays hN.out fun c _ => rfl)
                have HB9 := Lib.hid (show Below w.heap.size w W9 by rw [← hW9]; exact (HB3.out.setCell (p := ⟨g, m0 * 4 + 2, none⟩) hB _).drew)
                rw [hW9]
                clear hW9 hb9 hfz hcl hgw
                go_wp2_with fail
                go_roundw
                case measure => have := HLT.out; simp [intOf]; omega
                case rel => exact ⟨j + 1, by go_num, HLT.out, by rw [HNX.out], HO9, HB9⟩
              · have z5 : (y.lk == x.lk) = false := by rw [hah] at he; simp; exact fun e => he e.symm
                have HNX := Lib.hid (show qRun (k : Int) (r.take (j + 1)) = ⟨rs ++ [⟨(k : Int), col, x.wd, x.lk⟩], wrap64 (col + x.wd), x.lk⟩ by rw [HST.out]; simp only [qStep]; rw [if_neg hz, if_neg he, HWF.out])
                clear hz he hprev hfirst hgy hah hj0 hmm
                go_upto_region 9 with fail
                go_quiet (fail)
                have hq := dn_below (Below.refl (wr.alloc (.cells #[.string x.t, .int .i64 x.wd, .int .i64 x.at_, .int .i64 x.co, .int .i64 x.lk] 59)).heap.size (wr.alloc (.cells #[.string x.t, .int .i64 x.wd, .int .i64 x.at_, .int .i64 x.co, .int .i64 x.lk] 59))) nq
                obtain ⟨W2, hW2⟩ : ∃ W2, (wr.alloc (.cells #[.string x.t, .int .i64 x.wd, .int .i64 x.at_, .int .i64 x.co, .int .i64 x.lk] 59)).drewN nq = W2 := ⟨_, rfl⟩
                rw [hW2] at hq ⊢
                have hb2 := (hq.block wr.heap.size (by simp)).trans HBX.out
                have e1 : W2.cell? ⟨wr.heap.size, 1, none⟩ = some (.int .i64 x.wd) := by rw [cell_of_row _ _ _ _ _ _ hb2]; rfl
                have e4 : W2.cell? ⟨wr.heap.size, 4, none⟩ = some (.int .i64 x.lk) := by rw [cell_of_row _ _ _ _ _ _ hb2]; rfl
                have HO3 := Lib.hid (own_below HO2.out hq)
                have HB3 := Lib.hid (HB2.out.trans (hq.mono HB2.out.size))
                have HBZ := Lib.hid hb2
                clear hW2 hq hb2
                have hA3 := below_box W2 (.cells #[.int .i64 (k : Int), .int .i64 col, .int .i64 x.wd, .int .i64 x.lk] 53)
                have HO4 := Lib.hid (own_below HO3.out hA3)
                have HB4 := Lib.hid (HB3.out.trans (hA3.mono HB3.out.size))
                have L3 := Lib.hid HB4.out.size
                have hlt2 : wr.heap.size < W2.heap.size := (Array.getElem?_eq_some_iff.1 HBZ.out).1
                have HBX3 := Lib.hid ((hA3.block wr.heap.size hlt2).trans HBZ.out)
                have HL2 := Lib.hid (show wr.heap.size < (W2.alloc (.cells #[.int .i64 (k : Int), .int .i64 col, .int .i64 x.wd, .int .i64 x.lk] 53)).heap.size from Nat.lt_of_lt_of_le hlt2 hA3.size)
                clear hA3 hlt2
                go_wp2_with (at_builtin; go_loud (refine wpList_append_own _ rfl _ _ 26 rfl w.heap.size 53 i0 _ 4 32 Tryz.underlying26 hi0 hz0 hz1 hz2 rfl (by decide) _ _ _ rfl HO4.out ⟨W2.heap.size, 0, none⟩ 1 1 (rcRow ⟨(k : Int), col, x.wd, x.lk⟩) rfl rfl (cells_newL _ _ _) (rcRow_one _) L1.out L2.out L3.out ?_); intro v7 w7 hown7 hg7 _; have HO7 := Lib.hid hown7; have HB7 := Lib.hid (HB4.out.grown hg7 L3.out (fun c hc => (own_base HO4.out hc).1)); have hb7 := (hg7.block wr.heap.size HL2.out (fun e => absurd (HNE.out _ e.symm) (by omega))).trans HBX3.out; have e1 : w7.cell? ⟨wr.heap.size, 1, none⟩ = some (.int .i64 x.wd) := (by rw [cell_of_row _ _ _ _ _ _ hb7]; rfl); clear hown7 hg7 hb7)
                have HO8 := Lib.hid (show w7.ownsRow w.heap.size 53 4 v7 (pre ++ (qRun (k : Int) (r.take (j + 1))).rs).length (rowsQ (pre ++ (qRun (k : Int) (r.take (j + 1))).rs)) by
                  rw [HNX.out]; dsimp only; rw [← List.append_assoc, List.length_append, HM.out, rowsQ_snoc]; exact HO7.out)
                go_wp2_with fail
                go_roundw
                case measure => have := HLT.out; simp [intOf]; omega
                case rel => exact ⟨j + 1, by go_num, HLT.out, by rw [HNX.out], HO8, HB7⟩
        · obtain rfl : j = rl := by omega
          have hzj : ¬ (j : Int) < j := by omega
          have HO9 := Lib.hid (show wr.ownsRow w.heap.size 53 4 _ (rectsL (ls.take (k + 1))).length (rowsQ (rectsL (ls.take (k + 1)))) by
            have h := HO.out
            rw [List.take_of_length_le (by rw [HRL.out]; exact Nat.le_refl _)] at h
            rw [HSN.out]
            exact h)
          obtain ⟨z, hz⟩ : ∃ z, (qRun (k : Int) (r.take j)).col = z := ⟨_, rfl⟩
          rw [hz]
          clear hlt hz
          go_wp2_with fail
          go_roundw
          case measure => have := HKT.out; simp [intOf]; omega
          case rel => exact ⟨k + 1, by go_num, HKT.out, HO9, HBj⟩
    · obtain rfl : k = n := by omega
      have hzk : ¬ (k : Int) < k := by omega
      have HF := Lib.hid (show ls.take k = ls by rw [← HN.out, List.take_length])
      clear hlt
      go_wp2_with fail
      go_ret
      refine ⟨_, rfl, ?_, HB.out⟩
      have h := HO.out
      rw [HF.out] at h
      exact h
end Go.Proofs.YtalomeialegmiaaGreatDoor.Tb
end
section
namespace Go.Proofs.YtalomeialegmiaaGreatDoor.Tb
open Go.Deep Go.ChangeShapes Go.WideShapes Go.RowKit Go.Maps
set_option linter.unusedVariables false
set_option linter.unusedSimpArgs false
set_option maxRecDepth 100000
theorem kQ : Tryz.prog.cellsOf 53 = 4 := by kernel_rfl
theorem kT : Tryz.prog.cellsOf 55 = 2 := by kernel_rfl
theorem kH : Tryz.prog.cellsOf 46 = 2 := by kernel_rfl
theorem kB : Tryz.prog.cellsOf 4 = 1 := by kernel_rfl
theorem kLs : Tryz.prog.cellsOf 25 = 1 := by kernel_rfl
theorem kQs : Tryz.prog.cellsOf 26 = 1 := by kernel_rfl
theorem kTs : Tryz.prog.cellsOf 27 = 1 := by kernel_rfl
theorem kD : Tryz.prog.cellsOf 29 = 4 := by kernel_rfl
theorem arr_of {cs : Array Value} {l : List Value} (h : (Value.agg cs).cells.toList = l) : Value.agg cs = .agg l.toArray := by
  subst h; simp [Value.cells]
def sumN {α : Type} (m : α → Nat) : List α → Nat
  | [] => 0
  | a :: r => m a + sumN m r
theorem bulk_all {H : Type} {α : Type} (m : α → Nat) : ∀ zs : List (α × DataW H), (∀ z ∈ zs, m z.1 ≤ Rows.uptoBulk z.2) → sumN m (zs.map (·.1)) ≤ Rows.uptoBulkAll (zs.map (·.2))
  | [], _ => by simp [sumN, Rows.uptoBulkAll]
  | z :: r, h => by
    have h1 := bulk_all m r fun x hx => h x (List.mem_cons_of_mem _ hx)
    have h2 := h z (by simp)
    simp only [List.map_cons, sumN, Rows.uptoBulkAll]
    omega
theorem sumN_mem {α : Type} (m : α → Nat) : ∀ {l : List α} {a : α}, a ∈ l → m a ≤ sumN m l
  | [], a, h => by cases h
  | b :: r, a, h => by
    simp only [sumN]
    rcases List.mem_cons.1 h with rfl | h
    · omega
    · have := sumN_mem m h
      omega
theorem bulk_pos {H : Type} : ∀ d : DataW H, 1 ≤ Rows.uptoBulk d
  | .lit (.string _) => by simp [Rows.uptoBulk]
  | .lit (.int _ _) => by simp [Rows.uptoBulk]
  | .lit (.bool _) => by simp [Rows.uptoBulk]
  | .lit (.float _ _) => by simp [Rows.uptoBulk]
  | .lit .nil => by simp [Rows.uptoBulk]
  | .nil => by simp [Rows.uptoBulk]
  | .ptr d => by simp [Rows.uptoBulk]
  | .slice _ _ => by simp [Rows.uptoBulk]
  | .agg _ => by simp [Rows.uptoBulk]
  | .iface _ _ => by simp [Rows.uptoBulk]
  | .map _ => by simp [Rows.uptoBulk]
  | .held _ => by simp [Rows.uptoBulk]
section
variable {H : Type} {enc : TypeId × Value → H} {W : World}
/-- A slice of rows of some cells each, place by place with its reading. -/
theorem rows_read2 {α : Type} {t e : TypeId} {c : Nat} {v : Value} {n : Nat} {x : DataW H × List MemPlace} (ht : Tryz.prog.underlying t = some (.slice e)) (hc : Tryz.prog.cellsOf e = c) (hc0 : 0 < c) (z : α) (row : α → List Value) (R : α → DataW H → Prop)
    (hr : ∀ {n : Nat} {cs : List Value} {x : DataW H × List MemPlace}, DataW.trod enc Tryz.prog W 0 (fun _ => true) true n e cs = some x → ∃ a, cs = row a ∧ R a x.1) (hlen : ∀ a, (row a).length = c)
    (hn : DataW.trod enc Tryz.prog W 0 (fun _ => true) true n t [v] = some x) :
    ∃ (pa : Option Addr) (cap : Nat) (zs : List (α × DataW H)), v = .slice pa zs.length cap ∧ zs.length ≤ cap ∧ cap ≤ maxLen ∧ (∀ j (hj : j < zs.length), ∃ b off, pa = some ⟨b, off, none⟩ ∧ ∀ k u, (row zs[j].1)[k]? = some u → W.cell? ⟨b, off + j * c + k, none⟩ = some u) ∧
      (∀ z ∈ zs, R z.1 z.2) ∧ Rows.uptoBulkAll (zs.map (·.2)) ≤ Rows.uptoBulk x.1 := by
  rcases open_slice ht hn with ⟨h3, h4⟩ | ⟨a, len, cap, m, n', D, Pl, h3, _, hlc, hcm, hm, hx, hall⟩
  · simp at h3
    subst h3 h4
    exact ⟨none, 0, [], rfl, Nat.le_refl _, by decide, fun j hj => absurd hj (by simp), fun z hz => absurd hz (by simp), by simp [Rows.uptoBulkAll]⟩
  · simp at h3
    subst h3
    have hmc : m = cap := by simpa using hm
    subst hmc
    subst hx
    obtain ⟨b, off, spot⟩ := a
    have hspot : 0 < len → spot = none := fun h0 => by
      obtain ⟨cs0, h01, h02⟩ := hall 0 (Nat.lt_of_lt_of_le h0 hlc)
      obtain ⟨s0, rfl, _⟩ := hr h02
      rw [hc] at h01
      obtain ⟨_, hl1, hc0'⟩ := World.cells?_some h01
      have := hc0' 0 hc0
      have hz : (row s0)[0]? = some (row s0)[0] := List.getElem?_eq_getElem (by rw [hlen]; exact hc0)
      rw [hz] at this
      simpa [Addr.add] using World.cell?_spot this
    obtain ⟨f, hf⟩ := choose_n (R := fun i (s : α) => R s (D i) ∧ ∀ k u, (row s)[k]? = some u → W.cell? ⟨b, off + i * c + k, none⟩ = some u) z (fun i hi => by
      obtain ⟨cs', h1, h2⟩ := hall i (show i < m from Nat.lt_of_lt_of_le (show i < len from hi) hlc)
      obtain ⟨s, rfl, hs⟩ := hr h2
      rw [hc] at h1
      obtain ⟨_, _, hcell⟩ := World.cells?_some h1
      have hsp := hspot (by omega)
      subst hsp
      refine ⟨s, hs, fun k u hk => ?_⟩
      have hk5 : k < c := by
        rcases Nat.lt_or_ge k c with h | h
        · exact h
        · rw [List.getElem?_eq_none (by rw [hlen]; exact h)] at hk; cases hk
      have := hcell k hk5
      rw [add_add, add_plain] at this
      rw [← hk, ← this, Nat.add_assoc])
    refine ⟨some ⟨b, off, spot⟩, m, (List.range len).map fun i => (f i, D i), by simp, by simpa using hlc, by assumption, fun j hj => ?_, fun s hs => ?_, ?_⟩
    · have hj' : j < len := by simpa using hj
      have hsp := hspot (by omega)
      subst hsp
      refine ⟨b, off, rfl, ?_⟩
      simp only [List.getElem_map, List.getElem_range]
      exact (hf j hj').2
    · obtain ⟨i, hi, rfl⟩ := List.mem_map.1 hs
      exact (hf i (by simpa using hi)).1
    · rw [List.map_map]
      show Rows.uptoBulkAll ((List.range len).map D) ≤ _
      simp only [Rows.uptoBulk]
      omega
theorem gl_cells2 {n : Nat} {cs : List Value} {x : DataW H × List MemPlace} (h : DataW.trod enc Tryz.prog W 0 (fun _ => true) true n 59 cs = some x) : ∃ g : Gl, cs = glRow g ∧ wrap64 g.wd = g.wd ∧ g.t.size + 1 ≤ Rows.uptoBulk x.1 := by
  obtain ⟨xs, m, _, rfl, hl, hlen, hf⟩ := DataW.trod_struct Tryz.underlying59 h
  have hl8 : cs.length = 5 := hl.trans kG
  have hl9 : xs.length = 4 := hlen
  match cs, hl8, xs, hl9 with
  | [c0, c1, c2, c3, c4], _, [y0, y1, y2, y3], _ =>
    have h0 := hf 0 _ rfl
    have h1 := hf 1 _ rfl
    have h2 := hf 2 _ rfl
    have h3 := hf 3 _ rfl
    simp [kI, kS, kLk] at h0 h1 h2 h3
    obtain ⟨s0, e0, d0, _⟩ := DataW.trod_string Tryz.underlying9 h0
    obtain ⟨z1, e1, _, w1⟩ := DataW.trod_int Tryz.underlying3 h1
    obtain ⟨z4, e4, _⟩ := DataW.trod_int Tryz.underlying3 h3
    obtain ⟨ys, m2, _, _, hl2, hlen2, hf2⟩ := DataW.trod_struct Tryz.underlying57 h2
    have hl7 : ys.length = 2 := hlen2
    match ys, hl7 with
    | [q0, q1], _ =>
      have g0 := hf2 0 _ rfl
      have g1 := hf2 1 _ rfl
      simp [kI] at g0 g1
      obtain ⟨z2, e2, _⟩ := DataW.trod_int Tryz.underlying3 g0
      obtain ⟨z3, e3, _⟩ := DataW.trod_int Tryz.underlying3 g1
      simp at e0 e1 e2 e3 e4
      subst e0 e1 e2 e3 e4 d0
      have hw := in64_wf w1
      unfold In64 at hw
      refine ⟨⟨s0, z1, z2, z3, z4⟩, rfl, by unfold wrap64; simp only; omega, ?_⟩
      simp only [List.map_cons, List.map_nil, Rows.uptoBulk, Rows.uptoBulkAll]
      rw [sizeT]
      omega
theorem txtL_sum : ∀ l : List Gl, (txtL l).length + l.length = sumN (fun g : Gl => g.t.size + 1) l
  | [] => rfl
  | g :: l => by
    have := txtL_sum l
    simp only [txtL, sumN, List.length_append, List.length_cons, sizeT]
    omega
theorem gls_read2 {v : Value} {n : Nat} {x : DataW H × List MemPlace} (hn : DataW.trod enc Tryz.prog W 0 (fun _ => true) true n 50 [v] = some x) :
    ∃ l : List Gl, RdG (fun _ => True) W v l ∧ OkW l ∧ (txtL l).length + l.length ≤ Rows.uptoBulk x.1 := by
  obtain ⟨pa, cap, zs, e, h1, h2, hc, hd, hb⟩ := rows_read2 Tryz.underlying50 kG (by decide) (⟨⟨#[]⟩, 0, 0, 0, 0⟩ : Gl) glRow (fun g d => wrap64 g.wd = g.wd ∧ g.t.size + 1 ≤ Rows.uptoBulk d) (fun h => gl_cells2 h) (fun _ => rfl) hn
  refine ⟨zs.map (·.1), ⟨pa, cap, by rw [List.length_map]; exact e, by rw [List.length_map]; exact h1, h2, fun j hj => ?_⟩, fun g hg => ?_, ?_⟩
  · obtain ⟨b, off, e2, hc2⟩ := hc j (by simpa using hj)
    rw [List.getElem_map]
    exact ⟨b, off, e2, trivial, hc2 0 _ rfl, hc2 1 _ rfl, hc2 2 _ rfl, hc2 3 _ rfl, hc2 4 _ rfl⟩
  · obtain ⟨z, hz, rfl⟩ := List.mem_map.1 hg
    exact (hd z hz).1
  · rw [txtL_sum]
    exact Nat.le_trans (bulk_all _ zs fun z hz => (hd z hz).2) hb
/-- How much lines of glyphs hold. -/
def glB (ls : List (List Gl)) : Nat := sumN (fun l : List Gl => (txtL l).length + l.length) ls
theorem glB_flat : ∀ ls : List (List Gl), ls.flatten.length ≤ glB ls
  | [] => by simp [glB, sumN]
  | l :: r => by
    have := glB_flat r
    unfold glB at this ⊢
    simp only [List.flatten_cons, List.length_append, sumN]
    omega
theorem lines_read {v : Value} {n : Nat} {x : DataW H × List MemPlace} (hn : DataW.trod enc Tryz.prog W 0 (fun _ => true) true n 25 [v] = some x) :
    ∃ ls : List (List Gl), RdL (fun _ => True) W v ls ∧ (∀ l ∈ ls, OkW l) ∧ glB ls ≤ Rows.uptoBulk x.1 ∧ ls.length ≤ Rows.uptoBulk x.1 := by
  obtain ⟨pa, cap, zs, e, h1, h2, hc, hd, hb⟩ := rows_read2 (α := Value × List Gl) Tryz.underlying25 kL (by decide) (.slice none 0 0, []) (fun a => [a.1]) (fun a d => RdG (fun _ => True) W a.1 a.2 ∧ OkW a.2 ∧ (txtL a.2).length + a.2.length ≤ Rows.uptoBulk d) (fun {n cs x} h => by
    obtain ⟨c, rfl⟩ : ∃ c, cs = [c] := by
      rcases open_slice Tryz.underlying50 h with ⟨h3, _⟩ | ⟨a, l, c', m, n', D, Pl, h3, _⟩
      · exact ⟨_, h3⟩
      · exact ⟨_, h3⟩
    obtain ⟨g, hr, hd⟩ := gls_read2 h
    exact ⟨(c, g), rfl, hr, hd⟩) (fun _ => rfl) hn
  refine ⟨zs.map (·.1.2), ⟨pa, cap, by rw [List.length_map]; exact e, by rw [List.length_map]; exact h1, h2, fun j hj => ?_⟩, fun l hl => ?_, ?_, ?_⟩
  · have hj' : j < zs.length := by simpa using hj
    obtain ⟨b, off, e2, hc2⟩ := hc j hj'
    have h0 := hc2 0 _ rfl
    rw [Nat.mul_one, Nat.add_zero] at h0
    refine ⟨b, off, _, e2, trivial, h0, ?_⟩
    rw [List.getElem_map]
    exact (hd _ (List.getElem_mem hj')).1
  · obtain ⟨z, hz, rfl⟩ := List.mem_map.1 hl
    exact (hd z hz).2.1
  · have h3 := bulk_all (fun a : Value × List Gl => (txtL a.2).length + a.2.length) zs fun z hz => (hd z hz).2.2
    have h4 : ∀ zs : List ((Value × List Gl) × DataW H), glB (zs.map (·.1.2)) = sumN (fun a : Value × List Gl => (txtL a.2).length + a.2.length) (zs.map (·.1)) := by
      intro zs
      induction zs with
      | nil => rfl
      | cons z r ih => simp only [List.map_cons, glB, sumN] at ih ⊢; rw [ih]
    rw [h4]
    exact Nat.le_trans h3 hb
  · have h3 := bulk_all (fun _ : Value × List Gl => 1) zs fun z hz => bulk_pos _
    have h4 : ∀ l : List (Value × List Gl), sumN (fun _ => 1) l = l.length := by
      intro l
      induction l with
      | nil => rfl
      | cons z r ih => simp only [sumN, List.length_cons, ih]; omega
    rw [h4, List.length_map] at h3
    rw [List.length_map]
    omega
theorem rc_cells {n : Nat} {cs : List Value} {x : DataW H × List MemPlace} (h : DataW.trod enc Tryz.prog W 0 (fun _ => true) true n 53 cs = some x) : ∃ r : Rc, cs = rcRow r ∧ True := by
  obtain ⟨xs, m, _, rfl, hl, hlen, hf⟩ := DataW.trod_struct Tryz.underlying53 h
  have hl8 : cs.length = 4 := hl.trans kQ
  have hl9 : xs.length = 4 := hlen
  match cs, hl8, xs, hl9 with
  | [c0, c1, c2, c3], _, [y0, y1, y2, y3], _ =>
    have h0 := hf 0 _ rfl
    have h1 := hf 1 _ rfl
    have h2 := hf 2 _ rfl
    have h3 := hf 3 _ rfl
    simp [kI] at h0 h1 h2 h3
    obtain ⟨z0, e0, _⟩ := DataW.trod_int Tryz.underlying3 h0
    obtain ⟨z1, e1, _⟩ := DataW.trod_int Tryz.underlying3 h1
    obtain ⟨z2, e2, _⟩ := DataW.trod_int Tryz.underlying3 h2
    obtain ⟨z3, e3, _⟩ := DataW.trod_int Tryz.underlying3 h3
    simp at e0 e1 e2 e3
    subst e0 e1 e2 e3
    exact ⟨⟨z0, z1, z2, z3⟩, rfl, trivial⟩
theorem rcs_read {v : Value} {n : Nat} {x : DataW H × List MemPlace} (hn : DataW.trod enc Tryz.prog W 0 (fun _ => true) true n 26 [v] = some x) : ∃ l : List Rc, RdQ (fun _ => True) W v l := by
  obtain ⟨pa, cap, zs, e, h1, h2, hc, hd, hb⟩ := rows_read2 Tryz.underlying26 kQ (by decide) (⟨0, 0, 0, 0⟩ : Rc) rcRow (fun _ _ => True) (fun h => rc_cells h) (fun _ => rfl) hn
  refine ⟨zs.map (·.1), pa, cap, by rw [List.length_map]; exact e, by rw [List.length_map]; exact h1, h2, fun j hj => ?_⟩
  obtain ⟨b, off, e2, hc2⟩ := hc j (by simpa using hj)
  rw [List.getElem_map]
  exact ⟨b, off, e2, trivial, hc2 0 _ rfl, hc2 1 _ rfl, hc2 2 _ rfl, hc2 3 _ rfl⟩
theorem tg_cells {n : Nat} {cs : List Value} {x : DataW H × List MemPlace} (h : DataW.trod enc Tryz.prog W 0 (fun _ => true) true n 55 cs = some x) : ∃ c : Int × Int, cs = colRow c ∧ True := by
  obtain ⟨xs, m, _, rfl, hl, hlen, hf⟩ := DataW.trod_struct Tryz.underlying55 h
  have hl8 : cs.length = 2 := hl.trans kT
  have hl9 : xs.length = 2 := hlen
  match cs, hl8, xs, hl9 with
  | [c0, c1], _, [y0, y1], _ =>
    have h0 := hf 0 _ rfl
    have h1 := hf 1 _ rfl
    simp [kI] at h0 h1
    obtain ⟨z0, e0, _, w0⟩ := DataW.trod_int Tryz.underlying3 h0
    obtain ⟨z1, e1, _, w1⟩ := DataW.trod_int Tryz.underlying3 h1
    simp at e0 e1
    subst e0 e1
    exact ⟨(z0, z1), rfl, trivial⟩
theorem tgs_read {v : Value} {n : Nat} {x : DataW H × List MemPlace} (hn : DataW.trod enc Tryz.prog W 0 (fun _ => true) true n 27 [v] = some x) : ∃ l : List (Int × Int), RdC (fun _ => True) W v l := by
  obtain ⟨pa, cap, zs, e, h1, h2, hc, hd, hb⟩ := rows_read2 Tryz.underlying27 kT (by decide) ((0, 0) : Int × Int) colRow (fun _ _ => True) (fun h => tg_cells h) (fun _ => rfl) hn
  refine ⟨zs.map (·.1), pa, cap, by rw [List.length_map]; exact e, by rw [List.length_map]; exact h1, h2, fun j hj => ?_⟩
  obtain ⟨b, off, e2, hc2⟩ := hc j (by simpa using hj)
  rw [List.getElem_map]
  exact ⟨b, off, e2, trivial, hc2 0 _ rfl, hc2 1 _ rfl⟩
theorem ht_cells {n : Nat} {cs : List Value} {x : DataW H × List MemPlace} (h : DataW.trod enc Tryz.prog W 0 (fun _ => true) true n 46 cs = some x) : ∃ c : Int × Int, cs = colRow c ∧ In64 c.1 ∧ In64 c.2 := by
  obtain ⟨xs, m, _, rfl, hl, hlen, hf⟩ := DataW.trod_struct Tryz.underlying46 h
  have hl8 : cs.length = 2 := hl.trans kH
  have hl9 : xs.length = 2 := hlen
  match cs, hl8, xs, hl9 with
  | [c0, c1], _, [y0, y1], _ =>
    have h0 := hf 0 _ rfl
    have h1 := hf 1 _ rfl
    simp [kI] at h0 h1
    obtain ⟨z0, e0, _, w0⟩ := DataW.trod_int Tryz.underlying3 h0
    obtain ⟨z1, e1, _, w1⟩ := DataW.trod_int Tryz.underlying3 h1
    simp at e0 e1
    subst e0 e1
    exact ⟨(z0, z1), rfl, in64_wf w0, in64_wf w1⟩
theorem hits_read {v : Value} {d : DataW H} {p : List MemPlace} (h : DataW.Trod enc Tryz.prog W 0 (fun _ => true) true 42 v d p) (hv : ∃ pa len cap, v = .slice pa len cap) :
    ∃ l : List (Int × Int), RdC (fun _ => True) W v l ∧ ∀ c ∈ l, In64 c.1 ∧ In64 c.2 := by
  obtain ⟨pa, len, cap, rfl⟩ := hv
  obtain ⟨n, hn⟩ := h
  obtain ⟨pa, cap, zs, e, h1, h2, hc, hd, hb⟩ := rows_read2 Tryz.underlying42 kH (by decide) ((0, 0) : Int × Int) colRow (fun c _ => In64 c.1 ∧ In64 c.2) (fun h => ht_cells h) (fun _ => rfl) hn
  refine ⟨zs.map (·.1), ⟨pa, cap, by rw [List.length_map]; exact e, by rw [List.length_map]; exact h1, h2, fun j hj => ?_⟩, fun c hc => ?_⟩
  · obtain ⟨b, off, e2, hc2⟩ := hc j (by simpa using hj)
    rw [List.getElem_map]
    exact ⟨b, off, e2, trivial, hc2 0 _ rfl, hc2 1 _ rfl⟩
  · obtain ⟨z, hz, rfl⟩ := List.mem_map.1 hc
    exact hd z hz
/-- A layout that came in by value. -/
theorem laid_read {base : Nat} {v : Value} {d : DataW H} {p : List MemPlace} (h : DataW.Trod enc Tryz.prog W 0 (fun _ => true) true 29 v d p) (hv : Value.okWide Tryz.prog W .any base 29 v) :
    ∃ (vl vr vk : Value) (o : Ld), v = laidV vl vr vk o.more ∧ LdIs (fun _ => True) W vl vr vk o ∧ glB o.lines ≤ Rows.uptoBulk d ∧ o.lines.length ≤ Rows.uptoBulk d := by
  obtain ⟨cs, rfl, _⟩ := okWide_struct Tryz.underlying29 hv
  obtain ⟨n, hn⟩ := h
  obtain ⟨xs, m, _, he, hl, hlen, hf⟩ := DataW.trod_struct Tryz.underlying29 hn
  cases he
  have hl8 : (Value.agg cs).cells.toList.length = 4 := hl.trans kD
  have hl9 : xs.length = 4 := hlen
  match hc : (Value.agg cs).cells.toList, hl8, xs, hl9 with
  | [c0, c1, c2, c3], _, [y0, y1, y2, y3], _ =>
    rw [hc] at hf
    have h0 := hf 0 _ rfl
    have h1 := hf 1 _ rfl
    have h2 := hf 2 _ rfl
    have h3 := hf 3 _ rfl
    simp [kLs, kQs, kTs, kB] at h0 h1 h2 h3
    obtain ⟨l0, r0, _, b0, b1⟩ := lines_read h0
    obtain ⟨l1, r1⟩ := rcs_read h1
    obtain ⟨l2, r2⟩ := tgs_read h2
    obtain ⟨z3, e3, _⟩ := DataW.trod_bool Tryz.underlying4 h3
    simp at e3
    subst e3
    refine ⟨c0, c1, c2, ⟨l0, l1, l2, z3⟩, arr_of hc, ⟨r0, r1, r2⟩, ?_, ?_⟩
    · simp only [List.map_cons, List.map_nil, Rows.uptoBulk, Rows.uptoBulkAll]
      omega
    · simp only [List.map_cons, List.map_nil, Rows.uptoBulk, Rows.uptoBulkAll]
      omega
end
end Go.Proofs.YtalomeialegmiaaGreatDoor.Tb
end
