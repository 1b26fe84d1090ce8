/- What a cursor over no bytes is asked, beside the document's. -/
import Derived.Test.YtcgeldmbndaocaaDoorNil
import Derived.Test.YtcgeldmbndaocaaDoorMore2
import Derived.RegionCalls
namespace Go.Proofs.YtcgeldmbndaocaaDoor
open Go.RowKit Go.Maps

theorem pout_nil (s : Nat × Int) (n : Int) : pout [] s n = [] := by
  unfold pout
  repeat' split
  all_goals simp
theorem pst_nil (f n : Int) : pst [] (0, f) n = (0, if n < 0 then stp f 1 else if 0 < n then stp f 30 else f) := by
  unfold pst stp
  by_cases hf : f = 0
  · subst hf
    simp
    split
    · rfl
    · split
      · rfl
      · rename_i h1 h2
        congr 1
        omega
  · rw [if_pos hf]
    simp [hf]
theorem uval_nil (f : Int) : uval [] (0, f) = 0 := by
  unfold uval
  simp [uscan]
theorem ust_nil (f : Int) : ust [] (0, f) = (0, stp f 30) := by
  unfold ust stp
  by_cases hf : f = 0
  · subst hf; simp [uscan]
  · simp [hf]
theorem ust_nil_bad (f : Int) : (ust [] (0, f)).2 ≠ 0 := by rw [ust_nil]; exact stp_bad f
/-- Both cursors have gone on alike. -/
def Alike (B g h : Nat) (w : World) (en : Ending) (w' : World) : Prop :=
  en = .returned (.bool true) ∧ ∃ f', Cur w' g [] 0 f' ∧ RCur w' h f' ∧ Below B w w'
theorem cell_new2 (w : World) (a b : Value) (t : TypeId) : (w.alloc (.cells #[a, b] t)).cell? ⟨w.heap.size, 0, none⟩ = some a ∧ (w.alloc (.cells #[a, b] t)).cell? ⟨w.heap.size, 1, none⟩ = some b := by
  exact ⟨by rw [World.cell?_alloc_mark w #[a, b] t (0, 0) 0]; rfl, by rw [World.cell?_alloc_mark w #[a, b] t (0, 0) 1]; rfl⟩
theorem rd_nil {w w' : World} {v : Value} (h : Rd w v []) : Rd w' v [] := by
  obtain ⟨pa, cap, e, k1, k2, _⟩ := h
  exact ⟨pa, cap, e, k1, k2, fun j hj => absurd hj (by simp)⟩
theorem may_nil : may ⟨([] : List UInt8).toArray⟩ = true := by decide +kernel

set_option maxRecDepth 100000 in
set_option maxHeartbeats 4000000 in
theorem asked_0 (B g h : Nat) (f n : Int) (w : World) (hc : Cur w g [] 0 f) (hr : RCur w h f) (hgh : g ≠ h) (hBg : B ≤ g) (hBh : B ≤ h) (hBw : B ≤ w.heap.size) (hn : -9223372036854775808 ≤ n ∧ n ≤ 9223372036854775807) (hT : ∀ w', Below B w w' → Tabs w') :
    Calls Tryd.prog 26 #[.pointer (some ⟨g, 0, none⟩), .pointer (some ⟨h, 0, none⟩), .agg #[.int .i64 0, .int .i64 n]] w (Alike B g h w) := by
  have BX := Lib.hid ((Below.refl w.heap.size w).alloc (Nat.le_refl _) (.cells #[.int .i64 0, .int .i64 n] 51))
  have C0 := Lib.hid (hc.below BX.out)
  have R0 := Lib.hid (hr.below BX.out)
  have GL := Lib.hid (show g < w.heap.size by obtain ⟨_, hb, _⟩ := hc; exact (Array.getElem?_eq_some_iff.1 hb).1)
  have HL := Lib.hid hr.lt
  have NE := Lib.hid hgh
  have BG := Lib.hid hBg
  have BH := Lib.hid hBh
  have HN := Lib.hid hn
  have HT := Lib.hid (show ∀ w', Below B (w.alloc (.cells #[.int .i64 0, .int .i64 n] 51)) w' → Tabs w' from fun w' hb => hT w' ((BX.out.mono hBw).trans hb))
  have B0 := Lib.hid (BX.out.mono hBw)
  have S0 := Lib.hid (Nat.le_trans hBw BX.out.size)
  obtain ⟨d0, d1⟩ := cell_new2 w (.int .i64 0) (.int .i64 n) 51
  clear hc hr hgh hBg hBh hn hT
  go_enter Tryd.func26, Tryd.ntmps26
  go_wp2_with fail
  refine (byte_pro g [] (0, f) _ C0.out).mono ?_
  rw [pout_nil, pst_nil, if_neg (by decide), if_pos (by decide)]
  rintro e w1 ⟨rfl, hc, hg⟩
  have C1 := Lib.hid hc
  have R1 := Lib.hid (R0.out.keep hg (fun e => NE.out e.symm))
  have B1 := Lib.hid (B0.out.grown hg S0.out (fun k hk => by cases hk; exact BG.out))
  clear hc hg
  go_wp2_with fail
  refine (fixed_ref h f 1 _ R1.out (by decide)).mono ?_
  rintro e w2 ⟨rfl, hc, hg⟩
  have R2 := Lib.hid hc
  have C2 := Lib.hid (C1.out.keep0 hg NE.out)
  have B2 := Lib.hid (B1.out.grown hg (Nat.le_trans hBw B1.out.size) (fun k hk => by cases hk; exact BH.out))
  clear hc hg
  go_wp2_with fail
  go_ret
  exact ⟨rfl, _, C2.out, R2.out, B2.out⟩

set_option maxRecDepth 100000 in
set_option maxHeartbeats 4000000 in
theorem asked_1 (B g h : Nat) (f n : Int) (w : World) (hc : Cur w g [] 0 f) (hr : RCur w h f) (hgh : g ≠ h) (hBg : B ≤ g) (hBh : B ≤ h) (hBw : B ≤ w.heap.size) (hn : -9223372036854775808 ≤ n ∧ n ≤ 9223372036854775807) (hT : ∀ w', Below B w w' → Tabs w') :
    Calls Tryd.prog 26 #[.pointer (some ⟨g, 0, none⟩), .pointer (some ⟨h, 0, none⟩), .agg #[.int .i64 1, .int .i64 n]] w (Alike B g h w) := by
  have BX := Lib.hid ((Below.refl w.heap.size w).alloc (Nat.le_refl _) (.cells #[.int .i64 1, .int .i64 n] 51))
  have C0 := Lib.hid (hc.below BX.out)
  have R0 := Lib.hid (hr.below BX.out)
  have GL := Lib.hid (show g < w.heap.size by obtain ⟨_, hb, _⟩ := hc; exact (Array.getElem?_eq_some_iff.1 hb).1)
  have HL := Lib.hid hr.lt
  have NE := Lib.hid hgh
  have BG := Lib.hid hBg
  have BH := Lib.hid hBh
  have HN := Lib.hid hn
  have HT := Lib.hid (show ∀ w', Below B (w.alloc (.cells #[.int .i64 1, .int .i64 n] 51)) w' → Tabs w' from fun w' hb => hT w' ((BX.out.mono hBw).trans hb))
  have B0 := Lib.hid (BX.out.mono hBw)
  have S0 := Lib.hid (Nat.le_trans hBw BX.out.size)
  obtain ⟨d0, d1⟩ := cell_new2 w (.int .i64 1) (.int .i64 n) 51
  clear hc hr hgh hBg hBh hn hT
  go_enter Tryd.func26, Tryd.ntmps26
  go_wp2_with fail
  refine (uint_pro g [] (0, f) _ C0.out).mono ?_
  rw [uval_nil, ust_nil]
  rintro e w1 ⟨rfl, hc, hg⟩
  have C1 := Lib.hid hc
  have R1 := Lib.hid (R0.out.keep hg (fun e => NE.out e.symm))
  have B1 := Lib.hid (B0.out.grown hg S0.out (fun k hk => by cases hk; exact BG.out))
  clear hc hg
  go_wp2_with fail
  refine (uint_ref h f _ R1.out).mono ?_
  rintro e w2 ⟨rfl, hc, hg⟩
  have R2 := Lib.hid hc
  have C2 := Lib.hid (C1.out.keep0 hg NE.out)
  have B2 := Lib.hid (B1.out.grown hg (Nat.le_trans hBw B1.out.size) (fun k hk => by cases hk; exact BH.out))
  clear hc hg
  go_wp2_with fail
  go_ret
  exact ⟨rfl, _, C2.out, R2.out, B2.out⟩

set_option maxRecDepth 100000 in
set_option maxHeartbeats 4000000 in
theorem asked_2 (B g h : Nat) (f n : Int) (w : World) (hc : Cur w g [] 0 f) (hr : RCur w h f) (hgh : g ≠ h) (hBg : B ≤ g) (hBh : B ≤ h) (hBw : B ≤ w.heap.size) (hn : -9223372036854775808 ≤ n ∧ n ≤ 9223372036854775807) (hT : ∀ w', Below B w w' → Tabs w') :
    Calls Tryd.prog 26 #[.pointer (some ⟨g, 0, none⟩), .pointer (some ⟨h, 0, none⟩), .agg #[.int .i64 2, .int .i64 n]] w (Alike B g h w) := by
  have BX := Lib.hid ((Below.refl w.heap.size w).alloc (Nat.le_refl _) (.cells #[.int .i64 2, .int .i64 n] 51))
  have C0 := Lib.hid (hc.below BX.out)
  have R0 := Lib.hid (hr.below BX.out)
  have GL := Lib.hid (show g < w.heap.size by obtain ⟨_, hb, _⟩ := hc; exact (Array.getElem?_eq_some_iff.1 hb).1)
  have HL := Lib.hid hr.lt
  have NE := Lib.hid hgh
  have BG := Lib.hid hBg
  have BH := Lib.hid hBh
  have HN := Lib.hid hn
  have HT := Lib.hid (show ∀ w', Below B (w.alloc (.cells #[.int .i64 2, .int .i64 n] 51)) w' → Tabs w' from fun w' hb => hT w' ((BX.out.mono hBw).trans hb))
  have B0 := Lib.hid (BX.out.mono hBw)
  have S0 := Lib.hid (Nat.le_trans hBw BX.out.size)
  obtain ⟨d0, d1⟩ := cell_new2 w (.int .i64 2) (.int .i64 n) 51
  clear hc hr hgh hBg hBh hn hT
  go_enter Tryd.func26, Tryd.ntmps26
  go_wp2_with fail
  refine (int_pro g [] (0, f) _ C0.out).mono ?_
  rw [uval_nil, ust_nil]
  rintro e w1 ⟨rfl, hc, hg⟩
  have C1 := Lib.hid hc
  have R1 := Lib.hid (R0.out.keep hg (fun e => NE.out e.symm))
  have B1 := Lib.hid (B0.out.grown hg S0.out (fun k hk => by cases hk; exact BG.out))
  clear hc hg
  go_wp2_with fail
  refine (int_ref h f _ R1.out).mono ?_
  rintro e w2 ⟨rfl, hc, hg⟩
  have R2 := Lib.hid hc
  have C2 := Lib.hid (C1.out.keep0 hg NE.out)
  have B2 := Lib.hid (B1.out.grown hg (Nat.le_trans hBw B1.out.size) (fun k hk => by cases hk; exact BH.out))
  clear hc hg
  go_wp2_with fail
  go_ret
  exact ⟨rfl, _, C2.out, R2.out, B2.out⟩

set_option maxRecDepth 100000 in
set_option maxHeartbeats 4000000 in
theorem asked_4 (B g h : Nat) (f n : Int) (w : World) (hc : Cur w g [] 0 f) (hr : RCur w h f) (hgh : g ≠ h) (hBg : B ≤ g) (hBh : B ≤ h) (hBw : B ≤ w.heap.size) (hn : -9223372036854775808 ≤ n ∧ n ≤ 9223372036854775807) (hT : ∀ w', Below B w w' → Tabs w') :
    Calls Tryd.prog 26 #[.pointer (some ⟨g, 0, none⟩), .pointer (some ⟨h, 0, none⟩), .agg #[.int .i64 4, .int .i64 n]] w (Alike B g h w) := by
  have BX := Lib.hid ((Below.refl w.heap.size w).alloc (Nat.le_refl _) (.cells #[.int .i64 4, .int .i64 n] 51))
  have C0 := Lib.hid (hc.below BX.out)
  have R0 := Lib.hid (hr.below BX.out)
  have GL := Lib.hid (show g < w.heap.size by obtain ⟨_, hb, _⟩ := hc; exact (Array.getElem?_eq_some_iff.1 hb).1)
  have HL := Lib.hid hr.lt
  have NE := Lib.hid hgh
  have BG := Lib.hid hBg
  have BH := Lib.hid hBh
  have HN := Lib.hid hn
  have HT := Lib.hid (show ∀ w', Below B (w.alloc (.cells #[.int .i64 4, .int .i64 n] 51)) w' → Tabs w' from fun w' hb => hT w' ((BX.out.mono hBw).trans hb))
  have B0 := Lib.hid (BX.out.mono hBw)
  have S0 := Lib.hid (Nat.le_trans hBw BX.out.size)
  obtain ⟨d0, d1⟩ := cell_new2 w (.int .i64 4) (.int .i64 n) 51
  clear hc hr hgh hBg hBh hn hT
  go_enter Tryd.func26, Tryd.ntmps26
  go_wp2_with fail
  refine (take16_pro g [] (0, f) _ C0.out).mono ?_
  rw [pout_nil, pst_nil, if_neg (by decide), if_pos (by decide)]
  rintro e w1 ⟨rfl, hc, hg⟩
  have C1 := Lib.hid hc
  have R1 := Lib.hid (R0.out.keep hg (fun e => NE.out e.symm))
  have B1 := Lib.hid (B0.out.grown hg S0.out (fun k hk => by cases hk; exact BG.out))
  clear hc hg
  go_wp2_with fail
  refine (fixed_ref h f 2 _ R1.out (by decide)).mono ?_
  rintro e w2 ⟨rfl, hc, hg⟩
  have R2 := Lib.hid hc
  have C2 := Lib.hid (C1.out.keep0 hg NE.out)
  have B2 := Lib.hid (B1.out.grown hg (Nat.le_trans hBw B1.out.size) (fun k hk => by cases hk; exact BH.out))
  clear hc hg
  go_wp2_with fail
  go_ret
  exact ⟨rfl, _, C2.out, R2.out, B2.out⟩

set_option maxRecDepth 100000 in
set_option maxHeartbeats 4000000 in
theorem asked_5 (B g h : Nat) (f n : Int) (w : World) (hc : Cur w g [] 0 f) (hr : RCur w h f) (hgh : g ≠ h) (hBg : B ≤ g) (hBh : B ≤ h) (hBw : B ≤ w.heap.size) (hn : -9223372036854775808 ≤ n ∧ n ≤ 9223372036854775807) (hT : ∀ w', Below B w w' → Tabs w') :
    Calls Tryd.prog 26 #[.pointer (some ⟨g, 0, none⟩), .pointer (some ⟨h, 0, none⟩), .agg #[.int .i64 5, .int .i64 n]] w (Alike B g h w) := by
  have BX := Lib.hid ((Below.refl w.heap.size w).alloc (Nat.le_refl _) (.cells #[.int .i64 5, .int .i64 n] 51))
  have C0 := Lib.hid (hc.below BX.out)
  have R0 := Lib.hid (hr.below BX.out)
  have GL := Lib.hid (show g < w.heap.size by obtain ⟨_, hb, _⟩ := hc; exact (Array.getElem?_eq_some_iff.1 hb).1)
  have HL := Lib.hid hr.lt
  have NE := Lib.hid hgh
  have BG := Lib.hid hBg
  have BH := Lib.hid hBh
  have HN := Lib.hid hn
  have HT := Lib.hid (show ∀ w', Below B (w.alloc (.cells #[.int .i64 5, .int .i64 n] 51)) w' → Tabs w' from fun w' hb => hT w' ((BX.out.mono hBw).trans hb))
  have B0 := Lib.hid (BX.out.mono hBw)
  have S0 := Lib.hid (Nat.le_trans hBw BX.out.size)
  obtain ⟨d0, d1⟩ := cell_new2 w (.int .i64 5) (.int .i64 n) 51
  clear hc hr hgh hBg hBh hn hT
  go_enter Tryd.func26, Tryd.ntmps26
  go_wp2_with fail
  refine (take32_pro g [] (0, f) _ C0.out).mono ?_
  rw [pout_nil, pst_nil, if_neg (by decide), if_pos (by decide)]
  rintro e w1 ⟨rfl, hc, hg⟩
  have C1 := Lib.hid hc
  have R1 := Lib.hid (R0.out.keep hg (fun e => NE.out e.symm))
  have B1 := Lib.hid (B0.out.grown hg S0.out (fun k hk => by cases hk; exact BG.out))
  clear hc hg
  go_wp2_with fail
  refine (fixed_ref h f 4 _ R1.out (by decide)).mono ?_
  rintro e w2 ⟨rfl, hc, hg⟩
  have R2 := Lib.hid hc
  have C2 := Lib.hid (C1.out.keep0 hg NE.out)
  have B2 := Lib.hid (B1.out.grown hg (Nat.le_trans hBw B1.out.size) (fun k hk => by cases hk; exact BH.out))
  clear hc hg
  go_wp2_with fail
  go_ret
  exact ⟨rfl, _, C2.out, R2.out, B2.out⟩

set_option maxRecDepth 100000 in
set_option maxHeartbeats 4000000 in
theorem asked_6 (B g h : Nat) (f n : Int) (w : World) (hc : Cur w g [] 0 f) (hr : RCur w h f) (hgh : g ≠ h) (hBg : B ≤ g) (hBh : B ≤ h) (hBw : B ≤ w.heap.size) (hn : -9223372036854775808 ≤ n ∧ n ≤ 9223372036854775807) (hT : ∀ w', Below B w w' → Tabs w') :
    Calls Tryd.prog 26 #[.pointer (some ⟨g, 0, none⟩), .pointer (some ⟨h, 0, none⟩), .agg #[.int .i64 6, .int .i64 n]] w (Alike B g h w) := by
  have BX := Lib.hid ((Below.refl w.heap.size w).alloc (Nat.le_refl _) (.cells #[.int .i64 6, .int .i64 n] 51))
  have C0 := Lib.hid (hc.below BX.out)
  have R0 := Lib.hid (hr.below BX.out)
  have GL := Lib.hid (show g < w.heap.size by obtain ⟨_, hb, _⟩ := hc; exact (Array.getElem?_eq_some_iff.1 hb).1)
  have HL := Lib.hid hr.lt
  have NE := Lib.hid hgh
  have BG := Lib.hid hBg
  have BH := Lib.hid hBh
  have HN := Lib.hid hn
  have HT := Lib.hid (show ∀ w', Below B (w.alloc (.cells #[.int .i64 6, .int .i64 n] 51)) w' → Tabs w' from fun w' hb => hT w' ((BX.out.mono hBw).trans hb))
  have B0 := Lib.hid (BX.out.mono hBw)
  have S0 := Lib.hid (Nat.le_trans hBw BX.out.size)
  obtain ⟨d0, d1⟩ := cell_new2 w (.int .i64 6) (.int .i64 n) 51
  clear hc hr hgh hBg hBh hn hT
  go_enter Tryd.func26, Tryd.ntmps26
  go_wp2_with fail
  have KD := Lib.hid (fun (w1 : World) (hg : (w.alloc (.cells #[.int .i64 6, .int .i64 n] 51)).grownBy w1 (some g)) => hg.cell d1 (by intro e; cases e; exact absurd GL.out (Nat.lt_irrefl _)))
  refine (take_pro g [] (0, f) n _ C0.out HN.out).mono ?_
  rw [pout_nil, pst_nil]
  rintro e w1 ⟨v7, rfl, ho, hc, hg⟩
  obtain ⟨p7, c7, rfl, _⟩ := (Rd.own ho).form
  have O1 := Lib.hid (Rd.own ho)
  have C1 := Lib.hid hc
  have D1 := KD.out _ hg
  have R1 := Lib.hid (R0.out.keep hg (fun e => NE.out e.symm))
  have B1 := Lib.hid (B0.out.grown hg S0.out (fun k hk => by cases hk; exact BG.out))
  clear ho hc hg KD d1 d0
  go_wp2_with fail
  refine (take_ref h f n _ R1.out).mono ?_
  rintro e w2 ⟨rfl, hc, hg⟩
  have R2 := Lib.hid hc
  have C2 := Lib.hid (C1.out.keep0 hg NE.out)
  have O2 := Lib.hid (show Rd w2 (.slice p7 ([] : List UInt8).length c7) [] from rd_nil O1.out)
  have B2 := Lib.hid (B1.out.grown hg (Nat.le_trans hBw B1.out.size) (fun k hk => by cases hk; exact BH.out))
  clear hc hg D1
  go_wp2_with fail
  refine (same_pro [] [] _ _ _ O2.out (Rd.nil _)).mono ?_
  rintro e w3 ⟨rfl, rfl⟩
  go_wp2_with fail
  go_loop [9, 86] (fun _ i => i = .int .i64 0) (fun _ _ => 0)
  case atStart => rfl
  case round =>
    obtain rfl := hrel
    go_wp2_with fail
    go_ret
    exact ⟨rfl, _, C2.out, R2.out, B2.out⟩

set_option maxRecDepth 100000 in
set_option maxHeartbeats 4000000 in
theorem asked_7 (B g h : Nat) (f n : Int) (w : World) (hc : Cur w g [] 0 f) (hr : RCur w h f) (hgh : g ≠ h) (hBg : B ≤ g) (hBh : B ≤ h) (hBw : B ≤ w.heap.size) (hn : -9223372036854775808 ≤ n ∧ n ≤ 9223372036854775807) (hT : ∀ w', Below B w w' → Tabs w') :
    Calls Tryd.prog 26 #[.pointer (some ⟨g, 0, none⟩), .pointer (some ⟨h, 0, none⟩), .agg #[.int .i64 7, .int .i64 n]] w (Alike B g h w) := by
  have BX := Lib.hid ((Below.refl w.heap.size w).alloc (Nat.le_refl _) (.cells #[.int .i64 7, .int .i64 n] 51))
  have C0 := Lib.hid (hc.below BX.out)
  have R0 := Lib.hid (hr.below BX.out)
  have GL := Lib.hid (show g < w.heap.size by obtain ⟨_, hb, _⟩ := hc; exact (Array.getElem?_eq_some_iff.1 hb).1)
  have HL := Lib.hid hr.lt
  have NE := Lib.hid hgh
  have BG := Lib.hid hBg
  have BH := Lib.hid hBh
  have HN := Lib.hid hn
  have HT := Lib.hid (show ∀ w', Below B (w.alloc (.cells #[.int .i64 7, .int .i64 n] 51)) w' → Tabs w' from fun w' hb => hT w' ((BX.out.mono hBw).trans hb))
  have B0 := Lib.hid (BX.out.mono hBw)
  have S0 := Lib.hid (Nat.le_trans hBw BX.out.size)
  obtain ⟨d0, d1⟩ := cell_new2 w (.int .i64 7) (.int .i64 n) 51
  clear hc hr hgh hBg hBh hn hT
  go_enter Tryd.func26, Tryd.ntmps26
  go_wp2_with fail
  have KD := Lib.hid (fun (w1 : World) (hg : (w.alloc (.cells #[.int .i64 7, .int .i64 n] 51)).grownBy w1 (some g)) => hg.cell d1 (by intro e; cases e; exact absurd GL.out (Nat.lt_irrefl _)))
  refine (bytes_of g [] (0, stp f 30) [] n _ (by have := counted_bad g [] (0, f) n _ C0.out HN.out (ust_nil_bad f); rw [ust_nil] at this; exact this) (by decide)).mono ?_
  rintro e w1 ⟨v7, rfl, ho, hc, hg⟩
  obtain ⟨p7, c7, rfl, _⟩ := (Rd.own ho).form
  have O1 := Lib.hid (Rd.own ho)
  have C1 := Lib.hid hc
  have D1 := KD.out _ hg
  have R1 := Lib.hid (R0.out.keep hg (fun e => NE.out e.symm))
  have B1 := Lib.hid (B0.out.grown hg S0.out (fun k hk => by cases hk; exact BG.out))
  clear ho hc hg KD d1 d0
  go_wp2_with fail
  refine (bytes_ref h f n _ R1.out).mono ?_
  rintro e w2 ⟨rfl, hc, hg⟩
  have R2 := Lib.hid hc
  have C2 := Lib.hid (C1.out.keep0 hg NE.out)
  have O2 := Lib.hid (show Rd w2 (.slice p7 ([] : List UInt8).length c7) [] from rd_nil O1.out)
  have B2 := Lib.hid (B1.out.grown hg (Nat.le_trans hBw B1.out.size) (fun k hk => by cases hk; exact BH.out))
  clear hc hg D1
  go_wp2_with fail
  refine (same_pro [] [] _ _ _ O2.out (Rd.nil _)).mono ?_
  rintro e w3 ⟨rfl, rfl⟩
  go_wp2_with fail
  go_loop [12, 111] (fun _ i => i = .int .i64 0) (fun _ _ => 0)
  case atStart => rfl
  case round =>
    obtain rfl := hrel
    go_wp2_with fail
    go_ret
    exact ⟨rfl, _, C2.out, R2.out, B2.out⟩

set_option maxRecDepth 100000 in
set_option maxHeartbeats 4000000 in
theorem asked_3 (B g h : Nat) (f n : Int) (w : World) (hc : Cur w g [] 0 f) (hr : RCur w h f) (hgh : g ≠ h) (hBg : B ≤ g) (hBh : B ≤ h) (hBw : B ≤ w.heap.size) (hn : -9223372036854775808 ≤ n ∧ n ≤ 9223372036854775807) (hT : ∀ w', Below B w w' → Tabs w') :
    Calls Tryd.prog 26 #[.pointer (some ⟨g, 0, none⟩), .pointer (some ⟨h, 0, none⟩), .agg #[.int .i64 3, .int .i64 n]] w (Alike B g h w) := by
  have BX := Lib.hid ((Below.refl w.heap.size w).alloc (Nat.le_refl _) (.cells #[.int .i64 3, .int .i64 n] 51))
  have C0 := Lib.hid (hc.below BX.out)
  have R0 := Lib.hid (hr.below BX.out)
  have GL := Lib.hid (show g < w.heap.size by obtain ⟨_, hb, _⟩ := hc; exact (Array.getElem?_eq_some_iff.1 hb).1)
  have HL := Lib.hid hr.lt
  have NE := Lib.hid hgh
  have BG := Lib.hid hBg
  have BH := Lib.hid hBh
  have HN := Lib.hid hn
  have HT := Lib.hid (show ∀ w', Below B (w.alloc (.cells #[.int .i64 3, .int .i64 n] 51)) w' → Tabs w' from fun w' hb => hT w' ((BX.out.mono hBw).trans hb))
  have B0 := Lib.hid (BX.out.mono hBw)
  have S0 := Lib.hid (Nat.le_trans hBw BX.out.size)
  obtain ⟨d0, d1⟩ := cell_new2 w (.int .i64 3) (.int .i64 n) 51
  clear hc hr hgh hBg hBh hn hT
  go_enter Tryd.func26, Tryd.ntmps26
  go_wp2_with fail
  have DD : Below (w.alloc (.cells #[.int .i64 3, .int .i64 n] 51)).heap.size (w.alloc (.cells #[.int .i64 3, .int .i64 n] 51)) (w.alloc (.cells #[.int .i64 3, .int .i64 n] 51)).drew := (Below.refl _ _).drew
  have C0' := Lib.hid (C0.out.below DD)
  have R0' := Lib.hid (R0.out.below DD)
  have B0' := Lib.hid (show Below B w (w.alloc (.cells #[.int .i64 3, .int .i64 n] 51)).drew from B0.out.drew)
  have S0' := Lib.hid (show B ≤ (w.alloc (.cells #[.int .i64 3, .int .i64 n] 51)).drew.heap.size from S0.out)
  have KD := Lib.hid (fun (w1 : World) (hg : (w.alloc (.cells #[.int .i64 3, .int .i64 n] 51)).drew.grownBy w1 (some g)) => hg.cell (show (w.alloc (.cells #[.int .i64 3, .int .i64 n] 51)).drew.cell? ⟨w.heap.size, 1, none⟩ = some (.int .i64 n) from d1) (by intro e; cases e; exact absurd GL.out (Nat.lt_irrefl _)))
  have IB := Lib.hid (show Calls Tryd.prog 47 #[.pointer (some ⟨g, 0, none⟩), .int .i64 n] (w.alloc (.cells #[.int .i64 3, .int .i64 n] 51)).drew fun en w' => en = .returned (.int .i64 0) ∧ Cur w' g [] 0 (stp f 30) ∧ (w.alloc (.cells #[.int .i64 3, .int .i64 n] 51)).drew.grownBy w' (some g) by have := index_bad g [] (0, f) n _ C0'.out HN.out (ust_nil_bad f); rw [ust_nil] at this; exact this)
  go_region_with (first
    | (go_at_call 47; refine IB.out.mono ?_; rintro e w1 ⟨rfl, hc, hg⟩; have C1 := Lib.hid hc; have D1 := KD.out _ hg; have R1 := Lib.hid (R0'.out.keep hg (fun e => NE.out e.symm)); have B1 := Lib.hid (B0'.out.grown hg S0'.out (fun k hk => by cases hk; exact BG.out)); clear hc hg)
    | (go_at_call 48; refine (index_ref h f n _ R1.out).mono ?_; rintro e w2 ⟨rfl, hc, hg⟩; have R2 := Lib.hid hc; have C2 := Lib.hid (C1.out.keep0 hg NE.out); have B2 := Lib.hid (B1.out.grown hg (Nat.le_trans hBw B1.out.size) (fun k hk => by cases hk; exact BH.out)); clear hc hg))
  all_goals
    go_wp2_with fail
    go_ret
    exact ⟨rfl, _, C2.out, R2.out, B2.out⟩

set_option maxRecDepth 100000 in
set_option maxHeartbeats 4000000 in
theorem asked_8 (B g h : Nat) (f n : Int) (w : World) (hc : Cur w g [] 0 f) (hr : RCur w h f) (hgh : g ≠ h) (hBg : B ≤ g) (hBh : B ≤ h) (hBw : B ≤ w.heap.size) (hn : -9223372036854775808 ≤ n ∧ n ≤ 9223372036854775807) (hT : ∀ w', Below B w w' → Tabs w') :
    Calls Tryd.prog 26 #[.pointer (some ⟨g, 0, none⟩), .pointer (some ⟨h, 0, none⟩), .agg #[.int .i64 8, .int .i64 n]] w (Alike B g h w) := by
  have BX := Lib.hid ((Below.refl w.heap.size w).alloc (Nat.le_refl _) (.cells #[.int .i64 8, .int .i64 n] 51))
  have C0 := Lib.hid (hc.below BX.out)
  have R0 := Lib.hid (hr.below BX.out)
  have GL := Lib.hid (show g < w.heap.size by obtain ⟨_, hb, _⟩ := hc; exact (Array.getElem?_eq_some_iff.1 hb).1)
  have HL := Lib.hid hr.lt
  have NE := Lib.hid hgh
  have BG := Lib.hid hBg
  have BH := Lib.hid hBh
  have HN := Lib.hid hn
  have HT := Lib.hid (show ∀ w', Below B (w.alloc (.cells #[.int .i64 8, .int .i64 n] 51)) w' → Tabs w' from fun w' hb => hT w' ((BX.out.mono hBw).trans hb))
  have B0 := Lib.hid (BX.out.mono hBw)
  have S0 := Lib.hid (Nat.le_trans hBw BX.out.size)
  obtain ⟨d0, d1⟩ := cell_new2 w (.int .i64 8) (.int .i64 n) 51
  clear hc hr hgh hBg hBh hn hT
  go_enter Tryd.func26, Tryd.ntmps26
  go_wp2_with fail
  have DD : Below (w.alloc (.cells #[.int .i64 8, .int .i64 n] 51)).heap.size (w.alloc (.cells #[.int .i64 8, .int .i64 n] 51)) (w.alloc (.cells #[.int .i64 8, .int .i64 n] 51)).drew := (Below.refl _ _).drew
  have C0' := Lib.hid (C0.out.below DD)
  have R0' := Lib.hid (R0.out.below DD)
  have B0' := Lib.hid (show Below B w (w.alloc (.cells #[.int .i64 8, .int .i64 n] 51)).drew from B0.out.drew)
  have S0' := Lib.hid (show B ≤ (w.alloc (.cells #[.int .i64 8, .int .i64 n] 51)).drew.heap.size from S0.out)
  have KD := Lib.hid (fun (w1 : World) (hg : (w.alloc (.cells #[.int .i64 8, .int .i64 n] 51)).drew.grownBy w1 (some g)) => hg.cell (show (w.alloc (.cells #[.int .i64 8, .int .i64 n] 51)).drew.cell? ⟨w.heap.size, 1, none⟩ = some (.int .i64 n) from d1) (by intro e; cases e; exact absurd GL.out (Nat.lt_irrefl _)))
  have TX := Lib.hid (show Calls Tryd.prog 38 #[.pointer (some ⟨g, 0, none⟩), .int .i64 n] (w.alloc (.cells #[.int .i64 8, .int .i64 n] 51)).drew fun en w' => en = .returned (.string ⟨#[]⟩) ∧ Cur w' g [] 0 (stp f 30) ∧ (w.alloc (.cells #[.int .i64 8, .int .i64 n] 51)).drew.grownBy w' (some g) from
    text_may g [] (0, f) (0, stp f 30) [] n _ C0'.out (by have := counted_bad g [] (0, f) n _ C0'.out HN.out (ust_nil_bad f); rw [ust_nil] at this; exact this) (by decide) (fun w' hg => HT.out w' ((show Below B (w.alloc (.cells #[.int .i64 8, .int .i64 n] 51)) (w.alloc (.cells #[.int .i64 8, .int .i64 n] 51)).drew from (Below.refl _ _).drew).grown hg S0'.out (fun k hk => by cases hk; exact BG.out))) may_nil)
  go_region_with (first
    | (go_at_call 38; refine TX.out.mono ?_; rintro e w1 ⟨rfl, hc, hg⟩; have C1 := Lib.hid hc; have D1 := KD.out _ hg; have R1 := Lib.hid (R0'.out.keep hg (fun e => NE.out e.symm)); have B1 := Lib.hid (B0'.out.grown hg S0'.out (fun k hk => by cases hk; exact BG.out)); clear hc hg)
    | (go_at_call 51; refine (text_ref h f n _ R1.out).mono ?_; rintro e w2 ⟨rfl, hc, hg⟩; have R2 := Lib.hid hc; have C2 := Lib.hid (C1.out.keep0 hg NE.out); have B2 := Lib.hid (B1.out.grown hg (Nat.le_trans hBw B1.out.size) (fun k hk => by cases hk; exact BH.out)); clear hc hg))
  all_goals
    go_wp2_with fail
    go_ret
    exact ⟨rfl, _, C2.out, R2.out, B2.out⟩
end Go.Proofs.YtcgeldmbndaocaaDoor
