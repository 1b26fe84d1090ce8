/- A nil cursor of layer 3; the document's cursor over no bytes. -/
import Derived.Test.YtcgeldmbndaocaaDoorMore
namespace Go.Proofs.YtcgeldmbndaocaaDoor
open Go.RowKit

set_option maxRecDepth 100000 in
set_option maxHeartbeats 2000000 in
theorem piece_nil (n : Int) (w : World) (hn : 0 < n) :
    Calls Tryd.prog 55 #[.pointer none, .int .i64 n] w fun en w' => en = .returned (.slice none 0 0) ∧ w = w' := by
  go_enter Tryd.func55, Tryd.ntmps55
  have t1 : ¬ n < 0 := by omega
  go_wp2_with fail
  refine (ahead_nil _).mono ?_
  rintro e w1 ⟨rfl, rfl⟩
  go_wp2_with fail
  refine (fail_nil 30 _).mono ?_
  rintro e w1 ⟨rfl, rfl⟩
  go_wp2_with fail
  refine (good_nil _).mono ?_
  rintro e w1 ⟨rfl, rfl⟩
  go_wp2_with fail
  go_ret
  exact ⟨rfl, rfl⟩
set_option maxRecDepth 100000 in
set_option maxHeartbeats 2000000 in
theorem byte_nil (w : World) :
    Calls Tryd.prog 30 #[.pointer none] w fun en w' => en = .returned (.int .u8 0) ∧ w = w' := by
  go_enter Tryd.func30, Tryd.ntmps30
  go_wp2_with fail
  refine (piece_nil 1 _ (by decide)).mono ?_
  rintro e w1 ⟨rfl, rfl⟩
  go_wp2_with fail
  refine (lowest_pro [] _ _ (Rd.nil _) (by decide)).mono ?_
  rintro e w2 ⟨rfl, rfl⟩
  go_wp2_with fail
  go_ret
  exact ⟨rfl, rfl⟩
set_option maxRecDepth 100000 in
set_option maxHeartbeats 2000000 in
theorem take_nil (w : World) :
    Calls Tryd.prog 32 #[.pointer none, .int .i64 1] w (Makes [] w) := by
  go_enter Tryd.func32, Tryd.ntmps32
  go_wp2_with fail
  refine (piece_nil 1 _ (by decide)).mono ?_
  rintro e w1 ⟨rfl, rfl⟩
  go_wp2_with fail
  refine (joined_pro [] [] _ _ _ (Rd.nil _) (Rd.nil _) (by decide)).mono ?_
  rintro e w2 ⟨v2, rfl, ho, hb⟩
  have HO := Lib.hid ho
  have HB := Lib.hid hb
  clear ho hb
  go_wp2_with fail
  go_ret
  exact ⟨_, rfl, HO.out, HB.out⟩
set_option maxRecDepth 100000 in
set_option maxHeartbeats 2000000 in
theorem uint_nil (w : World) :
    Calls Tryd.prog 31 #[.pointer none] w fun en w' => en = .returned (.int .u64 0) ∧ w = w' := by
  go_enter Tryd.func31, Tryd.ntmps31
  go_wp2_with fail
  go_step3
  go_wp2_with fail
  go_step3
  go_wp2_with fail
  refine (ahead_nil _).mono ?_
  rintro e' w1 ⟨rfl, rfl⟩
  go_wp2_with fail
  go_loop [3, 4, 5, 11] (fun n lg er i => n = .int .u64 0 ∧ lg = .int .i64 0 ∧ er = .int .i64 30 ∧ i = .int .i64 0) (fun _ _ _ _ => 0)
  case atStart => exact ⟨rfl, rfl, rfl, rfl⟩
  case round =>
    obtain ⟨rfl, rfl, rfl, rfl⟩ := hrel
    go_wp2_with fail
    refine (fail_nil 30 _).mono ?_
    rintro e' w2 ⟨rfl, rfl⟩
    go_wp2_with fail
    try rw [Exit.noGoto_ret]
    go_ret
    exact ⟨rfl, rfl⟩

/-- The document's cursor at block h, over no bytes, failed with f (0: not). -/
def RCur (w : World) (h : Nat) (f : Int) : Prop := w.heap[h]? = some (.cells #[.slice none 0 0, .int .i64 0, .int .i64 f] 49 (0, 0))
theorem RCur.cells {w : World} {h : Nat} {f : Int} (H : RCur w h f) : w.cell? ⟨h, 0, none⟩ = some (.slice none 0 0) ∧ w.cell? ⟨h, 1, none⟩ = some (.int .i64 0) ∧ w.cell? ⟨h, 2, none⟩ = some (.int .i64 f) ∧ w.frozen? ⟨h, 1, none⟩ = false ∧ w.frozen? ⟨h, 2, none⟩ = false := by
  unfold RCur at H
  simp [World.cell?, World.frozen?, H]
theorem RCur.lt {w : World} {h : Nat} {f : Int} (H : RCur w h f) : h < w.heap.size := (Array.getElem?_eq_some_iff.1 H).1
theorem RCur.keep {w w' : World} {h g : Nat} {f : Int} (H : RCur w h f) (hg : w.grownBy w' (some g)) (hne : h ≠ g) : RCur w' h f := (hg.block h H.lt (fun e => hne (by cases e; rfl))).trans H
theorem RCur.below {w w' : World} {h : Nat} {f : Int} (H : RCur w h f) (hb : Below w.heap.size w w') : RCur w' h f := (hb.block h H.lt).trans H
theorem Cur.keep0 {w w' : World} {h g : Nat} {f : Int} (H : Cur w g [] 0 f) (hg : w.grownBy w' (some h)) (hne : g ≠ h) : Cur w' g [] 0 f := by
  obtain ⟨v, hb, hr, h1, h2⟩ := H
  refine ⟨v, (hg.block g (Array.getElem?_eq_some_iff.1 hb).1 (fun e => hne (by cases e; rfl))).trans hb, ?_, h1, h2⟩
  obtain ⟨pa, cap, e, k1, k2, _⟩ := hr
  exact ⟨pa, cap, e, k1, k2, fun j hj => absurd hj (by simp)⟩
/-- What a failure makes of it. -/
def stp (f e : Int) : Int := if f = 0 then e else f
theorem rcur_set {w : World} {h : Nat} {f : Int} (H : RCur w h f) (u : Int) : RCur (w.setCell ⟨h, 2, none⟩ (.int .i64 u)) h u ∧ w.grownBy (w.setCell ⟨h, 2, none⟩ (.int .i64 u)) (some h) :=
  ⟨by have := heap_setCell_same w h 2 _ _ (.int .i64 u) H; simpa [RCur] using this, ⟨rfl, rfl, rfl, by simp [World.setCell], fun k _ hk => Below.heap_setCell w _ _ k (fun e => hk (by rw [e]))⟩⟩
theorem rcur_pos {w : World} {h : Nat} {f : Int} (H : RCur w h f) : RCur (w.setCell ⟨h, 1, none⟩ (.int .i64 0)) h f ∧ w.grownBy (w.setCell ⟨h, 1, none⟩ (.int .i64 0)) (some h) :=
  ⟨by have := heap_setCell_same w h 1 _ _ (.int .i64 0) H; simpa [RCur] using this, ⟨rfl, rfl, rfl, by simp [World.setCell], fun k _ hk => Below.heap_setCell w _ _ k (fun e => hk (by rw [e]))⟩⟩

set_option maxRecDepth 100000 in
set_option maxHeartbeats 2000000 in
theorem stop_ref (h : Nat) (f u : Int) (w : World) (H : RCur w h f) :
    Calls Tryd.prog 53 #[.pointer (some ⟨h, 0, none⟩), .int .i64 u] w fun en w' => en = .returned (.tuple #[]) ∧ RCur w' h (stp f u) ∧ w.grownBy w' (some h) := by
  obtain ⟨_, _, h2, _, h4⟩ := H.cells
  have HH := Lib.hid H
  by_cases hf : f = 0
  · subst hf
    have e1 : stp 0 u = u := rfl
    rw [e1]
    clear H e1
    go_enter Tryd.func53, Tryd.ntmps53
    go_wp2_with fail
    refine bodyPost_end (results_none rfl _ _ _) rfl ?_
    exact ⟨rfl, (rcur_set HH.out u).1, (rcur_set HH.out u).2⟩
  · have e1 : stp f u = f := if_neg hf
    have e2 : (f == 0) = false := by simpa using hf
    rw [e1]
    clear H e1 hf
    go_enter Tryd.func53, Tryd.ntmps53
    go_wp2_with fail
    refine bodyPost_end (results_none rfl _ _ _) rfl ?_
    exact ⟨rfl, HH.out, below_grown (Below.refl _ _)⟩
set_option maxRecDepth 100000 in
set_option maxHeartbeats 2000000 in
theorem left_ref (h : Nat) (f : Int) (w : World) (H : RCur w h f) :
    Calls Tryd.prog 64 #[.pointer (some ⟨h, 0, none⟩)] w (Says (.int .i64 0) w) := by
  obtain ⟨h0, h1, h2, _⟩ := H.cells
  clear H
  go_enter Tryd.func64, Tryd.ntmps64
  go_wp2_with fail
  go_quiet (fail)
  go_wp2_with fail
  go_ret
  exact ⟨rfl, drewN_b _ _⟩
set_option maxRecDepth 100000 in
set_option maxHeartbeats 2000000 in
theorem read_ref (h : Nat) (f : Int) (w : World) (H : RCur w h f) :
    Calls Tryd.prog 63 #[.pointer (some ⟨h, 0, none⟩)] w fun en w' => en = .returned (.tuple #[.int .u64 0, .int .i64 0, .int .i64 30]) ∧ Below w.heap.size w w' := by
  have HH := Lib.hid H
  clear H
  go_enter Tryd.func63, Tryd.ntmps63
  go_wp2_with fail
  go_loopw [5, 6] (fun n i wr => n = .int .u64 0 ∧ i = .int .i64 0 ∧ wr = w) (fun _ _ _ => 0)
  case atStart => exact ⟨rfl, rfl, rfl⟩
  case round =>
    obtain ⟨rfl, rfl, rfl⟩ := hrel
    go_wp2_with fail
    refine (left_ref h f _ HH.out).mono ?_
    rintro e w1 ⟨rfl, hb⟩
    have HB := Lib.hid hb
    clear hb
    go_wp2_with fail
    refine bodyPost_ret (results_tmp3 rfl _ _ _) rfl ?_
    exact ⟨rfl, HB.out⟩
set_option maxRecDepth 100000 in
set_option maxHeartbeats 2000000 in
theorem uint_ref (h : Nat) (f : Int) (w : World) (H : RCur w h f) :
    Calls Tryd.prog 45 #[.pointer (some ⟨h, 0, none⟩)] w fun en w' => en = .returned (.int .u64 0) ∧ RCur w' h (stp f 30) ∧ w.grownBy w' (some h) := by
  obtain ⟨_, _, h2, _⟩ := H.cells
  have HH := Lib.hid H
  by_cases hf : f = 0
  · subst hf
    clear H
    go_enter Tryd.func45, Tryd.ntmps45
    go_wp2_with fail
    refine (read_ref h 0 _ HH.out).mono ?_
    rintro e w1 ⟨rfl, hb⟩
    have H1 := Lib.hid (HH.out.below hb)
    have G1 := Lib.hid (below_grown (row := some h) hb)
    clear hb
    go_wp2_with fail
    refine (stop_ref h 0 30 _ H1.out).mono ?_
    rintro e w2 ⟨rfl, hc, hg⟩
    have H2 := Lib.hid hc
    have G2 := Lib.hid (grown_trans G1.out hg)
    clear hc hg
    go_wp2_with fail
    go_ret
    exact ⟨rfl, H2.out, G2.out⟩
  · have e1 : stp f 30 = f := if_neg hf
    have e2 : (f != 0) = true := by simpa using hf
    rw [e1]
    clear H e1 hf
    go_enter Tryd.func45, Tryd.ntmps45
    go_wp2_with fail
    go_ret
    exact ⟨rfl, HH.out, below_grown (Below.refl _ _)⟩
theorem stp_bad (f : Int) : stp f 30 ≠ 0 := by
  unfold stp
  split
  · decide
  · assumption
set_option maxRecDepth 100000 in
set_option maxHeartbeats 2000000 in
theorem int_ref (h : Nat) (f : Int) (w : World) (H : RCur w h f) :
    Calls Tryd.prog 46 #[.pointer (some ⟨h, 0, none⟩)] w fun en w' => en = .returned (.int .i64 0) ∧ RCur w' h (stp f 30) ∧ w.grownBy w' (some h) := by
  have HH := Lib.hid H
  clear H
  go_enter Tryd.func46, Tryd.ntmps46
  go_wp2_with fail
  refine (uint_ref h f _ HH.out).mono ?_
  rintro e w1 ⟨rfl, hc, hg⟩
  have H1 := Lib.hid hc
  have G1 := Lib.hid hg
  clear hc hg
  go_wp2_with fail
  go_ret
  exact ⟨rfl, H1.out, G1.out⟩
set_option maxRecDepth 100000 in
set_option maxHeartbeats 2000000 in
theorem index_ref (h : Nat) (f n : Int) (w : World) (H : RCur w h f) :
    Calls Tryd.prog 48 #[.pointer (some ⟨h, 0, none⟩), .int .i64 n] w fun en w' => en = .returned (.int .i64 0) ∧ RCur w' h (stp f 30) ∧ w.grownBy w' (some h) := by
  obtain ⟨_, h1, _, _⟩ := H.cells
  have HH := Lib.hid H
  clear H
  go_enter Tryd.func48, Tryd.ntmps48
  go_wp2_with fail
  refine (uint_ref h f _ HH.out).mono ?_
  rintro e w1 ⟨rfl, hc, hg⟩
  have H1 := Lib.hid hc
  have G1 := Lib.hid hg
  obtain ⟨_, _, c2, _⟩ := hc.cells
  have e2 : (stp f 30 != 0) = true := by simpa using stp_bad f
  clear hc hg
  go_wp2_with fail
  go_ret
  exact ⟨rfl, H1.out, G1.out⟩
set_option maxRecDepth 100000 in
set_option maxHeartbeats 2000000 in
theorem bytes_ref (h : Nat) (f n : Int) (w : World) (H : RCur w h f) :
    Calls Tryd.prog 50 #[.pointer (some ⟨h, 0, none⟩), .int .i64 n] w fun en w' => en = .returned (.slice none 0 0) ∧ RCur w' h (stp f 30) ∧ w.grownBy w' (some h) := by
  obtain ⟨_, h1, _, _⟩ := H.cells
  have HH := Lib.hid H
  clear H
  go_enter Tryd.func50, Tryd.ntmps50
  go_wp2_with fail
  refine (uint_ref h f _ HH.out).mono ?_
  rintro e w1 ⟨rfl, hc, hg⟩
  have H1 := Lib.hid hc
  have G1 := Lib.hid hg
  obtain ⟨_, _, c2, _⟩ := hc.cells
  have e2 : (stp f 30 != 0) = true := by simpa using stp_bad f
  clear hc hg
  go_wp2_with fail
  go_ret
  exact ⟨rfl, H1.out, G1.out⟩
set_option maxRecDepth 100000 in
set_option maxHeartbeats 2000000 in
theorem text_ref (h : Nat) (f n : Int) (w : World) (H : RCur w h f) :
    Calls Tryd.prog 51 #[.pointer (some ⟨h, 0, none⟩), .int .i64 n] w fun en w' => en = .returned (.string ⟨#[]⟩) ∧ RCur w' h (stp f 30) ∧ w.grownBy w' (some h) := by
  obtain ⟨_, h1, _, _⟩ := H.cells
  have HH := Lib.hid H
  clear H
  go_enter Tryd.func51, Tryd.ntmps51
  go_wp2_with fail
  refine (bytes_ref h f n _ HH.out).mono ?_
  rintro e w1 ⟨rfl, hc, hg⟩
  have H1 := Lib.hid hc
  have G1 := Lib.hid hg
  obtain ⟨_, _, c2, _⟩ := hc.cells
  have e2 : (stp f 30 == 0) = false := by simpa using stp_bad f
  have hcv := rd_string (Rd.nil w1)
  clear hc hg
  go_wp2_with fail
  go_ret
  exact ⟨rfl, H1.out, G1.out⟩
set_option maxRecDepth 100000 in
set_option maxHeartbeats 2000000 in
theorem take_ref (h : Nat) (f n : Int) (w : World) (H : RCur w h f) :
    Calls Tryd.prog 49 #[.pointer (some ⟨h, 0, none⟩), .int .i64 n] w fun en w' => en = .returned (.slice none 0 0) ∧ RCur w' h (if n < 0 then stp f 1 else if 0 < n then stp f 30 else f) ∧ w.grownBy w' (some h) := by
  obtain ⟨h0, h1, h2, h3, h4⟩ := H.cells
  have HH := Lib.hid H
  by_cases hf : f = 0
  · subst hf
    clear H
    by_cases n1 : n < 0
    · rw [if_pos n1]
      go_enter Tryd.func49, Tryd.ntmps49
      go_wp2_with fail
      refine (stop_ref h 0 1 _ HH.out).mono ?_
      rintro e w2 ⟨rfl, hc, hg⟩
      have H2 := Lib.hid hc
      have G2 := Lib.hid hg
      clear hc hg
      go_wp2_with fail
      go_ret
      exact ⟨rfl, H2.out, G2.out⟩
    · rw [if_neg n1]
      by_cases n2 : 0 < n
      · rw [if_pos n2]
        go_enter Tryd.func49, Tryd.ntmps49
        go_wp2_with fail
        refine (left_ref h 0 _ HH.out).mono ?_
        rintro e w1 ⟨rfl, hb⟩
        have H1 := Lib.hid (HH.out.below hb)
        have G1 := Lib.hid (below_grown (row := some h) hb)
        clear hb
        go_wp2_with fail
        refine (stop_ref h 0 30 _ H1.out).mono ?_
        rintro e w2 ⟨rfl, hc, hg⟩
        have H2 := Lib.hid hc
        have G2 := Lib.hid (grown_trans G1.out hg)
        clear hc hg
        go_wp2_with fail
        go_ret
        exact ⟨rfl, H2.out, G2.out⟩
      · rw [if_neg n2]
        obtain rfl : n = 0 := by omega
        go_enter Tryd.func49, Tryd.ntmps49
        go_wp2_with fail
        refine (left_ref h 0 _ HH.out).mono ?_
        rintro e w1 ⟨rfl, hb⟩
        have H1 := Lib.hid (HH.out.below hb)
        obtain ⟨c0, c1, c2, c3, c4⟩ := H1.out.cells
        have G1 := Lib.hid (below_grown (row := some h) hb)
        have CP := Lib.hid (fun (w : World) (H : RCur w h 0) => rcur_pos H)
        clear hb h0 h1 h2 h3 h4
        go_wp2_with fail
        go_region
        go_wp2_with fail
        go_ret
        have K := CP.out w1 H1.out
        have D : ∀ w : World, Below w.heap.size w w.drew := fun w => (Below.refl _ _).drew
        exact ⟨rfl, K.1.below (D _), grown_trans G1.out (grown_trans K.2 (below_grown (D _)))⟩
  · have e1 : ∀ u, stp f u = f := fun u => if_neg hf
    have e2 : (f != 0) = true := by simpa using hf
    rw [e1, e1]
    have e3 : (if n < 0 then f else if 0 < n then f else f) = f := by split; rfl; split <;> rfl
    rw [e3]
    clear H e1 e3 hf
    go_enter Tryd.func49, Tryd.ntmps49
    go_wp2_with fail
    go_ret
    exact ⟨rfl, HH.out, below_grown (Below.refl _ _)⟩
set_option maxRecDepth 100000 in
set_option maxHeartbeats 2000000 in
theorem fixed_ref (h : Nat) (f n : Int) (w : World) (H : RCur w h f) (hn : 0 < n) :
    Calls Tryd.prog 44 #[.pointer (some ⟨h, 0, none⟩), .int .i64 n] w fun en w' => en = .returned (.int .u64 0) ∧ RCur w' h (stp f 30) ∧ w.grownBy w' (some h) := by
  have HH := Lib.hid H
  have HN := Lib.hid hn
  clear H hn
  go_enter Tryd.func44, Tryd.ntmps44
  go_wp2_with fail
  refine (take_ref h f n _ HH.out).mono ?_
  rw [if_neg (by have := HN.out; omega), if_pos HN.out]
  rintro e w1 ⟨rfl, hc, hg⟩
  have H1 := Lib.hid hc
  have G1 := Lib.hid hg
  clear hc hg
  go_wp2_with fail
  go_loop [6, 7] (fun s i => s = .int .u64 0 ∧ i = .int .i64 (-1)) (fun _ _ => 0)
  case atStart => exact ⟨rfl, rfl⟩
  case round =>
    obtain ⟨rfl, rfl⟩ := hrel
    go_wp2_with fail
    go_ret
    exact ⟨rfl, H1.out, G1.out⟩
end Go.Proofs.YtcgeldmbndaocaaDoor
