/- What is proved: StyleSplits holds of any sheet and any names: a nesting is its parts, one behind the other, and what stands there twice in a row is as once. No condition but the form's own. -/
import Derived.Test.YtceanagnkcejgaaGreatDoorSaw
import Derived.Test.YtceanagnkcejgaaGreatDoorDc
import Derived.Test.YtceanagnkcejgaaGreatDoorDe
import Derived.Test.YtceanagnkcejgaaGreatDoorOdr
import Derived.Test.YtceanagnkcejgaaGreatDoorArg
import Derived.Test.YtceanagnkcejgaaGreatDoorPost
import Derived.Test.YtceanagnkcejgaaGreatDoorSLftz
import Derived.Test.YtceanagnkcejgaaGreatDoorCards
import Derived.Test.YtceanagnkcejgaaGreatDoorTie
import Derived.ProofKit
import Derived.OpenShut
import Derived.Deep.DeepHandedRow
import Derived.WideKeyArgs
namespace Go.Proofs.YtceanagnkcejgaaGreatDoor.styleSplits
open Go.ChangeShapes Go.WideShapes Go.ChangeAt Go.RowKit
open Go.ChangeMaps (open_string shut_string)
set_option linter.unusedVariables false

section
variable {P : Program} {md : Region.Mode} {ops : Array Oper} {Q : Exit → Act → World → Prop} {S : World → Prop}
/-- One operation alone may come up. -/
theorem wpAnyH_one {i : Nat} {o : Oper} {fuel : Nat} {listed : Array Bool} {a : Act} {w : World} (hr : Region.ready md ops listed = [i]) (hi : ops[i]? = some o) (hw : Region.wanted o (yielded ops a.tmps) = true)
    (h : ∀ K' : Act → World → Prop, (∀ a' w', S w' → wpAnyH P md ops Q S fuel (listed.setIfInBounds i true) a' w' → K' a' w') → o.wp P a w K' Q) : wpAnyH P md ops Q S (fuel + 1) listed a w :=
  wpAnyH_all hr (by simp) (fun j hj => by
    obtain rfl : j = i := by simpa using hj
    exact op_via hi hw (fun K hK => h K (fun a' w' h1 h2 => hK a' w' ⟨h1, h2⟩)))
end
theorem fit_app {a b : List Sty} (ha : Fit a) (hb : Fit b) : Fit (a ++ b) := by
  intro s hs
  rcases List.mem_append.1 hs with h | h
  · exact ha s h
  · exact hb s h
theorem nest_some {L : List Sty} {xs : List (List UInt8)} {k : Lk} (hg : Good L) (h : ¬ 32 < xs.length) (hr : runN L xs plain0 = some k) : nestM L xs = (k, 0, 0) := by
  rw [nestM_run (checkM_good.2 hg) h]
  have := nest_run L xs 0 plain0
  rw [hr] at this
  exact this
theorem nest_none {L : List Sty} {xs : List (List UInt8)} (hg : Good L) (h : ¬ 32 < xs.length) (hr : runN L xs plain0 = none) : ∃ k a, nestM L xs = (k, a, 66) := by
  rw [nestM_run (checkM_good.2 hg) h]
  have := nest_run L xs 0 plain0
  rw [hr] at this
  exact ⟨_, _, by rw [← this]⟩
theorem whole_no {L : List Sty} {x : List UInt8} (hg : Good L) (h : fnd L x = none) : wholeM L x = (zeroC, 66) := wholeM_no (checkM_good.2 hg) h
theorem whole_is {L : List Sty} {x : List UInt8} {j : Nat} (hg : Good L) (h : fnd L x = some j) : wholeM L x = (wholeI L j, 0) := by
  unfold wholeM
  rw [if_neg (by rw [checkM_good.2 hg]; simp), h]
theorem run_step {L : List Sty} {ys : List (List UInt8)} {j : Nat} (hj : j < ys.length) (k : Lk) : runN L (ys.drop j) k = (match fnd L ys[j] with
    | none => none
    | some i => runN L (ys.drop (j + 1)) (applyL k (wholeI L i))) := by
  rw [List.drop_eq_getElem_cons hj]; rfl
theorem twice_snoc {ys : List (List UInt8)} {j : Nat} (hj : j < ys.length) : twice (ys.take (j + 1)) = twice (ys.take j) ++ [ys[j], ys[j]] := by
  rw [List.take_succ_eq_append_getElem hj]
  unfold twice
  rw [List.flatMap_append]
  rfl
theorem twice_len (xs : List (List UInt8)) : (twice xs).length = 2 * xs.length := by
  induction xs with
  | nil => rfl
  | cons a r ih => simp [twice] at ih ⊢; omega
theorem own_set {w : World} {base : Nat} {e : TypeId} {size : Nat} {v : Value} {n : Nat} {xs : List Value} (h : w.ownsRow base e size v n xs) {b : Nat} (hb : b < base) (i : Nat) (u : Value) : (w.setCell ⟨b, i, none⟩ u).ownsRow base e size v n xs := by
  refine ⟨h.1, ?_⟩
  rcases h.2 with h0 | ⟨g, cap, cur, h1, h2, h3, h4⟩
  · exact .inl h0
  · exact .inr ⟨g, cap, cur, h1, h2, (Below.heap_setCell w ⟨b, i, none⟩ u g (by intro e; subst e; exact absurd h2 (by simp; omega))).trans h3, h4⟩
theorem own_lies {w : World} {base : Nat} {e : TypeId} {v : Value} {xs : List (List UInt8)} (h : w.ownsRow base e 1 v xs.length (strRows xs)) : Lies w 1 v xs.length (strRows xs) := by
  refine ⟨by rw [strRows_len]; omega, strRows_one xs, ?_⟩
  rcases h.2 with ⟨rfl, h0⟩ | ⟨g, cap, cur, rfl, hb, hg, h1, h2, h3, h4⟩
  · exact .inl ⟨0, rfl, h0⟩
  · refine .inr ⟨⟨g, 0, none⟩, cap, rfl, fun j u hj => ?_⟩
    have hjl : j < xs.length * 1 := by have := (List.getElem?_eq_some_iff.1 hj).1; rw [strRows_len] at this; omega
    have h5 := World.ownsRow.cellAt h j hjl
    rw [hj] at h5
    rw [Addr.add_lit, Nat.zero_add]
    exact h5
/-- Block b is a box of a look. -/
def LBox (w : World) (b : Nat) (k : Lk) : Prop := w.heap[b]? = some (.cells #[.int .i64 k.att, .int .i64 k.col] 46 (0, 0))
theorem LBox.get {w : World} {b : Nat} {k : Lk} (h : LBox w b k) : w.cell? ⟨b, 0, none⟩ = some (.int .i64 k.att) ∧ w.cell? ⟨b, 1, none⟩ = some (.int .i64 k.col) := by
  refine ⟨?_, ?_⟩ <;> (rw [cell_of_row _ _ _ _ _ _ h]; rfl)
theorem LBox.lt {w : World} {b : Nat} {k : Lk} (h : LBox w b k) : b < w.heap.size := (Array.getElem?_eq_some_iff.1 h).1
theorem LBox.keep {w w' : World} {b : Nat} {k : Lk} (h : LBox w b k) (hb : Below w.heap.size w w') : LBox w' b k := (hb.block b h.lt).trans h
theorem LBox.under {w w' : World} {b B : Nat} {k : Lk} (h : LBox w b k) (hb : Below B w w') (hlt : b < B) : LBox w' b k := (hb.block b hlt).trans h
theorem LBox.free {w : World} {b : Nat} {k : Lk} (h : LBox w b k) (i : Nat) : w.frozen? ⟨b, i, none⟩ = false := frozen_of_row w b i _ _ h
theorem LBox.other {w : World} {b b' i : Nat} {k : Lk} {u : Value} (h : LBox w b k) (hne : b ≠ b') : LBox (w.setCell ⟨b', i, none⟩ u) b k := (Below.heap_setCell w ⟨b', i, none⟩ u b hne).trans h
theorem cells_new2 (w : World) (v u : Value) (t : TypeId) : ∀ (j : Nat) (x : Value), [v, u][j]? = some x → (w.alloc (.cells #[v, u] t)).cell? ((⟨w.heap.size, 0, none⟩ : Addr).add j) = some x := fun j x hj => by
  rw [Addr.add_lit, Nat.zero_add, cell_of_row _ _ _ _ _ _ (heap_alloc_new w _)]
  simpa using hj

set_option maxRecDepth 100000 in
set_option maxHeartbeats 16000000 in
theorem walk (v : Value) (l : List Sty) (u1 : Value) (xs : List (List UInt8)) (u2 : Value) (ys : List (List UInt8)) (W : World) (hs : Sh W v l ∧ Fit l) (hsz : l.length * 56 ≤ 140737488351232)
    (hx : RdS W u1 xs ∧ ∀ x ∈ xs, x.length ≤ maxLen) (hxz : xs.length * 16 ≤ 140737488351232) (hy : RdS W u2 ys ∧ ∀ x ∈ ys, x.length ≤ maxLen) (hyz : ys.length * 16 ≤ 140737488351232) (hT : Tabs W) :
    Calls Tryz.prog 6 #[v, u1, u2] W fun e W' => e = .returned (.bool true) ∧ Below W.heap.size W W' := by
  obtain ⟨i0, hi0, hz0, hz1, hz2⟩ := info_parts infoStr
  have AG := Lib.hid (show (Value.string .empty).cells.size = 1 from rfl)
  have HT := Lib.hid hT
  have HS := Lib.hid hs.1
  have HF := Lib.hid hs.2
  have HZ := Lib.hid hsz
  have HX := Lib.hid hx.1
  have HY := Lib.hid hy.1
  obtain ⟨px, cx, rfl, hx1, hx2⟩ := hx.1.form
  obtain ⟨py, cy, rfl, hy1, hy2⟩ := hy.1.form
  unfold maxLen at hx2 hy2
  clear hs hsz hT hx hxz hy hyz
  obtain ⟨L, hL⟩ : ∃ L, baseL ++ l = L := ⟨_, rfl⟩
  have HFL := Lib.hid (show Fit L by rw [← hL]; exact fit_app fit_base HF.out)
  have HLL := Lib.hid hL
  clear hL
  go_enter Tryz.func6, Tryz.ntmps6
  go_wp2_with fail
  refine (awake_law W HT.out).mono ?_
  rintro e w1 ⟨rfl, hb⟩
  have HB1 := Lib.hid hb
  clear hb
  go_wp2_with fail
  refine (lwhole_law l v w1 (HS.out.below HB1.out) HZ.out).mono ?_
  rw [HLL.out]
  rintro e w2 ⟨v2, rfl, ho2, hb⟩
  have hs2 := Sh.own ho2
  have HB2 := Lib.hid (HB1.out.trans (hb.mono HB1.out.size))
  have HS2 := Lib.hid hs2
  obtain ⟨p2, c2, rfl, cc1, cc2⟩ := hs2.form
  unfold maxLen at cc2
  obtain ⟨⟨ca, cn⟩, hck⟩ : ∃ c, checkM L = c := ⟨_, rfl⟩
  have HCK := Lib.hid (check_ref L _ w2 hs2 HFL.out)
  rw [hck] at HCK
  unfold ckV at HCK
  have hgd := @checkM_good L
  rw [hck] at hgd
  clear ho2 hb hs2 hck
  by_cases hcn : cn = 0
  case neg =>
    have t1 : ((cn : Int) != 0) = true := natne hcn
    clear hcn hgd
    go_wp2_with fail
    refine HCK.out.mono ?_
    rintro e w3 ⟨rfl, hb⟩
    have HB3 := Lib.hid (HB2.out.trans (hb.mono HB2.out.size))
    clear hb
    go_wp2_with fail
    go_ret
    exact ⟨rfl, HB3.out⟩
  have HG := Lib.hid (hgd.1 hcn)
  subst hcn
  clear hgd
  by_cases hx15 : (15 : Int) < xs.length
  case pos =>
    go_wp2_with fail
    refine HCK.out.mono ?_
    rintro e w3 ⟨rfl, hb⟩
    have HB3 := Lib.hid (HB2.out.trans (hb.mono HB2.out.size))
    clear hb
    go_wp2_with fail
    go_ret
    exact ⟨rfl, HB3.out⟩
  have tx15 : decide ((15 : Int) < xs.length) = false := by simpa using hx15
  by_cases hy15 : (15 : Int) < ys.length
  case pos =>
    clear hx15
    go_wp2_with fail
    refine HCK.out.mono ?_
    rintro e w3 ⟨rfl, hb⟩
    have HB3 := Lib.hid (HB2.out.trans (hb.mono HB2.out.size))
    clear hb
    go_wp2_with fail
    go_ret
    exact ⟨rfl, HB3.out⟩
  have ty15 : decide ((15 : Int) < ys.length) = false := by simpa using hy15
  have HX15 := Lib.hid (show xs.length ≤ 15 by omega)
  have HY15 := Lib.hid (show ys.length ≤ 15 by omega)
  have M1 := Lib.hid (show 0 + xs.length ≤ maxLen by unfold maxLen; omega)
  have M2 := Lib.hid (show (0 + xs.length) * 16 ≤ 140737488355328 by omega)
  have M3 := Lib.hid (show 0 + xs.length + ys.length ≤ maxLen by unfold maxLen; omega)
  have M4 := Lib.hid (show (0 + xs.length + ys.length) * 16 ≤ 140737488355328 by omega)
  clear hx15 hy15
  obtain ⟨⟨pa, qa, ea⟩, hna⟩ : ∃ c, nestM L xs = c := ⟨_, rfl⟩
  obtain ⟨⟨pb, qb, eb⟩, hnb⟩ : ∃ c, nestM L (xs ++ ys) = c := ⟨_, rfl⟩
  have HNA := Lib.hid hna
  have HNB := Lib.hid hnb
  have hl32 : ¬ 32 < xs.length := by have := HX15.out; omega
  have hl32' : ¬ 32 < (xs ++ ys).length := by have := HX15.out; have := HY15.out; rw [List.length_append]; omega
  -- what the nestings tell
  have HQ := Lib.hid (show (ea = 66 ∧ eb = 66) ∨ (ea = 0 ∧ runN L xs plain0 = some pa ∧ (runN L ys pa = none → eb = 66) ∧ ∀ k, runN L ys pa = some k → pb = k ∧ eb = 0) by
    cases hr : runN L xs plain0 with
    | none =>
      obtain ⟨k, a, h1⟩ := nest_none HG.out hl32 hr
      obtain ⟨k', a', h2⟩ := nest_none (xs := xs ++ ys) HG.out hl32' (by rw [run_app, hr]; rfl)
      rw [h1] at hna
      rw [h2] at hnb
      cases hna; cases hnb
      exact .inl ⟨rfl, rfl⟩
    | some k =>
      have h1 := nest_some HG.out hl32 hr
      rw [h1] at hna
      cases hna
      refine .inr ⟨rfl, rfl, fun h => ?_, fun k' h => ?_⟩
      · obtain ⟨k', a', h2⟩ := nest_none (xs := xs ++ ys) HG.out hl32' (by rw [run_app, hr]; exact h)
        rw [h2] at hnb
        cases hnb
        rfl
      · have h2 := nest_some (xs := xs ++ ys) HG.out hl32' (by rw [run_app, hr]; exact h)
        rw [h2] at hnb
        cases hnb
        exact ⟨rfl, rfl⟩)
  clear hna hnb hl32 hl32'
  go_wp2_with fail
  refine HCK.out.mono ?_
  rintro e w3 ⟨rfl, hb⟩
  have HB3 := Lib.hid (HB2.out.trans (hb.mono HB2.out.size))
  have HS3 := Lib.hid (HS2.out.below hb)
  clear hb
  go_wp2_with fail
  refine (Nest_pro L xs _ _ w3 HS3.out HFL.out (HX.out.below HB3.out)).mono ?_
  rw [HNA.out]
  unfold lkE lkVal
  rintro e w4 ⟨rfl, hb⟩
  have HB4 := Lib.hid (HB3.out.trans (hb.mono HB3.out.size))
  have HS4 := Lib.hid (HS3.out.below hb)
  have HQ5 := Lib.hid ((Below.refl _ w4).alloc (Nat.le_refl _) (.cells #[.int .i64 pa.att, .int .i64 pa.col] 46))
  have HX5 := Lib.hid (show LBox (w4.alloc (.cells #[.int .i64 pa.att, .int .i64 pa.col] 46)) w4.heap.size pa from heap_alloc_new w4 _)
  have HB5 := Lib.hid (HB4.out.trans (HQ5.out.mono HB4.out.size))
  have HLX := Lib.hid (HX.out.below HB5.out).lies
  have E1s := Lib.hid (show w4.heap.size + 1 ≤ ((w4.alloc (.cells #[.int .i64 pa.att, .int .i64 pa.col] 46)).alloc (.cells #[] 9)).heap.size by simp)
  have e1 := World.ownsRow_lit (e := 9) (size := 1) (base := w4.heap.size + 1) (w4.alloc (.cells #[.int .i64 pa.att, .int .i64 pa.col] 46)) #[] 0 (by simp) (Nat.zero_le _) rfl
  rw [World.size_alloc] at e1
  have E1 := Lib.hid e1
  have E0 := Lib.hid (show Below (w4.heap.size + 1) (w4.alloc (.cells #[.int .i64 pa.att, .int .i64 pa.col] 46)) ((w4.alloc (.cells #[.int .i64 pa.att, .int .i64 pa.col] 46)).alloc (.cells #[] 9)) from (Below.refl _ _).alloc (by simp) _)
  clear hb e1
  go_wp2_with (first | (at_builtin; refine wpList_append_lies' rfl _ _ 39 rfl (w4.heap.size + 1) 9 i0 (.string .empty) 1 16 Tryz.underlying39 hi0 hz0 hz1 hz2 rfl (by decide) _ _ _ rfl E1.out _ _ _ rfl (HLX.out.alloc _) M1.out M2.out E1s.out ?_; intro v6 w6 hown6 hg6; have HO6 := Lib.hid hown6; have B6 := Lib.hid (E0.out.grown hg6 E1s.out (fun k hk => (E1.out.lt k hk).1)); have SZ6 := Lib.hid (show w4.heap.size + 1 ≤ w6.heap.size by have h := B6.out.size; rw [World.size_alloc] at h; exact h); have HLY := Lib.hid (HY.out.below (HB5.out.trans (B6.out.mono (by have := HB4.out.size; omega)))).lies; clear hown6 hg6) | (at_builtin; go_loud (refine wpList_append_lies' rfl _ _ 39 rfl (w4.heap.size + 1) 9 i0 (.string .empty) 1 16 Tryz.underlying39 hi0 hz0 hz1 hz2 rfl (by decide) _ _ _ rfl HO6.out _ _ _ rfl HLY.out M3.out M4.out SZ6.out ?_); intro v7 w7 hown7 hg7; have HO7 := Lib.hid hown7; have B7 := Lib.hid (B6.out.grown hg7 SZ6.out (fun k hk => (HO6.out.lt k hk).1)); clear hown7 hg7))
  have HQ7 := Lib.hid (HQ5.out.trans (B7.out.mono (Nat.le_succ _)))
  have HB7 := Lib.hid (HB5.out.trans (B7.out.mono (by have := HB4.out.size; omega)))
  have hr7 : RdS w7 v7 (xs ++ ys) := RdS.own (by
    have h := HO7.out
    rw [Nat.zero_add, List.nil_append, ← List.length_append, ← strRows_app] at h
    exact h)
  refine (Nest_pro L (xs ++ ys) _ v7 w7 (HS4.out.below HQ7.out) HFL.out hr7).mono ?_
  rw [HNB.out]
  unfold lkE lkVal
  rintro e w8 ⟨rfl, hb⟩
  have HQ8 := Lib.hid (HQ7.out.trans (hb.mono HQ7.out.size))
  have HB8 := Lib.hid (HB7.out.trans (hb.mono HB7.out.size))
  have HX8 := Lib.hid ((HX5.out.under B7.out (Nat.lt_succ_self _)).keep hb)
  have HX9 := Lib.hid (show LBox (w8.alloc (.cells #[.int .i64 pb.att, .int .i64 pb.col] 46)) w8.heap.size pb from heap_alloc_new w8 _)
  have HA9 := Lib.hid ((Below.refl _ w8).alloc (Nat.le_refl _) (.cells #[.int .i64 pb.att, .int .i64 pb.col] 46))
  have HN9 := Lib.hid (show (w8.alloc (.cells #[.int .i64 pb.att, .int .i64 pb.col] 46)).heap.size = w8.heap.size + 1 from World.size_alloc _ _)
  clear hb hr7
  rcases HQ.out with ⟨he1, he2⟩ | ⟨he1, hrx, hrn, hrs⟩
  · subst he1; subst he2
    clear HQ
    go_wp2_with fail
    go_ret
    exact ⟨rfl, HB8.out.trans (HA9.out.mono HB8.out.size)⟩
  subst he1
  have HRX := Lib.hid hrx
  have HRN := Lib.hid hrn
  have HRS := Lib.hid hrs
  clear HQ hrx hrn hrs
  obtain ⟨w9, hw9⟩ : ∃ w9, w8.alloc (.cells #[.int .i64 pb.att, .int .i64 pb.col] 46) = w9 := ⟨_, rfl⟩
  obtain ⟨BA, hBA⟩ : ∃ BA, w4.heap.size = BA := ⟨_, rfl⟩
  obtain ⟨BB, hBB⟩ : ∃ BB, w8.heap.size = BB := ⟨_, rfl⟩
  have HW9 := Lib.hid hw9
  have HAB := Lib.hid (And.intro hBA hBB)
  rw [hBA] at HX8 HQ8
  rw [hBB] at HX9 HA9 HN9
  rw [hw9] at HX9 HA9 HN9
  have HX10 := Lib.hid (HX8.out.under HA9.out (by rw [← hBB]; exact HX8.out.lt))
  have HQ9 := Lib.hid (HQ8.out.trans (HA9.out.mono (by rw [← hBB]; have := HX8.out.lt; omega)))
  have HLT := Lib.hid (show BA < BB by rw [← hBB]; exact HX8.out.lt)
  clear hw9 hBA hBB
  go_wp2_with fail
  simp only [HAB.out.1, HAB.out.2, HW9.out]
  go_loopw [16, 17, 18, 19] (fun tw i _ _ wr => ∃ (j : Nat) (k : Lk) (acc : List (List UInt8)), i = .int .i64 j ∧ j ≤ ys.length ∧ Hid (acc = twice (ys.take j)) ∧ Hid (runN L (ys.drop j) k = runN L ys pa) ∧ LBox wr BA k ∧ LBox wr BB pb ∧ wr.ownsRow w9.heap.size 9 1 tw acc.length (strRows acc) ∧ Below BA w4 wr ∧ w9.heap.size ≤ wr.heap.size) (fun _ i _ _ _ => ys.length - (intOf i).toNat)
  case atStart => exact ⟨0, pa, [], rfl, Nat.zero_le _, rfl, rfl, HX10.out, HX9.out, World.ownsRow_nil _ _ _ _, HQ9.out, Nat.le_refl _⟩
  case round =>
    obtain ⟨j, k, acc, rfl, hj, HAC, HRU, hba, hbb, hown, hbw, hsz⟩ := hrel
    have HBA := Lib.hid hba
    have HBB := Lib.hid hbb
    have HO := Lib.hid hown
    have HBW := Lib.hid hbw
    have HSZ := Lib.hid hsz
    have HB := Lib.hid (HB4.out.trans (hbw.mono (by rw [← HAB.out.1]; exact HB4.out.size)))
    have HSH := Lib.hid (HS4.out.below (by rw [HAB.out.1]; exact hbw))
    have HAL := Lib.hid (show acc.length ≤ 30 by rw [HAC.out, twice_len, List.length_take]; have := HY15.out; omega)
    obtain ⟨ptw, ctw, rfl⟩ := lenOf hown
    clear hba hbb hown hbw hsz
    by_cases hlt : j < ys.length
    · have hst := run_step (L := L) hlt k
      obtain ⟨b, off, rfl, d0⟩ := (HY.out.below HB.out).cell hlt
      have hac := twice_snoc hlt
      obtain ⟨y, hyd⟩ : ∃ y, ys[j] = y := ⟨_, rfl⟩
      rw [hyd] at hst d0 hac
      have HD := Lib.hid d0
      have hlt2 : (j : Int) < ys.length := by omega
      have hwn := @whole_no L y HG.out
      have hwi := fun i => @whole_is L y i HG.out
      have HW := Lib.hid (Whole_pro L y _ wr HSH.out HFL.out)
      obtain ⟨o, ho⟩ : ∃ o, fnd L y = o := ⟨_, rfl⟩
      rw [ho] at hst hwn hwi
      clear hyd
      rcases Option.eq_none_or_eq_some o with e | ⟨i, e⟩
      · rw [e] at hst
        rw [hwn e] at HW
        have he66 := HRN.out (HRU.out.symm.trans hst)
        unfold chgE chgVal at HW
        have t66 : ((eb : Int) == 66) = true := by rw [he66]; rfl
        clear e ho hst hwn hwi he66 hac
        go_wp2_with fail
        refine HW.out.mono ?_
        rintro e w10 ⟨rfl, hb⟩
        have HB10 := Lib.hid (HB.out.trans (hb.mono HB.out.size))
        have HA10 := Lib.hid (HB10.out.alloc HB10.out.size (.cells #[.int .i64 zeroC.on, .int .i64 zeroC.off, .int .i64 zeroC.col] 27))
        clear hb d0
        go_wp2_with fail
        go_ret
        exact ⟨rfl, HA10.out⟩
      · rw [e] at hst
        dsimp only at hst
        rw [hwi i e] at HW
        obtain ⟨c, hc⟩ : ∃ c, wholeI L i = c := ⟨_, rfl⟩
        rw [hc] at hst HW
        have HRU2 := Lib.hid (hst.symm.trans HRU.out)
        have HAC2 := Lib.hid (show acc ++ [y, y] = twice (ys.take (j + 1)) by rw [hac, HAC.out])
        unfold chgE chgVal at HW
        clear e ho hst hwn hwi hac hc
        go_wp2_with fail
        refine HW.out.mono ?_
        rintro e w10 ⟨rfl, hb⟩
        have HBW10 := Lib.hid (HBW.out.trans (hb.mono (Nat.le_of_lt HBA.out.lt)))
        have HBA10 := Lib.hid (HBA.out.keep hb)
        have HBB10 := Lib.hid (HBB.out.keep hb)
        have HO10 := Lib.hid (own_below HO.out hb)
        have HSZ10 := Lib.hid (Nat.le_trans HSZ.out hb.size)
        have hd10 := (hb.cell (p := ⟨b, off + j, none⟩) (cell_in HD.out)).trans HD.out
        have HD10 := Lib.hid hd10
        have hA := (Below.refl _ w10).alloc (Nat.le_refl _) (.cells #[.int .i64 c.on, .int .i64 c.off, .int .i64 c.col] 27)
        have hX := heap_alloc_new w10 (.cells #[.int .i64 c.on, .int .i64 c.off, .int .i64 c.col] 27)
        have HA11 := Lib.hid hA
        obtain ⟨y0, y1⟩ := HBA10.out.get
        have ylt := HBA10.out.lt
        clear hb d0 hA hX hd10
        go_wp2_with fail
        refine (apply_pro k c _).mono ?_
        rintro e w12 ⟨rfl, hb⟩
        have hq := HA11.out.trans (hb.mono HA11.out.size)
        have HBW12 := Lib.hid (HBW10.out.trans (hq.mono (Nat.le_of_lt HBA10.out.lt)))
        have HBA12 := Lib.hid (HBA10.out.keep hq)
        have HBB12 := Lib.hid (HBB10.out.keep hq)
        have HO12 := Lib.hid (own_below HO10.out hq)
        have HSZ12 := Lib.hid (Nat.le_trans HSZ10.out hq.size)
        have HD12 := Lib.hid ((hq.cell (p := ⟨b, off + j, none⟩) (cell_in HD10.out)).trans HD10.out)
        obtain ⟨z0, z1⟩ := HBA12.out.get
        have f0 := HBA12.out.free 0
        have f1 := HBA12.out.free 1
        clear hb hq y0 y1 ylt
        unfold lkVal
        go_wp2_with fail
        obtain ⟨w13, hw13, hr13, k0, k1, hbW⟩ := set2 HBA12.out (.int .i64 (applyL k c).att) (.int .i64 (applyL k c).col)
        have HO13 := Lib.hid (own_set (own_set HO12.out (show BA < w9.heap.size by have := HN9.out; have := HLT.out; omega) 0 (.int .i64 (applyL k c).att)) (show BA < w9.heap.size by have := HN9.out; have := HLT.out; omega) 1 (.int .i64 (applyL k c).col))
        have HBB13 := Lib.hid ((HBB12.out.other (b' := BA) (i := 0) (u := .int .i64 (applyL k c).att) (by have := HLT.out; omega)).other (b' := BA) (i := 1) (u := .int .i64 (applyL k c).col) (by have := HLT.out; omega))
        rw [hw13] at HO13 HBB13
        rw [hw13]
        have HBW13 := Lib.hid (HBW12.out.trans hbW)
        have HBA13 := Lib.hid (show LBox w13 BA (applyL k c) from hr13)
        have HSZ13 := Lib.hid (Nat.le_trans HSZ12.out hbW.size)
        have hdne : b < BA := by
          have h1 := cell_in HD.out
          obtain ⟨b', off', e', q⟩ := HY.out.cell hlt
          cases e'
          have h2 := cell_in q
          have h3 := HB4.out.size
          have h4 := HAB.out.1
          omega
        have d13 := (hbW.cell (p := ⟨b, off + j, none⟩) hdne).trans HD12.out
        clear hw13 hr13 k0 k1 hbW z0 z1 f0 f1 hdne
        have B1 := Lib.hid (show acc.length + 2 ≤ maxLen by unfold maxLen; have := HAL.out; omega)
        have B2 := Lib.hid (show (acc.length + 2) * 16 ≤ 140737488355328 by have := HAL.out; omega)
        have B3 := Lib.hid (show w9.heap.size ≤ (w13.drew.alloc (.cells #[.string (bs y), .string (bs y)] 9)).heap.size by have := HSZ13.out; rw [World.size_alloc]; exact Nat.le_succ_of_le this)
        have HOD := Lib.hid (show w13.drew.ownsRow w9.heap.size 9 1 (.slice ptw acc.length ctw) acc.length (strRows acc) from own_below HO13.out (Below.refl _ _).drew)
        go_wp2_with fail
        have hS : w13.drew.cell? ⟨b, off + j, none⟩ = some (.string (bs y)) := d13
        refine wp_region_held_drew (S := fun w' => w'.cell? ⟨b, off + j, none⟩ = some (.string (bs y))) (by kernel_rfl) hS (fun hS => ?_)
        obtain ⟨wd, hwd⟩ : ∃ wd, w13.drew = wd := ⟨_, rfl⟩
        have hDD : Below w13.heap.size w13 wd := by rw [← hwd]; exact (Below.refl _ _).drew
        have HDD := Lib.hid hDD
        rw [hwd] at B3 HOD hS ⊢
        clear hwd hDD d13
        refine wpAnyH_take (i := 0) (v := .slice ptw acc.length ctw) rfl (by kernel_rfl) (by kernel_rfl) (by kernel_rfl) (fun _ _ _ h => h) (.inl ⟨by kernel_rfl, fun w' hS => by go_simp⟩) hS ?_
        refine wpAnyH_take (i := 1) (v := .slice (some ⟨b, off, none⟩) ys.length cy) rfl (by kernel_rfl) (by kernel_rfl) (by kernel_rfl) (fun _ _ _ h => h) (.inl ⟨by kernel_rfl, fun w' hS => by go_simp⟩) hS ?_
        refine wpAnyH_take (i := 2) (v := .int .i64 (j : Nat)) rfl (by kernel_rfl) (by kernel_rfl) (by kernel_rfl) (fun _ _ _ h => h) (.inl ⟨by kernel_rfl, fun w' hS => by go_simp⟩) hS ?_
        refine wpAnyH_take (i := 3) (v := .pointer (some ⟨b, off + j, none⟩)) rfl (by kernel_rfl) (by kernel_rfl) (by kernel_rfl) (fun _ _ _ h => h) (.inl ⟨by kernel_rfl, fun w' hS => by go_simp⟩) hS ?_
        refine wpAnyH_take (i := 4) (v := .string (bs y)) rfl (by kernel_rfl) (by kernel_rfl) (by kernel_rfl) (fun _ _ _ h => h) (.inl ⟨by kernel_rfl, fun w' hS => by go_simp⟩) hS ?_
        refine wpAnyH_take (i := 5) (v := .slice (some ⟨b, off, none⟩) ys.length cy) rfl (by kernel_rfl) (by kernel_rfl) (by kernel_rfl) (fun _ _ _ h => h) (.inl ⟨by kernel_rfl, fun w' hS => by go_simp⟩) hS ?_
        refine wpAnyH_take (i := 6) (v := .int .i64 (j : Nat)) rfl (by kernel_rfl) (by kernel_rfl) (by kernel_rfl) (fun _ _ _ h => h) (.inl ⟨by kernel_rfl, fun w' hS => by go_simp⟩) hS ?_
        refine wpAnyH_take (i := 7) (v := .pointer (some ⟨b, off + j, none⟩)) rfl (by kernel_rfl) (by kernel_rfl) (by kernel_rfl) (fun _ _ _ h => h) (.inl ⟨by kernel_rfl, fun w' hS => by go_simp⟩) hS ?_
        refine wpAnyH_take (i := 8) (v := .string (bs y)) rfl (by kernel_rfl) (by kernel_rfl) (by kernel_rfl) (fun _ _ _ h => h) (.inl ⟨by kernel_rfl, fun w' hS => by go_simp⟩) hS ?_
        refine wpAnyH_one (i := 9) (by kernel_rfl) rfl (by kernel_rfl) (fun K hK => ?_)
        go_simp
        have hS2 := (((Below.refl wd.heap.size wd).alloc (Nat.le_refl _) (.cells #[.string (bs y), .string (bs y)] 9)).cell (p := ⟨b, off + j, none⟩) (cell_in hS)).trans hS
        refine hK _ _ hS2 ?_
        clear hK K
        refine wpAnyH_one (i := 10) (by kernel_rfl) rfl (by kernel_rfl) (fun K hK => ?_)
        refine wp_append_lies _ (.tmp 88) (.tmp 97) 39 rfl w9.heap.size 9 i0 (.string .empty) 1 16 Tryz.underlying39 hi0 hz0 hz1 hz2 rfl (by decide) (.slice ptw acc.length ctw) acc.length (strRows acc) (by simp [Act.eval]) (HOD.out.alloc _) ⟨wd.heap.size, 0, none⟩ 2 2 [.string (bs y), .string (bs y)] (by simp [Act.eval]) rfl (cells_new2 _ _ _ _) (by intro u hu; simp at hu; subst hu; rfl) (by decide) B1.out B2.out B3.out _ rfl ?_
        intro g14 cap14 w14 hown14 hg14 _ _
        have HO14 := Lib.hid hown14
        have B14 := Lib.hid (((Below.refl w9.heap.size wd).alloc (by have := HSZ13.out; have := HDD.out.size; omega) (.cells #[.string (bs y), .string (bs y)] 9)).grown hg14 B3.out (fun k hk => (HOD.out.lt k hk).1))
        have hdn : b < w9.heap.size := by
          obtain ⟨b', off', e', q⟩ := HY.out.cell hlt
          cases e'
          have h2 := cell_in q
          have h3 := HB4.out.size
          have h4 := HAB.out.1
          have h5 := HN9.out
          have h6 := HLT.out
          omega
        have hS3 := (B14.out.cell (p := ⟨b, off + j, none⟩) hdn).trans hS
        refine hK _ _ hS3 ?_
        clear hK K hown14 hg14 hdn hS2
        refine wpAnyH_one (i := 11) (by kernel_rfl) rfl (by kernel_rfl) (fun K hK => ?_)
        go_simp
        refine hK _ _ hS3 ?_
        clear hK K
        refine wpAnyH_done (by kernel_rfl) ?_ _
        go_wp2_with fail
        go_roundw
        case rel =>
          have q1 : BA < w9.heap.size := by have := HN9.out; have := HLT.out; omega
          have q2 : BB < w9.heap.size := by have := HN9.out; omega
          refine ⟨j + 1, applyL k c, acc ++ [y, y], by go_num, by omega, HAC2, HRU2, (HBA13.out.keep HDD.out).under B14.out q1, (HBB13.out.keep HDD.out).under B14.out q2, ?_, ?_, ?_⟩
          · have h := HO14.out
            rw [List.length_append, strRows_app]
            exact h
          · have h1 := HBW13.out.trans (HDD.out.mono (Nat.le_of_lt HBA13.out.lt))
            exact h1.trans (B14.out.mono (Nat.le_of_lt q1))
          · have h1 := HSZ13.out
            have h2 := HDD.out.size
            have h3 := B14.out.size
            omega
        case measure => simp [intOf]; omega
    · have hje : j = ys.length := by omega
      have hge : ¬ (j : Int) < ys.length := by omega
      have hrk : runN L ys pa = some k := by
        rw [← HRU.out, hje, List.drop_length]; rfl
      obtain ⟨h1, h2⟩ := HRS.out k hrk
      have hba : LBox wr BA pb := by rw [h1]; exact HBA.out
      have HBP := Lib.hid hba
      have t0 : ((eb : Int) == 0) = true := by rw [h2]; rfl
      have HRK := Lib.hid (show runN L ys pa = some pb by rw [h1]; exact hrk)
      have HACC := Lib.hid (show acc = twice ys by rw [HAC.out, hje, List.take_length])
      have n1 : (xs.length : Int) ≤ 15 := by have := HX15.out; omega
      have n2 : (acc.length : Int) ≤ 30 := by have := HAL.out; omega
      clear hje hrk h1 h2 hba
      by_cases h32 : (32 : Int) < (xs.length : Int) + acc.length
      · obtain ⟨x0, x1⟩ := HBP.out.get
        obtain ⟨y0, y1⟩ := HBB.out.get
        go_wp2_with fail
        refine (look_law pb _).mono ?_
        rintro e w10 ⟨rfl, hb⟩
        have HB10 := Lib.hid (HB.out.trans (hb.mono HB.out.size))
        clear hb x0 x1 y0 y1
        go_wp2_with fail
        go_ret
        exact ⟨rfl, HB10.out⟩
      · have N1 := Lib.hid (show 0 + xs.length + acc.length ≤ maxLen by unfold maxLen; omega)
        have N2 := Lib.hid (show (0 + xs.length + acc.length) * 16 ≤ 140737488355328 by omega)
        have HND := Lib.hid (nest_some (L := L) (xs := xs ++ acc) (k := pb) HG.out (by rw [List.length_append]; omega) (by rw [run_app, HRX.out]; show runN L acc pa = some pb; rw [HACC.out, run_twice]; exact HRK.out))
        obtain ⟨wo, hwo⟩ : ∃ wo : World, wo = wr := ⟨_, rfl⟩
        subst hwo
        have F1 := Lib.hid (World.ownsRow_lit (e := 9) (size := 1) (base := wo.heap.size) wo #[] 0 (Nat.le_refl _) (Nat.zero_le _) rfl)
        have F1s := Lib.hid (show wo.heap.size ≤ (wo.alloc (.cells #[] 9)).heap.size by simp)
        have F0 := Lib.hid ((Below.refl wo.heap.size wo).alloc (Nat.le_refl _) (.cells #[] 9))
        have FLX := Lib.hid (HX.out.below HB.out).lies
        have h32' : decide ((32 : Int) < (xs.length : Int) + acc.length) = false := by simpa using h32
        clear h32
        go_wp2_with (first | (at_builtin; refine wpList_append_lies' rfl _ _ 39 rfl wo.heap.size 9 i0 (.string .empty) 1 16 Tryz.underlying39 hi0 hz0 hz1 hz2 rfl (by decide) _ _ _ rfl F1.out _ _ _ rfl (FLX.out.alloc _) M1.out M2.out F1s.out ?_; intro v16 w16 hown6 hg6; have FO6 := Lib.hid hown6; have F6 := Lib.hid (F0.out.grown hg6 F1s.out (fun k hk => (F1.out.lt k hk).1)); have FLY := Lib.hid (own_lies (own_below HO.out F6.out)); clear hown6 hg6) | (at_builtin; go_loud (refine wpList_append_lies' rfl _ _ 39 rfl wo.heap.size 9 i0 (.string .empty) 1 16 Tryz.underlying39 hi0 hz0 hz1 hz2 rfl (by decide) _ _ _ rfl FO6.out _ _ _ rfl FLY.out N1.out N2.out F6.out.size ?_); intro v17 w17 hown7 hg7; have FO7 := Lib.hid hown7; have F7 := Lib.hid (F6.out.grown hg7 F6.out.size (fun k hk => (FO6.out.lt k hk).1)); clear hown7 hg7))
        have hr7 : RdS w17 v17 (xs ++ acc) := RdS.own (by
          have h := FO7.out
          rw [Nat.zero_add, List.nil_append, ← List.length_append, ← strRows_app] at h
          exact h)
        have HB17 := Lib.hid (HB.out.trans (F7.out.mono HB.out.size))
        refine (Nest_pro L (xs ++ acc) _ v17 w17 (HSH.out.below F7.out) HFL.out hr7).mono ?_
        rw [HND.out]
        unfold lkE lkVal
        rintro e w18 ⟨rfl, hb⟩
        have HB18 := Lib.hid (HB17.out.trans (hb.mono HB17.out.size))
        have HP18 := Lib.hid ((HBP.out.keep F7.out).keep hb)
        have HB8' := Lib.hid ((HBB.out.keep F7.out).keep hb)
        have HA18 := Lib.hid (HB18.out.alloc HB18.out.size (.cells #[.int .i64 pb.att, .int .i64 pb.col] 46))
        have HQ18 := Lib.hid ((Below.refl w18.heap.size w18).alloc (Nat.le_refl _) (.cells #[.int .i64 pb.att, .int .i64 pb.col] 46))
        have HD18 := Lib.hid (show LBox (w18.alloc (.cells #[.int .i64 pb.att, .int .i64 pb.col] 46)) w18.heap.size pb from heap_alloc_new w18 _)
        have HBQ := Lib.hid (HB8'.out.under HQ18.out HB8'.out.lt)
        obtain ⟨x0, x1⟩ := HP18.out.get
        obtain ⟨y0, y1⟩ := HB8'.out.get
        have q1 := HP18.out.lt
        have q2 := HB8'.out.lt
        clear hb hr7
        go_wp2_with fail
        refine (look_law pb _).mono ?_
        rintro e w19 ⟨rfl, hb⟩
        have HB19 := Lib.hid (HA18.out.trans (hb.mono HA18.out.size))
        obtain ⟨a0, a1⟩ := (HD18.out.keep hb).get
        obtain ⟨b0, b1⟩ := (HBQ.out.keep hb).get
        clear hb x0 x1 y0 y1 q1 q2
        go_wp2_with fail
        refine (look_law pb _).mono ?_
        rintro e w20 ⟨rfl, hb⟩
        have HB20 := Lib.hid (HB19.out.trans (hb.mono HB19.out.size))
        clear hb a0 a1 b0 b1
        go_wp2_with fail
        go_ret
        exact ⟨rfl, HB20.out⟩

set_option maxRecDepth 100000 in
theorem contract (H : Type) (enc : TypeId × Value → H) (W : World) (base : Nat) (args : Array Value) (ds gs : List (DataW H)) (before : List MemPlace)
    (hval : ∀ (j : Nat) t v, Tryz.f6.params[j]? = some t → args[j]? = some v → Value.okWide Tryz.prog W .any base t v)
    (hW : DataW.Whole enc Tryz.prog Tryz.f6.params.toList Rows.styleSplitsSpec.vars false W args.toList ds gs before) (hsz0 : (DataW.weightsEach Tryz.prog (Tryz.f6.params.toList ++ Rows.styleSplitsSpec.plain.varTypes Tryz.prog) (ds ++ gs)).all (· ≤ reachBytes) = true) (hT : Tabs W) :
    Calls Tryz.prog 6 args W fun e W' => ∃ v, e = .returned v ∧ Rows.styleSplitsSpec.post enc Tryz.prog Tryz.f6 false true false false W args v W' := by
  have hW' := hW
  obtain ⟨p, q, hA0, hV, rfl, hfz, hnd⟩ := hW
  have hA : DataW.TrodAll enc Tryz.prog W 0 (fun _ => true) true Tryz.f6.params.toList args.toList ds p := hA0
  rw [Tryz.params6] at hA hval
  have hsz := hsz0
  rw [Tryz.params6] at hsz
  clear hsz0
  obtain ⟨v0, vs0, d0, ds0, p0, q0, hargs, rfl, rfl, h0, r0⟩ := trodAll_cons hA
  obtain ⟨v1, vs1, d1, ds1, p1, q1, rfl, rfl, rfl, h1, r1⟩ := trodAll_cons r0
  obtain ⟨v2, vs2, d2, ds2, p2, q2, rfl, rfl, rfl, h2, r2⟩ := trodAll_cons r1
  obtain ⟨rfl, rfl, rfl⟩ := trodAll_nil r2
  obtain rfl : args = #[v0, v1, v2] := by cases args; simp_all
  obtain ⟨rfl, rfl⟩ := trodVars_none hV
  have hk0 := h0
  obtain ⟨l0, hR0, hD0⟩ := sheet_read h0 (okWide_slice Tryz.underlying22 (hval 0 22 v0 rfl rfl))
  have hk1 := h1
  obtain ⟨l1, hR1, hD1⟩ := names_read h1 (okWide_slice Tryz.underlying39 (hval 1 39 v1 rfl rfl))
  have hk2 := h2
  obtain ⟨l2, hR2, hD2⟩ := names_read h2 (okWide_slice Tryz.underlying39 (hval 2 39 v2 rfl rfl))
  clear hA0
  have size0 := sheet_reach hsz (j := 0) rfl rfl hD0
  have size1 := names_reach hsz (j := 1) rfl rfl hD1
  have size2 := names_reach hsz (j := 2) rfl rfl hD2
  refine (walk v0 l0 v1 l1 v2 l2 W hR0 size0 hR1 size1 hR2 size2 hT).mono fun e W' ⟨he, hg⟩ => ?_
  subst he
  have hlt := hW'.lt
  exact ⟨_, rfl, post_of_below (pa := (p0 ++ (p1 ++ (p2 ++ [])))) (pv := []) hW' (fun _ _ _ => trodAll_cons_mk (shut_bool Tryz.underlying4 _) trodAll_mk0) (fun sp hsp => (trodAll_cons_mk (Go.WideElems.Trod_stays (by kernel_rfl) (by kernel_rfl) (of_decide_eq_true (by kernel_rfl)) hk0 (fun p hp => hg.same (hlt p (by simp [hp]))) (fun p hp => hsp p (by simp [hp]))) (trodAll_cons_mk (Go.WideElems.Trod_stays (by kernel_rfl) (by kernel_rfl) (of_decide_eq_true (by kernel_rfl)) hk1 (fun p hp => hg.same (hlt p (by simp [hp]))) (fun p hp => hsp p (by simp [hp]))) (trodAll_cons_mk (Go.WideElems.Trod_stays (by kernel_rfl) (by kernel_rfl) (of_decide_eq_true (by kernel_rfl)) hk2 (fun p hp => hg.same (hlt p (by simp [hp]))) (fun p hp => hsp p (by simp [hp]))) trodAll_mk0)))) (fun _ _ => rfl) rfl hg (ok_one (by kernel_rfl) rfl (okWide_bool_mk Tryz.underlying4 _))⟩

theorem witness_row (os : Os) {H : Type} (enc : TypeId × Value → H) :
    (OpenSpec.ofChange Rows.styleSplitsSpec).preRow enc Tryz.prog Tryz.f6 Rows.styleSplitsRow.domain false Rows.styleSplitsRow.laid ((laidWorld os).forCall (fun _ _ => 0) ⟨#[], #[.slice none 0 0, .slice none 0 0, .slice none 0 0], []⟩).memory #[.slice none 0 0, .slice none 0 0, .slice none 0 0] := by
  have hw : (DataW.whole enc Tryz.prog ((laidWorld os).forCall (fun _ _ => 0) ⟨#[], #[.slice none 0 0, .slice none 0 0, .slice none 0 0], []⟩).memory Tryz.f6.params.toList Rows.styleSplitsSpec.vars false (#[.slice none 0 0, .slice none 0 0, .slice none 0 0] : Array Value).toList 8).map (fun x => (x.1, x.2.1)) =
      some ([.nil, .nil, .nil], []) := by kernel_rfl
  obtain ⟨⟨x1, x2, x3⟩, hx, hx1⟩ := Option.map_eq_some_iff.1 hw
  simp only [Prod.mk.injEq] at hx1
  obtain ⟨rfl, rfl⟩ := hx1
  exact OpenSpec.preRow_of_cond 8 hx (by kernel_rfl) (fun k hk => by cases hk) (by kernel_rfl) (laid_met os _)

set_option maxRecDepth 100000 in
theorem lifted (os : Os) (started : os.Started) (H : Type) (enc : TypeId × Value → H) (F : Stop.Interp) :
    ReturnsInHanded {} Tryz.checked os 6 .any ((OpenSpec.ofChange Rows.styleSplitsSpec).preRow enc Tryz.prog Tryz.f6 Rows.styleSplitsRow.domain false Rows.styleSplitsRow.laid) (((OpenSpec.ofChange Rows.styleSplitsSpec).at F).post enc Tryz.prog Tryz.f6 false true false false) := by
  refine returnsInHanded_of_row (C := Tryz.checked) (s := (OpenSpec.ofChange Rows.styleSplitsSpec)) own started (by kernel_rfl) Tryz.func6
    (witness_row_at (enc := enc) (C := Tryz.checked) false (laidWorld os) #[.slice none 0 0, .slice none 0 0, .slice none 0 0] rfl (by kernel_rfl) (by kernel_rfl) (by kernel_rfl) (witness_row os enc)) ?_
  intro W base args ds gs before hval hW _ hcond hsz hL hS _
  exact contract H enc W base args ds gs before hval hW hsz (tabs_of hL hS)

set_option maxHeartbeats 16000000 in
theorem closed : joinedFacts Tryz.pinned.checked.prog 6 Tryz.f6 ((OpenSpec.ofChange Rows.styleSplitsSpec)).bare Rows.styleSplitsRow = true := by
  unfold joinedFacts
  repeat' (with_reducible refine Bool.and_eq_true_iff.2 ⟨?_, ?_⟩)
  all_goals (as_aux_lemma => kernel_rfl)
theorem named : Tryz.pinned.checked.prog.funcNamed Rows.styleSplitsRow.func = some 6 := by kernel_rfl
theorem inst : (Tryz.f6).isInstance Tryz.pinned.checked.prog Rows.styleSplitsRow.origin Rows.styleSplitsRow.targs := of_decide_eq_true (by kernel_rfl)
theorem wrap : (Tryz.f6).isWrapper Tryz.pinned.checked.prog Rows.styleSplitsRow.wrapper Rows.styleSplitsRow.mainSum := by
  unfold Func.isWrapper
  first | (rw [if_pos (by decide +kernel)]; kernel_rfl) | (rw [if_neg (by decide +kernel)]; exact ⟨rfl, rfl⟩)
theorem row : Rows.StyleSplitsSaid :=
  OpenClaim.holds_of_cond 6 Tryz.f6 rfl rfl rfl rfl rfl rfl rfl ⟨rfl, rfl, rfl, rfl, rfl⟩ rfl rfl rfl rfl rfl named Tryz.func6 closed inst wrap
    (fun os started H enc _ F => by rw [OpenClaim.pre_eq_preRow]; exact lifted os started H enc F)

theorem plain (f : FuncId) (fn : Func) (hf : Tryz.pinned.checked.prog.funcNamed Rows.styleSplitsRow.func = some f) (hfn : Tryz.pinned.checked.prog.funcs[f]? = some fn) :
    true = Tryz.pinned.checked.prog.looks [] ∧ ∀ (j : Nat) t, fn.params[j]? = some t → Tryz.pinned.checked.prog.wantsStandIn t = false := by
  obtain rfl : f = 6 := Option.some.inj ((show Tryz.prog.funcNamed Rows.styleSplitsRow.func = some 6 by kernel_rfl).symm.trans hf) |>.symm
  obtain rfl : fn = Tryz.f6 := (Option.some.inj (Tryz.func6.symm.trans hfn)).symm
  refine ⟨by kernel_rfl, fun j t ht => ?_⟩
  rw [Tryz.params6] at ht
  have hm : t ∈ [22, 39, 39] := by simpa using Array.mem_of_getElem? ht
  simp only [List.mem_cons, List.mem_nil_iff, or_false] at hm
  rcases hm with rfl | rfl | rfl
  · exact (show Tryz.prog.wantsStandIn 22 = false by kernel_rfl)
  · exact (show Tryz.prog.wantsStandIn 39 = false by kernel_rfl)
  · exact (show Tryz.prog.wantsStandIn 39 = false by kernel_rfl)

theorem proved : Rows.StyleSplitsCardSaid :=
  Claim7.holds_tied_plain_at .later [] _ _ _ _ row (fun _ h => by cases h) (by kernel_rfl) (fun _ h => by cases h) styleSplits_row_tie rfl ⟨rfl, rfl⟩ (by kernel_rfl) rfl plain (by kernel_rfl)
end Go.Proofs.YtceanagnkcejgaaGreatDoor.styleSplits
