/- The program's Cells of layer 2: its iterator's cells, collected. -/
import Derived.Test.YthojhjimgfbcbaaDoorPwid
namespace Go.Proofs.YthojhjimgfbcbaaDoor
open Go.RowKit Go.Shelf

attribute [local go_sem] Oper.semAt_some

theorem infoCelP : (Tryd.prog.info? 36).map (fun i => (i.zero, i.size, i.bytes)) = some (some (.agg #[.string .empty, .int .i64 0, .int .i64 0]), 3, 32) := by kernel_rfl
theorem own_noWalk {W : World} {base : Nat} {e : TypeId} {size : Nat} {v : Value} {n : Nat} {xs : List Value} (h : W.ownsRow base e size v n xs) : ∀ (j : Nat) (o : Obj), v.ownBlock = some j → W.heap[j]? = some o → o.isWalk = false := by
  intro j o ej hj
  rcases h.2 with ⟨rfl, _⟩ | ⟨g, cap, cur, rfl, _, hgb, _⟩
  · simp [Value.ownBlock] at ej
  · obtain rfl : g = j := by simpa [Value.ownBlock] using ej
    rw [hgb] at hj; cases hj; rfl
/-- What a loop that collects holds between two rounds. -/
def ColI (s : ByteArray) (w : World) (pre : List (SCel s)) (W : World) : Prop :=
  (∃ v, Boxed W w.heap.size 30 v ∧ W.ownsRow w.heap.size 36 3 v pre.length (celsV s (pre.map (·.1))) ∧ True) ∧ Below w.heap.size w W

set_option maxRecDepth 100000 in
set_option maxHeartbeats 4000000 in
theorem append_in (s : ByteArray) (B : Nat) (w : World) (hs : s.size ≤ 16777216) (hB : w.cell? ⟨B, 0, none⟩ = some (.string s)) :
    CallsIn Fence.wide 7 Tryd.prog 68 #[.slice none 0 0, .func (.func 69) #[] #[.pointer (some ⟨B, 0, none⟩)]] w (RowIs 36 3 (cells s).length (celsV s (cells s)) w) := by
  obtain ⟨i0, hi, hz0, hz1, hz2⟩ := info_parts infoCelP
  have hf1 : Fence.wide.fn 69 := trivial
  have hl := cells_len s
  have hBl := cell_lt hB
  refine callsIn_of_wp_marks Tryd.func68 rfl trivial ?_ rfl
  simp only [Tryd.ntmps68, List.size_toArray, List.length_cons, List.length_nil, Nat.reduceAdd, Nat.reduceSub, Array.replicate_succ, Array.replicate_zero, List.push_toArray, List.append_toArray, List.nil_append, List.cons_append]
  gi_wp2
  have bV := Boxed.new w 30 (.slice none 0 0)
  have hB0 : Below w.heap.size w (w.alloc (.cells #[.slice none 0 0] 30)) := (Below.refl _ w).alloc (Nat.le_refl _) _
  have hsz : (w.alloc (.cells #[.slice none 0 0] 30)).heap.size = w.heap.size + 1 := by simp
  have hBW := cell_more hB (.cells #[.slice none 0 0] 30)
  obtain ⟨W0, hW0⟩ : ∃ W0, w.alloc (.cells #[.slice none 0 0] 30) = W0 := ⟨_, rfl⟩
  rw [hW0] at bV hB0 hsz hBW ⊢
  clear hW0
  refine wpIn_rangeFunc_ownH rfl (by omega) (gf := 69) (lb := #[.pointer (some ⟨B, 0, none⟩)]) rfl trivial (enters_of Tryd.func69 (by kernel_rfl) rfl)
    (cells_stops (7 - 1) (by omega) B s hs W0 hBW) KpS.t (fun W l o o' _ h hc hw => KpS.put W l o o' h hc hw) (Below.refl _ _) (fun _ => rfl)
    (ColI s w)
    (fun _ _ _ => False)
    (OwnFrom.and (Own.from (holdsRow_own _ _ _ _ _ _ _ _) _) (ownFrom_below (Nat.le_refl _) (by omega)))
    (fun _ _ _ _ _ hs _ _ => hs)
    ⟨⟨_, bV, World.ownsRow_nil _ _ _ _, trivial⟩, hB0⟩
    (fun x a' W => ∃ Bx, w.heap.size < Bx ∧ W.heap[Bx]? = some (.cells #[.string (s.extract x.1.1 x.1.2.1), .int .i64 x.1.1, .int .i64 x.1.2.2] 36 (0, 0)) ∧ a' = { tmps := #[.slice none 0 0, .func (.func 69) #[] #[.pointer (some ⟨B, 0, none⟩)], .pointer (some ⟨w.heap.size, 0, none⟩), undef, .slice none 0 0, .pointer (some ⟨Bx, 0, none⟩), .func (.func 69) #[] #[.pointer (some ⟨B, 0, none⟩)], Value.agg #[.string (s.extract x.1.1 x.1.2.1), .int .i64 x.1.1, .int .i64 x.1.2.2], undef, undef, undef, undef, undef], defers := [] })
    (fun x a' _ X Y row hs hg hr => by
      obtain ⟨Bx, h1, h2, h3⟩ := hs
      refine ⟨Bx, h1, (hg.block Bx (Array.getElem?_eq_some_iff.1 h2).1 (fun e => ?_)).trans h2, h3⟩
      obtain ⟨_, o, ho, hc⟩ := hr Bx e.symm
      rw [h2] at ho; cases ho; cases hc)
    ?assign ?body ?done ?stop
  case assign =>
    rintro l pre x W K ⟨⟨v, bV1, hr1, _⟩, hB1⟩ hK
    simp only [celA]
    gi_wp2
    exact hK _ _ ((KeepsOthers.alloc _ _).from _) (KpS.alloc _ _) ⟨⟨v, bV1.alloc _, hr1.alloc _, trivial⟩, hB1.alloc hB1.size _⟩ ⟨W.heap.size, bV1.lt, World.alloc_heap_new W _, rfl⟩
  case body =>
    rintro l pre x a' W hl0 ⟨r, hr⟩ ⟨⟨v, bV1, hr1, _⟩, hB1⟩ ⟨Bx, hBx, bX, rfl⟩ hlt
    have cV := bV1.cell
    have fV := bV1.frozen
    have c0 : W.cell? ⟨Bx, 0, none⟩ = some (.string (s.extract x.1.1 x.1.2.1)) := by simp [World.cell?, bX]
    have c1 : W.cell? ⟨Bx, 1, none⟩ = some (.int .i64 x.1.1) := by simp [World.cell?, bX]
    have c2 : W.cell? ⟨Bx, 2, none⟩ = some (.int .i64 x.1.2.2) := by simp [World.cell?, bX]
    have B1 : pre.length + 1 ≤ maxLen := by unfold maxLen; omega
    have B2 : (pre.length + 1) * 32 ≤ 140737488355328 := by omega
    have B3 : w.heap.size ≤ (W.alloc (.cells #[.string (s.extract x.1.1 x.1.2.1), .int .i64 x.1.1, .int .i64 x.1.2.2] 36)).heap.size := by have := hB1.size; simp; omega
    have H1 := Lib.hid B1
    have H2 := Lib.hid B2
    have H3 := Lib.hid B3
    have HR := Lib.hid hr1
    have HB := Lib.hid hB1
    have HBX := Lib.hid bX
    have HL := Lib.hid hr
    clear B1 B2 B3 hr1 hB1 bX hr
    gi_wp2_with (gi_at_builtin; go_loud (refine wpListIn_append_own _ rfl _ _ 30 rfl w.heap.size 36 i0 (.agg #[.string .empty, .int .i64 0, .int .i64 0]) 3 32 Tryd.underlying30 hi hz0 hz1 hz2 rfl (by decide) _ _ _ rfl (HR.out.alloc _) ⟨W.heap.size, 0, none⟩ 1 1 (celV s x.1) rfl rfl (cells_new _ _ _) (celV_one s x.1) H1.out H2.out H3.out ?_); intro v' w1 hown' hgrow _; obtain ⟨g', cap', rfl⟩ := ownsRow_succ hown'; obtain ⟨hv1, hv2, hr2, hk2, hb2⟩ := bV1.appended (by decide) HR.out HB.out.size (Nat.le_refl _) hown' hgrow; have hc1 := hv1.cell; have hf1 := hv1.frozen)
    refine ⟨hk2.from _, KpS.t (KpS.t (KpS.alloc W _) (KpS.grown hgrow (own_noWalk (HR.out.alloc _)) ?_)) (KpS.set _ _ _ _ (by omega)), ⟨⟨_, hv2, ?_, trivial⟩, HB.out.trans hb2⟩⟩
    · intro e
      have := (HR.out.lt B e.symm).1
      omega
    · rw [List.map_append, List.length_append]
      show World.ownsRow _ _ _ _ _ (_ + 1) (celsV s (_ ++ [x.1]))
      rw [celsV_snoc]
      exact hr2
  case done =>
    rintro D ys W hD hys ⟨⟨v, bV1, hr1, _⟩, hB1⟩ hK
    have cV := bV1.cell
    rw [hys, show ys.length = (cells s).length by rw [← hys]; simp] at hr1
    have HR := Lib.hid hr1
    clear hr1
    gi_wp2
    refine ⟨by simp, .inl ⟨_, _, rfl, run_takeDeferred hK, ?_⟩⟩
    exact ⟨_, results_tmp rfl _ _ _, v, rfl, ownsRow_putObj HR.out _ hK rfl, hB1.trans (belowK_b (w := w) (Nat.le_refl _) W D _ _ (by omega) hK rfl rfl)⟩
  case stop =>
    rintro D c pre W _ _ h _
    exact h.elim

set_option maxRecDepth 100000 in
set_option maxHeartbeats 1000000 in
theorem collect_pro (s : ByteArray) (B : Nat) (w : World) (hs : s.size ≤ 16777216) (hB : w.cell? ⟨B, 0, none⟩ = some (.string s)) :
    Calls Tryd.prog 48 #[.func (.func 69) #[] #[.pointer (some ⟨B, 0, none⟩)]] w (RowIs 36 3 (cells s).length (celsV s (cells s)) w) := by
  have HS := Lib.hid hs
  have HB := Lib.hid hB
  clear hs hB
  go_enter Tryd.func48, Tryd.ntmps48
  go_wp2_with fail
  refine (callsIn_wide.1 (append_in s B _ HS.out HB.out)).mono ?_
  rintro e w1 ⟨v, rfl, hr, hb⟩
  have HR := Lib.hid hr
  have HZ := Lib.hid hb
  clear hr hb
  go_wp2_with fail
  go_ret
  exact ⟨v, rfl, HR.out, HZ.out⟩

theorem wide_pro (s : ByteArray) (w : World) (hs : s.size ≤ 16777216) : Calls Tryd.prog 26 #[.string s] w (Says (.int .i64 (wide s)) w) := callsIn_wide.1 (wide_in s w hs)

set_option maxRecDepth 100000 in
set_option maxHeartbeats 1000000 in
theorem cells_pro (s : ByteArray) (w : World) (hs : s.size ≤ 16777216) :
    Calls Tryd.prog 24 #[.string s] w (RowIs 36 3 (cells s).length (celsV s (cells s)) w) := by
  have HS := Lib.hid hs
  clear hs
  go_enter Tryd.func24, Tryd.ntmps24
  go_wp2_with fail
  refine (callsIn_wide.1 (cells_in 1 s _)).mono ?_
  rintro e w1 ⟨rfl, rfl⟩
  have hb : (w.alloc (.cells #[.string s] 9)).cell? ⟨w.heap.size, 0, none⟩ = some (.string s) := (Boxed.new w 9 (.string s)).cell
  have HB := Lib.hid hb
  clear hb
  go_wp2_with fail
  refine (collect_pro s w.heap.size _ HS.out HB.out).mono ?_
  rintro e w2 ⟨v, rfl, hr, hb⟩
  have HR := Lib.hid hr
  have HZ := Lib.hid hb
  clear hr hb
  go_wp2_with fail
  go_ret
  have h1 : Below w.heap.size w (w.alloc (.cells #[.string s] 9)) := (Below.refl _ w).alloc (Nat.le_refl _) _
  exact ⟨v, rfl, World.ownsRow.mono HR.out (by simp), h1.trans (HZ.out.mono (by simp))⟩
end Go.Proofs.YthojhjimgfbcbaaDoor
