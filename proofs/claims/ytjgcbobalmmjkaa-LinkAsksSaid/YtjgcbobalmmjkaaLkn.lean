/- The program's nexts of layer 8: for each topic those to whom it refers. -/
import Derived.Test.YtjgcbobalmmjkaaLkq
import Derived.OrdersHeld
import Derived.BigQuiet
import Derived.Deep.QuietTactic
import Derived.Deep.RegionHeld3
namespace Go.Proofs.Ytjgcbobalmmjkaa
open Go.RowKit Go.Shelf
set_option linter.unusedVariables false

attribute [local go_sem] Oper.semAt_some

/-- Block S is a row of n lists of numbers, each in a block of its own. -/
structure Lsts (base : Nat) (W : World) (S n : Nat) (vs : Nat → Value) (f : Nat → List Nat) : Prop where
  row : ∃ cur : Array Value, W.heap[S]? = some (.cells cur 23 (0, 0)) ∧ cur.size = n ∧ ∀ k, k < n → cur[k]? = some (vs k)
  own : ∀ k, k < n → W.ownsRow base 3 1 (vs k) (f k).length (numsV (f k))
  apart : ∀ i k, i < n → k < n → i ≠ k → (vs i).ownBlock = none ∨ (vs i).ownBlock ≠ (vs k).ownBlock
section
variable {base S n : Nat} {W W' : World} {vs : Nat → Value} {f : Nat → List Nat}
theorem Lsts.cell (h : Lsts base W S n vs f) {k : Nat} (hk : k < n) : W.cell? ⟨S, k, none⟩ = some (vs k) := by
  obtain ⟨cur, h1, h2, h3⟩ := h.row
  rw [cell_of_row _ _ _ _ _ _ h1]
  exact h3 k hk
theorem Lsts.free (h : Lsts base W S n vs f) (k : Nat) : W.frozen? ⟨S, k, none⟩ = false := by
  obtain ⟨cur, h1, _⟩ := h.row
  exact frozen_of_row W S k _ _ h1
theorem Lsts.lt (h : Lsts base W S n vs f) : S < W.heap.size := by
  obtain ⟨cur, h1, _⟩ := h.row
  exact (Array.getElem?_eq_some_iff.1 h1).1
theorem Lsts.not (h : Lsts base W S n vs f) {k : Nat} (hk : k < n) : (vs k).ownBlock ≠ some S := by
  obtain ⟨cur, h1, _⟩ := h.row
  exact own_not (h.own k hk) h1 (fun cur fr e => by cases e)
theorem Lsts.keep (h : Lsts base W S n vs f) (hk : ∀ (c : Nat) (cur : Array Value) (T : TypeId) (fr : Nat × Nat), W.heap[c]? = some (Obj.cells cur T fr) → W'.heap[c]? = W.heap[c]?) : Lsts base W' S n vs f := by
  obtain ⟨cur, h1, h2⟩ := h.row
  refine ⟨⟨cur, (hk _ _ _ _ h1).trans h1, h2⟩, fun k hk' => own_stays (h.own k hk') fun c e => ?_, h.apart⟩
  rcases (h.own k hk').2 with ⟨e0, _⟩ | ⟨g, cap, cur', e0, _, hg, _⟩
  · rw [e0] at e; cases e
  · rw [e0] at e
    obtain rfl : g = c := by simpa [Value.ownBlock] using e
    exact hk _ _ _ _ hg
theorem Lsts.below (h : Lsts base W S n vs f) (hb : Below W.heap.size W W') : Lsts base W' S n vs f := h.keep fun c _ _ _ e => hb.block c (Array.getElem?_eq_some_iff.1 e).1
theorem Lsts.congr {g : Nat → List Nat} (h : Lsts base W S n vs f) (e : ∀ k, k < n → f k = g k) : Lsts base W S n vs g := ⟨h.row, fun k hk => by rw [← e k hk]; exact h.own k hk, h.apart⟩
/-- One list is another one now. -/
theorem Lsts.turn {W3 : World} {i : Nat} {v' : Value} {zs : List Nat} (h : Lsts base W S n vs f) (hi : i < n) (hg : W.grownBy W3 (vs i).ownBlock) (ho : W3.ownsRow base 3 1 v' zs.length (numsV zs))
    (hat : v'.ownBlock = (vs i).ownBlock ∨ ∀ c, v'.ownBlock = some c → W.heap.size ≤ c) :
    W3.cell? ⟨S, i, none⟩ = some (vs i) ∧ W3.frozen? ⟨S, i, none⟩ = false ∧ Lsts base (W3.setCell ⟨S, i, none⟩ v') S n (fun k => if k = i then v' else vs k) (fun k => if k = i then zs else f k) := by
  obtain ⟨cur, h1, h2, h3⟩ := h.row
  have hS3 : W3.heap[S]? = some (.cells cur 23 (0, 0)) := (hg.block S h.lt (fun e => h.not hi e.symm)).trans h1
  have hset : ∀ c, c ≠ S → (W3.setCell ⟨S, i, none⟩ v').heap[c]? = W3.heap[c]? := fun c hc => Below.heap_setCell _ _ _ _ hc
  refine ⟨by rw [cell_of_row _ _ _ _ _ _ hS3]; exact h3 i hi, frozen_of_row W3 S i _ _ hS3, ⟨⟨_, heap_setCell_same W3 S i _ _ _ hS3, by simpa using h2, fun k hk => ?_⟩, fun k hk => ?_, fun a b ha hb hab => ?_⟩⟩
  · by_cases e : k = i
    · subst e
      rw [Array.getElem?_setIfInBounds_self_of_lt (by omega)]
      simp
    · rw [Array.getElem?_setIfInBounds_ne (fun h => e h.symm), h3 k hk]
      simp [e]
  · by_cases e : k = i
    · subst e
      simp only [if_pos]
      exact own_stays ho fun c ec => hset c (fun e2 => own_not ho hS3 (fun cur fr e => by cases e) (by rw [← e2]; exact ec))
    · simp only [if_neg e]
      refine own_stays (h.own k hk) fun c ec => ?_
      have hcS : c ≠ S := fun e2 => h.not hk (by rw [← e2]; exact ec)
      rw [hset c hcS]
      refine hg.block c (own_base (h.own k hk) ec).2 fun e2 => ?_
      rcases h.apart k i hk hi e with h5 | h5
      · rw [h5] at ec; cases ec
      · exact h5 (ec.trans e2)
  · have new : ∀ k, k < n → k ≠ i → ((vs k).ownBlock = none ∨ (vs k).ownBlock ≠ v'.ownBlock) := fun k hk hki => by
      rcases hat with h5 | h5
      · rw [h5]; exact h.apart k i hk hi hki
      · cases e : (vs k).ownBlock with
        | none => exact .inl rfl
        | some c =>
          refine .inr fun e2 => ?_
          have := h5 c e2.symm
          have := (own_base (h.own k hk) e).2
          omega
    by_cases e1 : a = i
    · subst e1
      simp only [if_pos, if_neg (fun e : b = a => hab e.symm)]
      rcases new b hb (fun e => hab e.symm) with h5 | h5
      · cases e : v'.ownBlock with
        | none => exact .inl rfl
        | some c => exact .inr (by rw [h5]; simp)
      · exact .inr h5.symm
    · by_cases e2 : b = i
      · subst e2
        simp only [if_neg e1, if_pos]
        exact new a ha e1
      · simp only [if_neg e1, if_neg e2]
        exact h.apart a b ha hb hab
end
theorem lsts_start (base : Nat) (W : World) (n : Nat) : Lsts base (W.alloc (.cells (madeCells #[.slice none 0 0] n) 23)) W.heap.size n (fun _ => .slice none 0 0) (fun _ => []) := by
  refine ⟨⟨madeCells #[.slice none 0 0] n, World.alloc_heap_new W _, by simp [size_madeCells], fun j hj => ?_⟩, fun k hk => World.ownsRow_nil _ _ _ _, fun _ _ _ _ _ => .inl rfl⟩
  unfold madeCells
  simp [hj, Nat.mod_one]
/-- A region that draws its order, in code of which nothing is known but that it goes on. -/
theorem region_just {P : Program} {Q : Exit → Act → World → Prop} {id : Nat} {ops : Array Oper} {a : Act} {w : World} {S : World → Prop} (hm : P.follows .mixedOrders = true)
    (h : wpAnyH P .any ops (Just Q) S ops.size (Array.replicate ops.size false) a w.drew) : (Code.region id ops true).wp P Q a w :=
  (wpIn_wide (n := 0)).1 (wpIn_mono (wpIn_wide.2 (wp_region_any hm (wpAny_of_held _ _ _ _ h))) Just.imp)
/-- What the loop that lays the lists holds between two rounds. -/
def NxI (S n : Nat) (lv : Value) (W0 : World) (pre : List (Cn n)) (W : World) : Prop :=
  (∃ vs, Lsts S W S n vs (fun k => outs k pre) ∧ ∀ k, k < n → (vs k).ownBlock ≠ some (S + 3)) ∧ Boxed W (S + 1) 60 (.slice (some ⟨S, 0, none⟩) n n) ∧ Boxed W (S + 2) 22 lv ∧ Boxed W (S + 3) 3 (.int .i64 n) ∧ Below S W0 W
theorem NxI.own {S n : Nat} {lv : Value} {W0 : World} {D : Nat} (hBD : S ≤ D) (hs : S ≤ W0.heap.size) : OwnFrom D (NxI S n lv W0) :=
  OwnFrom.and (fun s W W' row hs hg hr => by
    obtain ⟨vs, h1, h2⟩ := hs
    refine ⟨vs, h1.keep fun c cur T fr e => ?_, h2⟩
    refine hg.block c (Array.getElem?_eq_some_iff.1 e).1 fun e2 => ?_
    obtain ⟨_, o, ho, hc⟩ := hr c e2.symm
    rw [e] at ho
    cases ho
    cases hc) (OwnFrom.and (Own.from (boxed_own (S + 1) 60 (fun _ => .slice (some ⟨S, 0, none⟩) n n)) _) (OwnFrom.and (Own.from (boxed_own (S + 2) 22 (fun _ => lv)) _) (OwnFrom.and (Own.from (boxed_own (S + 3) 3 (fun _ => .int .i64 n)) _) (ownFrom_below hs hBD))))
theorem NxI.below {S n : Nat} {lv : Value} {W0 W W' : World} {pre : List (Cn n)} (h : NxI S n lv W0 pre W) (hb : Below W.heap.size W W') : NxI S n lv W0 pre W' := by
  obtain ⟨⟨vs, h1, h2⟩, h3, h4, h5, h6⟩ := h
  exact ⟨⟨vs, h1.below hb, h2⟩, Boxed.belowL h3 hb, Boxed.belowL h4 hb, Boxed.belowL h5 hb, h6.trans (hb.mono (Nat.le_of_lt h1.lt))⟩
/-- What a round leaves that lays one number more. -/
theorem NxI.push {S n : Nat} {lv : Value} {W0 W W3 : World} {pre : List (Cn n)} {vs : Nat → Value} {x : Cn n} {v' : Value} {o : Obj} (h : Lsts S W S n vs (fun k => outs k pre)) (hne : ∀ k, k < n → (vs k).ownBlock ≠ some (S + 3))
    (b1 : Boxed W (S + 1) 60 (.slice (some ⟨S, 0, none⟩) n n)) (b2 : Boxed W (S + 2) 22 lv) (b3 : Boxed W (S + 3) 3 (.int .i64 n)) (hb : Below S W0 W)
    (ho : W3.ownsRow S 3 1 v' (outs x.fr pre ++ [x.to]).length (numsV (outs x.fr pre ++ [x.to]))) (hg : (W.alloc o).grownBy W3 (vs x.fr).ownBlock) (hat : v'.ownBlock = (vs x.fr).ownBlock ∨ v'.ownBlock = some (W.alloc o).heap.size) :
    W3.cell? ⟨S, x.fr, none⟩ = some (vs x.fr) ∧ W3.frozen? ⟨S, x.fr, none⟩ = false ∧ Boxed W3 (S + 1) 60 (.slice (some ⟨S, 0, none⟩) n n) ∧
    KeepsOthers W (W3.setCell ⟨S, x.fr, none⟩ v') ∧ KpR S (S + 2) (S + 3) W (W3.setCell ⟨S, x.fr, none⟩ v') ∧ NxI S n lv W0 (pre ++ [x]) (W3.setCell ⟨S, x.fr, none⟩ v') := by
  have hz := b3.lt
  have hA : Below W.heap.size W (W.alloc o) := (Below.refl _ W).alloc (Nat.le_refl _) o
  have hrow := h.own x.fr x.hf
  obtain ⟨q1, q2, q3⟩ := (h.below hA).turn x.hf hg ho (by
    rcases hat with e | e
    · exact .inl e
    · exact .inr fun c hc => by rw [e] at hc; cases hc; exact Nat.le_refl _)
  have g1 : Boxed W3 (S + 1) 60 (.slice (some ⟨S, 0, none⟩) n n) := (b1.alloc o).kept hg ((b1.alloc o).not_row (by decide) ((h.below hA).own x.fr x.hf))
  have g2 : Boxed W3 (S + 2) 22 lv := (b2.alloc o).kept hg ((b2.alloc o).not_row (by decide) ((h.below hA).own x.fr x.hf))
  have g3 : Boxed W3 (S + 3) 3 (.int .i64 n) := (b3.alloc o).kept hg (fun e => hne x.fr x.hf e.symm)
  have set : ∀ c, c ≠ S → (W3.setCell ⟨S, x.fr, none⟩ v').heap[c]? = W3.heap[c]? := fun c hc => Below.heap_setCell _ _ _ _ hc
  have r1 : Boxed (W3.setCell ⟨S, x.fr, none⟩ v') (S + 1) 60 (.slice (some ⟨S, 0, none⟩) n n) := (set _ (by omega)).trans g1
  have r2 : Boxed (W3.setCell ⟨S, x.fr, none⟩ v') (S + 2) 22 lv := (set _ (by omega)).trans g2
  have r3 : Boxed (W3.setCell ⟨S, x.fr, none⟩ v') (S + 3) 3 (.int .i64 n) := (set _ (by omega)).trans g3
  have hbl : Below S W (W3.setCell ⟨S, x.fr, none⟩ v') := ((((Below.refl S W).alloc (by omega) o).grown hg (by simp; omega) fun j e => (own_base hrow e).1).setCell (p := ⟨S, x.fr, none⟩) (Nat.le_refl _) v')
  refine ⟨q1, q2, g1, ?_, ⟨hbl, fun u hu => ?_, fun u hu => ?_⟩, ⟨_, q3.congr fun k _ => ?_, fun k hk => ?_⟩, r1, r2, r3, hb.trans hbl⟩
  · refine ((KeepsOthers.alloc W o).trans (KeepsOthers.of_grownBy hg fun j ob ej hj => ?_)).trans (KeepsOthers.setCell _ _ _)
    rcases ((h.below hA).own x.fr x.hf).2 with ⟨e0, _⟩ | ⟨g, cap, cur, e0, _, hgb, _⟩
    · rw [e0] at ej; simp [Value.ownBlock] at ej
    · rw [e0] at ej
      obtain rfl : g = j := by simpa [Value.ownBlock] using ej
      rw [hgb] at hj; cases hj; rfl
  · rw [b2.cell] at hu; cases hu; exact r2.cell
  · rw [b3.cell] at hu; cases hu; exact r3.cell
  · rw [outs_snoc]
    by_cases e : k = x.fr
    · subst e; simp
    · have : (x.fr == k) = false := by simpa using fun e2 : x.fr = k => e e2.symm
      rw [if_neg e, this]; simp
  · by_cases e : k = x.fr
    · simp only [e, if_pos]
      rcases hat with h5 | h5
      · rw [h5]; exact hne x.fr x.hf
      · rw [h5]
        intro e2
        injection e2 with e2
        simp at e2
        omega
    · simp only [if_neg e]
      exact hne k hk
theorem infoL : (Try.prog.info? 23).map (fun i => (i.zero, i.size, i.bytes)) = some (some (.slice none 0 0), 1, 24) := by kernel_rfl
/-- The lists of all topics, in new memory. -/
def NextsIs (N : Nat) (f : Nat → List Nat) (w : World) (e : Ending) (w' : World) : Prop :=
  ∃ S vs, w.heap.size ≤ S ∧ e = .returned (.slice (some ⟨S, 0, none⟩) N N) ∧ Lsts w.heap.size w' S N vs f ∧ Below w.heap.size w w'

set_option maxRecDepth 100000 in
set_option maxHeartbeats 4000000 in
theorem nexts_pro (l : List Rf) (v : Value) (N : Nat) (w : World) (hv : RdR w v l) (hl : l.length ≤ 65536) (hN : N ≤ 1000) :
    Calls Try.prog 28 #[v, .int .i64 N] w (NextsIs N (fun k => outM l N k) w) := by
  refine (callsIn_wide (n := 12)).1 ?_
  have hf1 : Fence.wide.fn 21 := trivial
  have hf2 : Fence.wide.fn 32 := trivial
  have hf3 : Fence.wide.fn 22 := trivial
  obtain ⟨pa, cap, rfl, hcl, hcm⟩ := hv.form
  have HV := Lib.hid hv
  have HL := Lib.hid hl
  obtain ⟨i0, hi0, hz0, hz1, hz2⟩ := info_parts infoI
  obtain ⟨j0, hj0, hy0, hy1, hy2⟩ := info_parts infoL
  have hmk : ∀ w : World, (Instr.makeSlice 60 (.int .i64 (N : Int)) (.int .i64 (N : Int))).run Try.prog w = .ok (.slice (some ⟨w.heap.size, 0, none⟩) N N) (w.alloc (.cells (madeCells #[.slice none 0 0] N) 23)) := by
    intro w
    have h := run_make (P := Try.prog) w 60 23 j0 (.slice none 0 0) Try.underlying60 hj0 hy0 .i64 .i64 (N : Int) (N : Int) (by omega) (by omega) (by rw [hy2]; omega) (by omega)
    rw [hy1, Nat.mul_one, show (N : Int).toNat = N by omega] at h
    exact h
  clear hv hcl hcm hl hj0 hy0 hy1 hy2
  refine callsIn_of_wp_marks Try.func28 rfl trivial ?_ rfl
  simp only [Try.ntmps28, List.size_toArray, List.length_cons, List.length_nil, Nat.reduceAdd, Nat.reduceSub, Array.replicate_succ, Array.replicate_zero, List.push_toArray, List.append_toArray, List.nil_append, List.cons_append]
  gi_wp2_with fail
  refine (that_in 11 _ _ _ _ _).mono ?_
  rintro e w3 ⟨rfl, rfl⟩
  gi_wp2_with fail
  have bS := (((lsts_start w.heap.size w N).below ((Below.refl _ _).alloc (Nat.le_refl _) (.cells #[.slice (some ⟨w.heap.size, 0, none⟩) N N] 60))).below ((Below.refl _ _).alloc (Nat.le_refl _) (.cells #[.slice pa l.length cap] 22))).below ((Below.refl _ _).alloc (Nat.le_refl _) (.cells #[.int .i64 N] 3))
  have bO := ((Boxed.new (w.alloc (.cells (madeCells #[.slice none 0 0] N) 23)) 60 (.slice (some ⟨w.heap.size, 0, none⟩) N N)).alloc (.cells #[.slice pa l.length cap] 22)).alloc (.cells #[.int .i64 N] 3)
  have bL := (Boxed.new ((w.alloc (.cells (madeCells #[.slice none 0 0] N) 23)).alloc (.cells #[.slice (some ⟨w.heap.size, 0, none⟩) N N] 60)) 22 (.slice pa l.length cap)).alloc (.cells #[.int .i64 N] 3)
  have bN := Boxed.new (((w.alloc (.cells (madeCells #[.slice none 0 0] N) 23)).alloc (.cells #[.slice (some ⟨w.heap.size, 0, none⟩) N N] 60)).alloc (.cells #[.slice pa l.length cap] 22)) 3 (.int .i64 N)
  simp only [World.size_alloc] at bO bL bN
  have hA : Below w.heap.size w ((((w.alloc (.cells (madeCells #[.slice none 0 0] N) 23)).alloc (.cells #[.slice (some ⟨w.heap.size, 0, none⟩) N N] 60)).alloc (.cells #[.slice pa l.length cap] 22)).alloc (.cells #[.int .i64 N] 3)) := ((((Below.refl _ w).alloc (Nat.le_refl _) _).alloc (by simp) _).alloc (by simp; omega) _).alloc (by simp; omega) _
  have hsz : ((((w.alloc (.cells (madeCells #[.slice none 0 0] N) 23)).alloc (.cells #[.slice (some ⟨w.heap.size, 0, none⟩) N N] 60)).alloc (.cells #[.slice pa l.length cap] 22)).alloc (.cells #[.int .i64 N] 3)).heap.size = w.heap.size + 4 := by simp
  obtain ⟨W0, hW0⟩ : ∃ W0, (((w.alloc (.cells (madeCells #[.slice none 0 0] N) 23)).alloc (.cells #[.slice (some ⟨w.heap.size, 0, none⟩) N N] 60)).alloc (.cells #[.slice pa l.length cap] 22)).alloc (.cells #[.int .i64 N] 3) = W0 := ⟨_, rfl⟩
  rw [hW0] at bS bO bL bN hA hsz ⊢
  have HA := Lib.hid hA
  clear hW0 hA hmk
  refine wpIn_rangeFunc_ownH rfl (by omega) (gf := 32) (lb := #[.pointer (some ⟨w.heap.size + 2, 0, none⟩), .pointer (some ⟨w.heap.size + 3, 0, none⟩)]) rfl trivial (enters_of Try.func32 (by kernel_rfl) rfl)
    (that_stops (12 - 1) (by omega) (w.heap.size + 2) (w.heap.size + 3) w.heap.size (.slice pa l.length cap) l N (by have := HL.out; omega) w HV.out (Nat.le_refl _) W0 HA.out (by omega) bL.cell bN.cell) KpR.t (fun W l o o' hl h hc hw => KpR.put W l o o' (by omega) h hc hw) (Below.refl _ _) (fun _ => rfl)
    (NxI w.heap.size N (.slice pa l.length cap) W0)
    (fun _ _ _ => False)
    (NxI.own (by omega) (by omega))
    (fun _ _ _ _ _ hs _ _ => hs)
    ⟨⟨_, bS, fun k _ => by simp [Value.ownBlock]⟩, bO, bL, bN, Below.refl _ _⟩
    (fun x a' W => ∃ Bx, w.heap.size + 3 < Bx ∧ RowAt W Bx x ∧ a' = { tmps := #[.slice pa l.length cap, .int .i64 N, undef, undef, .slice none 0 0, .pointer (some ⟨w.heap.size + 1, 0, none⟩), .pointer (some ⟨Bx, 0, none⟩), undef, .int .i64 N, .slice (some ⟨w.heap.size, 0, none⟩) N N, .slice pa l.length cap, .int .i64 N, .func (.func 32) #[] #[.pointer (some ⟨w.heap.size + 2, 0, none⟩), .pointer (some ⟨w.heap.size + 3, 0, none⟩)], encC x, undef, undef, undef, undef, undef, undef, undef, undef, undef, undef, undef, undef, undef, undef, undef, undef, undef, undef, undef, undef, undef, undef, undef, undef, undef, undef, undef, undef], defers := [] })
    (fun x a' s X Y row hs hg hr => by
      obtain ⟨Bx, h1, h2, h3⟩ := hs
      exact ⟨Bx, h1, rowAt_own Bx x _ () X Y row h2 hg hr, h3⟩)
    ?assign ?body ?done ?stop
  case assign =>
    rintro l' pre x W K hI hK
    have hWs := hI.2.2.2.1.lt
    have hAl : Below W.heap.size W (W.alloc (.cells #[.int .i64 (x.fr : Nat), .int .i64 (x.to : Nat), .int .i64 x.note, .string x.nam, .int .i64 x.line, .int .i64 x.col] 45)) := (Below.refl _ W).alloc (Nat.le_refl _) _
    have HK := Lib.hid (hK (a' := _) _ ((keeps_belowL hAl).from _) (KpR.of_below hAl (by omega)) (hI.below hAl) ⟨W.heap.size, by omega, World.alloc_heap_new W _, rfl⟩)
    clear hK hI hAl
    unfold encC
    gi_wp2
    exact HK.out
  case body =>
    rintro l' pre x a' W hl ⟨r, hr⟩ ⟨⟨vs, hL, hne⟩, bO1, bL1, bN1, hB1⟩ ⟨Bx, hBx, hx, rfl⟩ hlt
    have hfr := x.hf
    have cO := bO1.cell
    have cF := hx.fr
    have cT := hx.to
    have cV := hL.cell hfr
    obtain ⟨pv, cv, hvs⟩ := lenL (hL.own x.fr hfr)
    rw [hvs] at cV
    have hol := outs_len x.fr pre
    have hcl := cnt_len N l
    have HLS := Lib.hid hL
    have HNE := Lib.hid hne
    have HBO := Lib.hid bO1
    have HBL := Lib.hid bL1
    have HBN := Lib.hid bN1
    have HB1 := Lib.hid hB1
    have HVS := Lib.hid hvs
    have hfz : (x.fr : Int) < N := by omega
    have M1 := Lib.hid (show (outs x.fr pre).length + 1 ≤ maxLen by have := HL.out; unfold maxLen; omega)
    have M2 := Lib.hid (show ((outs x.fr pre).length + 1) * 8 ≤ 140737488355328 by have := HL.out; omega)
    have hWS := bN1.lt
    have HX := Lib.hid hx
    obtain ⟨zl, hzl⟩ : ∃ zl, (outs x.fr pre).length = zl := ⟨_, rfl⟩
    have HZL := Lib.hid hzl
    rw [hzl] at cV HVS
    clear hL hne bO1 bL1 bN1 hB1 hvs hr hlt hol hcl hzl
    gi_wp2
    refine region_inRound (by kernel_rfl) (by kernel_rfl) ?_
    refine wpAny_of_held (S := fun w' => w'.cell? ⟨w.heap.size + 1, 0, none⟩ = some (.slice (some ⟨w.heap.size, 0, none⟩) N N) ∧ w'.cell? ⟨Bx, 0, none⟩ = some (.int .i64 (x.fr : Nat)) ∧ w'.cell? ⟨Bx, 1, none⟩ = some (.int .i64 (x.to : Nat))) _ _ _ _ ?_
    have hS0 : W.drew.cell? ⟨w.heap.size + 1, 0, none⟩ = some (.slice (some ⟨w.heap.size, 0, none⟩) N N) ∧ W.drew.cell? ⟨Bx, 0, none⟩ = some (.int .i64 (x.fr : Nat)) ∧ W.drew.cell? ⟨Bx, 1, none⟩ = some (.int .i64 (x.to : Nat)) := ⟨cO, cF, cT⟩
    refine wpAnyH_take (i := 0) (v := .slice (some ⟨w.heap.size, 0, none⟩) N N) rfl (by kernel_rfl) (by kernel_rfl) (by kernel_rfl) (fun _ _ _ h => h) (.inl ⟨by rfl, fun w' hS => by obtain ⟨h1, h2, h3⟩ := hS; go_simp⟩) hS0 ?_
    refine wpAnyH_take (i := 1) (v := .pointer (some ⟨Bx, 0, none⟩)) rfl (by kernel_rfl) (by kernel_rfl) (by kernel_rfl) (fun _ _ _ h => h) (.inl ⟨by rfl, fun w' hS => by obtain ⟨h1, h2, h3⟩ := hS; go_simp⟩) hS0 ?_
    refine wpAnyH_take (i := 2) (v := .int .i64 (x.fr : Nat)) rfl (by kernel_rfl) (by kernel_rfl) (by kernel_rfl) (fun _ _ _ h => h) (.inl ⟨by rfl, fun w' hS => by obtain ⟨h1, h2, h3⟩ := hS; go_simp⟩) hS0 ?_
    refine wpAnyH_take (i := 3) (v := .slice (some ⟨w.heap.size, 0, none⟩) N N) rfl (by kernel_rfl) (by kernel_rfl) (by kernel_rfl) (fun _ _ _ h => h) (.inl ⟨by rfl, fun w' hS => by obtain ⟨h1, h2, h3⟩ := hS; go_simp⟩) hS0 ?_
    refine wpAnyH_take (i := 4) (v := .pointer (some ⟨Bx, 0, none⟩)) rfl (by kernel_rfl) (by kernel_rfl) (by kernel_rfl) (fun _ _ _ h => h) (.inl ⟨by rfl, fun w' hS => by obtain ⟨h1, h2, h3⟩ := hS; go_simp⟩) hS0 ?_
    refine wpAnyH_take (i := 5) (v := .int .i64 (x.fr : Nat)) rfl (by kernel_rfl) (by kernel_rfl) (by kernel_rfl) (fun _ _ _ h => h) (.inl ⟨by rfl, fun w' hS => by obtain ⟨h1, h2, h3⟩ := hS; go_simp⟩) hS0 ?_
    refine wpAnyH_take (i := 6) (v := .pointer (some ⟨w.heap.size, x.fr, none⟩)) rfl (by kernel_rfl) (by kernel_rfl) (by kernel_rfl) (fun _ _ _ h => h) (.inl ⟨by rfl, fun w' hS => by obtain ⟨h1, h2, h3⟩ := hS; go_simp⟩) hS0 ?_
    refine wpAnyH_take (i := 8) (v := .pointer (some ⟨Bx, 1, none⟩)) rfl (by kernel_rfl) (by kernel_rfl) (by kernel_rfl) (fun _ _ _ h => h) (.inl ⟨by rfl, fun w' hS => by obtain ⟨h1, h2, h3⟩ := hS; go_simp⟩) hS0 ?_
    refine wpAnyH_take (i := 9) (v := .int .i64 (x.to : Nat)) rfl (by kernel_rfl) (by kernel_rfl) (by kernel_rfl) (fun _ _ _ h => h) (.inl ⟨by rfl, fun w' hS => by obtain ⟨h1, h2, h3⟩ := hS; go_simp⟩) hS0 ?_
    have hS1 := hS0
    have hAl : Below W.drew.heap.size W.drew (W.drew.alloc (.cells #[.int .i64 (x.to : Nat)] 3)) := (Below.refl _ _).alloc (Nat.le_refl _) _
    have hS2 := And.intro ((hAl.cell (p := ⟨w.heap.size + 1, 0, none⟩) (cellInL hS0.1)).trans hS0.1) (And.intro ((hAl.cell (p := ⟨Bx, 0, none⟩) (cellInL hS0.2.1)).trans hS0.2.1) ((hAl.cell (p := ⟨Bx, 1, none⟩) (cellInL hS0.2.2)).trans hS0.2.2))
    have cV2 : (W.alloc (.cells #[.int .i64 (x.to : Nat)] 3)).cell? ⟨w.heap.size, x.fr, none⟩ = some (.slice pv zl cv) := (hAl.cell (p := ⟨w.heap.size, x.fr, none⟩) (cellInL cV)).trans cV
    have HS2 := Lib.hid hS2
    have n7 : w.heap.size ≠ W.heap.size := by omega
    have HD := Lib.hid (show Lsts w.heap.size W.drew w.heap.size N vs (fun k => outs k pre) from HLS.out.keep fun _ _ _ _ _ => rfl)
    have hend : ∀ g' cap' w3, w3.ownsRow w.heap.size 3 1 (.slice (some ⟨g', 0, none⟩) (zl + 1) cap') (zl + 1) (numsV (outs x.fr pre) ++ [.int .i64 (x.to : Nat)]) → (W.drew.alloc (.cells #[.int .i64 (x.to : Nat)] 3)).grownBy w3 (vs x.fr).ownBlock → ((vs x.fr).ownBlock = some g' ∨ g' = (W.drew.alloc (.cells #[.int .i64 (x.to : Nat)] 3)).heap.size) → Hid (
        w3.cell? ⟨w.heap.size, x.fr, none⟩ = some (vs x.fr) ∧ w3.frozen? ⟨w.heap.size, x.fr, none⟩ = false ∧ Boxed w3 (w.heap.size + 1) 60 (.slice (some ⟨w.heap.size, 0, none⟩) N N) ∧
        KeepsOthers W.drew (w3.setCell ⟨w.heap.size, x.fr, none⟩ (.slice (some ⟨g', 0, none⟩) (zl + 1) cap')) ∧ KpR w.heap.size (w.heap.size + 2) (w.heap.size + 3) W.drew (w3.setCell ⟨w.heap.size, x.fr, none⟩ (.slice (some ⟨g', 0, none⟩) (zl + 1) cap')) ∧ NxI w.heap.size N (.slice pa l.length cap) W0 (pre ++ [x]) (w3.setCell ⟨w.heap.size, x.fr, none⟩ (.slice (some ⟨g', 0, none⟩) (zl + 1) cap')) ∧ RowAt w3 Bx x ∧ RowAt (w3.setCell ⟨w.heap.size, x.fr, none⟩ (.slice (some ⟨g', 0, none⟩) (zl + 1) cap')) Bx x) := by
      intro g' cap' w3 hown hgrow hat
      have hx' : RowAt (W.drew.alloc (.cells #[.int .i64 (x.to : Nat)] 3)) Bx x := (hAl.block Bx HX.out.lt).trans HX.out
      have hxr : RowAt w3 Bx x := (hgrow.block Bx hx'.lt (fun e => own_not ((HD.out.below hAl).own x.fr hfr) hx' (fun cur fr e => by cases e) e.symm)).trans hx'
      obtain ⟨a1, a2, a3, a4, a5, a6⟩ := NxI.push (W := W.drew) (x := x) (v' := .slice (some ⟨g', 0, none⟩) (zl + 1) cap') HD.out HNE.out HBO.out HBL.out HBN.out HB1.out.drew (by rw [List.length_append, numsV_app, HZL.out]; exact hown) hgrow (by
        rcases hat with h | h
        · exact .inl (by rw [h]; rfl)
        · exact .inr (by rw [h]; rfl))
      exact ⟨a1, a2, a3, a4, a5, a6, hxr, (Below.heap_setCell _ _ _ _ (by show Bx ≠ w.heap.size; omega)).trans hxr⟩
    have HEND := Lib.hid hend
    have HO := Lib.hid ((HD.out.own x.fr hfr).alloc (.cells #[.int .i64 (x.to : Nat)] 3))
    have M3 := Lib.hid (show w.heap.size ≤ (W.drew.alloc (.cells #[.int .i64 (x.to : Nat)] 3)).heap.size by simp; omega)
    clear hend hAl hS2
    refine wpAnyH_all (rs := [7, 10]) (by kernel_rfl) (by simp) ?_
    intro i' hi'
    rcases (by simpa using hi' : i' = 7 ∨ i' = 10) with rfl | rfl
    · clear hi'
      refine op_via rfl (by rfl) (fun K hK => ?_)
      go_simp
      refine hK _ _ ⟨hS0, ?_⟩
      clear hK K
      refine wpAnyH_all (rs := [10]) (by kernel_rfl) (by simp) ?_
      intro i' hi'
      obtain rfl : i' = 10 := by simpa using hi'
      refine op_via rfl (by rfl) (fun K hK => ?_)
      go_simp
      refine hK _ _ ⟨HS2.out, ?_⟩
      clear hK K
      refine wpAnyH_all (rs := [11]) (by kernel_rfl) (by simp) ?_
      intro i' hi'
      obtain rfl : i' = 11 := by simpa using hi'
      refine op_via rfl (by rfl) (fun K hK => ?_)
      refine wp_append_lies _ (.tmp 21) (.tmp 24) 23 rfl w.heap.size 3 i0 (.int .i64 0) 1 8 Try.underlying23 hi0 hz0 hz1 hz2 rfl (by decide) (vs x.fr) zl (numsV (outs x.fr pre)) (by simp [Act.eval, HVS.out]) (by have h9 := HO.out; rw [HZL.out] at h9; exact h9) ⟨W.heap.size, 0, none⟩ 1 1 [.int .i64 (x.to : Nat)] (by simp [Act.eval]) rfl (cells_newL _ _ _) (numsV_one [x.to]) (by decide) (by rw [← HZL.out]; exact M1.out) (by rw [← HZL.out]; exact M2.out) M3.out _ rfl ?_
      intro g' cap' w3 hown' hgrow hat _
      obtain ⟨a1, a2, a3, a4, a5, a6, a7, a8⟩ := (HEND.out g' cap' w3 hown' hgrow hat).out
      have HA4 := Lib.hid a4
      have HA5 := Lib.hid a5
      have HA6 := Lib.hid a6
      have hS3 := And.intro a3.cell (And.intro a7.fr a7.to)
      have hS4 := And.intro (show (w3.setCell ⟨w.heap.size, x.fr, none⟩ (.slice (some ⟨g', 0, none⟩) (zl + 1) cap')).cell? ⟨w.heap.size + 1, 0, none⟩ = some (.slice (some ⟨w.heap.size, 0, none⟩) N N) from a6.2.1.cell) (And.intro a8.fr a8.to)
      have HS4 := Lib.hid hS4
      rw [HVS.out] at a1
      clear hown' hgrow hat a4 a5 a6 a3 a7 a8 hS4
      refine hK _ _ ⟨hS3, ?_⟩
      clear hK K
      refine wpAnyH_all (rs := [12]) (by kernel_rfl) (by simp) ?_
      intro i' hi'
      obtain rfl : i' = 12 := by simpa using hi'
      refine op_via rfl (by rfl) (fun K hK => ?_)
      go_simp
      refine hK _ _ ⟨hS3, ?_⟩
      clear hK K
      refine wpAnyH_all (rs := [13]) (by kernel_rfl) (by simp) ?_
      intro i' hi'
      obtain rfl : i' = 13 := by simpa using hi'
      refine op_via rfl (by rfl) (fun K hK => ?_)
      go_simp
      refine hK _ _ ⟨HS4.out, ?_⟩
      clear hK K
      refine wpAnyH_done (by kernel_rfl) ?_ _
      simp only [Just]
      gi_wp2
      exact ⟨((KeepsOthers.drew W).trans HA4.out).from _, ⟨((Below.refl _ W).drew).trans HA5.out.1, HA5.out.2.1, HA5.out.2.2⟩, HA6.out⟩
    · clear hi'
      refine op_via rfl (by rfl) (fun K hK => ?_)
      go_simp
      refine hK _ _ ⟨HS2.out, ?_⟩
      clear hK K
      refine wpAnyH_all (rs := [7]) (by kernel_rfl) (by simp) ?_
      intro i' hi'
      obtain rfl : i' = 7 := by simpa using hi'
      refine op_via rfl (by rfl) (fun K hK => ?_)
      go_simp
      refine hK _ _ ⟨HS2.out, ?_⟩
      clear hK K
      refine wpAnyH_all (rs := [11]) (by kernel_rfl) (by simp) ?_
      intro i' hi'
      obtain rfl : i' = 11 := by simpa using hi'
      refine op_via rfl (by rfl) (fun K hK => ?_)
      refine wp_append_lies _ (.tmp 21) (.tmp 24) 23 rfl w.heap.size 3 i0 (.int .i64 0) 1 8 Try.underlying23 hi0 hz0 hz1 hz2 rfl (by decide) (vs x.fr) zl (numsV (outs x.fr pre)) (by simp [Act.eval, HVS.out]) (by have h9 := HO.out; rw [HZL.out] at h9; exact h9) ⟨W.heap.size, 0, none⟩ 1 1 [.int .i64 (x.to : Nat)] (by simp [Act.eval]) rfl (cells_newL _ _ _) (numsV_one [x.to]) (by decide) (by rw [← HZL.out]; exact M1.out) (by rw [← HZL.out]; exact M2.out) M3.out _ rfl ?_
      intro g' cap' w3 hown' hgrow hat _
      obtain ⟨a1, a2, a3, a4, a5, a6, a7, a8⟩ := (HEND.out g' cap' w3 hown' hgrow hat).out
      have HA4 := Lib.hid a4
      have HA5 := Lib.hid a5
      have HA6 := Lib.hid a6
      have hS3 := And.intro a3.cell (And.intro a7.fr a7.to)
      have hS4 := And.intro (show (w3.setCell ⟨w.heap.size, x.fr, none⟩ (.slice (some ⟨g', 0, none⟩) (zl + 1) cap')).cell? ⟨w.heap.size + 1, 0, none⟩ = some (.slice (some ⟨w.heap.size, 0, none⟩) N N) from a6.2.1.cell) (And.intro a8.fr a8.to)
      have HS4 := Lib.hid hS4
      rw [HVS.out] at a1
      clear hown' hgrow hat a4 a5 a6 a3 a7 a8 hS4
      refine hK _ _ ⟨hS3, ?_⟩
      clear hK K
      refine wpAnyH_all (rs := [12]) (by kernel_rfl) (by simp) ?_
      intro i' hi'
      obtain rfl : i' = 12 := by simpa using hi'
      refine op_via rfl (by rfl) (fun K hK => ?_)
      go_simp
      refine hK _ _ ⟨hS3, ?_⟩
      clear hK K
      refine wpAnyH_all (rs := [13]) (by kernel_rfl) (by simp) ?_
      intro i' hi'
      obtain rfl : i' = 13 := by simpa using hi'
      refine op_via rfl (by rfl) (fun K hK => ?_)
      go_simp
      refine hK _ _ ⟨HS4.out, ?_⟩
      clear hK K
      refine wpAnyH_done (by kernel_rfl) ?_ _
      simp only [Just]
      gi_wp2
      exact ⟨((KeepsOthers.drew W).trans HA4.out).from _, ⟨((Below.refl _ W).drew).trans HA5.out.1, HA5.out.2.1, HA5.out.2.2⟩, HA6.out⟩
  case done =>
    rintro D ys W hD rfl ⟨⟨vs, hL, hne⟩, bO1, bL1, bN1, hB1⟩ hK
    have cO := bO1.cell
    have HBx := Lib.hid (HA.out.trans hB1)
    have HKK := Lib.hid hK
    have HS := Lib.hid hL
    have HBO := Lib.hid bO1
    have HLO := Lib.hid (fun k => outs_len k (cnt N l))
    have HCL := Lib.hid (cnt_len N l)
    have HRS := Lib.hid (fun k => rsg_outs (n := N) l k)
    clear hB1 hL hne bL1 bN1
    gi_wp2
    gi_loopw [29] (fun i wr => ∃ k : Nat, i = .int .i64 (k : Nat) ∧ k ≤ N ∧ (∃ us, Lsts w.heap.size wr w.heap.size N us (fun j => if j < k then outM l N j else outs j (cnt N l))) ∧ Boxed wr (w.heap.size + 1) 60 (.slice (some ⟨w.heap.size, 0, none⟩) N N) ∧ wr.heap[D]? = some (.deferred (some [])) ∧ Below w.heap.size w wr) (fun i _ => N - (intOf i).toNat)
    case atStart => exact ⟨0, rfl, Nat.zero_le _, ⟨vs, HS.out.congr fun k _ => by simp⟩, HBO.out, HKK.out, HBx.out⟩
    case round =>
      obtain ⟨k, rfl, hk, ⟨us, hU⟩, bU, hKr, hb⟩ := hrel
      have cU := bU.cell
      by_cases hlt : k < N
      · have hkz : (k : Int) < N := by omega
        have cK := hU.cell hlt
        obtain ⟨pv, cv, hus⟩ := lenL (hU.own k hlt)
        simp only [Nat.lt_irrefl, if_false] at hus
        have hcR := rising_pro w.heap.size (us k) (outs k (cnt N l)) wr.drew (by
          have h9 := hU.own k hlt
          simp only [if_neg (Nat.lt_irrefl k)] at h9
          exact h9) (by have := HLO.out k; have := HCL.out; have := HL.out; omega)
        have HRI := Lib.hid hcR
        have HUU := Lib.hid hU
        have HBU := Lib.hid bU
        have HKR := Lib.hid hKr
        have HBB := Lib.hid hb
        have HLT := Lib.hid hlt
        have HUS := Lib.hid hus
        rw [hus] at cK
        clear hU bU hKr hb hlt hcR hus
        refine wpIn_wide.2 ?_
        go_wp2_with fail
        have hS0 : wr.drew.cell? ⟨w.heap.size + 1, 0, none⟩ = some (.slice (some ⟨w.heap.size, 0, none⟩) N N) := cU
        refine region_just (S := fun w' => w'.cell? ⟨w.heap.size + 1, 0, none⟩ = some (.slice (some ⟨w.heap.size, 0, none⟩) N N)) (by kernel_rfl) ?_
        refine wpAnyH_take (i := 0) (v := .slice (some ⟨w.heap.size, 0, none⟩) N N) rfl (by kernel_rfl) (by kernel_rfl) (by kernel_rfl) (fun _ _ _ h => h) (.inl ⟨by rfl, fun w' hS => by have h1 := hS; go_simp⟩) hS0 ?_
        refine wpAnyH_take (i := 1) (v := .int .i64 (k : Nat)) rfl (by kernel_rfl) (by kernel_rfl) (by kernel_rfl) (fun _ _ _ h => h) (.inl ⟨by rfl, fun w' hS => by have h1 := hS; go_simp⟩) hS0 ?_
        refine wpAnyH_take (i := 2) (v := .slice (some ⟨w.heap.size, 0, none⟩) N N) rfl (by kernel_rfl) (by kernel_rfl) (by kernel_rfl) (fun _ _ _ h => h) (.inl ⟨by rfl, fun w' hS => by have h1 := hS; go_simp⟩) hS0 ?_
        refine wpAnyH_take (i := 3) (v := .int .i64 (k : Nat)) rfl (by kernel_rfl) (by kernel_rfl) (by kernel_rfl) (fun _ _ _ h => h) (.inl ⟨by rfl, fun w' hS => by have h1 := hS; go_simp⟩) hS0 ?_
        refine wpAnyH_take (i := 4) (v := .pointer (some ⟨w.heap.size, k, none⟩)) rfl (by kernel_rfl) (by kernel_rfl) (by kernel_rfl) (fun _ _ _ h => h) (.inl ⟨by rfl, fun w' hS => by have h1 := hS; go_simp⟩) hS0 ?_
        refine wpAnyH_all (rs := [5]) (by kernel_rfl) (by simp) ?_
        intro i' hi'
        obtain rfl : i' = 5 := by simpa using hi'
        refine op_via rfl (by rfl) (fun K hK => ?_)
        go_simp
        refine hK _ _ ⟨hS0, ?_⟩
        clear hK K
        refine wpAnyH_all (rs := [6]) (by kernel_rfl) (by simp) ?_
        intro i' hi'
        obtain rfl : i' = 6 := by simpa using hi'
        refine op_via rfl (by rfl) (fun K hK => ?_)
        go_simp
        rw [← HUS.out]
        refine HRI.out.mono ?_
        rintro e w5 ⟨v5, rfl, hown5, hob5, hg5⟩
        have hUd : Lsts w.heap.size wr.drew w.heap.size N us (fun j => if j < k then outM l N j else outs j (cnt N l)) := HUU.out.keep fun _ _ _ _ _ => rfl
        have hnb : some (w.heap.size + 1) ≠ (us k).ownBlock := Boxed.not_row (t := 60) (W := wr.drew) HBU.out (by decide) (hUd.own k HLT.out)
        have b5 : Boxed w5 (w.heap.size + 1) 60 (.slice (some ⟨w.heap.size, 0, none⟩) N N) := Boxed.kept (W := wr.drew) HBU.out hg5 hnb
        obtain ⟨q1, q2, q3⟩ := hUd.turn HLT.out hg5 hown5 (.inl hob5)
        have b6 : Boxed (w5.setCell ⟨w.heap.size, k, none⟩ v5) (w.heap.size + 1) 60 (.slice (some ⟨w.heap.size, 0, none⟩) N N) := (Below.heap_setCell _ _ _ _ (by show w.heap.size + 1 ≠ w.heap.size; omega)).trans b5
        have k5 : w5.heap[D]? = some (.deferred (some [])) := (hg5.block D (Array.getElem?_eq_some_iff.1 HKR.out).1 (fun e => own_not (hUd.own k HLT.out) HKR.out (fun cur fr e => by cases e) e.symm)).trans HKR.out
        have k6 : (w5.setCell ⟨w.heap.size, k, none⟩ v5).heap[D]? = some (.deferred (some [])) := (Below.heap_setCell _ _ _ _ (by show D ≠ w.heap.size; omega)).trans k5
        have bl6 : Below w.heap.size w (w5.setCell ⟨w.heap.size, k, none⟩ v5) := ((HBB.out.drew.grown hg5 (by have := HBB.out.size; simp; omega) (fun r e => (own_base (hUd.own k HLT.out) e).1)).setCell (p := ⟨w.heap.size, k, none⟩) (Nat.le_refl _) v5)
        have q4 := q3.congr (g := fun j => if j < k + 1 then outM l N j else outs j (cnt N l)) (fun j hj => by
          by_cases e : j = k
          · subst e; simp [HRS.out]
          · rw [if_neg e]
            by_cases e2 : j < k
            · rw [if_pos e2, if_pos (by omega)]
            · rw [if_neg e2, if_neg (by omega)])
        have HQ4 := Lib.hid q4
        have HB6 := Lib.hid b6
        have HK6 := Lib.hid k6
        have HBL6 := Lib.hid bl6
        have c5 := b5.cell
        rw [HUS.out] at q1
        obtain ⟨p5, cv5, rfl⟩ := lenL hown5
        clear hUd hnb q3 b6 k5 k6 bl6 q4 hg5 hown5 hob5 b5
        refine hK _ _ ⟨c5, ?_⟩
        clear hK K
        refine wpAnyH_all (rs := [7]) (by kernel_rfl) (by simp) ?_
        intro i' hi'
        obtain rfl : i' = 7 := by simpa using hi'
        refine op_via rfl (by rfl) (fun K hK => ?_)
        go_simp
        refine hK _ _ ⟨c5, ?_⟩
        clear hK K
        refine wpAnyH_all (rs := [8]) (by kernel_rfl) (by simp) ?_
        intro i' hi'
        obtain rfl : i' = 8 := by simpa using hi'
        refine op_via rfl (by rfl) (fun K hK => ?_)
        go_simp
        refine hK _ _ ⟨HB6.out.cell, ?_⟩
        clear hK K
        refine wpAnyH_done (by kernel_rfl) ?_ _
        simp only [Just]
        go_wp2_with fail
        go_roundw
        case measure => have := HLT.out; first | (simp [intOf]; done) | (simp [intOf]; omega)
        case rel => exact ⟨k + 1, by go_num, by have := HLT.out; omega, ⟨_, HQ4.out⟩, HB6.out, HK6.out, HBL6.out⟩
      · obtain rfl : k = N := by omega
        have hlz : ¬ ((k : Int) < k) := by omega
        have HUU := Lib.hid hU
        have HKR := Lib.hid hKr
        have HBB := Lib.hid hb
        clear hU hKr hb hlt
        gi_wp2
        refine ⟨by simp, .inl ⟨_, _, rfl, run_takeDeferred HKR.out, ?_⟩⟩
        refine ⟨_, results_tmp rfl _ _ _, w.heap.size, us, Nat.le_refl _, rfl, ?_, ?_⟩
        · refine (HUU.out.congr (g := fun j => outM l k j) fun j hj => by rw [if_pos hj]).keep fun c cur T fr e => ?_
          refine World.putObj_heap_other fun e2 => ?_
          subst e2
          rw [HKR.out] at e
          cases e
        · exact HBB.out.trans (belowK_b (w := w) (Nat.le_refl _) wr D _ _ (by omega) HKR.out rfl rfl)
  case stop =>
    rintro D c pre W _ _ h _
    exact h.elim
end Go.Proofs.Ytjgcbobalmmjkaa
