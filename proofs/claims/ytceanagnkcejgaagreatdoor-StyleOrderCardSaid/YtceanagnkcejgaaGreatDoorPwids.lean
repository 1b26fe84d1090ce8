/- The program's Wide, Cut and Cells of layer 2: loops over its iterator. -/
import Derived.Test.YtceanagnkcejgaaGreatDoorPcels
import Derived.Maps.AppendAt
namespace Go.Proofs.YtceanagnkcejgaaGreatDoor
open Go.RowKit Go.Shelf

attribute [local go_sem] Oper.semAt_some

/-- A call answers a new list whose cells hold xs. -/
def RowIs (T : TypeId) (size n : Nat) (xs : List Value) (w : World) (e : Ending) (w' : World) : Prop :=
  ∃ v : Value, e = .returned v ∧ w'.ownsRow w.heap.size T size v n xs ∧ Below w.heap.size w w'

theorem KpS.set {B : Nat} (W : World) (b o : Nat) (v : Value) (h : B ≠ b) : KpS B W (W.setCell ⟨b, o, none⟩ v) := by
  refine ⟨KeepsWalks.setCell _ _ _, fun u e => ?_⟩
  have hb : (W.setCell ⟨b, o, none⟩ v).heap[B]? = W.heap[B]? := Below.heap_setCell _ _ _ B h
  unfold World.cell? at e ⊢
  simp only [] at e ⊢
  rw [hb]
  exact e
theorem KpS.alloc {B : Nat} (W : World) (o : Obj) : KpS B W (W.alloc o) := ⟨KeepsWalks.alloc _ _, fun _ e => cell_more e _⟩
theorem KpS.grown {B : Nat} {W W' : World} {row : Option Nat} (hg : W.grownBy W' row) (hrow : ∀ (j : Nat) (o : Obj), row = some j → W.heap[j]? = some o → o.isWalk = false) (h : some B ≠ row) : KpS B W W' := by
  refine ⟨KeepsWalks.of_grownBy hg hrow, fun u e => ?_⟩
  have hb : W'.heap[B]? = W.heap[B]? := hg.block B (cell_lt e) h
  unfold World.cell? at e ⊢
  simp only [] at e ⊢
  rw [hb]
  exact e

/-- The function value over one new block that holds the text. -/
theorem cells_in (n : Nat) (s : ByteArray) (w : World) :
    CallsIn Fence.wide n Tryz.prog 68 #[.string s] w fun e w' => e = .returned (.func (.func 81) #[] #[.pointer (some ⟨w.heap.size, 0, none⟩)]) ∧ w' = w.alloc (.cells #[.string s] 9) := by
  refine callsIn_of_wp Tryz.func68 rfl trivial ?_ rfl
  simp only [Tryz.ntmps68, List.size_toArray, List.length_cons, List.length_nil, Nat.reduceAdd, Nat.reduceSub, Array.replicate_succ, Array.replicate_zero, List.push_toArray, List.append_toArray, List.nil_append, List.cons_append]
  gi_wp2
  go_ret
  exact ⟨rfl, rfl⟩

theorem cells_stops (n : Nat) (hn : 2 ≤ n) (B : Nat) (s : ByteArray) (hs : s.size ≤ 16777216) (w : World) (hB : w.cell? ⟨B, 0, none⟩ = some (.string s)) :
    SeqStopsK Fence.wide n Tryz.prog 81 #[.pointer (some ⟨B, 0, none⟩)] (fun x : SCel s => #[celA s x.1]) (KpS B) (fun ys => ys.map (·.1) = cells s) (fun pre => pre.map (·.1) <+: cells s) (cells s).length w := fun l J Jx W hW hJ _ hY h0 =>
  cells1_in n l B s hs J Jx hY W hJ ((hW.cell (p := ⟨B, 0, none⟩) (cell_lt hB)).trans hB) h0 hn

def sumS {s : ByteArray} (l : List (SCel s)) : Int := sumW (l.map (·.1))
theorem sumS_snoc {s : ByteArray} (l : List (SCel s)) (x : SCel s) : sumS (l ++ [x]) = sumS l + x.1.2.2 := by simp [sumS, sumW_snoc]
theorem sumS_bd {s : ByteArray} (l : List (SCel s)) : 0 ≤ sumS l ∧ sumS l ≤ 2 * l.length := by
  have := sumW_bd (l.map (·.1)) (fun y hy => by obtain ⟨x, _, rfl⟩ := List.mem_map.1 hy; exact x.2.1)
  simpa [sumS] using this

set_option maxRecDepth 100000 in
set_option maxHeartbeats 4000000 in
theorem wide_in (s : ByteArray) (w : World) (hs : s.size ≤ 16777216) :
    CallsIn Fence.wide 8 Tryz.prog 59 #[.string s] w (Says (.int .i64 (wide s)) w) := by
  have hfc : Fence.wide.fn 68 := trivial
  have hf1 : Fence.wide.fn 81 := trivial
  have hl := cells_len s
  refine callsIn_of_wp_marks Tryz.func59 rfl trivial ?_ rfl
  simp only [Tryz.ntmps59, List.size_toArray, List.length_cons, List.length_nil, Nat.reduceAdd, Nat.reduceSub, Array.replicate_succ, Array.replicate_zero, List.push_toArray, List.append_toArray, List.nil_append, List.cons_append]
  gi_wp2_with (gi_at_call 68; refine (cells_in _ _ _).mono ?_; rintro e w' ⟨rfl, rfl⟩)
  have bS := (Boxed.new w 3 (.int .i64 0)).alloc (.cells #[.string s] 9)
  have bA := Boxed.new (w.alloc (.cells #[.int .i64 0] 3)) 9 (.string s)
  simp only [World.size_alloc] at bA
  have hB0 : Below w.heap.size w ((w.alloc (.cells #[.int .i64 0] 3)).alloc (.cells #[.string s] 9)) := ((Below.refl _ w).alloc (Nat.le_refl _) _).alloc (by simp) _
  have hsz : ((w.alloc (.cells #[.int .i64 0] 3)).alloc (.cells #[.string s] 9)).heap.size = w.heap.size + 2 := by simp
  obtain ⟨W0, hW0⟩ : ∃ W0, (w.alloc (.cells #[.int .i64 0] 3)).alloc (.cells #[.string s] 9) = W0 := ⟨_, rfl⟩
  rw [hW0] at bS bA hB0 hsz ⊢
  clear hW0
  refine wpIn_rangeFunc_ownH rfl (by omega) (gf := 81) (lb := #[.pointer (some ⟨w.heap.size + 1, 0, none⟩)]) rfl trivial (enters_of Tryz.func81 (by kernel_rfl) rfl)
    (cells_stops (8 - 1) (by omega) (w.heap.size + 1) s hs W0 bA.cell) KpS.t (fun W l o o' _ h hc hw => KpS.put W l o o' h hc hw) (Below.refl _ _) (fun _ => rfl)
    (fun pre W => Boxed W w.heap.size 3 (.int .i64 (sumS pre)) ∧ Below w.heap.size w W)
    (fun _ _ _ => False)
    (OwnFrom.and (Own.from (boxed_own _ _ _) _) (ownFrom_below (Nat.le_refl _) (by omega)))
    (fun _ _ _ _ _ hs _ _ => hs)
    ⟨bS, hB0⟩
    (fun x a' W => ∃ Bx, w.heap.size < Bx ∧ W.heap[Bx]? = some (.cells #[.string (s.extract x.1.1 x.1.2.1), .int .i64 x.1.1, .int .i64 x.1.2.2] 117 (0, 0)) ∧ a' = { tmps := #[.string s, undef, .int .i64 0, .pointer (some ⟨w.heap.size, 0, none⟩), .pointer (some ⟨Bx, 0, none⟩), .string s, .func (.func 81) #[] #[.pointer (some ⟨w.heap.size + 1, 0, none⟩)], Value.agg #[.string (s.extract x.1.1 x.1.2.1), .int .i64 x.1.1, .int .i64 x.1.2.2], undef, undef, undef, undef, undef], defers := [] })
    (fun x a' _ X Y row hs hg hr => by
      obtain ⟨Bx, h1, h2, h3⟩ := hs
      refine ⟨Bx, h1, (hg.block Bx (Array.getElem?_eq_some_iff.1 h2).1 (fun e => ?_)).trans h2, h3⟩
      obtain ⟨_, o, ho, hc⟩ := hr Bx e.symm
      rw [h2] at ho; cases ho; cases hc)
    ?assign ?body ?done ?stop
  case assign =>
    rintro l pre x W K ⟨bS1, hB1⟩ hK
    simp only [celA]
    gi_wp2
    exact hK _ _ ((KeepsOthers.alloc _ _).from _) (KpS.alloc _ _) ⟨bS1.alloc _, hB1.alloc hB1.size _⟩ ⟨W.heap.size, bS1.lt, World.alloc_heap_new W _, rfl⟩
  case body =>
    rintro l pre x a' W hl ⟨r, hr⟩ ⟨bS1, hB1⟩ ⟨Bx, hBx, bX, rfl⟩ hlt
    have cS := bS1.cell
    have fS := bS1.frozen
    have cX : W.cell? ⟨Bx, 2, none⟩ = some (.int .i64 x.1.2.2) := by simp [World.cell?, bX]
    have hsm := sumS_bd pre
    have hx2 := x.2.1
    have s1 : 0 ≤ sumS pre := hsm.1
    have s2 : sumS pre ≤ 33554432 := by omega
    have x1 : 1 ≤ x.1.2.2 := by omega
    have x2 : x.1.2.2 ≤ 2 := by omega
    clear hx2 hsm
    gi_wp2
    exact ⟨(KeepsOthers.setCell _ _ _).from _, KpS.set _ _ _ _ (by omega), by rw [sumS_snoc]; exact bS1.set _, hB1.setCell (p := ⟨w.heap.size, 0, none⟩) (Nat.le_refl _) _⟩
  case done =>
    rintro D ys W hD hys ⟨bS1, hB1⟩ hK
    have cS := bS1.cell
    have hw : sumS ys = wide s := by unfold sumS wide; rw [hys]
    have HW := Lib.hid hw
    clear hw hys
    gi_wp2
    refine ⟨by simp, .inl ⟨_, _, rfl, run_takeDeferred hK, ?_⟩⟩
    rw [HW.out]
    exact ⟨_, results_tmp rfl _ _ _, rfl, hB1.trans (belowK_b (w := w) (Nat.le_refl _) W D _ _ (by omega) hK rfl rfl)⟩
  case stop =>
    rintro D c pre W _ _ h _
    exact h.elim
end Go.Proofs.YtceanagnkcejgaaGreatDoor
