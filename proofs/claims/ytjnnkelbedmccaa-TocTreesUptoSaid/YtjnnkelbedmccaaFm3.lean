/- The program's iterator over the faults of an error that is one fault that was made: one round. -/
import Derived.Test.YtjnnkelbedmccaaFm2
import Derived.RangeFuncNested
import Derived.RangeFuncBound
import Derived.RangeFuncCalls
import Derived.RangeFuncLeaves
import Derived.RangeFuncBox
import Derived.Shelf.Abstract
import Derived.Shelf.RegionOpen
import Derived.OwnWalkIn
import Derived.TacticsInMore
import Derived.LoopNIn
import Derived.LoopIn
namespace Go.Proofs.Ytjnnkelbedmccaa
open Go.RowKit Go.Shelf
set_option linter.unusedVariables false

attribute [local go_sem] Oper.semAt_some

/-- The error whose fault lies in block g. -/
def errV (g : Nat) : Value := .iface 94 (.pointer (some ⟨g, 0, none⟩))

theorem assert_own (w : World) (t xT e : TypeId) (v : Value) (h : Try.prog.underlying t = some (.pointer e)) : (Instr.typeAssert (.iface t v) xT t true).run Try.prog w = .ok (.tuple #[v, .bool true]) w := by
  simp [Instr.typeAssert, run_underlying h]
theorem faults_in (n : Nat) (v : Value) (g : Nat) (w : World) (hv : v = errV g) :
    CallsIn Fence.wide n Try.prog 58 #[v] w fun e w' => e = .returned (.func (.func 63) #[] #[.pointer (some ⟨w.heap.size, 0, none⟩)]) ∧ w' = w.alloc (.cells #[errV g] 36) := by
  subst hv
  unfold errV
  refine callsIn_of_wp Try.func58 rfl trivial ?_ rfl
  simp only [Try.ntmps58, List.size_toArray, List.length_cons, List.length_nil, Nat.reduceAdd, Nat.reduceSub, Array.replicate_succ, Array.replicate_zero, List.push_toArray, List.append_toArray, List.nil_append, List.cons_append]
  gi_wp2
  go_ret
  exact ⟨rfl, rfl⟩

set_option maxRecDepth 100000 in
set_option maxHeartbeats 2000000 in
theorem walk1_in (n l g : Nat) (f : Flt) (R : World → Prop) (Rx : World → Prop) (W : World) (hn : 2 ≤ n) (he : Erd W g f)
    (hY : YieldAt Fence.wide (n - 1) Try.prog l #[.pointer (some ⟨g, 0, none⟩), noWay] (W.alloc (.cells #[.bool false, .int .i64 0, .slice none 0 0] 101)) fun e W' => (e = .returned (.bool true) ∧ R W') ∨ (e = .returned (.bool false) ∧ Rx W')) :
    CallsIn Fence.wide n Try.prog 64 #[errV g, noWay, .func (.yield l) #[] #[]] W fun e W' => (e = .returned (.bool true) ∧ R W') ∨ (e = .returned (.bool false) ∧ Rx W') := by
  have hfw : Fence.wide.fn 67 := trivial
  have h1n : 1 ≤ n := by omega
  obtain ⟨fn, tmps, assign, body, hy, hR⟩ := hY
  unfold errV noWay
  unfold noWay at hy
  have HM := Lib.hid (made_pro f g _ (he.below ((Below.refl _ W).alloc (Nat.le_refl _) (.cells #[.bool false, .int .i64 0, .slice none 0 0] 101))))
  clear he
  refine callsIn_of_wp Try.func64 rfl trivial ?_ rfl
  simp only [Try.ntmps64, List.size_toArray, List.length_cons, List.length_nil, Nat.reduceAdd, Nat.reduceSub, Array.replicate_succ, Array.replicate_zero, List.push_toArray, List.append_toArray, List.nil_append, List.cons_append]
  gi_wp2_with (gi_at_call 67; refine (callsIn_wide.2 HM.out).mono ?_; rintro e w' ⟨rfl, rfl⟩)
  rw [assert_own _ 94 _ 96 _ Try.underlying94]
  simp only [Result.andThen]
  rw [Oper.uponIn_value]
  gi_wp2_with (gi_at_call 67; refine (callsIn_wide.2 HM.out).mono ?_; rintro e w' ⟨rfl, rfl⟩)
  refine hR.mono ?_
  rintro e W' (⟨rfl, h⟩ | ⟨rfl, h⟩)
  · gi_wp2
    go_ret
    exact .inl ⟨rfl, h⟩
  · gi_wp2
    go_ret
    exact .inr ⟨rfl, h⟩

theorem yield_any (m m' : Nat) {P : Program} {l : Nat} {args : Array Value} {W : World} {R : Ending → World → Prop} (h : YieldAt Fence.wide m P l args W R) : YieldAt Fence.wide m' P l args W R := by
  obtain ⟨fn, tmps, assign, body, hy, hR⟩ := h
  exact ⟨fn, tmps, assign, body, hy, hR.1, fun c cs _ => hR.2 c cs (fun d hd => by cases hd)⟩

set_option maxRecDepth 100000 in
set_option maxHeartbeats 2000000 in
theorem faults1_in (n l B g : Nat) (f : Flt) (J Jx : List Unit → World → Prop)
    (hY : ∀ pre x W1, J pre W1 → pre.length < 1 → YieldAt Fence.wide (n - 1) Try.prog l #[.pointer (some ⟨g, 0, none⟩), noWay] W1 fun e W' => (e = .returned (.bool true) ∧ J (pre ++ [x]) W' ∧ True) ∨ (e = .returned (.bool false) ∧ Jx (pre ++ [x]) W'))
    (W : World) (hJ : AbidesFrom W.heap.size J) (hB : W.cell? ⟨B, 0, none⟩ = some (errV g)) (he : Erd W g f) (h0 : J [] W) (hn : 4 ≤ n) :
    CallsIn Fence.wide n Try.prog 63 #[.func (.yield l) #[] #[], .pointer (some ⟨B, 0, none⟩)] W fun e W' => (∃ v, e = .returned v) ∧
      ((∃ ys : List Unit, ys = [()] ∧ J ys W') ∨ (∃ pre : List Unit, pre = [()] ∧ Jx pre W')) := by
  have hfw : Fence.wide.fn 64 := trivial
  have h1n : 1 ≤ n := by omega
  have HW := Lib.hid (walk1_in (n - 1) l g f (fun W' => J [()] W') (fun W' => Jx [()] W') W (by omega) he
    (yield_any (n - 1) (n - 1 - 1) ((hY [] () _ (hJ _ _ _ none h0 (World.grownBy_alloc W _ none) (fun r e => by cases e)) (by decide)).mono (fun e W' h => h.imp (fun h => ⟨h.1, h.2.1⟩) id))))
  clear hY hJ h0 he
  unfold errV at hB
  refine callsIn_of_wp Try.func63 rfl trivial ?_ rfl
  simp only [Try.ntmps63, List.size_toArray, List.length_cons, List.length_nil, Nat.reduceAdd, Nat.reduceSub, Array.replicate_succ, Array.replicate_zero, List.push_toArray, List.append_toArray, List.nil_append, List.cons_append]
  gi_wp2_with (gi_at_call 64; refine HW.out.mono ?_; rintro e w' (⟨rfl, h⟩ | ⟨rfl, h⟩))
  all_goals go_end0
  · exact ⟨⟨_, rfl⟩, .inl ⟨_, rfl, h⟩⟩
  · exact ⟨⟨_, rfl⟩, .inr ⟨_, rfl, h⟩⟩

theorem faults_stops (n : Nat) (hn : 4 ≤ n) (B g : Nat) (f : Flt) (w : World) (hB : w.cell? ⟨B, 0, none⟩ = some (errV g)) (he : Erd w g f) :
    SeqStopsK Fence.wide n Try.prog 63 #[.pointer (some ⟨B, 0, none⟩)] (fun _ : Unit => #[.pointer (some ⟨g, 0, none⟩), noWay]) (fun _ _ => True) (fun ys => ys = [()]) (fun pre => pre = [()]) 1 w := fun l J Jx W hW hJ _ hY h0 =>
  faults1_in n l B g f J Jx hY W hJ ((hW.cell (p := ⟨B, 0, none⟩) (World.block_lt_of_cell? w _ hB)).trans hB) (he.below hW) h0 hn
end Go.Proofs.Ytjnnkelbedmccaa
