/- The program's fault.New and Code of layer 1, as far as layer 7 asks: an error that is not nil, in a new block. -/
import Derived.Test.YtjgcbobalmmjkaaDoorNw
namespace Go.Proofs.YtjgcbobalmmjkaaDoor
open Go.RowKit Go.Maps
set_option linter.unusedVariables false
/-- What is told of a fault. -/
structure Flt where
  code : Int
  source : Int
  line : Int
  col : Int
  word : ByteArray
/-- The fault lies in block g. -/
def Erd (w : World) (g : Nat) (f : Flt) : Prop :=
  w.heap[g]? = some (.cells #[.int .i64 f.code, .int .i64 f.source, .int .i64 f.line, .int .i64 f.col, .string f.word] 116 (0, 0)) ∧ f.code ≠ 0
theorem Erd.below {w w' : World} {g : Nat} {f : Flt} (h : Erd w g f) (hb : Below w.heap.size w w') : Erd w' g f :=
  ⟨(hb.block g (Array.getElem?_eq_some_iff.1 h.1).1).trans h.1, h.2⟩
def errV (g : Nat) : Value := .iface 114 (.pointer (some ⟨g, 0, none⟩))
/-- A new error that is this fault. -/
def ErrIs (f : Flt) (w : World) (e : Ending) (w' : World) : Prop := (∃ g, w.heap.size ≤ g ∧ e = .returned (errV g) ∧ Erd w' g f) ∧ Below w.heap.size w w'
set_option maxRecDepth 100000 in
set_option maxHeartbeats 1000000 in
theorem fault_new (c n m k : Int) (s : ByteArray) (hc : c ≠ 0) (w : World) : Calls Tryd.prog 21 #[.int .i64 c, .int .i64 n, .int .i64 m, .int .i64 k, .string s] w (ErrIs ⟨c, n, m, k, s⟩ w) := by
  have t1 : (c == 0) = false := by simpa using hc
  have HC := Lib.hid hc
  clear hc
  go_enter Tryd.func21, Tryd.ntmps21
  go_wp2_with fail
  go_ret
  exact ⟨⟨_, Nat.le_refl _, rfl, World.alloc_heap_new _ _, HC.out⟩, (Below.refl _ w).alloc (Nat.le_refl _) _⟩
set_option maxRecDepth 100000 in
set_option maxHeartbeats 1000000 in
theorem fault_code (c : Int) (hc : c ≠ 0) (w : World) : Calls Tryd.prog 19 #[.int .i64 c] w (ErrIs ⟨c, 0, 0, 0, .empty⟩ w) := by
  have HC := Lib.hid hc
  clear hc
  go_enter Tryd.func19, Tryd.ntmps19
  go_wp2_with fail
  refine (fault_new c 0 0 0 _ HC.out _).mono ?_
  rintro e w1 ⟨⟨g, hg, rfl, hE⟩, hb⟩
  have HB := Lib.hid hb
  have HE := Lib.hid hE
  have HG := Lib.hid hg
  clear hb hE hg
  unfold errV
  go_wp2_with fail
  go_ret
  exact ⟨⟨_, HG.out, rfl, HE.out⟩, HB.out⟩
end Go.Proofs.YtjgcbobalmmjkaaDoor
