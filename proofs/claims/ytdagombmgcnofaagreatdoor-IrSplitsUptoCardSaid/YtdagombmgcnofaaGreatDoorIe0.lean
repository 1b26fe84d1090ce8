/- Layer 11: the program's mayStand, kind by kind. -/
import Derived.Test.YtdagombmgcnofaaGreatDoorId
namespace Go.Proofs.YtdagombmgcnofaaGreatDoor.Ir
open Go.RowKit Go.Maps Go.Proofs.YtdagombmgcnofaaGreatDoor
set_option linter.unusedVariables false
def MayV (s : Wk) (k : Int) (b : Bool) : Prop := mayS s k = b
theorem MayV.ret {s : Wk} {k : Int} {a b : Bool} (h : MayV s k a) (e : a = b) : Ending.returned (.bool b) = Ending.returned (.bool (mayS s k)) := by rw [← e, ← show mayS s k = a from h]
theorem boolS {a b : Bool} (h : a = b) : Ending.returned (.bool a) = Ending.returned (.bool b) := by rw [h]
theorem WkIs.drewN {M : Nat} {w : World} {s : Wk} (h : WkIs M w s) (n : Nat) : WkIs M (w.drewN n) s := h.below ⟨rfl, rfl, rfl, Nat.le_refl _, fun _ _ => rfl⟩
theorem belowN {B : Nat} {a w : World} (h : Below B a w) (n : Nat) : Below B a (w.drewN n) := ⟨h.os, h.tape, h.output, h.size, h.block⟩
def mayCall (M : Nat) (k : Int) (s : Wk) (w : World) : Prop := Calls Tryz.prog 63 #[.pointer (some ⟨M, 0, none⟩), .int .i64 k] w (SaysL (.bool (mayS s k)) w)

end Go.Proofs.YtdagombmgcnofaaGreatDoor.Ir
