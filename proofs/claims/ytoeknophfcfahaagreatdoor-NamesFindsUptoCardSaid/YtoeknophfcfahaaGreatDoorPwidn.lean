/- The program's Wide, Cut and Cells of layer 2: loops over its iterator. -/
import Derived.Test.YtoeknophfcfahaaGreatDoorPceln
import Derived.Maps.AppendAt
namespace Go.Proofs.YtoeknophfcfahaaGreatDoor
open Go.RowKit Go.Shelf

attribute [local go_sem] Oper.semAt_some

/-- A call answers v; of what was there nothing has changed. -/
def Says (v : Value) (w : World) (e : Ending) (w' : World) : Prop := e = .returned v ∧ Below w.heap.size w w'
/-- A call answers a new list whose cells hold xs. -/
def RowIs (T : TypeId) (size n : Nat) (xs : List Value) (w : World) (e : Ending) (w' : World) : Prop :=
  ∃ v : Value, e = .returned v ∧ w'.ownsRow w.heap.size T size v n xs ∧ Below w.heap.size w w'

theorem KpS.set {B : Nat} (W : World) (b o : Nat) (v : Value) (h : B ≠ b) : KpS B W (W.setCell ⟨b, o, none⟩ v) := by
  refine ⟨KeepsWalks.setCell _ _ _, fun u e => ?_⟩
  have hb : (W.setCell ⟨b, o, none⟩ v).heap[B]? = W.heap[B]? := Below.heap_setCell _ _ _ B h
  unfold World.cell? at e ⊢
  simp only [] at e ⊢
  rw [hb]
  exact e
theorem KpS.alloc {B : Nat} (W : World) (o : Obj) : KpS B W (W.alloc o) := ⟨KeepsWalks.alloc _ _, fun _ e => cell_more e _⟩
theorem KpS.grown {B : Nat} {W W' : World} {row : Option Nat} (hg : W.grownBy W' row) (hrow : ∀ (j : Nat) (o : Obj), row = some j → W.heap[j]? = some o → o.isWalk = false) (h : some B ≠ row) : KpS B W W' := by
  refine ⟨KeepsWalks.of_grownBy hg hrow, fun u e => ?_⟩
  have hb : W'.heap[B]? = W.heap[B]? := hg.block B (cell_lt e) h
  unfold World.cell? at e ⊢
  simp only [] at e ⊢
  rw [hb]
  exact e

def sumS {s : ByteArray} (l : List (SCel s)) : Int := sumW (l.map (·.1))
theorem sumS_snoc {s : ByteArray} (l : List (SCel s)) (x : SCel s) : sumS (l ++ [x]) = sumS l + x.1.2.2 := by simp [sumS, sumW_snoc]
theorem sumS_bd {s : ByteArray} (l : List (SCel s)) : 0 ≤ sumS l ∧ sumS l ≤ 2 * l.length := by
  have := sumW_bd (l.map (·.1)) (fun y hy => by obtain ⟨x, _, rfl⟩ := List.mem_map.1 hy; exact x.2.1)
  simpa [sumS] using this

end Go.Proofs.YtoeknophfcfahaaGreatDoor
