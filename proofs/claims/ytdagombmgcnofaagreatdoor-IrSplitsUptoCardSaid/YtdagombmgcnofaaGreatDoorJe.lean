/- Layer 11: what the rows' lists of the library's variables give a call's first world, and a world that holds them. -/
import Derived.Test.YtdagombmgcnofaaGreatDoorJd
import Derived.Lib.LaidIn
import Derived.Lib.LaidU8T
import Derived.PinnedBridge
import Derived.LaidHandle
import Derived.LaidLaws
import Derived.Stop.LaidErr
import Derived.Shelf.Vars
namespace Go.Proofs.YtdagombmgcnofaaGreatDoor.Ir
open Go.RowKit Go.Lib Go.Shelf Go.ChangeShapes Go.Proofs.YtdagombmgcnofaaGreatDoor
theorem own : ownKnob Tryz.prog.godebug = none := by kernel_rfl
/-- The list without the handle. -/
def lay8 : List (String × DataW Unit) := [("math/bits.deBruijn32tab", Rows.laid_math_bits_deBruijn32tab), ("math/bits.deBruijn64tab", Rows.laid_math_bits_deBruijn64tab), ("internal/strconv.uint64pow10", Rows.laid_internal_strconv_uint64pow10), ("unicode/utf8.acceptRanges", Rows.laid_unicode_utf8_acceptRanges), ("strconv.ErrRange", Rows.laid_strconv_ErrRange), ("strconv.ErrSyntax", Rows.laid_strconv_ErrSyntax), ("folio/style.attributeWords", Rows.laid_folio_style_attributeWords), ("unicode/utf8.first", Rows.laid_unicode_utf8_first)]
/-- The list that every row of this seat bears. -/
theorem tabs_of {W : World} (hL : laidMetH Tryz.prog Rows.irSplitsUptoRow.laid W) (hS : W.ShapedOpen Tryz.prog) : Tabs W := by
  have hL' : laidMet Tryz.prog lay8 W ∧ handlesMet Tryz.prog [("errors.errorType", Rows.laid_errors_errorType)] W := hL
  have h4 : VarReads Tryz.prog W "unicode/utf8.acceptRanges" acceptData := Lib.laidMet.reads hL'.1 (.tail _ (.tail _ (.tail _ (.head _))))
  have h3 : VarReads Tryz.prog W "unicode/utf8.first" firstData := by
    have h := Lib.laidMet.reads hL'.1 (.tail _ (.tail _ (.tail _ (.tail _ (.tail _ (.tail _ (.tail _ (.head _))))))))
    rw [show Rows.laid_unicode_utf8_first = firstData from Pinned.utf8First_eq] at h
    exact h
  refine ⟨utf8Tabs_of_readsT (U8Types.of260 Tryz.lays260) ⟨by kernel_rfl, by kernel_rfl, by kernel_rfl, by kernel_rfl, by kernel_rfl, by kernel_rfl, by kernel_rfl⟩ h3 h4, ?_⟩
  exact cell_of_shapedOpen_int (g := 2) (zero := #[.int .i64 0]) (t := 3) hS (of_decide_eq_true (by kernel_rfl)) (by kernel_rfl) rfl (by kernel_rfl) (by kernel_rfl) Tryz.underlying3
abbrev synS : ByteArray := { data := #[105, 110, 118, 97, 108, 105, 100, 32, 115, 121, 110, 116, 97, 120] }
abbrev rngS : ByteArray := { data := #[118, 97, 108, 117, 101, 32, 111, 117, 116, 32, 111, 102, 32, 114, 97, 110, 103, 101] }
noncomputable def low : Nat := (World.holding Tryz.prog default ⟨#[], #[], []⟩).heap.size
def litOf : DataW Unit → Value
  | .lit (.int k z) => .int k z
  | .lit (.string b) => .string ⟨b.toArray⟩
  | _ => .bool false
def litsOf : DataW Unit → Array Value
  | .agg l => (l.map litOf).toArray
  | _ => #[]
/-- A world for the witness: the tables hold what the library lays. -/
noncomputable def laidWorld (os : Os) : World :=
  let w0 := World.holding Tryz.prog os ⟨#[.cells #[.string synS] 388, .cells #[.string rngS] 388], #[], []⟩
  let put (h : Array Obj) (g : Nat) (cs : Array Value) : Array Obj := h.modify g fun
    | .cells _ t frozen => .cells cs t frozen
    | o => o
  let h1 := put w0.heap 6 (Lib.firstTab.map fun z => Value.int .u8 z).toArray
  let h2 := put h1 7 ((List.range 16).flatMap fun i => [Value.int .u8 (Lib.accLo i), Value.int .u8 (Lib.accHi i)]).toArray
  let h3 := put h2 3 (litsOf Rows.laid_internal_strconv_uint64pow10)
  let h4 := put h3 1 (litsOf Rows.laid_folio_style_attributeWords)
  let h5 := put h4 8 (litsOf Rows.laid_math_bits_deBruijn32tab)
  let h6 := put h5 9 (litsOf Rows.laid_math_bits_deBruijn64tab)
  let h7 := put h6 4 #[.iface 386 (.pointer (some ⟨low, 0, none⟩))]
  let h8 := put h7 5 #[.iface 386 (.pointer (some ⟨low + 1, 0, none⟩))]
  let h9 := put h8 0 #[.iface 285 (.agg #[.pointer (some ⟨10, 32, none⟩)])]
  { w0 with heap := h9 }
theorem laid_met (os : Os) (args : Array Value) : laidMetH Tryz.prog Rows.irSplitsUptoRow.laid ((laidWorld os).forCall (fun _ _ => 0) ⟨#[], args, []⟩).memory :=
  laidMetH_of_parts (LaidIn.of_run (l := lay8) [8, 9, 3, 7, 5, 4, 1, 6, low, low + 1] 8 (by kernel_rfl) (by kernel_rfl) (by kernel_rfl) (by kernel_rfl)).met (by kernel_rfl)
end Go.Proofs.YtdagombmgcnofaaGreatDoor.Ir
