/-
  No cell of these rows narrows 'for every input' (looked for: loops, veiled, ifaces, maps, wideKeys, modest, calm, conditions, laid).
  DERIVED. THE GIVEN ROWS OF THIS SEAT. 6 by the template 'for every input the law returns true; each argument reads behind the call as it read before'; 0 by the template 'total and deterministic' (their statements: YtjnnkelbedmccaaTotals.lean).
  GIVEN WITH THE SEED: the statements are not yours to turn. If you find one false, say at which input.
  Laid BY PROGRAM, IN A SANDBOX (cutbox-rows.mjs): the forced cells as the released guide's own fill.sh prints them over the translation b88f3f046aa6bf6d… (all of the seat's roots in one cut). By AI agents, Wed Nov 11 2026. No macro, syntax, notation, axiom, sorry.
-/
import Derived.Test.YtjnnkelbedmccaaChecked
import GoSem.Claim
import GoSem.ClaimJoined
import GoSem.ClaimMapViews
import Derived.JoinedTies
import Derived.KernelRfl
namespace Go.Proofs.Ytjnnkelbedmccaa
/- THE CELL 'sum', in the pinned program and in every row, IS THE sha256 OF THE DUMP (.gsa) THAT YtjnnkelbedmccaaProg.lean LOADS. Nothing in Lean hashes anything: it is a label: what it is worth is what the hold of that sum in a sandbox is worth. -/
noncomputable def Try.pinned : Pinned := { name := "ytjnnkelbedmccaa", sum := "b88f3f046aa6bf6d252be55390e776112bcec296636c1bab83643eecdf673f7a", checked := Try.checked }
namespace Rows
def none {H : Type} : Left H := { results := [], args := [] }

/-- 'foliolaw10.TocTrees': WHATEVER THE INPUT: true; the input reads as it did. -/
def tocTreesSpec : ChangeSpec := { name := "tocTrees", fn := fun _ => fun
  | [d1, d2, d3] => { results := [.lit (.bool true)], args := [d1, d2, d3] }
  | _ => none }
def tocTreesRow : OpenClaim := { program := "ytjnnkelbedmccaa", sum := "b88f3f046aa6bf6d252be55390e776112bcec296636c1bab83643eecdf673f7a", func := "folio/foliolaw10.TocTrees", spec := "tocTrees", unfollowed := true, recurses := true, apart := false }
def TocTreesSaid : Prop := tocTreesRow.holds Try.pinned (OpenSpec.ofChange tocTreesSpec)

/-- ITS FALSE NEIGHBOUR: 'it returns false'. Refute it at one input. -/
def tocTreesWrong : ChangeSpec := { name := "tocTrees", fn := fun _ => fun
  | [d1, d2, d3] => { results := [.lit (.bool false)], args := [d1, d2, d3] }
  | _ => none }
def TocTreesWrongFalsely : Prop := tocTreesRow.holds Try.pinned (OpenSpec.ofChange tocTreesWrong)

/-- 'foliolaw10.TocAsks': WHATEVER THE INPUT: true; the input reads as it did. -/
def tocAsksSpec : ChangeSpec := { name := "tocAsks", fn := fun _ => fun
  | [d1, d2, d3, d4] => { results := [.lit (.bool true)], args := [d1, d2, d3, d4] }
  | _ => none }
def tocAsksRow : OpenClaim := { program := "ytjnnkelbedmccaa", sum := "b88f3f046aa6bf6d252be55390e776112bcec296636c1bab83643eecdf673f7a", func := "folio/foliolaw10.TocAsks", spec := "tocAsks", unfollowed := true, recurses := true, apart := false }
def TocAsksSaid : Prop := tocAsksRow.holds Try.pinned (OpenSpec.ofChange tocAsksSpec)

/-- ITS FALSE NEIGHBOUR: 'it returns false'. Refute it at one input. -/
def tocAsksWrong : ChangeSpec := { name := "tocAsks", fn := fun _ => fun
  | [d1, d2, d3, d4] => { results := [.lit (.bool false)], args := [d1, d2, d3, d4] }
  | _ => none }
def TocAsksWrongFalsely : Prop := tocAsksRow.holds Try.pinned (OpenSpec.ofChange tocAsksWrong)

/-- 'foliolaw10.TocWays': WHATEVER THE INPUT: true; the input reads as it did. -/
def tocWaysSpec : ChangeSpec := { name := "tocWays", fn := fun _ => fun
  | [d1, d2, d3] => { results := [.lit (.bool true)], args := [d1, d2, d3] }
  | _ => none }
def tocWaysRow : OpenClaim := { program := "ytjnnkelbedmccaa", sum := "b88f3f046aa6bf6d252be55390e776112bcec296636c1bab83643eecdf673f7a", func := "folio/foliolaw10.TocWays", spec := "tocWays", unfollowed := true, recurses := true, apart := false }
def TocWaysSaid : Prop := tocWaysRow.holds Try.pinned (OpenSpec.ofChange tocWaysSpec)

/-- ITS FALSE NEIGHBOUR: 'it returns false'. Refute it at one input. -/
def tocWaysWrong : ChangeSpec := { name := "tocWays", fn := fun _ => fun
  | [d1, d2, d3] => { results := [.lit (.bool false)], args := [d1, d2, d3] }
  | _ => none }
def TocWaysWrongFalsely : Prop := tocWaysRow.holds Try.pinned (OpenSpec.ofChange tocWaysWrong)

/-- 'foliolaw10.TocTree': WHATEVER THE INPUT: true; the input reads as it did. -/
def tocTreeSpec : ChangeSpec := { name := "tocTree", fn := fun _ => fun
  | [d] => { results := [.lit (.bool true)], args := [d] }
  | _ => none }
def tocTreeRow : OpenClaim := { program := "ytjnnkelbedmccaa", sum := "b88f3f046aa6bf6d252be55390e776112bcec296636c1bab83643eecdf673f7a", func := "folio/foliolaw10.TocTree", spec := "tocTree", unfollowed := true, recurses := true, apart := false }
def TocTreeSaid : Prop := tocTreeRow.holds Try.pinned (OpenSpec.ofChange tocTreeSpec)

/-- ITS FALSE NEIGHBOUR: 'it returns false'. Refute it at one input. -/
def tocTreeWrong : ChangeSpec := { name := "tocTree", fn := fun _ => fun
  | [d] => { results := [.lit (.bool false)], args := [d] }
  | _ => none }
def TocTreeWrongFalsely : Prop := tocTreeRow.holds Try.pinned (OpenSpec.ofChange tocTreeWrong)

/-- 'foliolaw10.TocBack': WHATEVER THE INPUT: true; the input reads as it did. -/
def tocBackSpec : ChangeSpec := { name := "tocBack", fn := fun _ => fun
  | [d] => { results := [.lit (.bool true)], args := [d] }
  | _ => none }
def tocBackRow : OpenClaim := { program := "ytjnnkelbedmccaa", sum := "b88f3f046aa6bf6d252be55390e776112bcec296636c1bab83643eecdf673f7a", func := "folio/foliolaw10.TocBack", spec := "tocBack", unfollowed := true, recurses := true, apart := false }
def TocBackSaid : Prop := tocBackRow.holds Try.pinned (OpenSpec.ofChange tocBackSpec)

/-- ITS FALSE NEIGHBOUR: 'it returns false'. Refute it at one input. -/
def tocBackWrong : ChangeSpec := { name := "tocBack", fn := fun _ => fun
  | [d] => { results := [.lit (.bool false)], args := [d] }
  | _ => none }
def TocBackWrongFalsely : Prop := tocBackRow.holds Try.pinned (OpenSpec.ofChange tocBackWrong)

/-- 'foliolaw10.TocShown': WHATEVER THE INPUT: true; the input reads as it did. -/
def tocShownSpec : ChangeSpec := { name := "tocShown", fn := fun _ => fun
  | [d1, d2, d3] => { results := [.lit (.bool true)], args := [d1, d2, d3] }
  | _ => none }
def tocShownRow : OpenClaim := { program := "ytjnnkelbedmccaa", sum := "b88f3f046aa6bf6d252be55390e776112bcec296636c1bab83643eecdf673f7a", func := "folio/foliolaw10.TocShown", spec := "tocShown", unfollowed := true, recurses := true, apart := false }
def TocShownSaid : Prop := tocShownRow.holds Try.pinned (OpenSpec.ofChange tocShownSpec)

/-- ITS FALSE NEIGHBOUR: 'it returns false'. Refute it at one input. -/
def tocShownWrong : ChangeSpec := { name := "tocShown", fn := fun _ => fun
  | [d1, d2, d3] => { results := [.lit (.bool false)], args := [d1, d2, d3] }
  | _ => none }
def TocShownWrongFalsely : Prop := tocShownRow.holds Try.pinned (OpenSpec.ofChange tocShownWrong)

/- THE SECOND FORM. 'bulk': how many values and letters a reading holds, each counted each time it is reached (what is shared counts as often as it is met; a slice's spare places count too). A statement '..UptoSaid' is the law's where the arguments, and the package variables that the reading takes, are together of bulk at most 1048576: NARROWER than '..Said'. Prove '..Said' where nothing that the law and all that it calls make is longer than what came in: it says more and counts as full. Else prove '..UptoSaid'. A law counts once. -/
mutual
def uptoBulk {H : Type} : DataW H → Nat
  | .lit (.string bytes) => bytes.length + 1
  | .lit _ => 1
  | .nil => 1
  | .ptr d => uptoBulk d + 1
  | .slice elems spare => uptoBulkAll elems + uptoBulkAll spare + 1
  | .agg parts => uptoBulkAll parts + 1
  | .iface _ d => uptoBulk d + 1
  | .map entries => uptoBulkEntries entries + 1
  | .held _ => 1
def uptoBulkAll {H : Type} : List (DataW H) → Nat
  | [] => 0
  | d :: r => uptoBulk d + uptoBulkAll r
def uptoBulkEntries {H : Type} : List (Lit × DataW H) → Nat
  | [] => 0
  | x :: r => uptoBulkEntry x + uptoBulkEntries r
def uptoBulkEntry {H : Type} : Lit × DataW H → Nat
  | (.string bytes, d) => bytes.length + uptoBulk d + 1
  | (_, d) => uptoBulk d + 1
 end
def uptoSmall : (H : Type) → List (DataW H) → Bool := fun _ ds => decide (uptoBulkAll ds ≤ 1048576)
def OpenSpec.upto (s : _root_.Go.ChangeSpec) : _root_.Go.OpenSpec := { _root_.Go.OpenSpec.ofChange s with cond := some uptoSmall }

/-- 'foliolaw10.TocTrees', WHERE WHAT IT READS IS OF BULK AT MOST 1048576: true; the input reads as it did. -/
def tocTreesUptoRow : OpenClaim := { program := "ytjnnkelbedmccaa", sum := "b88f3f046aa6bf6d252be55390e776112bcec296636c1bab83643eecdf673f7a", func := "folio/foliolaw10.TocTrees", spec := "tocTrees", unfollowed := true, recurses := true, apart := false, narrowed := true }
def TocTreesUptoSaid : Prop := tocTreesUptoRow.holds Try.pinned (OpenSpec.upto tocTreesSpec)

/-- 'foliolaw10.TocAsks', WHERE WHAT IT READS IS OF BULK AT MOST 1048576: true; the input reads as it did. -/
def tocAsksUptoRow : OpenClaim := { program := "ytjnnkelbedmccaa", sum := "b88f3f046aa6bf6d252be55390e776112bcec296636c1bab83643eecdf673f7a", func := "folio/foliolaw10.TocAsks", spec := "tocAsks", unfollowed := true, recurses := true, apart := false, narrowed := true }
def TocAsksUptoSaid : Prop := tocAsksUptoRow.holds Try.pinned (OpenSpec.upto tocAsksSpec)

/-- 'foliolaw10.TocWays', WHERE WHAT IT READS IS OF BULK AT MOST 1048576: true; the input reads as it did. -/
def tocWaysUptoRow : OpenClaim := { program := "ytjnnkelbedmccaa", sum := "b88f3f046aa6bf6d252be55390e776112bcec296636c1bab83643eecdf673f7a", func := "folio/foliolaw10.TocWays", spec := "tocWays", unfollowed := true, recurses := true, apart := false, narrowed := true }
def TocWaysUptoSaid : Prop := tocWaysUptoRow.holds Try.pinned (OpenSpec.upto tocWaysSpec)

/-- 'foliolaw10.TocTree', WHERE WHAT IT READS IS OF BULK AT MOST 1048576: true; the input reads as it did. -/
def tocTreeUptoRow : OpenClaim := { program := "ytjnnkelbedmccaa", sum := "b88f3f046aa6bf6d252be55390e776112bcec296636c1bab83643eecdf673f7a", func := "folio/foliolaw10.TocTree", spec := "tocTree", unfollowed := true, recurses := true, apart := false, narrowed := true }
def TocTreeUptoSaid : Prop := tocTreeUptoRow.holds Try.pinned (OpenSpec.upto tocTreeSpec)

/-- 'foliolaw10.TocBack', WHERE WHAT IT READS IS OF BULK AT MOST 1048576: true; the input reads as it did. -/
def tocBackUptoRow : OpenClaim := { program := "ytjnnkelbedmccaa", sum := "b88f3f046aa6bf6d252be55390e776112bcec296636c1bab83643eecdf673f7a", func := "folio/foliolaw10.TocBack", spec := "tocBack", unfollowed := true, recurses := true, apart := false, narrowed := true }
def TocBackUptoSaid : Prop := tocBackUptoRow.holds Try.pinned (OpenSpec.upto tocBackSpec)

/-- 'foliolaw10.TocShown', WHERE WHAT IT READS IS OF BULK AT MOST 1048576: true; the input reads as it did. -/
def tocShownUptoRow : OpenClaim := { program := "ytjnnkelbedmccaa", sum := "b88f3f046aa6bf6d252be55390e776112bcec296636c1bab83643eecdf673f7a", func := "folio/foliolaw10.TocShown", spec := "tocShown", unfollowed := true, recurses := true, apart := false, narrowed := true }
def TocShownUptoSaid : Prop := tocShownUptoRow.holds Try.pinned (OpenSpec.upto tocShownSpec)

end Rows
end Go.Proofs.Ytjnnkelbedmccaa
