/- What the program's functions of layer 2 answer, all of them. -/
import Derived.Test.YthojhjimgfbcbaaDoorPord
import Derived.Test.YthojhjimgfbcbaaDoorPfld
import Derived.Test.YthojhjimgfbcbaaDoorPcut
import Derived.Test.YthojhjimgfbcbaaDoorGood
namespace Go.Proofs.YthojhjimgfbcbaaDoor
open Go.RowKit Go.Maps

theorem width_pro (r : Int) (w : World) : Calls Tryd.prog 18 #[.int .i32 r] w (Says (.int .i64 (wid r)) w) := (width_q r w).mono fun _ _ ⟨h1, h2⟩ => ⟨h1, h2 ▸ Below.refl _ _⟩
theorem small_pro (r : Int) (w : World) (hr : -2147483648 ≤ r ∧ r ≤ 2147483647) : Calls Tryd.prog 20 #[.int .i32 r] w (Says (.int .i32 (sml r)) w) := (small_q r w hr).mono fun _ _ ⟨h1, h2⟩ => ⟨h1, h2 ▸ Below.refl _ _⟩
theorem base_pro (r : Int) (w : World) (hr : -2147483648 ≤ r ∧ r ≤ 2147483647) : Calls Tryd.prog 22 #[.int .i32 r] w (Says (.string (bas r)) w) := (base_q r w hr).mono fun _ _ ⟨h1, h2⟩ => ⟨h1, h2 ▸ Below.refl _ _⟩
theorem cut_pro (s : ByteArray) (m : Int) (w : World) (hs : s.size ≤ 16777216) (wm : (Lit.int .i64 m).wf = true) : Calls Tryd.prog 30 #[.string s, .int .i64 m] w (IsCut s m w) :=
  callsIn_wide.1 (cut_in s m w hs (by simpa [Lit.wf, IntKind.min, IntKind.max, IntKind.signed, IntKind.bits] using wm))
/-- The tables, in a later world. -/
theorem Tabs.at {w w' : World} (h : Tabs w) (hb : Below w.heap.size w w') : Tabs w' := h.below hb (Nat.le_refl _)
end Go.Proofs.YthojhjimgfbcbaaDoor
