/- What the rows' lists of the library's variables give a call's first world, and a world that holds them. -/
import Derived.Test.YtceanagnkcejgaaGreatDoorTab
import Derived.Test.YtceanagnkcejgaaGreatDoorRows
import Derived.Lib.LaidIn
import Derived.Lib.LaidU8T
import Derived.PinnedBridge
import Derived.LaidHandle
import Derived.LaidLaws
import Derived.Stop.LaidErr
namespace Go.Proofs.YtceanagnkcejgaaGreatDoor
open Go.RowKit Go.Lib Go.Shelf Go.ChangeShapes

theorem own : ownKnob Tryz.prog.godebug = none := by kernel_rfl
theorem es_star : "*" ++ "errors.errorString" = "*errors.errorString" := by decide
theorem es_row (u : TypeId) (h : Tryz.prog.typeName? 3 u = some "*errors.errorString") : u = 173 :=
  typeName_ptr_named (nm := "errors.errorString") (by rw [es_star]; kernel_rfl) (by kernel_rfl) (by decide) u (by rw [es_star]; exact h)
theorem u_es : Tryz.prog.underlying 173 = some (.pointer 175) := by kernel_rfl
theorem u_err : Tryz.prog.underlying 92 = some (.interface #[("Error", 97)]) := by kernel_rfl
theorem u_ess : Tryz.prog.underlying 175 = some (.struct #[{ name := "s", type := 9, offset := 0, embedded := false, tag := "", pkgPath := "errors", byteOffset := 0 }]) := by kernel_rfl
theorem e_str : Tryz.prog.underlying 9 = some .string := by kernel_rfl
theorem att_ty : (Tryz.prog.globals[0]?).map (·.type) = some 111 := by kernel_rfl
theorem att_u : Tryz.prog.underlying 111 = some (.array 7 9) := by kernel_rfl
theorem str_c : Tryz.prog.cellsOf 9 = 1 := by kernel_rfl
theorem att_g : Tryz.prog.globalNamed "folio/style.attributeWords" = some 0 := by kernel_rfl
theorem att_data : ∀ k, k < 7 → (attrW.map fun b => (DataW.lit (.string b) : DataW Unit))[k]? = some (.lit (.string (attrW.getD k []))) := by
  intro k hk
  match k, hk with
  | 0, _ => rfl
  | 1, _ => rfl
  | 2, _ => rfl
  | 3, _ => rfl
  | 4, _ => rfl
  | 5, _ => rfl
  | 6, _ => rfl
theorem att_read {W : World} (h : VarReads Tryz.prog W "folio/style.attributeWords" (.agg (attrW.map fun b => .lit (.string b)))) (k : Nat) (hk : k < 7) :
    W.cell? ⟨0, k, none⟩ = some (.string (bs (attrW.getD k []))) := by
  obtain ⟨g, t, cs, fuel, p, hg, hty, hvar, hd⟩ := h
  obtain rfl := Option.some.inj (att_g.symm.trans hg)
  obtain rfl := Option.some.inj (att_ty.symm.trans hty)
  obtain ⟨fuel', d, q, hdi, he⟩ := array_elem att_u hd k hk
  rw [att_data k hk] at hdi
  obtain rfl := Option.some.inj hdi
  rw [str_c, Nat.mul_one] at he
  obtain ⟨s, hc, hx, _⟩ := DataW.trod_string e_str he
  have hs : s = bs (attrW.getD k []) := by
    simp only [Prod.mk.injEq, DataW.lit.injEq, Lit.string.injEq] at hx
    rw [hx.1]
    cases s
    simp [bs]
  rw [World.var?_cell att_g hvar k, ← Array.getElem?_toList, ← hs]
  have := congrArg (·[0]?) hc
  simpa [List.getElem?_take, List.getElem?_drop] using this
/-- The list that every row of this seat bears. -/
theorem tabs_of {W : World} (hL : laidMetH Tryz.prog Rows.styleSheetsRow.laid W) (hS : W.ShapedOpen Tryz.prog) : Tabs W := by
  have hL' : laidMet Tryz.prog Rows.styleSheetsRow.laid W := hL
  have hp : TabIs Tryz.prog W "internal/strconv.uint64pow10" .u64 pow10Tab := by
    have h2 := hL'.tail.tail
    exact tabIs_of_head (zs := pow10Tab) (g := 2) (t := 153) (e := 137) (n := 20) g_pow (by kernel_rfl) (by kernel_rfl) (by kernel_rfl) (by kernel_rfl) (by kernel_rfl) h2
  have hr := laid_sentinel hL'.tail.tail.tail.tail g_rng (by kernel_rfl) u_err es_row u_es u_ess rfl rfl e_str (by kernel_rfl) (by kernel_rfl)
  have hs := laid_sentinel hL'.tail.tail.tail.tail.tail g_syn (by kernel_rfl) u_err es_row u_es u_ess rfl rfl e_str (by kernel_rfl) (by kernel_rfl)
  obtain ⟨a1, s1, h1, _⟩ := hr
  obtain ⟨a2, s2, h2, _⟩ := hs
  refine ⟨Tryz.laysM145.s1_3 W hS, hp, ⟨_, _, h2⟩, ⟨_, _, h1⟩, att_read (Lib.laidMet.reads hL' (by exact .tail _ (.tail _ (.tail _ (.tail _ (.tail _ (.tail _ (.head _))))))))⟩

/-- A world for the witness: the tables hold what the library lays. -/
abbrev synS : ByteArray := { data := #[105, 110, 118, 97, 108, 105, 100, 32, 115, 121, 110, 116, 97, 120] }
abbrev rngS : ByteArray := { data := #[118, 97, 108, 117, 101, 32, 111, 117, 116, 32, 111, 102, 32, 114, 97, 110, 103, 101] }
noncomputable def low : Nat := (World.holding Tryz.prog default ⟨#[], #[], []⟩).heap.size
def litOf : DataW Unit → Value
  | .lit (.int k z) => .int k z
  | .lit (.string b) => .string (bs b)
  | _ => .bool false
def litsOf : DataW Unit → Array Value
  | .agg l => (l.map litOf).toArray
  | _ => #[]
noncomputable def laidWorld (os : Os) : World :=
  let w0 := World.holding Tryz.prog os ⟨#[.cells #[.string synS] 175, .cells #[.string rngS] 175], #[], []⟩
  let put (h : Array Obj) (g : Nat) (cs : Array Value) : Array Obj := h.modify g fun
    | .cells _ t frozen => .cells cs t frozen
    | o => o
  let h1 := put w0.heap 5 (Lib.firstTab.map fun z => Value.int .u8 z).toArray
  let h2 := put h1 6 ((List.range 16).flatMap fun i => [Value.int .u8 (Lib.accLo i), Value.int .u8 (Lib.accHi i)]).toArray
  let h3 := put h2 2 (pow10Tab.map fun z => Value.int .u64 z).toArray
  let h4 := put h3 0 (attrW.map fun b => Value.string (bs b)).toArray
  let h5 := put h4 7 (litsOf Rows.laid_math_bits_deBruijn32tab)
  let h6 := put h5 8 (litsOf Rows.laid_math_bits_deBruijn64tab)
  let h7 := put h6 3 #[.iface 173 (.pointer (some ⟨low, 0, none⟩))]
  let h8 := put h7 4 #[.iface 173 (.pointer (some ⟨low + 1, 0, none⟩))]
  { w0 with heap := h8 }
theorem laid_met (os : Os) (args : Array Value) : laidMet Tryz.prog Rows.styleSheetsRow.laid ((laidWorld os).forCall (fun _ _ => 0) ⟨#[], args, []⟩).memory :=
  (LaidIn.of_run (l := Rows.styleSheetsRow.laid) [7, 8, 2, 6, 4, 3, 0, 5, low, low + 1] 8 (by kernel_rfl) (by kernel_rfl) (by kernel_rfl) (by kernel_rfl)).met
end Go.Proofs.YtceanagnkcejgaaGreatDoor
