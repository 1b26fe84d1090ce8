/- errors.As of an error that is one fault; a fault is placed. -/
import Derived.Test.YtmceiehnfmgioaaGreatDoorLxd
namespace Go.Proofs.YtmceiehnfmgioaaGreatDoor
open Go.RowKit Go.Extern.Stop Go.Stop Go.Extern
set_option linter.unusedVariables false

theorem e_methodKind (h : Value) (w : World) : (Go.method 483 280 (.agg #[h]) "Kind").run Tryz.prog w = .ok (315, h) w := by kernel_rfl
theorem e_methodElem (h : Value) (w : World) : (Go.method 483 280 (.agg #[h]) "Elem").run Tryz.prog w = .ok (333, .agg #[h]) w := by kernel_rfl
theorem e_methodImplements (h : Value) (w : World) : (Go.method 483 280 (.agg #[h]) "Implements").run Tryz.prog w = .ok (334, .agg #[h]) w := by kernel_rfl
theorem e_methodAssignableTo (h : Value) (w : World) : (Go.method 483 280 (.agg #[h]) "AssignableTo").run Tryz.prog w = .ok (331, .agg #[h]) w := by kernel_rfl

set_option maxHeartbeats 4000000 in
theorem as_hit (e t : Addr) (old : Value) (w : World) (hg : w.cell? ⟨0, 0, none⟩ = some (.iface 280 (.agg #[.pointer (some ⟨9, 24, none⟩)]))) (ht0 : w.cell? t = some old) (hf0 : w.frozen? t = false) :
    Calls Tryz.prog 87 #[.iface 127 (.pointer (some e)), .iface 153 (.pointer (some t))] w fun ev w' => ev = .returned (.bool true) ∧ w' = ((((w.alloc (.cells #[.pointer (some t)] 153)).alloc (.cells #[.pointer (some ⟨9, 153, none⟩), .pointer (some ⟨w.heap.size, 0, none⟩), .int .u64 150] 216)).alloc (.cells #[.pointer (some ⟨9, 153, none⟩), .pointer (some ⟨w.heap.size, 0, none⟩), .int .u64 150] 216)).alloc (.cells #[.pointer (some e)] 127)).setCell t (.pointer (some e)) := by
  have h6 := @run_callFunc_extern Tryz.prog 146 _ (fun args => ReflectliteValue.unpack (args.getD 0 (.tuple #[]))) Tryz.func146 (by kernel_rfl) (by kernel_rfl) (by kernel_rfl) (by kernel_rfl)
  have h7 := @run_callFunc_extern Tryz.prog 147 _ (ReflectliteValue.methodAny (ReflectliteValue.valueError "reflectlite.Value.Type" 0) (fun t _ _ _ => ReflectliteType.toType t)) Tryz.func147 (by kernel_rfl) (by kernel_rfl) (by kernel_rfl) (by kernel_rfl)
  have h8 := @run_callFunc_extern Tryz.prog 148 _ (ReflectliteValue.method (ReflectliteValue.valueError "reflectlite.Value.IsNil" 0) ReflectliteValue.isNil) Tryz.func148 (by kernel_rfl) (by kernel_rfl) (by kernel_rfl) (by kernel_rfl)
  have h27 := @run_callFunc_extern Tryz.prog 315 _ (ReflectliteType.abiMethod fun t => do pure (.int .u8 (← Rtype.kind t))) Tryz.func315 (by kernel_rfl) (by kernel_rfl) (by kernel_rfl) (by kernel_rfl)
  have h37 := @run_callFunc_extern Tryz.prog 333 _ (ReflectliteType.method ReflectliteType.elem) Tryz.func333 (by kernel_rfl) (by kernel_rfl) (by kernel_rfl) (by kernel_rfl)
  have h38 := @run_callFunc_extern Tryz.prog 334 _ (ReflectliteType.relation "Implements" ReflectliteType.implements_) Tryz.func334 (by kernel_rfl) (by kernel_rfl) (by kernel_rfl) (by kernel_rfl)
  have h10 := @run_callFunc_extern Tryz.prog 223 _ ReflectliteType.typeOf Tryz.func223 (by kernel_rfl) (by kernel_rfl) (by kernel_rfl) (by kernel_rfl)
  have h35 := @run_callFunc_extern Tryz.prog 331 _ (ReflectliteType.relation "AssignableTo" ReflectliteType.assignableTo) Tryz.func331 (by kernel_rfl) (by kernel_rfl) (by kernel_rfl) (by kernel_rfl)
  have h11 := @run_callFunc_extern Tryz.prog 224 _ (ReflectliteValue.method (ReflectliteValue.valueError "reflectlite.Value.Elem" 0) ReflectliteValue.elem) Tryz.func224 (by kernel_rfl) (by kernel_rfl) (by kernel_rfl) (by kernel_rfl)
  have h12 := @run_callFunc_extern Tryz.prog 225 _ ReflectliteValue.set Tryz.func225 (by kernel_rfl) (by kernel_rfl) (by kernel_rfl) (by kernel_rfl)
  have tO := e_typeOf1
  have mA := e_methodAssignableTo
  have a25 := e_assignable1
  have v25 := e_valueOf1
  have f6 := e_valueOf2
  have f7 := e_type2
  have mK := e_methodKind
  have mE := e_methodElem
  have mI := e_methodImplements
  have k27 := e_kind2
  have k25 := e_kind1
  have e27 := e_elem2
  have i25 := e_implements1
  have n8 := e_isNil2 ⟨w.heap.size, 0, none⟩ t ((w.alloc (.cells #[.pointer (some t)] 153)).alloc (.cells #[.pointer (some ⟨9, 153, none⟩), .pointer (some ⟨w.heap.size, 0, none⟩), .int .u64 150] 216)) (by simp)
  have hlt : 0 < w.heap.size := by
    rcases Nat.eq_zero_or_pos w.heap.size with h0 | h
    · simp [World.cell?, h0] at hg
    · exact h
  have hg2 : ((w.alloc (.cells #[.pointer (some t)] 153)).alloc (.cells #[.pointer (some ⟨9, 153, none⟩), .pointer (some ⟨w.heap.size, 0, none⟩), .int .u64 150] 216)).cell? ⟨0, 0, none⟩ = some (.iface 280 (.agg #[.pointer (some ⟨9, 24, none⟩)])) := by
    rw [World.cell?_alloc_lt _ _ ⟨0, 0, none⟩ (by simp), World.cell?_alloc_lt _ _ ⟨0, 0, none⟩ hlt]; exact hg
  have htl : t.block < w.heap.size := by
    rcases Nat.lt_or_ge t.block w.heap.size with h | h
    · exact h
    · simp [World.cell?, Array.getElem?_eq_none h] at ht0
  have el := e_elemV2 ⟨w.heap.size, 0, none⟩ t (((w.alloc (.cells #[.pointer (some t)] 153)).alloc (.cells #[.pointer (some ⟨9, 153, none⟩), .pointer (some ⟨w.heap.size, 0, none⟩), .int .u64 150] 216)).alloc (.cells #[.pointer (some ⟨9, 153, none⟩), .pointer (some ⟨w.heap.size, 0, none⟩), .int .u64 150] 216)) (by rw [World.cell?_alloc_lt _ _ ⟨w.heap.size, 0, none⟩ (by simp; omega)]; simp)
  have st := e_set1 t ⟨w.heap.size + 1 + 1 + 1, 0, none⟩ e old ((((w.alloc (.cells #[.pointer (some t)] 153)).alloc (.cells #[.pointer (some ⟨9, 153, none⟩), .pointer (some ⟨w.heap.size, 0, none⟩), .int .u64 150] 216)).alloc (.cells #[.pointer (some ⟨9, 153, none⟩), .pointer (some ⟨w.heap.size, 0, none⟩), .int .u64 150] 216)).alloc (.cells #[.pointer (some e)] 127))
    (by rw [World.cell?_alloc_at _ _ _ _ (by simp)]; rfl)
    (by rw [World.cell?_alloc_lt _ _ t (by simp; omega), World.cell?_alloc_lt _ _ t (by simp; omega), World.cell?_alloc_lt _ _ t (by simp; omega), World.cell?_alloc_lt _ _ t htl]; exact ht0)
    (by rw [World.frozen?_alloc_old _ _ t (by simp; omega), World.frozen?_alloc_old _ _ t (by simp; omega), World.frozen?_alloc_old _ _ t (by simp; omega), World.frozen?_alloc_old _ _ t (Nat.ne_of_lt htl)]; exact hf0)
  go_enter Tryz.func87, Tryz.ntmps87
  go_wp2
  refine wp_loop_rounds 1 ?_
  rw [rounds_succ]
  go_wp2
  go_ret
  exact ⟨rfl, rfl⟩

/-- errors.As has found the fault and laid it into the box that was made last. -/
theorem as_pro (ge G : Nat) (w0 : World) (hG : w0.heap.size = G) (hT : Tabs w0) :
    Calls Tryz.prog 87 #[errAt ge, .iface 153 (.pointer (some ⟨G, 0, none⟩))] (w0.alloc (.cells #[.pointer none] 127)) fun ev w' => ev = .returned (.bool true) ∧ w'.cell? ⟨G, 0, none⟩ = some (.pointer (some ⟨ge, 0, none⟩)) ∧ Below G w0 w' ∧ G < w'.heap.size := by
  subst hG
  have hb := heap_alloc_new w0 (.cells #[.pointer none] 127)
  have hT1 := (hT.at ((Below.refl w0.heap.size w0).alloc (Nat.le_refl _) (.cells #[.pointer none] 127))).err
  refine (as_hit ⟨ge, 0, none⟩ ⟨w0.heap.size, 0, none⟩ (.pointer none) _ hT1 (by rw [cell_of_row _ _ _ _ _ _ hb]; rfl) (frozen_of_row _ _ _ _ _ hb)).mono ?_
  rintro ev w' ⟨rfl, rfl⟩
  have hB : Below w0.heap.size w0 _ := ((Below.refl w0.heap.size w0).alloc (Nat.le_refl _) (.cells #[.pointer none] 127))
  generalize w0.alloc (.cells #[.pointer none] 127) = W at hb hB ⊢
  have hsz := lt_heap hb
  have ka : ∀ (X : World) (o : Obj), X.heap[w0.heap.size]? = some (.cells #[.pointer none] 127 (0, 0)) → (X.alloc o).heap[w0.heap.size]? = some (.cells #[.pointer none] 127 (0, 0)) := fun X o h => (Below.heap_alloc _ _ _ (lt_heap h)).trans h
  have h4 := ka _ (.cells #[.pointer (some ⟨ge, 0, none⟩)] 127) (ka _ (.cells #[.pointer (some ⟨9, 153, none⟩), .pointer (some ⟨W.heap.size, 0, none⟩), .int .u64 150] 216) (ka _ (.cells #[.pointer (some ⟨9, 153, none⟩), .pointer (some ⟨W.heap.size, 0, none⟩), .int .u64 150] 216) (ka _ (.cells #[.pointer (some ⟨w0.heap.size, 0, none⟩)] 153) hb)))
  have h5 := heap_setCell_same _ w0.heap.size 0 _ _ (.pointer (some ⟨ge, 0, none⟩)) h4
  refine ⟨rfl, by rw [cell_of_row _ _ _ _ _ _ h5]; rfl, ?_, lt_heap h5⟩
  refine ((((hB.alloc (by omega) _).alloc (by simp; omega) _).alloc (by simp; omega) _).alloc (by simp; omega) _).setCell (p := ⟨w0.heap.size, 0, none⟩) (Nat.le_refl _) _

end Go.Proofs.YtmceiehnfmgioaaGreatDoor
