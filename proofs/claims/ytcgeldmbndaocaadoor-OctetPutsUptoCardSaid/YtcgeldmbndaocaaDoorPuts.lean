/- The walk of OctetPuts: its list's own row with a hundred noughts behind, and what is kept beside it. -/
import Derived.Test.YtcgeldmbndaocaaDoorOAwake
import Derived.Test.YtcgeldmbndaocaaDoorBackL
import Derived.Test.YtcgeldmbndaocaaDoorRefP
namespace Go.Proofs.YtcgeldmbndaocaaDoor.octetPuts
open Go.RowKit Go.Maps
set_option linter.unusedVariables false

/-- The list's own row: its bytes, and a hundred noughts behind. -/
def Row (w : World) (g : Nat) (ys : List UInt8) : Prop := w.heap[g]? = some (.cells (Lib.byteCells (ys ++ List.replicate 100 0)).toArray 5 (0, 0))
theorem Row.at_ {w : World} {g : Nat} {ys : List UInt8} (h : Row w g ys) (j : Nat) (hj : j < ys.length) : w.cell? ⟨g, j, none⟩ = some (.int .u8 (ys[j].toNat : Int)) := by
  rw [cell_of_row w g j _ _ _ h, List.getElem?_toArray, Lib.byteCells_append, List.getElem?_append_left (by rw [Lib.byteCells_length]; exact hj)]
  simp [Lib.byteCells, hj]
theorem Row.behind {w : World} {g : Nat} {ys : List UInt8} (h : Row w g ys) (j : Nat) (hj : j < 100) : w.cell? ⟨g, ys.length + j, none⟩ = some (.int .u8 0) := by
  have hrep : Lib.byteCells (List.replicate 100 0) = List.replicate 100 (.int .u8 0) := by rw [Lib.byteCells, List.map_replicate]; rfl
  rw [cell_of_row w g _ _ _ _ h, List.getElem?_toArray, Lib.byteCells_append, List.getElem?_append_right (by rw [Lib.byteCells_length]; omega), hrep, Lib.byteCells_length, Nat.add_sub_cancel_left]
  rw [List.getElem?_replicate, if_pos hj]
theorem Row.rd {w : World} {g : Nat} {ys : List UInt8} (h : Row w g ys) (hl : ys.length ≤ 1048576) : Rd w (.slice (some ⟨g, 0, none⟩) ys.length (ys.length + 100)) ys := by
  refine ⟨_, _, rfl, by omega, by unfold maxLen; omega, fun j hj => ⟨g, 0, rfl, ?_⟩⟩
  rw [Nat.zero_add]
  exact h.at_ j hj
theorem Row.set {w : World} {g : Nat} {ys : List UInt8} (h : Row w g ys) (k : Nat) (hk : k < ys.length) (y : UInt8) : Row (w.setCell ⟨g, k, none⟩ (.int .u8 (y.toNat : Int))) g (ys.set k y) := by
  have hlt : g < w.heap.size := (Array.getElem?_eq_some_iff.1 h).1
  have hv := (Array.getElem?_eq_some_iff.1 h).2
  unfold Row World.setCell
  simp only [Array.getElem?_modify]
  rw [if_pos trivial, show w.heap[g]? = _ from h]
  simp only [Option.map_some, Option.isSome_none]
  congr 2
  apply Array.toList_inj.1
  simp only [Array.toList_setIfInBounds, Lib.byteCells, Bool.false_eq_true, if_false]
  rw [← List.map_set, List.set_append_left _ _ hk]
theorem wpList_append_run {P : Program} {w w' : World} {ops : Array Oper} {rest : List Oper} {o : Oper} {a : Act} {Q : Exit → Act → World → Prop} (hgd : o.guard = none) (s x : Operand) (t : TypeId)
    (ho : o.op = .call { callee := .builtin .append, args := #[s, x], argTypes := #[t, t] }) (v : Value) (hrun : (Builtin.append_ #[t, t] o.type #[a.eval s, a.eval x]).run P w = .ok v w')
    (h : wpList P ops Q rest (a.put o.dst v) w') : wpList P ops Q (o :: rest) a w := by
  refine wpList_plain hgd fun K hK => ?_
  unfold Oper.wp
  simp [execOp, ho, resolve, invoke, builtin, hrun, Result.andThen]
  exact hK _ _ h
theorem mine_run (w : World) (g n cap : Nat) (pa : Option Addr) (l : List UInt8) (h : Rd w (.slice pa n cap) l)
    (hg : w.heap[g]? = some (.cells (madeCells #[.int .u8 0] (n + 100)) 5 (0, 0))) :
    ∃ w', (Builtin.append_ #[22, 22] 22 #[.slice (some ⟨g, 0, none⟩) 0 (n + 100), .slice pa n cap]).run Tryd.prog w = .ok (.slice (some ⟨g, 0, none⟩) n (n + 100)) w' ∧ Row w' g l ∧ w.grownBy w' (some g) := by
  obtain ⟨i0, hi, hz0, hz1, hz2⟩ := info_parts info5
  have hn : n = l.length := by obtain ⟨_, _, e, _⟩ := h; cases e; rfl
  have hrep : Lib.byteCells (List.replicate 100 0) = List.replicate 100 (.int .u8 0) := by rw [Lib.byteCells, List.map_replicate]; rfl
  cases pa with
  | none =>
    have h0 : l = [] := by
      rcases l with _ | ⟨x, l⟩
      · rfl
      · obtain ⟨ad, h1, _⟩ := rd_cells h (by simp [Lib.byteCells])
        cases h1
    subst h0
    have hn0 : n = 0 := hn
    subst hn0
    refine ⟨w, ?_, ?_, World.grownBy.refl _ _⟩
    · simp [Builtin.append_, run_underlying Tryd.underlying22, sizeOf, typeInfo, hi, Builtin.lenOf, Builtin.firstCells, loadCells, loadCellsFrom]
      rfl
    · unfold Row
      rw [hg, List.nil_append, hrep]
      congr 2
      apply Array.toList_inj.1
      rw [toList_madeCells_one]
  | some ad =>
    have hc := rd_cells h
    have hlen : (Lib.byteCells l).length = n := by rw [Lib.byteCells_length, hn]
    have hr := run_append_room (P := Tryd.prog) w 22 22 5 i0 Tryd.underlying22 hi g 0 (n + 100) _ hg ad n cap (Lib.byteCells l) (by rw [hz1, hlen]; omega)
      (fun j u hu => by
        obtain ⟨ad', e, hcc⟩ := hc (by rcases l with _ | ⟨x, l⟩ <;> simp_all [Lib.byteCells])
        cases e
        exact hcc j u hu) (byteCells_one l) (by omega) (by
          have : (madeCells #[Value.int IntKind.u8 0] (n + 100)).size = n + 100 := by rw [← Array.length_toList, toList_madeCells_one, List.length_replicate]
          rw [this, hlen]; omega)
    rw [Nat.zero_add] at hr
    refine ⟨_, hr, ?_, ?_⟩
    · unfold Row
      rw [setRow_heap w g _ _ _ _ hg]
      congr 2
      rw [toList_madeCells_one, Nat.zero_mul, List.take_zero, List.nil_append, Nat.zero_add, hlen, List.drop_replicate, Lib.byteCells_append, hrep]
      congr 3
      omega
    · exact ⟨rfl, rfl, rfl, by simp [World.setRow], fun k _ hk => setRow_other w g k _ (fun e => hk (by rw [e]))⟩

/-- What is kept from call to call: the list's row, the memory given, the lists laid behind the row, the blocks laid behind it. -/
structure St (W : World) (g : Nat) (ys : List UInt8) (L : List (Value × List UInt8)) (A : List (Nat × Obj)) (w : World) : Prop where
  row : Row w g ys
  ge : W.heap.size ≤ g
  bel : Below W.heap.size W w
  own : ∀ x ∈ L, w.ownsRow (g + 1) 5 1 x.1 x.2.length (Lib.byteCells x.2)
  blk : ∀ x ∈ A, g < x.1 ∧ w.heap[x.1]? = some x.2
section
variable {W : World} {g : Nat} {ys : List UInt8} {L : List (Value × List UInt8)} {A : List (Nat × Obj)} {w w' : World}
theorem St.lt (h : St W g ys L A w) : g < w.heap.size := (Array.getElem?_eq_some_iff.1 h.row).1
theorem St.step (h : St W g ys L A w) (hb : Below w.heap.size w w') : St W g ys L A w' :=
  ⟨(hb.block g h.lt).trans h.row, h.ge, h.bel.trans (hb.mono h.bel.size), fun x hx => own_below (h.own x hx) hb, fun x hx => ⟨(h.blk x hx).1, (hb.block x.1 (Array.getElem?_eq_some_iff.1 (h.blk x hx).2).1).trans (h.blk x hx).2⟩⟩
theorem St.drew (h : St W g ys L A w) : St W g ys L A w.drew := h.step (Below.refl _ _).drew
theorem St.put {v : Value} {t : List UInt8} {n : Nat} (h : St W g ys L A w) (ho : w'.ownsRow w.heap.size 5 1 v n (Lib.byteCells t)) (hb : Below w.heap.size w w') : St W g ys ((v, t) :: L) A w' := by
  have k := h.step hb
  refine ⟨k.row, k.ge, k.bel, fun x hx => ?_, k.blk⟩
  rcases List.mem_cons.1 hx with rfl | hx
  · have hn : n = t.length := by have := ho.1; rw [Lib.byteCells_length] at this; omega
    subst hn
    exact own_mono ho h.lt
  · exact k.own x hx
theorem St.alloc (h : St W g ys L A w) (o : Obj) : St W g ys L ((w.heap.size, o) :: A) (w.alloc o) := by
  have k := h.step ((Below.refl w.heap.size w).alloc (Nat.le_refl _) o)
  refine ⟨k.row, k.ge, k.bel, k.own, fun x hx => ?_⟩
  rcases List.mem_cons.1 hx with rfl | hx
  · exact ⟨h.lt, heap_alloc_new w o⟩
  · exact k.blk x hx
theorem St.set (h : St W g ys L A w) (k : Nat) (hk : k < ys.length) (y : UInt8) : St W g (ys.set k y) L A (w.setCell ⟨g, k, none⟩ (.int .u8 (y.toNat : Int))) := by
  have hg : w.grownBy (w.setCell ⟨g, k, none⟩ (.int .u8 (y.toNat : Int))) (some g) :=
    ⟨rfl, rfl, rfl, by simp [World.setCell], fun j _ hj => Below.heap_setCell w _ _ j (fun e => hj (by rw [e]))⟩
  refine ⟨h.row.set k hk y, h.ge, h.bel.setCell (p := ⟨g, k, none⟩) h.ge _, fun x hx => ?_, fun x hx => ⟨(h.blk x hx).1, ?_⟩⟩
  · refine (h.own x hx).kept hg ?_
    rcases (h.own x hx).2 with ⟨e, _⟩ | ⟨g1, c1, cur, e, hb, _⟩
    · left; rw [e]; rfl
    · right; rw [e]; intro e2; simp only [Value.ownBlock] at e2; cases e2; omega
  · exact (Below.heap_setCell w _ _ x.1 (by have := (h.blk x hx).1; simp; omega)).trans (h.blk x hx).2
theorem St.rd (h : St W g ys L A w) {v : Value} {t : List UInt8} (hx : (v, t) ∈ L) : Rd w v t := Rd.own (h.own _ hx)
theorem St.old (h : St W g ys L A w) {v : Value} {t : List UInt8} (hR : Rd W v t) : Rd w v t := hR.below h.bel
theorem St.at_ (h : St W g ys L A w) {b : Nat} {o : Obj} (hx : (b, o) ∈ A) : w.heap[b]? = some o := (h.blk _ hx).2
end
theorem rd_news {w : World} {ad : Addr} {n cap : Nat} {e : List UInt8} (h : Rd w (.slice (some ad) n cap) e) : ∀ j u, (Lib.byteCells e)[j]? = some u → w.cell? (ad.add j) = some u := by
  intro j u hu
  obtain ⟨ad', e1, hc⟩ := rd_cells h (by rcases e with _ | ⟨x, l⟩ <;> simp_all [Lib.byteCells])
  cases e1
  exact hc j u hu
theorem rd_some {w : World} {pa : Option Addr} {n cap : Nat} {e : List UInt8} (h : Rd w (.slice pa n cap) e) (h0 : 0 < e.length) : ∃ b off, pa = some ⟨b, off, none⟩ := by
  obtain ⟨pa', cap', e1, _, _, h4⟩ := h
  cases e1
  obtain ⟨b, off, e2, _⟩ := h4 0 h0
  exact ⟨b, off, e2⟩
theorem St.cellA {W : World} {g ga gb : Nat} {ys : List UInt8} {L : List (Value × List UInt8)} {cA cB : Array Value} {w : World} {T : TypeId} (h : St W g ys L [(gb, .cells cB T), (ga, .cells cA T)] w) (k : Nat) (v : Value) (hv : cA[k]? = some v) : w.cell? ⟨ga, k, none⟩ = some v := by
  rw [cell_of_row w ga k cA T (0, 0) (h.at_ (by simp))]; exact hv
theorem St.cellB {W : World} {g ga gb : Nat} {ys : List UInt8} {L : List (Value × List UInt8)} {cA cB : Array Value} {w : World} {T : TypeId} (h : St W g ys L [(gb, .cells cB T), (ga, .cells cA T)] w) (k : Nat) (v : Value) (hv : cB[k]? = some v) : w.cell? ⟨gb, k, none⟩ = some v := by
  rw [cell_of_row w gb k cB T (0, 0) (h.at_ (by simp))]; exact hv
/-- The six lists laid and the six asked for: each laid one is the list's own bytes and the one asked for behind them. -/
def PF (l : List UInt8) (L : List (Value × List UInt8)) (cA cB : Array Value) : Prop :=
  ∀ k, k < 6 → ∃ (qa : Option Addr) (ca : Nat) (t : List UInt8) (qb : Option Addr) (cb : Nat) (e : List UInt8), (Value.slice qa t.length ca, t) ∈ L ∧ (Value.slice qb e.length cb, e) ∈ L ∧ cA[k]? = some (.slice qa t.length ca) ∧ cB[k]? = some (.slice qb e.length cb) ∧ l ++ e = t ∧ 0 < e.length ∧ e.length ≤ 2000000
theorem lo_mod2 (n : Nat) : lo 2 (n % 65536) = lo 2 n := by
  simp only [lo]
  rw [show n % 65536 % 256 = n % 256 by omega, show n % 65536 / 256 % 256 = n / 256 % 256 by omega]
theorem lo_mod4 (n : Nat) : lo 4 (n % 4294967296) = lo 4 n := by
  simp only [lo]
  rw [show n % 4294967296 % 256 = n % 256 by omega, show n % 4294967296 / 256 % 256 = n / 256 % 256 by omega, show n % 4294967296 / 256 / 256 % 256 = n / 256 / 256 % 256 by omega, show n % 4294967296 / 256 / 256 / 256 % 256 = n / 256 / 256 / 256 % 256 by omega]
theorem u8_flip (x : UInt8) : bits .xor .u8 (x.toNat : Int) 85 = ((x ^^^ 85).toNat : Nat) := by
  rw [UInt8.toNat_xor]; exact u8_xor_nat _ _ x.toNat_lt (by decide)
end Go.Proofs.YtcgeldmbndaocaaDoor.octetPuts
