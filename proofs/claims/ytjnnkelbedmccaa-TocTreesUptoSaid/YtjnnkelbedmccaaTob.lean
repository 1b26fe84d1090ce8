/- Layer 10: contents and lists of numbers in memory; sets of numbers; the program's small functions. -/
import Derived.Test.YtjnnkelbedmccaaProg
import Derived.Test.YtjnnkelbedmccaaToa
import Derived.WalkKit
import Derived.Lib.Hide
import Derived.IntWalk
import Derived.Laws.OwnMore
import Derived.Deep.AppendLies
import Derived.Below
import Derived.BigQuiet
import Derived.Deep.QuietTactic
import Derived.Maps.OwnSet
import Derived.Maps.OwnOps
import Derived.WalkMore
namespace Go.Proofs.Ytjnnkelbedmccaa
open Go.RowKit Go.Maps
set_option linter.unusedVariables false

def SaysL (v : Value) (w : World) (e : Ending) (w' : World) : Prop := e = .returned v ∧ Below w.heap.size w w'
theorem cellInL {w : World} {a : Addr} {v : Value} (h : w.cell? a = some v) : a.block < w.heap.size := World.block_lt_of_cell? w _ h
def FitE (e : Ent) : Prop := (Lit.int .i64 e.tp).wf = true ∧ (Lit.int .i64 e.lv).wf = true
/-- Contents in memory. -/
def RdE (w : World) (v : Value) (l : List Ent) : Prop :=
  ∃ (pa : Option Addr) (cap : Nat), v = .slice pa l.length cap ∧ l.length ≤ cap ∧ cap ≤ maxLen ∧ (∀ e ∈ l, FitE e) ∧ ∀ j (hj : j < l.length), ∃ b off, pa = some ⟨b, off, none⟩ ∧ w.cell? ⟨b, off + j * 2, none⟩ = some (.int .i64 l[j].tp) ∧ w.cell? ⟨b, off + j * 2 + 1, none⟩ = some (.int .i64 l[j].lv)
section
variable {w w' : World} {v : Value} {l : List Ent}
theorem RdE.keep (h : RdE w v l) (hk : ∀ a : Addr, a.block < w.heap.size → w'.cell? a = w.cell? a) : RdE w' v l := by
  obtain ⟨pa, cap, e, h1, h2, h3, h4⟩ := h
  refine ⟨pa, cap, e, h1, h2, h3, fun j hj => ?_⟩
  obtain ⟨b, off, e, hc, hd⟩ := h4 j hj
  exact ⟨b, off, e, (hk _ (cellInL hc)).trans hc, (hk _ (cellInL hd)).trans hd⟩
theorem RdE.below (h : RdE w v l) (hb : Below w.heap.size w w') : RdE w' v l := h.keep fun _ ha => hb.cell ha
theorem RdE.below' {B : Nat} (h : RdE w v l) (hb : Below B w w') (hB : w.heap.size ≤ B) : RdE w' v l := h.below (hb.mono hB)
theorem RdE.form (h : RdE w v l) : ∃ (pa : Option Addr) (cap : Nat), v = .slice pa l.length cap ∧ l.length ≤ cap ∧ cap ≤ maxLen := by
  obtain ⟨pa, cap, e, h1, h2, _⟩ := h
  exact ⟨pa, cap, e, h1, h2⟩
theorem RdE.fit (h : RdE w v l) {j : Nat} (hj : j < l.length) : FitE l[j] := by
  obtain ⟨pa, cap, e, h1, h2, h3, _⟩ := h
  exact h3 _ (List.getElem_mem hj)
theorem RdE.cell {pa : Option Addr} {n cap : Nat} (h : RdE w (.slice pa n cap) l) {j : Nat} (hj : j < l.length) : ∃ b off, pa = some ⟨b, off, none⟩ ∧ w.cell? ⟨b, off + j * 2, none⟩ = some (.int .i64 (tpN l j)) ∧ w.cell? ⟨b, off + j * 2 + 1, none⟩ = some (.int .i64 (lvN l j)) := by
  obtain ⟨pa', cap', e, _, _, _, h4⟩ := h
  cases e
  rw [tpN_at hj, lvN_at hj]
  exact h4 j hj
end
/-- A list of numbers in memory. -/
def RdZ (w : World) (v : Value) (zs : List Int) : Prop :=
  ∃ (pa : Option Addr) (cap : Nat), v = .slice pa zs.length cap ∧ zs.length ≤ cap ∧ cap ≤ maxLen ∧ ∀ j (hj : j < zs.length), ∃ b off, pa = some ⟨b, off, none⟩ ∧ w.cell? ⟨b, off + j, none⟩ = some (.int .i64 zs[j])
def natZ (l : List Nat) : List Int := l.map fun (k : Nat) => (k : Int)
theorem natZ_len (l : List Nat) : (natZ l).length = l.length := by simp [natZ]
def numsZ (zs : List Int) : List Value := zs.map (Value.int .i64)
theorem numsZ_len (xs : List Int) : (numsZ xs).length = xs.length := by simp [numsZ]
theorem numsZ_app (a b : List Int) : numsZ (a ++ b) = numsZ a ++ numsZ b := by simp [numsZ]
theorem numsZ_one (a : List Int) : ∀ u ∈ numsZ a, u.oneCell' = true := by
  intro u hu
  obtain ⟨x, _, rfl⟩ := List.mem_map.1 hu
  rfl
section
variable {w w' : World} {v : Value} {zs : List Int}
theorem RdZ.keep (h : RdZ w v zs) (hk : ∀ a : Addr, a.block < w.heap.size → w'.cell? a = w.cell? a) : RdZ w' v zs := by
  obtain ⟨pa, cap, e, h1, h2, h4⟩ := h
  refine ⟨pa, cap, e, h1, h2, fun j hj => ?_⟩
  obtain ⟨b, off, e, hc⟩ := h4 j hj
  exact ⟨b, off, e, (hk ⟨b, off + j, none⟩ (cellInL hc)).trans hc⟩
theorem RdZ.below (h : RdZ w v zs) (hb : Below w.heap.size w w') : RdZ w' v zs := h.keep fun _ ha => hb.cell ha
theorem RdZ.below' {B : Nat} (h : RdZ w v zs) (hb : Below B w w') (hB : w.heap.size ≤ B) : RdZ w' v zs := h.below (hb.mono hB)
theorem RdZ.form (h : RdZ w v zs) : ∃ (pa : Option Addr) (cap : Nat), v = .slice pa zs.length cap ∧ zs.length ≤ cap ∧ cap ≤ maxLen := by
  obtain ⟨pa, cap, e, h1, h2, _⟩ := h
  exact ⟨pa, cap, e, h1, h2⟩
theorem RdZ.cell {pa : Option Addr} {n cap : Nat} (h : RdZ w (.slice pa n cap) zs) {j : Nat} (hj : j < zs.length) : ∃ b off, pa = some ⟨b, off, none⟩ ∧ w.cell? ⟨b, off + j, none⟩ = some (.int .i64 zs[j]) := by
  obtain ⟨pa', cap', e, _, _, h4⟩ := h
  cases e
  exact h4 j hj
theorem RdZ.own {base n : Nat} (h : w.ownsRow base 3 1 v n (numsZ zs)) (hn : n = zs.length) : RdZ w v zs := by
  subst hn
  rcases h.2 with ⟨rfl, h0⟩ | ⟨g, cap, cur, rfl, hb, hg, h1, h2, h3, h4⟩
  · have : zs = [] := List.eq_nil_of_length_eq_zero h0
    subst this
    exact ⟨none, 0, rfl, Nat.le_refl _, Nat.zero_le _, fun i hi => absurd hi (by simp)⟩
  · refine ⟨_, cap, rfl, h1, h2, fun j hj => ⟨g, 0, rfl, ?_⟩⟩
    rw [Nat.zero_add]
    have := World.ownsRow.cellAt h j (by omega)
    rw [this]
    simp [numsZ, hj]
end
theorem infoI : (Try.prog.info? 3).map (fun i => (i.zero, i.size, i.bytes)) = some (some (.int .i64 0), 1, 8) := by kernel_rfl
theorem infoE : (Try.prog.info? 67).map (fun i => (i.zero, i.size, i.bytes)) = some (some (.agg #[.int .i64 0, .int .i64 0]), 2, 16) := by kernel_rfl
theorem own_base {W : World} {base : Nat} {e : TypeId} {size : Nat} {v : Value} {n : Nat} {xs : List Value} (h : W.ownsRow base e size v n xs) {c : Nat} (hc : v.ownBlock = some c) : base ≤ c ∧ c < W.heap.size := h.lt c hc
theorem own_stays {W W' : World} {base : Nat} {e : TypeId} {size : Nat} {v : Value} {n : Nat} {xs : List Value} (h : W.ownsRow base e size v n xs) (hk : ∀ c, v.ownBlock = some c → W'.heap[c]? = W.heap[c]?) : W'.ownsRow base e size v n xs := by
  refine ⟨h.1, ?_⟩
  rcases h.2 with h0 | ⟨g, cap, cur, h1, h2, h3, h4⟩
  · exact .inl h0
  · exact .inr ⟨g, cap, cur, h1, h2, (hk g (by rw [h1]; rfl)).trans h3, h4⟩
theorem lenL {w : World} {base : Nat} {e : TypeId} {size : Nat} {v : Value} {n : Nat} {xs : List Value} (h : w.ownsRow base e size v n xs) : ∃ (p : Option Addr) (c : Nat), v = .slice p n c := by
  rcases h.2 with ⟨rfl, h0⟩ | ⟨g, cap, cur, rfl, _⟩
  · exact ⟨none, 0, by rw [h0]⟩
  · exact ⟨_, _, rfl⟩
theorem cells_newL (w : World) (cs : Array Value) (t : TypeId) (j : Nat) (u : Value) (h : cs.toList[j]? = some u) : (w.alloc (.cells cs t)).cell? ((⟨w.heap.size, 0, none⟩ : Addr).add j) = some u := by
  rw [Addr.add_lit, Nat.zero_add, cell_of_row _ _ _ _ _ _ (heap_alloc_new w _)]
  rw [← Array.getElem?_toList]
  exact h
/-- A set of numbers in a map's block. -/
structure StD (D : DataW Unit) (xs : List Int) : Prop where
  tidy : Tidy D
  has : ∀ x : Int, Maps.has D (.int .i64 x) = true ↔ x ∈ xs
theorem lit_neZ {a b : Int} (h : a ≠ b) : (Lit.int .i64 a) ≠ Lit.int .i64 b := by
  intro e
  injection e with _ e
  exact h e
theorem key_Z (x : Int) : WideAt.IsKeyLit (.int .i64 x) := trivial
theorem StD.start : StD (DataW.map []) [] := ⟨tidy_empty, fun x => by simp [Maps.has]⟩
theorem StD.put {D : DataW Unit} {xs : List Int} (h : StD D xs) (x : Int) : StD (D.put (.int .i64 x) (.agg [])) (xs ++ [x]) := by
  refine ⟨h.tidy.put (key_Z x) _, fun y => ?_⟩
  by_cases e : y = x
  · subst e
    simp [has_put_same h.tidy.isMap (key_Z y)]
  · rw [has_put_other (lit_neZ e), h.has]
    simp [e]
theorem StD.no {D : DataW Unit} {xs : List Int} (h : StD D xs) {x : Int} (hx : x ∉ xs) : Maps.has D (.int .i64 x) = false := by
  cases e : Maps.has D (.int .i64 x)
  · rfl
  · exact absurd ((h.has x).1 e) hx
theorem lawI : Keyed Try.prog 3 := int_keyed Try.underlying3
theorem zeroUL (w : World) : (zeroValue 81).run Try.prog w = .ok (.agg #[]) w := by kernel_rfl
def SetAt (w : World) (M : Nat) (xs : List Int) : Prop := ∃ D : DataW Unit, w.ownsMap Try.prog 3 unitElem M xs.length D ∧ StD D xs
section
variable {w w' : World} {M : Nat} {xs : List Int}
theorem SetAt.lt (h : SetAt w M xs) : M < w.heap.size := by
  obtain ⟨D, h1, _⟩ := h
  exact h1.lt
theorem SetAt.block (h : SetAt w M xs) (e : w'.heap[M]? = w.heap[M]?) : SetAt w' M xs := by
  obtain ⟨D, ⟨es, ck, h1, h2⟩, h3⟩ := h
  exact ⟨D, ⟨es, ck, e.trans h1, h2⟩, h3⟩
theorem SetAt.below (h : SetAt w M xs) (hb : Below w.heap.size w w') : SetAt w' M xs := h.block (hb.block M h.lt)
theorem SetAt.obj (h : SetAt w M xs) : ∃ es ck, w.heap[M]? = some (.map es ck) := by
  obtain ⟨D, ⟨es, ck, h1, _⟩, _⟩ := h
  exact ⟨es, ck, h1⟩
theorem SetAt.made (w : World) : SetAt (w.alloc (.map #[] 0)) w.heap.size [] := ⟨_, (World.ownsMap_made w Try.prog 3 unitElem), StD.start⟩
end

set_option maxRecDepth 100000 in
theorem follow_pro (a v : Int) (w : World) (ha : 0 ≤ a) (ha2 : a ≤ 1000) : Calls Try.prog 40 #[.int .i64 a, .int .i64 v] w fun e w' => e = .returned (.bool (mayB a v)) ∧ w = w' := by
  have h0 : ∀ b, mayB a v = b → mayB a v = b := fun _ h => h
  by_cases h1 : 1 ≤ v
  · by_cases h2 : v ≤ 8
    · by_cases h3 : v ≤ a + 1
      · rw [show mayB a v = true from decide_eq_true ⟨h1, h2, h3⟩]
        go_enter Try.func40, Try.ntmps40
        go_wp2_with fail
        go_ret
        exact ⟨rfl, rfl⟩
      · rw [show mayB a v = false from decide_eq_false (by omega)]
        go_enter Try.func40, Try.ntmps40
        go_wp2_with fail
        go_ret
        exact ⟨rfl, rfl⟩
    · rw [show mayB a v = false from decide_eq_false (by omega)]
      go_enter Try.func40, Try.ntmps40
      go_wp2_with fail
      go_ret
      exact ⟨rfl, rfl⟩
  · rw [show mayB a v = false from decide_eq_false (by omega)]
    go_enter Try.func40, Try.ntmps40
    go_wp2_with fail
    go_ret
    exact ⟨rfl, rfl⟩

set_option maxRecDepth 100000 in
theorem entry_pro (pa : Option Addr) (n cap : Nat) (i : Int) (w : World) : Calls Try.prog 53 #[.slice pa n cap, .int .i64 i] w fun e w' => e = .returned (.bool (decide (0 ≤ i ∧ i < n))) ∧ w = w' := by
  by_cases h1 : 0 ≤ i
  · by_cases h2 : i < n
    · rw [show decide (0 ≤ i ∧ i < (n : Int)) = true from decide_eq_true ⟨h1, h2⟩]
      go_enter Try.func53, Try.ntmps53
      go_wp2_with fail
      go_ret
      exact ⟨rfl, rfl⟩
    · rw [show decide (0 ≤ i ∧ i < (n : Int)) = false from decide_eq_false (by omega)]
      go_enter Try.func53, Try.ntmps53
      go_wp2_with fail
      go_ret
      exact ⟨rfl, rfl⟩
  · rw [show decide (0 ≤ i ∧ i < (n : Int)) = false from decide_eq_false (by omega)]
    go_enter Try.func53, Try.ntmps53
    go_wp2_with fail
    go_ret
    exact ⟨rfl, rfl⟩

set_option maxRecDepth 100000 in
/-- The level of an entry, and of the root. -/
theorem level_pro (l : List Ent) (v : Value) (i : Int) (w : World) (hv : RdE w v l) (h0 : -1 ≤ i) (hi : i < l.length) : Calls Try.prog 54 #[v, .int .i64 i] w fun e w' => e = .returned (.int .i64 (lvI l i)) ∧ w = w' := by
  obtain ⟨pa, cap, rfl, _, _⟩ := hv.form
  by_cases h1 : i = -1
  · subst h1
    rw [lvI_root]
    clear hv hi h0
    go_enter Try.func54, Try.ntmps54
    go_wp2_with fail
    go_ret
    exact ⟨rfl, rfl⟩
  · obtain ⟨k, rfl⟩ : ∃ k : Nat, i = k := ⟨i.toNat, by omega⟩
    rw [lvI_nat]
    obtain ⟨b, off, rfl, c0, c1⟩ := hv.cell (j := k) (by omega)
    have t1 : ((k : Int) == -1) = false := by simp
    obtain ⟨q, hq⟩ : ∃ q, lvN l k = q := ⟨_, rfl⟩
    rw [hq] at c1 ⊢
    clear hv h0 h1 c0 hq
    go_enter Try.func54, Try.ntmps54
    go_wp2_with fail
    go_ret
    exact ⟨rfl, rfl⟩
end Go.Proofs.Ytjnnkelbedmccaa
