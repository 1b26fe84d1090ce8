/- The document's Norm of layer 7. The document's table of layer 7: what its New answers. The document's order of layer 7: Sorted. The document's Find, Begins, Prefix of layer 7. The document's Near of layer 7. The program's New of layer 7, once more: what it makes lies in new memory. The law's goes of layer 7: what Each tells, in order. -/
import Derived.Test.YtoeknophfcfahaaGreatDoorNp
import Derived.Test.YtoeknophfcfahaaGreatDoorGoodn
import Derived.Lib.QuietBelow
import Derived.Test.YtoeknophfcfahaaGreatDoorNw
import Derived.Deep.AppendLies
import Derived.Maps.OwnOps
import Derived.Test.YtoeknophfcfahaaGreatDoorNq
import Derived.Laws.OwnMore
import Derived.BigQuiet
import Derived.Test.YtoeknophfcfahaaGreatDoorNk
import Derived.Test.YtoeknophfcfahaaGreatDoorNar
namespace Go.Proofs.YtoeknophfcfahaaGreatDoor
section
open Go.RowKit Go.Maps Go.Sort
set_option linter.unusedVariables false

set_option maxRecDepth 100000 in
set_option maxHeartbeats 1000000 in
theorem norm_ref (s : ByteArray) (w : World) : Calls Tryz.prog 33 #[.string s] w (NormIs s w) := by
  by_cases h1 : 64 < s.size
  · have hn : nrm s = (ByteArray.empty, 2) := by unfold nrm; rw [if_pos h1]
    have HN := Lib.hid hn
    have h1z : (64 : Int) < s.size := by omega
    clear hn h1
    go_enter Tryz.func33, Tryz.ntmps33
    go_wp2_with fail
    go_ret2
    unfold NormIs
    rw [HN.out]
    exact ⟨rfl, Below.refl _ _⟩
  · have h1z : ¬ (64 : Int) < s.size := by omega
    have HS := Lib.hid (show s.size ≤ 16777216 by omega)
    obtain ⟨f, hf⟩ : ∃ f, fold s = f := ⟨_, rfl⟩
    obtain ⟨p, hp⟩ : ∃ p, ((chars s).find? unplain).isNone = p := ⟨_, rfl⟩
    have hn : nrm s = if p = false ∨ f.size = 0 then (ByteArray.empty, 70) else (f, 0) := by unfold nrm; rw [if_neg h1, hp, hf]
    have HN := Lib.hid hn
    have HF := Lib.hid hf
    have HP := Lib.hid hp
    clear h1 hn hf hp
    cases p with
    | false =>
      go_enter Tryz.func33, Tryz.ntmps33
      go_wp2_with fail
      refine (plain_ref s _ HS.out).mono ?_
      rintro e w1 ⟨he, hb1⟩
      rw [HP.out] at he
      subst he
      have HB1 := Lib.hid hb1
      clear hb1
      go_wp2_with fail
      refine (fold_ref s _ HS.out).mono ?_
      rw [HF.out]
      rintro e w2 ⟨rfl, hb2⟩
      have HB2 := Lib.hid (HB1.out.trans (hb2.mono HB1.out.size))
      clear hb2
      go_wp2_with fail
      go_ret2
      unfold NormIs
      rw [HN.out, if_pos (.inl (by simp))]
      exact ⟨rfl, HB2.out⟩
    | true =>
      by_cases hz : f.size = 0
      · have n1 := isNil hz
        have HZ := Lib.hid hz
        clear hz
        go_enter Tryz.func33, Tryz.ntmps33
        go_wp2_with fail
        refine (plain_ref s _ HS.out).mono ?_
        rintro e w1 ⟨he, hb1⟩
        rw [HP.out] at he
        subst he
        have HB1 := Lib.hid hb1
        clear hb1
        go_wp2_with fail
        refine (fold_ref s _ HS.out).mono ?_
        rw [HF.out]
        rintro e w2 ⟨rfl, hb2⟩
        have HB2 := Lib.hid (HB1.out.trans (hb2.mono HB1.out.size))
        clear hb2
        go_wp2_with fail
        go_ret2
        unfold NormIs
        rw [HN.out, if_pos (.inr HZ.out)]
        exact ⟨rfl, HB2.out⟩
      · have n1 := notEmpty (s := f) (by omega)
        have HZ := Lib.hid (show ¬ (true = false ∨ f.size = 0) by rintro (h | h); cases h; exact hz h)
        clear hz
        go_enter Tryz.func33, Tryz.ntmps33
        go_wp2_with fail
        refine (plain_ref s _ HS.out).mono ?_
        rintro e w1 ⟨he, hb1⟩
        rw [HP.out] at he
        subst he
        have HB1 := Lib.hid hb1
        clear hb1
        go_wp2_with fail
        refine (fold_ref s _ HS.out).mono ?_
        rw [HF.out]
        rintro e w2 ⟨rfl, hb2⟩
        have HB2 := Lib.hid (HB1.out.trans (hb2.mono HB1.out.size))
        clear hb2
        go_wp2_with fail
        go_ret2
        unfold NormIs
        rw [HN.out, if_neg HZ.out]
        exact ⟨rfl, HB2.out⟩
end
section
open Go.RowKit Go.Maps Go.Sort
set_option linter.unusedVariables false

/-- A map that tells of each text that was seen the number 1. -/
structure Ones (D : DataW Unit) (ks : List ByteArray) : Prop where
  tidy : Tidy D
  has : ∀ x, Maps.has D (keyL x) = true ↔ x ∈ ks
  at_ : ∀ x, D.atKey (keyL x) (.lit (.int .i64 0)) = .lit (.int .i64 (if inL x ks = true then 1 else 0))
  size : Maps.size D = ks.length
theorem Ones.nil : Ones (.map []) [] := ⟨tidy_empty, fun x => by simp [Maps.has], fun x => by simp [inL, DataW.atKey], rfl⟩
theorem Ones.put {D : DataW Unit} {ks : List ByteArray} (h : Ones D ks) {x : ByteArray} (hx : x ∉ ks) : Ones (D.put (keyL x) (.lit (.int .i64 1))) (ks ++ [x]) := by
  refine ⟨h.tidy.put (keyL_key x) _, fun y => ?_, fun y => ?_, ?_⟩
  · by_cases e : y = x
    · subst e
      simp [has_put_same h.tidy.isMap (keyL_key y)]
    · rw [has_put_other (fun e' => e (keyL_inj e')), h.has]
      simp [e]
  · by_cases e : y = x
    · subst e
      rw [atKey_put_same h.tidy.isMap (keyL_key y), if_pos (inL_iff.2 (by simp))]
    · rw [atKey_put_other (fun e' => e (keyL_inj e')), h.at_]
      by_cases hy : y ∈ ks
      · rw [if_pos (inL_iff.2 hy), if_pos (inL_iff.2 (by simp [hy]))]
      · rw [if_neg (fun h => hy (inL_iff.1 h)), if_neg (fun h => by have := inL_iff.1 h; simp [hy, e] at this)]
  · rw [size_put h.tidy]
    have : Maps.has D (keyL x) = false := by
      cases e : Maps.has D (keyL x)
      · rfl
      · exact absurd ((h.has x).1 e) hx
    rw [this, h.size]
    simp
def OneM (w : World) (M : Nat) (ks : List ByteArray) : Prop := ∃ D : DataW Unit, w.ownsMap Tryz.prog 9 (plainElem Tryz.prog 3) M ks.length D ∧ Ones D ks
theorem OneM.lt {w : World} {M : Nat} {ks : List ByteArray} (h : OneM w M ks) : M < w.heap.size := by
  obtain ⟨D, h1, _⟩ := h
  exact h1.lt
theorem OneM.block {w w' : World} {M : Nat} {ks : List ByteArray} (h : OneM w M ks) (e : w'.heap[M]? = w.heap[M]?) : OneM w' M ks := by
  obtain ⟨D, ⟨es, ck, h1, h2⟩, h3⟩ := h
  exact ⟨D, ⟨es, ck, e.trans h1, h2⟩, h3⟩

theorem cells_set (W : World) (a : Addr) (x : Value) (v : Value) (t : TypeId) : ∀ j u, [v][j]? = some u → ((W.setCell a x).alloc (.cells #[v] t)).cell? ((⟨W.heap.size, 0, none⟩ : Addr).add j) = some u := fun j u h => by
  have h9 := cells_new (W.setCell a x) #[v] t j u h
  have h8 : (W.setCell a x).heap.size = W.heap.size := by simp
  rw [h8] at h9
  exact h9
theorem two_cells {W : World} {b : Nat} {x y : Value} {T : TypeId} (h : W.heap[b]? = some (.cells #[x, y] T (0, 0))) :
    W.cell? ⟨b, 0, none⟩ = some x ∧ W.cell? ⟨b, 1, none⟩ = some y ∧ W.frozen? ⟨b, 0, none⟩ = false ∧ W.frozen? ⟨b, 1, none⟩ = false := by
  refine ⟨?_, ?_, ?_, ?_⟩ <;> simp [World.cell?, World.frozen?, h]
theorem two_set {W : World} {b : Nat} {x y : Value} {T : TypeId} (h : W.heap[b]? = some (.cells #[x, y] T (0, 0))) (u v : Value) :
    ((W.setCell ⟨b, 0, none⟩ u).setCell ⟨b, 1, none⟩ v).heap[b]? = some (.cells #[u, v] T (0, 0)) := by
  have h1 := setCell_row h 0 u
  have h2 := setCell_row h1 1 v
  simpa using h2

/-- What New holds from round to round. -/
structure DS (w1 : World) (ms ks ts : List ByteArray) (nv gv : Value) (W : World) : Prop where
  res : W.heap[w1.heap.size]? = some (.cells #[.slice none 0 0, .slice none 0 0] 29 (0, 0))
  box : W.heap[w1.heap.size + 1]? = some (.cells #[nv, gv] 29 (0, 0))
  on : W.ownsRow (w1.heap.size + 3) 9 1 nv ks.length (textsV ks)
  og : W.ownsRow (w1.heap.size + 3) 9 1 gv ts.length (textsV ts)
  apart : nv.ownBlock = none ∨ nv.ownBlock ≠ gv.ownBlock
  mp : OneM W (w1.heap.size + 1 + 1) ms
  bl : Below w1.heap.size w1 W
namespace DS
variable {w1 : World} {ms ks ts : List ByteArray} {nv gv : Value} {W W3 : World} {o : Obj}
theorem size (h : DS w1 ms ks ts nv gv W) : w1.heap.size + 1 + 1 < W.heap.size := h.mp.lt
theorem below (h : DS w1 ms ks ts nv gv W) (hb : Below W.heap.size W W3) : DS w1 ms ks ts nv gv W3 := by
  have hz := h.size
  have st : ∀ {v : Value} {xs : List ByteArray}, W.ownsRow (w1.heap.size + 3) 9 1 v xs.length (textsV xs) → W3.ownsRow (w1.heap.size + 3) 9 1 v xs.length (textsV xs) := fun h => own_stays h fun c e => hb.block c (own_base h e).2
  exact ⟨(hb.block _ (by omega)).trans h.res, (hb.block _ (by omega)).trans h.box, st h.on, st h.og, h.apart, h.mp.block (hb.block _ (by omega)), h.bl.trans (hb.mono h.bl.size)⟩
theorem mapped {ms' : List ByteArray} (h : DS w1 ms ks ts nv gv W) (hg : W.grownBy W3 (some (w1.heap.size + 1 + 1))) (hm : OneM W3 (w1.heap.size + 1 + 1) ms') :
    DS w1 ms' ks ts nv gv W3 := by
  have hz := h.size
  have st : ∀ {v : Value} {xs : List ByteArray}, W.ownsRow (w1.heap.size + 3) 9 1 v xs.length (textsV xs) → W3.ownsRow (w1.heap.size + 3) 9 1 v xs.length (textsV xs) := fun h => own_stays h fun c e => hg.block c (own_base h e).2 (fun e2 => by cases e2; have := (own_base h e).1; omega)
  exact ⟨(hg.block _ (by omega) (by simp; omega)).trans h.res, (hg.block _ (by omega) (by simp)).trans h.box, st h.on, st h.og, h.apart, hm, h.bl.grown hg (by have := h.bl.size; omega) (fun r e => by cases e; omega)⟩
theorem others (h : DS w1 ms ks ts nv gv W) {row : Option Nat} (hg : (W.alloc o).grownBy W3 row) {c : Nat} (hc : c < W.heap.size) (hne : row ≠ some c) : W3.heap[c]? = W.heap[c]? :=
  (hg.block c (by simp; omega) (fun e => hne e.symm)).trans (Below.heap_alloc _ _ _ hc)
theorem nots {v : Value} {xs : List ByteArray} (h : W.ownsRow (w1.heap.size + 3) 9 1 v xs.length (textsV xs)) {c : Nat} (hc : c < w1.heap.size + 3) : v.ownBlock ≠ some c := fun e => by
  have := (own_base h e).1
  omega
theorem pushN (h : DS w1 ms ks ts nv gv W) (hg : (W.alloc o).grownBy W3 nv.ownBlock) {x : ByteArray} {g c : Nat}
    (hown : W3.ownsRow (w1.heap.size + 3) 9 1 (.slice (some ⟨g, 0, none⟩) (ks.length + 1) c) (ks.length + 1) (textsV ks ++ [.string x])) (hat : nv.ownBlock = some g ∨ g = (W.alloc o).heap.size) :
    W3.heap[w1.heap.size + 1]? = some (.cells #[nv, gv] 29 (0, 0)) ∧
    DS w1 ms (ks ++ [x]) ts (.slice (some ⟨g, 0, none⟩) (ks.length + 1) c) gv (W3.setCell ⟨w1.heap.size + 1, 0, none⟩ (.slice (some ⟨g, 0, none⟩) (ks.length + 1) c)) := by
  have hz := h.size
  have hB := (h.others hg (by omega) (nots h.on (by omega))).trans h.box
  have set : ∀ c', c' ≠ w1.heap.size + 1 → (W3.setCell ⟨w1.heap.size + 1, 0, none⟩ (.slice (some ⟨g, 0, none⟩) (ks.length + 1) c)).heap[c']? = W3.heap[c']? := fun c' hc => Below.heap_setCell _ _ _ _ hc
  have hgn : gv.ownBlock ≠ none → nv.ownBlock ≠ gv.ownBlock := fun hn e => h.apart.elim (fun e2 => hn (e ▸ e2)) (fun e2 => e2 e)
  refine ⟨hB, ⟨(set _ (by omega)).trans ((h.others hg (by omega) (nots h.on (by omega))).trans h.res), ?_, ?_, ?_, ?_, ?_, ?_⟩⟩
  · have := setCell_row hB 0 (.slice (some ⟨g, 0, none⟩) (ks.length + 1) c)
    simpa using this
  · rw [List.length_append, textsV_app]
    exact own_stays hown fun c' e => set c' (by rintro rfl; have := (own_base hown e).1; omega)
  · refine own_stays h.og fun c' e => (set c' ?_).trans (h.others hg (own_base h.og e).2 ?_)
    · rintro rfl; have := (own_base h.og e).1; omega
    · rw [← e]; exact hgn (by rw [e]; simp)
  · refine .inr fun e => ?_
    have e2 : gv.ownBlock = some g := by rw [← e]; rfl
    rcases hat with h1 | h1
    · exact hgn (by rw [e2]; simp) (h1.trans e2.symm)
    · have := (own_base h.og e2).2
      rw [h1] at this
      simp at this
      omega
  · exact h.mp.block ((set _ (by omega)).trans (h.others hg (by omega) (nots h.on (by omega))))
  · exact ((h.bl.alloc (by have := h.bl.size; omega) o).grown hg (by simp; have := h.bl.size; omega) (fun r e => by have := (own_base h.on e).1; omega)).setCell (p := ⟨w1.heap.size + 1, 0, none⟩) (by simp) _
theorem pushG (h : DS w1 ms ks ts nv gv W) (hg : (W.alloc o).grownBy W3 gv.ownBlock) {x : ByteArray} {g c : Nat}
    (hown : W3.ownsRow (w1.heap.size + 3) 9 1 (.slice (some ⟨g, 0, none⟩) (ts.length + 1) c) (ts.length + 1) (textsV ts ++ [.string x])) (hat : gv.ownBlock = some g ∨ g = (W.alloc o).heap.size) :
    W3.heap[w1.heap.size + 1]? = some (.cells #[nv, gv] 29 (0, 0)) ∧
    DS w1 ms ks (ts ++ [x]) nv (.slice (some ⟨g, 0, none⟩) (ts.length + 1) c) (W3.setCell ⟨w1.heap.size + 1, 1, none⟩ (.slice (some ⟨g, 0, none⟩) (ts.length + 1) c)) := by
  have hz := h.size
  have hB := (h.others hg (by omega) (nots h.og (by omega))).trans h.box
  have set : ∀ c', c' ≠ w1.heap.size + 1 → (W3.setCell ⟨w1.heap.size + 1, 1, none⟩ (.slice (some ⟨g, 0, none⟩) (ts.length + 1) c)).heap[c']? = W3.heap[c']? := fun c' hc => Below.heap_setCell _ _ _ _ hc
  have hgn : nv.ownBlock ≠ none → nv.ownBlock ≠ gv.ownBlock := fun hn e => h.apart.elim hn (fun e2 => e2 e)
  refine ⟨hB, ⟨(set _ (by omega)).trans ((h.others hg (by omega) (nots h.og (by omega))).trans h.res), ?_, ?_, ?_, ?_, ?_, ?_⟩⟩
  · have := setCell_row hB 1 (.slice (some ⟨g, 0, none⟩) (ts.length + 1) c)
    simpa using this
  · refine own_stays h.on fun c' e => (set c' ?_).trans (h.others hg (own_base h.on e).2 ?_)
    · rintro rfl; have := (own_base h.on e).1; omega
    · rw [← e]; exact (hgn (by rw [e]; simp)).symm
  · rw [List.length_append, textsV_app]
    exact own_stays hown fun c' e => set c' (by rintro rfl; have := (own_base hown e).1; omega)
  · cases hn : nv.ownBlock with
    | none => exact .inl rfl
    | some g2 =>
      refine .inr fun e => ?_
      obtain rfl : g2 = g := by simpa [Value.ownBlock] using e
      rcases hat with h1 | h1
      · exact hgn (by rw [hn]; simp) (hn.trans h1.symm)
      · have := (own_base h.on hn).2
        rw [h1] at this
        simp at this
        omega
  · exact h.mp.block ((set _ (by omega)).trans (h.others hg (by omega) (nots h.og (by omega))))
  · exact ((h.bl.alloc (by have := h.bl.size; omega) o).grown hg (by simp; have := h.bl.size; omega) (fun r e => by have := (own_base h.og e).1; omega)).setCell (p := ⟨w1.heap.size + 1, 1, none⟩) (by simp) _
end DS
theorem ds_start (w : World) :
    DS w [] [] [] (.slice none 0 0) (.slice none 0 0) (((w.alloc (.cells #[.slice none 0 0, .slice none 0 0] 29)).alloc (.cells #[.slice none 0 0, .slice none 0 0] 29)).alloc (.map #[] 0)) := by
  obtain ⟨w2, hw2⟩ : ∃ w2, (w.alloc (.cells #[.slice none 0 0, .slice none 0 0] 29)) = w2 := ⟨_, rfl⟩
  have hs2 : w2.heap.size = w.heap.size + 1 := by rw [← hw2]; simp
  have hr2 : w2.heap[w.heap.size]? = some (.cells #[.slice none 0 0, .slice none 0 0] 29 (0, 0)) := by rw [← hw2]; exact World.alloc_heap_new _ _
  have hb2 : Below w.heap.size w w2 := by rw [← hw2]; exact (Below.refl _ _).alloc (Nat.le_refl _) _
  rw [hw2]
  clear hw2
  obtain ⟨w4, hw3⟩ : ∃ w4, (w2.alloc (.cells #[.slice none 0 0, .slice none 0 0] 29)) = w4 := ⟨_, rfl⟩
  have hs4 : w4.heap.size = w.heap.size + 1 + 1 := by rw [← hw3]; simp; omega
  have hr4 : w4.heap[w.heap.size]? = some (.cells #[.slice none 0 0, .slice none 0 0] 29 (0, 0)) := by rw [← hw3]; exact (Below.heap_alloc _ _ _ (by omega)).trans hr2
  have hx4 : w4.heap[w.heap.size + 1]? = some (.cells #[.slice none 0 0, .slice none 0 0] 29 (0, 0)) := by rw [← hw3, ← hs2]; exact World.alloc_heap_new _ _
  have hb4 : Below w.heap.size w w4 := by rw [← hw3]; exact hb2.alloc (by omega) _
  rw [hw3]
  clear hw3 hr2 hb2
  refine ⟨(Below.heap_alloc _ _ _ (by omega)).trans hr4, (Below.heap_alloc _ _ _ (by omega)).trans hx4, World.ownsRow_nil _ _ _ _, World.ownsRow_nil _ _ _ _, .inl rfl, ?_, hb4.alloc (by omega) _⟩
  refine ⟨.map [], ?_, Ones.nil⟩
  rw [← hs4]
  exact World.ownsMap_made _ _ _ _

/-- A value of the document's table. -/
def DT (W : World) (tv : Value) (l : List ByteArray) : Prop := ∃ nv gv, tv = .agg #[nv, gv] ∧ RdT W nv l ∧ RdT W gv (l.map nm)
/-- All that a table's value leads to lies in blocks from B on. -/
def FrT (B : Nat) (tv : Value) : Prop := ∃ nv gv, tv = .agg #[nv, gv] ∧ (∀ c, nv.ownBlock = some c → B ≤ c) ∧ ∀ c, gv.ownBlock = some c → B ≤ c
/-- What New answers. -/
def DNewIs (l : List ByteArray) (w : World) (e : Ending) (w' : World) : Prop := Below w.heap.size w w' ∧
  ((1000 < l.length ∧ e = .returned (.tuple #[.agg #[.slice none 0 0, .slice none 0 0], .int .i64 0, .int .i64 2])) ∨
   (l.length ≤ 1000 ∧ ∃ k : Nat, k < l.length ∧ GoodTo l k ∧ errAt l k ≠ 0 ∧ e = .returned (.tuple #[.agg #[.slice none 0 0, .slice none 0 0], .int .i64 k, .int .i64 (errAt l k)])) ∨
   (l.length ≤ 1000 ∧ GoodTo l l.length ∧ ∃ tv, DT w' tv l ∧ FrT w.heap.size tv ∧ e = .returned (.tuple #[tv, .int .i64 0, .int .i64 0])))
set_option maxRecDepth 100000 in
set_option maxHeartbeats 4000000 in
theorem new_ref (l : List ByteArray) (v : Value) (w : World) (h : RdT w v l) : Calls Tryz.prog 7 #[v] w (DNewIs l w) := by
  obtain ⟨pa, cap, rfl, h1, h2⟩ := h.form
  by_cases hl : 1000 < l.length
  · have hlz : (1000 : Int) < l.length := by omega
    have X := World.alloc_heap_new w (.cells #[.slice none 0 0, .slice none 0 0] 29)
    obtain ⟨z0, z1, f0, f1⟩ := two_cells X
    have XB := Lib.hid (show Below w.heap.size w (w.alloc (.cells #[.slice none 0 0, .slice none 0 0] 29)) from (Below.refl _ _).alloc (Nat.le_refl _) _)
    have HL := Lib.hid hl
    clear X h h1 h2 hl
    go_enter Tryz.func7, Tryz.ntmps7
    go_wp2_with fail
    exact bodyPost_ret (v := .tuple #[.agg #[.slice none 0 0, .slice none 0 0], .int .i64 0, .int .i64 2]) (by simp [results, Tryz.f7, go_sem, z0, z1]) rfl ⟨XB.out, .inl ⟨HL.out, rfl⟩⟩
  · have hlz : ¬ (1000 : Int) < l.length := by omega
    have HL := Lib.hid (show l.length ≤ 1000 by omega)
    have HR := Lib.hid h
    obtain ⟨i0, hi, hz0, hz1, hz2⟩ := info_parts infoS
    have hmm := @run_makeMap Tryz.prog
    have X := World.alloc_heap_new (w.alloc (.cells #[.slice none 0 0, .slice none 0 0] 29)) (.cells #[.slice none 0 0, .slice none 0 0] 29)
    rw [World.size_alloc] at X
    obtain ⟨z0, z1, f0, f1⟩ := two_cells X
    have HS := Lib.hid (ds_start w)
    clear h h1 h2 hl X
    go_enter Tryz.func7, Tryz.ntmps7
    go_wp2_with fail
    go_loopw [19] (fun i wr => ∃ (k : Nat) (nv gv : Value), i = .int .i64 k ∧ k ≤ l.length ∧ GoodTo l k ∧ DS w ((l.take k).map nm) (l.take k) ((l.take k).map nm) nv gv wr) (fun i _ => l.length - (intOf i).toNat)
    case atStart => exact ⟨0, _, _, rfl, Nat.zero_le _, fun j hj => absurd hj (Nat.not_lt_zero _), HS.out⟩
    case round =>
      obtain ⟨k, nv, gv, rfl, hk, hG, hN⟩ := hrel
      have HG := Lib.hid hG
      have HN := Lib.hid hN
      by_cases hlt : k < l.length
      · obtain ⟨b, off, e, hc⟩ := (HR.out.below' hN.bl (Nat.le_refl _)).cell hlt
        subst e
        obtain ⟨x, hx⟩ : ∃ x, l[k] = x := ⟨_, rfl⟩
        have HX := Lib.hid hx
        rw [hx] at hc
        have HE := Lib.hid (show errAt l k = errOn ((l.take k).map nm) x by unfold errAt; rw [getD_get hlt, hx])
        have HHL := Lib.hid hlt
        have hk1 : (k : Int) < l.length := by omega
        clear hN hG hx z0 z1 f0 f1
        go_wp2_with fail
        refine (norm_ref x _).mono ?_
        unfold NormIs
        rintro e w2 ⟨he, hb⟩
        obtain ⟨n1, hn1⟩ : ∃ n1, (nrm x).1 = n1 := ⟨_, rfl⟩
        obtain ⟨n2, hn2⟩ : ∃ n2, (nrm x).2 = n2 := ⟨_, rfl⟩
        rw [hn1, hn2] at he
        subst he
        have hN2 := HN.out.below hb
        have HN2 := Lib.hid hN2
        have HN1 := Lib.hid hn1
        have HER := Lib.hid hn2
        have HMS := Lib.hid (show nm x = n1 from hn1)
        obtain ⟨ms, hms⟩ : ∃ ms, (l.take k).map nm = ms := ⟨_, rfl⟩
        rw [hms] at HE HN2 hN2
        obtain ⟨ks, hks⟩ : ∃ ks, l.take k = ks := ⟨_, rfl⟩
        have HKE := Lib.hid hks
        have hkl : ks.length = k := by rw [← hks]; simp; omega
        have HKL := Lib.hid hkl
        rw [hks] at HN2 hN2
        clear hks hkl
        have HMSL := Lib.hid (show ms.length = k by rw [← hms]; simp; omega)
        have HMSE := Lib.hid hms
        clear hb hn1 hms
        by_cases h0 : n2 = 0
        · subst h0
          have hsz : n1.size ≤ maxLen := by
            have h1 := nrm_ok hn2
            rw [← HMS.out, h1.2.1]
            have h2 := fold_size x
            unfold maxLen
            omega
          have HFS := Lib.hid hsz
          obtain ⟨D, hown, hones⟩ := hN2.mp
          have HO := Lib.hid hown
          by_cases hin : inL n1 ms = true
          · obtain ⟨c, hrun, hat, _⟩ := hown.lookup_int law Tryz.underlying62 Tryz.underlying3 (zeroI _) (Go.WideMaps.keyOf_string_mk Tryz.underlying9 hsz)
            have hc1 : c = 1 := by
              have h8 := hones.at_ n1
              rw [if_pos hin] at h8
              have h9 := hat.symm.trans h8
              simpa using h9
            subst hc1
            have HEQ := Lib.hid (show errAt l k = 71 by rw [HE.out]; unfold errOn; rw [HER.out, HMS.out, if_neg (by simp), if_pos hin])
            obtain ⟨q0, q1, g0, g1⟩ := two_cells hN2.res
            have X0 := Lib.hid (two_set hN2.res (.slice none 0 0) (.slice none 0 0))
            have XB := Lib.hid ((hN2.bl.setCell (p := ⟨w.heap.size, 0, none⟩) (Nat.le_refl _) (.slice none 0 0)).setCell (p := ⟨w.heap.size, 1, none⟩) (Nat.le_refl _) (.slice none 0 0))
            clear hN2 hown hones hn2 hsz hin hat
            go_wp2_with fail
            have X1 := X0.out
            have X2 := XB.out
            generalize (w2.setCell ⟨w.heap.size, 0, none⟩ (.slice none 0 0)).setCell ⟨w.heap.size, 1, none⟩ (.slice none 0 0) = w9 at X1 X2 ⊢
            obtain ⟨y0, y1, _, _⟩ := two_cells X1
            exact bodyPost_ret (v := .tuple #[.agg #[.slice none 0 0, .slice none 0 0], .int .i64 k, .int .i64 71]) (by simp [results, Tryz.f7, go_sem, y0, y1]) rfl ⟨X2, .inr (.inl ⟨HL.out, k, HHL.out, HG.out, by rw [HEQ.out]; decide, by rw [HEQ.out]⟩)⟩
          · obtain ⟨c, hrun, hat, _⟩ := hown.lookup_int law Tryz.underlying62 Tryz.underlying3 (zeroI _) (Go.WideMaps.keyOf_string_mk Tryz.underlying9 hsz)
            have hc1 : c = 0 := by
              have h8 := hones.at_ n1
              rw [if_neg hin] at h8
              have h9 := hat.symm.trans h8
              simpa using h9
            subst hc1
            have HEQ := Lib.hid (show errAt l k = 0 by rw [HE.out]; unfold errOn; rw [HER.out, HMS.out, if_neg (by simp), if_neg hin])
            have hnin : n1 ∉ ms := fun h => hin (inL_iff.2 h)
            have HPUT := Lib.hid (hones.put hnin)
            have HML := Lib.hid (show ms.length < maxLen by have := HL.out; have := HMSL.out; have := HHL.out; unfold maxLen; omega)
            have HG2 := Lib.hid (HG.out.succ HEQ.out)
            clear hN2 hown hones hn2 hsz hin hnin hat
            go_wp2_with (first
              | (at_mapUpdate; go_loud (refine wpList_mapUpdate_own _ rfl _ _ _ 62 rfl 9 3 law Tryz.underlying62 (plainElem Tryz.prog 3) (w.heap.size + 1 + 1) ms.length D rfl HO.out HML.out _ _ _ rfl rfl (Go.WideMaps.keyOf_string_mk Tryz.underlying9 HFS.out) _ [] (plainElem_int Tryz.underlying3 (WalkArith.wf_i64 (by omega))) ?_); intro w3 hown3 hgrow3; have HN3 := Lib.hid (HN2.out.mapped (ms' := ms ++ [n1]) hgrow3 ⟨_, by rw [List.length_append]; exact hown3, HPUT.out⟩); clear hown3 hgrow3 hrun; have c0 := (two_cells HN3.out.box).1)
              | (at_builtin; go_loud (refine wpList_append_lies _ rfl _ _ 22 rfl (w.heap.size + 3) 9 i0 (.string .empty) 1 16 Tryz.underlying22 hi hz0 hz1 hz2 rfl (by decide) nv ks.length (textsV ks) rfl (HN3.out.on.alloc _) ⟨_, 0, none⟩ 1 1 [.string x] rfl rfl (cells_new _ _ _) (textsV_one [x]) (by decide) (by have := HL.out; have := HKL.out; unfold maxLen; omega) (by have := HL.out; have := HKL.out; omega) (by have := HN3.out.size; simp; omega) _ rfl ?_); intro g4 c4 w4 hown4 hgrow4 hat4 _; obtain ⟨hB4, hN4⟩ := HN3.out.pushN hgrow4 hown4 hat4; have HN4 := Lib.hid hN4; obtain ⟨q0, q1, r0, r1⟩ := two_cells hB4; have c1 := (two_cells hN4.box).2.1; clear HN3 hown4 hgrow4 hat4 hB4 hN4 c0)
              | (at_builtin; go_loud (refine wpList_append_lies _ rfl _ _ 22 rfl (w.heap.size + 3) 9 i0 (.string .empty) 1 16 Tryz.underlying22 hi hz0 hz1 hz2 rfl (by decide) gv ms.length (textsV ms) rfl (HN4.out.og.alloc _) ⟨_, 0, none⟩ 1 1 [.string n1] rfl rfl (cells_set _ _ _ _ _) (textsV_one [n1]) (by decide) (by have := HL.out; have := HMSL.out; unfold maxLen; omega) (by have := HL.out; have := HMSL.out; omega) (by have := HN4.out.size; simp at this ⊢; omega) _ rfl ?_); intro g5 c5 w5 hown5 hgrow5 hat5 _; obtain ⟨hB5, hN5⟩ := HN4.out.pushG hgrow5 hown5 hat5; have HN5 := Lib.hid hN5; obtain ⟨p0, p1, s0, s1⟩ := two_cells hB5; clear HN4 hown5 hgrow5 hat5 hB5 hN5 c1 q0 q1 r0 r1))
            go_roundw
            case measure => simp [intOf]; omega
            case rel =>
              have e1 : (l.take (k + 1)).map nm = ms ++ [n1] := by rw [take_map HHL.out, HMSE.out, HX.out, HMS.out]
              have e2 : l.take (k + 1) = ks ++ [x] := by rw [List.take_succ_eq_append_getElem HHL.out, HKE.out, HX.out]
              have h9 := HN5.out
              rw [← e1, ← e2] at h9
              exact ⟨k + 1, _, _, by go_num, HHL.out, HG2.out, h9⟩
        · have t1 : (n2 != 0) = true := by simpa using h0
          have t2 : (n2 == 0) = false := by simpa using h0
          have HEQ := Lib.hid (show errAt l k = n2 by rw [HE.out]; unfold errOn; rw [HER.out, if_pos h0])
          have H0 := Lib.hid h0
          obtain ⟨q0, q1, g0, g1⟩ := two_cells hN2.res
          have X0 := Lib.hid (two_set hN2.res (.slice none 0 0) (.slice none 0 0))
          have XB := Lib.hid ((hN2.bl.setCell (p := ⟨w.heap.size, 0, none⟩) (Nat.le_refl _) (.slice none 0 0)).setCell (p := ⟨w.heap.size, 1, none⟩) (Nat.le_refl _) (.slice none 0 0))
          clear hN2 hn2 h0
          go_wp2_with fail
          have X1 := X0.out
          have X2 := XB.out
          generalize (w2.setCell ⟨w.heap.size, 0, none⟩ (.slice none 0 0)).setCell ⟨w.heap.size, 1, none⟩ (.slice none 0 0) = w9 at X1 X2 ⊢
          obtain ⟨y0, y1, _, _⟩ := two_cells X1
          exact bodyPost_ret (v := .tuple #[.agg #[.slice none 0 0, .slice none 0 0], .int .i64 k, .int .i64 n2]) (by simp [results, Tryz.f7, go_sem, y0, y1]) rfl ⟨X2, .inr (.inl ⟨HL.out, k, HHL.out, HG.out, by rw [HEQ.out]; exact H0.out, by rw [HEQ.out]⟩)⟩
      · obtain rfl : k = l.length := by omega
        have hlz : ¬ (l.length : Int) < l.length := by omega
        rw [List.take_length] at hN
        obtain ⟨pn, cn, rfl⟩ := lenOf hN.on
        obtain ⟨pg, cg, rfl⟩ := lenOf hN.og
        rw [show Value.slice pg (l.map nm).length cg = Value.slice pg l.length cg by rw [List.length_map]] at hN
        obtain ⟨nv, hnv⟩ : ∃ nv, (Value.slice pn l.length cn) = nv := ⟨_, rfl⟩
        obtain ⟨gv, hgv⟩ : ∃ gv, (Value.slice pg l.length cg) = gv := ⟨_, rfl⟩
        rw [hnv, hgv] at hN
        obtain ⟨q0, q1, g0, g1⟩ := two_cells hN.res
        obtain ⟨p0, p1, _, _⟩ := two_cells hN.box
        have X0 := Lib.hid (two_set hN.res nv gv)
        have XB := Lib.hid ((hN.bl.setCell (p := ⟨w.heap.size, 0, none⟩) (Nat.le_refl _) nv).setCell (p := ⟨w.heap.size, 1, none⟩) (Nat.le_refl _) gv)
        have st : ∀ {v : Value} {xs : List ByteArray}, wr.ownsRow (w.heap.size + 3) 9 1 v xs.length (textsV xs) → ((wr.setCell ⟨w.heap.size, 0, none⟩ nv).setCell ⟨w.heap.size, 1, none⟩ gv).ownsRow (w.heap.size + 3) 9 1 v xs.length (textsV xs) := fun h => own_stays h fun c e => (Below.heap_setCell _ _ _ _ (by have := (own_base h e).1; simp; omega)).trans (Below.heap_setCell _ _ _ _ (by have := (own_base h e).1; simp; omega))
        have HA := Lib.hid (RdT.own (st hN.on) rfl)
        have HF1 := Lib.hid (show ∀ c, nv.ownBlock = some c → w.heap.size ≤ c from fun c e => by have := (own_base hN.on e).1; omega)
        have HF2 := Lib.hid (show ∀ c, gv.ownBlock = some c → w.heap.size ≤ c from fun c e => by have := (own_base hN.og e).1; omega)
        have HBB := Lib.hid (RdT.own (st hN.og) rfl)
        clear hN hG hlt z0 z1 f0 f1 st
        subst hnv hgv
        go_wp2_with fail
        have X1 := X0.out
        have X2 := XB.out
        have X3 := HA.out
        have X4 := HBB.out
        generalize (wr.setCell ⟨w.heap.size, 0, none⟩ (.slice pn l.length cn)).setCell ⟨w.heap.size, 1, none⟩ (.slice pg l.length cg) = w9 at X1 X2 X3 X4 ⊢
        obtain ⟨y0, y1, _, _⟩ := two_cells X1
        exact bodyPost_ret (v := .tuple #[.agg #[.slice pn l.length cn, .slice pg l.length cg], .int .i64 0, .int .i64 0]) (by simp [results, Tryz.f7, go_sem, y0, y1]) rfl ⟨X2, .inr (.inr ⟨HL.out, HG.out, _, ⟨_, _, rfl, X3, X4⟩, ⟨_, _, rfl, HF1.out, HF2.out⟩, rfl⟩)⟩
end
section
open Go.RowKit Go.Maps Go.Sort
set_option linter.unusedVariables false

def cmpN (l : List ByteArray) (x y : Nat) : Int := compare (l.getD x ByteArray.empty) (l.getD y ByteArray.empty)
def ins (s : List Nat) (k i : Nat) : List Nat := s.take k ++ i :: s.drop k
theorem ins_len (s : List Nat) (k i : Nat) : (ins s k i).length = s.length + 1 := by
  unfold ins
  simp only [List.length_append, List.length_cons, List.length_take, List.length_drop]
  omega
theorem ins_all (s : List Nat) (i : Nat) : ins s s.length i = s ++ [i] := by simp [ins]
theorem ins_split {s : List Nat} {k : Nat} (hk : k < s.length) (i : Nat) : ∃ a b, s = a ++ s[k] :: b ∧ a.length = k ∧ ins s (k + 1) i = a ++ s[k] :: i :: b ∧ ins s k i = a ++ i :: s[k] :: b := by
  refine ⟨s.take k, s.drop (k + 1), ?_, by simp; omega, ?_, ?_⟩
  · have := List.take_append_drop k s
    rw [List.drop_eq_getElem_cons hk] at this
    exact this.symm
  · unfold ins
    rw [List.take_succ_eq_append_getElem hk, List.append_assoc]
    rfl
  · unfold ins
    rw [List.drop_eq_getElem_cons hk]
theorem ins_at {s : List Nat} {k : Nat} (hk : k ≤ s.length) (i : Nat) : (ins s k i)[k]? = some i := by
  have hl : (s.take k).length = k := by simp; omega
  unfold ins
  rw [List.getElem?_append_right (by omega), hl]
  simp
theorem ins_ahead {s : List Nat} {k : Nat} (hk : k < s.length) (i : Nat) : (ins s (k + 1) i)[k]? = some s[k] := by
  obtain ⟨a, b, hs, ha, h1, _⟩ := ins_split hk i
  rw [h1, List.getElem?_append_right (by omega), ha]
  simp
theorem ins_swap {s : List Nat} {k : Nat} (hk : k < s.length) (i : Nat) : ((numsV (ins s (k + 1) i)).set k (.int .i64 i)).set (k + 1) (.int .i64 (s[k] : Nat)) = numsV (ins s k i) := by
  obtain ⟨a, b, hs, ha, h1, h2⟩ := ins_split hk i
  rw [h1, h2]
  rw [numsV_app, numsV_app]
  have hl : (numsV a).length = k := by rw [numsV_len, ha]
  rw [List.set_append_right _ _ (by omega), hl, Nat.sub_self, List.set_append_right _ _ (by omega), hl, show k + 1 - k = 1 by omega]
  rfl
/-- A list of the numbers below i in order. -/
structure Sd (l : List ByteArray) (i : Nat) (s : List Nat) : Prop where
  perm : s.Perm (List.range i)
  ord : s.Pairwise fun x y => cmpN l x y ≤ 0
theorem Sd.len {l : List ByteArray} {i : Nat} {s : List Nat} (h : Sd l i s) : s.length = i := by simpa using h.perm.length_eq
theorem Sd.lt {l : List ByteArray} {i : Nat} {s : List Nat} (h : Sd l i s) {x : Nat} (hx : x ∈ s) : x < i := by simpa using h.perm.mem_iff.1 hx
theorem Sd.more {l : List ByteArray} {i k : Nat} {s : List Nat} (h : Sd l i s) (hk : k ≤ s.length) (hi : ∀ y ∈ s.drop k, 0 < cmpN l y i) (h0 : ∀ j, k = j + 1 → ∀ x, s[j]? = some x → ¬ 0 < cmpN l x i) : Sd l (i + 1) (ins s k i) := by
  have hsp := List.take_append_drop k s
  refine ⟨?_, ?_⟩
  · rw [List.range_succ]
    unfold ins
    refine List.perm_middle.trans ?_
    rw [hsp]
    exact (List.Perm.cons _ h.perm).trans (List.perm_append_comm (l₁ := [i]))
  · have ho := h.ord
    rw [← hsp, List.pairwise_append] at ho
    obtain ⟨o1, o2, o3⟩ := ho
    unfold ins
    rw [List.pairwise_append]
    refine ⟨o1, List.pairwise_cons.2 ⟨fun y hy => ?_, o2⟩, fun x hx y hy => ?_⟩
    · have := hi y hy
      unfold cmpN at *
      have := compare_ord.anti (l.getD y ByteArray.empty) (l.getD i ByteArray.empty)
      omega
    · rcases List.mem_cons.1 hy with rfl | hy
      · cases k with
        | zero => simp at hx
        | succ j =>
          have hj : j < s.length := by omega
          have hx0 := h0 j rfl s[j] (List.getElem?_eq_getElem hj)
          rw [List.take_succ_eq_append_getElem hj] at o1 hx
          rcases List.mem_append.1 hx with hx | hx
          · have := (List.pairwise_append.1 o1).2.2 x hx s[j] (by simp)
            exact compare_ord.trans _ _ _ this (by unfold cmpN at hx0; omega)
          · obtain rfl := List.mem_singleton.1 hx
            omega
      · exact o3 x hx y hy
theorem Sd.srt {l : List ByteArray} {s : List Nat} (hD : ∀ x y, x < l.length → y < l.length → cmpN l x y = 0 → x = y) (h : Sd l l.length s) : s = srt l := by
  refine List.Perm.eq_of_pairwise (le := fun x y => cmpN l x y ≤ 0) (fun a b ha hb h1 h2 => ?_) h.ord ?_ (h.perm.trans (srt_perm l).symm)
  · refine hD a b (h.lt ha) (srt_lt hb) ?_
    have := compare_ord.anti (l.getD a ByteArray.empty) (l.getD b ByteArray.empty)
    unfold cmpN at *
    omega
  · unfold Go.Proofs.YtoeknophfcfahaaGreatDoor.srt
    rw [List.pairwise_map]
    refine (srtF_le l).imp fun {x y} hxy => ?_
    have h1 : ¬ compare l[y.val] l[x.val] < 0 := hxy
    have h2 := compare_ord.anti l[y.val] l[x.val]
    unfold cmpN
    rw [getD_get x.2, getD_get y.2]
    omega
theorem good_diff {l : List ByteArray} (hG : GoodTo l l.length) : ∀ x y, x < l.length → y < l.length → cmpN l x y = 0 → x = y := fun x y hx hy h => by
  unfold cmpN at h
  rw [getD_get hx, getD_get hy] at h
  exact hG.inj hx hy hx hy (by rw [compare_zero h])

set_option maxRecDepth 100000 in
set_option maxHeartbeats 1500000 in
theorem sorted_ref (l : List ByteArray) (tv : Value) (w : World) (h : DT w tv l) (hG : GoodTo l l.length) (hl : l.length ≤ 1000) : Calls Tryz.prog 12 #[tv] w (NewI (srt l) w) := by
  obtain ⟨nv, gv, rfl, hn, hg⟩ := h
  obtain ⟨pa, cap, rfl, h1, h2⟩ := hn.form
  obtain ⟨i0, hi, hz0, hz1, hz2⟩ := info_parts infoI
  have X := World.alloc_heap_new w (.cells #[.slice pa l.length cap, gv] 29)
  have HN := Lib.hid hn
  have HG := Lib.hid hG
  have HL := Lib.hid hl
  have HX := Lib.hid X
  clear hn hg h1 h2 hG X
  go_enter Tryz.func12, Tryz.ntmps12
  obtain ⟨W0, hW0⟩ : ∃ W0, w.alloc (.cells #[.slice pa l.length cap, gv] 29) = W0 := ⟨_, rfl⟩
  have HW0 := Lib.hid hW0
  obtain ⟨z0, z1, f0, f1⟩ := two_cells HX.out
  have HB0 := Lib.hid (show Below w.heap.size w W0 by rw [← hW0]; exact (Below.refl _ _).alloc (Nat.le_refl _) _)
  have HS0 := Lib.hid (show W0.heap.size = w.heap.size + 1 by rw [← hW0]; simp)
  have Z0 := Lib.hid (show W0.cell? ⟨w.heap.size, 0, none⟩ = some (.slice pa l.length cap) by rw [← hW0]; exact z0)
  clear hW0
  go_wp2_with fail
  go_loopw [3, 9] (fun o i wr => ∃ (k : Nat) (s : List Nat), i = .int .i64 k ∧ k ≤ l.length ∧ Hid (Sd l k s) ∧ Hid (wr.ownsRow (w.heap.size + 1) 3 1 o k (numsV s)) ∧ Hid (Below (w.heap.size + 1) W0 wr)) (fun _ i _ => l.length - (intOf i).toNat)
  case atStart => exact ⟨0, [], rfl, Nat.zero_le _, Lib.hid ⟨List.Perm.refl _, List.Pairwise.nil⟩, Lib.hid (World.ownsRow_nil _ _ _ _), Lib.hid (by rw [← HW0.out]; exact Below.refl _ _)⟩
  case round =>
    obtain ⟨k, s, rfl, hk, HS, HO, HB⟩ := hrel
    clear z0 z1 f0 f1
    by_cases hlt : k < l.length
    · have hk1 : (k : Int) < l.length := by omega
      have HLT := Lib.hid hlt
      have HSL := Lib.hid HS.out.len
      obtain ⟨pv, cv, rfl⟩ := lenOf HO.out
      have HOA := Lib.hid (HO.out.alloc (.cells #[.int .i64 k] 3))
      have M1 := Lib.hid (show k + 1 ≤ maxLen by unfold maxLen; omega)
      have M2 := Lib.hid (show (k + 1) * 8 ≤ 140737488355328 by omega)
      have M3 := Lib.hid (show w.heap.size + 1 ≤ (wr.alloc (.cells #[.int .i64 k] 3)).heap.size by have := HB.out.size; have := HS0.out; simp; omega)
      clear hlt
      go_wp2_with (at_builtin; go_loud (refine wpList_append_lies _ rfl _ _ 36 rfl (w.heap.size + 1) 3 i0 (.int .i64 0) 1 8 Tryz.underlying36 hi hz0 hz1 hz2 rfl (by decide) _ k (numsV s) rfl HOA.out ⟨wr.heap.size, 0, none⟩ 1 1 [.int .i64 k] rfl rfl (cells_new _ _ _) (numsV_one [k]) (by decide) M1.out M2.out M3.out _ rfl ?_); intro g c3 w3 hown3 hgrow3 hat3 hlt3; have HO3 := Lib.hid hown3; have HB3 := Lib.hid ((HB.out.alloc (by have := HB.out.size; have := HS0.out; omega) (.cells #[.int .i64 k] 3)).grown hgrow3 M3.out (fun r e => (own_base HO.out e).1)); clear hown3 hgrow3 hat3 hlt3)
      have v0 : IntKind.i64.wrap (((k + 1 : Nat) : Int) - 1) = (k : Int) := by rw [IntWalk.i64_in _ (by omega)]; omega
      go_wp2_with fail
      go_loopw [5] (fun q wq => ∃ m : Nat, q = .int .i64 m ∧ m ≤ k ∧ Hid (∀ y ∈ s.drop m, 0 < cmpN l y k) ∧ Hid (wq.ownsRow (w.heap.size + 1) 3 1 (.slice (some ⟨g, 0, none⟩) (k + 1) c3) (k + 1) (numsV (ins s m k))) ∧ Hid (Below (w.heap.size + 1) W0 wq)) (fun q _ => (intOf q).toNat)
      case atStart => exact ⟨k, rfl, Nat.le_refl _, Lib.hid (by rw [List.drop_eq_nil_of_le (by rw [HSL.out]; exact Nat.le_refl _)]; intro y hy; cases hy), Lib.hid (by have := HO3.out; rw [show ins s k k = s ++ [k] by have := ins_all s k; rw [HSL.out] at this; exact this, numsV_app]; exact this), HB3⟩
      case round =>
        obtain ⟨m, rfl, hm, HD, HOQ, HBQ⟩ := hrel
        have mixed : Tryz.prog.follows .mixedOrders = true := by kernel_rfl
        by_cases hm0 : m = 0
        · have HGD := Lib.hid (show decide (0 < m) = false by simp; omega)
          have HSD := Lib.hid (HS.out.more (k := m) (by omega) HD.out (fun j hj => absurd hj (by omega)))
          clear hm0
          go_wp2_with fail
          refine wp_region_quiet_below mixed (by kernel_rfl) ?_
          quiet_step (fail)
          quiet_step (fail)
          quiet_step (fail)
          rw [HGD.out]
          repeat go_big_quiet_skip
          repeat (quiet_step (fail))
          refine wpQuiet_nil ?_
          intro _ hw'
          obtain ⟨⟨dq, osq⟩, hw''⟩ := hw'
          subst hw''
          obtain ⟨w6, hw6⟩ : ∃ w6, grow (redrawn wr dq) osq = w6 := ⟨_, rfl⟩
          have hb6 : Below wr.heap.size wr w6 := by rw [← hw6]; exact below_regrown wr dq osq
          rw [hw6]
          have HO6 := Lib.hid (own_below HOQ.out hb6)
          have HB6 := Lib.hid (HBQ.out.trans (hb6.mono (by have := HBQ.out.size; have := HS0.out; omega)))
          clear hb6 hw6
          go_wp2_with fail
          go_roundw
          case measure => simp [intOf]; omega
          case rel => exact ⟨k + 1, ins s m k, by go_num, HLT.out, HSD, HO6, HB6⟩
        · obtain ⟨q, hq⟩ : ∃ q, m = q + 1 := ⟨m - 1, by omega⟩
          have hmz : (0 : Int) < m := by omega
          have hqs : q < s.length := by rw [HSL.out]; omega
          obtain ⟨x, hx⟩ : ∃ x, s[q] = x := ⟨_, rfl⟩
          have hxl : x < l.length := by have := HS.out.lt (List.getElem_mem hqs); rw [hx] at this; omega
          have r1 := HOQ.out.cellAt q (by omega)
          have r2 := HOQ.out.cellAt m (by omega)
          rw [show (numsV (ins s m k))[q]? = some (.int .i64 (x : Nat)) by rw [hq]; unfold numsV; rw [List.getElem?_map, ins_ahead hqs, hx]; rfl] at r1
          rw [show (numsV (ins s m k))[m]? = some (.int .i64 (k : Nat)) by unfold numsV; rw [List.getElem?_map, ins_at (by rw [HSL.out]; exact hm)]; rfl] at r2
          have f1 := HOQ.out.frozenAt q
          have f2 := HOQ.out.frozenAt m
          have z0 : wr.cell? ⟨w.heap.size, 0, none⟩ = some (.slice pa l.length cap) := (HBQ.out.cell (p := ⟨w.heap.size, 0, none⟩) (Nat.lt_succ_self _)).trans Z0.out
          have hRN := HN.out.below (HB0.out.trans (HBQ.out.mono (by omega)))
          obtain ⟨b, off, e, n1⟩ := hRN.cell hxl
          subst e
          obtain ⟨b2, off2, e, n2⟩ := hRN.cell HLT.out
          cases e
          obtain ⟨a1, ha1⟩ : ∃ a1, l[x] = a1 := ⟨_, rfl⟩
          obtain ⟨a2, ha2⟩ : ∃ a2, l.getD k ByteArray.empty = a2 := ⟨_, rfl⟩
          rw [ha1] at n1
          replace n2 : wr.cell? ⟨b, off + k, none⟩ = some (.string a2) := by rw [n2, ← ha2, getD_get HLT.out]
          have HC := Lib.hid (show cmpN l x k = compare a1 a2 by unfold cmpN; rw [getD_get hxl, ha2, ha1])
          have s1 : a1.size ≤ 64 := by rw [← ha1]; exact HG.out.size hxl hxl
          have s2 : a2.size ≤ 64 := by rw [← ha2, getD_get HLT.out]; exact HG.out.size HLT.out HLT.out
          have kr1 := cell_regrown r1
          have kr2 := cell_regrown r2
          have kz := cell_regrown z0
          have kn1 := cell_regrown n1
          have kn2 := cell_regrown n2
          have cQ : ∀ d os, Calls Tryz.prog 35 #[.string a1, .string a2] (grow (redrawn wr d) os) fun e w'' => e = .returned (.int .i64 (compare a1 a2)) ∧ ∃ p : Regrown, w'' = grow (redrawn wr p.d) p.os :=
            fun d os => Calls.regrown_of (compare_ref a1 a2 _ (by omega) (by omega))
          have v1 : IntKind.i64.wrap ((m : Int) - 1) = (q : Int) := by rw [IntWalk.i64_in _ (by omega)]; omega
          have i1 : (q : Int) < (k : Int) + 1 := by omega
          have i2 : (m : Int) < (k : Int) + 1 := by omega
          have i3 : (x : Int) < l.length := by omega
          obtain ⟨c, hc⟩ : ∃ c, compare a1 a2 = c := ⟨_, rfl⟩
          rw [hc] at HC cQ
          have HQ := Lib.hid hq
          have HQK := Lib.hid (show q ≤ k by omega)
          have HQS := Lib.hid hqs
          have HXX := Lib.hid (show s[q]? = some x by rw [List.getElem?_eq_getElem hqs, hx])
          clear hq hqs hx hxl ha1 ha2 s1 s2 hc hRN r1 r2 z0 n1 n2 hm0
          by_cases hgt : 0 < c
          · have hgd : decide (0 < m) = true := by simp; omega
            have HGT := Lib.hid hgt
            have t1 := hgt
            go_wp2_with fail
            refine wp_region_quiet_below mixed (by kernel_rfl) ?_
            repeat (quiet_step (first | exact cQ _ _))
            refine wpQuiet_nil ?_
            intro _ hw'
            obtain ⟨⟨dq, osq⟩, hw''⟩ := hw'
            subst hw''
            obtain ⟨w6, hw6⟩ : ∃ w6, grow (redrawn wr dq) osq = w6 := ⟨_, rfl⟩
            have hb6 : Below wr.heap.size wr w6 := by rw [← hw6]; exact below_regrown wr dq osq
            rw [hw6]
            have hO6 := own_below HOQ.out hb6 
            have r1 := hO6.cellAt q (by omega)
            have r2 := hO6.cellAt m (by omega)
            have hqs : q < s.length := by rw [HSL.out]; have := HQ.out; omega
            have ne1 : ¬ q = m := by have := HQ.out; omega
            have ne2 : ¬ m = q := by have := HQ.out; omega
            have hx : s[q] = x := by have := HXX.out; rw [List.getElem?_eq_getElem hqs] at this; simpa using this
            rw [show (numsV (ins s m k))[q]? = some (.int .i64 (x : Nat)) by rw [HQ.out]; unfold numsV; rw [List.getElem?_map, ins_ahead hqs, hx]; rfl] at r1
            rw [show (numsV (ins s m k))[m]? = some (.int .i64 (k : Nat)) by unfold numsV; rw [List.getElem?_map, ins_at (by rw [HSL.out]; exact hm)]; rfl] at r2
            have f1 := hO6.frozenAt q
            have f2 := hO6.frozenAt m
            have HSW := Lib.hid (show (((w6.setCell ⟨g, q, none⟩ (.int .i64 k)).setCell ⟨g, m, none⟩ (.int .i64 x)).drew).ownsRow (w.heap.size + 1) 3 1 (.slice (some ⟨g, 0, none⟩) (k + 1) c3) (k + 1) (numsV (ins s q k)) by
              have h1 := (hO6.stored q (.int .i64 k)).1
              have h2 := (h1.stored m (.int .i64 x)).1
              have e := ins_swap hqs k
              rw [← HQ.out, hx] at e
              rw [e] at h2
              exact h2)
            have hgb : w.heap.size + 1 ≤ g := (own_base hO6 rfl).1
            have HBW := Lib.hid (show Below (w.heap.size + 1) W0 (((w6.setCell ⟨g, q, none⟩ (.int .i64 k)).setCell ⟨g, m, none⟩ (.int .i64 x)).drew) from
              (((HBQ.out.trans (hb6.mono (by have := HBQ.out.size; have := HS0.out; omega))).setCell (p := ⟨g, q, none⟩) hgb _).setCell (p := ⟨g, m, none⟩) hgb _).drew)
            have HDD := Lib.hid (show ∀ y ∈ s.drop q, 0 < cmpN l y k by
              rw [List.drop_eq_getElem_cons hqs, hx, ← HQ.out]
              intro y hy
              rcases List.mem_cons.1 hy with rfl | hy
              · rw [HC.out]; exact hgt
              · exact HD.out y hy)
            clear kr1 kr2 kz kn1 kn2 cQ hqs hgb hO6 hb6 hw6 hx
            go_wp2_with fail
            go_region
            all_goals go_wp2_with fail
            all_goals go_roundw
            case measure => have := HQ.out; simp [intOf]; omega
            case rel => exact ⟨q, rfl, HQK.out, HDD, HSW, HBW⟩
          · have hgd : decide (0 < m) = true := by simp; omega
            have HGT := Lib.hid hgt
            go_wp2_with fail
            refine wp_region_quiet_below mixed (by kernel_rfl) ?_
            repeat (quiet_step (first | exact cQ _ _))
            refine wpQuiet_nil ?_
            intro _ hw'
            obtain ⟨⟨dq, osq⟩, hw''⟩ := hw'
            subst hw''
            obtain ⟨w6, hw6⟩ : ∃ w6, grow (redrawn wr dq) osq = w6 := ⟨_, rfl⟩
            have hb6 : Below wr.heap.size wr w6 := by rw [← hw6]; exact below_regrown wr dq osq
            rw [hw6]
            have HO6 := Lib.hid (own_below HOQ.out hb6)
            have HB6 := Lib.hid (HBQ.out.trans (hb6.mono (by have := HBQ.out.size; have := HS0.out; omega)))
            have HSD := Lib.hid (HS.out.more (k := m) (by rw [HSL.out]; exact hm) HD.out (fun j hj y hy => by
              have hjq : j = q := by have := HQ.out; omega
              subst hjq
              have := HXX.out.symm.trans hy
              cases this
              rw [HC.out]
              have := HGT.out
              omega))
            clear kr1 kr2 kz kn1 kn2 cQ hb6 hw6
            go_wp2_with fail
            go_roundw
            case measure => simp [intOf]; omega
            case rel => exact ⟨k + 1, ins s m k, by go_num, HLT.out, HSD, HO6, HB6⟩
    · obtain rfl : k = l.length := by omega
      have hlz : ¬ (l.length : Int) < l.length := by omega
      obtain ⟨po, co, rfl⟩ := lenOf HO.out
      have HSR := Lib.hid (HS.out.srt (good_diff HG.out))
      clear hlt
      go_wp2_with fail
      go_ret
      refine ⟨_, rfl, ?_, HB0.out.trans (HB.out.mono (Nat.le_succ _))⟩
      rw [srt_len, ← HSR.out]
      exact HO.out.mono (Nat.le_succ _)
end
section
open Go.RowKit Go.Maps Go.Sort
set_option linter.unusedVariables false

theorem beginsB_le {s p : ByteArray} (h : ¬ p.size ≤ s.size) : beginsB s p = false := by
  unfold beginsB
  rw [← Lib.hasPrefix_raw]
  simp [h]
set_option maxRecDepth 100000 in
set_option maxHeartbeats 1000000 in
theorem begins_ref (s p : ByteArray) (w : World) (hs : s.size ≤ maxLen) (hp : p.size ≤ maxLen) : Calls Tryz.prog 42 #[.string s, .string p] w (Says (.bool (beginsB s p)) w) := by
  by_cases h : p.size ≤ s.size
  · obtain ⟨b, hb⟩ : ∃ b, beginsB s p = b := ⟨_, rfl⟩
    have t1 : ((s.extract 0 p.size).toList == p.toList) = b := by
      rw [← hb]
      unfold beginsB
      rw [← Lib.hasPrefix_raw]
      simp [h]
    have hz : (s.size : Int) ≥ p.size := by omega
    have hz1 : (p.size : Int) ≤ s.size := by omega
    rw [hb]
    clear hb
    go_enter Tryz.func42, Tryz.ntmps42
    go_wp2_with fail
    go_ret
    exact ⟨rfl, Below.refl _ _⟩
  · have hz : ¬ (s.size : Int) ≥ p.size := by omega
    have hz1 : ¬ (p.size : Int) ≤ s.size := by omega
    rw [beginsB_le h]
    go_enter Tryz.func42, Tryz.ntmps42
    go_wp2_with fail
    go_ret
    exact ⟨rfl, Below.refl _ _⟩

set_option maxRecDepth 100000 in
set_option maxHeartbeats 1000000 in
theorem find_ref (l : List ByteArray) (tv : Value) (s : ByteArray) (w : World) (h : DT w tv l) (hG : GoodTo l l.length) (hl : l.length ≤ 1000) : Calls Tryz.prog 14 #[tv, .string s] w (FindIs l s w) := by
  obtain ⟨nv, gv, rfl, hn, hg⟩ := h
  obtain ⟨pa, cap, rfl, h1, h2⟩ := hg.form
  obtain ⟨m, hm⟩ : ∃ m, (l.map nm).length = m := ⟨_, rfl⟩
  have hml : l.length = m := by rw [← hm]; simp
  have hmB : m ≤ 1000 := by omega
  rw [hm] at h1 ⊢
  obtain ⟨W0, hW0⟩ : ∃ W0, w.alloc (.cells #[nv, .slice pa m cap] 29) = W0 := ⟨_, rfl⟩
  have X := World.alloc_heap_new w (.cells #[nv, .slice pa m cap] 29)
  have HB0 := Lib.hid (show Below w.heap.size w W0 by rw [← hW0]; exact (Below.refl _ _).alloc (Nat.le_refl _) _)
  rw [hW0] at X
  have HW0 := Lib.hid hW0
  have HX := Lib.hid X
  have HR := Lib.hid (hg.below (HB0.out.mono (Nat.le_refl _)))
  rw [hm] at HR
  have HM := Lib.hid hml
  have HG := Lib.hid hG
  clear hn hg hG h1 h2 hm hml X hW0
  go_enter Tryz.func14, Tryz.ntmps14
  go_wp2_with fail
  rw [HW0.out]
  refine (norm_ref s _).mono ?_
  unfold NormIs
  rintro e w2 ⟨he, hb⟩
  obtain ⟨n1, hn1⟩ : ∃ n1, (nrm s).1 = n1 := ⟨_, rfl⟩
  obtain ⟨n2, hn2⟩ : ∃ n2, (nrm s).2 = n2 := ⟨_, rfl⟩
  rw [hn1, hn2] at he
  subst he
  have HS0 := Lib.hid (show W0.heap.size = w.heap.size + 1 by rw [← HW0.out]; simp)
  have HB2 := Lib.hid (show Below (w.heap.size + 1) W0 w2 by rw [← HS0.out]; exact hb)
  have HN1 := Lib.hid (show nm s = n1 from hn1)
  have HN2 := Lib.hid hn2
  clear hn1 hn2 hb
  have z1 := (two_cells (show w2.heap[w.heap.size]? = _ from (HB2.out.block _ (Nat.lt_succ_self _)).trans HX.out)).2.1
  by_cases h0 : n2 = 0
  · subst h0
    go_wp2_with fail
    clear z1
    go_loopw [17] (fun i wr => ∃ k : Nat, i = .int .i64 k ∧ k ≤ m ∧ Hid (∀ j, j < k → ∀ hj : j < l.length, nm l[j] ≠ n1) ∧ Hid (Below (w.heap.size + 1) W0 wr)) (fun i _ => m - (intOf i).toNat)
    case atStart => exact ⟨0, rfl, Nat.zero_le _, Lib.hid (fun j hj => absurd hj (Nat.not_lt_zero _)), HB2⟩
    case round =>
      obtain ⟨k, rfl, hk, HP, HB⟩ := hrel
      have z1 := (two_cells (show wr.heap[w.heap.size]? = _ from (HB.out.block _ (Nat.lt_succ_self _)).trans HX.out)).2.1
      by_cases hlt : k < m
      · have hkl : k < l.length := by rw [HM.out]; exact hlt
        have hkm : k < (l.map nm).length := by simpa using hkl
        obtain ⟨b, off, e, c1⟩ := (HR.out.below' (HB.out) (by rw [HS0.out]; exact Nat.le_refl _)).cell hkm
        subst e
        obtain ⟨y, hy⟩ : ∃ y, nm l[k] = y := ⟨_, rfl⟩
        rw [show (l.map nm)[k] = y by simp [hy]] at c1
        have HY := Lib.hid (show ∀ h : k < l.length, nm l[k] = y from fun _ => hy)
        have hk1 : (k : Int) < m := by omega
        have HLT := Lib.hid hlt
        have HKL := Lib.hid hkl
        clear hy hlt hkl hkm
        by_cases hyx : y = n1
        · have t1 : (y.toList == n1.toList) = true := by rw [hyx]; simp
          have HE := Lib.hid (findN_some HG.out HN2.out HKL.out (by rw [HY.out HKL.out, hyx, HN1.out]))
          go_wp2_with fail
          go_ret2
          refine ⟨?_, HB0.out.trans (HB.out.mono (Nat.le_succ _))⟩
          rw [HE.out]
          rfl
        · have t1 : (y.toList == n1.toList) = false := by
            rw [beq_eq_false_iff_ne]
            intro e
            rw [ByteArray.toList_eq, ByteArray.toList_eq] at e
            apply hyx
            cases n1; cases y
            simpa using e
          have HNE := Lib.hid hyx
          clear hyx
          go_wp2_with fail
          go_roundw
          case measure => have := HLT.out; simp [intOf]; omega
          case rel =>
            refine ⟨k + 1, by go_num, HLT.out, Lib.hid (fun j hj hjl => ?_), HB⟩
            by_cases e : j = k
            · subst e
              rw [HY.out HKL.out]
              exact HNE.out
            · exact HP.out j (by omega) hjl
      · obtain rfl : k = m := by omega
        have hlz : ¬ ((k : Int) < k) := by omega
        have HE := Lib.hid (findN_none (l := l) (s := s) (by
          rw [HN1.out]
          intro h
          obtain ⟨x, hx, e⟩ := List.mem_map.1 h
          obtain ⟨j, hj, rfl⟩ := List.mem_iff_getElem.1 hx
          exact HP.out j (by rw [← HM.out]; exact hj) hj e))
        clear hlt
        go_wp2_with fail
        go_ret2
        refine ⟨?_, HB0.out.trans (HB.out.mono (Nat.le_succ _))⟩
        rw [HE.out]
        rfl
  · have t2 : (n2 == 0) = false := by simpa using h0
    have HE := Lib.hid (findN_err (l := l) (s := s) (by rw [HN2.out]; exact h0))
    go_wp2_with fail
    clear z1
    go_loopw [17] (fun i wr => ∃ k : Nat, i = .int .i64 k ∧ k ≤ m ∧ Hid (Below (w.heap.size + 1) W0 wr)) (fun i _ => m - (intOf i).toNat)
    case atStart => exact ⟨0, rfl, Nat.zero_le _, HB2⟩
    case round =>
      obtain ⟨k, rfl, hk, HB⟩ := hrel
      by_cases hlt : k < m
      · have hk1 : (k : Int) < m := by omega
        have HLT := Lib.hid hlt
        clear hlt
        go_wp2_with fail
        go_roundw
        case measure => have := HLT.out; simp [intOf]; omega
        case rel => exact ⟨k + 1, by go_num, HLT.out, HB⟩
      · obtain rfl : k = m := by omega
        have hlz : ¬ ((k : Int) < k) := by omega
        clear hlt
        go_wp2_with fail
        go_ret2
        refine ⟨?_, HB0.out.trans (HB.out.mono (Nat.le_succ _))⟩
        rw [HE.out]
        rfl

theorem fltP_snoc' (ns : List ByteArray) (f : ByteArray) (l : List Nat) {k : Nat} (hk : k < l.length) : fltP ns f (l.take (k + 1)) = if beginsB (nm (ns.getD l[k] ByteArray.empty)) f then fltP ns f (l.take k) ++ [l[k]] else fltP ns f (l.take k) := by
  rw [List.take_succ_eq_append_getElem hk, fltP_snoc]
set_option maxRecDepth 100000 in
set_option maxHeartbeats 1500000 in
theorem prefix_ref (l : List ByteArray) (tv : Value) (s : ByteArray) (w : World) (h : DT w tv l) (hG : GoodTo l l.length) (hl : l.length ≤ 1000) (hs : s.size ≤ 16777216) : Calls Tryz.prog 16 #[tv, .string s] w (NewI (prefixN l s) w) := by
  have HDT := Lib.hid h
  obtain ⟨nv, gv, rfl, hn, hg⟩ := h
  obtain ⟨pn, cn, rfl, _, _⟩ := hn.form
  obtain ⟨pa, cap, rfl, h1, h2⟩ := hg.form
  rw [List.length_map] at HDT h1 ⊢
  obtain ⟨W0, hW0⟩ : ∃ W0, w.alloc (.cells #[.slice pn l.length cn, .slice pa l.length cap] 29) = W0 := ⟨_, rfl⟩
  have X := World.alloc_heap_new w (.cells #[.slice pn l.length cn, .slice pa l.length cap] 29)
  have HB0 := Lib.hid (show Below w.heap.size w W0 by rw [← hW0]; exact (Below.refl _ _).alloc (Nat.le_refl _) _)
  have HS0 := Lib.hid (show W0.heap.size = w.heap.size + 1 by rw [← hW0]; simp)
  rw [hW0] at X
  have HW0 := Lib.hid hW0
  have HX := Lib.hid X
  have HR := Lib.hid (hg.below (HB0.out.mono (Nat.le_refl _)))
  rw [List.length_map] at HR
  have HN := Lib.hid (hn.below (HB0.out.mono (Nat.le_refl _)))
  have HG := Lib.hid hG
  have HS := Lib.hid hs
  obtain ⟨i0, hi, hz0, hz1, hz2⟩ := info_parts infoI
  obtain ⟨pl, hpl⟩ : ∃ pl, plainB s = pl := ⟨_, rfl⟩
  obtain ⟨f, hf⟩ : ∃ f, fold s = f := ⟨_, rfl⟩
  have HP := Lib.hid (show ((chars s).find? unplain).isNone = pl from hpl)
  have HF := Lib.hid hf
  have HPN := Lib.hid (show prefixN l s = if pl then fltP l f (srt l) else [] by unfold prefixN; rw [hpl, hf])
  have HFS := Lib.hid (show f.size ≤ maxLen by rw [← hf]; have := fold_size s; unfold maxLen; omega)
  clear hn hg hG h1 h2 X hW0 hpl hf
  go_enter Tryz.func16, Tryz.ntmps16
  go_wp2_with fail
  rw [HW0.out]
  refine (plain_ref s _ HS.out).mono ?_
  rintro e w1 ⟨he, hb1⟩
  rw [HP.out] at he
  subst he
  have HB1 := Lib.hid (show Below (w.heap.size + 1) W0 w1 by rw [← HS0.out]; exact hb1)
  clear hb1
  cases pl with
  | false =>
    go_wp2_with fail
    go_ret
    refine ⟨_, rfl, ?_, HB0.out.trans (HB1.out.mono (Nat.le_succ _))⟩
    rw [HPN.out]
    exact World.ownsRow_nil _ _ _ _
  | true =>
    go_wp2_with fail
    refine (fold_ref s _ HS.out).mono ?_
    rw [HF.out]
    rintro e w2 ⟨rfl, hb2⟩
    have HB2 := Lib.hid (HB1.out.trans (hb2.mono (by have := HB1.out.size; have := HS0.out; omega)))
    obtain ⟨z0, z1, _, _⟩ := two_cells (show w2.heap[w.heap.size]? = _ from (HB2.out.block _ (Nat.lt_succ_self _)).trans HX.out)
    clear hb2
    go_wp2_with fail
    refine (sorted_ref l _ w2 ⟨_, _, rfl, HN.out.below' HB2.out (by rw [HS0.out]; exact Nat.le_refl _), by have := HR.out.below' HB2.out (by rw [HS0.out]; exact Nat.le_refl _); exact this⟩ HG.out hl).mono ?_
    rintro e w3 ⟨sv, rfl, hown, hb3⟩
    obtain ⟨pS, cS, rfl⟩ := lenOf hown
    have HB3 := Lib.hid (HB2.out.trans (hb3.mono (by have := HB2.out.size; have := HS0.out; omega)))
    have HRI := Lib.hid (RdI.own hown rfl)
    have HB23 := Lib.hid (show w.heap.size + 1 ≤ w2.heap.size by have := HB2.out.size; have := HS0.out; omega)
    have HLN := Lib.hid (srt_len l)
    obtain ⟨zs, hzs⟩ : ∃ zs, srt l = zs := ⟨_, rfl⟩
    have HLT2 := Lib.hid (show ∀ i ∈ zs, i < l.length by rw [← hzs]; exact fun i h => srt_lt h)
    rw [hzs] at HRI HLN HPN ⊢
    have hZL : zs.length ≤ 1000 := by rw [HLN.out]; exact hl
    clear hb3 hown hzs z0 z1
    go_wp2_with fail
    go_loopw [8, 23] (fun o i wr => ∃ k : Nat, i = .int .i64 k ∧ k ≤ zs.length ∧ Hid (wr.ownsRow w3.heap.size 3 1 o (fltP l f (zs.take k)).length (numsV (fltP l f (zs.take k)))) ∧ Hid (Below w3.heap.size w3 wr)) (fun _ i _ => zs.length - (intOf i).toNat)
    case atStart => exact ⟨0, rfl, Nat.zero_le _, Lib.hid (World.ownsRow_nil _ _ _ _), Lib.hid (Below.refl _ _)⟩
    case round =>
      obtain ⟨k, rfl, hk, HO, HB⟩ := hrel
      have HBW := Lib.hid (HB3.out.trans (HB.out.mono (by have := HB3.out.size; have := HS0.out; omega)))
      obtain ⟨pv, cv, rfl⟩ := lenOf HO.out
      by_cases hlt : k < zs.length
      · obtain ⟨b, off, e, c1⟩ := (HRI.out.below HB.out).cell hlt
        subst e
        obtain ⟨x, hx⟩ : ∃ x, zs[k] = x := ⟨_, rfl⟩
        have hxl : x < l.length := HLT2.out x (by rw [← hx]; exact List.getElem_mem hlt)
        have hxm : x < (l.map nm).length := by simpa using hxl
        have hR2 := HR.out.below' HBW.out (by rw [HS0.out]; exact Nat.le_refl _)
        rw [show l.length = (l.map nm).length by simp] at hR2
        obtain ⟨b2, off2, e, c2⟩ := hR2.cell hxm
        subst e
        obtain ⟨y, hy⟩ : ∃ y, nm l[x] = y := ⟨_, rfl⟩
        rw [hx] at c1
        rw [show (l.map nm)[x] = y by simp [hy]] at c2
        obtain ⟨z0, z1, _, _⟩ := two_cells (show wr.heap[w.heap.size]? = _ from (HBW.out.block _ (Nat.lt_succ_self _)).trans HX.out)
        have HYS := Lib.hid (show y.size ≤ maxLen by rw [← hy]; have := nm_size l[x]; unfold maxLen; omega)
        have HSN := Lib.hid (fltP_snoc' l f zs hlt)
        rw [hx, getD_get hxl, hy] at HSN
        have hk1 : (k : Int) < zs.length := by omega
        have hx1 : (x : Int) < l.length := by omega
        have HLT := Lib.hid hlt
        have HFL := Lib.hid (show (fltP l f (zs.take k)).length ≤ 1000 by have := fltP_len l f (zs.take k); simp at this; omega)
        obtain ⟨acc, hacc⟩ : ∃ acc, fltP l f (zs.take k) = acc := ⟨_, rfl⟩
        rw [hacc] at HO HSN HFL ⊢
        obtain ⟨bb, hbb⟩ : ∃ bb, beginsB y f = bb := ⟨_, rfl⟩
        have HBE := Lib.hid (begins_ref y f · HYS.out HFS.out)
        rw [hbb] at HSN HBE
        clear hx hxl hxm hR2 hy hlt hacc hbb
        go_wp2_with fail
        refine (HBE.out _).mono ?_
        rintro e w4 ⟨rfl, hb4⟩
        have HO4 := Lib.hid (own_below HO.out hb4)
        have HB4 := Lib.hid (HB.out.trans (hb4.mono HB.out.size))
        clear hb4 z0 z1 c1 c2
        cases bb with
        | false =>
          go_wp2_with fail
          go_roundw
          case measure => have := HLT.out; simp [intOf]; omega
          case rel => exact ⟨k + 1, by go_num, HLT.out, Lib.hid (by rw [HSN.out]; exact HO4.out), HB4⟩
        | true =>
          have HOA := Lib.hid (HO4.out.alloc (.cells #[.int .i64 x] 3))
          have M1 := Lib.hid (show acc.length + 1 ≤ maxLen by have := HFL.out; unfold maxLen; omega)
          have M2 := Lib.hid (show (acc.length + 1) * 8 ≤ 140737488355328 by have := HFL.out; omega)
          have M3 := Lib.hid (show w3.heap.size ≤ (w4.alloc (.cells #[.int .i64 x] 3)).heap.size by have := HB4.out.size; simp; omega)
          go_wp2_with (at_builtin; go_loud (refine wpList_append_lies _ rfl _ _ 36 rfl w3.heap.size 3 i0 (.int .i64 0) 1 8 Tryz.underlying36 hi hz0 hz1 hz2 rfl (by decide) _ acc.length (numsV acc) rfl HOA.out ⟨w4.heap.size, 0, none⟩ 1 1 [.int .i64 x] rfl rfl (cells_new _ _ _) (numsV_one [x]) (by decide) M1.out M2.out M3.out _ rfl ?_); intro g c3 w5 hown3 hgrow3 hat3 hlt3; have HO5 := Lib.hid hown3; have HB5 := Lib.hid ((HB4.out.alloc HB4.out.size (.cells #[.int .i64 x] 3)).grown hgrow3 M3.out (fun r e => (own_base HO4.out e).1)); clear hown3 hgrow3 hat3 hlt3)
          go_roundw
          case measure => have := HLT.out; simp [intOf]; omega
          case rel => exact ⟨k + 1, by go_num, HLT.out, Lib.hid (by rw [HSN.out]; simp only [if_true, List.length_append, numsV_app]; exact HO5.out), HB5⟩
      · obtain rfl : k = zs.length := by omega
        have hlz : ¬ ((zs.length : Int) < zs.length) := by omega
        clear hlt
        go_wp2_with fail
        go_ret
        refine ⟨_, rfl, ?_, HB0.out.trans (HBW.out.mono (Nat.le_succ _))⟩
        have h9 := HO.out
        rw [HPN.out]
        rw [List.take_length] at h9
        exact h9.mono (by have := HB3.out.size; have := HS0.out; omega)
end
section
open Go.RowKit Go.Maps Go.Sort
set_option linter.unusedVariables false

def mn4 (ns : List ByteArray) (f : ByteArray) (l : List Nat) : Nat := l.foldl (fun m i => min m (dN ns f i)) 4
theorem mn4_snoc (ns : List ByteArray) (f : ByteArray) (l : List Nat) (i : Nat) : mn4 ns f (l ++ [i]) = min (mn4 ns f l) (dN ns f i) := by simp [mn4]
theorem fold_min (g : Nat → Nat) (c : Nat) (l : List Nat) : l.foldl (fun m i => min m (g i)) c ≤ c ∧ (∀ i ∈ l, l.foldl (fun m i => min m (g i)) c ≤ g i) ∧ (l.foldl (fun m i => min m (g i)) c = c ∨ ∃ i ∈ l, g i = l.foldl (fun m i => min m (g i)) c) := by
  refine snoc_ind (P := fun l => l.foldl (fun m i => min m (g i)) c ≤ c ∧ (∀ i ∈ l, l.foldl (fun m i => min m (g i)) c ≤ g i) ∧ (l.foldl (fun m i => min m (g i)) c = c ∨ ∃ i ∈ l, g i = l.foldl (fun m i => min m (g i)) c)) ⟨Nat.le_refl _, (fun i h => by cases h), .inl rfl⟩ (fun l x ih => ?_) l
  obtain ⟨h1, h2, h3⟩ := ih
  rw [List.foldl_append]
  simp only [List.foldl_cons, List.foldl_nil]
  generalize l.foldl (fun m i => min m (g i)) c = M at h1 h2 h3 ⊢
  refine ⟨by omega, fun i hi => ?_, ?_⟩
  · rcases List.mem_append.1 hi with hi | hi
    · have := h2 i hi; omega
    · obtain rfl := List.mem_singleton.1 hi; omega
  · by_cases e : M ≤ g x
    · rw [Nat.min_eq_left e]
      rcases h3 with h3 | ⟨i, hi, h3⟩
      · exact .inl h3
      · exact .inr ⟨i, by simp [hi], h3⟩
    · rw [Nat.min_eq_right (by omega)]
      exact .inr ⟨x, by simp, rfl⟩
theorem near_doc (ns : List ByteArray) (f : ByteArray) : (nearOf ns f (srt ns)).2 = (srt ns).filter fun i => decide (mn4 ns f (List.range ns.length) < 4) && dN ns f i == mn4 ns f (List.range ns.length) := by
  rw [near_spec]
  show (srt ns).filter _ = _
  refine List.filter_congr fun i hi => ?_
  have h4 := fold_min (dN ns f) 4 (List.range ns.length)
  have h3 := fold_min (dN ns f) 3 (srt ns)
  change mn4 ns f (List.range ns.length) ≤ 4 ∧ (∀ i ∈ List.range ns.length, mn4 ns f (List.range ns.length) ≤ dN ns f i) ∧ (mn4 ns f (List.range ns.length) = 4 ∨ ∃ i ∈ List.range ns.length, dN ns f i = mn4 ns f (List.range ns.length)) at h4
  change mnN ns f (srt ns) ≤ 3 ∧ (∀ i ∈ srt ns, mnN ns f (srt ns) ≤ dN ns f i) ∧ (mnN ns f (srt ns) = 3 ∨ ∃ i ∈ srt ns, dN ns f i = mnN ns f (srt ns)) at h3
  have hp : ∀ i, i ∈ srt ns ↔ i ∈ List.range ns.length := fun i => (srt_perm ns).mem_iff
  generalize mn4 ns f (List.range ns.length) = A at h4 ⊢
  generalize mnN ns f (srt ns) = B at h3 ⊢
  obtain ⟨a1, a2, a3⟩ := h4
  obtain ⟨b1, b2, b3⟩ := h3
  by_cases hA : A < 4
  · have hBA : B = A := by
      have e1 : A ≤ B := by
        rcases b3 with b3 | ⟨j, hj, b3⟩
        · omega
        · have := a2 j ((hp j).1 hj); omega
      have e2 : B ≤ A := by
        rcases a3 with a3 | ⟨j, hj, a3⟩
        · omega
        · have := b2 j ((hp j).2 hj); omega
      omega
    rw [hBA]
    simp [hA]
  · have h1 := a2 i ((hp i).1 hi)
    have e : (dN ns f i == B) = false := by
      rw [beq_eq_false_iff_ne]
      omega
    rw [e]
    simp [hA]
def fltD (ns : List ByteArray) (f : ByteArray) (M : Nat) (l : List Nat) : List Nat := l.filter fun i => decide (M < 4) && dN ns f i == M
theorem fltD_len (ns : List ByteArray) (f : ByteArray) (M : Nat) (l : List Nat) : (fltD ns f M l).length ≤ l.length := List.length_filter_le _ _
theorem fltD_snoc (ns : List ByteArray) (f : ByteArray) (M : Nat) (l : List Nat) {k : Nat} (hk : k < l.length) : fltD ns f M (l.take (k + 1)) = if decide (M < 4) && dN ns f l[k] == M then fltD ns f M (l.take k) ++ [l[k]] else fltD ns f M (l.take k) := by
  rw [List.take_succ_eq_append_getElem hk]
  unfold fltD
  rw [List.filter_append]
  by_cases h : (decide (M < 4) && dN ns f l[k] == M) = true
  · rw [if_pos h]; simp [h]
  · rw [if_neg h]; simp [h]
set_option maxRecDepth 100000 in
set_option maxHeartbeats 1500000 in
theorem near_ref (l : List ByteArray) (tv : Value) (s : ByteArray) (w : World) (h : DT w tv l) (hG : GoodTo l l.length) (hl : l.length ≤ 1000) : Calls Tryz.prog 18 #[tv, .string s] w (NewI (nearN l s) w) := by
  obtain ⟨nv, gv, rfl, hn, hg⟩ := h
  obtain ⟨pn, cn, rfl, _, _⟩ := hn.form
  obtain ⟨pa, cap, rfl, h1, h2⟩ := hg.form
  rw [List.length_map] at h1 ⊢
  obtain ⟨W0, hW0⟩ : ∃ W0, w.alloc (.cells #[.slice pn l.length cn, .slice pa l.length cap] 29) = W0 := ⟨_, rfl⟩
  have X := World.alloc_heap_new w (.cells #[.slice pn l.length cn, .slice pa l.length cap] 29)
  have HB0 := Lib.hid (show Below w.heap.size w W0 by rw [← hW0]; exact (Below.refl _ _).alloc (Nat.le_refl _) _)
  have HS0 := Lib.hid (show W0.heap.size = w.heap.size + 1 by rw [← hW0]; simp)
  rw [hW0] at X
  have HW0 := Lib.hid hW0
  have HX := Lib.hid X
  have HR := Lib.hid (hg.below (HB0.out.mono (Nat.le_refl _)))
  rw [List.length_map] at HR
  have HN := Lib.hid (hn.below (HB0.out.mono (Nat.le_refl _)))
  have HG := Lib.hid hG
  obtain ⟨i0, hi, hz0, hz1, hz2⟩ := info_parts infoI
  clear hn hg hG h1 h2 X hW0
  go_enter Tryz.func18, Tryz.ntmps18
  go_wp2_with fail
  rw [HW0.out]
  refine (norm_ref s _).mono ?_
  unfold NormIs
  rintro e w2 ⟨he, hb⟩
  obtain ⟨f, hf⟩ : ∃ f, (nrm s).1 = f := ⟨_, rfl⟩
  obtain ⟨n2, hn2⟩ : ∃ n2, (nrm s).2 = n2 := ⟨_, rfl⟩
  rw [hf, hn2] at he
  subst he
  have HPN := Lib.hid (show nearN l s = if n2 = 0 then (nearOf l f (srt l)).2 else [] by unfold nearN nm; rw [hn2, hf])
  have HFS := Lib.hid (show f.size ≤ 16777216 by rw [← hf]; have := nm_size s; unfold nm at this; omega)
  have HB2 := Lib.hid (show Below (w.heap.size + 1) W0 w2 by rw [← HS0.out]; exact hb)
  have z1 := (two_cells (show w2.heap[w.heap.size]? = _ from (HB2.out.block _ (Nat.lt_succ_self _)).trans HX.out)).2.1
  clear hb hf hn2
  by_cases h0 : n2 = 0
  · subst h0
    have HPD := Lib.hid (show nearN l s = fltD l f (mn4 l f (List.range l.length)) (srt l) by rw [HPN.out, if_pos rfl, near_doc]; rfl)
    go_wp2_with fail
    clear z1
    go_loopw [7, 22] (fun u i wr => ∃ k : Nat, i = .int .i64 k ∧ k ≤ l.length ∧ u = .int .i64 (mn4 l f (List.range k) : Nat) ∧ Hid (Below (w.heap.size + 1) W0 wr)) (fun _ i _ => l.length - (intOf i).toNat)
    case atStart => exact ⟨0, rfl, Nat.zero_le _, rfl, HB2⟩
    case round =>
      obtain ⟨k, rfl, hk, rfl, HB⟩ := hrel
      have z1 := (two_cells (show wr.heap[w.heap.size]? = _ from (HB.out.block _ (Nat.lt_succ_self _)).trans HX.out)).2.1
      by_cases hlt : k < l.length
      · have hkm : k < (l.map nm).length := by simpa using hlt
        have hR2 := HR.out.below' HB.out (by rw [HS0.out]; exact Nat.le_refl _)
        rw [show l.length = (l.map nm).length by simp] at hR2
        obtain ⟨b2, off2, e, c2⟩ := hR2.cell hkm
        subst e
        obtain ⟨y, hy⟩ : ∃ y, nm l[k] = y := ⟨_, rfl⟩
        rw [show (l.map nm)[k] = y by simp [hy]] at c2
        have HYS := Lib.hid (show y.size ≤ 16777216 by rw [← hy]; have := nm_size l[k]; omega)
        have HD := Lib.hid (show mn4 l f (List.range (k + 1)) = min (mn4 l f (List.range k)) (apartN y f) by rw [List.range_succ, mn4_snoc]; unfold dN; rw [getD_get hlt, hy])
        obtain ⟨M, hM⟩ : ∃ M, mn4 l f (List.range k) = M := ⟨_, rfl⟩
        rw [hM] at HD ⊢
        have hk1 : (k : Int) < l.length := by omega
        have HLT := Lib.hid hlt
        obtain ⟨d, hd⟩ : ∃ d, apartN y f = d := ⟨_, rfl⟩
        rw [hd] at HD
        have HAP := Lib.hid (apart_ref y f · HYS.out HFS.out)
        rw [hd] at HAP
        clear hkm hR2 hy hlt hM hd
        go_wp2_with fail
        refine (HAP.out _).mono ?_
        rintro e w4 ⟨rfl, hb4⟩
        have HB4 := Lib.hid (HB.out.trans (hb4.mono (by have := HB.out.size; have := HS0.out; omega)))
        clear hb4 z1 c2
        go_wp2_with fail
        go_roundw
        case measure => have := HLT.out; simp [intOf]; omega
        case rel =>
          refine ⟨k + 1, by go_num, HLT.out, ?_, HB4⟩
          rw [HD.out]
          rw [show ((min M d : Nat) : Int) = min (M : Int) d by omega]
      · obtain rfl : k = l.length := by omega
        have hlz : ¬ ((l.length : Int) < l.length) := by omega
        obtain ⟨M, hM⟩ : ∃ M, mn4 l f (List.range l.length) = M := ⟨_, rfl⟩
        rw [hM] at HPD ⊢
        have HS2 := Lib.hid (sorted_ref l (.agg #[.slice pn l.length cn, .slice pa l.length cap]) wr ⟨_, _, rfl, HN.out.below' HB.out (by rw [HS0.out]; exact Nat.le_refl _), by have := HR.out.below' HB.out (by rw [HS0.out]; exact Nat.le_refl _); exact this⟩ HG.out hl)
        have z0 := (two_cells (show wr.heap[w.heap.size]? = _ from (HB.out.block _ (Nat.lt_succ_self _)).trans HX.out)).1
        clear hlt hM
        go_wp2_with fail
        refine HS2.out.mono ?_
        rintro e w3 ⟨sv, rfl, hown, hb3⟩
        obtain ⟨pS, cS, rfl⟩ := lenOf hown
        have HB3 := Lib.hid (HB.out.trans (hb3.mono (by have := HB.out.size; have := HS0.out; omega)))
        have HRI := Lib.hid (RdI.own hown rfl)
        have HLN := Lib.hid (srt_len l)
        obtain ⟨zs, hzs⟩ : ∃ zs, srt l = zs := ⟨_, rfl⟩
        have HLT2 := Lib.hid (show ∀ i ∈ zs, i < l.length by rw [← hzs]; exact fun i h => srt_lt h)
        rw [hzs] at HRI HLN HPD ⊢
        have hZL : zs.length ≤ 1000 := by rw [HLN.out]; exact hl
        clear hb3 hown hzs z0 z1 hk
        go_wp2_with fail
        go_loopw [9, 38] (fun o i wr => ∃ k : Nat, i = .int .i64 k ∧ k ≤ zs.length ∧ Hid (wr.ownsRow w3.heap.size 3 1 o (fltD l f M (zs.take k)).length (numsV (fltD l f M (zs.take k)))) ∧ Hid (Below w3.heap.size w3 wr)) (fun _ i _ => zs.length - (intOf i).toNat)
        case atStart => exact ⟨0, rfl, Nat.zero_le _, Lib.hid (World.ownsRow_nil _ _ _ _), Lib.hid (Below.refl _ _)⟩
        case round =>
          obtain ⟨k, rfl, hk, HO, HB⟩ := hrel
          have HBW := Lib.hid (HB3.out.trans (HB.out.mono (by have := HB3.out.size; have := HS0.out; omega)))
          obtain ⟨pv, cv, rfl⟩ := lenOf HO.out
          by_cases hlt : k < zs.length
          · obtain ⟨b, off, e, c1⟩ := (HRI.out.below HB.out).cell hlt
            subst e
            obtain ⟨x, hx⟩ : ∃ x, zs[k] = x := ⟨_, rfl⟩
            have hxl : x < l.length := HLT2.out x (by rw [← hx]; exact List.getElem_mem hlt)
            have hxm : x < (l.map nm).length := by simpa using hxl
            have hR2 := HR.out.below' HBW.out (by rw [HS0.out]; exact Nat.le_refl _)
            rw [show l.length = (l.map nm).length by simp] at hR2
            obtain ⟨b2, off2, e, c2⟩ := hR2.cell hxm
            subst e
            obtain ⟨y, hy⟩ : ∃ y, nm l[x] = y := ⟨_, rfl⟩
            rw [hx] at c1
            rw [show (l.map nm)[x] = y by simp [hy]] at c2
            obtain ⟨z0, z1, _, _⟩ := two_cells (show wr.heap[w.heap.size]? = _ from (HBW.out.block _ (Nat.lt_succ_self _)).trans HX.out)
            have HYS := Lib.hid (show y.size ≤ 16777216 by rw [← hy]; have := nm_size l[x]; omega)
            have HSN := Lib.hid (fltD_snoc l f M zs hlt)
            obtain ⟨d, hd⟩ : ∃ d, apartN y f = d := ⟨_, rfl⟩
            rw [hx, show dN l f x = d by unfold dN; rw [getD_get hxl, hy, hd]] at HSN
            have hk1 : (k : Int) < zs.length := by omega
            have hx1 : (x : Int) < l.length := by omega
            have HLT := Lib.hid hlt
            have HFL := Lib.hid (show (fltD l f M (zs.take k)).length ≤ 1000 by have := fltD_len l f M (zs.take k); simp at this; omega)
            obtain ⟨acc, hacc⟩ : ∃ acc, fltD l f M (zs.take k) = acc := ⟨_, rfl⟩
            rw [hacc] at HO HSN HFL ⊢
            have HAP := Lib.hid (apart_ref y f · HYS.out HFS.out)
            rw [hd] at HAP
            clear hx hxl hxm hR2 hy hlt hacc hd
            by_cases hM4 : M < 4
            · have hMi : (M : Int) < 4 := by omega
              have HM4 := Lib.hid hM4
              go_wp2_with fail
              refine (HAP.out _).mono ?_
              rintro e w4 ⟨rfl, hb4⟩
              have HO4 := Lib.hid (own_below HO.out hb4)
              have HB4 := Lib.hid (HB.out.trans (hb4.mono HB.out.size))
              clear hb4 z0 z1 c1 c2
              by_cases hdM : d = M
              · have t1 : ((d : Int) == (M : Int)) = true := by simp; omega
                have HSN2 := Lib.hid (show fltD l f M (zs.take (k + 1)) = acc ++ [x] by rw [HSN.out]; simp [HM4.out, hdM])
                have HOA := Lib.hid (HO4.out.alloc (.cells #[.int .i64 x] 3))
                have M1 := Lib.hid (show acc.length + 1 ≤ maxLen by have := HFL.out; unfold maxLen; omega)
                have M2 := Lib.hid (show (acc.length + 1) * 8 ≤ 140737488355328 by have := HFL.out; omega)
                have M3 := Lib.hid (show w3.heap.size ≤ (w4.alloc (.cells #[.int .i64 x] 3)).heap.size by have := HB4.out.size; simp; omega)
                go_wp2_with (at_builtin; go_loud (refine wpList_append_lies _ rfl _ _ 36 rfl w3.heap.size 3 i0 (.int .i64 0) 1 8 Tryz.underlying36 hi hz0 hz1 hz2 rfl (by decide) _ acc.length (numsV acc) rfl HOA.out ⟨w4.heap.size, 0, none⟩ 1 1 [.int .i64 x] rfl rfl (cells_new _ _ _) (numsV_one [x]) (by decide) M1.out M2.out M3.out _ rfl ?_); intro g c3 w5 hown3 hgrow3 hat3 hlt3; have HO5 := Lib.hid hown3; have HB5 := Lib.hid ((HB4.out.alloc HB4.out.size (.cells #[.int .i64 x] 3)).grown hgrow3 M3.out (fun r e => (own_base HO4.out e).1)); clear hown3 hgrow3 hat3 hlt3)
                go_roundw
                case measure => have := HLT.out; simp [intOf]; omega
                case rel => exact ⟨k + 1, by go_num, HLT.out, Lib.hid (by rw [HSN2.out, List.length_append, numsV_app]; exact HO5.out), HB5⟩
              · have t1 : ((d : Int) == (M : Int)) = false := by simp; omega
                have HSN2 := Lib.hid (show fltD l f M (zs.take (k + 1)) = acc by rw [HSN.out]; simp [hdM])
                go_wp2_with fail
                go_roundw
                case measure => have := HLT.out; simp [intOf]; omega
                case rel => exact ⟨k + 1, by go_num, HLT.out, Lib.hid (by rw [HSN2.out]; exact HO4.out), HB4⟩
            · have hMi : ¬ (M : Int) < 4 := by omega
              have HSN2 := Lib.hid (show fltD l f M (zs.take (k + 1)) = acc by rw [HSN.out]; simp [hM4])
              go_wp2_with fail
              go_roundw
              case measure => have := HLT.out; simp [intOf]; omega
              case rel => exact ⟨k + 1, by go_num, HLT.out, Lib.hid (by rw [HSN2.out]; exact HO.out), HB⟩
          · obtain rfl : k = zs.length := by omega
            have hlz : ¬ ((zs.length : Int) < zs.length) := by omega
            clear hlt
            go_wp2_with fail
            go_ret
            refine ⟨_, rfl, ?_, HB0.out.trans (HBW.out.mono (Nat.le_succ _))⟩
            have h9 := HO.out
            rw [HPD.out]
            rw [List.take_length] at h9
            exact h9.mono (by have := HB3.out.size; have := HS0.out; omega)
  · have t1 : (n2 != 0) = true := by simpa using h0
    have HE := Lib.hid (HPN.out.trans (if_neg h0))
    clear h0
    go_wp2_with fail
    go_ret
    refine ⟨_, rfl, ?_, HB0.out.trans (HB2.out.mono (Nat.le_succ _))⟩
    rw [HE.out]
    exact World.ownsRow_nil _ _ _ _
end
section
open Go.RowKit Go.Maps Go.Sort
set_option linter.unusedVariables false

/-- All that a table leads to lies in blocks from B on. -/
def FrP (B b : Nat) (nv gv mv sv : Value) : Prop := B ≤ b ∧ (∀ c, nv.ownBlock = some c → B ≤ c) ∧ (∀ c, gv.ownBlock = some c → B ≤ c) ∧ (∀ c, sv.ownBlock = some c → B ≤ c) ∧ ∃ M, mv = .map (some M) ∧ B ≤ M
/-- What New answers. -/
def NewIsO (l : List ByteArray) (w : World) (e : Ending) (w' : World) : Prop := Below w.heap.size w w' ∧
  ((1000 < l.length ∧ e = .returned (.tuple #[.pointer none, .int .i64 0, .int .i64 2])) ∨
   (l.length ≤ 1000 ∧ ∃ k : Nat, k < l.length ∧ GoodTo l k ∧ errAt l k ≠ 0 ∧ e = .returned (.tuple #[.pointer none, .int .i64 k, .int .i64 (errAt l k)])) ∨
   (l.length ≤ 1000 ∧ GoodTo l l.length ∧ ∃ b nv gv mv sv, FrP w.heap.size b nv gv mv sv ∧ Tbl b l nv gv mv sv w' ∧ e = .returned (.tuple #[.pointer (some ⟨b, 0, none⟩), .int .i64 0, .int .i64 0])))

set_option maxRecDepth 100000 in
set_option maxHeartbeats 4000000 in
theorem new_proO (l : List ByteArray) (v : Value) (w : World) (h : RdT w v l) (hT : Tabs w) : Calls Tryz.prog 6 #[v] w (NewIsO l w) := by
  obtain ⟨pa, cap, rfl, h1, h2⟩ := h.form
  by_cases hl : 1000 < l.length
  · have hlz : (1000 : Int) < l.length := by omega
    go_enter Tryz.func6, Tryz.ntmps6
    go_wp2_with fail
    exact bodyPost_ret (v := .tuple #[.pointer none, .int .i64 0, .int .i64 2]) (by simp [results, Tryz.f6, go_sem]) rfl ⟨Below.refl _ _, .inl ⟨hl, rfl⟩⟩
  · have hlz : ¬ (1000 : Int) < l.length := by omega
    have HL := Lib.hid (show l.length ≤ 1000 by omega)
    have HR := Lib.hid h
    have HT := Lib.hid hT
    have HC := Lib.hid (cloneT_pro l _ w h (by omega))
    obtain ⟨i0, hi, hz0, hz1, hz2⟩ := info_parts infoS
    obtain ⟨j0, hj, hy0, hy1, hy2⟩ := info_parts infoI
    have hmm := @run_makeMap Tryz.prog
    clear h hT h1 h2 hl
    go_enter Tryz.func6, Tryz.ntmps6
    go_wp2_with fail
    refine HC.out.mono ?_
    rintro e w1 ⟨nv, rfl, hown, hb⟩
    obtain ⟨pn, cn, rfl⟩ := lenOf hown
    have HRN := Lib.hid (RdT.own hown rfl)
    have HF0 := Lib.hid (show ∀ c, (Value.slice pn l.length cn).ownBlock = some c → w.heap.size ≤ c from fun c e => (own_base hown e).1)
    have HB := Lib.hid hb
    have HT1 := Lib.hid (HT.out.below hb (Nat.le_refl _))
    clear hown hb
    go_wp2_with fail
    go_loopw [23] (fun i wr => ∃ (k : Nat) (gv sv : Value), i = .int .i64 k ∧ k ≤ l.length ∧ GoodTo l k ∧ NS w1 (.slice pn l.length cn) ((l.take k).map nm) ((l.take k).map nm) (List.range k) gv sv wr) (fun i _ => l.length - (intOf i).toNat)
    case atStart => exact ⟨0, _, _, rfl, Nat.zero_le _, fun j hj => absurd hj (Nat.not_lt_zero _), ns_start w1 _⟩
    case round =>
      obtain ⟨k, gv, sv, rfl, hk, hG, hN⟩ := hrel
      have HG := Lib.hid hG
      have HN := Lib.hid hN
      have c0 := hN.c0
      have c2 := hN.c2
      have cT := hN.cT0
      have hT2 := HT1.out.below hN.bl (Nat.le_refl _)
      have HT2 := Lib.hid hT2
      by_cases hlt : k < l.length
      · obtain ⟨b, off, e, hc⟩ := (HRN.out.below' hN.bl (Nat.le_refl _)).cell hlt
        subst e
        obtain ⟨x, hx⟩ : ∃ x, l[k] = x := ⟨_, rfl⟩
        have HX := Lib.hid hx
        rw [hx] at hc
        have HE := Lib.hid (show errAt l k = errOn ((l.take k).map nm) x by unfold errAt; rw [getD_get hlt, hx])
        have HA := Lib.hid (add_pro ((l.take k).map nm) w1.heap.size x wr hT2 hN.mp (by have := HL.out; simp; omega))
        clear hN hG hT2 hx
        go_wp2_with fail
        refine HA.out.mono ?_
        rintro e w2 (⟨h0, rfl, hm, hb⟩ | ⟨h0, rfl, hm, hg⟩)
        · obtain ⟨er, her⟩ : ∃ er, errOn ((l.take k).map nm) x = er := ⟨_, rfl⟩
          rw [her] at h0 HE ⊢
          have t1 : (er != 0) = true := by simpa using h0
          have H0 := Lib.hid h0
          have HB2 := Lib.hid ((HN.out.below hb).bl)
          clear h0 hm hb her
          go_wp2_with fail
          refine bodyPost_ret (v := .tuple #[.pointer none, .int .i64 k, .int .i64 er]) (by simp [results, Tryz.f6, go_sem]) rfl ⟨HB.out.trans (HB2.out.mono HB.out.size), .inr (.inl ⟨HL.out, k, hlt, HG.out, by rw [HE.out]; exact H0.out, by rw [HE.out]⟩)⟩
        · have HN2 := Lib.hid (HN.out.mapped hg hm)
          have HG2 := Lib.hid (HG.out.succ (HE.out.trans h0))
          clear h0 hm hg
          have c1 := HN2.out.c1
          have cT := HN2.out.cT0
          obtain ⟨ts, hts⟩ : ∃ ts, (l.take k).map nm = ts := ⟨_, rfl⟩
          have htl : ts.length = k := by rw [← hts]; simp; omega
          rw [hts] at HN2
          have HTS := Lib.hid hts
          have HTL := Lib.hid htl
          have HHL := Lib.hid hlt
          obtain ⟨y, hy⟩ : ∃ y, nm x = y := ⟨_, rfl⟩
          rw [hy] at HN2 ⊢
          have HY := Lib.hid hy
          have M1 := Lib.hid (show ts.length + 1 ≤ maxLen by have := HL.out; unfold maxLen; omega)
          have M2 := Lib.hid (show (ts.length + 1) * 16 ≤ 140737488355328 by have := HL.out; omega)
          have M3 := Lib.hid (show w1.heap.size ≤ (w2.drew.alloc (.cells #[.string y] 9)).heap.size by have := HN2.out.size; simp; omega)
          have HO := Lib.hid (HN2.out.drew.og.alloc (.cells #[.string y] 9))
          have HND := Lib.hid HN2.out.drew
          have cA := (HN2.out.below ((Below.refl _ w2).alloc (Nat.le_refl _) (.cells #[.string y] 9))).c1
          have cTA := (HN2.out.below ((Below.refl _ w2).alloc (Nat.le_refl _) (.cells #[.string y] 9))).cT0
          clear hts htl hy HA
          go_upto_region 10 with fail
          go_cut [] from 24 to 61 (fun wx => ∃ gv', NS w1 (.slice (some ⟨b, off, none⟩) l.length cn) (ts ++ [y]) (ts ++ [y]) (List.range k) gv' sv wx)
          case first =>
            go_region_law (refine step_append_lies _ rfl (.tmp 45) (.tmp 47) 22 rfl w1.heap.size 9 i0 (.string .empty) 1 16 Tryz.underlying22 hi hz0 hz1 hz2 rfl (by decide) gv ts.length (textsV ts) (by simp [Act.eval]) HO.out ⟨w2.heap.size, 0, none⟩ 1 1 [.string y] (by simp [Act.eval]) rfl (cells_new _ _ _) (textsV_one [y]) (by decide) M1.out M2.out M3.out _ rfl ?_; intro g3 c3 w3 hown3 hgrow3 _ _; obtain ⟨hB3, hT3, hN3⟩ := HND.out.pushT hgrow3 hown3; have q1 : w3.cell? ⟨w1.heap.size + 1, 1, none⟩ = some gv := (by simp [World.cell?, hB3]); have q2 : w3.frozen? ⟨w1.heap.size + 1, 1, none⟩ = false := (by simp [World.frozen?, hB3]); have q3 : w3.cell? ⟨w1.heap.size + 1 + 1, 0, none⟩ = some (.pointer (some ⟨w1.heap.size + 1, 0, none⟩)) := (by simp [World.cell?, hT3]); have HN3 := Lib.hid hN3; clear hown3 hgrow3 hB3 hT3 hN3)
            all_goals
              go_wp2_with fail
              go_meet
              exact ⟨_, HN3.out⟩
          case rest =>
            obtain ⟨gv5, hN5⟩ := hcut
            obtain ⟨w5, hw5⟩ : ∃ w5, wc = w5 := ⟨_, rfl⟩
            rw [hw5] at hN5 ⊢
            clear hw5
            have HN5 := Lib.hid hN5
            have M4 := Lib.hid (show (List.range k).length + 1 ≤ maxLen by have := HL.out; simp; unfold maxLen; omega)
            have M5 := Lib.hid (show ((List.range k).length + 1) * 8 ≤ 140737488355328 by have := HL.out; simp; omega)
            have M6 := Lib.hid (show w1.heap.size ≤ (w5.drew.alloc (.cells #[.int .i64 k] 3)).heap.size by have := HN5.out.size; simp; omega)
            have HO5 := Lib.hid (HN5.out.drew.os.alloc (.cells #[.int .i64 k] 3))
            have HND5 := Lib.hid HN5.out.drew
            have c3 := hN5.c3
            have cT5 := hN5.cT0
            have cA5 := (HN5.out.below ((Below.refl _ w5).alloc (Nat.le_refl _) (.cells #[.int .i64 k] 3))).c3
            have cTA5 := (HN5.out.below ((Below.refl _ w5).alloc (Nat.le_refl _) (.cells #[.int .i64 k] 3))).cT0
            clear hN5
            go_upto_region 11 with fail
            go_region_law (refine step_append_lies _ rfl (.tmp 55) (.tmp 57) 36 rfl w1.heap.size 3 j0 (.int .i64 0) 1 8 Tryz.underlying36 hj hy0 hy1 hy2 rfl (by decide) sv (List.range k).length (numsV (List.range k)) (by simp [Act.eval]) HO5.out ⟨w5.heap.size, 0, none⟩ 1 1 [.int .i64 k] (by simp [Act.eval]) rfl (cells_new _ _ _) (numsV_one [k]) (by decide) M4.out M5.out M6.out _ rfl ?_; intro g3 c3 w3 hown3 hgrow3 _ _; obtain ⟨hB3, hT3, hN3⟩ := HND5.out.pushI hgrow3 hown3; have q1 : w3.cell? ⟨w1.heap.size + 1, 3, none⟩ = some sv := (by simp [World.cell?, hB3]); have q2 : w3.frozen? ⟨w1.heap.size + 1, 3, none⟩ = false := (by simp [World.frozen?, hB3]); have q3 : w3.cell? ⟨w1.heap.size + 1 + 1, 0, none⟩ = some (.pointer (some ⟨w1.heap.size + 1, 0, none⟩)) := (by simp [World.cell?, hT3]); have HN3 := Lib.hid hN3; clear hown3 hgrow3 hB3 hT3 hN3)
            all_goals
              go_wp2_with fail
              go_roundw
            all_goals first
              | (simp [intOf]; done)
              | (simp [intOf]; omega)
              | skip
            all_goals
              exact ⟨k + 1, _, _, by go_num, by omega, HG2.out, by
                rw [take_map HHL.out, HTS.out, HX.out, HY.out, List.range_succ]
                have h9 := HN3.out
                rw [List.length_range] at h9
                exact h9⟩
      · obtain rfl : k = l.length := by omega
        have hlz : ¬ (l.length : Int) < l.length := by omega
        rw [List.take_length] at hN
        have HS := Lib.hid (sort_pro hN (HRN.out) hG HT1.out HL.out)
        have c3 := hN.c3
        clear hN hG hT2 hlt
        go_wp2_with (go_at_call 30; refine HS.out.mono ?_; rintro e w3 ⟨rfl, hN3⟩; have HN3 := Lib.hid hN3; have cT3 := hN3.cT0; clear hN3)
        refine bodyPost_ret (v := .tuple #[.pointer (some ⟨w1.heap.size + 1, 0, none⟩), .int .i64 0, .int .i64 0]) (by simp [results, Tryz.f6, go_sem]) rfl ⟨HB.out.trans (HN3.out.bl.mono HB.out.size), .inr (.inr ⟨HL.out, HG.out, w1.heap.size + 1, _, _, _, _, ⟨by have := HB.out.size; omega, HF0.out, fun c e => by have := (own_base HN3.out.og e).1; have := HB.out.size; omega, fun c e => by have := (own_base HN3.out.os e).1; have := HB.out.size; omega, _, rfl, HB.out.size⟩, ⟨HN3.out.cB, HRN.out.below' HN3.out.bl (Nat.le_refl _), RdT.own HN3.out.og rfl, .inl ⟨_, rfl, HN3.out.mp⟩, RdI.own HN3.out.os rfl⟩, rfl⟩)⟩
end
section
open Go.RowKit Go.Maps Go.Sort Go.Shelf
set_option linter.unusedVariables false

attribute [local go_sem] Oper.semAt_some

theorem seq_func : ∃ a b c, Tryz.prog.underlying 73 = some (.func a b c) := by
  have h : (match Tryz.prog.underlying 73 with | some (.func _ _ _) => true | _ => false) = true := by kernel_rfl
  generalize Tryz.prog.underlying 73 = o at h ⊢
  split at h
  · exact ⟨_, _, _, rfl⟩
  · cases h
theorem seq_some (w : World) (f : Fn) (l c : Array Value) : (binOp .eql 73 (.func f l c) .nilFunc).run Tryz.prog w = .ok (.bool false) w := by
  obtain ⟨x, y, z, hu⟩ := seq_func
  obtain ⟨d, hd⟩ : ∃ d, Op.maxDepth = d + 1 := ⟨_, rfl⟩
  simp only [binOp, Op.equal, hd]
  simp [Op.equalIn, run_underlying hu]
theorem kpE_count {Bn Bt D : Nat} (W : World) (u : Value) (hB : Bt ≠ Bn) (hD : Bn < D) : KpE Bn Bt Bt D W (W.setCell ⟨Bn, 0, none⟩ u) := by
  have o : ∀ c, c ≠ Bn → (W.setCell ⟨Bn, 0, none⟩ u).heap[c]? = W.heap[c]? := fun c h => Below.heap_setCell _ _ _ _ h
  have oc : ∀ v, W.cell? ⟨Bt, 0, none⟩ = some v → (W.setCell ⟨Bn, 0, none⟩ u).cell? ⟨Bt, 0, none⟩ = some v := fun v h => (World.cell?_of_block (a := ⟨Bt, 0, none⟩) (o Bt hB)).trans h
  exact ⟨(Below.refl _ _).setCell (p := ⟨Bn, 0, none⟩) (Nat.le_refl _) _, oc, fun v h => ⟨v, oc v h, .inl rfl, fun c cur T fr hc h2 _ => (o c (by omega)).trans h2⟩⟩

set_option maxRecDepth 100000 in
set_option maxHeartbeats 2000000 in
theorem goes_in (l : List ByteArray) (p tv : Value) (w : World) (hp : TP w p l) (hD : DT w tv l) (hG : GoodTo l l.length) (hl : l.length ≤ 1000) :
    CallsIn Fence.wide 12 Tryz.prog 19 #[p, tv] w fun e w' => e = .returned (.bool true) ∧ Below w.heap.size w w' := by
  have hf0 : Fence.wide.fn 38 := trivial
  have hf1 : Fence.wide.fn 80 := trivial
  have hf2 : Fence.wide.fn 12 := trivial
  have HDT := Lib.hid hD
  have HP := Lib.hid hp
  have HG := Lib.hid hG
  have HL := Lib.hid hl
  obtain ⟨pa, rfl⟩ := hp.form
  obtain ⟨nv, gv, rfl, hn, hg⟩ := hD
  obtain ⟨pn, cn, rfl, _, _⟩ := hn.form
  obtain ⟨pg, cg, rfl, _, _⟩ := hg.form
  rw [List.length_map] at HDT ⊢
  have HN := Lib.hid hn
  clear hp hn hg hG hl
  obtain ⟨W0, hW0⟩ : ∃ W0, (w.alloc (.cells #[.slice pn l.length cn, .slice pg l.length cg] 29)).alloc (.cells #[.bool false] 4) = W0 := ⟨_, rfl⟩
  have X3 : W0.heap[w.heap.size]? = some (.cells #[.slice pn l.length cn, .slice pg l.length cg] 29 (0, 0)) := by rw [← hW0]; exact (Below.heap_alloc _ _ _ (by simp)).trans (World.alloc_heap_new _ _)
  have X4 : Boxed W0 (w.heap.size + 1) 4 (.bool false) := by have := Boxed.new (w.alloc (.cells #[.slice pn l.length cn, .slice pg l.length cg] 29)) 4 (.bool false); rw [hW0, World.size_alloc] at this; exact this
  have hb0 : Below w.heap.size w W0 := by rw [← hW0]; exact ((Below.refl _ _).alloc (Nat.le_refl _) _).alloc (by simp) _
  have hs0 : W0.heap.size = w.heap.size + 2 := by rw [← hW0]; simp
  have HW0 := Lib.hid hW0
  refine callsIn_of_wp_marks Tryz.func19 rfl trivial ?_ rfl
  simp only [Tryz.ntmps19, List.size_toArray, List.length_cons, List.length_nil, Nat.reduceAdd, Nat.reduceSub, Array.replicate_succ, Array.replicate_zero, List.push_toArray, List.append_toArray, List.nil_append, List.cons_append]
  gi_wp2_with fail
  refine (each_in 11 _ _ ⟨_, rfl⟩).mono ?_
  rintro e z1 ⟨rfl, rfl⟩
  have bT := Boxed.new W0 24 (.pointer pa)
  have hA1 : Below W0.heap.size W0 (W0.alloc (.cells #[.pointer pa] 24)) := (Below.refl _ _).alloc (Nat.le_refl _) _
  have hs1 : (W0.alloc (.cells #[.pointer pa] 24)).heap.size = w.heap.size + 3 := by simp [hs0]
  obtain ⟨W1, hW1⟩ : ∃ W1, W0.alloc (.cells #[.pointer pa] 24) = W1 := ⟨_, rfl⟩
  rw [hW1] at bT hA1 hs1 ⊢
  clear hW1 hW0
  have Y3 := (hA1.block w.heap.size (by omega)).trans X3
  have Y4 := Boxed.below X4 hA1
  have hb1 := hb0.trans (hA1.mono hb0.size)
  obtain ⟨z0, zz1, _, _⟩ := two_cells Y3
  have HS := Lib.hid (sorted_ref l (.agg #[.slice pn l.length cn, .slice pg l.length cg]) W1 (by obtain ⟨a, b, e, h1, h2⟩ := HDT.out; exact ⟨a, b, e, h1.below hb1, h2.below hb1⟩) HG.out HL.out)
  rw [hs0] at bT ⊢
  have HB1 := Lib.hid hb1
  have HY3 := Lib.hid Y3
  have HY4 := Lib.hid Y4
  have HT := Lib.hid bT
  have HS1 := Lib.hid hs1
  clear X3 X4 hb0 hA1 Y3 Y4 bT hs0 hs1
  have hseq := seq_some
  gi_wp2_with (gi_at_call 12; refine (callsIn_wide.2 HS.out).mono ?_; rintro e w2 ⟨sv, rfl, hown, hb2⟩; obtain ⟨pS, cS, rfl⟩ := lenOf hown; have HO := Lib.hid hown; have HB2 := Lib.hid hb2; clear hown hb2)
  have bO := Boxed.new w2 36 (.slice pS (srt l).length cS)
  have hA2 : Below w2.heap.size w2 (w2.alloc (.cells #[.slice pS (srt l).length cS] 36)) := (Below.refl _ _).alloc (Nat.le_refl _) _
  have hsA : (w2.alloc (.cells #[.slice pS (srt l).length cS] 36)).heap.size = w2.heap.size + 1 := by simp
  obtain ⟨V1, hV1⟩ : ∃ V1, w2.alloc (.cells #[.slice pS (srt l).length cS] 36) = V1 := ⟨_, rfl⟩
  rw [hV1] at bO hA2 hsA ⊢
  have hsz2 : w.heap.size + 3 ≤ w2.heap.size := by have := HB2.out.size; have := HS1.out; omega
  have hbV : Below W1.heap.size W1 V1 := HB2.out.trans (hA2.mono HB2.out.size)
  have bT1 := Boxed.below HT.out hbV
  have HTP1 := Lib.hid ((HP.out.below HB1.out).below hbV)
  have HBV := Lib.hid (HB1.out.trans (hbV.mono HB1.out.size))
  have HY3' := Lib.hid ((hbV.block _ (by have := HS1.out; omega)).trans HY3.out)
  have HY4' := Lib.hid (Boxed.below HY4.out hbV)
  have HO' := Lib.hid (RdI.own (own_below HO.out hA2) rfl)
  have HBO := Lib.hid bO
  have HT1 := Lib.hid bT1
  have HZ2 := Lib.hid hsz2
  have HZA := Lib.hid hsA
  clear hV1 hA2 hbV hb1 z0 zz1 hsz2 hsA bO
  refine wpIn_rangeFunc_ownH rfl (by omega) (gf := 80) (lb := #[.pointer (some ⟨w.heap.size + 2, 0, none⟩)]) rfl trivial (enters_of Tryz.func80 (by kernel_rfl) rfl)
    (each_stops (12 - 1) (by omega) (w.heap.size + 2) V1.heap.size (w.heap.size + 2) (.pointer pa) l HL.out V1 HTP1.out (Nat.le_refl _) V1 (Below.refl _ _) (Nat.le_refl _) bT1.cell _ bT1.cell (fun c e => by cases e)) KpE.t (fun W l o o' hl h hc hw => KpE.put W l o o' hl h hc hw) (Below.refl _ _) (fun _ => rfl)
    (fun _ W => Below V1.heap.size V1 W) (fun c _ W => c = .exit 0 ∧ Below V1.heap.size V1 W) (ownFrom_below (Nat.le_refl _) (Nat.le_refl _)) (fun c => OwnFrom.and (fun _ _ _ _ h _ _ => h) (ownFrom_below (Nat.le_refl _) (Nat.le_refl _))) (Below.refl _ _)
    (fun _ _ _ => True) (fun _ _ _ _ _ _ _ _ _ => trivial) ?assign ?body ?done ?stop
  case assign =>
    rintro l' pre x W K hI hK
    gi_wp2
    exact hK _ _ ((KeepsOthers.refl _).from _) (KpE.refl _ _ _ _ _) hI trivial
  case body =>
    rintro l' pre x a' W hl ⟨r, hr⟩ hI _ hlt
    gi_wp2
    exact ⟨(KeepsOthers.refl _).from _, rfl, hI⟩
  case done =>
    rintro D ys W hD hS hB hK
    gi_wp2_with fail
    have hWs : V1.heap.size ≤ W.heap.size := hB.size
    have bN := Boxed.new W 3 (.int .i64 0)
    have hA3 : Below W.heap.size W (W.alloc (.cells #[.int .i64 0] 3)) := (Below.refl _ _).alloc (Nat.le_refl _) _
    have hs3 : (W.alloc (.cells #[.int .i64 0] 3)).heap.size = W.heap.size + 1 := by simp
    obtain ⟨V2, hV2⟩ : ∃ V2, W.alloc (.cells #[.int .i64 0] 3) = V2 := ⟨_, rfl⟩
    rw [hV2] at bN hA3 hs3 ⊢
    clear hV2
    have HTP2 := Lib.hid (HTP1.out.below hB)
    have hTW := Boxed.below HT1.out hB
    have bT2 := Boxed.below hTW hA3
    have hDl : D < W.heap.size := (Array.getElem?_eq_some_iff.1 hK).1
    have HB' := Lib.hid hB
    have HKD := Lib.hid hK
    have HA3 := Lib.hid hA3
    refine wpIn_rangeFunc_ownH rfl (by omega) (gf := 80) (lb := #[.pointer (some ⟨w.heap.size + 2, 0, none⟩)]) rfl trivial (enters_of Tryz.func80 (by kernel_rfl) rfl)
      (each_stops (12 - 1) (by omega) (w.heap.size + 2) W.heap.size (w.heap.size + 2) (.pointer pa) l HL.out W HTP2.out (Nat.le_refl _) V2 hA3 (by omega) bT2.cell _ bT2.cell (fun c e => by cases e)) KpE.t (fun X l o o' hl h hc hw => KpE.put X l o o' (by omega) h hc hw) (Below.refl _ _) (fun _ => rfl)
      (fun (pre : List (NmI l.length)) X => (pre.map (·.1) = (srt l).take pre.length ∧ Boxed X W.heap.size 3 (.int .i64 (pre.length : Nat))) ∧ Below W.heap.size V2 X) (fun _ (pre : List (NmI l.length)) _ => ¬ (pre.map (·.1) <+: srt l))
      (OwnFrom.and (OwnFrom.and (fun _ _ _ _ h _ _ => h) (Own.from (boxed_own W.heap.size 3 (fun s : List (NmI l.length) => .int .i64 (s.length : Nat))) _)) (ownFrom_below (by omega) (by omega)))
      (by intro c s X Y row hs hg hr; exact hs) ⟨⟨by simp, bN⟩, Below.refl _ _⟩
      (fun x a' X => a' = { tmps := #[.pointer pa, .agg #[.slice pn l.length cn, .slice pg l.length cg], undef, .pointer (some ⟨w.heap.size, 0, none⟩), .pointer (some ⟨w.heap.size + 1, 0, none⟩), .func (.func 80) #[] #[.pointer (some ⟨w.heap.size + 2, 0, none⟩)], .pointer (some ⟨w2.heap.size, 0, none⟩), .pointer (some ⟨W.heap.size, 0, none⟩), .int .i64 (x.1 : Nat), .string (l.getD x.1 ByteArray.empty), .pointer pa, .func (.func 80) #[] #[.pointer (some ⟨w.heap.size + 2, 0, none⟩)], .func (.func 80) #[] #[.pointer (some ⟨w.heap.size + 2, 0, none⟩)], .bool false, .agg #[.slice pn l.length cn, .slice pg l.length cg], .slice pS (srt l).length cS, .func (.func 80) #[] #[.pointer (some ⟨w.heap.size + 2, 0, none⟩)], undef, undef, .func (.func 80) #[] #[.pointer (some ⟨w.heap.size + 2, 0, none⟩)], .int .i64 (x.1 : Nat), .string (l.getD x.1 ByteArray.empty), undef, undef, undef, undef, undef, undef, undef, undef, undef, undef, undef, undef, undef, undef, undef, undef, undef, undef, undef, undef, undef, undef, undef, undef, undef, undef, undef], defers := [] }) (fun x a' _ X Y row hs hg hr => hs) ?assign2 ?body2 ?done2 ?stop2
    case assign2 =>
      rintro l' pre x X K hI hK
      simp only [nmA]
      gi_wp2
      exact hK _ _ ((KeepsOthers.refl _).from _) (KpE.refl _ _ _ _ _) hI rfl
    case body2 =>
      rintro l' pre x a' X hl ⟨r, hr⟩ ⟨⟨hP, hBx⟩, hBX⟩ rfl hlt
      obtain ⟨i, hin⟩ := x
      have hbX : Below W.heap.size W X := HA3.out.trans hBX
      have hbV : Below V1.heap.size V1 X := HB'.out.trans (hbX.mono hWs)
      have c7 := hBx.cell
      have g7 := hBx.frozen
      have c6 := (Boxed.below HBO.out hbV).cell
      have hpl : pre.length < (srt l).length := by rw [srt_len]; exact hlt
      obtain ⟨b, off, e, cr⟩ := (HO'.out.below hbV).cell hpl
      subst e
      have c3 := (two_cells ((hbV.block _ (by have := HZ2.out; have := HZA.out; omega)).trans HY3'.out)).1
      have hNX := HN.out.below (HBV.out.trans (hbV.mono HBV.out.size))
      obtain ⟨b2, off2, e, cn2⟩ := hNX.cell hin
      subst e
      have bRes := (Boxed.below HY4'.out hbV)
      have c4 := bRes.cell
      have g4 := bRes.frozen
      have hgd : l.getD i ByteArray.empty = l[i] := getD_get hin
      obtain ⟨y, hy⟩ : ∃ y, l[i] = y := ⟨_, rfl⟩
      rw [hy] at hgd
      rw [show l[i] = y from hy] at cn2
      dsimp only
      rw [hgd]
      obtain ⟨z, hz⟩ : ∃ z, (srt l)[pre.length] = z := ⟨_, rfl⟩
      rw [hz] at cr
      have hp1 : (pre.length : Int) < (srt l).length := by omega
      have hi1 : (i : Int) < l.length := by omega
      have HPR := Lib.hid hP
      have HZ := Lib.hid (show (srt l)[pre.length]? = some z by rw [List.getElem?_eq_getElem hpl, hz])
      have HPL := Lib.hid hpl
      obtain ⟨q, hq⟩ : ∃ q, pre.length = q := ⟨_, rfl⟩
      have HQ := Lib.hid hq
      rw [hq] at cr c7 hp1
      have hq1000 : q ≤ 1000 := by have := HL.out; omega
      have HBX := Lib.hid hBX
      have HBXB := Lib.hid hBx
      by_cases hiz : i = z
      · have HIZ := Lib.hid hiz
        have t1 : ((i : Int) != (z : Int)) = false := by simp; omega
        have HKE := Lib.hid (fun u => kpE_count (Bn := W.heap.size) (Bt := w.heap.size + 2) (D := V2.heap.size) X u (by have := HZ2.out; have := HZA.out; omega) (by omega))
        have hSU := Lib.hid (fun u => hBx.set u)
        have HBS := Lib.hid (fun u => hBX.setCell (p := ⟨W.heap.size, 0, none⟩) (Nat.le_refl _) u)
        clear hl hr hP hbX hbV hNX hBx hz hgd hiz hpl hy hBX
        gi_wp2
        refine ⟨(KeepsOthers.setCell _ _ _).from _, HKE.out _, ⟨?_, ?_⟩, HBS.out _⟩
        · rw [List.map_append, HPR.out, List.length_append, HQ.out]
          simp only [List.length_cons, List.length_nil]
          have h9 := HZ.out
          rw [HQ.out] at h9
          rw [List.take_add_one, h9, ← HIZ.out]
          rfl
        · have h9 := hSU.out (.int .i64 ((q : Int) + 1))
          rw [List.length_append, HQ.out]
          exact h9
      · have t1 : ((i : Int) != (z : Int)) = true := by simp; omega
        have HNP := Lib.hid (show ¬ ((pre ++ [(⟨i, hin⟩ : NmI l.length)]).map (·.1) <+: srt l) by
          intro h
          obtain ⟨t, ht⟩ := h
          have h9 := HZ.out
          rw [← ht, List.map_append, List.append_assoc, List.getElem?_append_right (by simp)] at h9
          simp at h9
          exact hiz h9)
        clear hl hr hP hbX hbV hNX hBx hz hgd hiz hpl hy hBX
        gi_wp2
        exact ⟨(KeepsOthers.setCell _ _ _).from _, HNP.out⟩
    case stop2 =>
      rintro D2 c2 pre X hD2 hS hIx hK2
      exact absurd hS hIx
    case done2 =>
      rintro D2 ys X hD2 hS ⟨⟨hP, hBx⟩, hBX⟩ hK2
      have hyl : ys.length = (srt l).length := by have := congrArg List.length hS; simpa using this
      rw [hyl] at hBx
      have hbX : Below W.heap.size W X := HA3.out.trans hBX
      have hbV : Below V1.heap.size V1 X := HB'.out.trans (hbX.mono hWs)
      have c7 := hBx.cell
      have c6 := (Boxed.below HBO.out hbV).cell
      have bRes := (Boxed.below HY4'.out hbV)
      have c4 := bRes.cell
      have g4 := bRes.frozen
      have hz2 := HZ2.out
      have hzA := HZA.out
      have m0 : X.heap[D]? = some (.deferred (some [])) := (hbX.block D hDl).trans HKD.out
      have n0 := Lib.hid (show (X.setCell ⟨w.heap.size + 1, 0, none⟩ (.bool true)).heap[D]? = some (.deferred (some [])) from (Below.heap_setCell _ _ _ _ (by show D ≠ w.heap.size + 1; omega)).trans m0)
      have n1 := Lib.hid (show (X.setCell ⟨w.heap.size + 1, 0, none⟩ (.bool true)).heap[D2]? = some (.deferred (some [])) from (Below.heap_setCell _ _ _ _ (by show D2 ≠ w.heap.size + 1; omega)).trans hK2)
      have cX := Lib.hid (bRes.set (.bool true)).cell
      have HBZ := Lib.hid ((HBV.out.trans (hbV.mono HBV.out.size)).setCell (p := ⟨w.heap.size + 1, 0, none⟩) (by show w.heap.size ≤ w.heap.size + 1; omega) (.bool true))
      have hD12 : D ≠ D2 := by omega
      have hDw : w.heap.size ≤ D := by omega
      have hDw2 : w.heap.size ≤ D2 := by omega
      have HD12 := Lib.hid hD12
      have HDW := Lib.hid hDw
      have HDW2 := Lib.hid hDw2
      clear hP hBx hBX hbX hbV bRes hz2 hzA m0 hD12 hDw hDw2 hyl hS hK2 hDl hWs hs3 hA3 bN bT2 hTW
      gi_wp2
      have o1 := n1.out
      have o2 := n0.out
      have o3 := cX.out
      have o4 := HBZ.out
      generalize X.setCell ⟨w.heap.size + 1, 0, none⟩ (.bool true) = Y at o1 o2 o3 o4 ⊢
      have o5 : (Y.putObj D2 (.deferred none)).heap[D]? = some (.deferred (some [])) := by rw [World.putObj_heap_other HD12.out]; exact o2
      have cY := cellAt_put (o' := .deferred none) o1 rfl o3
      have cZ := cellAt_put (o' := .deferred none) o5 rfl cY
      have HBy := o4.trans (belowK_b (w := w) (Nat.le_refl _) Y D2 _ (.deferred none) HDW2.out o1 rfl rfl)
      have HBz := HBy.trans (belowK_b (w := w) (Nat.le_refl _) (Y.putObj D2 (.deferred none)) D _ (.deferred none) HDW.out o5 rfl rfl)
      refine ⟨by simp, .inl ⟨_, _, rfl, run_takeDeferred o1, by simp, .inl ⟨_, _, rfl, run_takeDeferred o5, ?_⟩⟩⟩
      refine ⟨.bool true, ?_, rfl, HBz⟩
      simp [results, Tryz.f19, go_sem, cZ]
  case stop =>
    rintro D c pre W hD hS ⟨rfl, hB⟩ hK
    gi_wp2_with fail
    have hWs : V1.heap.size ≤ W.heap.size := hB.size
    have bN := Boxed.new W 3 (.int .i64 0)
    have hA3 : Below W.heap.size W (W.alloc (.cells #[.int .i64 0] 3)) := (Below.refl _ _).alloc (Nat.le_refl _) _
    have hs3 : (W.alloc (.cells #[.int .i64 0] 3)).heap.size = W.heap.size + 1 := by simp
    obtain ⟨V2, hV2⟩ : ∃ V2, W.alloc (.cells #[.int .i64 0] 3) = V2 := ⟨_, rfl⟩
    rw [hV2] at bN hA3 hs3 ⊢
    clear hV2
    have HTP2 := Lib.hid (HTP1.out.below hB)
    have hTW := Boxed.below HT1.out hB
    have bT2 := Boxed.below hTW hA3
    have hDl : D < W.heap.size := (Array.getElem?_eq_some_iff.1 hK).1
    have HB' := Lib.hid hB
    have HKD := Lib.hid hK
    have HA3 := Lib.hid hA3
    refine wpIn_rangeFunc_ownH rfl (by omega) (gf := 80) (lb := #[.pointer (some ⟨w.heap.size + 2, 0, none⟩)]) rfl trivial (enters_of Tryz.func80 (by kernel_rfl) rfl)
      (each_stops (12 - 1) (by omega) (w.heap.size + 2) W.heap.size (w.heap.size + 2) (.pointer pa) l HL.out W HTP2.out (Nat.le_refl _) V2 hA3 (by omega) bT2.cell _ bT2.cell (fun c e => by cases e)) KpE.t (fun X l o o' hl h hc hw => KpE.put X l o o' (by omega) h hc hw) (Below.refl _ _) (fun _ => rfl)
      (fun (pre : List (NmI l.length)) X => (pre.map (·.1) = (srt l).take pre.length ∧ Boxed X W.heap.size 3 (.int .i64 (pre.length : Nat))) ∧ Below W.heap.size V2 X) (fun _ (pre : List (NmI l.length)) _ => ¬ (pre.map (·.1) <+: srt l))
      (OwnFrom.and (OwnFrom.and (fun _ _ _ _ h _ _ => h) (Own.from (boxed_own W.heap.size 3 (fun s : List (NmI l.length) => .int .i64 (s.length : Nat))) _)) (ownFrom_below (by omega) (by omega)))
      (by intro c s X Y row hs hg hr; exact hs) ⟨⟨by simp, bN⟩, Below.refl _ _⟩
      (fun x a' X => a' = { tmps := #[.pointer pa, .agg #[.slice pn l.length cn, .slice pg l.length cg], undef, .pointer (some ⟨w.heap.size, 0, none⟩), .pointer (some ⟨w.heap.size + 1, 0, none⟩), .func (.func 80) #[] #[.pointer (some ⟨w.heap.size + 2, 0, none⟩)], .pointer (some ⟨w2.heap.size, 0, none⟩), .pointer (some ⟨W.heap.size, 0, none⟩), .int .i64 (x.1 : Nat), .string (l.getD x.1 ByteArray.empty), .pointer pa, .func (.func 80) #[] #[.pointer (some ⟨w.heap.size + 2, 0, none⟩)], .func (.func 80) #[] #[.pointer (some ⟨w.heap.size + 2, 0, none⟩)], .bool false, .agg #[.slice pn l.length cn, .slice pg l.length cg], .slice pS (srt l).length cS, .func (.func 80) #[] #[.pointer (some ⟨w.heap.size + 2, 0, none⟩)], undef, undef, .func (.func 80) #[] #[.pointer (some ⟨w.heap.size + 2, 0, none⟩)], .int .i64 (x.1 : Nat), .string (l.getD x.1 ByteArray.empty), undef, undef, undef, undef, undef, undef, undef, undef, undef, undef, undef, undef, undef, undef, undef, undef, undef, undef, undef, undef, undef, undef, undef, undef, undef, undef, undef], defers := [] }) (fun x a' _ X Y row hs hg hr => hs) ?assign2 ?body2 ?done2 ?stop2
    case assign2 =>
      rintro l' pre x X K hI hK
      simp only [nmA]
      gi_wp2
      exact hK _ _ ((KeepsOthers.refl _).from _) (KpE.refl _ _ _ _ _) hI rfl
    case body2 =>
      rintro l' pre x a' X hl ⟨r, hr⟩ ⟨⟨hP, hBx⟩, hBX⟩ rfl hlt
      obtain ⟨i, hin⟩ := x
      have hbX : Below W.heap.size W X := HA3.out.trans hBX
      have hbV : Below V1.heap.size V1 X := HB'.out.trans (hbX.mono hWs)
      have c7 := hBx.cell
      have g7 := hBx.frozen
      have c6 := (Boxed.below HBO.out hbV).cell
      have hpl : pre.length < (srt l).length := by rw [srt_len]; exact hlt
      obtain ⟨b, off, e, cr⟩ := (HO'.out.below hbV).cell hpl
      subst e
      have c3 := (two_cells ((hbV.block _ (by have := HZ2.out; have := HZA.out; omega)).trans HY3'.out)).1
      have hNX := HN.out.below (HBV.out.trans (hbV.mono HBV.out.size))
      obtain ⟨b2, off2, e, cn2⟩ := hNX.cell hin
      subst e
      have bRes := (Boxed.below HY4'.out hbV)
      have c4 := bRes.cell
      have g4 := bRes.frozen
      have hgd : l.getD i ByteArray.empty = l[i] := getD_get hin
      obtain ⟨y, hy⟩ : ∃ y, l[i] = y := ⟨_, rfl⟩
      rw [hy] at hgd
      rw [show l[i] = y from hy] at cn2
      dsimp only
      rw [hgd]
      obtain ⟨z, hz⟩ : ∃ z, (srt l)[pre.length] = z := ⟨_, rfl⟩
      rw [hz] at cr
      have hp1 : (pre.length : Int) < (srt l).length := by omega
      have hi1 : (i : Int) < l.length := by omega
      have HPR := Lib.hid hP
      have HZ := Lib.hid (show (srt l)[pre.length]? = some z by rw [List.getElem?_eq_getElem hpl, hz])
      have HPL := Lib.hid hpl
      obtain ⟨q, hq⟩ : ∃ q, pre.length = q := ⟨_, rfl⟩
      have HQ := Lib.hid hq
      rw [hq] at cr c7 hp1
      have hq1000 : q ≤ 1000 := by have := HL.out; omega
      have HBX := Lib.hid hBX
      have HBXB := Lib.hid hBx
      by_cases hiz : i = z
      · have HIZ := Lib.hid hiz
        have t1 : ((i : Int) != (z : Int)) = false := by simp; omega
        have HKE := Lib.hid (fun u => kpE_count (Bn := W.heap.size) (Bt := w.heap.size + 2) (D := V2.heap.size) X u (by have := HZ2.out; have := HZA.out; omega) (by omega))
        have hSU := Lib.hid (fun u => hBx.set u)
        have HBS := Lib.hid (fun u => hBX.setCell (p := ⟨W.heap.size, 0, none⟩) (Nat.le_refl _) u)
        clear hl hr hP hbX hbV hNX hBx hz hgd hiz hpl hy hBX
        gi_wp2
        refine ⟨(KeepsOthers.setCell _ _ _).from _, HKE.out _, ⟨?_, ?_⟩, HBS.out _⟩
        · rw [List.map_append, HPR.out, List.length_append, HQ.out]
          simp only [List.length_cons, List.length_nil]
          have h9 := HZ.out
          rw [HQ.out] at h9
          rw [List.take_add_one, h9, ← HIZ.out]
          rfl
        · have h9 := hSU.out (.int .i64 ((q : Int) + 1))
          rw [List.length_append, HQ.out]
          exact h9
      · have t1 : ((i : Int) != (z : Int)) = true := by simp; omega
        have HNP := Lib.hid (show ¬ ((pre ++ [(⟨i, hin⟩ : NmI l.length)]).map (·.1) <+: srt l) by
          intro h
          obtain ⟨t, ht⟩ := h
          have h9 := HZ.out
          rw [← ht, List.map_append, List.append_assoc, List.getElem?_append_right (by simp)] at h9
          simp at h9
          exact hiz h9)
        clear hl hr hP hbX hbV hNX hBx hz hgd hiz hpl hy hBX
        gi_wp2
        exact ⟨(KeepsOthers.setCell _ _ _).from _, HNP.out⟩
    case stop2 =>
      rintro D2 c2 pre X hD2 hS hIx hK2
      exact absurd hS hIx
    case done2 =>
      rintro D2 ys X hD2 hS ⟨⟨hP, hBx⟩, hBX⟩ hK2
      have hyl : ys.length = (srt l).length := by have := congrArg List.length hS; simpa using this
      rw [hyl] at hBx
      have hbX : Below W.heap.size W X := HA3.out.trans hBX
      have hbV : Below V1.heap.size V1 X := HB'.out.trans (hbX.mono hWs)
      have c7 := hBx.cell
      have c6 := (Boxed.below HBO.out hbV).cell
      have bRes := (Boxed.below HY4'.out hbV)
      have c4 := bRes.cell
      have g4 := bRes.frozen
      have hz2 := HZ2.out
      have hzA := HZA.out
      have m0 : X.heap[D]? = some (.deferred (some [])) := (hbX.block D hDl).trans HKD.out
      have n0 := Lib.hid (show (X.setCell ⟨w.heap.size + 1, 0, none⟩ (.bool true)).heap[D]? = some (.deferred (some [])) from (Below.heap_setCell _ _ _ _ (by show D ≠ w.heap.size + 1; omega)).trans m0)
      have n1 := Lib.hid (show (X.setCell ⟨w.heap.size + 1, 0, none⟩ (.bool true)).heap[D2]? = some (.deferred (some [])) from (Below.heap_setCell _ _ _ _ (by show D2 ≠ w.heap.size + 1; omega)).trans hK2)
      have cX := Lib.hid (bRes.set (.bool true)).cell
      have HBZ := Lib.hid ((HBV.out.trans (hbV.mono HBV.out.size)).setCell (p := ⟨w.heap.size + 1, 0, none⟩) (by show w.heap.size ≤ w.heap.size + 1; omega) (.bool true))
      have hD12 : D ≠ D2 := by omega
      have hDw : w.heap.size ≤ D := by omega
      have hDw2 : w.heap.size ≤ D2 := by omega
      have HD12 := Lib.hid hD12
      have HDW := Lib.hid hDw
      have HDW2 := Lib.hid hDw2
      clear hP hBx hBX hbX hbV bRes hz2 hzA m0 hD12 hDw hDw2 hyl hS hK2 hDl hWs hs3 hA3 bN bT2 hTW
      gi_wp2
      have o1 := n1.out
      have o2 := n0.out
      have o3 := cX.out
      have o4 := HBZ.out
      generalize X.setCell ⟨w.heap.size + 1, 0, none⟩ (.bool true) = Y at o1 o2 o3 o4 ⊢
      have o5 : (Y.putObj D2 (.deferred none)).heap[D]? = some (.deferred (some [])) := by rw [World.putObj_heap_other HD12.out]; exact o2
      have cY := cellAt_put (o' := .deferred none) o1 rfl o3
      have cZ := cellAt_put (o' := .deferred none) o5 rfl cY
      have HBy := o4.trans (belowK_b (w := w) (Nat.le_refl _) Y D2 _ (.deferred none) HDW2.out o1 rfl rfl)
      have HBz := HBy.trans (belowK_b (w := w) (Nat.le_refl _) (Y.putObj D2 (.deferred none)) D _ (.deferred none) HDW.out o5 rfl rfl)
      refine ⟨by simp, .inl ⟨_, _, rfl, run_takeDeferred o1, by simp, .inl ⟨_, _, rfl, run_takeDeferred o5, ?_⟩⟩⟩
      refine ⟨.bool true, ?_, rfl, HBz⟩
      simp [results, Tryz.f19, go_sem, cZ]
end
end Go.Proofs.YtoeknophfcfahaaGreatDoor
