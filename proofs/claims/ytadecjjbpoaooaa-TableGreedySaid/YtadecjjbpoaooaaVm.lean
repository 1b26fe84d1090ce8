/- Layer 12: rows line by line; lists of lists of lines in memory. -/
import Derived.Test.YtadecjjbpoaooaaVl
namespace Go.Proofs.Ytadecjjbpoaooaa.Tb
open Go.RowKit Go.Maps
set_option linter.unusedVariables false
set_option linter.unusedSimpArgs false
/-- The j-th line of a row, column by column. -/
def lineF (j : Nat) : List Gl → List (Int × Int) → List (List (List Gl)) → List Gl
  | r, c :: cs, p :: ps => lineF j (if j < p.length then putLine r c.1 (p.getD j []) else r) cs ps
  | r, _, _ => r
def tallF : Nat → List (List (List Gl)) → Nat
  | t, p :: ps => tallF (max t p.length) ps
  | t, [] => t
def partsF : List (Int × Int) → List (List Gl) → List (List (List Gl))
  | c :: cs, f :: fs => fillM c.2 f :: partsF cs fs
  | _, _ => []
theorem putB_len (rows lines : List (List Gl)) (a : Int) : (putB rows lines a).length = max rows.length lines.length := putK_len _ _ _ _
theorem putB_getD (rows lines : List (List Gl)) (a : Int) (j : Nat) : (putB rows lines a).getD j [] = if j < lines.length then putLine (rows.getD j []) a (lines.getD j []) else rows.getD j [] := by
  by_cases h : j < (putB rows lines a).length
  · rw [List.getD_eq_getElem?_getD, List.getElem?_eq_getElem h]
    show (putK rows lines a lines.length)[j] = _
    rw [putK_at h]
    unfold putAt
    by_cases h2 : j < lines.length
    · rw [if_pos ⟨h2, h2⟩, if_pos h2]
    · rw [if_neg (fun x => h2 x.1), if_neg h2]
  · rw [List.getD_eq_getElem?_getD, List.getElem?_eq_none (by omega)]
    rw [putB_len] at h
    rw [if_neg (by omega), List.getD_eq_getElem?_getD, List.getElem?_eq_none (by omega)]
theorem rowF_lines : ∀ (cs : List (Int × Int)) (fs acc : List (List Gl)), cs.length = fs.length → (rowF acc cs fs).length = tallF acc.length (partsF cs fs) ∧ ∀ j, (rowF acc cs fs).getD j [] = lineF j (acc.getD j []) cs (partsF cs fs)
  | [], [], acc, _ => ⟨rfl, fun j => rfl⟩
  | [], _ :: _, acc, h => by simp at h
  | _ :: _, [], acc, h => by simp at h
  | c :: cs, f :: fs, acc, h => by
    obtain ⟨h1, h2⟩ := rowF_lines cs fs (putB acc (fillM c.2 f) c.1) (by simpa using h)
    refine ⟨?_, fun j => ?_⟩
    · show (rowF (putB acc (fillM c.2 f) c.1) cs fs).length = tallF (max acc.length (fillM c.2 f).length) (partsF cs fs)
      rw [h1, putB_len]
    · show (rowF (putB acc (fillM c.2 f) c.1) cs fs).getD j [] = lineF j (if j < (fillM c.2 f).length then putLine (acc.getD j []) c.1 ((fillM c.2 f).getD j []) else acc.getD j []) cs (partsF cs fs)
      rw [h2, putB_getD]
theorem partsF_len : ∀ (cs : List (Int × Int)) (fs : List (List Gl)), cs.length = fs.length → (partsF cs fs).length = cs.length
  | [], [], _ => rfl
  | [], _ :: _, h => by simp at h
  | _ :: _, [], h => by simp at h
  | c :: cs, f :: fs, h => by simp [partsF, partsF_len cs fs (by simpa using h)]
/-- The rows as a list of lines. -/
theorem rowF_eq {cs : List (Int × Int)} {fs : List (List Gl)} (h : cs.length = fs.length) : rowF [] cs fs = (List.range (tallF 0 (partsF cs fs))).map fun j => lineF j [] cs (partsF cs fs) := by
  obtain ⟨h1, h2⟩ := rowF_lines cs fs [] h
  apply List.ext_getElem
  · rw [h1]; simp
  · intro j h3 h4
    have := h2 j
    rw [List.getD_eq_getElem?_getD, List.getElem?_eq_getElem h3] at this
    simp only [List.getElem_map, List.getElem_range]
    exact this
theorem tallF_snoc : ∀ (ps : List (List (List Gl))) (t : Nat) (p : List (List Gl)), tallF t (ps ++ [p]) = max (tallF t ps) p.length
  | [], t, p => rfl
  | q :: ps, t, p => by
    show tallF (max t q.length) (ps ++ [p]) = _
    rw [tallF_snoc ps]
    rfl
/-- Lists of lines in memory. -/
def RdP (P : Nat → Prop) (w : World) (v : Value) (ps : List (List (List Gl))) : Prop :=
  ∃ (pa : Option Addr) (cap : Nat), v = .slice pa ps.length cap ∧ ps.length ≤ cap ∧ cap ≤ maxLen ∧ ∀ j (hj : j < ps.length), ∃ b off tv, pa = some ⟨b, off, none⟩ ∧ P b ∧ w.cell? ⟨b, off + j, none⟩ = some tv ∧ RdL P w tv ps[j]
section
variable {P Q : Nat → Prop} {w w' : World} {v : Value} {ps : List (List (List Gl))}
theorem RdP.keep (h : RdP P w v ps) (hk : ∀ a : Addr, P a.block → a.block < w.heap.size → w'.cell? a = w.cell? a) : RdP P w' v ps := by
  obtain ⟨pa, cap, e, h1, h2, h4⟩ := h
  refine ⟨pa, cap, e, h1, h2, fun j hj => ?_⟩
  obtain ⟨b, off, tv, e, hp, hc, hd⟩ := h4 j hj
  exact ⟨b, off, tv, e, hp, (hk ⟨b, off + j, none⟩ hp (cellInL hc)).trans hc, hd.keep hk⟩
theorem RdP.below (h : RdP P w v ps) (hb : Below w.heap.size w w') : RdP P w' v ps := h.keep fun _ _ ha => hb.cell ha
theorem RdP.at_ {pa : Option Addr} {n cap : Nat} (h : RdP P w (.slice pa n cap) ps) {j : Nat} (hj : j < ps.length) : ∃ b off pz cz, pa = some ⟨b, off, none⟩ ∧ P b ∧ w.cell? ⟨b, off + j, none⟩ = some (.slice pz ps[j].length cz) ∧ ps[j].length ≤ cz ∧ cz ≤ maxLen ∧ RdL P w (.slice pz ps[j].length cz) ps[j] := by
  obtain ⟨pa', cap', e, _, _, h4⟩ := h
  cases e
  obtain ⟨b, off, tv, e, hp, hc, hd⟩ := h4 j hj
  obtain ⟨pz, cz, rfl, h5, h6⟩ := hd.form
  exact ⟨b, off, pz, cz, e, hp, hc, h5, h6, hd⟩
end
theorem RdL.move {P Q : Nat → Prop} {w w' : World} {v : Value} {ls : List (List Gl)} (h : RdL P w v ls) (hk : ∀ b, P b → b < w.heap.size → w'.heap[b]? = w.heap[b]? ∧ Q b) : RdL Q w' v ls := by
  obtain ⟨pa, cap, e, h1, h2, h4⟩ := h
  refine ⟨pa, cap, e, h1, h2, fun j hj => ?_⟩
  obtain ⟨b, off, tv, e, hp, hc, hd⟩ := h4 j hj
  have := hk b hp (cellInL hc)
  exact ⟨b, off, tv, e, this.2, (World.cell?_of_block (a := ⟨b, off + j, none⟩) this.1).trans hc, hd.move hk⟩
/-- Parts that a call has made: a row of its own, their lines elsewhere. -/
structure OwnP (B : Nat) (w : World) (v : Value) (ps : List (List (List Gl))) (vs : List Value) : Prop where
  num : vs.length = ps.length
  row : w.ownsRow B 33 1 v ps.length vs
  part : ∀ j (hj : j < ps.length), RdL (fun b => B ≤ b ∧ v.ownBlock ≠ some b) w (vs[j]'(by omega)) ps[j]
section
variable {B : Nat} {w w' : World} {v : Value} {ps : List (List (List Gl))} {vs : List Value}
theorem OwnP.nil (w : World) (B : Nat) : OwnP B w (.slice none 0 0) [] [] := ⟨rfl, World.ownsRow_nil _ _ _ _, fun j hj => absurd hj (by simp)⟩
theorem OwnP.below (h : OwnP B w v ps vs) (hb : Below w.heap.size w w') : OwnP B w' v ps vs := ⟨h.num, own_below h.row hb, fun j hj => (h.part j hj).below hb⟩
theorem OwnP.rd (h : OwnP B w v ps vs) : RdP (fun _ => True) w v ps := by
  rcases h.row.2 with ⟨rfl, h0⟩ | ⟨g, cap, cur, rfl, hb, hg, h1, h2, h3, h4⟩
  · exact ⟨none, 0, by rw [h0], by omega, Nat.zero_le _, fun i hi => absurd hi (by omega)⟩
  · refine ⟨_, cap, rfl, h1, h2, fun j hj => ⟨g, 0, vs[j]'(by have := h.num; omega), rfl, trivial, ?_, (h.part j hj).imp fun _ _ _ => trivial⟩⟩
    have := World.ownsRow.cellAt h.row j (by omega)
    rw [Nat.zero_add, this]
    simp
/-- Behind the append of a part, which lies in blocks of its own. -/
theorem OwnP.push (h : OwnP B w v ps vs) {u v' : Value} {p : List (List Gl)} (hu : RdL (fun b => B ≤ b ∧ v.ownBlock ≠ some b ∧ v'.ownBlock ≠ some b) w u p) (h1 : w'.ownsRow B 33 1 v' (ps.length + 1) (vs ++ [u])) (hg : w.grownBy w' v.ownBlock)
    (ho : ∀ b, v'.ownBlock = some b → v.ownBlock = some b ∨ w.heap.size ≤ b) : OwnP B w' v' (ps ++ [p]) (vs ++ [u]) := by
  have mv : ∀ b, (B ≤ b ∧ v.ownBlock ≠ some b) → b < w.heap.size → w'.heap[b]? = w.heap[b]? ∧ B ≤ b ∧ v'.ownBlock ≠ some b := fun b hb hlt => ⟨hg.block b hlt (fun e => hb.2 e.symm), hb.1, fun e => by
    rcases ho b e with h | h
    · exact hb.2 h
    · omega⟩
  refine ⟨by simp [h.num], by rw [List.length_append]; exact h1, fun j hj => ?_⟩
  by_cases hjl : j < ps.length
  · have e1 : (ps ++ [p])[j] = ps[j] := List.getElem_append_left hjl
    have e2 : (vs ++ [u])[j]'(by simp [h.num]; omega) = vs[j]'(by have := h.num; omega) := List.getElem_append_left (by have := h.num; omega)
    rw [e1, e2]
    exact (h.part j hjl).move mv
  · have hje : j = ps.length := by simp at hj; omega
    have e1 : (ps ++ [p])[j] = p := by simp [hje]
    have e2 : (vs ++ [u])[j]'(by simp [h.num]; omega) = u := by simp [hje, ← h.num]
    rw [e1, e2]
    exact hu.move fun b hb hlt => mv b ⟨hb.1, hb.2.1⟩ hlt
end
theorem infoP : (Try.prog.info? 33).map (fun i => (i.zero, i.size, i.bytes)) = some (some (.slice none 0 0), 1, 24) := by kernel_rfl
end Go.Proofs.Ytadecjjbpoaooaa.Tb
