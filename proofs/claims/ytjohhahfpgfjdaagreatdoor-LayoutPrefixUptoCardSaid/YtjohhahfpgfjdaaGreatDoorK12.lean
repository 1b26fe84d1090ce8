/- The texts that the laws of layout stand on, part 12. -/
import Derived.Test.YtjohhahfpgfjdaaGreatDoorK1
import Derived.Test.YtjohhahfpgfjdaaGreatDoorK11
import Derived.Test.YtjohhahfpgfjdaaGreatDoorProg
import Derived.WalkKit
import Derived.Lib.Hide
import Derived.IntWalk
import Derived.Laws.OwnMore
import Derived.Deep.AppendLies
import Derived.Below
import Derived.BigQuiet
import Derived.Deep.QuietTactic
import Derived.Maps.OwnSet
import Derived.Maps.OwnOps
import Derived.Maps.AppendAt
import Derived.WalkMore
import Derived.Lib.QuietBelow
section
namespace Go.Proofs.YtjohhahfpgfjdaaGreatDoor.Ir
open Go.RowKit Go.Maps Go.Proofs.YtjohhahfpgfjdaaGreatDoor
set_option linter.unusedVariables false

def SaysL (v : Value) (w : World) (e : Ending) (w' : World) : Prop := e = .returned v ∧ Below w.heap.size w w'
theorem cellInL {w : World} {a : Addr} {v : Value} (h : w.cell? a = some v) : a.block < w.heap.size := World.block_lt_of_cell? w _ h
def numsZ (zs : List Int) : List Value := zs.map (Value.int .i64)
theorem numsZ_len (xs : List Int) : (numsZ xs).length = xs.length := by simp [numsZ]
theorem numsZ_app (a b : List Int) : numsZ (a ++ b) = numsZ a ++ numsZ b := by simp [numsZ]
theorem numsZ_one (a : List Int) : ∀ u ∈ numsZ a, u.oneCell' = true := by
  intro u hu
  obtain ⟨x, _, rfl⟩ := List.mem_map.1 hu
  rfl
/-- A list of numbers in memory, in blocks that P holds of. -/
def RdZ (P : Nat → Prop) (w : World) (v : Value) (zs : List Int) : Prop :=
  ∃ (pa : Option Addr) (cap : Nat), v = .slice pa zs.length cap ∧ zs.length ≤ cap ∧ cap ≤ maxLen ∧ ∀ j (hj : j < zs.length), ∃ b off, pa = some ⟨b, off, none⟩ ∧ P b ∧ w.cell? ⟨b, off + j, none⟩ = some (.int .i64 zs[j])
section
variable {P Q : Nat → Prop} {w w' : World} {v : Value} {zs : List Int}
theorem RdZ.keep (h : RdZ P w v zs) (hk : ∀ a : Addr, P a.block → a.block < w.heap.size → w'.cell? a = w.cell? a) : RdZ P w' v zs := by
  obtain ⟨pa, cap, e, h1, h2, h4⟩ := h
  refine ⟨pa, cap, e, h1, h2, fun j hj => ?_⟩
  obtain ⟨b, off, e, hp, hc⟩ := h4 j hj
  exact ⟨b, off, e, hp, (hk ⟨b, off + j, none⟩ hp (cellInL hc)).trans hc⟩
theorem RdZ.below (h : RdZ P w v zs) (hb : Below w.heap.size w w') : RdZ P w' v zs := h.keep fun _ _ ha => hb.cell ha
theorem RdZ.imp (h : RdZ P w v zs) (hq : ∀ b, b < w.heap.size → P b → Q b) : RdZ Q w v zs := by
  obtain ⟨pa, cap, e, h1, h2, h4⟩ := h
  refine ⟨pa, cap, e, h1, h2, fun j hj => ?_⟩
  obtain ⟨b, off, e, hp, hc⟩ := h4 j hj
  exact ⟨b, off, e, hq b (cellInL hc) hp, hc⟩
theorem RdZ.form (h : RdZ P w v zs) : ∃ (pa : Option Addr) (cap : Nat), v = .slice pa zs.length cap ∧ zs.length ≤ cap ∧ cap ≤ maxLen := by
  obtain ⟨pa, cap, e, h1, h2, _⟩ := h
  exact ⟨pa, cap, e, h1, h2⟩
theorem RdZ.cell {pa : Option Addr} {n cap : Nat} (h : RdZ P w (.slice pa n cap) zs) {j : Nat} (hj : j < zs.length) : ∃ b off, pa = some ⟨b, off, none⟩ ∧ w.cell? ⟨b, off + j, none⟩ = some (.int .i64 zs[j]) := by
  obtain ⟨pa', cap', e, _, _, h4⟩ := h
  cases e
  obtain ⟨b, off, e, _, hc⟩ := h4 j hj
  exact ⟨b, off, e, hc⟩
theorem RdZ.own {base n : Nat} (h : w.ownsRow base 3 1 v n (numsZ zs)) (hn : n = zs.length) : RdZ (base ≤ ·) w v zs := by
  subst hn
  rcases h.2 with ⟨rfl, h0⟩ | ⟨g, cap, cur, rfl, hb, hg, h1, h2, h3, h4⟩
  · have : zs = [] := List.eq_nil_of_length_eq_zero h0
    subst this
    exact ⟨none, 0, rfl, Nat.le_refl _, Nat.zero_le _, fun i hi => absurd hi (by simp)⟩
  · refine ⟨_, cap, rfl, h1, h2, fun j hj => ⟨g, 0, rfl, hb, ?_⟩⟩
    rw [Nat.zero_add]
    have := World.ownsRow.cellAt h j (by omega)
    rw [this]
    simp [numsZ, hj]
end
theorem infoI : (Tryz.prog.info? 3).map (fun i => (i.zero, i.size, i.bytes)) = some (some (.int .i64 0), 1, 8) := by kernel_rfl
theorem infoO : (Tryz.prog.info? 53).map (fun i => (i.zero, i.size, i.bytes)) = some (some (.agg #[.int .i64 0, .int .i64 0, .string .empty, .slice none 0 0]), 4, 56) := by kernel_rfl
theorem own_base {W : World} {base : Nat} {e : TypeId} {size : Nat} {v : Value} {n : Nat} {xs : List Value} (h : W.ownsRow base e size v n xs) {c : Nat} (hc : v.ownBlock = some c) : base ≤ c ∧ c < W.heap.size := h.lt c hc
theorem own_stays {W W' : World} {base : Nat} {e : TypeId} {size : Nat} {v : Value} {n : Nat} {xs : List Value} (h : W.ownsRow base e size v n xs) (hk : ∀ c, v.ownBlock = some c → W'.heap[c]? = W.heap[c]?) : W'.ownsRow base e size v n xs := by
  refine ⟨h.1, ?_⟩
  rcases h.2 with h0 | ⟨g, cap, cur, h1, h2, h3, h4⟩
  · exact .inl h0
  · exact .inr ⟨g, cap, cur, h1, h2, (hk g (by rw [h1]; rfl)).trans h3, h4⟩
theorem own_below {W W' : World} {base : Nat} {e : TypeId} {size : Nat} {v : Value} {n : Nat} {xs : List Value} (h : W.ownsRow base e size v n xs) (hb : Below W.heap.size W W') : W'.ownsRow base e size v n xs :=
  own_stays h fun c hc => hb.block c (own_base h hc).2
theorem own_ne {W : World} {b1 b2 : Nat} {e1 e2 : TypeId} {s1 s2 : Nat} {v1 v2 : Value} {n1 n2 : Nat} {x1 x2 : List Value} (h1 : W.ownsRow b1 e1 s1 v1 n1 x1) (h2 : W.ownsRow b2 e2 s2 v2 n2 x2) (hne : e1 ≠ e2) {c : Nat} (hc : v1.ownBlock = some c) : v2.ownBlock ≠ some c := by
  intro hd
  rcases h1.2 with ⟨rfl, _⟩ | ⟨g, cap, cur, rfl, _, hg, _⟩
  · simp [Value.ownBlock] at hc
  · rcases h2.2 with ⟨rfl, _⟩ | ⟨g2, cap2, cur2, rfl, _, hg2, _⟩
    · simp [Value.ownBlock] at hd
    · obtain rfl : g = c := by simpa [Value.ownBlock] using hc
      obtain rfl : g2 = g := by simpa [Value.ownBlock] using hd
      rw [hg] at hg2
      injection hg2 with h
      injection h with _ h
      exact hne h
theorem own_lower {W : World} {base base' : Nat} {e : TypeId} {size : Nat} {v : Value} {n : Nat} {xs : List Value} (h : W.ownsRow base e size v n xs) (hb : base' ≤ base) : W.ownsRow base' e size v n xs := by
  refine ⟨h.1, ?_⟩
  rcases h.2 with h0 | ⟨g, cap, cur, h1, h2, h3⟩
  · exact .inl h0
  · exact .inr ⟨g, cap, cur, h1, Nat.le_trans hb h2, h3⟩
theorem lenL {w : World} {base : Nat} {e : TypeId} {size : Nat} {v : Value} {n : Nat} {xs : List Value} (h : w.ownsRow base e size v n xs) : ∃ (p : Option Addr) (c : Nat), v = .slice p n c := by
  rcases h.2 with ⟨rfl, h0⟩ | ⟨g, cap, cur, rfl, _⟩
  · exact ⟨none, 0, by rw [h0]⟩
  · exact ⟨_, _, rfl⟩

/-- An operation's four cells. -/
def OprIs (P : Nat → Prop) (W : World) (b o : Nat) (x : Opr) : Prop :=
  W.cell? ⟨b, o, none⟩ = some (.int .i64 x.k) ∧ W.cell? ⟨b, o + 1, none⟩ = some (.int .i64 x.n) ∧ W.cell? ⟨b, o + 2, none⟩ = some (.string x.t) ∧ ∃ wv, W.cell? ⟨b, o + 3, none⟩ = some wv ∧ RdZ P W wv x.w
/-- Operations in memory. -/
def RdO (P : Nat → Prop) (w : World) (v : Value) (l : List Opr) : Prop :=
  ∃ (pa : Option Addr) (cap : Nat), v = .slice pa l.length cap ∧ l.length ≤ cap ∧ cap ≤ maxLen ∧ ∀ j (hj : j < l.length), ∃ b off, pa = some ⟨b, off, none⟩ ∧ P b ∧ OprIs P w b (off + j * 4) l[j]
section
variable {P Q : Nat → Prop} {w w' : World} {v : Value} {l : List Opr}
theorem OprIs.keep {b o : Nat} {x : Opr} (h : OprIs P w b o x) (hp : P b) (hk : ∀ a : Addr, P a.block → a.block < w.heap.size → w'.cell? a = w.cell? a) : OprIs P w' b o x := by
  obtain ⟨h0, h1, h2, wv, h3, h4⟩ := h
  exact ⟨(hk ⟨b, o, none⟩ hp (cellInL h0)).trans h0, (hk ⟨b, o + 1, none⟩ hp (cellInL h1)).trans h1, (hk ⟨b, o + 2, none⟩ hp (cellInL h2)).trans h2, wv, (hk ⟨b, o + 3, none⟩ hp (cellInL h3)).trans h3, h4.keep hk⟩
theorem RdO.keep (h : RdO P w v l) (hk : ∀ a : Addr, P a.block → a.block < w.heap.size → w'.cell? a = w.cell? a) : RdO P w' v l := by
  obtain ⟨pa, cap, e, h1, h2, h4⟩ := h
  refine ⟨pa, cap, e, h1, h2, fun j hj => ?_⟩
  obtain ⟨b, off, e, hp, hc⟩ := h4 j hj
  exact ⟨b, off, e, hp, hc.keep hp hk⟩
theorem RdO.below (h : RdO P w v l) (hb : Below w.heap.size w w') : RdO P w' v l := h.keep fun _ _ ha => hb.cell ha
theorem RdO.imp (h : RdO P w v l) (hq : ∀ b, b < w.heap.size → P b → Q b) : RdO Q w v l := by
  obtain ⟨pa, cap, e, h1, h2, h4⟩ := h
  refine ⟨pa, cap, e, h1, h2, fun j hj => ?_⟩
  obtain ⟨b, off, e, hp, h5, h6, h7, wv, h8, h9⟩ := h4 j hj
  exact ⟨b, off, e, hq b (cellInL h5) hp, h5, h6, h7, wv, h8, h9.imp hq⟩
theorem RdO.form (h : RdO P w v l) : ∃ (pa : Option Addr) (cap : Nat), v = .slice pa l.length cap ∧ l.length ≤ cap ∧ cap ≤ maxLen := by
  obtain ⟨pa, cap, e, h1, h2, _⟩ := h
  exact ⟨pa, cap, e, h1, h2⟩
theorem RdO.at_ {pa : Option Addr} {n cap : Nat} (h : RdO P w (.slice pa n cap) l) {j : Nat} (hj : j < l.length) : ∃ b off, pa = some ⟨b, off, none⟩ ∧ OprIs P w b (off + j * 4) l[j] := by
  obtain ⟨pa', cap', e, _, _, h4⟩ := h
  cases e
  obtain ⟨b, off, e, _, hc⟩ := h4 j hj
  exact ⟨b, off, e, hc⟩
end
def oprRow (p : Opr × Value) : List Value := [.int .i64 p.1.k, .int .i64 p.1.n, .string p.1.t, p.2]
def rowsO (l : List (Opr × Value)) : List Value := l.flatMap oprRow
theorem oprRow_len (r : Opr × Value) : (oprRow r).length = 4 := rfl
theorem rowsO_at : ∀ (l : List (Opr × Value)) (j k : Nat) (hj : j < l.length), k < 4 → (rowsO l)[j * 4 + k]? = (oprRow l[j])[k]?
  | [], j, k, hj, _ => absurd hj (by simp)
  | r :: l, 0, k, _, hk => by
    unfold rowsO
    rw [List.flatMap_cons, Nat.zero_mul, Nat.zero_add, List.getElem?_append_left (by rw [oprRow_len]; exact hk)]
    rfl
  | r :: l, j + 1, k, hj, hk => by
    have h := rowsO_at l j k (by simpa using hj) hk
    unfold rowsO at h ⊢
    rw [List.flatMap_cons, List.getElem?_append_right (by rw [oprRow_len]; omega), oprRow_len, show (j + 1) * 4 + k - 4 = j * 4 + k by omega, h]
    simp
theorem rowsO_snoc (l : List (Opr × Value)) (r : Opr × Value) : rowsO (l ++ [r]) = rowsO l ++ oprRow r := by simp [rowsO]
theorem rowsO_one (l : List (Opr × Value)) (hs : ∀ p ∈ l, p.2.oneCell' = true) : ∀ u ∈ rowsO l, u.oneCell' = true := by
  intro u hu
  obtain ⟨r, hm, hr⟩ := List.mem_flatMap.1 hu
  simp only [oprRow, List.mem_cons, List.not_mem_nil, or_false] at hr
  rcases hr with rfl | rfl | rfl | rfl
  · rfl
  · rfl
  · rfl
  · exact hs r hm
/-- Operations in memory that a call has made: a row of its own, each with Widths of its own. -/
structure OwnO (B : Nat) (w : World) (v : Value) (ps : List (Opr × Value)) : Prop where
  row : w.ownsRow B 53 4 v ps.length (rowsO ps)
  wid : ∀ p ∈ ps, w.ownsRow B 3 1 p.2 p.1.w.length (numsZ p.1.w)
section
variable {B : Nat} {w w' : World} {v : Value} {ps : List (Opr × Value)}
theorem own_one {base : Nat} {e : TypeId} {size n : Nat} {xs : List Value} (h : w.ownsRow base e size v n xs) : v.oneCell' = true := by
  obtain ⟨p, c, rfl⟩ := lenL h
  rfl
theorem OwnO.one (h : OwnO B w v ps) : ∀ u ∈ rowsO ps, u.oneCell' = true := rowsO_one ps fun p hp => own_one (h.wid p hp)
theorem OwnO.below (h : OwnO B w v ps) (hb : Below w.heap.size w w') : OwnO B w' v ps := ⟨own_below h.row hb, fun p hp => own_below (h.wid p hp) hb⟩
theorem OwnO.nil (w : World) (B : Nat) : OwnO B w (.slice none 0 0) [] := ⟨World.ownsRow_nil _ _ _ _, fun p hp => absurd hp (by simp)⟩
theorem row_cells (h : w.ownsRow B 53 4 v ps.length (rowsO ps)) {j : Nat} (hj : j < ps.length) : ∃ g cap, v = .slice (some ⟨g, 0, none⟩) ps.length cap ∧ B ≤ g ∧ g < w.heap.size ∧ ps.length ≤ cap ∧ cap ≤ maxLen ∧
    w.cell? ⟨g, j * 4, none⟩ = some (.int .i64 ps[j].1.k) ∧ w.cell? ⟨g, j * 4 + 1, none⟩ = some (.int .i64 ps[j].1.n) ∧ w.cell? ⟨g, j * 4 + 2, none⟩ = some (.string ps[j].1.t) ∧ w.cell? ⟨g, j * 4 + 3, none⟩ = some ps[j].2 := by
  rcases h.2 with ⟨rfl, h0⟩ | ⟨g, cap, cur, rfl, hb, hg, h1, h2, h3, h4⟩
  · omega
  · have c : ∀ k, k < 4 → w.cell? ⟨g, j * 4 + k, none⟩ = (oprRow ps[j])[k]? := fun k hk => by
      rw [World.ownsRow.cellAt h (j * 4 + k) (by omega), rowsO_at ps j k hj hk]
    exact ⟨g, cap, rfl, hb, (Array.getElem?_eq_some_iff.1 hg).1, h1, h2, c 0 (by omega), c 1 (by omega), c 2 (by omega), c 3 (by omega)⟩
theorem OwnO.rd (h : OwnO B w v ps) : RdO (B ≤ ·) w v (ps.map (·.1)) := by
  rcases Nat.eq_zero_or_pos ps.length with h0 | h0
  · have : ps = [] := List.eq_nil_of_length_eq_zero h0
    subst this
    rcases h.row.2 with ⟨rfl, _⟩ | ⟨g, cap, cur, rfl, hb, hg, h1, h2, _⟩
    · exact ⟨none, 0, rfl, Nat.le_refl _, Nat.zero_le _, fun i hi => absurd hi (by simp)⟩
    · exact ⟨_, cap, rfl, h1, h2, fun i hi => absurd hi (by simp)⟩
  · obtain ⟨g, cap, rfl, hb, hg, h1, h2, _⟩ := row_cells h.row h0
    refine ⟨_, cap, by rw [List.length_map], by rw [List.length_map]; exact h1, h2, fun j hj => ?_⟩
    have hj' : j < ps.length := by simpa using hj
    obtain ⟨g', cap', e, _, _, _, _, c0, c1, c2, c3⟩ := row_cells h.row hj'
    cases e
    refine ⟨g, 0, rfl, hb, ?_⟩
    rw [Nat.zero_add, List.getElem_map]
    exact ⟨c0, c1, c2, _, c3, RdZ.own (h.wid _ (List.getElem_mem hj')) rfl⟩
end
theorem run_append_nilL {P : Program} (w : World) (base : Nat) (t ty e : TypeId) (i : TypeInfo) (size : Nat) (ht : P.underlying t = some (.slice e)) (hi : P.info? e = some i)
    (v : Value) (n : Nat) (xs : List Value) (hown : w.ownsRow base e size v n xs) (c : Nat) : (Builtin.append_ #[t, t] ty #[v, .slice none 0 c]).run P w = .ok v w := by
  rcases hown.2 with ⟨rfl, rfl⟩ | ⟨g, cap, cur, rfl, _, _, hnc, _⟩
  · simp [Builtin.append_, run_underlying ht, sizeOf, typeInfo, hi, Builtin.lenOf, Builtin.firstCells]
  · simp [Builtin.append_, run_underlying ht, sizeOf, typeInfo, hi, Builtin.lenOf, Builtin.firstCells, hnc, storeCells]
/-- A list of numbers is copied behind one of the call's own. -/
theorem run_twinZ {P : Nat → Prop} (w : World) (ty : TypeId) (l : List Int) (xs : List Int) (v d : Value) (h : RdZ P w v l) (hl : (xs.length + l.length) * 8 ≤ 140737488355328) (B : Nat) (hd : w.ownsRow B 3 1 d xs.length (numsZ xs)) (hB : B ≤ w.heap.size) :
    ∃ v' w', (Builtin.append_ #[49, 49] ty #[d, v]).run Tryz.prog w = .ok v' w' ∧ w'.ownsRow B 3 1 v' (xs ++ l).length (numsZ (xs ++ l)) ∧ w.grownBy w' d.ownBlock := by
  obtain ⟨i0, hi, hz0, hz1, hz2⟩ := info_parts infoI
  obtain ⟨pa, cap, rfl, h1, h2, h4⟩ := h
  cases pa with
  | none =>
    have hx0 : l = [] := by
      rcases Nat.eq_zero_or_pos l.length with h0 | h0
      · exact List.eq_nil_of_length_eq_zero h0
      · obtain ⟨_, _, e, _⟩ := h4 0 h0
        cases e
    subst hx0
    exact ⟨_, _, run_append_nilL w B 49 ty 3 i0 1 Tryz.underlying49 hi d _ _ hd cap, by simpa using hd, World.grownBy.refl _ _⟩
  | some a =>
    have hn : ∀ j u, (numsZ l)[j]? = some u → w.cell? (a.add j) = some u := by
      intro j u hu
      have hj : j < l.length := by have := (List.getElem?_eq_some_iff.1 hu).1; rwa [numsZ_len] at this
      obtain ⟨b, off, e, _, hc⟩ := h4 j hj
      cases e
      rw [show ((⟨b, off, none⟩ : Addr).add j) = ⟨b, off + j, none⟩ by simp [Addr.add], hc]
      simpa [numsZ, hj] using hu
    obtain ⟨v', w', hr, ho, hg, _, _⟩ := run_append_own_at (P := Tryz.prog) w B 49 ty 3 i0 (.int .i64 0) 1 8 Tryz.underlying49 hi hz0 hz1 hz2 rfl (by decide) d xs.length (numsZ xs) hd a l.length cap (numsZ l) (by rw [numsZ_len, Nat.mul_one]) hn (numsZ_one l) (by unfold maxLen; omega) (by omega) hB
    exact ⟨v', w', hr, by rw [List.length_append, numsZ_app]; exact ho, hg⟩
theorem wpList_app2 {W W' : World} {ops : Array Oper} {rest : List Oper} {o : Oper} {a : Act} {Q : Exit → Act → World → Prop} (hgd : o.guard = none) (s y : Operand) (t : TypeId)
    (ho : o.op = .call { callee := .builtin .append, args := #[s, y], argTypes := #[t, t] }) {v u v' : Value} (hs : a.eval s = v) (hy : a.eval y = u)
    (hr : (Builtin.append_ #[t, t] o.type #[v, u]).run Tryz.prog W = .ok v' W') (hK : wpList Tryz.prog ops Q rest (a.put o.dst v') W') : wpList Tryz.prog ops Q (o :: rest) a W := by
  refine wpList_plain hgd fun K hK' => ?_
  unfold Oper.wp execOp
  simp only [ho, resolve, invoke, builtin, Sem.run_bind, Sem.run_pure, Result.andThen_ok, List.map_toArray, List.map_cons, List.map_nil, hs, hy, hr]
  exact hK' _ _ hK
end Go.Proofs.YtjohhahfpgfjdaaGreatDoor.Ir
end
section
namespace Go.Proofs.YtjohhahfpgfjdaaGreatDoor.Ir
open Go.RowKit Go.Maps Go.Proofs.YtjohhahfpgfjdaaGreatDoor
set_option linter.unusedVariables false

def lvVal (o : Lv) : Value := .agg #[.int .i64 (o.wide : Nat), .int .i64 (o.parts : Nat), .int .i64 (o.cells : Nat)]
/-- The 44 cells of what is open. -/
structure CurIs (c : Array Value) (s : Wk) : Prop where
  size : c.size = 44
  all : ∀ j, j < 24 → ∃ z, c[j]? = some (.int .i64 z)
  op : ∀ j (hj : j < s.op.length), c[j * 3]? = some (.int .i64 (s.op[j].wide : Nat)) ∧ c[j * 3 + 1]? = some (.int .i64 (s.op[j].parts : Nat)) ∧ c[j * 3 + 2]? = some (.int .i64 (s.op[j].cells : Nat))
  depth : c[24]? = some (.int .i64 (s.op.length : Nat))
  br : ∀ j (hj : j < s.br.length), c[25 + j]? = some (.int .i64 s.br[j])
  nest : c[41]? = some (.int .i64 (s.br.length : Nat))
  para : c[42]? = some (.bool s.para)
  ah : c[43]? = some (.int .i64 s.ah)
  hop : s.op.length ≤ 8
  hbr : s.br.length ≤ 16
def WkIs (M : Nat) (w : World) (s : Wk) : Prop := ∃ c : Array Value, w.heap[M]? = some (.cells c 124 (0, 0)) ∧ CurIs c s
theorem WkIs.lt {M : Nat} {w : World} {s : Wk} (h : WkIs M w s) : M < w.heap.size := by
  obtain ⟨c, h1, _⟩ := h
  exact (Array.getElem?_eq_some_iff.1 h1).1
theorem WkIs.below {M : Nat} {w w' : World} {s : Wk} (h : WkIs M w s) (hb : Below w.heap.size w w') : WkIs M w' s := by
  obtain ⟨c, h1, h2⟩ := h
  exact ⟨c, (hb.block M (Array.getElem?_eq_some_iff.1 h1).1).trans h1, h2⟩
theorem WkIs.cells {M : Nat} {w : World} {s : Wk} (h : WkIs M w s) : w.cell? ⟨M, 24, none⟩ = some (.int .i64 (s.op.length : Nat)) ∧ w.cell? ⟨M, 41, none⟩ = some (.int .i64 (s.br.length : Nat)) ∧ w.cell? ⟨M, 42, none⟩ = some (.bool s.para) ∧ w.cell? ⟨M, 43, none⟩ = some (.int .i64 s.ah) := by
  obtain ⟨c, h1, h2⟩ := h
  refine ⟨?_, ?_, ?_, ?_⟩ <;> rw [cell_of_row _ _ _ _ _ _ h1]
  · exact h2.depth
  · exact h2.nest
  · exact h2.para
  · exact h2.ah
theorem WkIs.lv {M : Nat} {w : World} {s : Wk} (h : WkIs M w s) {j : Nat} (hj : j < s.op.length) : w.cell? ⟨M, j * 3, none⟩ = some (.int .i64 (s.op[j].wide : Nat)) ∧ w.cell? ⟨M, j * 3 + 1, none⟩ = some (.int .i64 (s.op[j].parts : Nat)) ∧ w.cell? ⟨M, j * 3 + 2, none⟩ = some (.int .i64 (s.op[j].cells : Nat)) := by
  obtain ⟨c, h1, h2⟩ := h
  obtain ⟨a, b, d⟩ := h2.op j hj
  refine ⟨?_, ?_, ?_⟩ <;> rw [cell_of_row _ _ _ _ _ _ h1]
  · exact a
  · exact b
  · exact d
theorem WkIs.brace {M : Nat} {w : World} {s : Wk} (h : WkIs M w s) {j : Nat} (hj : j < s.br.length) : w.cell? ⟨M, 25 + j, none⟩ = some (.int .i64 s.br[j]) := by
  obtain ⟨c, h1, h2⟩ := h
  rw [cell_of_row _ _ _ _ _ _ h1]
  exact h2.br j hj
theorem WkIs.bounds {M : Nat} {w : World} {s : Wk} (h : WkIs M w s) : s.op.length ≤ 8 ∧ s.br.length ≤ 16 := by
  obtain ⟨c, _, h2⟩ := h
  exact ⟨h2.hop, h2.hbr⟩
theorem topL_at {s : Wk} (h : 0 < s.op.length) : topL s = s.op[s.op.length - 1] := by
  unfold topL
  rw [List.getLast?_eq_getElem?, List.getElem?_eq_getElem (by omega)]
  rfl
theorem topL_none {s : Wk} (h : s.op.length = 0) : topL s = lv0 := by
  unfold topL
  rw [List.eq_nil_of_length_eq_zero h]
  rfl

set_option maxRecDepth 100000 in
theorem within_pro (a lo hi : Int) (w : World) : Calls Tryz.prog 77 #[.int .i64 a, .int .i64 lo, .int .i64 hi] w fun e w' => e = .returned (.bool (decide (lo ≤ a ∧ a < hi))) ∧ w = w' := by
  by_cases h1 : lo ≤ a
  · by_cases h2 : a < hi
    · rw [decide_eq_true (show lo ≤ a ∧ a < hi from ⟨h1, h2⟩)]
      go_enter Tryz.func77, Tryz.ntmps77
      go_wp2_with fail
      go_ret
      exact ⟨rfl, rfl⟩
    · rw [decide_eq_false (show ¬ (lo ≤ a ∧ a < hi) by omega)]
      go_enter Tryz.func77, Tryz.ntmps77
      go_wp2_with fail
      go_ret
      exact ⟨rfl, rfl⟩
  · rw [decide_eq_false (show ¬ (lo ≤ a ∧ a < hi) by omega)]
    go_enter Tryz.func77, Tryz.ntmps77
    go_wp2_with fail
    go_ret
    exact ⟨rfl, rfl⟩
set_option maxRecDepth 100000 in
theorem isLink_pro (k : Int) (w : World) : Calls Tryz.prog 81 #[.int .i64 k] w fun e w' => e = .returned (.bool (isLk k)) ∧ w = w' := by
  by_cases h1 : k = 3
  · subst h1
    go_enter Tryz.func81, Tryz.ntmps81
    go_wp2_with fail
    go_ret
    exact ⟨rfl, rfl⟩
  · by_cases h2 : k = 4
    · subst h2
      go_enter Tryz.func81, Tryz.ntmps81
      go_wp2_with fail
      go_ret
      exact ⟨rfl, rfl⟩
    · have h3 : (k == 3) = false := by simpa using h1
      have h4 : (k == 4) = false := by simpa using h2
      have h5 : isLk k = false := by unfold isLk; rw [decide_eq_false h1, decide_eq_false h2]; rfl
      rw [h5]
      clear h1 h2 h5
      go_enter Tryz.func81, Tryz.ntmps81
      go_wp2_with fail
      go_ret
      exact ⟨rfl, rfl⟩
set_option maxRecDepth 100000 in
theorem table_pro (o : Lv) (w : World) : Calls Tryz.prog 82 #[lvVal o] w (SaysL (.bool (tabB o)) w) := by
  unfold lvVal tabB
  have HB := Lib.hid ((Below.refl w.heap.size w).alloc (Nat.le_refl _) (.cells #[.int .i64 (o.wide : Nat), .int .i64 (o.parts : Nat), .int .i64 (o.cells : Nat)] 120))
  by_cases h1 : 0 < o.wide
  · rw [decide_eq_true h1]
    have h2 : (0 : Int) < (o.wide : Nat) := by omega
    go_enter Tryz.func82, Tryz.ntmps82
    go_wp2_with fail
    go_ret
    exact ⟨rfl, HB.out⟩
  · rw [decide_eq_false h1]
    have h2 : ¬ (0 : Int) < (o.wide : Nat) := by omega
    go_enter Tryz.func82, Tryz.ntmps82
    go_wp2_with fail
    go_ret
    exact ⟨rfl, HB.out⟩
set_option maxRecDepth 100000 in
theorem ended_pro (M : Nat) (s : Wk) (w : World) (h : WkIs M w s) : Calls Tryz.prog 52 #[.pointer (some ⟨M, 0, none⟩)] w fun e w' => e = .returned (.bool (endedB s)) ∧ w = w' := by
  obtain ⟨c0, c1, c2, c3⟩ := h.cells
  unfold endedB
  obtain ⟨pa, br, op, ah⟩ := s
  dsimp only at c0 c1 c2 c3 ⊢
  clear c1 c3 h
  cases pa with
  | true =>
    go_enter Tryz.func52, Tryz.ntmps52
    go_wp2_with fail
    go_ret
    exact ⟨rfl, rfl⟩
  | false =>
    by_cases h1 : op.length = 0
    · rw [h1] at c0
      rw [decide_eq_true h1]
      clear h1
      go_enter Tryz.func52, Tryz.ntmps52
      go_wp2_with fail
      go_ret
      exact ⟨rfl, rfl⟩
    · rw [decide_eq_false h1]
      have h2 : ((op.length : Int) == 0) = false := by simpa using h1
      clear h1
      go_enter Tryz.func52, Tryz.ntmps52
      go_wp2_with fail
      go_ret
      exact ⟨rfl, rfl⟩
set_option maxRecDepth 100000 in
set_option maxHeartbeats 1000000 in
theorem innermost_pro (M : Nat) (s : Wk) (w : World) (h : WkIs M w s) : Calls Tryz.prog 79 #[.pointer (some ⟨M, 0, none⟩)] w (SaysL (lvVal (topL s)) w) := by
  obtain ⟨c0, c1, c2, c3⟩ := h.cells
  have hbd := h.bounds.1
  have hL := h.lt
  by_cases h1 : s.op.length = 0
  · rw [h1] at c0
    rw [topL_none h1]
    have HB := Lib.hid ((Below.refl w.heap.size w).alloc (Nat.le_refl _) (.cells #[.int .i64 0, .int .i64 0, .int .i64 0] 120))
    clear h1 c1 c2 c3 h hbd
    go_enter Tryz.func79, Tryz.ntmps79
    go_wp2_with fail
    exact bodyPost_ret (v := lvVal lv0) (by simp [results, Tryz.results79, go_sem, lvVal, lv0]) rfl ⟨rfl, HB.out⟩
  · have h2 : ((s.op.length : Int) == 0) = false := by simpa using h1
    obtain ⟨d0, d1, d2⟩ := h.lv (j := s.op.length - 1) (by omega)
    rw [← topL_at (by omega)] at d0 d1 d2
    obtain ⟨t, ht⟩ : ∃ t, topL s = t := ⟨_, rfl⟩
    rw [ht] at d0 d1 d2 ⊢
    obtain ⟨n, hn⟩ : ∃ n, s.op.length = n + 1 := ⟨s.op.length - 1, by omega⟩
    rw [hn] at c0 d0 d1 d2 h2
    have e1 : wrap64 (((n + 1 : Nat) : Int) - 1) = (n : Int) := by unfold wrap64; omega
    have e2 : ((n + 1 : Nat) : Int) - 1 = (n : Int) := by omega
    rw [show n + 1 - 1 = n by omega] at d0 d1 d2
    have n8 : (n : Int) < 8 := by omega
    have n8' : n < 8 := by omega
    have HB := Lib.hid ((Below.refl w.heap.size w).alloc (Nat.le_refl _) (.cells #[.int .i64 (t.wide : Nat), .int .i64 (t.parts : Nat), .int .i64 (t.cells : Nat)] 120))
    clear c1 c2 c3 h hbd h1 ht hn
    go_enter Tryz.func79, Tryz.ntmps79
    go_wp2_with fail
    go_region
    go_wp2_with fail
    exact bodyPost_ret (v := lvVal t) (by simp [results, Tryz.results79, go_sem, lvVal]) rfl ⟨rfl, HB.out.drew⟩
end Go.Proofs.YtjohhahfpgfjdaaGreatDoor.Ir
end
