/- Append of one list to another, empty or not; a list of tokens. -/
import Derived.Test.YtmceiehnfmgioaaGreatDoorMv
namespace Go.Proofs.YtmceiehnfmgioaaGreatDoor
open Go.RowKit
set_option linter.unusedVariables false

section
variable {P : Program} {w : World}
theorem run_append_row (base : Nat) (t ty e : TypeId) (i : TypeInfo) (z : Value) (size bytes : Nat) (ht : P.underlying t = some (.slice e)) (hi : P.info? e = some i) (hz : i.zero = some z)
    (hsize : i.size = size) (hby : i.bytes = bytes) (hzs : z.cells.size = size) (hsz : 0 < size)
    (v : Value) (n : Nat) (xs : List Value) (hown : w.ownsRow base e size v n xs) (b2 : Nat) (vx : Value) (m : Nat) (ys : List Value) (hx : w.ownsRow b2 e size vx m ys) (h1 : ∀ u ∈ ys, u.oneCell' = true)
    (h63 : n + m ≤ maxLen) (hbytes : (n + m) * bytes ≤ 140737488355328) (hbase : base ≤ w.heap.size) :
    ∃ v' w', (Builtin.append_ #[t, t] ty #[v, vx]).run P w = .ok v' w' ∧ w'.ownsRow base e size v' (n + m) (xs ++ ys) ∧ w.grownBy w' v.ownBlock := by
  have hx2 := hx
  rcases hx.2 with ⟨rfl, rfl⟩ | ⟨g, cap, cur, rfl, _⟩
  · have hys : ys = [] := List.eq_nil_of_length_eq_zero (by have := hx.1; omega)
    subst hys
    exact ⟨v, w, run_append_owned_none w base t ty e i size ht hi v n xs hown, by simpa using hown, ⟨rfl, rfl, rfl, Nat.le_refl _, fun _ _ _ => rfl⟩⟩
  · obtain ⟨v', w', h2, h3, h4, _⟩ := run_append_own (P := P) w base t ty e i z size bytes ht hi hz hsize hby hzs hsz v n xs hown ⟨g, 0, none⟩ m cap ys hx2.1
      (fun j u hj => by
        have hjl : j < m * size := by have := hx2.1; have := (List.getElem?_eq_some_iff.1 hj).1; omega
        have h5 := World.ownsRow.cellAt hx2 j hjl
        rw [hj] at h5
        have e6 : (⟨g, 0, none⟩ : Addr).add j = ⟨g, j, none⟩ := by rw [Addr.add_lit, Nat.zero_add]
        rw [e6]; exact h5) h1 h63 hbytes hbase
    exact ⟨v', w', h2, h3, h4⟩
theorem wpList_append_row {ops : Array Oper} {rest : List Oper} {o : Oper} {a : Act} {Q : Exit → Act → World → Prop} (hgd : o.guard = none) (s x : Operand) (t : TypeId)
    (ho : o.op = .call { callee := .builtin .append, args := #[s, x], argTypes := #[t, t] })
    (base : Nat) (e : TypeId) (i : TypeInfo) (z : Value) (size bytes : Nat) (ht : P.underlying t = some (.slice e)) (hi : P.info? e = some i) (hz : i.zero = some z)
    (hsize : i.size = size) (hby : i.bytes = bytes) (hzs : z.cells.size = size) (hsz : 0 < size)
    (v : Value) (n : Nat) (xs : List Value) (hs : a.eval s = v) (hown : w.ownsRow base e size v n xs) (b2 : Nat) (vx : Value) (m : Nat) (ys : List Value) (hvx : a.eval x = vx) (hx : w.ownsRow b2 e size vx m ys) (h1 : ∀ u ∈ ys, u.oneCell' = true)
    (h63 : n + m ≤ maxLen) (hbytes : (n + m) * bytes ≤ 140737488355328) (hbase : base ≤ w.heap.size)
    (h : ∀ v' w', w'.ownsRow base e size v' (n + m) (xs ++ ys) → w.grownBy w' v.ownBlock → wpList P ops Q rest (a.put o.dst v') w') : wpList P ops Q (o :: rest) a w :=
  wpList_plain hgd fun _ hK => by
    obtain ⟨v', w', hr, h2, h3⟩ := run_append_row (P := P) (w := w) base t o.type e i z size bytes ht hi hz hsize hby hzs hsz v n xs hown b2 vx m ys hx h1 h63 hbytes hbase
    unfold Oper.wp execOp
    simp only [ho, resolve, invoke, builtin, Sem.run_bind, Sem.run_pure, Result.andThen_ok, List.map_toArray, List.map_cons, List.map_nil, hs, hvx, hr]
    exact hK _ _ (h v' w' h2 h3)
end
theorem moved_law' (l : List Tok) (v : Value) (by' fr : Nat) (bi fi : Int) (hbi : bi = by') (hfi : fi = fr) (w : World) (ha : Toks w v l) (hl : l.length ≤ 540000000) (hln : ∀ t ∈ l, t.line + by' ≤ 4000000000) (hby : by' ≤ 4000000000) (hfr : fr ≤ 4000000000) :
    Calls Tryz.prog 24 #[v, .int .i64 bi, .int .i64 fi] w fun e w' => ∃ v', e = .returned v' ∧ w'.ownsRow w.heap.size 40 5 v' l.length (tokRows (l.map (shT (mvF fr by')))) ∧ Below w.heap.size w w' := by
  subst hbi; subst hfi
  exact moved_law l v by' fr w ha hl hln hby hfr
theorem tokRows_app (a b : List Tok) : tokRows (a ++ b) = tokRows a ++ tokRows b := by simp [tokRows]
theorem tokRows_one (l : List Tok) : ∀ u ∈ tokRows l, u.oneCell' = true := by
  intro u hu
  unfold tokRows at hu
  obtain ⟨t, _, h⟩ := List.mem_flatMap.1 hu
  exact tokRow_one t u h
end Go.Proofs.YtmceiehnfmgioaaGreatDoor
