/- The law's twin and whole: a sheet in new memory. -/
import Derived.Test.YtceanagnkcejgaaGreatDoorS2
import Derived.Laws.OwnMore
import Derived.Laws.AppendOwn
import Derived.Deep.AppendLies
import Derived.Deep.RegionLaw
namespace Go.Proofs.YtceanagnkcejgaaGreatDoor
open Go.RowKit
set_option linter.unusedVariables false

section
variable {P : Program} {w : World}
theorem run_append_nilc (base : Nat) (t ty e : TypeId) (i : TypeInfo) (size : Nat) (ht : P.underlying t = some (.slice e)) (hi : P.info? e = some i)
    (v : Value) (n : Nat) (xs : List Value) (hown : w.ownsRow base e size v n xs) (c : Nat) :
    (Builtin.append_ #[t, t] ty #[v, .slice none 0 c]).run P w = .ok v w := by
  rcases hown.2 with ⟨rfl, rfl⟩ | ⟨g, cap, cur, rfl, _, _, hnc, _⟩
  · simp [Builtin.append_, run_underlying ht, sizeOf, typeInfo, hi, Builtin.lenOf, Builtin.firstCells]
  · simp [Builtin.append_, run_underlying ht, sizeOf, typeInfo, hi, Builtin.lenOf, Builtin.firstCells, hnc, storeCells]
/-- What is appended: so many elements, the cells known where there is one. -/
structure Lies (w : World) (size : Nat) (vx : Value) (m : Nat) (ys : List Value) : Prop where
  len : ys.length = m * size
  one : ∀ u ∈ ys, u.oneCell' = true
  at' : (∃ c, vx = .slice none 0 c ∧ m = 0) ∨ ∃ a c, vx = .slice (some a) m c ∧ ∀ j u, ys[j]? = some u → w.cell? (a.add j) = some u
theorem run_append_lies' (base : Nat) (t ty e : TypeId) (i : TypeInfo) (z : Value) (size bytes : Nat) (ht : P.underlying t = some (.slice e)) (hi : P.info? e = some i) (hz : i.zero = some z)
    (hsize : i.size = size) (hby : i.bytes = bytes) (hzs : z.cells.size = size) (hsz : 0 < size)
    (v : Value) (n : Nat) (xs : List Value) (hown : w.ownsRow base e size v n xs) (vx : Value) (m : Nat) (ys : List Value) (hx : Lies w size vx m ys)
    (h63 : n + m ≤ maxLen) (hbytes : (n + m) * bytes ≤ 140737488355328) (hbase : base ≤ w.heap.size) :
    ∃ v' w', (Builtin.append_ #[t, t] ty #[v, vx]).run P w = .ok v' w' ∧ w'.ownsRow base e size v' (n + m) (xs ++ ys) ∧ w.grownBy w' v.ownBlock := by
  rcases hx.at' with ⟨c, rfl, rfl⟩ | ⟨a, c, rfl, hc⟩
  · have hys : ys = [] := List.eq_nil_of_length_eq_zero (by have := hx.len; omega)
    subst hys
    exact ⟨v, w, run_append_nilc base t ty e i size ht hi v n xs hown c, by simpa using hown, ⟨rfl, rfl, rfl, Nat.le_refl _, fun _ _ _ => rfl⟩⟩
  · obtain ⟨v', w', h2, h3, h4, _⟩ := run_append_own (P := P) w base t ty e i z size bytes ht hi hz hsize hby hzs hsz v n xs hown a m c ys hx.len hc hx.one h63 hbytes hbase
    exact ⟨v', w', h2, h3, h4⟩
theorem wpList_append_lies' {ops : Array Oper} {rest : List Oper} {o : Oper} {a : Act} {Q : Exit → Act → World → Prop} (hgd : o.guard = none) (s x : Operand) (t : TypeId)
    (ho : o.op = .call { callee := .builtin .append, args := #[s, x], argTypes := #[t, t] })
    (base : Nat) (e : TypeId) (i : TypeInfo) (z : Value) (size bytes : Nat) (ht : P.underlying t = some (.slice e)) (hi : P.info? e = some i) (hz : i.zero = some z)
    (hsize : i.size = size) (hby : i.bytes = bytes) (hzs : z.cells.size = size) (hsz : 0 < size)
    (v : Value) (n : Nat) (xs : List Value) (hs : a.eval s = v) (hown : w.ownsRow base e size v n xs) (vx : Value) (m : Nat) (ys : List Value) (hvx : a.eval x = vx) (hx : Lies w size vx m ys)
    (h63 : n + m ≤ maxLen) (hbytes : (n + m) * bytes ≤ 140737488355328) (hbase : base ≤ w.heap.size)
    (h : ∀ v' w', w'.ownsRow base e size v' (n + m) (xs ++ ys) → w.grownBy w' v.ownBlock → wpList P ops Q rest (a.put o.dst v') w') : wpList P ops Q (o :: rest) a w :=
  wpList_plain hgd fun _ hK => by
    obtain ⟨v', w', hr, h2, h3⟩ := run_append_lies' (P := P) (w := w) base t o.type e i z size bytes ht hi hz hsize hby hzs hsz v n xs hown vx m ys hx h63 hbytes hbase
    unfold Oper.wp execOp
    simp only [ho, resolve, invoke, builtin, Sem.run_bind, Sem.run_pure, Result.andThen_ok, List.map_toArray, List.map_cons, List.map_nil, hs, hvx, hr]
    exact hK _ _ (h v' w' h2 h3)
end
theorem Lies.alloc {w : World} {size : Nat} {vx : Value} {m : Nat} {ys : List Value} (h : Lies w size vx m ys) (o : Obj) : Lies (w.alloc o) size vx m ys := by
  refine ⟨h.len, h.one, ?_⟩
  rcases h.at' with h1 | ⟨a, c, rfl, hc⟩
  · exact .inl h1
  · exact .inr ⟨a, c, rfl, fun j u hj => by
      have := hc j u hj
      exact (((Below.refl _ w).alloc (Nat.le_refl _) o).cell (World.block_lt_of_cell? w _ this)).trans this⟩
theorem Lies.below {w w' : World} {size : Nat} {vx : Value} {m : Nat} {ys : List Value} (h : Lies w size vx m ys) (hb : Below w.heap.size w w') : Lies w' size vx m ys := by
  refine ⟨h.len, h.one, ?_⟩
  rcases h.at' with h1 | ⟨a, c, rfl, hc⟩
  · exact .inl h1
  · exact .inr ⟨a, c, rfl, fun j u hj => by
      have := hc j u hj
      exact (hb.cell (World.block_lt_of_cell? w _ this)).trans this⟩
theorem styRows_at : ∀ (l : List Sty) (j : Nat) (u : Value), (styRows l)[j]? = some u → ∃ i k, ∃ hi : i < l.length, j = i * 5 + k ∧ (styRow l[i])[k]? = some u
  | [], j, u, h => by simp [styRows] at h
  | a :: l, j, u, h => by
    have e : styRows (a :: l) = styRow a ++ styRows l := by simp [styRows]
    have hl : (styRow a).length = 5 := rfl
    rw [e] at h
    rcases Nat.lt_or_ge j 5 with h5 | h5
    · rw [List.getElem?_append_left (by omega)] at h
      exact ⟨0, j, by simp, by omega, h⟩
    · rw [List.getElem?_append_right (by omega), hl] at h
      obtain ⟨i, k, hi, h1, h2⟩ := styRows_at l (j - 5) u h
      exact ⟨i + 1, k, by simpa using hi, by omega, by simpa using h2⟩
theorem Sh.lies {w : World} {v : Value} {l : List Sty} (h : Sh w v l) : Lies w 5 v l.length (styRows l) := by
  obtain ⟨pa, cap, rfl, _, _, h4⟩ := h
  refine ⟨styRows_len l, styRows_one l, ?_⟩
  cases pa with
  | none =>
    left
    have : l.length = 0 := by
      rcases Nat.eq_zero_or_pos l.length with h | h
      · exact h
      · obtain ⟨b, off, e, _⟩ := h4 0 h; cases e
    exact ⟨cap, by rw [this], this⟩
  | some a =>
    right
    refine ⟨a, cap, rfl, fun j u hj => ?_⟩
    obtain ⟨i, k, hi, rfl, hk⟩ := styRows_at l j u hj
    obtain ⟨b, off, e, hc⟩ := h4 i hi
    cases e
    have := hc k u hk
    rw [Addr.add_lit, ← Nat.add_assoc]
    exact this

set_option maxRecDepth 100000 in
set_option maxHeartbeats 2000000 in
theorem twin_law (l : List Sty) (v : Value) (w : World) (h : Sh w v l) (hl : l.length * 56 ≤ 140737488352000) : Calls Tryz.prog 13 #[v] w (MakesSh l w) := by
  obtain ⟨i0, hi0, hz0, hz1, hz2⟩ := info_parts infoSty
  have HL := Lib.hid h.lies
  have E1 := Lib.hid (World.ownsRow_lit (e := 29) (size := 5) (base := w.heap.size) w #[] 0 (Nat.le_refl _) (Nat.zero_le _) rfl)
  have E1s := Lib.hid (show w.heap.size ≤ (w.alloc (.cells #[] 29)).heap.size by simp)
  have M1 := Lib.hid (show 0 + l.length ≤ maxLen by unfold maxLen; omega)
  have M2 := Lib.hid (show (0 + l.length) * 56 ≤ 140737488355328 by omega)
  have AG := Lib.hid (show (Value.agg #[.string .empty, .string .empty, .int .i64 0, .int .i64 0, .int .i64 0]).cells.size = 5 from rfl)
  clear h hl
  go_enter Tryz.func13, Tryz.ntmps13
  go_wp2_with (at_builtin; go_loud (refine wpList_append_lies' rfl _ _ 22 rfl w.heap.size 29 i0 (.agg #[.string .empty, .string .empty, .int .i64 0, .int .i64 0, .int .i64 0]) 5 56 Tryz.underlying22 hi0 hz0 hz1 hz2 rfl (by decide) _ _ _ rfl E1.out v _ _ rfl (HL.out.alloc _) M1.out M2.out E1s.out ?_); intro v5 w5 hown5 hg5; have HO5 := Lib.hid hown5; have B5 := Lib.hid (((Below.refl w.heap.size w).alloc (Nat.le_refl _) _).grown hg5 E1s.out (fun k hk => (E1.out.lt k hk).1)); clear hown5 hg5)
  go_ret
  refine ⟨_, rfl, ?_, B5.out⟩
  have := HO5.out
  rwa [Nat.zero_add] at this
set_option maxRecDepth 100000 in
set_option maxHeartbeats 2000000 in
theorem lwhole_law (l : List Sty) (v : Value) (w : World) (h : Sh w v l) (hl : l.length * 56 ≤ 140737488351232) : Calls Tryz.prog 17 #[v] w (MakesSh (baseL ++ l) w) := by
  obtain ⟨i0, hi0, hz0, hz1, hz2⟩ := info_parts infoSty
  have HL := Lib.hid h.lies
  have M1 := Lib.hid (show baseL.length + l.length ≤ maxLen by unfold maxLen baseL; simp; omega)
  have M2 := Lib.hid (show (baseL.length + l.length) * 56 ≤ 140737488355328 by unfold baseL; simp; omega)
  have AG := Lib.hid (show (Value.agg #[.string .empty, .string .empty, .int .i64 0, .int .i64 0, .int .i64 0]).cells.size = 5 from rfl)
  clear h hl
  go_enter Tryz.func17, Tryz.ntmps17
  go_wp2_with fail
  refine (base_ref w).mono ?_
  rintro e w1 ⟨v1, rfl, ho1, hb1⟩
  have HO1 := Lib.hid ho1
  have HB1 := Lib.hid hb1
  clear ho1 hb1
  go_wp2_with (at_builtin; go_loud (refine wpList_append_lies' rfl _ _ 22 rfl w.heap.size 29 i0 (.agg #[.string .empty, .string .empty, .int .i64 0, .int .i64 0, .int .i64 0]) 5 56 Tryz.underlying22 hi0 hz0 hz1 hz2 rfl (by decide) _ _ _ rfl HO1.out v _ _ rfl (HL.out.below HB1.out) M1.out M2.out HB1.out.size ?_); intro v5 w5 hown5 hg5; have HO5 := Lib.hid hown5; have B5 := Lib.hid (HB1.out.grown hg5 HB1.out.size (fun k hk => (HO1.out.lt k hk).1)); clear hown5 hg5)
  go_ret
  refine ⟨_, rfl, ?_, B5.out⟩
  have := HO5.out
  rw [← List.length_append, ← styRows_app] at this
  exact this
end Go.Proofs.YtceanagnkcejgaaGreatDoor
