/- Layer 11: copies of operations; the program's cloned, Links, Text. -/
import Derived.Test.YtdagombmgcnofaaGreatDoorIp
import Derived.Lib.LazyBuf
namespace Go.Proofs.YtdagombmgcnofaaGreatDoor.Ir
open Go.RowKit Go.Maps Go.Proofs.YtdagombmgcnofaaGreatDoor
set_option linter.unusedVariables false
set_option linter.unusedSimpArgs false
/-- Each operation with the value of its Widths. -/
theorem RdO.pairs {P : Nat → Prop} {w : World} {v : Value} {l : List Opr} (h : RdO P w v l) : ∃ (pa : Option Addr) (cap : Nat) (ps : List (Opr × Value)), v = .slice pa l.length cap ∧ l.length ≤ cap ∧ cap ≤ maxLen ∧ ps.map (·.1) = l ∧ (∀ p ∈ ps, RdZ P w p.2 p.1.w) ∧
    ∀ j (hj : j < ps.length), ∃ b off, pa = some ⟨b, off, none⟩ ∧ P b ∧ ∀ k u, (oprRow ps[j])[k]? = some u → w.cell? ⟨b, off + j * 4 + k, none⟩ = some u := by
  obtain ⟨pa, cap, e, h1, h2, h4⟩ := h
  have hc : ∀ j : Fin l.length, ∃ u : Value, RdZ P w u l[j].w ∧ ∃ b off, pa = some ⟨b, off, none⟩ ∧ P b ∧ w.cell? ⟨b, off + j * 4, none⟩ = some (.int .i64 l[j].k) ∧ w.cell? ⟨b, off + j * 4 + 1, none⟩ = some (.int .i64 l[j].n) ∧ w.cell? ⟨b, off + j * 4 + 2, none⟩ = some (.string l[j].t) ∧ w.cell? ⟨b, off + j * 4 + 3, none⟩ = some u := fun j => by
    obtain ⟨b, off, e, hp, c0, c1, c2, wv, c3, hz⟩ := h4 j.1 j.2
    exact ⟨wv, hz, b, off, e, hp, c0, c1, c2, c3⟩
  refine ⟨pa, cap, List.ofFn (fun j : Fin l.length => (l[j], (hc j).choose)), e, h1, h2, ?_, ?_, ?_⟩
  · apply List.ext_getElem
    · simp
    · intro i h5 h6
      simp
  · intro p hp
    obtain ⟨j, rfl⟩ := (List.mem_ofFn).1 hp
    exact (hc j).choose_spec.1
  · intro j hj
    have hj' : j < l.length := by simpa using hj
    obtain ⟨b, off, e, hp, c0, c1, c2, c3⟩ := (hc ⟨j, hj'⟩).choose_spec.2
    refine ⟨b, off, e, hp, fun k u hk => ?_⟩
    rw [List.getElem_ofFn] at hk
    match k with
    | 0 => cases hk; exact c0
    | 1 => cases hk; exact c1
    | 2 => cases hk; exact c2
    | 3 => cases hk; exact c3
    | k + 4 => cases hk
theorem RdZ.one {P : Nat → Prop} {w : World} {v : Value} {zs : List Int} (h : RdZ P w v zs) : v.oneCell' = true := by
  obtain ⟨pa, cap, rfl, _⟩ := h
  rfl
/-- Operations are copied behind some of the call's own. -/
theorem run_twinO {P : Nat → Prop} (w : World) (ty : TypeId) (ps qs : List (Opr × Value)) (pa : Option Addr) (cap : Nat) (d : Value) (hw : ∀ p ∈ ps, RdZ P w p.2 p.1.w) (hc : ∀ j (hj : j < ps.length), ∃ b off, pa = some ⟨b, off, none⟩ ∧ P b ∧ ∀ k u, (oprRow ps[j])[k]? = some u → w.cell? ⟨b, off + j * 4 + k, none⟩ = some u)
    (hl : (qs.length + ps.length) * 56 ≤ 140737488355328) (B : Nat) (hd : w.ownsRow B 81 4 d qs.length (rowsO qs)) (hB : B ≤ w.heap.size) :
    ∃ v' w', (Builtin.append_ #[44, 44] ty #[d, .slice pa ps.length cap]).run Tryz.prog w = .ok v' w' ∧ w'.ownsRow B 81 4 v' (qs ++ ps).length (rowsO (qs ++ ps)) ∧ w.grownBy w' d.ownBlock := by
  obtain ⟨i0, hi, hz0, hz1, hz2⟩ := info_parts infoO
  cases pa with
  | none =>
    have hx0 : ps = [] := by
      rcases Nat.eq_zero_or_pos ps.length with h0 | h0
      · exact List.eq_nil_of_length_eq_zero h0
      · obtain ⟨_, _, e, _⟩ := hc 0 h0
        cases e
    subst hx0
    exact ⟨_, _, run_append_nilL w B 44 ty 81 i0 4 Tryz.underlying44 hi d _ _ hd cap, by simpa using hd, World.grownBy.refl _ _⟩
  | some a =>
    have hn : ∀ j u, (rowsO ps)[j]? = some u → w.cell? (a.add j) = some u := by
      intro j u hu
      have hj : j < ps.length * 4 := by have := (List.getElem?_eq_some_iff.1 hu).1; rwa [rowsO_len] at this
      obtain ⟨b, off, e, _, hcc⟩ := hc (j / 4) (by omega)
      cases e
      rw [show j = j / 4 * 4 + j % 4 by omega, rowsO_at ps (j / 4) (j % 4) (by omega) (by omega)] at hu
      have := hcc _ _ hu
      rw [Addr.add_lit, show off + j = off + j / 4 * 4 + j % 4 by omega]
      exact this
    obtain ⟨v', w', hr, ho, hg, _, _⟩ := run_append_own_at (P := Tryz.prog) w B 44 ty 81 i0 _ 4 56 Tryz.underlying44 hi hz0 hz1 hz2 rfl (by decide) d qs.length (rowsO qs) hd a ps.length cap (rowsO ps) (rowsO_len ps) hn (rowsO_one ps fun p hp => (hw p hp).one) (by unfold maxLen; omega) (by omega) hB
    exact ⟨v', w', hr, by rw [List.length_append, rowsO_app]; exact ho, hg⟩
set_option maxRecDepth 100000 in
set_option maxHeartbeats 2000000 in
theorem cloneO_pro {P : Nat → Prop} (ps : List (Opr × Value)) (pa : Option Addr) (cap : Nat) (w : World) (hw : ∀ p ∈ ps, RdZ P w p.2 p.1.w) (hc : ∀ j (hj : j < ps.length), ∃ b off, pa = some ⟨b, off, none⟩ ∧ P b ∧ ∀ k u, (oprRow ps[j])[k]? = some u → w.cell? ⟨b, off + j * 4 + k, none⟩ = some u) (hl : ps.length * 56 ≤ 140737488355328) :
    Calls Tryz.prog 125 #[.slice pa ps.length cap] w fun e w' => ∃ v', e = .returned v' ∧ w'.ownsRow w.heap.size 81 4 v' ps.length (rowsO ps) ∧ Below w.heap.size w w' := by
  have hA : Below w.heap.size w (w.alloc (.cells #[] 81)) := (Below.refl _ w).alloc (Nat.le_refl _) _
  have hd : (w.alloc (.cells #[] 81)).ownsRow w.heap.size 81 4 (.slice (some ⟨w.heap.size, 0, none⟩) 0 0) ([] : List (Opr × Value)).length (rowsO []) := ⟨rfl, .inr ⟨w.heap.size, 0, #[], rfl, Nat.le_refl _, World.alloc_heap_new w _, Nat.le_refl _, Nat.zero_le _, rfl, rfl⟩⟩
  obtain ⟨v', w', hr, ho, hg⟩ := run_twinO (w.alloc (.cells #[] 81)) 44 ps [] pa cap _ (fun p hp => (hw p hp).below hA) (fun j hj => by
    obtain ⟨b, off, e, hp, h5⟩ := hc j hj
    exact ⟨b, off, e, hp, fun k u hk => (hA.cell (p := ⟨b, off + j * 4 + k, none⟩) (cellInL (h5 k u hk))).trans (h5 k u hk)⟩) (by simpa using hl) w.heap.size hd (by simp)
  have HO := Lib.hid (show w'.ownsRow w.heap.size 81 4 v' ps.length (rowsO ps) from ho)
  have HB := Lib.hid (hA.grown hg (by simp) (fun k e => by simp [Value.ownBlock] at e; omega))
  have HQ := Lib.hid hr
  have hnil : pa = none → ps = [] := fun e => by
    rcases Nat.eq_zero_or_pos ps.length with h0 | h0
    · exact List.eq_nil_of_length_eq_zero h0
    · obtain ⟨_, _, e2, _⟩ := hc 0 h0
      rw [e] at e2; cases e2
  clear hA hd ho hg hr hw hc hl
  cases pa with
  | none =>
    have h0 := hnil rfl
    subst h0
    clear hnil HO HB HQ
    go_enter Tryz.func125, Tryz.ntmps125
    go_wp2_with fail
    rw [run_eql_slice_nil w 44 81 none _ _ Tryz.underlying44]
    simp only [Result.andThen]
    rw [Oper.upon_value]
    go_wp2_with fail
    go_ret
    exact ⟨_, rfl, World.ownsRow_nil _ _ _ _, Below.refl _ _⟩
  | some a =>
    clear hnil
    go_enter Tryz.func125, Tryz.ntmps125
    go_wp2_with fail
    rw [run_eql_slice_nil w 44 81 (some a) _ _ Tryz.underlying44]
    simp only [Result.andThen]
    rw [Oper.upon_value]
    go_wp2_with (at_builtin; go_loud (refine wpList_app2 rfl _ _ _ rfl rfl rfl HQ.out ?_))
    go_ret
    exact ⟨v', rfl, HO.out, HB.out⟩
end Go.Proofs.YtdagombmgcnofaaGreatDoor.Ir
