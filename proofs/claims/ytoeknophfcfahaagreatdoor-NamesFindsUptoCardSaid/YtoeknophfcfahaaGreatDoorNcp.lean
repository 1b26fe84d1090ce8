/- A copy of a list of texts, appended to nil; the statements' own rows of bools. -/
import Derived.Test.YtoeknophfcfahaaGreatDoorNk
import Derived.Test.YtoeknophfcfahaaGreatDoorNrg
import Derived.Deep.Upon
namespace Go.Proofs.YtoeknophfcfahaaGreatDoor
open Go.RowKit Go.Maps Go.Sort
set_option linter.unusedVariables false

theorem below_of_grown {w w' : World} (h : w.grownBy w' none) : Below w.heap.size w w' :=
  ⟨h.os, h.tape, h.output, h.size, fun k hk => h.block k hk (by simp)⟩
theorem textsV_cell {w : World} {b off : Nat} {xs : List ByteArray} (h : ∀ j (hj : j < xs.length), w.cell? ⟨b, off + j, none⟩ = some (.string xs[j])) : ∀ j u, (textsV xs)[j]? = some u → w.cell? ((⟨b, off, none⟩ : Addr).add j) = some u := by
  intro j u hu
  have hj : j < xs.length := by have := (List.getElem?_eq_some_iff.1 hu).1; rwa [textsV_len] at this
  rw [show ((⟨b, off, none⟩ : Addr).add j) = ⟨b, off + j, none⟩ from by simp [Addr.add]]
  rw [h j hj]
  simpa [textsV, hj] using hu
theorem run_copyT (w : World) (ty : TypeId) (xs : List ByteArray) (v : Value) (h : RdT w v xs) (hx : xs.length * 16 ≤ 140737488355328) :
    ∃ v' w', (Builtin.append_ #[22, 22] ty #[.slice none 0 0, v]).run Tryz.prog w = .ok v' w' ∧ w'.ownsRow w.heap.size 9 1 v' xs.length (textsV xs) ∧ Below w.heap.size w w' := by
  obtain ⟨pa, cap, rfl, h1, h2, h4⟩ := h
  obtain ⟨i0, hi, hz0, hz1, hz2⟩ := info_parts infoS
  cases pa with
  | none =>
    have hx0 : xs = [] := by
      rcases Nat.eq_zero_or_pos xs.length with h0 | h0
      · exact List.eq_nil_of_length_eq_zero h0
      · obtain ⟨_, _, e, _⟩ := h4 0 h0
        cases e
    subst hx0
    exact ⟨_, _, run_append_nothing w 22 22 ty 9 i0 Tryz.underlying22 hi none 0 0 (Nat.le_refl _) (.slice none 0 cap) (Src.ofNil w Tryz.underlying22 cap), World.ownsRow_nil _ _ _ _, Below.refl _ _⟩
  | some a =>
    have hn : ∀ j u, (textsV xs)[j]? = some u → w.cell? (a.add j) = some u := by
      intro j u hu
      have hj : j < xs.length := by have := (List.getElem?_eq_some_iff.1 hu).1; rwa [textsV_len] at this
      obtain ⟨b, off, e, _⟩ := h4 0 (by omega)
      cases e
      exact textsV_cell (fun j hj => by obtain ⟨b', off', e, hc⟩ := h4 j hj; cases e; exact hc) j u hu
    obtain ⟨v', w', hr, ho, hg, _, _⟩ := run_append_own_at (P := Tryz.prog) w w.heap.size 22 ty 9 i0 (.string .empty) 1 16 Tryz.underlying22 hi hz0 hz1 hz2 rfl (by decide) (.slice none 0 0) 0 [] (World.ownsRow_nil _ _ _ _) a xs.length cap (textsV xs) (by rw [textsV_len, Nat.mul_one]) hn (textsV_one xs) (by unfold maxLen; omega) (by omega) (Nat.le_refl _)
    exact ⟨v', w', hr, by simpa using ho, below_of_grown hg⟩
theorem wpList_copyT {w : World} {ops : Array Oper} {rest : List Oper} {o : Oper} {a : Act} {Q : Exit → Act → World → Prop} (hgd : o.guard = none) (x : Operand)
    (ho : o.op = .call { callee := .builtin .append, args := #[.const (.slice none 0 0), x], argTypes := #[22, 22] })
    (xs : List ByteArray) (v : Value) (hx : a.eval x = v) (hr : RdT w v xs) (hl : xs.length * 16 ≤ 140737488355328)
    (h : ∀ v' w', w'.ownsRow w.heap.size 9 1 v' xs.length (textsV xs) → Below w.heap.size w w' → wpList Tryz.prog ops Q rest (a.put o.dst v') w') :
    wpList Tryz.prog ops Q (o :: rest) a w := by
  refine wpList_plain hgd fun K hK => ?_
  obtain ⟨v', w', hrun, h2, h3⟩ := run_copyT w o.type xs v hr hl
  have hc : a.eval (.const (.slice none 0 0)) = .slice none 0 0 := rfl
  unfold Oper.wp execOp
  simp only [ho, resolve, invoke, builtin, Sem.run_bind, Sem.run_pure, Result.andThen_ok, List.map_toArray, List.map_cons, List.map_nil, hx, hc, hrun]
  exact hK _ _ (h v' w' h2 h3)
end Go.Proofs.YtoeknophfcfahaaGreatDoor
