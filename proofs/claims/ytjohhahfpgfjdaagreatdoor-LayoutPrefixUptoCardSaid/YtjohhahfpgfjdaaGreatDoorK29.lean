/- The texts that the laws of layout stand on, part 29. -/
import Derived.RangeFuncNested
import Derived.OwnWalkIn
import Derived.OrdersHeld
section
namespace Go.Proofs.YtjohhahfpgfjdaaGreatDoor

/-- Q, of a normal end alone. -/
def Just (Q : Exit → Act → World → Prop) : Exit → Act → World → Prop
  | .normal, a, w => Q .normal a w
  | _, _, _ => False
theorem Just.imp {Q : Exit → Act → World → Prop} : ∀ (e : Exit) (a : Act) (w : World), Just Q e a w → Q e a w := fun e a w h => by
  cases e <;> first | exact h | exact (h : False).elim

section
variable {P : Program} {ops : Array Oper} {Q : Exit → Act → World → Prop} {l n : Nat}
theorem op_inRound {o : Oper} {a : Act} {w : World} {K K' : Act → World → Prop} (hd : ∀ c, o.op ≠ .defer c) (hk : ∀ a w, K a w → K' a w) (h : o.wp P a w K (Just Q)) :
    o.wpIn (Fence.wide.inRound l) n P a w K' (Just Q) := by
  unfold Oper.wp at h
  unfold Oper.wpIn
  refine ⟨fun f _ => trivial, ?_⟩
  rw [Fence.inRound_round, Oper.semAt_some l _ o hd]
  generalize (execOp a.eval o).run P w = r at h
  cases r with
  | ok x w' =>
    cases x with
    | value v => exact hk _ _ h
    | skip => exact hk _ _ h
    | defer d => exact hk _ _ h
    | enter f args =>
      refine ⟨(fun h0 => by cases h0), CallsIn.inRound l (callsIn_wide.2 (Calls.mono h fun e w'' he => ?_))⟩
      cases e with
      | returned v => exact hk _ _ he
      | panicked c => exact he
      | outgrown => exact he
    | row row args =>
      refine ⟨(fun h0 => by cases h0), fun c cs _ => ?_⟩
      obtain ⟨v, w2, r, s⟩ := (show Rows P row args w' _ from h) c cs
      exact ⟨v, w2, hk _ _ r, stepsIn_wide.2 s⟩
    | _ => exact (h : False).elim
  | halt x w' => cases x <;> exact h

theorem any_inRound (hd : ∀ (i : Nat) (o : Oper), ops[i]? = some o → ∀ c, o.op ≠ .defer c) {md : Region.Mode} : ∀ (fuel : Nat) (listed : Array Bool) (a : Act) (w : World),
    wpAny P md ops (Just Q) fuel listed a w → wpAnyIn (Fence.wide.inRound l) n P md ops (Just Q) fuel listed a w
  | 0, _, _, _, h => h
  | fuel + 1, listed, a, w, h => by
    refine ⟨h.1, fun i hi => ?_⟩
    have h2 := h.2 i hi
    unfold wpOp at h2
    unfold wpOpIn
    cases ho : ops[i]? with
    | none => simp only [ho] at h2; exact any_inRound hd fuel _ _ _ h2
    | some o =>
      simp only [ho] at h2
      simp only []
      split at h2
      · rename_i hw
        rw [if_pos hw]
        rcases h2 with h2 | ⟨_, a', w', h2⟩
        · exact op_inRound (hd i o ho) (fun a' w' => any_inRound hd fuel _ a' w') h2
        · exact h2.elim
      · rename_i hw
        rw [if_neg hw]
        exact ⟨fun f _ => trivial, any_inRound hd fuel _ _ _ h2⟩

/-- What is to be shown of such a region in a round. -/
theorem region_inRound {id : Nat} {l0 : List Oper} {a : Act} {w : World} (hm : P.follows .mixedOrders = true) (hd : (l0.all fun o => match o.op with | .defer _ => false | _ => true) = true)
    (h : wpAny P .any l0.toArray (Just Q) l0.toArray.size (Array.replicate l0.toArray.size false) a w.drew) : (Code.region id l0.toArray true).wpIn (Fence.wide.inRound l) n P Q a w := by
  refine wpIn_mono (wpIn_region_any hm (any_inRound (fun i o ho c e => ?_) _ _ _ _ h)) Just.imp
  have h1 := List.all_eq_true.1 hd o (by
    have : l0[i]? = some o := by simpa using ho
    exact List.mem_of_getElem? this)
  rw [e] at h1
  cases h1
/-- One operation of such a region, carried out. -/
theorem op_via {i : Nat} {o : Oper} {K : Act → World → Prop} {a : Act} {w : World} (hi : ops[i]? = some o) (hw : Region.wanted o (yielded ops a.tmps) = true)
    (h : ∀ K' : Act → World → Prop, (∀ a w, K a w → K' a w) → o.wp P a w K' Q) : wpOp P ops Q i K a w := by
  unfold wpOp
  simp only [hi, hw, if_true]
  exact .inl (h K fun _ _ h => h)
end
end Go.Proofs.YtjohhahfpgfjdaaGreatDoor
end
