/- Layer 8: the chapter's first examples. -/
import Derived.Test.YtjgcbobalmmjkaaLkl
namespace Go.Proofs.Ytjgcbobalmmjkaa
open Go.RowKit Go.Maps Go.Sort
set_option linter.unusedVariables false

def awPs : List (Int × Int) := [(0, 1), (0, 2), (1, 3), (2, 3), (3, 0)]
def awL : List Rf := awPs.map mkRf
theorem aw_len : awL.length = 5 := rfl
theorem aw_look1 : lookE awL.length 4 [0] = 0 := by decide
theorem aw_look2 : lookE awL.length 4 [0, 3] = 0 := by decide
theorem aw_look3 : lookE awL.length 5 [] = 0 := by decide
theorem aw_look4 : lookE awL.length 5 [3] = 0 := by decide
theorem aw_out : outM awL 4 0 = [1, 2] := by decide
theorem aw_alone : aloneM awL 5 = [4] := by decide
theorem closed_way {g : Nat → Nat → Bool} {C : Nat → Prop} (hC : ∀ a b, g a b = true → C a → C b) : ∀ (p : List Nat) {x y : Nat}, Bf.Way g x y p → C x → C y
  | [], _, _, h, _ => h.1.elim
  | [a], x, y, h, hx => by
    have h1 := h.2.1
    have h2 := h.2.2
    simp at h1 h2
    rw [← h2, h1]
    exact hx
  | a :: b :: p, x, y, h, hx => by
    have h1 := h.2.1
    simp at h1
    subst h1
    exact closed_way hC (b :: p) ⟨h.1.2, rfl, by have := h.2.2; rwa [List.getLast?_cons_cons] at this⟩ (hC _ _ h.1.1 hx)
theorem aw_reach {zs : List Nat} (h : zs.Pairwise (· < ·)) (hm : ∀ x, x ∈ zs ↔ ∃ p, Bf.Way (gEdge awL 5) 3 x p) : zs = [0, 1, 2, 3] := by
  refine inc_nat h (by simp) fun x => ?_
  rw [hm]
  constructor
  · rintro ⟨p, hp⟩
    have key : ∀ a < 5, ∀ b < 5, edge awL 5 a b = true → b < 4 := by decide
    have := closed_way (C := fun x => x < 4) (fun a b hg _ => key a (edge_lt hg).1 b (edge_lt hg).2 hg) p hp (by decide)
    have h4 : x < 4 := this
    simp
    omega
  · intro hx
    simp only [List.mem_cons, List.not_mem_nil, or_false] at hx
    rcases hx with rfl | rfl | rfl | rfl
    · exact ⟨[3, 0], ⟨by decide, trivial⟩, rfl, rfl⟩
    · exact ⟨[3, 0, 1], ⟨by decide, by decide, trivial⟩, rfl, rfl⟩
    · exact ⟨[3, 0, 2], ⟨by decide, by decide, trivial⟩, rfl, rfl⟩
    · exact ⟨[3], trivial, rfl, rfl⟩
theorem aw_is : Bf.Way (gEdge awL 4) 0 3 [0, 1, 3] := ⟨⟨by decide, by decide, trivial⟩, rfl, rfl⟩
theorem aw_way {p : List Nat} (h : Bf.FirstWay (gEdge awL 4) 0 3 p) : p = [0, 1, 3] := by
  obtain ⟨⟨hp, h1, h2⟩, hf⟩ := h
  obtain ⟨hl, hle⟩ := hf _ aw_is
  match p, hp, h1, h2, hl, hle with
  | [a], _, h1, h2, _, _ => simp at h1 h2; omega
  | [a, b], hp, h1, h2, _, _ =>
    simp at h1 h2
    subst h1 h2
    have := hp.1
    exact absurd this (by decide)
  | [a, b, c], hp, h1, h2, _, hle =>
    simp at h1 h2
    subst h1 h2
    have hb := (edge_lt hp.1).2
    have key : ∀ b < 4, edge awL 4 0 b = true → b = 1 ∨ b = 2 := by decide
    rcases key b hb hp.1 with rfl | rfl
    · rfl
    · exact absurd (hle rfl) (by simp [Bf.le])
  | _ :: _ :: _ :: _ :: _, _, _, _, hl, _ => simp at hl
theorem rdI_lit (w : World) (zs : List Nat) (cs : Array Value) (t : TypeId) (n : Nat) (hn : n = zs.length) (hc : cs.toList = numsV zs) : zs.length ≤ 1000 → RdI (w.alloc (.cells cs t)) (.slice (some ⟨w.heap.size, 0, none⟩) n n) zs := by
  subst hn
  intro hz
  refine ⟨_, _, rfl, Nat.le_refl _, by unfold maxLen; omega, fun j hj => ⟨w.heap.size, 0, rfl, ?_⟩⟩
  have := cells_newL w cs t j (.int .i64 (zs[j] : Nat)) (by rw [hc]; simp [numsV, hj])
  rw [Addr.add_lit] at this
  exact this
set_option maxRecDepth 100000 in
set_option maxHeartbeats 4000000 in
theorem awake_law (w : World) : Calls Try.prog 10 #[] w (SaysL (.bool true) w) := by
  go_enter Try.func10, Try.ntmps10
  go_wp2_with fail
  refine (pairs_pro awPs _ _ ?_ (by decide)).mono ?_
  · intro k hk
    have hk5 : k < 5 := hk
    match k, hk5 with
    | 0, _ => exact ⟨cells_newL w _ _ 0 _ rfl, cells_newL w _ _ 1 _ rfl⟩
    | 1, _ => exact ⟨cells_newL w _ _ 2 _ rfl, cells_newL w _ _ 3 _ rfl⟩
    | 2, _ => exact ⟨cells_newL w _ _ 4 _ rfl, cells_newL w _ _ 5 _ rfl⟩
    | 3, _ => exact ⟨cells_newL w _ _ 6 _ rfl, cells_newL w _ _ 7 _ rfl⟩
    | 4, _ => exact ⟨cells_newL w _ _ 8 _ rfl, cells_newL w _ _ 9 _ rfl⟩
  rintro e w1 ⟨v, rfl, hR, hb⟩
  have hB1 : Below w.heap.size w w1 := ((Below.refl _ w).alloc (Nat.le_refl _) _).trans (hb.mono (by simp))
  change RdR w1 v awL at hR
  have HR1 := Lib.hid hR
  have HB1 := Lib.hid hB1
  have q := out_pro awL v 4 0 w1 hR (by decide)
  rw [aw_look1, if_pos rfl, show outM awL (4 : Int).toNat (0 : Int).toNat = [1, 2] from aw_out] at q
  have HQ := Lib.hid q
  clear hR hb hB1 q
  go_wp2_with fail
  refine HQ.out.mono ?_
  rintro e w2 ⟨vo, rfl, ho, hb⟩
  have HR2 := Lib.hid (HR1.out.below hb)
  have HB2 := Lib.hid (HB1.out.trans (hb.mono HB1.out.size))
  have HO2 := Lib.hid (RdI.own ho rfl)
  have q := way_pro awL v 4 0 3 w2 HR2.out (by decide)
  have HQ2 := Lib.hid (q.mono (R' := fun e w' => ∃ vw, e = .returned (.tuple #[vw, .int .i64 0]) ∧ RdI w' vw [0, 1, 3] ∧ Below w2.heap.size w2 w') (by
    rintro e w' (⟨h, _⟩ | ⟨_, h, _⟩ | ⟨_, p, hp, _, _, vw, rfl, hw, hbw⟩)
    · exact absurd aw_look2 h
    · exact absurd ⟨_, aw_is⟩ h
    · obtain rfl := aw_way hp
      exact ⟨vw, rfl, RdI.own hw rfl, hbw⟩))
  clear ho hb q
  go_wp2_with fail
  refine HQ2.out.mono ?_
  rintro e w3 ⟨vw, rfl, hw, hb⟩
  have HR3 := Lib.hid (HR2.out.below hb)
  have HB3 := Lib.hid (HB2.out.trans (hb.mono HB2.out.size))
  have HO3 := Lib.hid (HO2.out.below hb)
  have HW3 := Lib.hid hw
  have q := alone_pro awL v 5 w3 HR3.out (by decide)
  rw [aw_look3, if_pos rfl, show aloneM awL (5 : Int).toNat = [4] from aw_alone] at q
  have HQ3 := Lib.hid q
  clear hw hb q
  go_wp2_with fail
  refine HQ3.out.mono ?_
  rintro e w4 ⟨va, rfl, ha, hb⟩
  have HR4 := Lib.hid (HR3.out.below hb)
  have HB4 := Lib.hid (HB3.out.trans (hb.mono HB3.out.size))
  have HO4 := Lib.hid (HO3.out.below hb)
  have HW4 := Lib.hid (HW3.out.below hb)
  have HA4 := Lib.hid (RdI.own ha rfl)
  have HQ4 := Lib.hid ((reach_pro awL v 5 3 w4 HR4.out (by decide)).mono (R' := fun e w' => ∃ vr, e = .returned (.tuple #[vr, .int .i64 0]) ∧ RdI w' vr [0, 1, 2, 3] ∧ Below w4.heap.size w4 w') (by
    rintro e w' ⟨zs, ⟨vr, he, hr, hbr⟩, _, h⟩
    rw [aw_look4] at he
    obtain ⟨h1, h2⟩ := h aw_look4
    obtain rfl := aw_reach h1 h2
    exact ⟨vr, he, RdI.own hr rfl, hbr⟩))
  clear ha hb
  go_wp2_with fail
  refine HQ4.out.mono ?_
  rintro e w5 ⟨vr, rfl, hr, hb⟩
  have HB5 := Lib.hid (HB4.out.trans (hb.mono HB4.out.size))
  have HO5 := Lib.hid (HO4.out.below hb)
  have HW5 := Lib.hid (HW4.out.below hb)
  have HA5 := Lib.hid (HA4.out.below hb)
  have HV5 := Lib.hid hr
  clear hr hb
  go_wp2_with fail
  refine (ints_pro [1, 2] _ _ _ (HO5.out.below ((Below.refl _ w5).alloc (Nat.le_refl _) _)) (rdI_lit _ [1, 2] _ _ 2 rfl rfl (by decide)) (by decide)).mono ?_
  rintro e w6 ⟨rfl, hb⟩
  have hb6 := ((Below.refl _ w5).alloc (Nat.le_refl _) _).trans (hb.mono (by simp))
  have HB6 := Lib.hid (HB5.out.trans (hb6.mono HB5.out.size))
  have HW6 := Lib.hid (HW5.out.below hb6)
  have HA6 := Lib.hid (HA5.out.below hb6)
  have HV6 := Lib.hid (HV5.out.below hb6)
  clear hb hb6
  go_wp2_with fail
  refine (ints_pro [0, 1, 3] _ _ _ (HW6.out.below ((Below.refl _ w6).alloc (Nat.le_refl _) _)) (rdI_lit _ [0, 1, 3] _ _ 3 rfl rfl (by decide)) (by decide)).mono ?_
  rintro e w7 ⟨rfl, hb⟩
  have hb7 := ((Below.refl _ w6).alloc (Nat.le_refl _) _).trans (hb.mono (by simp))
  have HB7 := Lib.hid (HB6.out.trans (hb7.mono HB6.out.size))
  have HA7 := Lib.hid (HA6.out.below hb7)
  have HV7 := Lib.hid (HV6.out.below hb7)
  clear hb hb7
  go_wp2_with fail
  refine (ints_pro [4] _ _ _ (HA7.out.below ((Below.refl _ w7).alloc (Nat.le_refl _) _)) (rdI_lit _ [4] _ _ 1 rfl rfl (by decide)) (by decide)).mono ?_
  rintro e w8 ⟨rfl, hb⟩
  have hb8 := ((Below.refl _ w7).alloc (Nat.le_refl _) _).trans (hb.mono (by simp))
  have HB8 := Lib.hid (HB7.out.trans (hb8.mono HB7.out.size))
  have HV8 := Lib.hid (HV7.out.below hb8)
  clear hb hb8
  go_wp2_with fail
  refine (ints_pro [0, 1, 2, 3] _ _ _ (HV8.out.below ((Below.refl _ w8).alloc (Nat.le_refl _) _)) (rdI_lit _ [0, 1, 2, 3] _ _ 4 rfl rfl (by decide)) (by decide)).mono ?_
  rintro e w9 ⟨rfl, hb⟩
  have hb9 := ((Below.refl _ w8).alloc (Nat.le_refl _) _).trans (hb.mono (by simp))
  have HB9 := Lib.hid (HB8.out.trans (hb9.mono HB8.out.size))
  clear hb hb9
  go_wp2_with fail
  go_ret
  exact ⟨rfl, HB9.out⟩
end Go.Proofs.Ytjgcbobalmmjkaa
