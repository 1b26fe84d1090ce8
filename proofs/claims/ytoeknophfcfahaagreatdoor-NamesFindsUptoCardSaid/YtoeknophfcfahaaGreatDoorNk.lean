/- The law's first look at the chapter's example: it comes out true. -/
import Derived.Test.YtoeknophfcfahaaGreatDoorNv
namespace Go.Proofs.YtoeknophfcfahaaGreatDoor
open Go.RowKit Go.Maps Go.Sort
set_option linter.unusedVariables false

theorem ex_rd (w : World) : RdT (w.alloc (.cells #[.string exHome, .string exIndex, .string exIndices] 9)) (.slice (some ⟨w.heap.size, 0, none⟩) 3 3) exL := by
  refine ⟨some ⟨w.heap.size, 0, none⟩, 3, rfl, Nat.le_refl _, by decide, fun j hj => ⟨w.heap.size, 0, rfl, ?_⟩⟩
  have hn := World.alloc_heap_new w (.cells #[.string exHome, .string exIndex, .string exIndices] 9)
  have e : ∀ k v, (#[Value.string exHome, .string exIndex, .string exIndices] : Array Value)[k]? = some v → (w.alloc (.cells #[.string exHome, .string exIndex, .string exIndices] 9)).cell? ⟨w.heap.size, 0 + k, none⟩ = some v := fun k v h => by
    rw [Nat.zero_add]
    unfold World.cell?
    simp only []
    rw [hn]
    exact h
  have hj3 : j < 3 := hj
  rcases j with _ | _ | _ | j
  · exact e 0 _ rfl
  · exact e 1 _ rfl
  · exact e 2 _ rfl
  · omega

set_option maxRecDepth 100000 in
set_option maxHeartbeats 4000000 in
theorem awake_law (w : World) (hT : Tabs w) : Calls Tryz.prog 5 #[] w (Says (.bool true) w) := by
  have hb0 : Below w.heap.size w (w.alloc (.cells #[.string exHome, .string exIndex, .string exIndices] 9)) := (Below.refl _ w).alloc (Nat.le_refl _) _
  have HT0 := Lib.hid (hT.below hb0 (Nat.le_refl _))
  have HB0 := Lib.hid hb0
  have HC := Lib.hid (new_pro exL _ _ (ex_rd w) HT0.out)
  clear hT hb0
  go_enter Tryz.func5, Tryz.ntmps5
  go_wp2_with fail
  refine HC.out.mono ?_
  rintro e w1 ⟨hb1, h⟩
  have HB1 := Lib.hid (HB0.out.trans (hb1.mono HB0.out.size))
  have HT1 := Lib.hid (HT0.out.below hb1 (Nat.le_refl _))
  rcases h with ⟨h, _⟩ | ⟨_, k, hk, _, hne, _⟩ | ⟨_, _, b, nv, gv, mv, sv, hbb, hTb, rfl⟩
  · exact absurd h (by decide)
  · exact absurd (ex_good k hk) hne
  have HP1 := Lib.hid (show TP w1 (.pointer (some ⟨b, 0, none⟩)) exL from .inr ⟨b, nv, gv, mv, sv, rfl, hTb⟩)
  clear hb1 hbb hTb
  go_wp2_with fail
  refine (norm_pro exTopic _ HT1.out).mono ?_
  rintro e w2 ⟨he, hb2⟩
  rw [ex_norm] at he
  subst he
  have HB2 := Lib.hid (HB1.out.trans (hb2.mono HB1.out.size))
  have HT2 := Lib.hid (HT1.out.below hb2 (Nat.le_refl _))
  have HP2 := Lib.hid (HP1.out.below hb2)
  clear hb2
  go_wp2_with fail
  refine (find_pro exL _ _ _ HP2.out ex_good HT2.out).mono ?_
  rintro e w3 ⟨he, hb3⟩
  rw [ex_find] at he
  subst he
  have HB3 := Lib.hid (HB2.out.trans (hb3.mono HB2.out.size))
  have HT3 := Lib.hid (HT2.out.below hb3 (Nat.le_refl _))
  have HP3 := Lib.hid (HP2.out.below hb3)
  clear hb3
  simp only [Option.getD_some, Option.isSome_some]
  go_wp2_with fail
  refine (prefix_pro exL _ _ _ HP3.out (by decide) (by decide) HT3.out).mono ?_
  rintro e w4 ⟨v4, rfl, ho4, hb4⟩
  rw [ex_prefix] at ho4
  obtain ⟨p4, c4, rfl⟩ := lenOf ho4
  have HB4 := Lib.hid (HB3.out.trans (hb4.mono HB3.out.size))
  have HT4 := Lib.hid (HT3.out.below hb4 (Nat.le_refl _))
  have HP4 := Lib.hid (HP3.out.below hb4)
  clear ho4 hb4
  go_wp2_with fail
  refine (near_pro exL _ _ _ HP4.out (by decide) HT4.out).mono ?_
  rintro e w5 ⟨v5, rfl, ho5, hb5⟩
  rw [ex_near] at ho5
  obtain ⟨p5, c5, rfl⟩ := lenOf ho5
  have HB5 := Lib.hid (HB4.out.trans (hb5.mono HB4.out.size))
  have HP5 := Lib.hid (HP4.out.below hb5)
  clear ho5 hb5
  go_wp2_with fail
  refine (apart_pro _ _ _ (by decide) (by decide)).mono ?_
  rintro e w6 ⟨he, hb6⟩
  rw [ex_apart] at he
  subst he
  have HB6 := Lib.hid (HB5.out.trans (hb6.mono HB5.out.size))
  have HP6 := Lib.hid (HP5.out.below hb6)
  clear hb6
  go_wp2_with fail
  refine (len_pro exL _ _ HP6.out).mono ?_
  rintro e w7 ⟨rfl, rfl⟩
  rw [show exL.length = 3 from rfl]
  go_wp2_with fail
  go_ret
  exact ⟨rfl, HB6.out⟩
end Go.Proofs.YtoeknophfcfahaaGreatDoor
