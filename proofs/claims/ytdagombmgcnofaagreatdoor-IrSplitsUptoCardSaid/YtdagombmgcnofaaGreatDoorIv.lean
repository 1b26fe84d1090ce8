/- Layer 11: the program's Lower where nothing is wrong; its Sheet of no sources. -/
import Derived.Test.YtdagombmgcnofaaGreatDoorIq
import Derived.Test.YtdagombmgcnofaaGreatDoorIt
namespace Go.Proofs.YtdagombmgcnofaaGreatDoor.Ir
open Go.RowKit Go.Maps Go.Proofs.YtdagombmgcnofaaGreatDoor
set_option linter.unusedVariables false
set_option linter.unusedSimpArgs false
set_option maxRecDepth 100000 in
theorem as_nil (t : Value) (w : World) : Calls Tryz.prog 55 #[.nilIface, t] w fun e w' => e = .returned (.bool false) ∧ w = w' := by
  go_enter Tryz.func55, Tryz.ntmps55
  go_wp2_with fail
  go_ret
  exact ⟨rfl, rfl⟩
set_option maxRecDepth 100000 in
set_option maxHeartbeats 2000000 in
theorem Lower_pro (w : World) (sv dv tv : Value) (sheet : List S6.Sty) (dir : List Nd) (bl : List Bk) (r : List Opr) (so : Int) (hE : Env w sv dv sheet dir) (ht : TopV w tv bl) (hsz : wT bl ≤ 1000000000) (hdl : dir.length ≤ 4611686018427387904) (hdn : ∀ d ∈ dir, d.norm.size ≤ maxLen) (hr : lowerL sheet dir bl = some r) :
    Calls Tryz.prog 15 #[sv, dv, tv, .int .i64 so] w (MakesO r w) := by
  obtain ⟨k, na, ti, lv, p1, p2, pb, n1, c1, n2, c2, cb, line, rfl, hbl⟩ := ht.form
  have hA : Below w.heap.size w (w.alloc (.cells #[.int .i64 k, .string na, .string ti, .int .i64 lv, .slice p1 n1 c1, .slice p2 n2 c2, .slice pb bl.length cb, .int .i64 line] 29)) := (Below.refl _ _).alloc (Nat.le_refl _) _
  have HA := Lib.hid hA
  have HLo := Lib.hid (lower_pro _ sv dv _ sheet dir bl r (hE.below hA) ⟨⟨k, na, ti, lv, p1, p2, pb, n1, c1, n2, c2, cb, line, rfl, RdRow.below (E := BkIs) (fun h hb => BkIs.below h hb) hbl hA⟩⟩ hsz hdl hdn hr)
  clear hA hE ht hsz hdl hdn hr hbl
  go_enter Tryz.func15, Tryz.ntmps15
  go_wp2_with fail
  refine HLo.out.mono ?_
  rintro e w1 ⟨v, ps, rfl, ho, hps, hb⟩
  have HO := Lib.hid (ho.lower HA.out.size)
  have HPS := Lib.hid hps
  have HB := Lib.hid (HA.out.trans (hb.mono HA.out.size))
  have hA2 : Below w1.heap.size w1 (w1.alloc (.cells #[.pointer none] 129)) := (Below.refl _ _).alloc (Nat.le_refl _) _
  have HA2 := Lib.hid hA2
  clear ho hps hb hA2
  go_wp2_with fail
  refine (as_nil _ _).mono ?_
  rintro e w2 ⟨rfl, rfl⟩
  go_wp2_with fail
  go_ret2
  exact ⟨_, ps, rfl, HO.out.below HA2.out, HPS.out, HB.out.trans (HA2.out.mono HB.out.size)⟩
set_option maxRecDepth 100000 in
theorem defs0 (w : World) : Calls Tryz.prog 45 #[.slice none 0 0] w fun e w' => e = .returned (.slice none 0 0) ∧ w = w' := by
  go_enter Tryz.func45, Tryz.ntmps45
  go_wp2_with fail
  go_loopw [3, 10] (fun s i wr => s = .slice none 0 0 ∧ i = .int .i64 0 ∧ wr = w) (fun _ _ _ => 0)
  case atStart => exact ⟨rfl, rfl, rfl⟩
  case round =>
    obtain ⟨rfl, rfl, rfl⟩ := hrel
    go_wp2_with fail
    go_ret
    exact ⟨rfl, rfl⟩
theorem base_check : S6.checkM S6.baseL = (0, 0) := by decide +kernel
theorem base_fit : S6.Fit S6.baseL := by
  intro s hs
  simp only [S6.baseL, List.mem_cons, List.not_mem_nil, or_false] at hs
  rcases hs with rfl | rfl | rfl | rfl | rfl | rfl <;> exact ⟨by decide, by decide, ⟨by decide, by decide⟩, ⟨by decide, by decide⟩, ⟨by decide, by decide⟩⟩
set_option maxRecDepth 100000 in
set_option maxHeartbeats 2000000 in
theorem sheet0_pro (w : World) : Calls Tryz.prog 10 #[.slice none 0 0] w fun e w' => ∃ v, e = .returned (.tuple #[v, .nilIface]) ∧ S6.Sh w' v S6.baseL ∧ Below w.heap.size w w' := by
  go_enter Tryz.func10, Tryz.ntmps10
  go_wp2_with fail
  refine (S6.base_pro _).mono ?_
  rintro e w1 ⟨v1, rfl, ho, hb⟩
  have hsh : S6.Sh w1 v1 S6.baseL := S6.Sh.own ho
  have HSh := Lib.hid hsh
  have HB := Lib.hid hb
  have HC := Lib.hid (show Calls Tryz.prog 43 #[v1] w1 (S6.Says (.tuple #[.int .i64 0, .int .i64 0]) w1) by have h9 := S6.check_pro' S6.baseL v1 w1 hsh base_fit; rw [base_check] at h9; exact h9)
  obtain ⟨p1, c1, rfl⟩ := lenL ho
  have e6 : S6.baseL.length = 6 := rfl
  rw [e6] at HC HSh ⊢
  clear ho hsh hb e6
  go_wp2_with fail
  refine (defs0 _).mono ?_
  rintro e w2 ⟨rfl, rfl⟩
  go_wp2_with fail
  go_loopw [2, 3, 4, 20] (fun s2 s3 s4 i wr => s2 = .slice none 0 0 ∧ s3 = .nilIface ∧ s4 = .slice p1 6 c1 ∧ i = .int .i64 0 ∧ wr = w1) (fun _ _ _ _ _ => 0)
  case atStart => exact ⟨rfl, rfl, rfl, rfl, rfl⟩
  case round =>
    obtain ⟨rfl, rfl, rfl, rfl, rfl⟩ := hrel
    go_wp2_with fail
    refine HC.out.mono ?_
    rintro e w3 ⟨rfl, hb3⟩
    have HB3 := Lib.hid (HB.out.trans (hb3.mono HB.out.size))
    have HSh3 := Lib.hid (HSh.out.below hb3)
    clear hb3
    go_wp2_with fail
    go_ret2
    exact ⟨_, rfl, HSh3.out, HB3.out⟩
end Go.Proofs.YtdagombmgcnofaaGreatDoor.Ir
