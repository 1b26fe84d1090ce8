/- The program's Reach of layer 8. -/
import Derived.Test.YtjgcbobalmmjkaaLkx
import Derived.Test.YtjgcbobalmmjkaaIter
namespace Go.Proofs.Ytjgcbobalmmjkaa
open Go.RowKit Go.Maps Go.Sort Go.Shelf
set_option linter.unusedVariables false

theorem sorts_in (m : Nat) : AnyZI.SortsIn Try.prog Try.sortedL_ren Fence.wide m :=
  ⟨fun blk off cap ss W hH hblk hsz => callsIn_wide.2 (Try.slices_Sort_int blk off cap ss W hH hblk hsz),
   fun p cap W => callsIn_wide.2 (Try.slices_Sort_int_none p cap W)⟩
theorem sort_inc {zs : List Int} (h : zs.Nodup) : (zs.mergeSort fun x y => decide (x ≤ y)).Pairwise (· < ·) := by
  have h1 := sort_le zs
  have h2 : (zs.mergeSort fun x y => decide (x ≤ y)).Nodup := (List.mergeSort_perm _ _).nodup_iff.2 h
  exact (h1.and h2).imp fun h => by omega
theorem keys_sorted {S : List Nat} {ss : List Int} (hn : S.Nodup) (hp : ss.Perm (intsL S)) : (ss.mergeSort fun x y => decide (x ≤ y)) = intsL (rsg S) := by
  have hn2 : ss.Nodup := hp.nodup_iff.2 (by
    unfold intsL
    exact List.pairwise_map.2 (hn.imp fun h => by omega))
  refine inc_int (sort_inc hn2) ?_ fun x => ?_
  · unfold intsL
    exact List.pairwise_map.2 ((rsg_inc S).imp fun h => by omega)
  · rw [(List.mergeSort_perm _ _).mem_iff, hp.mem_iff]
    unfold intsL
    simp only [List.mem_map, rsg_mem]
theorem rsg_nodup {S : List Nat} (hn : S.Nodup) : (rsg S).length = S.length := by
  have h := congrArg List.length (keys_sorted hn (List.Perm.refl (intsL S)))
  rw [List.length_mergeSort] at h
  simp [intsL] at h
  exact h.symm
/-- A new list of numbers that rise, of which it is known which they are. -/
theorem keys_pro (M : Nat) (W : World) : Calls Try.prog 26 #[.map (some M)] W fun e w' => e = .returned (.func (.func 36) #[] #[.pointer (some ⟨W.heap.size, 0, none⟩)]) ∧ w' = W.alloc (.cells #[.map (some M)] 58) :=
  callsIn_wide.1 (AnyZI.keys_in Try.keysL Fence.wide 5 trivial rfl (some M) W)
set_option maxRecDepth 100000 in
set_option maxHeartbeats 1000000 in
theorem sorted_keys (M : Nat) (S : List (Nat × Nat)) (W : World) (hm : MapAt W M S) (hn : (S.map (·.1)).Nodup) (hl : S.length ≤ 1000) :
    Calls Try.prog 25 #[.func (.func 36) #[] #[.pointer (some ⟨W.heap.size, 0, none⟩)]] (W.alloc (.cells #[.map (some M)] 58)) fun e w' =>
      ∃ v, e = .returned v ∧ w'.ownsRow (W.heap.size + 1) 3 1 v (rsg (S.map (·.1))).length (numsV (rsg (S.map (·.1)))) ∧ Below (W.heap.size + 1) (W.alloc (.cells #[.map (some M)] 58)) w' := by
  obtain ⟨D, hown, hmp⟩ := hm
  have hbl := hown.lt
  have hsz : Maps.size D = S.length := hmp.size
  have hseq : SeqGives Fence.wide 2 Try.prog 36 #[.pointer (some ⟨W.heap.size, 0, none⟩)] encZ (fun ss => ss.Perm (intKeys D)) (Maps.size D) (W.alloc (.cells #[.map (some M)] 58)) :=
    AnyZI.keys_gives (ρ := Try.keysL_ren) { Try.keysL with } Fence.wide _ trivial rfl (by omega) W.heap.size M S.length D _ (by simp) (by simp) (by
      obtain ⟨es, clock, hb, Ft, hs, hD⟩ := hown
      exact ⟨es, clock, (Below.heap_alloc _ _ M hbl).trans hb, Ft, hs, hD⟩)
  have cS := AnyZI.sorted_in Try.sortedL Fence.wide 5 trivial trivial trivial trivial rfl (by omega) (sorts_in _) (enters_of Try.func33 (by kernel_rfl) rfl) 36 #[.pointer (some ⟨W.heap.size, 0, none⟩)] trivial (enters_of Try.func36 (by kernel_rfl) rfl) _ _ (by rw [hsz]; unfold maxLen; omega) (by rw [hsz]; omega) _ hseq
  change CallsIn _ _ Try.prog 25 _ _ _ at cS
  refine (callsIn_wide.1 cS).mono ?_
  rintro e w' ⟨v, ss, rfl, hp, hrow, _, hb⟩
  rw [World.size_alloc] at hrow hb
  have hk := keys_sorted hn (hp.trans hmp.keys)
  refine ⟨v, rfl, ?_, hb⟩
  have e1 : ss.length = (rsg (S.map (·.1))).length := by
    rw [rsg_nodup hn, (hp.trans hmp.keys).length_eq]; simp [intsL]
  rw [show (ss.mergeSort fun x y => decide (x ≤ y)) = _ from hk, show (intsL (rsg (S.map (·.1)))).map encZ = numsV (rsg (S.map (·.1))) from numsV_ints _, e1] at hrow
  exact hrow
def gEdge (l : List Rf) (N : Nat) : Nat → Nat → Bool := fun i k => edge l N i k
/-- What Reach answers. -/
def ReachIs (l : List Rf) (n i : Int) (w : World) (e : Ending) (w' : World) : Prop :=
  ∃ zs, NewL zs (lookE l.length n [i]) w e w' ∧ (lookE l.length n [i] ≠ 0 → zs = []) ∧ (lookE l.length n [i] = 0 → zs.Pairwise (· < ·) ∧ ∀ x, x ∈ zs ↔ ∃ p, Bf.Way (gEdge l n.toNat) i.toNat x p)

set_option maxRecDepth 100000 in
set_option maxHeartbeats 1000000 in
theorem reach_pro (l : List Rf) (v : Value) (n i : Int) (w : World) (hv : RdR w v l) (hl : l.length ≤ 140737488355328) :
    Calls Try.prog 15 #[v, .int .i64 n, .int .i64 i] w (ReachIs l n i w) := by
  obtain ⟨pa, cap, rfl, hcl, hcm⟩ := hv.form
  have hq := look_pro (w.alloc (.cells #[.int .i64 i] 3)) pa l.length cap n (.slice (some ⟨w.heap.size, 0, none⟩) 1 1) [i] (rdZ_one _ _ _ (Boxed.new w 3 (.int .i64 i)).cell _) (by simp) hl
  by_cases h0 : lookE l.length n [i] = 0
  · obtain ⟨h1, N, I, rfl, rfl, h2, h3⟩ := look_ok h0
    rw [h0] at hq
    have HQ := Lib.hid hq
    have hA : Below w.heap.size w (w.alloc (.cells #[.int .i64 (I : Nat)] 3)) := (Below.refl _ w).alloc (Nat.le_refl _) _
    have HV := Lib.hid (hv.below hA)
    have HA := Lib.hid hA
    have HNX := Lib.hid (nexts_pro l _ N _ (hv.below hA) h1 h2)
    have H0 := Lib.hid h0
    have H2 := Lib.hid h2
    have H3 := Lib.hid h3
    clear hv hl hq h0 hcl hcm hA h1
    go_enter Try.func15, Try.ntmps15
    go_wp2_with fail
    refine HQ.out.mono ?_
    rintro e w1 ⟨rfl, rfl⟩
    go_wp2_with fail
    refine HNX.out.mono ?_
    rintro e w2 ⟨S0, vs, hS0, rfl, hL, hb⟩
    have HB2 := Lib.hid (HA.out.trans (hb.mono (by simp)))
    have HW := Lib.hid (walk_pro l N I (-1) S0 _ vs w2 hL H2.out H3.out)
    clear hL hb hS0
    go_wp2_with fail
    refine HW.out.mono ?_
    rintro e w3 ⟨M, S, c, pre, rfl, hST, hbd, hm, hfin, hb⟩
    have hce : c = S.length := by
      rcases hfin with h | ⟨j, t, q, h, _⟩
      · exact h
      · omega
    subst hce
    have HB3 := Lib.hid (HB2.out.trans (hb.mono HB2.out.size))
    have HST := Lib.hid hST
    have HSK := Lib.hid (sorted_keys M S w3 hm hST.nodup (by have := seen_len hST.toSeen hbd; omega))
    have HKP := Lib.hid (keys_pro M w3)
    have HBD := Lib.hid hbd
    clear hST hbd hm hfin hb
    go_wp2_with fail
    refine HKP.out.mono ?_
    rintro e w4 ⟨rfl, hw⟩
    subst hw
    go_wp2_with fail
    refine HSK.out.mono ?_
    rintro e w5 ⟨v5, rfl, hown, hb⟩
    have HO := Lib.hid hown
    have HB5 := Lib.hid (HB3.out.trans ((((Below.refl _ w3).alloc (Nat.le_refl _) _).trans (hb.mono (by simp))).mono HB3.out.size))
    clear hown hb
    go_wp2_with fail
    go_ret2
    refine ⟨rsg (S.map (·.1)), ⟨v5, by rw [H0.out]; rfl, World.ownsRow.mono HO.out (by have := HB3.out.size; omega), HB5.out⟩, fun h => absurd H0.out h, fun _ => ⟨rsg_inc _, fun x => ?_⟩⟩
    rw [rsg_mem]
    constructor
    · intro hx
      obtain ⟨j, q, e⟩ := Bf.mem_at hx
      exact ⟨_, Bf.way_is HST.out.toSeen j x q e⟩
    · rintro ⟨p, hp⟩
      obtain ⟨j, r, e⟩ := Bf.all HST.out.toInv (y := x) (p := p) hp
      exact Bf.at_mem e
  · obtain ⟨er, her⟩ : ∃ er, lookE l.length n [i] = er := ⟨_, rfl⟩
    have HER := Lib.hid her
    rw [her] at h0 hq
    have H0 := Lib.hid h0
    have HQ := Lib.hid hq
    have t1 : (er != 0) = true := by simpa using h0
    clear hv hl hq h0 her hcl hcm
    go_enter Try.func15, Try.ntmps15
    go_wp2_with fail
    refine HQ.out.mono ?_
    rintro e w1 ⟨rfl, rfl⟩
    go_wp2_with fail
    go_ret2
    unfold ReachIs
    rw [HER.out]
    exact ⟨[], NewL.none _ _ _ ((Below.refl _ w).alloc (Nat.le_refl _) _), fun _ => rfl, fun h => absurd h H0.out⟩
end Go.Proofs.Ytjgcbobalmmjkaa
