/- Layer 11: the program's Links. -/
import Derived.Test.YtdagombmgcnofaaGreatDoorIt
namespace Go.Proofs.YtdagombmgcnofaaGreatDoor.Ir
open Go.RowKit Go.Maps Go.Proofs.YtdagombmgcnofaaGreatDoor
set_option linter.unusedVariables false
set_option linter.unusedSimpArgs false
set_option maxRecDepth 100000 in
set_option maxHeartbeats 2000000 in
theorem links_pro {P : Nat → Prop} (l : List Opr) (v : Value) (w : World) (h : RdO P w v l) (hl : l.length * 56 ≤ 140737488355328) (hlw : ∀ x ∈ l, x.w.length * 8 ≤ 140737488355328) : Calls Tryz.prog 23 #[v] w (MakesL (linksL l) w) := by
  obtain ⟨i0, hi0, hz0, hz1, hz2⟩ := info_parts infoO
  obtain ⟨pa, cap, rfl, hc1, hc2⟩ := sliceN h
  have HH := Lib.hid (h.imp (Q := fun b => P b ∧ b < w.heap.size) fun b hb hp => ⟨hp, hb⟩)
  have HL := Lib.hid hl
  have HLW := Lib.hid hlw
  obtain ⟨n, hn⟩ : ∃ n, l.length = n := ⟨_, rfl⟩
  have HN := Lib.hid hn
  rw [hn] at HH hc1 ⊢
  have hn62 : n ≤ 9223372036854775807 := by omega
  clear h hl hlw hn hc1
  go_enter Tryz.func23, Tryz.ntmps23
  go_wp2_with fail
  go_loopw [3, 8] (fun s3 i wr => ∃ (k : Nat) (qs : List (Opr × Value)), i = .int .i64 k ∧ k ≤ n ∧ qs.map (·.1) = linksL (l.take k) ∧ Hid (wr.ownsRow w.heap.size 81 4 s3 qs.length (rowsO qs)) ∧ Hid (∀ p ∈ qs, RdZ (fun b => P b ∧ b < w.heap.size) wr p.2 p.1.w) ∧ Hid (Below w.heap.size w wr)) (fun _ i _ => n - (intOf i).toNat)
  case atStart => exact ⟨0, [], rfl, Nat.zero_le _, by simp [linksL], Lib.hid (World.ownsRow_nil _ _ _ _), Lib.hid (fun p hp => absurd hp (by simp)), Lib.hid (Below.refl _ _)⟩
  case round =>
    obtain ⟨k, qs, rfl, hk, hq, HR, HW, HB⟩ := hrel
    have HQ := Lib.hid hq
    obtain ⟨p3, c3', rfl⟩ := lenL HR.out
    by_cases hlt : k < n
    · have hkl : k < l.length := by rw [HN.out]; exact hlt
      obtain ⟨b, off, rfl, c0, c1, c2, wv, c3, h4⟩ := (HH.out.below HB.out).at_ hkl
      have ht := linksL_take hkl
      obtain ⟨p4, q4, rfl, _, _⟩ := h4.form
      have hql : qs.length ≤ k := by
        have h1 : (qs.map (·.1)).length ≤ (l.take k).length := by rw [hq]; exact List.length_filter_le _ _
        simp at h1; omega
      obtain ⟨x, hx⟩ : ∃ x, l[k] = x := ⟨_, rfl⟩
      rw [hx] at c0 c1 c2 c3 h4 ht
      have hA : Below wr.heap.size wr (wr.alloc (.cells #[.int .i64 x.k, .int .i64 x.n, .string x.t, .slice p4 x.w.length q4] 81)) := (Below.refl _ _).alloc (Nat.le_refl _) _
      have HA := Lib.hid hA
      have HB2 := Lib.hid (HB.out.trans (hA.mono HB.out.size))
      have HIL := Lib.hid (isLink_pro x.k (wr.alloc (.cells #[.int .i64 x.k, .int .i64 x.n, .string x.t, .slice p4 x.w.length q4] 81)))
      have HX4 := Lib.hid h4
      have k1 : (k : Int) < n := by omega
      have HLT := Lib.hid hlt
      have HT := Lib.hid ht
      have L1 := Lib.hid (show qs.length + 1 ≤ maxLen by have := HL.out; have := HN.out; unfold maxLen; omega)
      have L2 := Lib.hid (show (qs.length + 1) * 56 ≤ 140737488355328 by have := HL.out; have := HN.out; omega)
      obtain ⟨lb, hlb⟩ : ∃ lb, isLk x.k = lb := ⟨_, rfl⟩
      rw [hlb] at HIL ht
      have HT := Lib.hid ht
      clear ht hx h4 hA hlt hlb hq hql
      cases lb with
      | false =>
        have HT2 := Lib.hid (show linksL (l.take (k + 1)) = linksL (l.take k) by rw [HT.out]; simp)
        go_wp2_with fail
        refine HIL.out.mono ?_
        rintro e w2 ⟨rfl, rfl⟩
        go_wp2_with fail
        go_roundw
        case measure => have := HLT.out; simp [intOf]; omega
        case rel => exact ⟨k + 1, qs, by go_num, HLT.out, by rw [HT2.out]; exact HQ.out, Lib.hid (own_below HR.out HA.out), Lib.hid (fun p hp => (HW.out p hp).below HA.out), HB2⟩
      | true =>
        have HT2 := Lib.hid (show linksL (l.take (k + 1)) = linksL (l.take k) ++ [x] by rw [HT.out]; simp)
        go_wp2_with fail
        refine HIL.out.mono ?_
        rintro e w2 ⟨rfl, rfl⟩
        have hA2 : Below wr.heap.size wr ((wr.alloc (.cells #[.int .i64 x.k, .int .i64 x.n, .string x.t, .slice p4 x.w.length q4] 81)).alloc (.cells #[.int .i64 x.k, .int .i64 x.n, .string x.t, .slice p4 x.w.length q4] 81)) := HA.out.alloc HA.out.size _
        have HA2 := Lib.hid hA2
        have HR2 := Lib.hid (own_below HR.out hA2)
        have HB3 := Lib.hid (HB.out.trans (hA2.mono HB.out.size))
        have L3 := Lib.hid (show w.heap.size ≤ ((wr.alloc (.cells #[.int .i64 x.k, .int .i64 x.n, .string x.t, .slice p4 x.w.length q4] 81)).alloc (.cells #[.int .i64 x.k, .int .i64 x.n, .string x.t, .slice p4 x.w.length q4] 81)).heap.size from HB3.out.size)
        have HNC := Lib.hid (show ∀ j u, (oprRow (x, Value.slice p4 x.w.length q4))[j]? = some u → ((wr.alloc (.cells #[.int .i64 x.k, .int .i64 x.n, .string x.t, .slice p4 x.w.length q4] 81)).alloc (.cells #[.int .i64 x.k, .int .i64 x.n, .string x.t, .slice p4 x.w.length q4] 81)).cell? ((⟨wr.heap.size + 1, 0, none⟩ : Addr).add j) = some u from fun j u hu => by
          have h9 := cells_newI (wr.alloc (.cells #[.int .i64 x.k, .int .i64 x.n, .string x.t, .slice p4 x.w.length q4] 81)) #[.int .i64 x.k, .int .i64 x.n, .string x.t, .slice p4 x.w.length q4] 81 j u hu
          rw [show (wr.alloc (.cells #[.int .i64 x.k, .int .i64 x.n, .string x.t, .slice p4 x.w.length q4] 81)).heap.size = wr.heap.size + 1 by simp] at h9
          exact h9)
        clear hA2
        go_wp2_with (at_builtin; go_loud (refine wpList_append_own _ rfl _ _ 44 rfl w.heap.size 81 i0 _ 4 56 Tryz.underlying44 hi0 hz0 hz1 hz2 rfl (by decide) _ _ _ rfl HR2.out ⟨wr.heap.size + 1, 0, none⟩ 1 1 (oprRow (x, .slice p4 x.w.length q4)) rfl rfl HNC.out (oprRow_one x _ rfl) L1.out L2.out L3.out ?_); intro v3 w3 hown3 hgrow3 _; have HO3 := Lib.hid hown3; have HG3 := Lib.hid hgrow3; clear hown3 hgrow3)
        obtain ⟨p5, c5, rfl⟩ := lenL HO3.out
        have HZN := Lib.hid (show ∀ p ∈ qs ++ [(x, Value.slice p4 x.w.length q4)], RdZ (fun b => P b ∧ b < w.heap.size) w3 p.2 p.1.w by
          have st : ∀ (z : Value) (ws : List Int), RdZ (fun b => P b ∧ b < w.heap.size) wr z ws → RdZ (fun b => P b ∧ b < w.heap.size) w3 z ws := fun z ws hz =>
            (hz.below HA2.out).keep fun a ha hlt => World.cell?_of_block (HG3.out.block a.block hlt (fun e => by have := (own_base HR2.out e.symm).1; have := ha.2; omega))
          intro p hp
          rcases List.mem_append.1 hp with hp | hp
          · exact st _ _ (HW.out p hp)
          · rw [List.mem_singleton] at hp
            subst hp
            exact st _ _ HX4.out)
        have HB4 := Lib.hid (HB3.out.grown HG3.out L3.out (fun r e => (own_base HR2.out e).1))
        go_wp2_with fail
        go_roundw
        case measure => have := HLT.out; simp [intOf]; omega
        case rel => exact ⟨k + 1, qs ++ [(x, .slice p4 x.w.length q4)], by go_num, HLT.out, by rw [List.map_append, HQ.out, HT2.out]; rfl, Lib.hid (by rw [List.length_append, rowsO_snoc]; exact HO3.out), HZN, HB4⟩
    · obtain rfl : k = n := by omega
      have hz1 : ¬ (k : Int) < k := by omega
      have hrd := row_rd HR.out HW.out
      rw [hq, show l.take k = l by rw [← HN.out, List.take_length]] at hrd
      have hfl : (linksL l).length ≤ l.length := List.length_filter_le _ _
      have HC := Lib.hid (cloned_pro (linksL l) _ wr hrd (by have := HL.out; omega) (fun x hx => HLW.out x (List.mem_filter.1 hx).1))
      clear hlt hrd hq hfl
      go_wp2_with fail
      refine HC.out.mono ?_
      rintro e w2 ⟨v2, ps, rfl, ho, hps, hb⟩
      have HO := Lib.hid (ho.lower HB.out.size)
      have HPS := Lib.hid hps
      have HB2 := Lib.hid (HB.out.trans (hb.mono HB.out.size))
      clear ho hps hb
      go_wp2_with fail
      go_ret
      exact ⟨_, ps, rfl, HO.out, HPS.out, HB2.out⟩
end Go.Proofs.YtdagombmgcnofaaGreatDoor.Ir
