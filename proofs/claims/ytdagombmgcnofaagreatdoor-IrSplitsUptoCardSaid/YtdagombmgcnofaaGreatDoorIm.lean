/- Layer 11: the program's put behind a text that waits. -/
import Derived.Test.YtdagombmgcnofaaGreatDoorIl
namespace Go.Proofs.YtdagombmgcnofaaGreatDoor.Ir
open Go.RowKit Go.Maps Go.Proofs.YtdagombmgcnofaaGreatDoor
set_option linter.unusedVariables false
set_option maxRecDepth 100000 in
set_option maxHeartbeats 8000000 in
/-- An operation is put down behind a text that waits. -/
theorem put1_pro (B M K : Nat) (sv dv : Value) (dir : List Nd) (ops : List Opr) (t : List UInt8) (ht : t ≠ []) (x : Opr) (wv : Value) (w : World) (h : Low B M K sv dv dir ⟨ops, t⟩ w) (hw : w.ownsRow B 3 1 wv x.w.length (numsZ x.w)) (hl : ops.length ≤ 1000000000) :
    Calls Tryz.prog 159 #[.pointer (some ⟨M, 0, none⟩), oprVal x wv] w (lowP B M K sv dv dir ⟨ops ++ [txtOp t] ++ [x], []⟩ (.tuple #[]) w) := by
  obtain ⟨i0, hi0, hz0, hz1, hz2⟩ := info_parts infoO
  obtain ⟨ov, pv, ps, hL, hps⟩ := h
  dsimp only at hL hps
  obtain ⟨pw, cw, rfl⟩ := lenL hw
  have hpl : ps.length = ops.length := by rw [← hps, List.length_map]
  obtain ⟨c3, f3, hlt, hBM⟩ := hL.cell3
  have hA : Below w.heap.size w (w.alloc (.cells #[.int .i64 x.k, .int .i64 x.n, .string x.t, .slice pw x.w.length cw] 81)) := (Below.refl _ w).alloc (Nat.le_refl _) _
  have HA := Lib.hid hA
  have HLA := Lib.hid (hL.below hA)
  have HWA := Lib.hid (own_below hw hA)
  have HLn := Lib.hid (len6_pro B M sv dv _ ov pv t _ (hL.below hA).2.1)
  have L1 := Lib.hid (show ps.length + 1 ≤ maxLen by unfold maxLen; omega)
  have L2 := Lib.hid (show (ps.length + 1) * 56 ≤ 140737488355328 by omega)
  have L1b := Lib.hid (show (ps ++ [(txtOp t, Value.slice none 0 0)]).length + 1 ≤ maxLen by unfold maxLen; simp; omega)
  have L2b := Lib.hid (show ((ps ++ [(txtOp t, Value.slice none 0 0)]).length + 1) * 56 ≤ 140737488355328 by simp; omega)
  have HOb := Lib.hid (show ∀ c, ov.ownBlock = some c → c < w.heap.size from fun c hc => (own_base hL.2.2.1.row hc).2)
  have HPS := Lib.hid hps
  have HBM := Lib.hid hBM
  have HBW := Lib.hid (show B ≤ w.heap.size by omega)
  have hn0 : 0 < t.length := List.length_pos_iff.2 ht
  have HT0 := Lib.hid ht
  obtain ⟨n, hn⟩ : ∃ n, t.length = n := ⟨_, rfl⟩
  rw [hn] at HLn hn0
  have hn1 : (0 : Int) < (n : Nat) := by omega
  unfold oprVal
  clear hw hl hpl hL hps hn ht
  go_enter Tryz.func159, Tryz.ntmps159
  go_wp2_with fail
  refine HLn.out.mono ?_
  rintro e w1 ⟨rfl, rfl⟩
  obtain ⟨W1, hW1⟩ : ∃ W1, w.alloc (.cells #[.int .i64 x.k, .int .i64 x.n, .string x.t, .slice pw x.w.length cw] 81) = W1 := ⟨_, rfl⟩
  have hX := heap_alloc_new w (.cells #[.int .i64 x.k, .int .i64 x.n, .string x.t, .slice pw x.w.length cw] 81)
  rw [hW1] at HLA HWA HA hX
  obtain ⟨b, hb⟩ : ∃ b, w.heap.size = b := ⟨_, rfl⟩
  have hbl : b < W1.heap.size := by rw [← hb]; exact (Array.getElem?_eq_some_iff.1 hX).1
  rw [hb] at hX
  have HX := Lib.hid hX
  have hbM : b ≠ M := fun e => by
    obtain ⟨_, bv, hM, _⟩ := HLA.out.2.1
    rw [e, hM] at hX
    injection hX with e1
    injection e1 with _ e1
    exact absurd e1 (by decide)
  have HbM := Lib.hid hbM
  have HBb := Lib.hid (show B ≤ b by rw [← hb]; exact HBW.out)
  obtain ⟨q3, g3, hlt1, _⟩ := HLA.out.cell3
  have HLD := Lib.hid HLA.out.drew
  have HWD := Lib.hid (show W1.drew.ownsRow B 3 1 (.slice pw x.w.length cw) x.w.length (numsZ x.w) from HWA.out)
  have HS6 := Lib.hid (string6_pro B M sv dv _ ov pv t W1.drew HLD.out.2.1 HT0.out)
  have HBa := Lib.hid ((HA.out.mono (by rw [← hb] at *; exact HBW.out)).drew : Below B w W1.drew)
  have HKa := Lib.hid (show Kp M w W1.drew from Kp.trans (b := W1) (Kp.below (M := M) HA.out) (fun k o hk _ _ _ => hk))
  have mixed : Tryz.prog.follows .mixedOrders = true := by kernel_rfl
  clear c3 f3 hlt hBM hA hX hbM
  go_wp2_with fail
  go_region_law (first
    | (go_simp; go_at_call 78; refine HS6.out.mono ?_; rintro e w2 ⟨rfl, hbt⟩; have H2 := Lib.hid (HLD.out.built hbt HLD.out.1); have HB2 := Lib.hid (HBa.out.trans hbt.2.1); have HK2 := Lib.hid hbt.2.2; obtain ⟨r3, s3, hlt2, _⟩ := H2.out.cell3; have hE : Below w2.heap.size w2 (w2.alloc (.cells #[.int .i64 1, .int .i64 0, .string ⟨t.toArray⟩, .slice none 0 0] 81)) := (Below.refl _ w2).alloc (Nat.le_refl _) _; have HE2 := Lib.hid (H2.out.below hE); have rA := HE2.out.cell3.1; have HB2a := Lib.hid (HB2.out.trans (hE.mono (Nat.le_trans HBM.out (Nat.le_of_lt hlt2))) : Below B w (w2.alloc (.cells #[.int .i64 1, .int .i64 0, .string ⟨t.toArray⟩, .slice none 0 0] 81))); have L3 := Lib.hid (show B ≤ (w2.alloc (.cells #[.int .i64 1, .int .i64 0, .string ⟨t.toArray⟩, .slice none 0 0] 81)).heap.size from Nat.le_trans HBM.out (Nat.le_of_lt (Nat.lt_of_lt_of_le hlt2 hE.size))); have HKE := Lib.hid (Kp.trans (HKa.out.others hbt.2.2) (Kp.below hE)); have HNl := Lib.hid (World.ownsRow_nil (w2.alloc (.cells #[.int .i64 1, .int .i64 0, .string ⟨t.toArray⟩, .slice none 0 0] 81)) B 3 1); clear hbt hE)
    | (refine step_append_lies _ rfl (.tmp 13) (.tmp 19) 44 rfl B 81 i0 _ 4 56 Tryz.underlying44 hi0 hz0 hz1 hz2 rfl (by decide) ov ps.length (rowsO ps) (by simp [Act.eval]) HE2.out.2.2.1.row ⟨w2.heap.size, 0, none⟩ 1 1 (oprRow (txtOp t, .slice none 0 0)) (by simp [Act.eval]) rfl (cells_newI _ _ _) (oprRow_one (txtOp t) _ rfl) (by decide) L1.out L2.out L3.out _ rfl ?_; intro g' cap w3 hown' hgrow hat _; obtain ⟨l3, o3, k3⟩ := HE2.out.grown (x := txtOp t) HNl.out hgrow hown'; obtain ⟨q0, q1⟩ := l3.cell3; have HSx := Lib.hid (LowAt.stored HE2.out.1 l3 o3 k3); have HB3 := Lib.hid ((HB2a.out.grown hgrow L3.out (fun r e => (own_base HE2.out.2.2.1.row e).1)).setCell (p := ⟨M, 3, none⟩) HBM.out (.slice (some ⟨g', 0, none⟩) (ps.length + 1) cap)); have HG3 := Lib.hid hgrow; have HKP3 := Lib.hid ((HKE.out.grown HE2.out.2.2.1.row hgrow).set 3 (.slice (some ⟨g', 0, none⟩) (ps.length + 1) cap)); clear hown' hgrow hat l3 o3 k3))
  all_goals
    have hX4 : (w3.setCell ⟨M, 3, none⟩ (.slice (some ⟨g', 0, none⟩) (ps.length + 1) cap)).heap[b]? = some (.cells #[.int .i64 x.k, .int .i64 x.n, .string x.t, .slice pw x.w.length cw] 81) := by
      have h2 := HK2.out b _ (show W1.drew.heap[b]? = some (.cells #[.int .i64 x.k, .int .i64 x.n, .string x.t, .slice pw x.w.length cw] 81) from HX.out) (fun e => HbM.out (Option.some.inj e)) (fun c fz e => by injection e with _ e; exact absurd e (by decide))
      have hl2 := (Array.getElem?_eq_some_iff.1 h2).1
      have h3 := HG3.out.block b (Nat.lt_of_lt_of_le hl2 (by simp)) (fun e => by have := HOb.out b e.symm; omega)
      rw [Below.heap_setCell _ _ _ _ HbM.out, h3, Below.heap_alloc _ _ _ hl2]
      exact h2
    have hW4 : (w3.setCell ⟨M, 3, none⟩ (.slice (some ⟨g', 0, none⟩) (ps.length + 1) cap)).ownsRow B 3 1 (.slice pw x.w.length cw) x.w.length (numsZ x.w) := by
      have nM := (HLD.out.2.1)
      obtain ⟨_, bvD, hMD, _⟩ := HLD.out.2.1
      have h2 := own_others HWD.out HK2.out (by decide) (own_notM HWD.out hMD (by decide))
      have h2a := own_below h2 (show Below w2.heap.size w2 (w2.alloc (.cells #[.int .i64 1, .int .i64 0, .string ⟨t.toArray⟩, .slice none 0 0] 81)) from (Below.refl _ w2).alloc (Nat.le_refl _) _)
      have h3 := own_stays (W' := w3) h2a fun c hc => HG3.out.block c (own_base h2a hc).2 (fun e => own_ne h2a HE2.out.2.2.1.row (by decide) hc e.symm)
      obtain ⟨_, bvS, hMS, _⟩ := HSx.out.2.1
      refine own_stays h3 fun c hc => Below.heap_setCell _ _ _ _ (fun e => ?_)
      obtain ⟨_, bv2, hM2, _⟩ := H2.out.2.1
      exact own_notM h2 hM2 (by decide) (by rw [hc, e])
    obtain ⟨V, hV⟩ : ∃ V : Value, (.slice (some ⟨g', 0, none⟩) (ps.length + 1) cap) = V := ⟨_, rfl⟩
    obtain ⟨W4, hWW⟩ : ∃ W4, w3.setCell ⟨M, 3, none⟩ (.slice (some ⟨g', 0, none⟩) (ps.length + 1) cap) = W4 := ⟨_, rfl⟩
    rw [hWW] at HSx HB3 hX4 hW4 HKP3
    rw [hV] at HSx
    have HX4 := Lib.hid hX4
    have HW4 := Lib.hid hW4
    have HR := Lib.hid (reset6_pro B M sv dv _ V pv t W4 HSx.out.2.1)
    have HM2 := Lib.hid H2.out.2.1
    clear hX4 hW4 q0 q1 r3 s3 rA q3 g3 hlt1 hlt2 hbl hV
    go_wp2_with fail
    refine HR.out.mono ?_
    rintro e W5 ⟨rfl, hbt⟩
    have H5 := Lib.hid (HSx.out.built hbt (.inl rfl))
    have hX5 := hbt.2.2 b _ HX4.out (fun e => HbM.out (Option.some.inj e)) (fun c fz e => by injection e with _ e; exact absurd e (by decide))
    obtain ⟨d0, d1, d2, d3⟩ : W5.cell? ⟨b, 0, none⟩ = some (.int .i64 x.k) ∧ W5.cell? ⟨b, 1, none⟩ = some (.int .i64 x.n) ∧ W5.cell? ⟨b, 2, none⟩ = some (.string x.t) ∧ W5.cell? ⟨b, 3, none⟩ = some (.slice pw x.w.length cw) := by
      refine ⟨?_, ?_, ?_, ?_⟩ <;> rw [cell_of_row _ _ _ _ _ _ hX5] <;> rfl
    have hbl := (Array.getElem?_eq_some_iff.1 hX5).1
    have hW5 : W5.ownsRow B 3 1 (.slice pw x.w.length cw) x.w.length (numsZ x.w) := by
      obtain ⟨_, bvS, hMS, _⟩ := HSx.out.2.1
      exact own_others HW4.out hbt.2.2 (by decide) (own_notM HW4.out hMS (by decide))
    have HB5 := Lib.hid (HB3.out.trans hbt.2.1)
    have HKB5 := Lib.hid (Kp.trans (b := W5.drew) (Kp.trans (HKP3.out.others hbt.2.2) (fun k o hk _ _ _ => hk)) (Kp.below ((Below.refl _ W5.drew).alloc (Nat.le_refl _) (.cells #[.int .i64 x.k, .int .i64 x.n, .string x.t, .slice pw x.w.length cw] 81))))
    obtain ⟨q3, g3, hlt1, _⟩ := H5.out.cell3
    have HLD5 := Lib.hid H5.out.drew
    have HWD5 := Lib.hid (show W5.drew.ownsRow B 3 1 (.slice pw x.w.length cw) x.w.length (numsZ x.w) from hW5)
    have hB6 : Below W5.drew.heap.size W5.drew (W5.drew.alloc (.cells #[.int .i64 x.k, .int .i64 x.n, .string x.t, .slice pw x.w.length cw] 81)) := (Below.refl _ _).alloc (Nat.le_refl _) _
    have HLE5 := Lib.hid (HLD5.out.below hB6)
    have HWE5 := Lib.hid (own_below HWD5.out hB6)
    have hBW5 : B ≤ W5.heap.size := Nat.le_trans HBM.out (Nat.le_of_lt hlt1)
    have L35 := Lib.hid (show B ≤ (W5.drew.alloc (.cells #[.int .i64 x.k, .int .i64 x.n, .string x.t, .slice pw x.w.length cw] 81)).heap.size from Nat.le_trans hBW5 hB6.size)
    have HBB5 := Lib.hid (HB5.out.drew.trans (hB6.mono (show B ≤ W5.drew.heap.size from hBW5)) : Below B w _)
    have qA : (W5.alloc (.cells #[.int .i64 x.k, .int .i64 x.n, .string x.t, .slice pw x.w.length cw] 81)).cell? ⟨M, 3, none⟩ = some V := (H5.out.below ((Below.refl _ W5).alloc (Nat.le_refl _) _)).cell3.1
    have HP5 := Lib.hid H5.out.1
    clear hbt hX5 hW5 hB6 hBW5
    obtain ⟨qs, hqs⟩ : ∃ qs, ps ++ [(txtOp t, Value.slice none 0 0)] = qs := ⟨_, rfl⟩
    have HQS := Lib.hid hqs
    rw [hqs] at L1b L2b H5 HLD5 HLE5
    clear hqs
    go_wp2_with fail
    go_region_law (refine step_append_lies _ rfl (.tmp 31) (.tmp 33) 44 rfl B 81 i0 _ 4 56 Tryz.underlying44 hi0 hz0 hz1 hz2 rfl (by decide) V qs.length (rowsO qs) (by simp [Act.eval]) HLE5.out.2.2.1.row ⟨W5.heap.size, 0, none⟩ 1 1 (oprRow (x, .slice pw x.w.length cw)) (by simp [Act.eval]) rfl (cells_newI _ _ _) (oprRow_one x _ rfl) (by decide) L1b.out L2b.out L35.out _ rfl ?_; intro g6 cap6 w6 hown' hgrow hat _; obtain ⟨l3, o3, k3⟩ := HLE5.out.grown HWE5.out hgrow hown'; obtain ⟨q0, q1⟩ := l3.cell3; have HS := Lib.hid (LowAt.stored HP5.out l3 o3 k3); have HB6 := Lib.hid ((HBB5.out.grown hgrow L35.out (fun r e => (own_base HLE5.out.2.2.1.row e).1)).setCell (p := ⟨M, 3, none⟩) HBM.out (.slice (some ⟨g6, 0, none⟩) (qs.length + 1) cap6)); have HK6 := Lib.hid ((HKB5.out.grown HLE5.out.2.2.1.row hgrow).set 3 (.slice (some ⟨g6, 0, none⟩) (qs.length + 1) cap6)); clear hown' hgrow hat l3 o3 k3)
    all_goals
      go_wp2_with fail
      go_end0
      exact ⟨rfl, ⟨_, _, _, HS.out, by rw [← HQS.out, List.map_append, List.map_append, HPS.out]; rfl⟩, HB6.out, HK6.out⟩
end Go.Proofs.YtdagombmgcnofaaGreatDoor.Ir
