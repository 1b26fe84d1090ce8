/- Layer 10: the program's Check, mayBe, entryOf, mayLook. -/
import Derived.Test.YtjnnkelbedmccaaTob
namespace Go.Proofs.Ytjnnkelbedmccaa
open Go.RowKit Go.Maps
set_option linter.unusedVariables false

theorem ahd_range {N : Int} {l : List Ent} {k : Nat} (h : ∀ j, j < k → badAt N l j = 0) : 0 ≤ ahd l k ∧ ahd l k ≤ 8 := by
  rcases k with _ | k
  · simp [ahd]
  · have h1 := (bad_zero (h k (by omega))).2.2.1
    unfold mayB at h1
    have h2 := of_decide_eq_true h1
    simp only [ahd]
    omega
def ChkIs (N : Int) (l : List Ent) (w : World) (e : Ending) (w' : World) : Prop := e = .returned (.tuple #[.int .i64 (chk N l).1, .int .i64 (chk N l).2]) ∧ Below w.heap.size w w'
set_option maxRecDepth 100000 in
set_option maxHeartbeats 2000000 in
theorem check_pro (l : List Ent) (v : Value) (N : Int) (w : World) (hv : RdE w v l) : Calls Try.prog 14 #[v, .int .i64 N] w (ChkIs N l w) := by
  obtain ⟨pa, cap, rfl, hcl, hcm⟩ := hv.form
  have hmm := @run_makeMap Try.prog
  by_cases hlong : 1000 < l.length
  · have HF := Lib.hid (show ChkIs N l w (.returned (.tuple #[.int .i64 0, .int .i64 2])) w from ⟨by rw [chk_long hlong], Below.refl _ _⟩)
    have h1 : (1000 : Int) < l.length := by omega
    clear hv hcl hcm hmm
    go_enter Try.func14, Try.ntmps14
    go_wp2_with fail
    go_ret2
    exact HF.out
  · have h1 : ¬ (1000 : Int) < l.length := by omega
    have HV := Lib.hid hv
    have HL := Lib.hid (show l.length ≤ 1000 by omega)
    have hS0 := Lib.hid (SetAt.made w)
    have HB0 := Lib.hid ((Below.refl w.heap.size w).alloc (Nat.le_refl _) (.map #[] 0))
    clear hv hcl hcm hlong
    go_enter Try.func14, Try.ntmps14
    go_wp2_with fail
    clear hmm
    go_loopw [7, 18] (fun s7 i wr => ∃ k : Nat, i = .int .i64 (k : Nat) ∧ s7 = .int .i64 (ahd l k) ∧ k ≤ l.length ∧ Hid (∀ j, j < k → badAt N l j = 0) ∧ Hid (SetAt wr w.heap.size (tops (l.take k))) ∧ Hid (Below w.heap.size w wr)) (fun _ i _ => l.length - (intOf i).toNat)
    case atStart => exact ⟨0, rfl, rfl, Nat.zero_le _, Lib.hid (fun j hj => absurd hj (Nat.not_lt_zero _)), hS0, HB0⟩
    case round =>
      obtain ⟨k, rfl, rfl, hk, HA, HS, HB⟩ := hrel
      by_cases hlt : k < l.length
      · obtain ⟨b, off, rfl, c0, c1⟩ := (HV.out.below HB.out).cell hlt
        have hfit := HV.out.fit hlt
        have hfit1 : (Lit.int .i64 (tpN l k)).wf = true := by rw [tpN_at hlt]; exact hfit.1
        have WF := Lib.hid hfit1
        have HSN := Lib.hid (tops_snoc hlt)
        have hah := ahd_range HA.out
        have hbz := fun h1 h2 h3 h4 => bad_ok (N := N) (l := l) (k := k) h1 h2 h3 h4
        have hbr := bad_range (N := N) (l := l) (k := k)
        have hbl := bad_level (N := N) (l := l) (k := k)
        have hbt := bad_twice (N := N) (l := l) (k := k)
        have hcf : badAt N l k ≠ 0 → chk N l = (((k : Nat) : Int), badAt N l k) := fun h => chk_first HL.out hlt HA.out h
        have HCF := Lib.hid hcf
        have ha1 : ahd l (k + 1) = lvN l k := rfl
        obtain ⟨t, ht⟩ : ∃ t, tpN l k = t := ⟨_, rfl⟩
        obtain ⟨u, hu⟩ : ∃ u, lvN l k = u := ⟨_, rfl⟩
        obtain ⟨a, ha⟩ : ∃ a, ahd l k = a := ⟨_, rfl⟩
        rw [ht] at c0 WF HSN hbz hbr hbl hbt
        rw [hu] at c1 hbz hbl hbt ha1
        rw [ha] at hah hbz hbl hbt ⊢
        have HA1 := Lib.hid ha1
        have HLT := Lib.hid hlt
        have hk1 : (k : Int) < l.length := by omega
        have hL := HL.out
        obtain ⟨D, hown, hmp⟩ := HS.out
        have hA : Below wr.heap.size wr (wr.alloc (.cells #[.int .i64 t, .int .i64 u] 67)) := (Below.refl _ _).alloc (Nat.le_refl _) _
        have HO := Lib.hid (show (wr.alloc (.cells #[.int .i64 t, .int .i64 u] 67)).ownsMap Try.prog 3 unitElem w.heap.size (tops (l.take k)).length D by
          obtain ⟨es, ck, q1, q2⟩ := hown
          exact ⟨es, ck, (hA.block _ HS.out.lt).trans q1, q2⟩)
        have HMP := Lib.hid hmp
        have htl : (tops (l.take k)).length ≤ 1000 := by rw [tops_len, List.length_take]; omega
        have HTL := Lib.hid htl
        have HA2 := Lib.hid (HB.out.alloc HB.out.size (.cells #[.int .i64 t, .int .i64 u] 67))
        have HA3 := Lib.hid (HA2.out.alloc HA2.out.size (.cells #[] 81))
        have hfo := fun w' => follow_pro a u w' hah.1 (by omega)
        obtain ⟨mb, hmb⟩ : ∃ mb, mayB a u = mb := ⟨_, rfl⟩
        rw [hmb] at hbz hbl hbt hfo
        have HFO := Lib.hid hfo
        clear hfo
        by_cases hr : t < 0 ∨ N ≤ t
        · have HE := Lib.hid (hbr hr)
          have HF := Lib.hid (show ChkIs N l w (.returned (.tuple #[.int .i64 (k : Nat), .int .i64 1])) ((wr.alloc (.cells #[.int .i64 t, .int .i64 u] 67)).alloc (.cells #[] 81)) from ⟨by rw [HCF.out (by rw [HE.out]; decide), HE.out], HA3.out⟩)
          clear hbz hbr hbl hbt hcf hfit hfit1 ha1 ht hu ha hlt hown hmp htl hah hmb
          rcases (show t < 0 ∨ (0 ≤ t ∧ N ≤ t) by omega) with h5 | ⟨h5, h6⟩
          · clear hr
            go_wp2_with (at_lookup; go_loud (refine wpList_lookup_own_unit _ rfl _ _ 80 rfl 3 81 lawI Try.underlying80 (zeroUL _) w.heap.size _ D rfl HO.out _ _ rfl (keyOf_int_mk Try.underlying3 WF.out) ?_))
            go_ret2
            exact HF.out
          · clear hr
            go_wp2_with (at_lookup; go_loud (refine wpList_lookup_own_unit _ rfl _ _ 80 rfl 3 81 lawI Try.underlying80 (zeroUL _) w.heap.size _ D rfl HO.out _ _ rfl (keyOf_int_mk Try.underlying3 WF.out) ?_))
            go_ret2
            exact HF.out
        · have h5 : 0 ≤ t := by omega
          have h6 : t < N := by omega
          clear hr
          cases mb with
          | false =>
            have HE := Lib.hid (hbl h5 h6 rfl)
            have HF := Lib.hid (show ChkIs N l w (.returned (.tuple #[.int .i64 (k : Nat), .int .i64 100])) ((wr.alloc (.cells #[.int .i64 t, .int .i64 u] 67)).alloc (.cells #[] 81)) from ⟨by rw [HCF.out (by rw [HE.out]; decide), HE.out], HA3.out⟩)
            clear hbz hbr hbl hbt hcf hfit hfit1 ha1 ht hu ha hlt hown hmp htl hah hmb
            go_wp2_with (first | (at_lookup; go_loud (refine wpList_lookup_own_unit _ rfl _ _ 80 rfl 3 81 lawI Try.underlying80 (zeroUL _) w.heap.size _ D rfl HO.out _ _ rfl (keyOf_int_mk Try.underlying3 WF.out) ?_)) | (with_reducible refine (HFO.out _).mono ?_; rintro e w1 ⟨rfl, rfl⟩))
            go_ret2
            exact HF.out
          | true =>
            by_cases hin : t ∈ tops (l.take k)
            · have HE := Lib.hid (hbt h5 h6 rfl hin)
              have HF := Lib.hid (show ChkIs N l w (.returned (.tuple #[.int .i64 (k : Nat), .int .i64 101])) ((wr.alloc (.cells #[.int .i64 t, .int .i64 u] 67)).alloc (.cells #[] 81)) from ⟨by rw [HCF.out (by rw [HE.out]; decide), HE.out], HA3.out⟩)
              have hhas : Maps.has D (.int .i64 t) = true := (hmp.has t).2 hin
              clear hbz hbr hbl hbt hcf hfit hfit1 ha1 ht hu ha hlt hown hmp htl hah hmb hin
              go_wp2_with (first | (at_lookup; go_loud (refine wpList_lookup_own_unit _ rfl _ _ 80 rfl 3 81 lawI Try.underlying80 (zeroUL _) w.heap.size _ D rfl HO.out _ _ rfl (keyOf_int_mk Try.underlying3 WF.out) ?_)) | (with_reducible refine (HFO.out _).mono ?_; rintro e w1 ⟨rfl, rfl⟩))
              go_ret2
              exact HF.out
            · have HE := Lib.hid (hbz h5 h6 rfl hin)
              have hhas : Maps.has D (.int .i64 t) = false := hmp.no hin
              have HP := Lib.hid (hmp.put t)
              have HX := Lib.hid (show ∀ w2 : World, ((wr.alloc (.cells #[.int .i64 t, .int .i64 u] 67)).alloc (.cells #[] 81)).grownBy w2 (some w.heap.size) → w2.cell? ⟨wr.heap.size, 1, none⟩ = some (.int .i64 u) from fun w2 hg => by
                have hlt9 := HS.out.lt
                have e1 := hg.block wr.heap.size (by simp; omega) (by intro e; injection e with e; omega)
                have e2 := ((Below.refl _ (wr.alloc (.cells #[.int .i64 t, .int .i64 u] 67))).alloc (Nat.le_refl _) (.cells #[] 81)).block wr.heap.size (by simp)
                rw [cell_of_row _ _ _ _ _ _ (e1.trans (e2.trans (heap_alloc_new wr _)))]
                rfl)
              have HO2 := Lib.hid (show ((wr.alloc (.cells #[.int .i64 t, .int .i64 u] 67)).alloc (.cells #[] 81)).ownsMap Try.prog 3 unitElem w.heap.size (tops (l.take k)).length D by
                obtain ⟨es, ck, q1, q2⟩ := HO.out
                have hlt9 : w.heap.size < (wr.alloc (.cells #[.int .i64 t, .int .i64 u] 67)).heap.size := by have := HS.out.lt; simp; omega
                exact ⟨es, ck, (((Below.refl _ _).alloc (Nat.le_refl _) _).block _ hlt9).trans q1, q2⟩)
              clear hbz hbr hbl hbt hcf hfit hfit1 ha1 ht hu ha hlt hown hmp htl hah hmb hin
              go_wp2_with (first | (at_lookup; go_loud (refine wpList_lookup_own_unit _ rfl _ _ 80 rfl 3 81 lawI Try.underlying80 (zeroUL _) w.heap.size _ D rfl HO.out _ _ rfl (keyOf_int_mk Try.underlying3 WF.out) ?_)) | (with_reducible refine (HFO.out _).mono ?_; rintro e w1 ⟨rfl, rfl⟩) | (at_mapUpdate; go_loud (refine wpList_mapUpdate_own _ rfl _ _ _ 80 rfl 3 81 lawI Try.underlying80 unitElem w.heap.size (tops (l.take k)).length D rfl HO2.out (by have := HTL.out; unfold maxLen; omega) _ _ _ rfl rfl (keyOf_int_mk Try.underlying3 WF.out) _ [] unitElem_mk ?_); intro w2 hown2 hgrow2; have HOw := Lib.hid hown2; have HG2 := Lib.hid hgrow2; have c3 := HX.out _ hgrow2; clear hown2 hgrow2))
              go_roundw
              case measure => have := HLT.out; first | (simp [intOf]; done) | (simp [intOf]; omega)
              case rel =>
                refine ⟨k + 1, by go_num, by rw [HA1.out], by have := HLT.out; omega, Lib.hid (fun j hj => ?_), Lib.hid ⟨_, ?_, by rw [HSN.out]; exact HP.out⟩, Lib.hid (HA3.out.grown HG2.out HA3.out.size (fun r e => by cases e; exact Nat.le_refl _))⟩
                · rcases Nat.eq_or_lt_of_le (Nat.le_of_lt_succ hj) with e | h9
                  · rw [e]; exact HE.out
                  · exact HA.out j h9
                · rw [HSN.out, List.length_append]; exact HOw.out
      · obtain rfl : k = l.length := by omega
        have hkx : ¬ ((l.length : Nat) : Int) < l.length := by omega
        have HF := Lib.hid (show ChkIs N l w (.returned (.tuple #[.int .i64 0, .int .i64 0])) wr from ⟨by rw [chk_none HL.out HA.out], HB.out⟩)
        clear hlt hk
        go_wp2_with fail
        go_ret2
        exact HF.out
end Go.Proofs.Ytjnnkelbedmccaa
