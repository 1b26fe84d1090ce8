/- The program's checkOwn. -/
import Derived.Test.YtceanagnkcejgaaGreatDoorTab
namespace Go.Proofs.YtceanagnkcejgaaGreatDoor
open Go.RowKit
set_option linter.unusedVariables false

/-- What a style's numbers and texts may be, as they come in. -/
def FitS (s : Sty) : Prop := s.nm.length ≤ 9223372036854775807 ∧ s.pr.length ≤ 9223372036854775807 ∧ In64 s.ch.on ∧ In64 s.ch.off ∧ In64 s.ch.col
def Fit (l : List Sty) : Prop := ∀ s ∈ l, FitS s
theorem Fit.at {l : List Sty} (h : Fit l) {i : Nat} (hi : i < l.length) : FitS (gets l i) := by rw [gets_eq hi]; exact h _ (List.getElem_mem hi)
theorem ownE_mask {c : Chg} (h1 : In64 c.on) (h2 : In64 c.off) : ownE c = if ¬ bits .andNot .i64 (bits .or .i64 c.on c.off) 127 = 0 then 62 else if ¬ bits .and .i64 c.on c.off = 0 then 62 else if c.col < -1 ∨ 15 < c.col then 63 else 0 := by
  have hm := mask_ok h1 h2
  unfold ownE
  by_cases a : bits .andNot .i64 (bits .or .i64 c.on c.off) 127 = 0
  · have hm2 := hm.1 a
    by_cases b : bits .and .i64 c.on c.off = 0
    · rw [if_neg (show ¬ (c.on < 0 ∨ c.off < 0 ∨ 127 < c.on ∨ 127 < c.off ∨ ¬ bits .and .i64 c.on c.off = 0) by rintro (h | h | h | h | h) <;> first | omega | exact h b), if_neg (Classical.not_not.2 a), if_neg (Classical.not_not.2 b)]
    · rw [if_pos (.inr (.inr (.inr (.inr b)))), if_neg (Classical.not_not.2 a), if_pos b]
  · have h3 : ¬ (0 ≤ c.on ∧ c.on ≤ 127 ∧ 0 ≤ c.off ∧ c.off ≤ 127) := fun h => a (hm.2 h)
    have h4 : c.on < 0 ∨ c.off < 0 ∨ 127 < c.on ∨ 127 < c.off ∨ ¬ bits .and .i64 c.on c.off = 0 := by
      rcases Int.lt_or_le c.on 0 with h | h
      · exact .inl h
      rcases Int.lt_or_le c.off 0 with h' | h'
      · exact .inr (.inl h')
      rcases Int.lt_or_le 127 c.on with h'' | h''
      · exact .inr (.inr (.inl h''))
      rcases Int.lt_or_le 127 c.off with h''' | h'''
      · exact .inr (.inr (.inr (.inl h''')))
      exact absurd ⟨h, h'', h', h'''⟩ h3
    rw [if_pos h4, if_pos a]
theorem ret_i {k : IntKind} {a b : Int} (h : a = b) : Ending.returned (.int k a) = Ending.returned (.int k b) := by rw [h]
theorem bne_t {a b : Int} (h : ¬ a = b) : (a != b) = true := by simpa using h
theorem bne_f {a b : Int} (h : a = b) : (a != b) = false := by simpa using h

set_option maxRecDepth 100000 in
set_option maxHeartbeats 4000000 in
theorem checkOwn_pro (l : List Sty) (i : Nat) (v : Value) (w : World) (h : Sh w v l) (hf : Fit l) (hi : i < l.length) :
    Calls Tryz.prog 30 #[v, .int .i64 i] w (Says (.int .i64 (ck1 l i : Nat)) w) := by
  obtain ⟨n1, n2, n3, n4, n5⟩ := hf.at hi
  have hgi := gets_eq hi
  obtain ⟨j, hj, hji⟩ := fnd_here (l := l) (x := (gets l i).nm) hi (by rw [hgi])
  have hO := ownE_mask n3 n4
  obtain ⟨pa, cap, rfl, hc1, hc2⟩ := h.form
  obtain ⟨b, off, rfl, c0, c1, c2, c3, c4⟩ := h.cells hi
  have HC : Hid (ck1 l i = _) := Lib.hid (show ck1 l i = if nameB (gets l i).nm = false then 60 else if j < i then 61 else ownE (gets l i).ch by unfold ck1; rw [hj]; rfl)
  obtain ⟨s, hs⟩ : ∃ s, gets l i = s := ⟨_, rfl⟩
  rw [hs] at n1 n3 n4 n5 hj hO c0 c1 c2 c3 c4 HC
  have HA := Lib.hid ((Below.refl _ w).alloc (Nat.le_refl _) (.cells #[.string (bs s.nm), .string (bs s.pr), .int .i64 s.ch.on, .int .i64 s.ch.off, .int .i64 s.ch.col] 29))
  have HF := Lib.hid ((find_pro l s.nm _ _ (h.below HA.out)))
  rw [hj] at HF
  have HN := Lib.hid (fun W => isName_pro s.nm W n1)
  have bx := heap_alloc_new w (.cells #[.string (bs s.nm), .string (bs s.pr), .int .i64 s.ch.on, .int .i64 s.ch.off, .int .i64 s.ch.col] 29)
  have HX := Lib.hid bx
  clear h hf n1 n2 hj bx hgi hs
  unfold maxLen at hc2
  unfold fndV at HF
  by_cases hn : nameB s.nm = true
  · rw [hn] at HN HC
    rw [if_neg (by decide)] at HC
    by_cases hlt : j < i
    · have HV := Lib.hid (HC.out.trans (if_pos hlt))
      clear HC hO
      go_enter Tryz.func30, Tryz.ntmps30
      go_wp2_with fail
      refine HF.out.mono ?_
      rintro e w1 ⟨rfl, rfl⟩
      go_wp2_with fail
      refine (HN.out _).mono ?_
      rintro e w2 ⟨rfl, hb⟩
      have x2 := (hb.block w.heap.size (Array.getElem?_eq_some_iff.1 HX.out).1).trans HX.out
      have d2 : w2.cell? ⟨w.heap.size, 2, none⟩ = some (.int .i64 s.ch.on) := by rw [cell_of_row _ _ _ _ _ _ x2]; rfl
      have d3 : w2.cell? ⟨w.heap.size, 3, none⟩ = some (.int .i64 s.ch.off) := by rw [cell_of_row _ _ _ _ _ _ x2]; rfl
      have d4 : w2.cell? ⟨w.heap.size, 4, none⟩ = some (.int .i64 s.ch.col) := by rw [cell_of_row _ _ _ _ _ _ x2]; rfl
      have HB := Lib.hid (HA.out.trans (hb.mono HA.out.size))
      clear hb x2
      go_wp2_with fail
      go_ret
      exact ⟨ret_i (by rw [HV.out]; rfl), HB.out⟩
    · have HC2 := Lib.hid (HC.out.trans (if_neg hlt))
      clear HC
      by_cases m1 : bits .andNot .i64 (bits .or .i64 s.ch.on s.ch.off) 127 = 0
      · have t1 := bne_f m1
        rw [if_neg (fun h => h m1)] at hO
        clear m1
        by_cases m2 : bits .and .i64 s.ch.on s.ch.off = 0
        · have t2 := bne_f m2
          rw [if_neg (fun h => h m2)] at hO
          clear m2
          by_cases m3 : s.ch.col < -1
          · have HV := Lib.hid (HC2.out.trans (hO.trans (if_pos (.inl m3))))
            clear HC2 hO
            go_enter Tryz.func30, Tryz.ntmps30
            go_wp2_with fail
            refine HF.out.mono ?_
            rintro e w1 ⟨rfl, rfl⟩
            go_wp2_with fail
            refine (HN.out _).mono ?_
            rintro e w2 ⟨rfl, hb⟩
            have x2 := (hb.block w.heap.size (Array.getElem?_eq_some_iff.1 HX.out).1).trans HX.out
            have d2 : w2.cell? ⟨w.heap.size, 2, none⟩ = some (.int .i64 s.ch.on) := by rw [cell_of_row _ _ _ _ _ _ x2]; rfl
            have d3 : w2.cell? ⟨w.heap.size, 3, none⟩ = some (.int .i64 s.ch.off) := by rw [cell_of_row _ _ _ _ _ _ x2]; rfl
            have d4 : w2.cell? ⟨w.heap.size, 4, none⟩ = some (.int .i64 s.ch.col) := by rw [cell_of_row _ _ _ _ _ _ x2]; rfl
            have HB := Lib.hid (HA.out.trans (hb.mono HA.out.size))
            clear hb x2
            go_wp2_with fail
            go_ret
            exact ⟨ret_i (by rw [HV.out]; rfl), HB.out⟩
          · by_cases m4 : 15 < s.ch.col
            · have HV := Lib.hid (HC2.out.trans (hO.trans (if_pos (.inr m4))))
              have t3 : decide (s.ch.col < -1) = false := by simpa using m3
              clear HC2 hO
              go_enter Tryz.func30, Tryz.ntmps30
              go_wp2_with fail
              refine HF.out.mono ?_
              rintro e w1 ⟨rfl, rfl⟩
              go_wp2_with fail
              refine (HN.out _).mono ?_
              rintro e w2 ⟨rfl, hb⟩
              have x2 := (hb.block w.heap.size (Array.getElem?_eq_some_iff.1 HX.out).1).trans HX.out
              have d2 : w2.cell? ⟨w.heap.size, 2, none⟩ = some (.int .i64 s.ch.on) := by rw [cell_of_row _ _ _ _ _ _ x2]; rfl
              have d3 : w2.cell? ⟨w.heap.size, 3, none⟩ = some (.int .i64 s.ch.off) := by rw [cell_of_row _ _ _ _ _ _ x2]; rfl
              have d4 : w2.cell? ⟨w.heap.size, 4, none⟩ = some (.int .i64 s.ch.col) := by rw [cell_of_row _ _ _ _ _ _ x2]; rfl
              have HB := Lib.hid (HA.out.trans (hb.mono HA.out.size))
              clear hb x2
              go_wp2_with fail
              go_ret
              exact ⟨ret_i (by rw [HV.out]; rfl), HB.out⟩
            · have HV := Lib.hid (HC2.out.trans (hO.trans (if_neg (by omega))))
              have t3 : decide (s.ch.col < -1) = false := by simpa using m3
              have t4 : decide (15 < s.ch.col) = false := by simpa using m4
              clear HC2 hO
              go_enter Tryz.func30, Tryz.ntmps30
              go_wp2_with fail
              refine HF.out.mono ?_
              rintro e w1 ⟨rfl, rfl⟩
              go_wp2_with fail
              refine (HN.out _).mono ?_
              rintro e w2 ⟨rfl, hb⟩
              have x2 := (hb.block w.heap.size (Array.getElem?_eq_some_iff.1 HX.out).1).trans HX.out
              have d2 : w2.cell? ⟨w.heap.size, 2, none⟩ = some (.int .i64 s.ch.on) := by rw [cell_of_row _ _ _ _ _ _ x2]; rfl
              have d3 : w2.cell? ⟨w.heap.size, 3, none⟩ = some (.int .i64 s.ch.off) := by rw [cell_of_row _ _ _ _ _ _ x2]; rfl
              have d4 : w2.cell? ⟨w.heap.size, 4, none⟩ = some (.int .i64 s.ch.col) := by rw [cell_of_row _ _ _ _ _ _ x2]; rfl
              have HB := Lib.hid (HA.out.trans (hb.mono HA.out.size))
              clear hb x2
              go_wp2_with fail
              go_ret
              exact ⟨ret_i (by rw [HV.out]; rfl), HB.out⟩
        · have t2 := bne_t m2
          rw [if_pos m2] at hO
          have HV := Lib.hid (HC2.out.trans hO)
          clear HC2 hO m2
          go_enter Tryz.func30, Tryz.ntmps30
          go_wp2_with fail
          refine HF.out.mono ?_
          rintro e w1 ⟨rfl, rfl⟩
          go_wp2_with fail
          refine (HN.out _).mono ?_
          rintro e w2 ⟨rfl, hb⟩
          have x2 := (hb.block w.heap.size (Array.getElem?_eq_some_iff.1 HX.out).1).trans HX.out
          have d2 : w2.cell? ⟨w.heap.size, 2, none⟩ = some (.int .i64 s.ch.on) := by rw [cell_of_row _ _ _ _ _ _ x2]; rfl
          have d3 : w2.cell? ⟨w.heap.size, 3, none⟩ = some (.int .i64 s.ch.off) := by rw [cell_of_row _ _ _ _ _ _ x2]; rfl
          have d4 : w2.cell? ⟨w.heap.size, 4, none⟩ = some (.int .i64 s.ch.col) := by rw [cell_of_row _ _ _ _ _ _ x2]; rfl
          have HB := Lib.hid (HA.out.trans (hb.mono HA.out.size))
          clear hb x2
          go_wp2_with fail
          go_ret
          exact ⟨ret_i (by rw [HV.out]; rfl), HB.out⟩
      · have t1 := bne_t m1
        rw [if_pos m1] at hO
        have HV := Lib.hid (HC2.out.trans hO)
        clear HC2 hO m1
        go_enter Tryz.func30, Tryz.ntmps30
        go_wp2_with fail
        refine HF.out.mono ?_
        rintro e w1 ⟨rfl, rfl⟩
        go_wp2_with fail
        refine (HN.out _).mono ?_
        rintro e w2 ⟨rfl, hb⟩
        have x2 := (hb.block w.heap.size (Array.getElem?_eq_some_iff.1 HX.out).1).trans HX.out
        have d2 : w2.cell? ⟨w.heap.size, 2, none⟩ = some (.int .i64 s.ch.on) := by rw [cell_of_row _ _ _ _ _ _ x2]; rfl
        have d3 : w2.cell? ⟨w.heap.size, 3, none⟩ = some (.int .i64 s.ch.off) := by rw [cell_of_row _ _ _ _ _ _ x2]; rfl
        have d4 : w2.cell? ⟨w.heap.size, 4, none⟩ = some (.int .i64 s.ch.col) := by rw [cell_of_row _ _ _ _ _ _ x2]; rfl
        have HB := Lib.hid (HA.out.trans (hb.mono HA.out.size))
        clear hb x2
        go_wp2_with fail
        go_ret
        exact ⟨ret_i (by rw [HV.out]; rfl), HB.out⟩
  · have hn2 : nameB s.nm = false := by simpa using hn
    rw [hn2] at HN HC
    have HV := Lib.hid (HC.out.trans (if_pos rfl))
    clear HC hO hn
    go_enter Tryz.func30, Tryz.ntmps30
    go_wp2_with fail
    refine HF.out.mono ?_
    rintro e w1 ⟨rfl, rfl⟩
    go_wp2_with fail
    refine (HN.out _).mono ?_
    rintro e w2 ⟨rfl, hb⟩
    have x2 := (hb.block w.heap.size (Array.getElem?_eq_some_iff.1 HX.out).1).trans HX.out
    have d2 : w2.cell? ⟨w.heap.size, 2, none⟩ = some (.int .i64 s.ch.on) := by rw [cell_of_row _ _ _ _ _ _ x2]; rfl
    have d3 : w2.cell? ⟨w.heap.size, 3, none⟩ = some (.int .i64 s.ch.off) := by rw [cell_of_row _ _ _ _ _ _ x2]; rfl
    have d4 : w2.cell? ⟨w.heap.size, 4, none⟩ = some (.int .i64 s.ch.col) := by rw [cell_of_row _ _ _ _ _ _ x2]; rfl
    have HB := Lib.hid (HA.out.trans (hb.mono HA.out.size))
    clear hb x2
    go_wp2_with fail
    go_ret
    exact ⟨ret_i (by rw [HV.out]; rfl), HB.out⟩
end Go.Proofs.YtceanagnkcejgaaGreatDoor
