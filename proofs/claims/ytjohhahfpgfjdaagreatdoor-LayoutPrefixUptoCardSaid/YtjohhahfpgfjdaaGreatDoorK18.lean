/- The texts that the laws of layout stand on, part 18. -/
import Derived.Test.YtjohhahfpgfjdaaGreatDoorK14
section
namespace Go.Proofs.YtjohhahfpgfjdaaGreatDoor.Ir
open Go.RowKit Go.Maps Go.Proofs.YtjohhahfpgfjdaaGreatDoor
set_option linter.unusedVariables false
set_option maxRecDepth 100000 in
set_option maxHeartbeats 2000000 in
theorem may_10 (M : Nat) (s : Wk) (w : World) (h : WkIs M w s) : mayCall M 10 s w := by
  unfold mayCall
  obtain ⟨c0, c1, c2, c3⟩ := h.cells
  have hbd := h.bounds
  have hL := h.lt
  have HH := Lib.hid h
  have HI := Lib.hid (innermost_pro M s w h)
  have HT := Lib.hid (fun W => table_pro (topL s) W)
  have HS := Lib.hid (fun W => short_pro (topL s) W)
  have HR := Lib.hid (fun W => room_pro (topL s) W)
  obtain ⟨t, ht⟩ : ∃ t, topL s = t := ⟨_, rfl⟩
  rw [ht] at HI HT HS HR
  obtain ⟨tb, htb⟩ : ∃ tb, tabB t = tb := ⟨_, rfl⟩
  obtain ⟨sb, hsb⟩ : ∃ sb, shortB t = sb := ⟨_, rfl⟩
  obtain ⟨rb, hrb⟩ : ∃ rb, roomB t = rb := ⟨_, rfl⟩
  rw [htb] at HT
  rw [hsb] at HS
  rw [hrb] at HR
  have hV : ∀ b, mayS s 10 = b → MayV s 10 b := fun _ h => h
  unfold mayS at hV
  rw [ht] at hV
  simp only [htb, hsb, hrb] at hV
  obtain ⟨lb, hlb⟩ : ∃ lb, s.br.any isLk = lb := ⟨_, rfl⟩
  have HA := Lib.hid (fun W (hw : WkIs M W s) => anyLink_pro M s W hw)
  rw [hlb] at HA hV
  obtain ⟨n, hn⟩ : ∃ n, s.br.length = n := ⟨_, rfl⟩
  obtain ⟨m, hm⟩ : ∃ m, s.op.length = m := ⟨_, rfl⟩
  obtain ⟨pa, hpa⟩ : ∃ pa, s.para = pa := ⟨_, rfl⟩
  obtain ⟨ah, hah⟩ : ∃ ah, s.ah = ah := ⟨_, rfl⟩
  rw [hm] at c0 hbd hV
  rw [hn] at c1 hbd hV HA
  rw [hpa] at c2 hV
  rw [hah] at c3 hV
  unfold lvVal at HI HT HS HR
  unfold linkF at HA
  obtain ⟨b8, b16⟩ := hbd
  have EN := Lib.hid hn
  have EM := Lib.hid hm
  have EP := Lib.hid hpa
  have EA := Lib.hid hah
  clear h ht htb hsb hrb hlb hn hm hpa hah
  obtain ⟨q, hq⟩ : ∃ q, ((m : Int) == 8) = q := ⟨_, rfl⟩
  have hnq : decide (m ≠ 8) = !q := by rw [← hq]; first | done | (rw [Bool.eq_iff_iff]; simp <;> omega)
  rw [hnq] at hV
  obtain ⟨r, hr⟩ : ∃ r, ((m : Int) == 0) = r := ⟨_, rfl⟩
  have hnr : decide (m = 0) = r := by rw [← hr]; first | done | (rw [Bool.eq_iff_iff]; simp <;> omega)
  rw [hnr] at hV
  have hV' : MayV s 10 _ := hV (!q && !tb && !pa && (r || rb)) (by simp)
  clear hV hnq hnr
  go_enter Tryz.func50, Tryz.ntmps50
  go_wp2_with fail
  refine HI.out.mono ?_
  rintro e w1 ⟨rfl, hb⟩
  have HB := Lib.hid hb
  have HB1 := Lib.hid (hb.alloc hb.size (lvCells t))
  have HX := Lib.hid (heap_alloc_new w1 (lvCells t))
  have HW := Lib.hid (HH.out.below hb)
  obtain ⟨d0, d1, d2, d3⟩ := HW.out.cells
  rw [EM.out] at d0
  rw [EN.out] at d1
  rw [EP.out] at d2
  rw [EA.out] at d3
  have hL1 := HW.out.lt
  have HW1 := Lib.hid (HW.out.below (lvCells_below t w1))
  dsimp only [lvCells] at HB1 HX HW1
  clear hb
  cases q with
  | false =>
    cases tb with
    | false =>
      cases pa with
      | false =>
        cases r with
        | false =>
          cases rb with
          | false =>
            go_wp2_with fail
            refine (HT.out _).mono ?_
            rintro e w2 ⟨rfl, hc⟩
            have HC0 := Lib.hid (HB1.out.trans (hc.mono HB1.out.size))
            have HY0 := Lib.hid (HW1.out.below hc)
            have HZ0 := Lib.hid ((hc.block w1.heap.size (Array.getElem?_eq_some_iff.1 HX.out).1).trans HX.out)
            obtain ⟨a0, a1, a2, a3⟩ := HY0.out.cells
            rw [EM.out] at a0
            rw [EN.out] at a1
            rw [EP.out] at a2
            rw [EA.out] at a3
            have x0 : w2.cell? ⟨w1.heap.size, 0, none⟩ = some (.int .i64 (t.wide : Nat)) := by rw [cell_of_row _ _ _ _ _ _ HZ0.out]; rfl
            have x1 : w2.cell? ⟨w1.heap.size, 1, none⟩ = some (.int .i64 (t.parts : Nat)) := by rw [cell_of_row _ _ _ _ _ _ HZ0.out]; rfl
            have x2 : w2.cell? ⟨w1.heap.size, 2, none⟩ = some (.int .i64 (t.cells : Nat)) := by rw [cell_of_row _ _ _ _ _ _ HZ0.out]; rfl
            clear hc
            go_wp2_with fail
            refine (HR.out _).mono ?_
            rintro e w3 ⟨rfl, hc⟩
            have HC1 := Lib.hid (HC0.out.trans (hc.mono HC0.out.size))
            have HY1 := Lib.hid (HY0.out.below hc)
            have HZ1 := Lib.hid ((hc.block w1.heap.size (Array.getElem?_eq_some_iff.1 HZ0.out).1).trans HZ0.out)
            obtain ⟨a0, a1, a2, a3⟩ := HY1.out.cells
            rw [EM.out] at a0
            rw [EN.out] at a1
            rw [EP.out] at a2
            rw [EA.out] at a3
            have x0 : w3.cell? ⟨w1.heap.size, 0, none⟩ = some (.int .i64 (t.wide : Nat)) := by rw [cell_of_row _ _ _ _ _ _ HZ1.out]; rfl
            have x1 : w3.cell? ⟨w1.heap.size, 1, none⟩ = some (.int .i64 (t.parts : Nat)) := by rw [cell_of_row _ _ _ _ _ _ HZ1.out]; rfl
            have x2 : w3.cell? ⟨w1.heap.size, 2, none⟩ = some (.int .i64 (t.cells : Nat)) := by rw [cell_of_row _ _ _ _ _ _ HZ1.out]; rfl
            clear hc
            go_wp2_with fail
            go_ret
            exact ⟨hV'.ret rfl, HC1.out⟩
          | true =>
            go_wp2_with fail
            refine (HT.out _).mono ?_
            rintro e w2 ⟨rfl, hc⟩
            have HC0 := Lib.hid (HB1.out.trans (hc.mono HB1.out.size))
            have HY0 := Lib.hid (HW1.out.below hc)
            have HZ0 := Lib.hid ((hc.block w1.heap.size (Array.getElem?_eq_some_iff.1 HX.out).1).trans HX.out)
            obtain ⟨a0, a1, a2, a3⟩ := HY0.out.cells
            rw [EM.out] at a0
            rw [EN.out] at a1
            rw [EP.out] at a2
            rw [EA.out] at a3
            have x0 : w2.cell? ⟨w1.heap.size, 0, none⟩ = some (.int .i64 (t.wide : Nat)) := by rw [cell_of_row _ _ _ _ _ _ HZ0.out]; rfl
            have x1 : w2.cell? ⟨w1.heap.size, 1, none⟩ = some (.int .i64 (t.parts : Nat)) := by rw [cell_of_row _ _ _ _ _ _ HZ0.out]; rfl
            have x2 : w2.cell? ⟨w1.heap.size, 2, none⟩ = some (.int .i64 (t.cells : Nat)) := by rw [cell_of_row _ _ _ _ _ _ HZ0.out]; rfl
            clear hc
            go_wp2_with fail
            refine (HR.out _).mono ?_
            rintro e w3 ⟨rfl, hc⟩
            have HC1 := Lib.hid (HC0.out.trans (hc.mono HC0.out.size))
            have HY1 := Lib.hid (HY0.out.below hc)
            have HZ1 := Lib.hid ((hc.block w1.heap.size (Array.getElem?_eq_some_iff.1 HZ0.out).1).trans HZ0.out)
            obtain ⟨a0, a1, a2, a3⟩ := HY1.out.cells
            rw [EM.out] at a0
            rw [EN.out] at a1
            rw [EP.out] at a2
            rw [EA.out] at a3
            have x0 : w3.cell? ⟨w1.heap.size, 0, none⟩ = some (.int .i64 (t.wide : Nat)) := by rw [cell_of_row _ _ _ _ _ _ HZ1.out]; rfl
            have x1 : w3.cell? ⟨w1.heap.size, 1, none⟩ = some (.int .i64 (t.parts : Nat)) := by rw [cell_of_row _ _ _ _ _ _ HZ1.out]; rfl
            have x2 : w3.cell? ⟨w1.heap.size, 2, none⟩ = some (.int .i64 (t.cells : Nat)) := by rw [cell_of_row _ _ _ _ _ _ HZ1.out]; rfl
            clear hc
            go_wp2_with fail
            go_ret
            exact ⟨hV'.ret rfl, HC1.out⟩
        | true =>
          go_wp2_with fail
          refine (HT.out _).mono ?_
          rintro e w2 ⟨rfl, hc⟩
          have HC0 := Lib.hid (HB1.out.trans (hc.mono HB1.out.size))
          have HY0 := Lib.hid (HW1.out.below hc)
          have HZ0 := Lib.hid ((hc.block w1.heap.size (Array.getElem?_eq_some_iff.1 HX.out).1).trans HX.out)
          obtain ⟨a0, a1, a2, a3⟩ := HY0.out.cells
          rw [EM.out] at a0
          rw [EN.out] at a1
          rw [EP.out] at a2
          rw [EA.out] at a3
          have x0 : w2.cell? ⟨w1.heap.size, 0, none⟩ = some (.int .i64 (t.wide : Nat)) := by rw [cell_of_row _ _ _ _ _ _ HZ0.out]; rfl
          have x1 : w2.cell? ⟨w1.heap.size, 1, none⟩ = some (.int .i64 (t.parts : Nat)) := by rw [cell_of_row _ _ _ _ _ _ HZ0.out]; rfl
          have x2 : w2.cell? ⟨w1.heap.size, 2, none⟩ = some (.int .i64 (t.cells : Nat)) := by rw [cell_of_row _ _ _ _ _ _ HZ0.out]; rfl
          clear hc
          go_wp2_with fail
          go_ret
          exact ⟨hV'.ret rfl, HC0.out⟩
      | true =>
        go_wp2_with fail
        refine (HT.out _).mono ?_
        rintro e w2 ⟨rfl, hc⟩
        have HC0 := Lib.hid (HB1.out.trans (hc.mono HB1.out.size))
        have HY0 := Lib.hid (HW1.out.below hc)
        have HZ0 := Lib.hid ((hc.block w1.heap.size (Array.getElem?_eq_some_iff.1 HX.out).1).trans HX.out)
        obtain ⟨a0, a1, a2, a3⟩ := HY0.out.cells
        rw [EM.out] at a0
        rw [EN.out] at a1
        rw [EP.out] at a2
        rw [EA.out] at a3
        have x0 : w2.cell? ⟨w1.heap.size, 0, none⟩ = some (.int .i64 (t.wide : Nat)) := by rw [cell_of_row _ _ _ _ _ _ HZ0.out]; rfl
        have x1 : w2.cell? ⟨w1.heap.size, 1, none⟩ = some (.int .i64 (t.parts : Nat)) := by rw [cell_of_row _ _ _ _ _ _ HZ0.out]; rfl
        have x2 : w2.cell? ⟨w1.heap.size, 2, none⟩ = some (.int .i64 (t.cells : Nat)) := by rw [cell_of_row _ _ _ _ _ _ HZ0.out]; rfl
        clear hc
        go_wp2_with fail
        go_ret
        exact ⟨hV'.ret rfl, HC0.out⟩
    | true =>
      go_wp2_with fail
      refine (HT.out _).mono ?_
      rintro e w2 ⟨rfl, hc⟩
      have HC0 := Lib.hid (HB1.out.trans (hc.mono HB1.out.size))
      have HY0 := Lib.hid (HW1.out.below hc)
      have HZ0 := Lib.hid ((hc.block w1.heap.size (Array.getElem?_eq_some_iff.1 HX.out).1).trans HX.out)
      obtain ⟨a0, a1, a2, a3⟩ := HY0.out.cells
      rw [EM.out] at a0
      rw [EN.out] at a1
      rw [EP.out] at a2
      rw [EA.out] at a3
      have x0 : w2.cell? ⟨w1.heap.size, 0, none⟩ = some (.int .i64 (t.wide : Nat)) := by rw [cell_of_row _ _ _ _ _ _ HZ0.out]; rfl
      have x1 : w2.cell? ⟨w1.heap.size, 1, none⟩ = some (.int .i64 (t.parts : Nat)) := by rw [cell_of_row _ _ _ _ _ _ HZ0.out]; rfl
      have x2 : w2.cell? ⟨w1.heap.size, 2, none⟩ = some (.int .i64 (t.cells : Nat)) := by rw [cell_of_row _ _ _ _ _ _ HZ0.out]; rfl
      clear hc
      go_wp2_with fail
      go_ret
      exact ⟨hV'.ret rfl, HC0.out⟩
  | true =>
    go_wp2_with fail
    go_ret
    exact ⟨hV'.ret rfl, HB1.out⟩


set_option maxRecDepth 100000 in
set_option maxHeartbeats 2000000 in
theorem may_11 (M : Nat) (s : Wk) (w : World) (h : WkIs M w s) : mayCall M 11 s w := by
  unfold mayCall
  obtain ⟨c0, c1, c2, c3⟩ := h.cells
  have hbd := h.bounds
  have hL := h.lt
  have HH := Lib.hid h
  have HI := Lib.hid (innermost_pro M s w h)
  have HT := Lib.hid (fun W => table_pro (topL s) W)
  have HS := Lib.hid (fun W => short_pro (topL s) W)
  have HR := Lib.hid (fun W => room_pro (topL s) W)
  obtain ⟨t, ht⟩ : ∃ t, topL s = t := ⟨_, rfl⟩
  rw [ht] at HI HT HS HR
  obtain ⟨tb, htb⟩ : ∃ tb, tabB t = tb := ⟨_, rfl⟩
  obtain ⟨sb, hsb⟩ : ∃ sb, shortB t = sb := ⟨_, rfl⟩
  obtain ⟨rb, hrb⟩ : ∃ rb, roomB t = rb := ⟨_, rfl⟩
  rw [htb] at HT
  rw [hsb] at HS
  rw [hrb] at HR
  have hV : ∀ b, mayS s 11 = b → MayV s 11 b := fun _ h => h
  unfold mayS at hV
  rw [ht] at hV
  simp only [htb, hsb, hrb] at hV
  obtain ⟨lb, hlb⟩ : ∃ lb, s.br.any isLk = lb := ⟨_, rfl⟩
  have HA := Lib.hid (fun W (hw : WkIs M W s) => anyLink_pro M s W hw)
  rw [hlb] at HA hV
  obtain ⟨n, hn⟩ : ∃ n, s.br.length = n := ⟨_, rfl⟩
  obtain ⟨m, hm⟩ : ∃ m, s.op.length = m := ⟨_, rfl⟩
  obtain ⟨pa, hpa⟩ : ∃ pa, s.para = pa := ⟨_, rfl⟩
  obtain ⟨ah, hah⟩ : ∃ ah, s.ah = ah := ⟨_, rfl⟩
  rw [hm] at c0 hbd hV
  rw [hn] at c1 hbd hV HA
  rw [hpa] at c2 hV
  rw [hah] at c3 hV
  unfold lvVal at HI HT HS HR
  unfold linkF at HA
  obtain ⟨b8, b16⟩ := hbd
  have EN := Lib.hid hn
  have EM := Lib.hid hm
  have EP := Lib.hid hpa
  have EA := Lib.hid hah
  clear h ht htb hsb hrb hlb hn hm hpa hah
  obtain ⟨r, hr⟩ : ∃ r, decide (0 < m) = r := ⟨_, rfl⟩
  have hnr : decide (0 < m) = r := by rw [← hr]; first | done | (rw [Bool.eq_iff_iff]; simp <;> omega)
  rw [hnr] at hV
  have hrz : decide ((0 : Int) < m) = r := by rw [← hr]; rw [Bool.eq_iff_iff]; simp
  have hV' : MayV s 11 _ := hV (!pa && r && !tb) (by simp)
  clear hV
  go_enter Tryz.func50, Tryz.ntmps50
  go_wp2_with fail
  refine HI.out.mono ?_
  rintro e w1 ⟨rfl, hb⟩
  have HB := Lib.hid hb
  have HB1 := Lib.hid (hb.alloc hb.size (lvCells t))
  have HX := Lib.hid (heap_alloc_new w1 (lvCells t))
  have HW := Lib.hid (HH.out.below hb)
  obtain ⟨d0, d1, d2, d3⟩ := HW.out.cells
  rw [EM.out] at d0
  rw [EN.out] at d1
  rw [EP.out] at d2
  rw [EA.out] at d3
  have hL1 := HW.out.lt
  have HW1 := Lib.hid (HW.out.below (lvCells_below t w1))
  dsimp only [lvCells] at HB1 HX HW1
  clear hb
  cases pa with
  | false =>
    cases r with
    | false =>
      go_wp2_with fail
      go_ret
      exact ⟨hV'.ret rfl, HB1.out⟩
    | true =>
      cases tb with
      | false =>
        go_wp2_with fail
        refine (HT.out _).mono ?_
        rintro e w2 ⟨rfl, hc⟩
        have HC0 := Lib.hid (HB1.out.trans (hc.mono HB1.out.size))
        have HY0 := Lib.hid (HW1.out.below hc)
        have HZ0 := Lib.hid ((hc.block w1.heap.size (Array.getElem?_eq_some_iff.1 HX.out).1).trans HX.out)
        obtain ⟨a0, a1, a2, a3⟩ := HY0.out.cells
        rw [EM.out] at a0
        rw [EN.out] at a1
        rw [EP.out] at a2
        rw [EA.out] at a3
        have x0 : w2.cell? ⟨w1.heap.size, 0, none⟩ = some (.int .i64 (t.wide : Nat)) := by rw [cell_of_row _ _ _ _ _ _ HZ0.out]; rfl
        have x1 : w2.cell? ⟨w1.heap.size, 1, none⟩ = some (.int .i64 (t.parts : Nat)) := by rw [cell_of_row _ _ _ _ _ _ HZ0.out]; rfl
        have x2 : w2.cell? ⟨w1.heap.size, 2, none⟩ = some (.int .i64 (t.cells : Nat)) := by rw [cell_of_row _ _ _ _ _ _ HZ0.out]; rfl
        clear hc
        go_wp2_with fail
        go_ret
        exact ⟨hV'.ret rfl, HC0.out⟩
      | true =>
        go_wp2_with fail
        refine (HT.out _).mono ?_
        rintro e w2 ⟨rfl, hc⟩
        have HC0 := Lib.hid (HB1.out.trans (hc.mono HB1.out.size))
        have HY0 := Lib.hid (HW1.out.below hc)
        have HZ0 := Lib.hid ((hc.block w1.heap.size (Array.getElem?_eq_some_iff.1 HX.out).1).trans HX.out)
        obtain ⟨a0, a1, a2, a3⟩ := HY0.out.cells
        rw [EM.out] at a0
        rw [EN.out] at a1
        rw [EP.out] at a2
        rw [EA.out] at a3
        have x0 : w2.cell? ⟨w1.heap.size, 0, none⟩ = some (.int .i64 (t.wide : Nat)) := by rw [cell_of_row _ _ _ _ _ _ HZ0.out]; rfl
        have x1 : w2.cell? ⟨w1.heap.size, 1, none⟩ = some (.int .i64 (t.parts : Nat)) := by rw [cell_of_row _ _ _ _ _ _ HZ0.out]; rfl
        have x2 : w2.cell? ⟨w1.heap.size, 2, none⟩ = some (.int .i64 (t.cells : Nat)) := by rw [cell_of_row _ _ _ _ _ _ HZ0.out]; rfl
        clear hc
        go_wp2_with fail
        go_ret
        exact ⟨hV'.ret rfl, HC0.out⟩
  | true =>
    go_wp2_with fail
    go_ret
    exact ⟨hV'.ret rfl, HB1.out⟩

end Go.Proofs.YtjohhahfpgfjdaaGreatDoor.Ir
end
