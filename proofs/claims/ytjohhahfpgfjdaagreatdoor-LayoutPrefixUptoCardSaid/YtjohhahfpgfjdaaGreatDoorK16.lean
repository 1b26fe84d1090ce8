/- The texts that the laws of layout stand on, part 16. -/
import Derived.Test.YtjohhahfpgfjdaaGreatDoorK14
section
namespace Go.Proofs.YtjohhahfpgfjdaaGreatDoor.Ir
open Go.RowKit Go.Maps Go.Proofs.YtjohhahfpgfjdaaGreatDoor
set_option linter.unusedVariables false
set_option maxRecDepth 100000 in
set_option maxHeartbeats 2000000 in
theorem may_link3 (M : Nat) (s : Wk) (w : World) (h : WkIs M w s) : mayCall M 3 s w := by
  unfold mayCall
  obtain ⟨c0, c1, c2, c3⟩ := h.cells
  have hbd := h.bounds
  have hL := h.lt
  have HH := Lib.hid h
  have HI := Lib.hid (innermost_pro M s w h)
  have HT := Lib.hid (fun W => table_pro (topL s) W)
  have HS := Lib.hid (fun W => short_pro (topL s) W)
  have HR := Lib.hid (fun W => room_pro (topL s) W)
  obtain ⟨t, ht⟩ : ∃ t, topL s = t := ⟨_, rfl⟩
  rw [ht] at HI HT HS HR
  obtain ⟨tb, htb⟩ : ∃ tb, tabB t = tb := ⟨_, rfl⟩
  obtain ⟨sb, hsb⟩ : ∃ sb, shortB t = sb := ⟨_, rfl⟩
  obtain ⟨rb, hrb⟩ : ∃ rb, roomB t = rb := ⟨_, rfl⟩
  rw [htb] at HT
  rw [hsb] at HS
  rw [hrb] at HR
  have hV : ∀ b, mayS s 3 = b → MayV s 3 b := fun _ h => h
  unfold mayS at hV
  rw [ht] at hV
  simp only [htb, hsb, hrb] at hV
  obtain ⟨lb, hlb⟩ : ∃ lb, s.br.any isLk = lb := ⟨_, rfl⟩
  have HA := Lib.hid (fun W (hw : WkIs M W s) => anyLink_pro M s W hw)
  rw [hlb] at HA hV
  obtain ⟨n, hn⟩ : ∃ n, s.br.length = n := ⟨_, rfl⟩
  obtain ⟨m, hm⟩ : ∃ m, s.op.length = m := ⟨_, rfl⟩
  obtain ⟨pa, hpa⟩ : ∃ pa, s.para = pa := ⟨_, rfl⟩
  obtain ⟨ah, hah⟩ : ∃ ah, s.ah = ah := ⟨_, rfl⟩
  rw [hm] at c0 hbd hV
  rw [hn] at c1 hbd hV HA
  rw [hpa] at c2 hV
  rw [hah] at c3 hV
  unfold lvVal at HI HT HS HR
  unfold linkF at HA
  obtain ⟨b8, b16⟩ := hbd
  have EN := Lib.hid hn
  have EM := Lib.hid hm
  have EP := Lib.hid hpa
  have EA := Lib.hid hah
  clear h ht htb hsb hrb hlb hn hm hpa hah
  obtain ⟨q, hq⟩ : ∃ q, ((n : Int) == 16) = q := ⟨_, rfl⟩
  have hnn : decide (n ≠ 16) = !q := by rw [← hq]; by_cases e : n = 16 <;> simp [e] <;> omega
  rw [hnn] at hV
  have mixed : Tryz.prog.follows .mixedOrders = true := by kernel_rfl
  have hV' : MayV s 3 _ := hV (!lb && !q && pa) (by simp)
  clear hV hnn
  go_enter Tryz.func50, Tryz.ntmps50
  go_wp2_with fail
  refine HI.out.mono ?_
  rintro e w1 ⟨rfl, hb⟩
  have HB := Lib.hid hb
  have HB1 := Lib.hid (hb.alloc hb.size (lvCells t))
  have HX := Lib.hid (heap_alloc_new w1 (lvCells t))
  have HW := Lib.hid (HH.out.below hb)
  obtain ⟨d0, d1, d2, d3⟩ := HW.out.cells
  rw [EM.out] at d0
  rw [EN.out] at d1
  rw [EP.out] at d2
  rw [EA.out] at d3
  have hL1 := HW.out.lt
  have HC := Lib.hid (fun q => (HA.out _ ((HW.out.below (lvCells_below t w1)).drewN q)).mono (fun e w2 he => (⟨he.1, he.2.symm⟩ : e = .returned (.bool lb) ∧ w2 = _)))
  dsimp only [lvCells] at HC HB1
  clear hb
  have b3 : (n : Int) ≤ 16 := by omega
  go_wp2_with fail
  go_quiet ((go_at_call 80; with_reducible exact Calls.quiet_of_same (HC.out _)))
  have HB2 := Lib.hid (fun q => belowN HB1.out q)
  cases lb with
  | true =>
    go_wp2_with fail
    go_ret
    exact ⟨hV'.ret rfl, HB2.out _⟩
  | false =>
    cases q with
    | true =>
      go_wp2_with fail
      go_ret
      exact ⟨hV'.ret rfl, HB2.out _⟩
    | false =>
      cases pa with
      | true =>
        go_wp2_with fail
        go_ret
        exact ⟨hV'.ret rfl, HB2.out _⟩
      | false =>
        go_wp2_with fail
        go_ret
        exact ⟨hV'.ret rfl, HB2.out _⟩


set_option maxRecDepth 100000 in
set_option maxHeartbeats 2000000 in
theorem may_link4 (M : Nat) (s : Wk) (w : World) (h : WkIs M w s) : mayCall M 4 s w := by
  unfold mayCall
  obtain ⟨c0, c1, c2, c3⟩ := h.cells
  have hbd := h.bounds
  have hL := h.lt
  have HH := Lib.hid h
  have HI := Lib.hid (innermost_pro M s w h)
  have HT := Lib.hid (fun W => table_pro (topL s) W)
  have HS := Lib.hid (fun W => short_pro (topL s) W)
  have HR := Lib.hid (fun W => room_pro (topL s) W)
  obtain ⟨t, ht⟩ : ∃ t, topL s = t := ⟨_, rfl⟩
  rw [ht] at HI HT HS HR
  obtain ⟨tb, htb⟩ : ∃ tb, tabB t = tb := ⟨_, rfl⟩
  obtain ⟨sb, hsb⟩ : ∃ sb, shortB t = sb := ⟨_, rfl⟩
  obtain ⟨rb, hrb⟩ : ∃ rb, roomB t = rb := ⟨_, rfl⟩
  rw [htb] at HT
  rw [hsb] at HS
  rw [hrb] at HR
  have hV : ∀ b, mayS s 4 = b → MayV s 4 b := fun _ h => h
  unfold mayS at hV
  rw [ht] at hV
  simp only [htb, hsb, hrb] at hV
  obtain ⟨lb, hlb⟩ : ∃ lb, s.br.any isLk = lb := ⟨_, rfl⟩
  have HA := Lib.hid (fun W (hw : WkIs M W s) => anyLink_pro M s W hw)
  rw [hlb] at HA hV
  obtain ⟨n, hn⟩ : ∃ n, s.br.length = n := ⟨_, rfl⟩
  obtain ⟨m, hm⟩ : ∃ m, s.op.length = m := ⟨_, rfl⟩
  obtain ⟨pa, hpa⟩ : ∃ pa, s.para = pa := ⟨_, rfl⟩
  obtain ⟨ah, hah⟩ : ∃ ah, s.ah = ah := ⟨_, rfl⟩
  rw [hm] at c0 hbd hV
  rw [hn] at c1 hbd hV HA
  rw [hpa] at c2 hV
  rw [hah] at c3 hV
  unfold lvVal at HI HT HS HR
  unfold linkF at HA
  obtain ⟨b8, b16⟩ := hbd
  have EN := Lib.hid hn
  have EM := Lib.hid hm
  have EP := Lib.hid hpa
  have EA := Lib.hid hah
  clear h ht htb hsb hrb hlb hn hm hpa hah
  obtain ⟨q, hq⟩ : ∃ q, ((n : Int) == 16) = q := ⟨_, rfl⟩
  have hnn : decide (n ≠ 16) = !q := by rw [← hq]; by_cases e : n = 16 <;> simp [e] <;> omega
  rw [hnn] at hV
  have mixed : Tryz.prog.follows .mixedOrders = true := by kernel_rfl
  have hV' : MayV s 4 _ := hV (!lb && !q && pa) (by simp)
  clear hV hnn
  go_enter Tryz.func50, Tryz.ntmps50
  go_wp2_with fail
  refine HI.out.mono ?_
  rintro e w1 ⟨rfl, hb⟩
  have HB := Lib.hid hb
  have HB1 := Lib.hid (hb.alloc hb.size (lvCells t))
  have HX := Lib.hid (heap_alloc_new w1 (lvCells t))
  have HW := Lib.hid (HH.out.below hb)
  obtain ⟨d0, d1, d2, d3⟩ := HW.out.cells
  rw [EM.out] at d0
  rw [EN.out] at d1
  rw [EP.out] at d2
  rw [EA.out] at d3
  have hL1 := HW.out.lt
  have HC := Lib.hid (fun q => (HA.out _ ((HW.out.below (lvCells_below t w1)).drewN q)).mono (fun e w2 he => (⟨he.1, he.2.symm⟩ : e = .returned (.bool lb) ∧ w2 = _)))
  dsimp only [lvCells] at HC HB1
  clear hb
  have b3 : (n : Int) ≤ 16 := by omega
  go_wp2_with fail
  go_quiet ((go_at_call 80; with_reducible exact Calls.quiet_of_same (HC.out _)))
  have HB2 := Lib.hid (fun q => belowN HB1.out q)
  cases lb with
  | true =>
    go_wp2_with fail
    go_ret
    exact ⟨hV'.ret rfl, HB2.out _⟩
  | false =>
    cases q with
    | true =>
      go_wp2_with fail
      go_ret
      exact ⟨hV'.ret rfl, HB2.out _⟩
    | false =>
      cases pa with
      | true =>
        go_wp2_with fail
        go_ret
        exact ⟨hV'.ret rfl, HB2.out _⟩
      | false =>
        go_wp2_with fail
        go_ret
        exact ⟨hV'.ret rfl, HB2.out _⟩


set_option maxRecDepth 100000 in
set_option maxHeartbeats 2000000 in
theorem may_2 (M : Nat) (s : Wk) (w : World) (h : WkIs M w s) : mayCall M 2 s w := by
  unfold mayCall
  obtain ⟨c0, c1, c2, c3⟩ := h.cells
  have hbd := h.bounds
  have hL := h.lt
  have HH := Lib.hid h
  have HI := Lib.hid (innermost_pro M s w h)
  have HT := Lib.hid (fun W => table_pro (topL s) W)
  have HS := Lib.hid (fun W => short_pro (topL s) W)
  have HR := Lib.hid (fun W => room_pro (topL s) W)
  obtain ⟨t, ht⟩ : ∃ t, topL s = t := ⟨_, rfl⟩
  rw [ht] at HI HT HS HR
  obtain ⟨tb, htb⟩ : ∃ tb, tabB t = tb := ⟨_, rfl⟩
  obtain ⟨sb, hsb⟩ : ∃ sb, shortB t = sb := ⟨_, rfl⟩
  obtain ⟨rb, hrb⟩ : ∃ rb, roomB t = rb := ⟨_, rfl⟩
  rw [htb] at HT
  rw [hsb] at HS
  rw [hrb] at HR
  have hV : ∀ b, mayS s 2 = b → MayV s 2 b := fun _ h => h
  unfold mayS at hV
  rw [ht] at hV
  simp only [htb, hsb, hrb] at hV
  obtain ⟨lb, hlb⟩ : ∃ lb, s.br.any isLk = lb := ⟨_, rfl⟩
  have HA := Lib.hid (fun W (hw : WkIs M W s) => anyLink_pro M s W hw)
  rw [hlb] at HA hV
  obtain ⟨n, hn⟩ : ∃ n, s.br.length = n := ⟨_, rfl⟩
  obtain ⟨m, hm⟩ : ∃ m, s.op.length = m := ⟨_, rfl⟩
  obtain ⟨pa, hpa⟩ : ∃ pa, s.para = pa := ⟨_, rfl⟩
  obtain ⟨ah, hah⟩ : ∃ ah, s.ah = ah := ⟨_, rfl⟩
  rw [hm] at c0 hbd hV
  rw [hn] at c1 hbd hV HA
  rw [hpa] at c2 hV
  rw [hah] at c3 hV
  unfold lvVal at HI HT HS HR
  unfold linkF at HA
  obtain ⟨b8, b16⟩ := hbd
  have EN := Lib.hid hn
  have EM := Lib.hid hm
  have EP := Lib.hid hpa
  have EA := Lib.hid hah
  clear h ht htb hsb hrb hlb hn hm hpa hah
  obtain ⟨q, hq⟩ : ∃ q, ((n : Int) == 16) = q := ⟨_, rfl⟩
  have hnq : decide (n ≠ 16) = !q := by rw [← hq]; first | done | (rw [Bool.eq_iff_iff]; simp <;> omega)
  rw [hnq] at hV
  have hV' : MayV s 2 _ := hV (!q && pa) (by simp)
  clear hV hnq
  go_enter Tryz.func50, Tryz.ntmps50
  go_wp2_with fail
  refine HI.out.mono ?_
  rintro e w1 ⟨rfl, hb⟩
  have HB := Lib.hid hb
  have HB1 := Lib.hid (hb.alloc hb.size (lvCells t))
  have HX := Lib.hid (heap_alloc_new w1 (lvCells t))
  have HW := Lib.hid (HH.out.below hb)
  obtain ⟨d0, d1, d2, d3⟩ := HW.out.cells
  rw [EM.out] at d0
  rw [EN.out] at d1
  rw [EP.out] at d2
  rw [EA.out] at d3
  have hL1 := HW.out.lt
  have HW1 := Lib.hid (HW.out.below (lvCells_below t w1))
  dsimp only [lvCells] at HB1 HX HW1
  clear hb
  cases q with
  | false =>
    cases pa with
    | false =>
      go_wp2_with fail
      go_ret
      exact ⟨hV'.ret rfl, HB1.out⟩
    | true =>
      go_wp2_with fail
      go_ret
      exact ⟨hV'.ret rfl, HB1.out⟩
  | true =>
    go_wp2_with fail
    go_ret
    exact ⟨hV'.ret rfl, HB1.out⟩


set_option maxRecDepth 100000 in
set_option maxHeartbeats 2000000 in
theorem may_6 (M : Nat) (s : Wk) (w : World) (h : WkIs M w s) : mayCall M 6 s w := by
  unfold mayCall
  obtain ⟨c0, c1, c2, c3⟩ := h.cells
  have hbd := h.bounds
  have hL := h.lt
  have HH := Lib.hid h
  have HI := Lib.hid (innermost_pro M s w h)
  have HT := Lib.hid (fun W => table_pro (topL s) W)
  have HS := Lib.hid (fun W => short_pro (topL s) W)
  have HR := Lib.hid (fun W => room_pro (topL s) W)
  obtain ⟨t, ht⟩ : ∃ t, topL s = t := ⟨_, rfl⟩
  rw [ht] at HI HT HS HR
  obtain ⟨tb, htb⟩ : ∃ tb, tabB t = tb := ⟨_, rfl⟩
  obtain ⟨sb, hsb⟩ : ∃ sb, shortB t = sb := ⟨_, rfl⟩
  obtain ⟨rb, hrb⟩ : ∃ rb, roomB t = rb := ⟨_, rfl⟩
  rw [htb] at HT
  rw [hsb] at HS
  rw [hrb] at HR
  have hV : ∀ b, mayS s 6 = b → MayV s 6 b := fun _ h => h
  unfold mayS at hV
  rw [ht] at hV
  simp only [htb, hsb, hrb] at hV
  obtain ⟨lb, hlb⟩ : ∃ lb, s.br.any isLk = lb := ⟨_, rfl⟩
  have HA := Lib.hid (fun W (hw : WkIs M W s) => anyLink_pro M s W hw)
  rw [hlb] at HA hV
  obtain ⟨n, hn⟩ : ∃ n, s.br.length = n := ⟨_, rfl⟩
  obtain ⟨m, hm⟩ : ∃ m, s.op.length = m := ⟨_, rfl⟩
  obtain ⟨pa, hpa⟩ : ∃ pa, s.para = pa := ⟨_, rfl⟩
  obtain ⟨ah, hah⟩ : ∃ ah, s.ah = ah := ⟨_, rfl⟩
  rw [hm] at c0 hbd hV
  rw [hn] at c1 hbd hV HA
  rw [hpa] at c2 hV
  rw [hah] at c3 hV
  unfold lvVal at HI HT HS HR
  unfold linkF at HA
  obtain ⟨b8, b16⟩ := hbd
  have EN := Lib.hid hn
  have EM := Lib.hid hm
  have EP := Lib.hid hpa
  have EA := Lib.hid hah
  clear h ht htb hsb hrb hlb hn hm hpa hah
  have hV' : MayV s 6 _ := hV (pa) (by simp)
  clear hV
  go_enter Tryz.func50, Tryz.ntmps50
  go_wp2_with fail
  refine HI.out.mono ?_
  rintro e w1 ⟨rfl, hb⟩
  have HB := Lib.hid hb
  have HB1 := Lib.hid (hb.alloc hb.size (lvCells t))
  have HX := Lib.hid (heap_alloc_new w1 (lvCells t))
  have HW := Lib.hid (HH.out.below hb)
  obtain ⟨d0, d1, d2, d3⟩ := HW.out.cells
  rw [EM.out] at d0
  rw [EN.out] at d1
  rw [EP.out] at d2
  rw [EA.out] at d3
  have hL1 := HW.out.lt
  have HW1 := Lib.hid (HW.out.below (lvCells_below t w1))
  dsimp only [lvCells] at HB1 HX HW1
  clear hb
  cases pa with
  | false =>
    go_wp2_with fail
    go_ret
    exact ⟨hV'.ret rfl, HB1.out⟩
  | true =>
    go_wp2_with fail
    go_ret
    exact ⟨hV'.ret rfl, HB1.out⟩


set_option maxRecDepth 100000 in
set_option maxHeartbeats 2000000 in
theorem may_7 (M : Nat) (s : Wk) (w : World) (h : WkIs M w s) : mayCall M 7 s w := by
  unfold mayCall
  obtain ⟨c0, c1, c2, c3⟩ := h.cells
  have hbd := h.bounds
  have hL := h.lt
  have HH := Lib.hid h
  have HI := Lib.hid (innermost_pro M s w h)
  have HT := Lib.hid (fun W => table_pro (topL s) W)
  have HS := Lib.hid (fun W => short_pro (topL s) W)
  have HR := Lib.hid (fun W => room_pro (topL s) W)
  obtain ⟨t, ht⟩ : ∃ t, topL s = t := ⟨_, rfl⟩
  rw [ht] at HI HT HS HR
  obtain ⟨tb, htb⟩ : ∃ tb, tabB t = tb := ⟨_, rfl⟩
  obtain ⟨sb, hsb⟩ : ∃ sb, shortB t = sb := ⟨_, rfl⟩
  obtain ⟨rb, hrb⟩ : ∃ rb, roomB t = rb := ⟨_, rfl⟩
  rw [htb] at HT
  rw [hsb] at HS
  rw [hrb] at HR
  have hV : ∀ b, mayS s 7 = b → MayV s 7 b := fun _ h => h
  unfold mayS at hV
  rw [ht] at hV
  simp only [htb, hsb, hrb] at hV
  obtain ⟨lb, hlb⟩ : ∃ lb, s.br.any isLk = lb := ⟨_, rfl⟩
  have HA := Lib.hid (fun W (hw : WkIs M W s) => anyLink_pro M s W hw)
  rw [hlb] at HA hV
  obtain ⟨n, hn⟩ : ∃ n, s.br.length = n := ⟨_, rfl⟩
  obtain ⟨m, hm⟩ : ∃ m, s.op.length = m := ⟨_, rfl⟩
  obtain ⟨pa, hpa⟩ : ∃ pa, s.para = pa := ⟨_, rfl⟩
  obtain ⟨ah, hah⟩ : ∃ ah, s.ah = ah := ⟨_, rfl⟩
  rw [hm] at c0 hbd hV
  rw [hn] at c1 hbd hV HA
  rw [hpa] at c2 hV
  rw [hah] at c3 hV
  unfold lvVal at HI HT HS HR
  unfold linkF at HA
  obtain ⟨b8, b16⟩ := hbd
  have EN := Lib.hid hn
  have EM := Lib.hid hm
  have EP := Lib.hid hpa
  have EA := Lib.hid hah
  clear h ht htb hsb hrb hlb hn hm hpa hah
  have hV' : MayV s 7 _ := hV (pa) (by simp)
  clear hV
  go_enter Tryz.func50, Tryz.ntmps50
  go_wp2_with fail
  refine HI.out.mono ?_
  rintro e w1 ⟨rfl, hb⟩
  have HB := Lib.hid hb
  have HB1 := Lib.hid (hb.alloc hb.size (lvCells t))
  have HX := Lib.hid (heap_alloc_new w1 (lvCells t))
  have HW := Lib.hid (HH.out.below hb)
  obtain ⟨d0, d1, d2, d3⟩ := HW.out.cells
  rw [EM.out] at d0
  rw [EN.out] at d1
  rw [EP.out] at d2
  rw [EA.out] at d3
  have hL1 := HW.out.lt
  have HW1 := Lib.hid (HW.out.below (lvCells_below t w1))
  dsimp only [lvCells] at HB1 HX HW1
  clear hb
  cases pa with
  | false =>
    go_wp2_with fail
    go_ret
    exact ⟨hV'.ret rfl, HB1.out⟩
  | true =>
    go_wp2_with fail
    go_ret
    exact ⟨hV'.ret rfl, HB1.out⟩


set_option maxRecDepth 100000 in
set_option maxHeartbeats 2000000 in
theorem may_1 (M : Nat) (s : Wk) (w : World) (h : WkIs M w s) : mayCall M 1 s w := by
  unfold mayCall
  obtain ⟨c0, c1, c2, c3⟩ := h.cells
  have hbd := h.bounds
  have hL := h.lt
  have HH := Lib.hid h
  have HI := Lib.hid (innermost_pro M s w h)
  have HT := Lib.hid (fun W => table_pro (topL s) W)
  have HS := Lib.hid (fun W => short_pro (topL s) W)
  have HR := Lib.hid (fun W => room_pro (topL s) W)
  obtain ⟨t, ht⟩ : ∃ t, topL s = t := ⟨_, rfl⟩
  rw [ht] at HI HT HS HR
  obtain ⟨tb, htb⟩ : ∃ tb, tabB t = tb := ⟨_, rfl⟩
  obtain ⟨sb, hsb⟩ : ∃ sb, shortB t = sb := ⟨_, rfl⟩
  obtain ⟨rb, hrb⟩ : ∃ rb, roomB t = rb := ⟨_, rfl⟩
  rw [htb] at HT
  rw [hsb] at HS
  rw [hrb] at HR
  have hV : ∀ b, mayS s 1 = b → MayV s 1 b := fun _ h => h
  unfold mayS at hV
  rw [ht] at hV
  simp only [htb, hsb, hrb] at hV
  obtain ⟨lb, hlb⟩ : ∃ lb, s.br.any isLk = lb := ⟨_, rfl⟩
  have HA := Lib.hid (fun W (hw : WkIs M W s) => anyLink_pro M s W hw)
  rw [hlb] at HA hV
  obtain ⟨n, hn⟩ : ∃ n, s.br.length = n := ⟨_, rfl⟩
  obtain ⟨m, hm⟩ : ∃ m, s.op.length = m := ⟨_, rfl⟩
  obtain ⟨pa, hpa⟩ : ∃ pa, s.para = pa := ⟨_, rfl⟩
  obtain ⟨ah, hah⟩ : ∃ ah, s.ah = ah := ⟨_, rfl⟩
  rw [hm] at c0 hbd hV
  rw [hn] at c1 hbd hV HA
  rw [hpa] at c2 hV
  rw [hah] at c3 hV
  unfold lvVal at HI HT HS HR
  unfold linkF at HA
  obtain ⟨b8, b16⟩ := hbd
  have EN := Lib.hid hn
  have EM := Lib.hid hm
  have EP := Lib.hid hpa
  have EA := Lib.hid hah
  clear h ht htb hsb hrb hlb hn hm hpa hah
  obtain ⟨q, hq⟩ : ∃ q, (ah != 1) = q := ⟨_, rfl⟩
  have hnq : decide (ah ≠ 1) = q := by rw [← hq]; first | done | (rw [Bool.eq_iff_iff]; simp <;> omega)
  rw [hnq] at hV
  have hV' : MayV s 1 _ := hV (pa && q) (by simp)
  clear hV hnq
  go_enter Tryz.func50, Tryz.ntmps50
  go_wp2_with fail
  refine HI.out.mono ?_
  rintro e w1 ⟨rfl, hb⟩
  have HB := Lib.hid hb
  have HB1 := Lib.hid (hb.alloc hb.size (lvCells t))
  have HX := Lib.hid (heap_alloc_new w1 (lvCells t))
  have HW := Lib.hid (HH.out.below hb)
  obtain ⟨d0, d1, d2, d3⟩ := HW.out.cells
  rw [EM.out] at d0
  rw [EN.out] at d1
  rw [EP.out] at d2
  rw [EA.out] at d3
  have hL1 := HW.out.lt
  have HW1 := Lib.hid (HW.out.below (lvCells_below t w1))
  dsimp only [lvCells] at HB1 HX HW1
  clear hb
  cases pa with
  | false =>
    go_wp2_with fail
    go_ret
    exact ⟨hV'.ret rfl, HB1.out⟩
  | true =>
    cases q with
    | false =>
      go_wp2_with fail
      go_ret
      exact ⟨hV'.ret rfl, HB1.out⟩
    | true =>
      go_wp2_with fail
      go_ret
      exact ⟨hV'.ret rfl, HB1.out⟩

end Go.Proofs.YtjohhahfpgfjdaaGreatDoor.Ir
end
