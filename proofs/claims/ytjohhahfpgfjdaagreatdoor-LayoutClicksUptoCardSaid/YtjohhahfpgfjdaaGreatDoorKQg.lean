/- Layer 13: the law LayoutClicks. -/
import Derived.Test.YtjohhahfpgfjdaaGreatDoorKQf
namespace Go.Proofs.YtjohhahfpgfjdaaGreatDoor.Tb
open Go.RowKit Go.Maps
open Go.Proofs.YtjohhahfpgfjdaaGreatDoor.Ly (Tabs2 Tabs2.below)
set_option linter.unusedVariables false
set_option linter.unusedSimpArgs false
theorem lkAt_at : ∀ (l : List Gl) (j : Nat) (hj : j < l.length) (q : Int), (∀ g ∈ l, 1 ≤ g.wd ∧ g.wd ≤ 2) → 0 ≤ q → q < l[j].wd → lkAt l (wid (l.take j) + q) = l[j].lk
  | [], j, hj, _, _, _, _ => absurd hj (by simp)
  | g :: l, 0, hj, q, h, h0, h1 => by
    have h1' : q < g.wd := h1
    show lkAt (g :: l) (wid [] + q) = g.lk
    have : wid [] = 0 := rfl
    rw [this, Int.zero_add]
    unfold lkAt
    rw [if_pos h1']
  | g :: l, j + 1, hj, q, h, h0, h1 => by
    have hg := h g (by simp)
    have hl := (wid_ge (l.take j) fun z hz => h z (List.mem_cons_of_mem _ (List.mem_of_mem_take hz))).1
    have e : wid ((g :: l).take (j + 1)) = g.wd + wid (l.take j) := rfl
    have ih := lkAt_at l j (by simpa using hj) q (fun z hz => h z (List.mem_cons_of_mem _ hz)) h0 h1
    rw [e]
    unfold lkAt
    rw [if_neg (by omega), show g.wd + wid (l.take j) + q - g.wd = wid (l.take j) + q by omega]
    exact ih
/-- What LayoutClicks asks of a layout. -/
structure ClickL (d : Ld) : Prop where
  num : d.lines.length ≤ 2000
  wd : ∀ l ∈ d.lines, (∀ g ∈ l, 1 ≤ g.wd ∧ g.wd ≤ 2) ∧ l.length ≤ 1000
  hit : ∀ (j : Nat) (hj : j < d.lines.length) (c : Int), 0 ≤ c → c ≤ 1000000000000 → hitF (j : Int) c d.rects = if lkAt d.lines[j] c = 0 then none else some (lkAt d.lines[j] c)
theorem clickL_of {sh : List S6.Sty} {l : List Opr} {tp wd : Int} (h : layE sh l tp wd = 0) : ClickL (layL sh l tp wd) := by
  obtain ⟨e, hw, s, k, T, ho, hg⟩ := lay_g h
  rw [e]
  obtain ⟨y, hy⟩ : ∃ y, runY wd (chgs sh) l = y := ⟨_, rfl⟩
  rw [hy] at ho hg ⊢
  have hl : ∀ l ∈ y.ls, (∀ g ∈ l, OkL y.lk.length g) ∧ wid l ≤ 1000000000 := fun l hl => ⟨fun g hg' => ⟨(hg.ls l hl).1 g hg', hg.lls l hl g hg'⟩, by have := (hg.ls l hl).2; omega⟩
  refine ⟨ho.mok.ls, fun l hl => ⟨(hg.ls l hl).1, ho.lns.1 l hl⟩, fun j hj c h0 h1 => ?_⟩
  have := hit_cell (m := y.lk.length) ⟨h0, h1⟩ y.ls 0 j hj hl
  rw [Int.zero_add] at this
  exact this
theorem hitV_link (lk : Int) : hitV (if lk = 0 then none else some lk) = .tuple #[.int .i64 lk, .bool (lk != 0)] := by
  by_cases h : lk = 0
  · rw [if_pos h, h]; rfl
  · rw [if_neg h]
    have : (lk != 0) = true := by simpa using h
    rw [this]; rfl
theorem wid_tk {l : List Gl} {k : Nat} (h : k < l.length) : wid (l.take (k + 1)) = wid (l.take k) + l[k].wd := by
  rw [List.take_succ_eq_append_getElem h, wid_app, wid_one]
theorem wid_take_le {l : List Gl} (h : ∀ g ∈ l, 1 ≤ g.wd ∧ g.wd ≤ 2) (k : Nat) : 0 ≤ wid (l.take k) ∧ wid (l.take k) ≤ 2 * l.length := by
  have h1 := wid_ge (l.take k) fun g hg => h g (List.mem_of_mem_take hg)
  have h2 : (l.take k).length ≤ l.length := by rw [List.length_take]; omega
  omega
set_option maxRecDepth 100000 in
set_option maxHeartbeats 8000000 in
theorem clicks_walk (v0 : Value) (sh : List S6.Sty) (v1 : Value) (l : List Opr) (tp wd : Int) (W : World) (hT : Tabs2 W) (hs : S6.Sh W v0 sh ∧ S6.Fit sh) (hl : Ir.RdO (fun _ => True) W v1 l) (hb : l.length ≤ 1048576 ∧ Ir.sumT l ≤ 1048576 ∧ ∀ x ∈ l, x.w.length ≤ 1048576) :
    Calls Tryz.prog 4 #[v0, v1, .int .i64 tp, .int .i64 wd] W fun e W' => e = .returned (.bool true) ∧ Below W.heap.size W W' := by
  have HAW := Lib.hid (awake_law W hT.u hT.p)
  obtain ⟨hs, hf⟩ := hs
  obtain ⟨hb1, hb2, hb3⟩ := hb
  have HTW := Lib.hid (fun W2 (h2 : Below W.heap.size W W2) => Ir.twin_law l v1 W2 (hl.below h2) (by omega) (fun x hx => by have := hb3 x hx; omega))
  have HLY := Lib.hid (fun W2 (h2 : Below W.heap.size W W2) (v2 : Value) (B : Nat) (hr : Ir.RdO (B ≤ ·) W2 v2 l) => layout_pro sh l v0 v2 tp wd W2 (hs.below h2) hf hr (by unfold Ir.sizeOk; omega) (hT.u.below h2 (Nat.le_refl _)) (hT.p.below h2 (Nat.le_refl _)))
  obtain ⟨ps, cps, rfl, q1, q2⟩ := hs.form
  obtain ⟨pa, cap, rfl, hc1, hc2⟩ := hl.form
  unfold maxLen at hc2
  obtain ⟨n, hn⟩ : ∃ n, l.length = n := ⟨_, rfl⟩
  have HN := Lib.hid hn
  rw [hn] at HTW hc1 ⊢
  have hN62 : n ≤ 9223372036854775807 := by omega
  by_cases h3 : 3000 < n
  · have h3i : (3000 : Int) < n := by omega
    clear hs hl hf hT hb1 hb2 hb3 hn h3 HTW HLY
    go_enter Tryz.func4, Tryz.ntmps4
    go_wp2_with fail
    refine HAW.out.mono ?_
    rintro e w1 ⟨rfl, hb⟩
    have HB := Lib.hid hb
    clear hb
    go_wp2_with fail
    go_ret
    exact ⟨rfl, HB.out⟩
  have h3i : ¬ (3000 : Int) < n := by omega
  clear hs hl hf hT hb1 hb2 hb3 hn h3
  go_enter Tryz.func4, Tryz.ntmps4
  go_wp2_with fail
  refine HAW.out.mono ?_
  rintro e w1 ⟨rfl, hb⟩
  have HB := Lib.hid hb
  have HTW1 := Lib.hid (HTW.out w1 hb)
  clear hb HTW
  go_wp2_with fail
  refine HTW1.out.mono ?_
  rintro e w2 ⟨v2, ps2, rfl, ho2, hp2, hb2⟩
  have hB2 := HB.out.trans (hb2.mono HB.out.size)
  have HB2 := Lib.hid hB2
  have HLY2 := Lib.hid (HLY.out w2 hB2 v2 _ (twin_rd (w' := w2) ho2 hp2))
  obtain ⟨p2, c2, rfl⟩ := Ir.lenL ho2.row
  unfold LayIs at HLY2
  clear ho2 hb2 hB2 HLY
  go_wp2_with fail
  refine HLY2.out.mono ?_
  rintro e w3 ⟨vl, vr, vk, rfl, hD, hb3⟩
  have hB3 := HB2.out.trans (hb3.mono HB2.out.size)
  obtain ⟨z, hz⟩ : ∃ z, layE sh l tp wd = z := ⟨_, rfl⟩
  obtain ⟨d, hd⟩ : ∃ d, layL sh l tp wd = d := ⟨_, rfl⟩
  have HF := Lib.hid (show z = 0 → ClickL d from fun e => hd ▸ clickL_of (hz.trans e))
  rw [hd] at hD ⊢
  rw [hz]
  obtain ⟨pl, cl, rfl, -, -⟩ := hD.lines.form
  obtain ⟨pr, cr, rfl, -, -⟩ := hD.rects.form
  obtain ⟨pk, ck, rfl, -, -, -⟩ := hD.links
  unfold laidV
  obtain ⟨nl, hnl⟩ : ∃ nl, d.lines.length = nl := ⟨_, rfl⟩
  obtain ⟨nr, hnr⟩ : ∃ nr, d.rects.length = nr := ⟨_, rfl⟩
  obtain ⟨nk, hnk⟩ : ∃ nk, d.links.length = nk := ⟨_, rfl⟩
  have HNL := Lib.hid hnl
  have HNR := Lib.hid hnr
  have HNK := Lib.hid hnk
  rw [hnl, hnr, hnk] at hD ⊢
  have hA3 := below_box w3 (.cells #[.slice pl nl cl, .slice pr nr cr, .slice pk nk ck, .bool d.more] 29)
  have HX := Lib.hid (laid_cells w3 (.slice pl nl cl) (.slice pr nr cr) (.slice pk nk ck) d.more)
  have HD := Lib.hid (hD.below hA3)
  have HB3 := Lib.hid (hB3.trans (hA3.mono hB3.size))
  obtain ⟨mo, hmo⟩ : ∃ mo, d.more = mo := ⟨_, rfl⟩
  rw [hmo] at HX HD HB3 ⊢
  clear hD hb3 hB3 hA3 HLY2 hz hd hnl hnr hnk hmo HTW1
  by_cases hz0 : ¬ z = 0
  · have hzb : (z != 0) = true := by simpa using hz0
    go_wp2_with fail
    go_ret
    exact ⟨rfl, HB3.out⟩
  have hz0' : z = 0 := by omega
  have hzb : (z != 0) = false := by simpa using hz0'
  have HFL := Lib.hid (HF.out hz0')
  have hn2 : nl ≤ 2000 := by have := HFL.out.num; rw [HNL.out] at this; exact this
  have hx := HX.out
  obtain ⟨d0, d1, d2, d3⟩ : (w3.alloc (.cells #[.slice pl nl cl, .slice pr nr cr, .slice pk nk ck, .bool mo] 29)).cell? ⟨w3.heap.size, 0, none⟩ = some (.slice pl nl cl) ∧ (w3.alloc (.cells #[.slice pl nl cl, .slice pr nr cr, .slice pk nk ck, .bool mo] 29)).cell? ⟨w3.heap.size, 1, none⟩ = some (.slice pr nr cr) ∧ (w3.alloc (.cells #[.slice pl nl cl, .slice pr nr cr, .slice pk nk ck, .bool mo] 29)).cell? ⟨w3.heap.size, 2, none⟩ = some (.slice pk nk ck) ∧ (w3.alloc (.cells #[.slice pl nl cl, .slice pr nr cr, .slice pk nk ck, .bool mo] 29)).cell? ⟨w3.heap.size, 3, none⟩ = some (.bool mo) := by
    refine ⟨?_, ?_, ?_, ?_⟩ <;> rw [cell_of_row _ _ _ _ _ _ hx] <;> rfl
  have hnr62 : nr ≤ 9223372036854775807 := by
    obtain ⟨_, cap9, e9, h9, h8⟩ := HD.out.rects.form
    unfold maxLen at h8
    have := HNR.out
    omega
  by_cases h300 : 300 < nr
  · have h300i : (300 : Int) < nr := by omega
    clear hz0 hz0' HF hx
    go_wp2_with fail
    go_ret
    exact ⟨rfl, HB3.out⟩
  have h300i : ¬ (300 : Int) < nr := by omega
  clear hz0 hz0' HF
  go_wp2_with fail
  obtain ⟨b, hbb⟩ : ∃ b, w3.heap.size = b := ⟨_, rfl⟩
  obtain ⟨W5, hW5⟩ : ∃ W5, w3.alloc (.cells #[.slice pl nl cl, .slice pr nr cr, .slice pk nk ck, .bool mo] 29) = W5 := ⟨_, rfl⟩
  rw [hW5, hbb] at hx HX d0 d1 d2 d3
  rw [hW5] at HD HB3
  rw [hbb, hW5]
  have hbl : b < W5.heap.size := (Array.getElem?_eq_some_iff.1 hx).1
  have HBX := Lib.hid (fun (W6 : World) (h6 : Below W5.heap.size W5 W6) => (show (W6.cell? ⟨b, 0, none⟩ = some (.slice pl nl cl) ∧ W6.cell? ⟨b, 1, none⟩ = some (.slice pr nr cr) ∧ W6.cell? ⟨b, 2, none⟩ = some (.slice pk nk ck) ∧ W6.cell? ⟨b, 3, none⟩ = some (.bool mo)) from
    ⟨(h6.cell (p := ⟨b, 0, none⟩) hbl).trans d0, (h6.cell (p := ⟨b, 1, none⟩) hbl).trans d1, (h6.cell (p := ⟨b, 2, none⟩) hbl).trans d2, (h6.cell (p := ⟨b, 3, none⟩) hbl).trans d3⟩))
  have hnl62 : nl ≤ 9223372036854775807 := by omega
  have HHT := Lib.hid (fun (W6 : World) (h6 : Below W5.heap.size W5 W6) (row col : Int) => hit_pro d.rects (.slice pl nl cl) (.slice pr nr cr) (.slice pk nk ck) mo row col W6 (HD.out.rects.below h6) rfl rfl)
  unfold laidV at HHT
  clear hx hbl hbb hW5 d0 d1 d2 d3 HX
  go_loopw [11] (fun i wr => ∃ (k : Nat), i = .int .i64 k ∧ k ≤ nl ∧ Hid (Below W5.heap.size W5 wr)) (fun i _ => nl - (intOf i).toNat)
  case atStart => exact ⟨0, rfl, Nat.zero_le _, Lib.hid (Below.refl _ _)⟩
  case round =>
    obtain ⟨k, rfl, hk, HBr⟩ := hrel
    obtain ⟨d0, d1, d2, d3⟩ := HBX.out wr HBr.out
    by_cases hgo : k < nl ∧ k < 60
    · obtain ⟨hlt, h60⟩ := hgo
      have hkl : k < d.lines.length := by rw [HNL.out]; exact hlt
      have hk' : k < 2000 := by omega
      obtain ⟨g, off, pt, ct, hpl, -, e0, -, -, hrd⟩ := (HD.out.lines.below HBr.out).at_ (by rw [HNL.out]; exact hlt)
      have hwd := HFL.out.wd _ (List.getElem_mem hkl)
      have hht := HFL.out.hit k hkl
      obtain ⟨x, hx⟩ : ∃ x, d.lines[k] = x := ⟨_, rfl⟩
      rw [hx] at e0 hrd hwd hht
      subst hpl
      have HRD := Lib.hid hrd
      have HWD := Lib.hid hwd
      have HHI := Lib.hid hht
      obtain ⟨xl, hxl⟩ : ∃ xl, x.length = xl := ⟨_, rfl⟩
      have HXL := Lib.hid hxl
      rw [hxl] at e0 HRD
      have k1 : (k : Int) < nl := by omega
      have k2 : (k : Int) < 60 := by omega
      have hxl62 : xl ≤ 9223372036854775807 := by have := hwd.2; omega
      have HLT := Lib.hid hlt
      have HWr := Lib.hid HBr.out.size
      obtain ⟨W6, hW6⟩ : ∃ W6, wr = W6 := ⟨_, rfl⟩
      rw [hW6] at HBr HRD HWr e0 d0 d1 d2 d3 ⊢
      clear hrd hwd hht hx hxl hkl hlt h60 hW6
      go_wp2_with fail
      clear d0 d1 d2 d3 e0
      go_loopw [12, 59] (fun c i wr => ∃ (j : Nat), i = .int .i64 j ∧ j ≤ xl ∧ c = .int .i64 (wid (x.take j)) ∧ Hid (Below W6.heap.size W6 wr)) (fun _ i _ => xl - (intOf i).toNat)
      case atStart => exact ⟨0, rfl, Nat.zero_le _, rfl, Lib.hid (Below.refl _ _)⟩
      case round =>
        obtain ⟨j, rfl, hj, rfl, HB2⟩ := hrel
        by_cases hlt : j < xl
        · have hjl : j < x.length := by rw [HXL.out]; exact hlt
          obtain ⟨g2, off2, hg2, -, y0, y1, y2, y3, y4⟩ := (HRD.out.below HB2.out).at_ (by rw [HXL.out]; exact hlt)
          subst hg2
          have hgw := HWD.out.1 _ (List.getElem_mem hjl)
          have hwt := wid_take_le HWD.out.1 j
          have hwl := HWD.out.2
          have hnx := wid_tk hjl
          have hla := fun q => lkAt_at x j hjl q HWD.out.1
          have HHk := HHI.out
          obtain ⟨⟨gt, gw, ga, gc, gk⟩, hxj⟩ : ∃ g, x[j] = g := ⟨_, rfl⟩
          rw [hxj] at y0 y1 y2 y3 y4 hgw hnx
          have hla2 : ∀ q : Int, 0 ≤ q → q < gw → lkAt x (wid (x.take j) + q) = gk := fun q h0 h1 => by
            have h9 := hla q h0
            rw [hxj] at h9
            exact h9 h1
          dsimp only at y0 y1 y2 y3 y4 hgw hnx
          obtain ⟨gm, rfl⟩ : ∃ gm : Nat, gw = (gm : Nat) := ⟨gw.toNat, by omega⟩
          obtain ⟨wt, hwtn⟩ : ∃ wt, wid (x.take j) = wt := ⟨_, rfl⟩
          rw [hwtn] at hwt hnx hla2 ⊢
          have hA := below_box wr (.cells #[.string gt, .int .i64 (gm : Nat), .int .i64 ga, .int .i64 gc, .int .i64 gk] 44)
          have HX2 := Lib.hid (heap_alloc_new wr (.cells #[.string gt, .int .i64 (gm : Nat), .int .i64 ga, .int .i64 gc, .int .i64 gk] 44))
          obtain ⟨W2, hW2⟩ : ∃ W2, wr.alloc (.cells #[.string gt, .int .i64 (gm : Nat), .int .i64 ga, .int .i64 gc, .int .i64 gk] 44) = W2 := ⟨_, rfl⟩
          obtain ⟨c, hcb⟩ : ∃ c, wr.heap.size = c := ⟨_, rfl⟩
          rw [hW2] at hA HX2
          have hBN := HB2.out.size
          have HB7 := Lib.hid (HB2.out.trans (hA.mono hBN))
          rw [hcb] at HX2
          have HCX := Lib.hid (fun (W7 : World) (h7 : Below W2.heap.size W2 W7) => (show W7.cell? ⟨c, 1, none⟩ = some (.int .i64 (gm : Nat)) ∧ W7.cell? ⟨c, 4, none⟩ = some (.int .i64 gk) from by
            have hx2 := (h7.block c (Array.getElem?_eq_some_iff.1 HX2.out).1).trans HX2.out
            refine ⟨?_, ?_⟩ <;> rw [cell_of_row _ _ _ _ _ _ hx2] <;> rfl))
          obtain ⟨z1, z4⟩ := HCX.out W2 (Below.refl _ _)
          have HLA := Lib.hid hla2
          have HNX := Lib.hid hnx
          have b1 : ¬ (gm : Int) < 1 := by omega
          have b2 : ¬ (2 : Int) < gm := by omega
          have k1 : (j : Int) < xl := by omega
          have HLT2 := Lib.hid hlt
          have hgm2 : gm ≤ 2 := by omega
          have hw2 : wt ≤ 2000 := by omega
          have hw0 : 0 ≤ wt := hwt.1
          clear hA hBN hgw hnx hla hla2 hxj hjl hlt HHk hwl hwtn
          go_wp2_with fail
          try simp only [hW2, hcb]
          clear z1 z4 hW2 hcb y0 y1 y2 y3 y4
          go_loopw [12, 15] (fun c i wl => ∃ (q : Nat), i = .int .i64 q ∧ q ≤ gm ∧ c = .int .i64 (wt + q) ∧ Hid (Below W2.heap.size W2 wl)) (fun _ i _ => gm - (intOf i).toNat)
          case atStart => exact ⟨0, rfl, Nat.zero_le _, by simp, Lib.hid (Below.refl _ _)⟩
          case round =>
            obtain ⟨q, rfl, hq, rfl, HB8⟩ := hrel
            have HB9 := Lib.hid (HB7.out.trans (HB8.out.mono HB7.out.size))
            have HB5 := Lib.hid (HBr.out.trans (HB9.out.mono HBr.out.size))
            obtain ⟨z1, z4⟩ := HCX.out _ HB8.out
            obtain ⟨d0, d1, d2, d3⟩ := HBX.out _ HB5.out
            by_cases hlt : q < gm
            · have hlk := HLA.out q (by omega) (by omega)
              have hht := HHI.out (wt + q) (by omega) (by omega)
              rw [hlk] at hht
              have hH := HHT.out _ HB5.out (k : Nat) (wt + q)
              rw [hht, hitV_link] at hH
              have HH := Lib.hid hH
              have k3 : (q : Int) < gm := by omega
              have bb : (gk != gk) = false := by simp
              obtain ⟨bo, hbo⟩ : ∃ bo, (gk != 0) = bo := ⟨_, rfl⟩
              rw [hbo] at HH
              have bo2 : (bo != bo) = false := by cases bo <;> rfl
              have HLT3 := Lib.hid hlt
              clear hlk hht hH hlt
              go_wp2_with fail
              refine HH.out.mono ?_
              rintro e w9 ⟨rfl, h9⟩
              have HB10 := Lib.hid (HB8.out.trans (h9.mono HB8.out.size))
              obtain ⟨u1, u4⟩ := HCX.out _ HB10.out
              clear z1 z4 h9 d0 d1 d2 d3
              go_wp2_with fail
              go_roundw
              case measure => have := HLT3.out; simp [intOf]; omega
              case rel => exact ⟨q + 1, by go_num, HLT3.out, by go_num, HB10⟩
            · obtain rfl : gm = q := by omega
              have hzk : ¬ (gm : Int) < gm := by omega
              clear d0 d1 d2 d3 hlt
              go_wp2_with fail
              go_roundw
              case measure => have := HLT2.out; simp [intOf]; omega
              case rel => exact ⟨j + 1, by go_num, HLT2.out, by rw [HNX.out], HB9⟩
        · obtain rfl : xl = j := by omega
          have hzk : ¬ (xl : Int) < xl := by omega
          have hta : x.take xl = x := List.take_of_length_le (by rw [HXL.out]; exact Nat.le_refl _)
          rw [hta]
          have HB5 := Lib.hid (HBr.out.trans (HB2.out.mono HBr.out.size))
          obtain ⟨d0, d1, d2, d3⟩ := HBX.out _ HB5.out
          have hwg := wid_ge x HWD.out.1
          have hwl := HWD.out.2
          have hht := HHI.out (wid x) (by omega) (by omega)
          rw [lkAt_out x (wid x) HWD.out.1 (Int.le_refl _), if_pos rfl] at hht
          have hH := HHT.out _ HB5.out (k : Nat) (wid x)
          rw [hht] at hH
          unfold hitV at hH
          dsimp only at hH
          have HH := Lib.hid hH
          clear hta hwg hwl hht hH hlt
          go_wp2_with fail
          refine HH.out.mono ?_
          rintro e w9 ⟨rfl, h9⟩
          have HB10 := Lib.hid (HB5.out.trans (h9.mono HB5.out.size))
          clear h9 d0 d1 d2 d3
          go_wp2_with fail
          go_roundw
          case measure => have := HLT.out; simp [intOf]; omega
          case rel => exact ⟨k + 1, by go_num, HLT.out, HB10⟩
    · have HBF := Lib.hid (HB3.out.trans (HBr.out.mono HB3.out.size))
      by_cases hlt : k < nl
      · have k1 : (k : Int) < nl := by omega
        have k2 : ¬ (k : Int) < 60 := by omega
        clear hgo hlt
        go_wp2_with fail
        go_ret
        exact ⟨rfl, HBF.out⟩
      · have k1 : ¬ (k : Int) < nl := by omega
        clear hgo hlt
        go_wp2_with fail
        go_ret
        exact ⟨rfl, HBF.out⟩
end Go.Proofs.YtjohhahfpgfjdaaGreatDoor.Tb
