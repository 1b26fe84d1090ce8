/- Layer 13: the law LayoutFits. -/
import Derived.Test.YtjohhahfpgfjdaaGreatDoorK5
import Derived.Test.YtjohhahfpgfjdaaGreatDoorK35
import Derived.Test.YtjohhahfpgfjdaaGreatDoorK36
import Derived.Test.YtjohhahfpgfjdaaGreatDoorK37
import Derived.BigQuiet
namespace Go.Proofs.YtjohhahfpgfjdaaGreatDoor.Tb
open Go.RowKit Go.Maps
open Go.Proofs.YtjohhahfpgfjdaaGreatDoor.Ly (Tabs2 Tabs2.below)
set_option linter.unusedVariables false
set_option linter.unusedSimpArgs false
theorem wrapI_id {z : Int} (h : -9223372036854775808 ≤ z ∧ z ≤ 9223372036854775807) : IntKind.i64.wrap z = z := by simp [IntKind.wrap, IntKind.signed, IntKind.bits]; omega
theorem drewN_below {B : Nat} {w W : World} (h : Below B w W) (n : Nat) : Below B w (W.drewN n) := ⟨h.1, h.2, h.3, h.4, h.5⟩
theorem twin_rd {w w' : World} {v : Value} {ps : List (Opr × Value)} {l : List Opr} {B : Nat} (h : Ir.OwnO B w v ps) (hp : ps.map (·.1) = l) : Ir.RdO (B ≤ ·) w v l := by
  have := h.rd
  rw [hp] at this
  exact this
/-- What a layout of some operations is, plain: what LayoutFits asks. -/
structure FitL (tp wd : Int) (d : Ld) : Prop where
  num : d.lines.length ≤ 2000
  small : ∀ l ∈ d.lines, SmallW l ∧ l.length ≤ 1000
  wide : ∀ l ∈ d.lines, wid l ≤ wd
  each : ∀ r ∈ d.rects, ∃ j : Nat, ∃ hj : j < d.lines.length, r.row = j ∧ 0 ≤ r.col ∧ 1 ≤ r.wide ∧ r.col + r.wide ≤ wid d.lines[j] ∧ 1 ≤ r.link ∧ r.link ≤ d.links.length
  ord : d.rects.Pairwise RcOrd
  lnk : ∀ t ∈ d.links, 0 ≤ t.2 ∧ t.2 < tp
theorem fitL_of {sh : List S6.Sty} {l : List Opr} {tp wd : Int} (h : layE sh l tp wd = 0) : FitL tp wd (layL sh l tp wd) ∧ (10 ≤ wd ∧ wd ≤ 200) := by
  obtain ⟨e, hw, s, k, T, ho, hg⟩ := lay_g h
  rw [e]
  obtain ⟨y, hy⟩ : ∃ y, runY wd (chgs sh) l = y := ⟨_, rfl⟩
  rw [hy] at ho hg ⊢
  have hl : ∀ l ∈ y.ls, (∀ g ∈ l, OkL y.lk.length g) ∧ wid l ≤ 1000000000 := fun l hl => ⟨fun g hg' => ⟨(hg.ls l hl).1 g hg', hg.lls l hl g hg'⟩, by have := (hg.ls l hl).2; omega⟩
  obtain ⟨r1, r2⟩ := rects_facts y.ls 0 hl
  refine ⟨⟨ho.mok.ls, fun l hl => ⟨fun g hg' => by have := (hg.ls l hl).1 g hg'; omega, ho.lns.1 l hl⟩, fun l hl => (hg.ls l hl).2, fun r hr => ?_, r2, hg.lk⟩, hw⟩
  obtain ⟨j, hj, e1, e2⟩ := r1 r hr
  exact ⟨j, hj, by omega, e2⟩
set_option maxRecDepth 100000 in
set_option maxHeartbeats 8000000 in
set_option pp.maxSteps 200000 in
set_option pp.deepTerms true in
theorem fits_walk (v0 : Value) (sh : List S6.Sty) (v1 : Value) (l : List Opr) (tp wd : Int) (W : World) (hT : Tabs2 W) (hs : S6.Sh W v0 sh ∧ S6.Fit sh) (hl : Ir.RdO (fun _ => True) W v1 l) (hb : l.length ≤ 1048576 ∧ Ir.sumT l ≤ 1048576 ∧ ∀ x ∈ l, x.w.length ≤ 1048576) :
    Calls Tryz.prog 3 #[v0, v1, .int .i64 tp, .int .i64 wd] W fun e W' => e = .returned (.bool true) ∧ Below W.heap.size W W' := by
  have HAW := Lib.hid (awake_law W hT.u hT.p)
  obtain ⟨hs, hf⟩ := hs
  obtain ⟨hb1, hb2, hb3⟩ := hb
  have HTW := Lib.hid (fun W2 (h2 : Below W.heap.size W W2) => Ir.twin_law l v1 W2 (hl.below h2) (by omega) (fun x hx => by have := hb3 x hx; omega))
  have HLY := Lib.hid (fun W2 (h2 : Below W.heap.size W W2) (v2 : Value) (B : Nat) (hr : Ir.RdO (B ≤ ·) W2 v2 l) => layout_pro sh l v0 v2 tp wd W2 (hs.below h2) hf hr (by unfold Ir.sizeOk; omega) (hT.u.below h2 (Nat.le_refl _)) (hT.p.below h2 (Nat.le_refl _)))
  obtain ⟨ps, cps, rfl, q1, q2⟩ := hs.form
  obtain ⟨pa, cap, rfl, hc1, hc2⟩ := hl.form
  unfold maxLen at hc2
  obtain ⟨n, hn⟩ : ∃ n, l.length = n := ⟨_, rfl⟩
  have HN := Lib.hid hn
  rw [hn] at HTW hc1 ⊢
  have hN62 : n ≤ 9223372036854775807 := by omega
  by_cases h3 : 3000 < n
  · have h3i : (3000 : Int) < n := by omega
    clear hs hl hf hT hb1 hb2 hb3 hn h3 HTW HLY
    go_enter Tryz.func3, Tryz.ntmps3
    go_wp2_with fail
    refine HAW.out.mono ?_
    rintro e w1 ⟨rfl, hb⟩
    have HB := Lib.hid hb
    clear hb
    go_wp2_with fail
    go_ret
    exact ⟨rfl, HB.out⟩
  have h3i : ¬ (3000 : Int) < n := by omega
  clear hs hl hf hT hb1 hb2 hb3 hn h3
  go_enter Tryz.func3, Tryz.ntmps3
  go_wp2_with fail
  refine HAW.out.mono ?_
  rintro e w1 ⟨rfl, hb⟩
  have HB := Lib.hid hb
  have HTW1 := Lib.hid (HTW.out w1 hb)
  clear hb HTW
  go_wp2_with fail
  refine HTW1.out.mono ?_
  rintro e w2 ⟨v2, ps2, rfl, ho2, hp2, hb2⟩
  have hB2 := HB.out.trans (hb2.mono HB.out.size)
  have HB2 := Lib.hid hB2
  have HLY2 := Lib.hid (HLY.out w2 hB2 v2 _ (twin_rd (w' := w2) ho2 hp2))
  obtain ⟨p2, c2, rfl⟩ := Ir.lenL ho2.row
  unfold LayIs at HLY2
  clear ho2 hb2 hB2 HLY
  go_wp2_with fail
  refine HLY2.out.mono ?_
  rintro e w3 ⟨vl, vr, vk, rfl, hD, hb3⟩
  have hB3 := HB2.out.trans (hb3.mono HB2.out.size)
  obtain ⟨z, hz⟩ : ∃ z, layE sh l tp wd = z := ⟨_, rfl⟩
  obtain ⟨d, hd⟩ : ∃ d, layL sh l tp wd = d := ⟨_, rfl⟩
  have HF := Lib.hid (show z = 0 → FitL tp wd d ∧ (10 ≤ wd ∧ wd ≤ 200) from fun e => hd ▸ fitL_of (hz.trans e))
  rw [hd] at hD ⊢
  rw [hz]
  obtain ⟨pl, cl, rfl, -, -⟩ := hD.lines.form
  obtain ⟨pr, cr, rfl, -, -⟩ := hD.rects.form
  obtain ⟨pk, ck, rfl, -, -, -⟩ := hD.links
  unfold laidV
  obtain ⟨nl, hnl⟩ : ∃ nl, d.lines.length = nl := ⟨_, rfl⟩
  obtain ⟨nr, hnr⟩ : ∃ nr, d.rects.length = nr := ⟨_, rfl⟩
  obtain ⟨nk, hnk⟩ : ∃ nk, d.links.length = nk := ⟨_, rfl⟩
  have HNL := Lib.hid hnl
  have HNR := Lib.hid hnr
  have HNK := Lib.hid hnk
  rw [hnl, hnr, hnk] at hD ⊢
  have hA3 := below_box w3 (.cells #[.slice pl nl cl, .slice pr nr cr, .slice pk nk ck, .bool d.more] 29)
  have HX := Lib.hid (laid_cells w3 (.slice pl nl cl) (.slice pr nr cr) (.slice pk nk ck) d.more)
  have HD := Lib.hid (hD.below hA3)
  have HB3 := Lib.hid (hB3.trans (hA3.mono hB3.size))
  obtain ⟨mo, hmo⟩ : ∃ mo, d.more = mo := ⟨_, rfl⟩
  rw [hmo] at HX HD HB3 ⊢
  clear hD hb3 hB3 hA3 HLY2 hz hd hnl hnr hnk hmo HTW1
  by_cases hz0 : ¬ z = 0
  · have hzb : (z != 0) = true := by simpa using hz0
    go_wp2_with fail
    go_ret
    exact ⟨rfl, HB3.out⟩
  have hz0' : z = 0 := by omega
  have hzb : (z != 0) = false := by simpa using hz0'
  obtain ⟨hF, hwd⟩ := HF.out hz0'
  have HFL := Lib.hid hF
  have hn2 : nl ≤ 2000 := by have := hF.num; rw [HNL.out] at this; exact this
  have hn2b : ¬ (2000 : Int) < nl := by omega
  have hx := HX.out
  obtain ⟨d0, d1, d2, d3⟩ : (w3.alloc (.cells #[.slice pl nl cl, .slice pr nr cr, .slice pk nk ck, .bool mo] 29)).cell? ⟨w3.heap.size, 0, none⟩ = some (.slice pl nl cl) ∧ (w3.alloc (.cells #[.slice pl nl cl, .slice pr nr cr, .slice pk nk ck, .bool mo] 29)).cell? ⟨w3.heap.size, 1, none⟩ = some (.slice pr nr cr) ∧ (w3.alloc (.cells #[.slice pl nl cl, .slice pr nr cr, .slice pk nk ck, .bool mo] 29)).cell? ⟨w3.heap.size, 2, none⟩ = some (.slice pk nk ck) ∧ (w3.alloc (.cells #[.slice pl nl cl, .slice pr nr cr, .slice pk nk ck, .bool mo] 29)).cell? ⟨w3.heap.size, 3, none⟩ = some (.bool mo) := by
    refine ⟨?_, ?_, ?_, ?_⟩ <;> rw [cell_of_row _ _ _ _ _ _ hx] <;> rfl
  clear hF hz0 hz0' HF
  go_wp2_with fail
  obtain ⟨b, hbb⟩ : ∃ b, w3.heap.size = b := ⟨_, rfl⟩
  obtain ⟨W5, hW5⟩ : ∃ W5, w3.alloc (.cells #[.slice pl nl cl, .slice pr nr cr, .slice pk nk ck, .bool mo] 29) = W5 := ⟨_, rfl⟩
  rw [hW5, hbb] at hx HX d0 d1 d2 d3
  rw [hW5] at HD HB3
  rw [hbb, hW5]
  have hbl : b < W5.heap.size := (Array.getElem?_eq_some_iff.1 hx).1
  have HBX := Lib.hid (fun (W6 : World) (h6 : Below W5.heap.size W5 W6) => (show (W6.cell? ⟨b, 0, none⟩ = some (.slice pl nl cl) ∧ W6.cell? ⟨b, 1, none⟩ = some (.slice pr nr cr) ∧ W6.cell? ⟨b, 2, none⟩ = some (.slice pk nk ck) ∧ W6.cell? ⟨b, 3, none⟩ = some (.bool mo)) from
    ⟨(h6.cell (p := ⟨b, 0, none⟩) hbl).trans d0, (h6.cell (p := ⟨b, 1, none⟩) hbl).trans d1, (h6.cell (p := ⟨b, 2, none⟩) hbl).trans d2, (h6.cell (p := ⟨b, 3, none⟩) hbl).trans d3⟩))
  have hnl62 : nl ≤ 9223372036854775807 := by omega
  clear hx hbl hbb hW5 d0 d1 d2 d3 HX
  go_loopw [40] (fun i wr => ∃ (k : Nat), i = .int .i64 k ∧ k ≤ nl ∧ Hid (Below W5.heap.size W5 wr)) (fun i _ => nl - (intOf i).toNat)
  case atStart => exact ⟨0, rfl, Nat.zero_le _, Lib.hid (Below.refl _ _)⟩
  case round =>
    obtain ⟨k, rfl, hk, HBr⟩ := hrel
    by_cases hlt : k < nl
    · have hkl : k < d.lines.length := by rw [HNL.out]; exact hlt
      obtain ⟨g, off, pt, ct, rfl, -, e0, -, -, hrd⟩ := (HD.out.lines.below HBr.out).at_ (by rw [HNL.out]; exact hlt)
      have hsm := HFL.out.small _ (List.getElem_mem hkl)
      have hwi := HFL.out.wide _ (List.getElem_mem hkl)
      have HWd := Lib.hid (wide_ref _ _ wr hrd (by have := hsm.2; omega) hsm.1)
      obtain ⟨x, hx⟩ : ∃ x, d.lines[k] = x := ⟨_, rfl⟩
      rw [hx] at e0 hrd hsm hwi HWd
      obtain ⟨xl, hxl⟩ : ∃ xl, x.length = xl := ⟨_, rfl⟩
      obtain ⟨xw, hxw⟩ : ∃ xw, wid x = xw := ⟨_, rfl⟩
      rw [hxl] at e0 HWd
      rw [hxw] at HWd hwi
      have k1 : (k : Int) < nl := by omega
      have hwi2 : ¬ wd < xw := by omega
      have HLT := Lib.hid hlt
      clear hrd hsm hx hxl hxw hkl hwi hlt
      go_wp2_with fail
      refine HWd.out.mono ?_
      rintro e w7 ⟨rfl, rfl⟩
      go_wp2_with fail
      go_roundw
      case measure => have := HLT.out; simp [intOf]; omega
      case rel => exact ⟨k + 1, by go_num, HLT.out, HBr⟩
    · obtain rfl : nl = k := by omega
      have hzk : ¬ (nl : Int) < nl := by omega
      obtain ⟨d0, d1, d2, d3⟩ := HBX.out wr HBr.out
      have hnr62 : nr ≤ 9223372036854775807 := by
        have := HD.out.rects.form
        obtain ⟨_, cap9, e9, h9, h8⟩ := this
        unfold maxLen at h8
        have := HNR.out
        omega
      have hnk62 : nk ≤ 9223372036854775807 := by
        obtain ⟨_, cap9, e9, h9, h8, _⟩ := HD.out.links
        unfold maxLen at h8
        have := HNK.out
        omega
      have HB6 := HBr
      obtain ⟨W6, hW6⟩ : ∃ W6, wr = W6 := ⟨_, rfl⟩
      rw [hW6] at HB6 d0 d1 d2 d3 ⊢
      clear hlt HBr hW6
      go_wp2_with fail
      clear d0 d1 d2 d3
      go_loopw [52] (fun i wr => ∃ (k : Nat), i = .int .i64 k ∧ k ≤ nr ∧ Hid (Below W5.heap.size W5 wr)) (fun i _ => nr - (intOf i).toNat)
      case atStart => exact ⟨0, rfl, Nat.zero_le _, HB6⟩
      case round =>
        obtain ⟨j, rfl, hj, HBr⟩ := hrel
        by_cases hlt : j < nr
        · have hjl : j < d.rects.length := by rw [HNR.out]; exact hlt
          obtain ⟨g, off, rfl, -, r0, r1, r2, r3⟩ := (HD.out.rects.below HBr.out).at_ (by rw [HNR.out]; exact hlt)
          obtain ⟨m, hm, er, a1, a2, a3, a4, a5⟩ := HFL.out.each _ (List.getElem_mem hjl)
          have hwid := HFL.out.wide _ (List.getElem_mem hm)
          have hsm := HFL.out.small _ (List.getElem_mem hm)
          obtain ⟨⟨ro, kc, wi, ln⟩, hxr⟩ : ∃ x, d.rects[j] = x := ⟨_, rfl⟩
          rw [hxr] at r0 r1 r2 r3 er a1 a2 a3 a4 a5
          dsimp only at r0 r1 r2 r3 er a1 a2 a3 a4 a5
          subst er
          rw [HNK.out] at a5
          have hA := below_box wr (.cells #[.int .i64 (m : Nat), .int .i64 kc, .int .i64 wi, .int .i64 ln] 37)
          have HX2 := Lib.hid (heap_alloc_new wr (.cells #[.int .i64 (m : Nat), .int .i64 kc, .int .i64 wi, .int .i64 ln] 37))
          obtain ⟨W2, hW2⟩ : ∃ W2, wr.alloc (.cells #[.int .i64 (m : Nat), .int .i64 kc, .int .i64 wi, .int .i64 ln] 37) = W2 := ⟨_, rfl⟩
          obtain ⟨c, hcb⟩ : ∃ c, wr.heap.size = c := ⟨_, rfl⟩
          rw [hW2] at hA HX2
          have hBN := HBr.out.size
          have HB2 := HBr.out.trans (hA.mono hBN)
          rw [hcb] at HX2
          have hx2 := HX2.out
          obtain ⟨x0, x1, x2, x3⟩ : W2.cell? ⟨c, 0, none⟩ = some (.int .i64 (m : Nat)) ∧ W2.cell? ⟨c, 1, none⟩ = some (.int .i64 kc) ∧ W2.cell? ⟨c, 2, none⟩ = some (.int .i64 wi) ∧ W2.cell? ⟨c, 3, none⟩ = some (.int .i64 ln) := by
            refine ⟨?_, ?_, ?_, ?_⟩ <;> rw [cell_of_row _ _ _ _ _ _ hx2] <;> rfl
          obtain ⟨d0, d1, d2, d3⟩ := HBX.out W2 HB2
          obtain ⟨gl, ol, pt, ct, hpl, -, e0, -, -, hrd⟩ := (HD.out.lines.below HB2).at_ hm
          subst hpl
          have HWd := Lib.hid (fun q : Nat => (wide_ref _ _ (W2.drewN q) (hrd.below ⟨rfl, rfl, rfl, Nat.le_refl _, fun _ _ => rfl⟩) (by have := hsm.2; omega) hsm.1).mono (fun e w2 he => (⟨he.1, he.2.symm⟩ : e = .returned (.int .i64 (wid d.lines[m])) ∧ w2 = _)))
          have hm2 : m < nl := by have := HNL.out; omega
          obtain ⟨x, hx⟩ : ∃ x, d.lines[m] = x := ⟨_, rfl⟩
          rw [hx] at e0 hrd hsm hwid HWd a3
          obtain ⟨xl, hxl⟩ : ∃ xl, x.length = xl := ⟨_, rfl⟩
          obtain ⟨xw, hxw⟩ : ∃ xw, wid x = xw := ⟨_, rfl⟩
          rw [hxl] at e0 HWd
          rw [hxw] at HWd hwid a3
          have k1 : (j : Int) < nr := by omega
          have HLT := Lib.hid hlt
          have HB22 := Lib.hid HB2
          have b1 : ¬ (m : Int) < 0 := by omega
          have b2 : ¬ (nl : Int) ≤ m := by omega
          have b2' : (m : Int) < nl := by omega
          have b3 : ¬ kc < 0 := by omega
          have b4 : ¬ wi < 1 := by omega
          have b5 : ¬ xw < kc + wi := by omega
          have b6 : ¬ ln < 1 := by omega
          have b7 : ¬ (nk : Int) < ln := by omega
          have b8 : kc ≤ 1000 := by omega
          have b9 : wi ≤ 1000 := by omega
          have c1 : decide ((m : Int) < 0) = false := decide_eq_false b1
          have c2 : decide (nl ≤ m) = false := decide_eq_false (by omega)
          have cw : IntKind.i64.wrap (kc + wi) = kc + wi := wrapI_id (by omega)
          have c3 : decide (kc < 0) = false := decide_eq_false b3
          have c4 : decide (wi < 1) = false := decide_eq_false b4
          have c5 : decide (xw < kc + wi) = false := decide_eq_false b5
          have c6 : decide (ln < 1) = false := decide_eq_false b6
          have c7 : decide ((nk : Int) < ln) = false := decide_eq_false b7
          clear hA hx2 hrd hsm hxl hxw hBN HB2 hlt hwid hj hx
          go_wp2_with fail
          try simp only [hW2, hcb]
          go_quiet ((go_at_call 12; with_reducible exact Calls.quiet_of_same (HWd.out _)))
          go_wp2_with fail
          have h7 : Below W2.heap.size W2 (W2.drewN nq) := ⟨rfl, rfl, rfl, Nat.le_refl _, fun _ _ => rfl⟩
          have hc7 : c < W2.heap.size := (Array.getElem?_eq_some_iff.1 HX2.out).1
          obtain ⟨W7, hW7⟩ : ∃ W7, W2.drewN nq = W7 := ⟨_, rfl⟩
          rw [hW7] at h7 ⊢
          have HB7 := Lib.hid (HB22.out.trans (h7.mono HB22.out.size))
          have y0 := (h7.cell (p := ⟨c, 0, none⟩) hc7).trans x0
          have y1 := (h7.cell (p := ⟨c, 1, none⟩) hc7).trans x1
          have y2 := (h7.cell (p := ⟨c, 2, none⟩) hc7).trans x2
          clear d0 d1 d2 d3 x0 x1 x2 x3 h7 hW7 hc7 hW2 hcb
          obtain ⟨d0, d1, d2, d3⟩ := HBX.out W7 HB7.out
          by_cases hj0 : j = 0
          · have c0 : decide (0 < j) = false := decide_eq_false (by omega)
            go_quiet (fail)
            go_wp2_with fail
            go_roundw
            case measure => have := HLT.out; simp [intOf]; omega
            case rel => exact ⟨j + 1, by go_num, HLT.out, Lib.hid (drewN_below HB7.out _)⟩
          · obtain ⟨m1, hm1⟩ : ∃ m1, j = m1 + 1 := ⟨j - 1, by omega⟩
            have c0 : decide (0 < j) = true := decide_eq_true (by omega)
            have kj : (j : Int) - 1 = (m1 : Nat) := by omega
            have kw : IntKind.i64.wrap ((j : Int) - 1) = (m1 : Nat) := by rw [kj]; exact wrapI_id (by omega)
            have hj2 : j < d.rects.length := by rw [HNR.out]; exact HLT.out
            have hml : m1 < d.rects.length := by omega
            have hor := List.pairwise_iff_getElem.1 HFL.out.ord m1 j hml hj2 (by omega)
            obtain ⟨g9, off9, hg9, -, p0, p1, p2', p3⟩ := (HD.out.rects.below HB7.out).at_ hml
            cases hg9
            obtain ⟨m2, hm2', er2, a21, a22, a23, a24, a25⟩ := HFL.out.each _ (List.getElem_mem hml)
            have hwid2 := HFL.out.wide _ (List.getElem_mem hm2')
            have hlen2 := HNL.out
            obtain ⟨⟨ro2, kc2, wi2, ln2⟩, hxp⟩ : ∃ x, d.rects[m1] = x := ⟨_, rfl⟩
            rw [hxp] at p0 p1 p2' p3 er2 a21 a22 a23 hor
            rw [hxr] at hor
            unfold RcOrd at hor
            dsimp only at p0 p1 p2' p3 er2 a21 a22 a23 hor
            subst er2
            have f1 : decide (m < m2) = false := decide_eq_false (by omega)
            have cw2 : IntKind.i64.wrap (kc2 + wi2) = kc2 + wi2 := wrapI_id (by omega)
            have m1j : m1 < nr := by omega
            have HLT2 := HLT.out
            by_cases hq : m2 = m
            · have f3 : decide (kc < kc2 + wi2) = false := decide_eq_false (by omega)
              have f2 : ((m2 : Int) == (m : Int)) = true := by rw [hq]; simp
              have f2' : (m2 == m) = true := by rw [hq]; simp
              clear hml hm2' hwid2 hxp hor hj2 a21 a22 a23 a24 a25 p3
              go_quiet (fail)
              go_wp2_with fail
              go_roundw
              case measure => have := HLT.out; simp [intOf]; omega
              case rel => exact ⟨j + 1, by go_num, HLT.out, Lib.hid (drewN_below HB7.out _)⟩
            · have f2 : ((m2 : Int) == (m : Int)) = false := by simp; omega
              have f2' : (m2 == m) = false := by simp; omega
              clear hml hm2' hwid2 hxp hor hj2 a21 a22 a23 a24 a25 p3
              go_quiet (fail)
              go_wp2_with fail
              go_roundw
              case measure => have := HLT.out; simp [intOf]; omega
              case rel => exact ⟨j + 1, by go_num, HLT.out, Lib.hid (drewN_below HB7.out _)⟩
        · obtain rfl : nr = j := by omega
          have hzk : ¬ (nr : Int) < nr := by omega
          obtain ⟨d0, d1, d2, d3⟩ := HBX.out wr HBr.out
          have HB8 := HBr
          obtain ⟨W8, hW8⟩ : ∃ W8, wr = W8 := ⟨_, rfl⟩
          rw [hW8] at HB8 d0 d1 d2 d3 ⊢
          clear hlt HBr hW8 hj
          go_wp2_with fail
          clear d0 d1 d2 d3
          go_loopw [156] (fun i wr => ∃ (k : Nat), i = .int .i64 k ∧ k ≤ nk ∧ Hid (Below W5.heap.size W5 wr)) (fun i _ => nk - (intOf i).toNat)
          case atStart => exact ⟨0, rfl, Nat.zero_le _, HB8⟩
          case round =>
            obtain ⟨j, rfl, hj, HBr⟩ := hrel
            by_cases hlt : j < nk
            · have hjl : j < d.links.length := by rw [HNK.out]; exact hlt
              obtain ⟨g, off, rfl, -, r0, r1⟩ := (HD.out.links.below HBr.out).cell hjl
              have ht := HFL.out.lnk _ (List.getElem_mem hjl)
              obtain ⟨⟨tk, tn⟩, hxr⟩ : ∃ x, d.links[j] = x := ⟨_, rfl⟩
              rw [hxr] at r0 r1 ht
              dsimp only at r0 r1 ht
              have hA := below_box wr (.cells #[.int .i64 tk, .int .i64 tn] 39)
              have HX2 := Lib.hid (heap_alloc_new wr (.cells #[.int .i64 tk, .int .i64 tn] 39))
              obtain ⟨W2, hW2⟩ : ∃ W2, wr.alloc (.cells #[.int .i64 tk, .int .i64 tn] 39) = W2 := ⟨_, rfl⟩
              obtain ⟨c, hcb⟩ : ∃ c, wr.heap.size = c := ⟨_, rfl⟩
              rw [hW2] at hA HX2
              have HB9 := Lib.hid (HBr.out.trans (hA.mono HBr.out.size))
              rw [hcb] at HX2
              have hx2 := HX2.out
              have x1 : W2.cell? ⟨c, 1, none⟩ = some (.int .i64 tn) := by rw [cell_of_row _ _ _ _ _ _ hx2]; rfl
              have b1 : ¬ tn < 0 := by omega
              have b2 : ¬ tp ≤ tn := by omega
              have k1 : (j : Int) < nk := by omega
              have HLT := Lib.hid hlt
              clear hA hx2 hlt hj hxr hjl ht
              go_wp2_with fail
              go_roundw
              case measure => have := HLT.out; simp [intOf]; omega
              case rel => exact ⟨j + 1, by go_num, HLT.out, HB9⟩
            · obtain rfl : nk = j := by omega
              have hzk : ¬ (nk : Int) < nk := by omega
              have HBF := Lib.hid (HB3.out.trans (HBr.out.mono HB3.out.size))
              clear hlt
              go_wp2_with fail
              go_ret
              exact ⟨rfl, HBF.out⟩
end Go.Proofs.YtjohhahfpgfjdaaGreatDoor.Tb
