/- Layer 13: the law LayoutPrefix. -/
import Derived.Test.YtjohhahfpgfjdaaGreatDoorKQf
import Derived.Test.YtjohhahfpgfjdaaGreatDoorKQy
import Derived.Test.YtjohhahfpgfjdaaGreatDoorKYh
namespace Go.Proofs.YtjohhahfpgfjdaaGreatDoor.Tb
open Go.RowKit Go.Maps
open Go.Proofs.YtjohhahfpgfjdaaGreatDoor.Ly (Tabs2 Tabs2.below)
set_option linter.unusedVariables false
set_option linter.unusedSimpArgs false
theorem tell_pre (y : Ly) (l : List Gl) : y.ls <+: (tellY y l).ls := by
  unfold tellY
  split
  · exact List.prefix_rfl
  · exact List.prefix_append _ _
theorem fold_pre {α : Type} (f : Ly → α → Ly) (hf : ∀ y a, y.ls <+: (f y a).ls) : ∀ (l : List α) (y : Ly), y.ls <+: (l.foldl f y).ls
  | [], y => List.prefix_rfl
  | a :: l, y => (hf y a).trans (fold_pre f hf l (f y a))
theorem settle_pre (y : Ly) : y.ls <+: (settleY y).ls := by
  unfold settleY
  split
  · exact List.prefix_rfl
  · exact tell_pre (freeY y) _
theorem line_pre (y : Ly) (l : List Gl) : y.ls <+: (lineY y l).ls := tell_pre (freeY y) _
theorem lines_pre (y : Ly) (ls : List (List Gl)) : y.ls <+: (linesY y ls).ls := by
  unfold linesY
  refine List.IsPrefix.trans ?_ (fold_pre lineY line_pre ls _)
  split
  · exact settle_pre y
  · exact List.prefix_rfl
theorem row_pre (y : Ly) : y.ls <+: (rowY y).ls := by
  unfold rowY
  split
  · exact List.prefix_rfl
  · exact fold_pre tellY tell_pre _ y
theorem step_pre (wd : Int) (ch : List S6.Chg) (y : Ly) (x : Opr) : y.ls <+: (takeY wd ch y x).ls := by
  show y.ls <+: (stepY wd ch y x).ls
  unfold stepY
  by_cases h8 : x.k = 8
  · rw [if_pos h8]
    unfold beginY layY
    dsimp only
    by_cases c : y.ah = 9 ∧ y.co.length = 0
    · rw [if_pos c]; exact tell_pre y []
    · rw [if_neg c]; exact List.prefix_rfl
  rw [if_neg h8]
  by_cases h1 : x.k = 1
  · rw [if_pos h1]
    exact List.prefix_rfl
  rw [if_neg h1]
  by_cases h6 : x.k = 6
  · rw [if_pos h6]
    exact List.prefix_rfl
  rw [if_neg h6]
  by_cases h7 : x.k = 7
  · rw [if_pos h7]
    exact List.prefix_rfl
  rw [if_neg h7]
  by_cases h2 : x.k = 2
  · rw [if_pos h2]
    exact List.prefix_rfl
  rw [if_neg h2]
  by_cases h3 : x.k = 3
  · rw [if_pos h3]
    exact List.prefix_rfl
  rw [if_neg h3]
  by_cases h4 : x.k = 4
  · rw [if_pos h4]
    exact List.prefix_rfl
  rw [if_neg h4]
  by_cases h5 : x.k = 5
  · rw [if_pos h5]
    unfold closeY
    split <;> exact List.prefix_rfl
  rw [if_neg h5]
  by_cases h9 : x.k = 9
  · rw [if_pos h9]
    unfold doneY
    by_cases c : y.co.length = 0
    · rw [if_pos c]; exact lines_pre (offY y) _
    · rw [if_neg c]; exact List.prefix_rfl
  rw [if_neg h9]
  by_cases h10 : x.k = 10
  · rw [if_pos h10]
    exact settle_pre y
  rw [if_neg h10]
  by_cases h11 : x.k = 11
  · rw [if_pos h11]
    exact settle_pre y
  rw [if_neg h11]
  by_cases h12 : x.k = 12
  · rw [if_pos h12]
    exact List.prefix_rfl
  rw [if_neg h12]
  by_cases h13 : x.k = 13
  · rw [if_pos h13]
    exact row_pre y
  rw [if_neg h13]
  by_cases h14 : x.k = 14
  · rw [if_pos h14]
    unfold endY
    by_cases c : y.co.length = 0
    · rw [if_pos c]; exact settle_pre y
    · rw [if_neg c]; exact row_pre y
  rw [if_neg h14]
  exact List.prefix_rfl
theorem run_pre (wd : Int) (ch : List S6.Chg) (l : List Opr) (k : Nat) : (runY wd ch (l.take k)).ls <+: (runY wd ch l).ls := by
  have h := fold_pre (takeY wd ch) (step_pre wd ch) (l.drop k) (runY wd ch (l.take k))
  unfold runY at h ⊢
  rwa [← List.foldl_append, List.take_append_drop] at h
/-- What LayoutPrefix asks of the two layouts. -/
structure PreL (d a : Ld) : Prop where
  num : a.lines.length ≤ 2000
  pre : d.lines <+: a.lines
theorem preL_of {sh : List S6.Sty} {l : List Opr} {tp wd : Int} {k : Nat} (h : layE sh l tp wd = 0) (hc : (Ir.chkM (l.take k) sh.length tp).2 = 0) : layE sh (l.take k) tp wd = 0 ∧ PreL (layL sh (l.take k) tp wd) (layL sh l tp wd) := by
  have e2 : layE sh (l.take k) tp wd = 0 := by
    have h' := h
    unfold layE at h' ⊢
    by_cases a : wd < 10 ∨ 200 < wd
    · rw [if_pos a] at h'; exact absurd h' (by decide)
    rw [if_neg a] at h' ⊢
    by_cases b : (S6.checkM sh).2 ≠ 0
    · rw [if_pos b] at h'; omega
    rw [if_neg b] at h' ⊢
    by_cases c : (Ir.chkM l sh.length tp).2 ≠ 0
    · rw [if_pos c] at h'; exact absurd h' c
    rw [if_neg c] at h'
    rw [if_neg (by simp [hc])]
    exact h'
  obtain ⟨e, hw, s, k', T, ho, hg⟩ := lay_g h
  refine ⟨e2, ?_, ?_⟩
  · rw [e]; exact ho.mok.ls
  · rw [e]
    unfold layL
    rw [if_pos e2]
    exact run_pre _ _ _ _
theorem rdO_take {P : Nat → Prop} {w : World} {pa : Option Addr} {n cap : Nat} {l : List Opr} (h : Ir.RdO P w (.slice pa n cap) l) {k : Nat} (hk : k ≤ n) : Ir.RdO P w (.slice pa k cap) (l.take k) := by
  obtain ⟨pa', cap', e, h1, h2, h4⟩ := h
  cases e
  have hl : (l.take k).length = k := by rw [List.length_take]; omega
  refine ⟨pa, cap, by rw [hl], by omega, h2, fun j hj => ?_⟩
  obtain ⟨b, off, e1, e2, e3⟩ := h4 j (by omega)
  exact ⟨b, off, e1, e2, by rw [List.getElem_take]; exact e3⟩
theorem tmod_three (x : Int) (n : Nat) : ∃ k : Nat, k ≤ n ∧ (x.tmod ((n : Int) + 1) + n + 1).tmod ((n : Int) + 1) = k ∧ -((n : Int) + 1) < x.tmod ((n : Int) + 1) ∧ x.tmod ((n : Int) + 1) < (n : Int) + 1 := by
  have h1 : x.tmod ((n : Int) + 1) < (n : Int) + 1 := Int.tmod_lt_of_pos x (by omega)
  have h2 : -((n : Int) + 1) < x.tmod ((n : Int) + 1) := by
    have h3 : (-x).tmod ((n : Int) + 1) < (n : Int) + 1 := Int.tmod_lt_of_pos (-x) (by omega)
    rw [Int.neg_tmod] at h3
    omega
  have h4 := Int.tmod_lt_of_pos (x.tmod ((n : Int) + 1) + n + 1) (show (0 : Int) < (n : Int) + 1 by omega)
  have h5 := Int.tmod_nonneg ((n : Int) + 1) (show 0 ≤ x.tmod ((n : Int) + 1) + n + 1 by omega)
  exact ⟨((x.tmod ((n : Int) + 1) + n + 1).tmod ((n : Int) + 1)).toNat, by omega, by omega, h2, h1⟩
set_option maxRecDepth 100000 in
set_option maxHeartbeats 8000000 in
theorem prefix_walk (v0 : Value) (sh : List S6.Sty) (v1 : Value) (l : List Opr) (tp wd at' : Int) (W : World) (hT : Tabs2 W) (hs : S6.Sh W v0 sh ∧ S6.Fit sh) (hl : Ir.RdO (fun _ => True) W v1 l) (hb : l.length ≤ 1048576 ∧ Ir.sumT l ≤ 1048576 ∧ ∀ x ∈ l, x.w.length ≤ 1048576) :
    Calls Tryz.prog 6 #[v0, v1, .int .i64 tp, .int .i64 wd, .int .i64 at'] W fun e W' => e = .returned (.bool true) ∧ Below W.heap.size W W' := by
  have HAW := Lib.hid (awake_law W hT.u hT.p)
  obtain ⟨hs, hf⟩ := hs
  obtain ⟨hb1, hb2, hb3⟩ := hb
  have HTW := Lib.hid (fun W2 (h2 : Below W.heap.size W W2) => Ir.twin_law l v1 W2 (hl.below h2) (by omega) (fun x hx => by have := hb3 x hx; omega))
  have HLY := Lib.hid (fun W2 (h2 : Below W.heap.size W W2) (v2 : Value) (B : Nat) (hr : Ir.RdO (B ≤ ·) W2 v2 l) => layout_pro sh l v0 v2 tp wd W2 (hs.below h2) hf hr (by unfold Ir.sizeOk; omega) (hT.u.below h2 (Nat.le_refl _)) (hT.p.below h2 (Nat.le_refl _)))
  have HTWk := Lib.hid (fun (k : Nat) (v : Value) (hv : Ir.RdO (fun _ => True) W v (l.take k)) W2 (h2 : Below W.heap.size W W2) => Ir.twin_law (l.take k) v W2 (hv.below h2) (by rw [List.length_take]; omega) (fun x hx => by have := hb3 x (List.mem_of_mem_take hx); omega))
  have HLYk := Lib.hid (fun (k : Nat) W2 (h2 : Below W.heap.size W W2) (v2 : Value) (B : Nat) (hr : Ir.RdO (B ≤ ·) W2 v2 (l.take k)) => layout_pro sh (l.take k) v0 v2 tp wd W2 (hs.below h2) hf hr (by have := Ir.sumT_le l k; unfold Ir.sizeOk; omega) (hT.u.below h2 (Nat.le_refl _)) (hT.p.below h2 (Nat.le_refl _)))
  have HCKk := Lib.hid (fun (k : Nat) (v : Value) (hv : Ir.RdO (fun _ => True) W v (l.take k)) W2 (h2 : Below W.heap.size W W2) => Ir.dcheck_ref (l.take k) v sh.length tp W2 (hv.below h2) (by have := Ir.sumT_le l k; omega))
  have HRk := Lib.hid hl
  obtain ⟨ps, cps, rfl, q1, q2⟩ := hs.form
  obtain ⟨pa, cap, rfl, hc1, hc2⟩ := hl.form
  unfold maxLen at hc2
  obtain ⟨n, hn⟩ : ∃ n, l.length = n := ⟨_, rfl⟩
  have HN := Lib.hid hn
  rw [hn] at HTW hc1 HRk ⊢
  have hN62 : n ≤ 9223372036854775807 := by omega
  by_cases h3 : 3000 < n
  · have h3i : (3000 : Int) < n := by omega
    clear hs hl hf hT hb1 hb2 hb3 hn h3 HTW HLY HTWk HLYk HCKk HRk
    go_enter Tryz.func6, Tryz.ntmps6
    go_wp2_with fail
    refine HAW.out.mono ?_
    rintro e w1 ⟨rfl, hb⟩
    have HB := Lib.hid hb
    clear hb
    go_wp2_with fail
    go_ret
    exact ⟨rfl, HB.out⟩
  have h3i : ¬ (3000 : Int) < n := by omega
  clear hs hl hf hT hb1 hb2 hb3 hn h3
  go_enter Tryz.func6, Tryz.ntmps6
  go_wp2_with fail
  refine HAW.out.mono ?_
  rintro e w1 ⟨rfl, hb⟩
  have HB := Lib.hid hb
  have HTW1 := Lib.hid (HTW.out w1 hb)
  clear hb HTW
  go_wp2_with fail
  refine HTW1.out.mono ?_
  rintro e w2 ⟨v2, ps2, rfl, ho2, hp2, hb2⟩
  have hB2 := HB.out.trans (hb2.mono HB.out.size)
  have HB2 := Lib.hid hB2
  have HLY2 := Lib.hid (HLY.out w2 hB2 v2 _ (twin_rd (w' := w2) ho2 hp2))
  obtain ⟨p2, c2, rfl⟩ := Ir.lenL ho2.row
  unfold LayIs at HLY2
  clear ho2 hb2 hB2 HLY
  go_wp2_with fail
  refine HLY2.out.mono ?_
  rintro e w3 ⟨vl, vr, vk, rfl, hD, hb3⟩
  have hB3 := HB2.out.trans (hb3.mono HB2.out.size)
  obtain ⟨z, hz⟩ : ∃ z, layE sh l tp wd = z := ⟨_, rfl⟩
  obtain ⟨d, hd⟩ : ∃ d, layL sh l tp wd = d := ⟨_, rfl⟩
  have HF := Lib.hid (fun (e : z = 0) (k : Nat) (hc : (Ir.chkM (l.take k) sh.length tp).2 = 0) => hd ▸ preL_of (k := k) (hz.trans e) hc)
  have HF0 := Lib.hid (fun (e : z = 0) => hd ▸ (fitL_of (hz.trans e)).1.num)
  rw [hd] at hD ⊢
  rw [hz]
  obtain ⟨pl, cl, rfl, -, -⟩ := hD.lines.form
  obtain ⟨pr, cr, rfl, -, -⟩ := hD.rects.form
  obtain ⟨pk, ck, rfl, -, -, -⟩ := hD.links
  unfold laidV
  obtain ⟨nl, hnl⟩ : ∃ nl, d.lines.length = nl := ⟨_, rfl⟩
  obtain ⟨nr, hnr⟩ : ∃ nr, d.rects.length = nr := ⟨_, rfl⟩
  obtain ⟨nk, hnk⟩ : ∃ nk, d.links.length = nk := ⟨_, rfl⟩
  have HNL := Lib.hid hnl
  have HNR := Lib.hid hnr
  have HNK := Lib.hid hnk
  rw [hnl, hnr, hnk] at hD ⊢
  have hA3 := below_box w3 (.cells #[.slice pl nl cl, .slice pr nr cr, .slice pk nk ck, .bool d.more] 29)
  have HX := Lib.hid (laid_cells w3 (.slice pl nl cl) (.slice pr nr cr) (.slice pk nk ck) d.more)
  have HD := Lib.hid (hD.below hA3)
  have HB3 := Lib.hid (hB3.trans (hA3.mono hB3.size))
  obtain ⟨mo, hmo⟩ : ∃ mo, d.more = mo := ⟨_, rfl⟩
  rw [hmo] at HX HD HB3 ⊢
  clear hD hb3 hB3 hA3 HLY2 hz hd hnl hnr hnk hmo HTW1
  by_cases hz0 : ¬ z = 0
  · have hzb : (z != 0) = true := by simpa using hz0
    go_wp2_with fail
    go_ret
    exact ⟨rfl, HB3.out⟩
  have hz0' : z = 0 := by omega
  have hzb : (z != 0) = false := by simpa using hz0'
  have HFL := Lib.hid (HF.out hz0')
  have hn2 : nl ≤ 2000 := by have := HF0.out hz0'; rw [HNL.out] at this; exact this
  have hx := HX.out
  have d0 : (w3.alloc (.cells #[.slice pl nl cl, .slice pr nr cr, .slice pk nk ck, .bool mo] 29)).cell? ⟨w3.heap.size, 0, none⟩ = some (.slice pl nl cl) := by
    rw [cell_of_row _ _ _ _ _ _ hx]; rfl
  obtain ⟨k, hk, hq1, hq2, hq3⟩ := tmod_three at' n
  have HKN := Lib.hid hk
  have hn3 : n ≤ 3000 := by omega
  obtain ⟨r, hr⟩ : ∃ r, at'.tmod ((n : Int) + 1) = r := ⟨_, rfl⟩
  rw [hr] at hq1 hq2 hq3
  have n0 : ((n : Int) + 1 == 0) = false := by simp; omega
  have kI : (k : Int) ≤ n := by omega
  have kC : k ≤ cap := by omega
  have kCI : (k : Int) ≤ cap := by omega
  have hcap62 : cap ≤ 9223372036854775807 := by omega
  have hRk := rdO_take HRk.out hk
  have HCK := Lib.hid (HCKk.out k _ hRk)
  have HTK := Lib.hid (HTWk.out k _ hRk)
  have HLK := Lib.hid (HLYk.out k)
  have hkl : (l.take k).length = k := by rw [List.length_take]; have := HN.out; omega
  obtain ⟨L, hL⟩ : ∃ L, l.take k = L := ⟨_, rfl⟩
  have HFK := Lib.hid (fun hc => HFL.out k hc)
  rw [hL] at HCK HTK HLK hkl HFK
  have HKL := Lib.hid hkl
  have HC3 := Lib.hid (HCK.out _ HB3.out)
  obtain ⟨⟨ci, cz⟩, hcz⟩ : ∃ c, Ir.chkM L sh.length tp = c := ⟨_, rfl⟩
  rw [hcz] at HC3
  have HCZ := Lib.hid hcz
  unfold Ir.ChkIs at HC3
  clear hz0 hz0' HF HF0 HFL hL hkl hRk HCK HCKk HTWk HLYk HRk hcz hk
  go_wp2_with fail
  refine HC3.out.mono ?_
  rintro e w5 ⟨rfl, hb5⟩
  have hb5' : Below (w3.alloc (.cells #[.slice pl nl cl, .slice pr nr cr, .slice pk nk ck, .bool mo] 29)).heap.size (w3.alloc (.cells #[.slice pl nl cl, .slice pr nr cr, .slice pk nk ck, .bool mo] 29)) w5 := hb5
  have HB5 := Lib.hid (HB3.out.trans (hb5.mono HB3.out.size))
  have HD5 := Lib.hid (HD.out.lines.below hb5)
  have HX5 := Lib.hid ((hb5.block w3.heap.size (Array.getElem?_eq_some_iff.1 HX.out).1).trans HX.out)
  clear hb5 hb5' d0 hx HC3 HX HB3 HD
  by_cases hc0 : ¬ cz = 0
  · have hcb : (cz != 0) = true := by simpa using hc0
    clear hc0
    go_wp2_with fail
    go_ret
    exact ⟨rfl, HB5.out⟩
  have hc0' : cz = 0 := by omega
  have hcb : (cz != 0) = false := by simpa using hc0'
  obtain ⟨hE2, hP⟩ := HFK.out (by rw [HCZ.out]; exact hc0')
  have HPR := Lib.hid hP
  have HE2 := Lib.hid hE2
  have HTK5 := Lib.hid (HTK.out w5 HB5.out)
  clear hc0 hc0' hE2 hP HFK HCZ HTK
  go_wp2_with fail
  refine HTK5.out.mono ?_
  rintro e w6 ⟨v6, ps6, rfl, ho6, hp6, hb6⟩
  have HB6 := Lib.hid (HB5.out.trans (hb6.mono HB5.out.size))
  have HLY6 := Lib.hid (HLK.out w6 HB6.out v6 _ (twin_rd (w' := w6) ho6 hp6))
  have HD6 := Lib.hid (HD5.out.below hb6)
  have HX6 := Lib.hid ((hb6.block w3.heap.size (Array.getElem?_eq_some_iff.1 HX5.out).1).trans HX5.out)
  obtain ⟨p6, c6, rfl⟩ := Ir.lenL ho6.row
  unfold LayIs at HLY6
  rw [HE2.out] at HLY6
  clear ho6 hb6 HLK HX5 HD5
  go_wp2_with fail
  refine HLY6.out.mono ?_
  rintro e w7 ⟨vl2, vr2, vk2, rfl, hD2, hb7⟩
  obtain ⟨d2, hd2⟩ : ∃ d2, layL sh L tp wd = d2 := ⟨_, rfl⟩
  rw [hd2] at hD2 HPR ⊢
  obtain ⟨pl2, cl2, rfl, -, -⟩ := hD2.lines.form
  obtain ⟨pr2, cr2, rfl, -, -⟩ := hD2.rects.form
  obtain ⟨pk2, ck2, rfl, -, -, -⟩ := hD2.links
  unfold laidV
  obtain ⟨nl2, hnl2⟩ : ∃ nl2, d2.lines.length = nl2 := ⟨_, rfl⟩
  obtain ⟨nr2, hnr2⟩ : ∃ nr2, d2.rects.length = nr2 := ⟨_, rfl⟩
  obtain ⟨nk2, hnk2⟩ : ∃ nk2, d2.links.length = nk2 := ⟨_, rfl⟩
  obtain ⟨mo2, hmo2⟩ : ∃ mo2, d2.more = mo2 := ⟨_, rfl⟩
  have HNL2 := Lib.hid hnl2
  rw [hnl2, hnr2, hnk2] at hD2
  rw [hnl2, hnr2, hnk2, hmo2]
  have hA7 := below_box w7 (.cells #[.slice pl2 nl2 cl2, .slice pr2 nr2 cr2, .slice pk2 nk2 ck2, .bool mo2] 29)
  have hX7 := heap_alloc_new w7 (.cells #[.slice pl2 nl2 cl2, .slice pr2 nr2 cr2, .slice pk2 nk2 ck2, .bool mo2] 29)
  have HL2 := Lib.hid (hD2.lines.below hA7)
  have HL1 := Lib.hid ((HD6.out.below hb7).below hA7)
  have HB7 := Lib.hid ((HB6.out.trans (hb7.mono HB6.out.size)).trans (hA7.mono (HB6.out.trans (hb7.mono HB6.out.size)).size))
  have hx1 := (hb7.block w3.heap.size (Array.getElem?_eq_some_iff.1 HX6.out).1).trans HX6.out
  have hx1' := (hA7.block w3.heap.size (Array.getElem?_eq_some_iff.1 hx1).1).trans hx1
  have HXA := Lib.hid hx1'
  have HXB := Lib.hid hX7
  have a0 : (w7.alloc (.cells #[.slice pl2 nl2 cl2, .slice pr2 nr2 cr2, .slice pk2 nk2 ck2, .bool mo2] 29)).cell? ⟨w3.heap.size, 0, none⟩ = some (.slice pl nl cl) := by rw [cell_of_row _ _ _ _ _ _ hx1']; rfl
  have b0 : (w7.alloc (.cells #[.slice pl2 nl2 cl2, .slice pr2 nr2 cr2, .slice pk2 nk2 ck2, .bool mo2] 29)).cell? ⟨w7.heap.size, 0, none⟩ = some (.slice pl2 nl2 cl2) := by rw [cell_of_row _ _ _ _ _ _ hX7]; rfl
  have hle : nl2 ≤ nl := by have := HPR.out.pre.length_le; rw [HNL.out, HNL2.out] at this; exact this
  have hleI : ¬ (nl : Int) < nl2 := by omega
  have hleN : ¬ nl < nl2 := by omega
  have HLE := Lib.hid hle
  have hnl62 : nl2 ≤ 9223372036854775807 := by omega
  clear hD2 hA7 hX7 hb7 hx1 hx1' hd2 hnl2 hnr2 hnk2 hmo2 HLY6 hle
  go_wp2_with fail
  obtain ⟨b, hbb⟩ : ∃ b, w3.heap.size = b := ⟨_, rfl⟩
  obtain ⟨b2, hbb2⟩ : ∃ b2, w7.heap.size = b2 := ⟨_, rfl⟩
  obtain ⟨W7, hW7⟩ : ∃ W7, w7.alloc (.cells #[.slice pl2 nl2 cl2, .slice pr2 nr2 cr2, .slice pk2 nk2 ck2, .bool mo2] 29) = W7 := ⟨_, rfl⟩
  rw [hW7] at a0 b0 HL1 HL2 HB7 HXA HXB
  rw [hbb] at a0 HXA
  rw [hbb2] at b0 HXB
  try rw [hbb]
  try rw [hbb2]
  try rw [hW7]
  clear hW7 hbb hbb2
  go_loopw [83] (fun i wr => ∃ (j : Nat), i = .int .i64 j ∧ j ≤ nl2 ∧ Hid (Below W7.heap.size W7 wr)) (fun i _ => nl2 - (intOf i).toNat)
  case atStart => exact ⟨0, rfl, Nat.zero_le _, Lib.hid (Below.refl _ _)⟩
  case round =>
    obtain ⟨j, rfl, hj, HBr⟩ := hrel
    by_cases hlt : j < nl2
    · have hjl2 : j < d2.lines.length := by rw [HNL2.out]; exact hlt
      have hjl : j < d.lines.length := by rw [HNL.out]; have := HLE.out; omega
      have hxa := (HBr.out.block b (Array.getElem?_eq_some_iff.1 HXA.out).1).trans HXA.out
      have hxb := (HBr.out.block b2 (Array.getElem?_eq_some_iff.1 HXB.out).1).trans HXB.out
      have u0 : wr.cell? ⟨b, 0, none⟩ = some (.slice pl nl cl) := by rw [cell_of_row _ _ _ _ _ _ hxa]; rfl
      have u1 : wr.cell? ⟨b2, 0, none⟩ = some (.slice pl2 nl2 cl2) := by rw [cell_of_row _ _ _ _ _ _ hxb]; rfl
      obtain ⟨g, off, pt, ct, hpl, -, e0, -, -, hrd⟩ := (HL1.out.below HBr.out).at_ hjl
      obtain ⟨g2, off2, pt2, ct2, hpl2, -, e2, -, -, hrd2⟩ := (HL2.out.below HBr.out).at_ hjl2
      subst hpl
      subst hpl2
      have heq : d2.lines[j]'hjl2 = d.lines[j]'hjl := HPR.out.pre.getElem hjl2
      rw [heq] at e2 hrd2
      obtain ⟨x, hx⟩ : ∃ x, d.lines[j]'hjl = x := ⟨_, rfl⟩
      rw [hx] at e0 e2 hrd hrd2
      obtain ⟨xl, hxl⟩ : ∃ xl, x.length = xl := ⟨_, rfl⟩
      rw [hxl] at e0 e2 hrd hrd2
      have HSL := Lib.hid (fun (W8 : World) (h8 : Below wr.heap.size wr W8) => sameLine_ref x x _ _ W8 (hrd2.below h8) (hrd.below h8))
      have k1 : (j : Int) < nl2 := by omega
      have k2 : (j : Int) < nl := by have := HLE.out; omega
      have k3 : j < nl := by have := HLE.out; omega
      have HLT := Lib.hid hlt
      have HS0 := Lib.hid (show wr.drew.cell? ⟨b, 0, none⟩ = some (.slice (some ⟨g, off, none⟩) nl cl) ∧ wr.drew.cell? ⟨b2, 0, none⟩ = some (.slice (some ⟨g2, off2, none⟩) nl2 cl2) ∧ wr.drew.cell? ⟨g, off + j, none⟩ = some (.slice pt xl ct) ∧ wr.drew.cell? ⟨g2, off2 + j, none⟩ = some (.slice pt2 xl ct2) ∧ Below wr.heap.size wr wr.drew from ⟨u0, u1, e0, e2, (Below.refl _ _).drew⟩)
      clear hxa hxb heq hx hxl hrd hrd2 hjl hjl2 hlt
      go_upto_region 18 with fail
      go_region_held3 (fun w' => w'.cell? ⟨b, 0, none⟩ = some (.slice (some ⟨g, off, none⟩) nl cl) ∧ w'.cell? ⟨b2, 0, none⟩ = some (.slice (some ⟨g2, off2, none⟩) nl2 cl2) ∧ w'.cell? ⟨g, off + j, none⟩ = some (.slice pt xl ct) ∧ w'.cell? ⟨g2, off2 + j, none⟩ = some (.slice pt2 xl ct2) ∧ Below wr.heap.size wr w')
        (first | exact HS0.out | assumption | exact ⟨(h8.cell (p := ⟨b, 0, none⟩) (cellInL HS0.out.1)).trans HS0.out.1, (h8.cell (p := ⟨b2, 0, none⟩) (cellInL HS0.out.2.1)).trans HS0.out.2.1, (h8.cell (p := ⟨g, off + j, none⟩) (cellInL HS0.out.2.2.1)).trans HS0.out.2.2.1, (h8.cell (p := ⟨g2, off2 + j, none⟩) (cellInL HS0.out.2.2.2.1)).trans HS0.out.2.2.2.1, HS0.out.2.2.2.2.trans (h8.mono HS0.out.2.2.2.2.size)⟩)
        ((first
          | (go_at_call 18; refine (HSL.out _ ((by assumption : _ ∧ _ ∧ _ ∧ _ ∧ Below wr.heap.size wr _).2.2.2.2)).mono ?_; rintro e w8 ⟨rfl, h8⟩)))
      rename_i K hK hHeld
      have hh : Below wr.heap.size wr w8 := hHeld.2.2.2.2
      simp only [Exit.then]
      refine hK _ _ ?_
      clear hK K hHeld
      have HB8 := Lib.hid (HBr.out.trans (hh.mono HBr.out.size))
      clear hh h8 u0 u1 e0 e2
      go_wp2_with fail
      go_roundw
      case measure => have := HLT.out; simp [intOf]; omega
      case rel => exact ⟨j + 1, by go_num, HLT.out, HB8⟩
    · obtain rfl : nl2 = j := by omega
      have hzk : ¬ (nl2 : Int) < nl2 := by omega
      have HBF := Lib.hid (HB7.out.trans (HBr.out.mono HB7.out.size))
      clear hlt
      go_wp2_with fail
      go_ret
      exact ⟨rfl, HBF.out⟩
end Go.Proofs.YtjohhahfpgfjdaaGreatDoor.Tb
