/- The document's Way of layer 8. -/
import Derived.Test.YtjgcbobalmmjkaaLke
namespace Go.Proofs.Ytjgcbobalmmjkaa
open Go.RowKit Go.Maps Go.Sort
set_option linter.unusedVariables false
theorem way_far {g : Nat → Nat → Bool} {x y : Nat} : ∀ (m : Nat) (p : List Nat), Bf.Way g x y p → p.length = m + 1 → ∃ d, Bf.Far g x y d := by
  intro m
  induction m using Nat.strongRecOn with
  | _ m ih =>
    intro r hr hl
    by_cases hx : ∀ s, Bf.Way g x y s → m + 1 ≤ s.length
    · exact ⟨m, ⟨r, hr, hl⟩, hx⟩
    · have ⟨s, hs⟩ := Classical.not_forall.1 hx
      have ⟨hs1, hs2⟩ := Classical.not_imp.1 hs
      have hsl : 0 < s.length := by
        rcases s with _ | ⟨a, s⟩
        · exact hs1.1.elim
        · simp
      exact ih (s.length - 1) (by omega) s hs1 (by omega)
theorem far_ex {g : Nat → Nat → Bool} {x y : Nat} (h : ∃ p, Bf.Way g x y p) : ∃ d, Bf.Far g x y d := by
  obtain ⟨p, hp⟩ := h
  have : 0 < p.length := by
    rcases p with _ | ⟨a, s⟩
    · exact hp.1.elim
    · simp
  exact way_far (p.length - 1) p hp (by omega)
/-- What the document's Way answers. -/
def WayD (l : List Rf) (n i k : Int) (w : World) (e : Ending) (w' : World) : Prop :=
  (lookE l.length n [i, k] ≠ 0 ∧ NewL [] (lookE l.length n [i, k]) w e w') ∨
  (lookE l.length n [i, k] = 0 ∧ (¬ ∃ p, Bf.Way (gEdge l n.toNat) i.toNat k.toNat p) ∧ NewL [] 3 w e w') ∨
  (lookE l.length n [i, k] = 0 ∧ ∃ p, Bf.FirstWay (gEdge l n.toNat) i.toNat k.toNat p ∧ NewL p 0 w e w')
theorem Bf.Greedy.len_pos {g : Nat → Nat → Bool} {x z a d D : Nat} {out : List Nat} (h : Bf.Greedy g x z out a d D) : 0 < out.length := by
  have := h.way.1
  rcases out with _ | ⟨b, s⟩
  · exact this.elim
  · simp
theorem below_drewN (w : World) (n : Nat) {B : Nat} (hB : B ≤ w.heap.size) : Below B w (w.drewN n) := ⟨rfl, rfl, rfl, Nat.le_refl _, fun _ _ => rfl⟩
theorem own_one (w : World) (x : Nat) : (w.alloc (.cells #[.int .i64 (x : Nat)] 3)).ownsRow w.heap.size 3 1 (.slice (some ⟨w.heap.size, 0, none⟩) 1 1) [x].length (numsV [x]) :=
  ⟨rfl, .inr ⟨w.heap.size, 1, _, rfl, Nat.le_refl _, World.alloc_heap_new w _, Nat.le_refl _, by decide, rfl, rfl⟩⟩
set_option maxRecDepth 100000 in
set_option maxHeartbeats 8000000 in
theorem way_doc (l : List Rf) (v : Value) (n i k : Int) (w : World) (hv : RdR w v l) (hl : l.length ≤ 140737488355328) :
    Calls Try.prog 18 #[v, .int .i64 n, .int .i64 i, .int .i64 k] w (WayD l n i k w) := by
  obtain ⟨pa, cap, rfl, hcl, hcm⟩ := hv.form
  obtain ⟨i0, hi0, hz0, hz1, hz2⟩ := info_parts infoI
  have hA : Below w.heap.size w (w.alloc (.cells #[.int .i64 i, .int .i64 k] 3)) := (Below.refl _ w).alloc (Nat.le_refl _) _
  have hq := grid_pro l (.slice pa l.length cap) n (.slice (some ⟨w.heap.size, 0, none⟩) 2 2) [i, k] (w.alloc (.cells #[.int .i64 i, .int .i64 k] 3)) (hv.below hA) hl (rdZ_two w i k 2) (by simp)
  have HQ := Lib.hid hq
  have HA := Lib.hid hA
  clear hv hq hA hcl hcm hl
  by_cases h0 : lookE l.length n [i, k] = 0
  case neg =>
    obtain ⟨er, her⟩ : ∃ er, lookE l.length n [i, k] = er := ⟨_, rfl⟩
    have HER := Lib.hid her
    rw [her] at h0
    have t1 : (er != 0) = true := by simpa using h0
    have H0 := Lib.hid h0
    clear h0 her
    go_enter Try.func18, Try.ntmps18
    go_wp2_with fail
    refine HQ.out.mono ?_
    rintro e w2 (⟨h0, rfl, hb⟩ | ⟨h0, S, rows, rfl, hb, hg⟩)
    · have HB := Lib.hid (HA.out.trans (hb.mono (by simp)))
      rw [HER.out]
      clear hb h0 HQ
      go_wp2_with fail
      go_ret2
      exact .inl ⟨by rw [HER.out]; exact H0.out, by rw [HER.out]; exact NewL.none _ _ _ HB.out⟩
    · exact absurd (HER.out.symm.trans h0) H0.out
  case pos =>
    obtain ⟨h1, N, I, K, rfl, rfl, rfl, h2, h3, h4⟩ := look_ok2 h0
    have H0 := Lib.hid h0
    have HI := Lib.hid h3
    have HK := Lib.hid h4
    have iN : (I : Int) < N := by omega
    clear h0 h1 h3 h4
    go_enter Try.func18, Try.ntmps18
    go_wp2_with fail
    refine HQ.out.mono ?_
    rintro e w2 (⟨h0, rfl, hb⟩ | ⟨h0, S, rows, rfl, hb, hg⟩)
    · exact absurd H0.out h0
    simp only [Int.toNat_natCast] at hg ⊢
    have HB := Lib.hid (HA.out.trans (hb.mono (by simp)))
    have HGR := Lib.hid hg
    have HFD := Lib.hid (far_doc l S rows N K w2 hg h2 HK.out)
    clear hb h0 HQ hg
    go_wp2_with fail
    refine HFD.out.mono ?_
    rintro e w3 ⟨f, rfl, hvf, hb3, hfa⟩
    have HV := Lib.hid hvf
    have HB3 := Lib.hid (HB.out.trans (hb3.mono HB.out.size))
    have HG3 := Lib.hid (HGR.out.below hb3)
    have HFA := Lib.hid hfa
    have cI := hvf.cell HI.out
    obtain ⟨z, hz⟩ : ∃ z, f I = z := ⟨_, rfl⟩
    simp only [hz] at cI
    have HZ := Lib.hid hz
    have hzz := (hfa I HI.out).2
    rw [hz] at hzz
    have hsz3 : w.heap.size ≤ w3.heap.size := HB3.out.size
    have HS3 := Lib.hid hsz3
    obtain ⟨B, hB⟩ : ∃ B, w2.heap.size = B := ⟨_, rfl⟩
    rw [hB] at HV cI ⊢
    clear hvf hb3 hfa HFD HGR HB hz hsz3 hB
    rcases hzz with rfl | ⟨D, hD, rfl⟩
    · have HNO := Lib.hid (show ¬ ∃ p, Bf.Way (gEdge l N) I K p from fun h => by
        obtain ⟨d, hd⟩ := far_ex h
        have := ((HFA.out I HI.out).1 d).2 hd
        rw [HZ.out] at this
        omega)
      go_wp2_with fail
      go_ret2
      exact .inr (.inl ⟨H0.out, HNO.out, NewL.none _ _ _ HB3.out⟩)
    · have HD := Lib.hid (((HFA.out I HI.out).1 D).1 HZ.out)
      have hD0 : ¬ ((D : Int) < 0) := by omega
      go_wp2_with fail
      have HO0 := Lib.hid (own_one w3 I)
      have HB0 := Lib.hid ((Below.refl w3.heap.size w3).alloc (Nat.le_refl _) (.cells #[.int .i64 (I : Nat)] 3))
      obtain ⟨w4, hw4⟩ : ∃ w4, w3.alloc (.cells #[.int .i64 (I : Nat)] 3) = w4 := ⟨_, rfl⟩
      rw [hw4] at HO0 HB0 ⊢
      clear hw4 cI
      go_loopg [13, 14] D (fun d s13 s14 wx => ∃ (ws : List Nat) (x : Nat), s14 = .int .i64 (x : Nat) ∧ Hid (Bf.Greedy (gEdge l N) I K ws x d D) ∧ Hid (x < N) ∧ Hid (wx.ownsRow w3.heap.size 3 1 s13 ws.length (numsV ws)) ∧ Hid (Below w3.heap.size w3 wx))
      case atStart => exact ⟨[I], I, rfl, Lib.hid (Bf.Greedy.start HD.out), HI, HO0, HB0⟩
      case round =>
        obtain ⟨ws, x, rfl, HGD, HX, HO, HBx⟩ := hrel
        by_cases hxK : x = K
        · have t1 : ((x : Int) != K) = false := by simp [hxK]
          have HXK := Lib.hid hxK
          clear hxK
          go_wp2_with fail
          go_ret2
          have hfar := HGD.out.far
          rw [HXK.out] at hfar
          have hd0 := hfar.one (Bf.Far.zero _ _)
          have hgd := HGD.out
          rw [hd0] at hgd
          exact .inr (.inr ⟨H0.out, ws, (hgd.done HD.out).2, _, rfl, ownsRow_low HO.out HS3.out, HB3.out.trans (HBx.out.mono HS3.out)⟩)
        · have hd0 : gk ≠ 0 := fun e => hxK (by
            have h := HGD.out.far
            rw [e] at h
            exact Bf.far_zero h)
          obtain ⟨d, rfl⟩ : ∃ d, gk = d + 1 := ⟨gk - 1, by omega⟩
          have t1 : ((x : Int) != K) = true := by simp; omega
          have HLEN := Lib.hid HGD.out.len
          have hxf := ((HFA.out x HX.out).1 (d + 1)).2 HGD.out.far
          have hdb : d ≤ 2000 := by have := HLEN.out; have := HGD.out.len; have := Bf.Greedy.len_pos HGD.out; omega
          obtain ⟨q, hq⟩ : ∃ q, f x = q := ⟨_, rfl⟩
          have HXQ := Lib.hid hq
          have hqd : q = (d : Int) + 1 := by rw [← hq, hxf]; omega
          have v1 : IntKind.i64.wrap (q - 1) = (d : Int) := by rw [IntWalk.i64_in _ (by omega)]; omega
          have hx1 : (x : Int) < N := by have := HX.out; omega
          obtain ⟨wo, hwo⟩ : ∃ wo, wr = wo := ⟨_, rfl⟩
          rw [hwo] at HO HBx ⊢
          clear hd0 hxK hxf hq hqd hwo
          go_wp2_with fail
          go_loopw [15, 16] (fun s15 s16 wy => ∃ k : Nat, s16 = .int .i64 (k : Nat) ∧ k ≤ N ∧ ((s15 = .int .i64 (-1) ∧ Hid (∀ y, y < k → edge l N x y = true → f y ≠ d)) ∨ (∃ y0 : Nat, s15 = .int .i64 (y0 : Nat) ∧ Hid (edge l N x y0 = true ∧ f y0 = d ∧ ∀ y, y < y0 → edge l N x y = true → f y ≠ d))) ∧ Hid (Below wo.heap.size wo wy)) (fun _ i _ => N - (intOf i).toNat)
          case atStart => exact ⟨0, rfl, Nat.zero_le _, .inl ⟨rfl, Lib.hid (fun y h => absurd h (Nat.not_lt_zero _))⟩, Lib.hid (Below.refl _ _)⟩
          case round =>
            obtain ⟨k, rfl, hk, hor, HBy⟩ := hrel
            rcases hor with ⟨rfl, HNO⟩ | ⟨y0, rfl, HY⟩
            · by_cases hkn : k < N
              · have hk1 : (k : Int) < N := by omega
                have HKN := Lib.hid hkn
                have hb3 := HBx.out.trans (HBy.out.mono HBx.out.size)
                have hgr := HG3.out.below hb3
                have hvr := HV.out.below hb3
                have ct := (hgr x HX.out).1
                have cr := (hgr x HX.out).2 k hkn
                have ck := hvr.cell hkn
                have cx := hvr.cell HX.out
                obtain ⟨e, he⟩ : ∃ e, edge l N x k = e := ⟨_, rfl⟩
                obtain ⟨z, hz⟩ : ∃ z, f k = z := ⟨_, rfl⟩
                have hfx := HXQ.out
                rw [he] at cr
                simp only [hz] at ck
                simp only [hfx] at cx
                have HE := Lib.hid he
                have HZK := Lib.hid hz
                clear hb3 hgr hvr he hz hfx hkn
                cases e with
                | false =>
                  go_wp2_with fail
                  go_quiet (fail)
                  go_wp2_with fail
                  go_roundw
                  case measure => have := HKN.out; first | (simp [intOf]; done) | (simp [intOf]; omega)
                  case rel => exact ⟨k + 1, by go_num, by have := HKN.out; omega, .inl ⟨rfl, Lib.hid (fun y hy hg => by
                    rcases Nat.lt_or_eq_of_le (Nat.le_of_lt_succ hy) with h1 | rfl
                    · exact HNO.out y h1 hg
                    · rw [HE.out] at hg; cases hg)⟩, Lib.hid (HBy.out.trans (below_drewN _ _ HBy.out.size))⟩
                | true =>
                  by_cases hzd : z = d
                  · have t2 : (z == (d : Int)) = true := by simp [hzd]
                    have HZD := Lib.hid hzd
                    clear hzd
                    go_wp2_with fail
                    go_quiet (fail)
                    go_wp2_with fail
                    go_roundw
                    case measure => have := HKN.out; first | (simp [intOf]; done) | (simp [intOf]; omega)
                    case rel => exact ⟨k + 1, by go_num, by have := HKN.out; omega, .inr ⟨k, rfl, Lib.hid ⟨HE.out, by rw [HZK.out]; exact HZD.out, HNO.out⟩⟩, Lib.hid (HBy.out.trans (below_drewN _ _ HBy.out.size))⟩
                  · have t2 : (z == (d : Int)) = false := by simpa using hzd
                    have HZD := Lib.hid hzd
                    clear hzd
                    go_wp2_with fail
                    go_quiet (fail)
                    go_wp2_with fail
                    go_roundw
                    case measure => have := HKN.out; first | (simp [intOf]; done) | (simp [intOf]; omega)
                    case rel => exact ⟨k + 1, by go_num, by have := HKN.out; omega, .inl ⟨rfl, Lib.hid (fun y hy hg => by
                      rcases Nat.lt_or_eq_of_le (Nat.le_of_lt_succ hy) with h1 | rfl
                      · exact HNO.out y h1 hg
                      · rw [HZK.out]; exact HZD.out)⟩, Lib.hid (HBy.out.trans (below_drewN _ _ HBy.out.size))⟩
              · exfalso
                obtain ⟨y, hg, hf⟩ := HGD.out.far.step
                have hy := (edge_lt hg).2
                exact HNO.out y (by omega) hg (((HFA.out y hy).1 d).2 hf)
            · have hyN := (edge_lt HY.out.1).2
              have hy0 : ¬ ((y0 : Int) < 0) := by omega
              have HGN := Lib.hid (Bf.Greedy.step HGD.out (k := y0) HY.out.1 (((HFA.out y0 hyN).1 d).1 HY.out.2.1) (fun y hg hf => Nat.le_of_not_lt fun hlt => HY.out.2.2 y hlt hg (((HFA.out y (edge_lt hg).2).1 d).2 hf)))
              have HYN := Lib.hid hyN
              have HO6 := Lib.hid (own_stays HO.out (fun c e => HBy.out.block c (own_base HO.out e).2))
              have HB6 := Lib.hid (HBx.out.trans (HBy.out.mono HBx.out.size))
              have M1 := Lib.hid (show ws.length + 1 ≤ maxLen by unfold maxLen; have := HLEN.out; omega)
              have M2 := Lib.hid (show (ws.length + 1) * 8 ≤ 140737488355328 by have := HLEN.out; omega)
              have M3 := Lib.hid (show w3.heap.size ≤ (wr.alloc (.cells #[.int .i64 (y0 : Nat)] 3)).heap.size by have := HB6.out.size; simp; omega)
              clear hyN
              by_cases hkn : (k : Int) < N
              · go_wp2_with (at_builtin; go_loud (refine wpList_append_own_at _ rfl _ _ 23 rfl w3.heap.size 3 i0 (.int .i64 0) 1 8 Try.underlying23 hi0 hz0 hz1 hz2 rfl (by decide) _ _ _ rfl (HO6.out.alloc _) ⟨wr.heap.size, 0, none⟩ 1 1 [.int .i64 (y0 : Nat)] rfl rfl (cells_newL _ _ _) (numsV_one [y0]) M1.out M2.out M3.out ?_); intro v' w7 hown' hgrow _ hat; obtain ⟨g', cap', rfl⟩ := ownsRow_succ hown'; have HO7 := Lib.hid hown'; have HG7 := Lib.hid hgrow; clear hown' hgrow hat)
                go_roundg d
                case measure => omega
                case rel => exact ⟨ws ++ [y0], y0, rfl, HGN, HYN, Lib.hid (by rw [List.length_append, numsV_app]; exact HO7.out), Lib.hid ((HB6.out.alloc HB6.out.size _).grown HG7.out (by have := HB6.out.size; simp; omega) (fun r e => (own_base HO6.out e).1))⟩
              · go_wp2_with (at_builtin; go_loud (refine wpList_append_own_at _ rfl _ _ 23 rfl w3.heap.size 3 i0 (.int .i64 0) 1 8 Try.underlying23 hi0 hz0 hz1 hz2 rfl (by decide) _ _ _ rfl (HO6.out.alloc _) ⟨wr.heap.size, 0, none⟩ 1 1 [.int .i64 (y0 : Nat)] rfl rfl (cells_newL _ _ _) (numsV_one [y0]) M1.out M2.out M3.out ?_); intro v' w7 hown' hgrow _ hat; obtain ⟨g', cap', rfl⟩ := ownsRow_succ hown'; have HO7 := Lib.hid hown'; have HG7 := Lib.hid hgrow; clear hown' hgrow hat)
                go_roundg d
                case measure => omega
                case rel => exact ⟨ws ++ [y0], y0, rfl, HGN, HYN, Lib.hid (by rw [List.length_append, numsV_app]; exact HO7.out), Lib.hid ((HB6.out.alloc HB6.out.size _).grown HG7.out (by have := HB6.out.size; simp; omega) (fun r e => (own_base HO6.out e).1))⟩
end Go.Proofs.Ytjgcbobalmmjkaa
