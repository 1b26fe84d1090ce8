/- The document's Reach of layer 8. -/
import Derived.Test.YtjgcbobalmmjkaaLkc
namespace Go.Proofs.Ytjgcbobalmmjkaa
open Go.RowKit Go.Maps Go.Sort
set_option linter.unusedVariables false
/-- How many are not in. -/
def cntF : Nat → (Nat → Bool) → Nat
  | 0, _ => 0
  | n + 1, f => cntF n f + if f n then 0 else 1
theorem cntF_le : ∀ {n : Nat} {f f' : Nat → Bool}, (∀ k, k < n → f k = true → f' k = true) → cntF n f' ≤ cntF n f
  | 0, _, _, _ => Nat.le_refl _
  | n + 1, f, f', h => by
    have h1 := cntF_le (n := n) (f := f) (f' := f') fun k hk => h k (by omega)
    have h2 := h n (by omega)
    unfold cntF
    cases e : f n <;> cases e' : f' n <;> simp_all <;> omega
theorem cntF_lt : ∀ {n : Nat} {f f' : Nat → Bool} {k : Nat}, (∀ k, k < n → f k = true → f' k = true) → k < n → f k = false → f' k = true → cntF n f' < cntF n f
  | 0, _, _, _, _, h, _, _ => absurd h (Nat.not_lt_zero _)
  | n + 1, f, f', k, h, hk, h1, h2 => by
    unfold cntF
    by_cases e : k = n
    · subst e
      have h3 := cntF_le (n := k) (f := f) (f' := f') fun j hj => h j (by omega)
      rw [h1, h2]
      simp
      omega
    · have h3 := cntF_lt (n := n) (f := f) (f' := f') (fun j hj => h j (by omega)) (show k < n by omega) h1 h2
      have h4 := h n (by omega)
      cases e : f n <;> cases e' : f' n <;> simp_all <;> omega
theorem reach_of {g : Nat → Nat → Bool} {N I : Nat} {f : Nat → Bool} (hg : ∀ a b, g a b = true → b < N) (hI : f I = true) (hN : I < N) (hcl : ∀ a b, a < N → b < N → f a = true → g a b = true → f b = true) (hw : ∀ x, x < N → f x = true → ∃ p, Bf.Way g I x p) (x : Nat) :
    x ∈ (List.range N).filter f ↔ ∃ p, Bf.Way g I x p := by
  rw [List.mem_filter, List.mem_range]
  constructor
  · intro h; exact hw x h.1 h.2
  · rintro ⟨p, hp⟩
    exact closed_way (C := fun x => x < N ∧ f x = true) (fun a b hab ha => ⟨hg a b hab, hcl a b ha.1 (hg a b hab) ha.2 hab⟩) p hp ⟨hN, hI⟩
/-- One more is in. -/
def setF (f : Nat → Bool) (k : Nat) : Nat → Bool := fun j => if j = k then true else f j
theorem start_one (W : World) (N I : Nat) : Vec (W.alloc (.cells ((madeCells #[.bool false] N).setIfInBounds I (.bool true)) 4)) W.heap.size 4 N (fun k => .bool (setF (fun _ => false) I k)) := by
  refine ⟨_, World.alloc_heap_new W _, by simp [size_madeCells], fun j hj => ?_⟩
  unfold setF
  by_cases e : j = I
  · subst e
    rw [Array.getElem?_setIfInBounds_self_of_lt (by simpa [size_madeCells] using hj)]
    simp
  · rw [Array.getElem?_setIfInBounds_ne (fun h => e h.symm)]
    unfold madeCells
    simp [hj, e, Nat.mod_one]
theorem way_snoc' {g : Nat → Nat → Bool} {x y z : Nat} {q : List Nat} (h : Bf.Way g x y q) (hg : g y z = true) : Bf.Way g x z (q ++ [z]) := by
  refine ⟨Bf.path_snoc h.1 h.2.2 hg, ?_, by simp⟩
  have := h.2.1
  cases q
  · cases this
  · exact this
set_option maxRecDepth 100000 in
set_option maxHeartbeats 8000000 in
theorem reach_doc (l : List Rf) (v : Value) (n i : Int) (w : World) (hv : RdR w v l) (hl : l.length ≤ 140737488355328) :
    Calls Try.prog 16 #[v, .int .i64 n, .int .i64 i] w (ReachIs l n i w) := by
  obtain ⟨pa, cap, rfl, hcl, hcm⟩ := hv.form
  obtain ⟨i0, hi0, hz0, hz1, hz2⟩ := info_parts infoI
  have hA : Below w.heap.size w (w.alloc (.cells #[.int .i64 i] 3)) := (Below.refl _ w).alloc (Nat.le_refl _) _
  have hq := grid_pro l (.slice pa l.length cap) n (.slice (some ⟨w.heap.size, 0, none⟩) 1 1) [i] (w.alloc (.cells #[.int .i64 i] 3)) (hv.below hA) hl (rdZ_one _ _ _ (Boxed.new w 3 (.int .i64 i)).cell _) (by simp)
  have HQ := Lib.hid hq
  have HA := Lib.hid hA
  clear hv hq hA hcl hcm hl
  by_cases h0 : lookE l.length n [i] = 0
  case neg =>
    obtain ⟨er, her⟩ : ∃ er, lookE l.length n [i] = er := ⟨_, rfl⟩
    have HER := Lib.hid her
    rw [her] at h0
    have t1 : (er != 0) = true := by simpa using h0
    have H0 := Lib.hid h0
    clear h0 her
    go_enter Try.func16, Try.ntmps16
    go_wp2_with fail
    refine HQ.out.mono ?_
    rintro e w2 (⟨h0, rfl, hb⟩ | ⟨h0, S, rows, rfl, hb, hg⟩)
    · have HB := Lib.hid (HA.out.trans (hb.mono (by simp)))
      rw [HER.out]
      clear hb h0 HQ
      go_wp2_with fail
      go_ret2
      exact ⟨[], by rw [HER.out]; exact NewL.none _ _ _ HB.out, fun _ => rfl, fun h => absurd (HER.out.symm.trans h) H0.out⟩
    · exact absurd (HER.out.symm.trans h0) H0.out
  case pos =>
    obtain ⟨h1, N, I, rfl, rfl, h2, h3⟩ := look_ok h0
    have H0 := Lib.hid h0
    have HI := Lib.hid h3
    have iN : (I : Int) < N := by omega
    clear h0 h1
    go_enter Try.func16, Try.ntmps16
    go_wp2_with fail
    refine HQ.out.mono ?_
    rintro e w2 (⟨h0, rfl, hb⟩ | ⟨h0, S, rows, rfl, hb, hg⟩)
    · exact absurd H0.out h0
    simp only [Int.toNat_natCast] at hg ⊢
    have HB := Lib.hid (HA.out.trans (hb.mono (by simp)))
    have HGR := Lib.hid hg
    have hsz2 : w.heap.size ≤ w2.heap.size := HB.out.size
    have HS2 := Lib.hid hsz2
    have mB := make_bools N h2
    have hv0 := Vec.start w2 4 N (.bool false)
    have c0 := hv0.cell h3
    have f0 := hv0.free I
    have HV := Lib.hid (start_one w2 N I)
    have HBB := Lib.hid ((Below.refl w2.heap.size w2).alloc (Nat.le_refl _) (.cells ((madeCells #[.bool false] N).setIfInBounds I (.bool true)) 4))
    clear hb h0 HQ hg hsz2 hv0 h3
    go_wp2_with fail
    obtain ⟨w3, hw3⟩ : ∃ w3, w2.alloc (.cells ((madeCells #[.bool false] N).setIfInBounds I (.bool true)) 4) = w3 := ⟨_, rfl⟩
    rw [hw3] at HV HBB ⊢
    clear hw3 c0 f0 mB
    have HF0 := Lib.hid (show setF (fun _ => false) I I = true by simp [setF])
    have HW0 := Lib.hid (show ∀ x, x < N → setF (fun _ => false) I x = true → ∃ p, Bf.Way (gEdge l N) I x p by
      intro x _ hx
      unfold setF at hx
      by_cases e : x = I
      · subst e; exact ⟨_, Bf.way_one _ _⟩
      · rw [if_neg e] at hx; cases hx)
    obtain ⟨fa, hfa⟩ : ∃ fa, setF (fun _ => false) I = fa := ⟨_, rfl⟩
    rw [hfa] at HV HF0 HW0
    clear hfa
    go_loopg [12] (2 * cntF N fa + 1) (fun g s12 wx => ∃ (mo : Bool) (f : Nat → Bool), 2 * cntF N f + mo.toNat = g ∧ s12 = .bool mo ∧ Hid (Vec wx w2.heap.size 4 N (fun k => .bool (f k))) ∧ Hid (f I = true) ∧ Hid (∀ x, x < N → f x = true → ∃ p, Bf.Way (gEdge l N) I x p) ∧ Hid (mo = false → ∀ a b, a < N → b < N → f a = true → edge l N a b = true → f b = true) ∧ Hid (Below w2.heap.size w2 wx))
    case atStart => exact ⟨true, fa, rfl, rfl, HV, HF0, HW0, Lib.hid (fun h => by cases h), HBB⟩
    case round =>
      obtain ⟨mo, f, hgm, rfl, HVf, HFI, HFW, HCL, HBx⟩ := hrel
      have HGM := Lib.hid hgm
      clear hgm
      cases mo with
      | false =>
        have HRX := Lib.hid (reach_of (g := gEdge l N) (fun a b h => (edge_lt h).2) HFI.out HI.out (HCL.out rfl) HFW.out)
        have HSZ := Lib.hid (show w.heap.size ≤ wr.heap.size by have := HBx.out.size; have := HS2.out; omega)
        have HBO := Lib.hid (HB.out.trans (HBx.out.mono HB.out.size))
        clear HGM HCL HFW HFI
        go_wp2_with fail
        obtain ⟨wx, hwx⟩ : ∃ wx, wr = wx := ⟨_, rfl⟩
        rw [hwx] at HVf HSZ HBO ⊢
        clear HBx
        clear hwx
        go_loopw [10, 15] (fun av i wy => ∃ k : Nat, i = .int .i64 (k : Nat) ∧ k ≤ N ∧ Hid (wy.ownsRow wx.heap.size 3 1 av ((List.range k).filter f).length (numsV ((List.range k).filter f))) ∧ Hid (Below wx.heap.size wx wy)) (fun _ i _ => N - (intOf i).toNat)
        case atStart => exact ⟨0, rfl, Nat.zero_le _, Lib.hid (World.ownsRow_nil _ _ _ _), Lib.hid (Below.refl _ _)⟩
        case round =>
          rename_i av _
          obtain ⟨k, rfl, hk, HR, HBr⟩ := hrel
          by_cases hlt : k < N
          · have hk1 : (k : Int) < N := by omega
            have HK := Lib.hid hlt
            have cr := (HVf.out.below HBr.out).cell hlt
            have hs := range_filter_succ f k
            have hfl : ((List.range k).filter f).length ≤ k := Nat.le_trans (List.length_filter_le _ _) (by simp)
            obtain ⟨zs, hzs⟩ : ∃ zs, ((List.range k).filter f) = zs := ⟨_, rfl⟩
            obtain ⟨t, ht⟩ : ∃ t, f k = t := ⟨_, rfl⟩
            rw [hzs] at HR hs hfl
            rw [ht] at cr hs
            obtain ⟨pv, cv, hpv⟩ := lenL HR.out
            cases t with
            | true =>
              rw [if_pos rfl] at hs
              have HSS := Lib.hid hs
              have M1 := Lib.hid (show zs.length + 1 ≤ maxLen by unfold maxLen; omega)
              have M2 := Lib.hid (show (zs.length + 1) * 8 ≤ 140737488355328 by omega)
              have M3 := Lib.hid (show wx.heap.size ≤ (wr.alloc (.cells #[.int .i64 (k : Nat)] 3)).heap.size by have := HBr.out.size; simp; omega)
              clear hs hlt hzs hfl ht hpv
              go_wp2_with (at_builtin; go_loud (refine wpList_append_own_at _ rfl _ _ 23 rfl wx.heap.size 3 i0 (.int .i64 0) 1 8 Try.underlying23 hi0 hz0 hz1 hz2 rfl (by decide) _ _ _ rfl (HR.out.alloc _) ⟨wr.heap.size, 0, none⟩ 1 1 [.int .i64 (k : Nat)] rfl rfl (cells_newL _ _ _) (numsV_one [k]) M1.out M2.out M3.out ?_); intro v' w3 hown' hgrow _ hat; obtain ⟨g', cap', rfl⟩ := ownsRow_succ hown'; have HO := Lib.hid hown'; have HG := Lib.hid hgrow; clear hown' hgrow hat)
              go_roundw
              case measure => have := HK.out; first | (simp [intOf]; done) | (simp [intOf]; omega)
              case rel =>
                refine ⟨k + 1, by go_num, by have := HK.out; omega, Lib.hid ?_, Lib.hid ?_⟩
                · rw [HSS.out, List.length_append, numsV_app]; exact HO.out
                · exact ((HBr.out.alloc HBr.out.size _).grown HG.out (by have := HBr.out.size; simp; omega) (fun r e => (own_base HR.out e).1))
            | false =>
              rw [if_neg (by simp)] at hs
              have HSS := Lib.hid hs
              clear hs hlt hzs hfl ht hpv
              go_wp2_with fail
              go_roundw
              case measure => have := HK.out; first | (simp [intOf]; done) | (simp [intOf]; omega)
              case rel => exact ⟨k + 1, by go_num, by have := HK.out; omega, Lib.hid (by rw [HSS.out]; exact HR.out), HBr⟩
          · obtain rfl : k = N := by omega
            have hlz : ¬ ((k : Int) < k) := by omega
            clear hlt
            go_wp2_with fail
            go_ret2
            exact ⟨(List.range k).filter f, by rw [H0.out]; exact ⟨_, rfl, ownsRow_low HR.out HSZ.out, HBO.out.trans (HBr.out.mono HSZ.out)⟩, fun h => absurd H0.out h, fun _ => ⟨(range_inc _).filter _, HRX.out⟩⟩
      | true =>
        go_wp2_with fail
        go_loopg [12, 13] N (fun g2 s12 s13 wy => ∃ (x : Nat) (mo : Bool) (f2 : Nat → Bool), x + g2 = N ∧ s12 = .bool mo ∧ s13 = .int .i64 (x : Nat) ∧ Hid (Vec wy w2.heap.size 4 N (fun k => .bool (f2 k))) ∧ Hid (f2 I = true) ∧ Hid (∀ x, x < N → f2 x = true → ∃ p, Bf.Way (gEdge l N) I x p) ∧ Hid (cntF N f2 + mo.toNat ≤ cntF N f) ∧ Hid (mo = false → ∀ a b, a < x → b < N → f2 a = true → edge l N a b = true → f2 b = true) ∧ Hid (Below w2.heap.size w2 wy))
        case atStart => exact ⟨0, false, f, by omega, rfl, rfl, HVf, HFI, HFW, Lib.hid (by simp), Lib.hid (fun _ a b h => absurd h (Nat.not_lt_zero _)), HBx⟩
        case round =>
          obtain ⟨x, mo, f2, hgx, rfl, rfl, HVf, HFI, HFW, HCN, HCL, HBx⟩ := hrel
          have HGX := Lib.hid hgx
          by_cases hxn : x < N
          · have hx1 : (x : Int) < N := by omega
            have HX := Lib.hid hxn
            clear hgx hxn
            go_wp2_with fail
            go_loopg [12, 14] N (fun g3 s12 s14 wy => ∃ (k : Nat) (mo : Bool) (f3 : Nat → Bool), k + g3 = N ∧ s12 = .bool mo ∧ s14 = .int .i64 (k : Nat) ∧ Hid (Vec wy w2.heap.size 4 N (fun k => .bool (f3 k))) ∧ Hid (f3 I = true) ∧ Hid (∀ x, x < N → f3 x = true → ∃ p, Bf.Way (gEdge l N) I x p) ∧ Hid (cntF N f3 + mo.toNat ≤ cntF N f) ∧ Hid (mo = false → ∀ a b, (a < x ∨ a = x ∧ b < k) → b < N → f3 a = true → edge l N a b = true → f3 b = true) ∧ Hid (Below w2.heap.size w2 wy))
            case atStart => exact ⟨0, mo, f2, by omega, rfl, rfl, HVf, HFI, HFW, HCN, Lib.hid (fun h a b hab => by
              rcases hab with hab | ⟨_, hab⟩
              · exact HCL.out h a b hab
              · exact absurd hab (Nat.not_lt_zero _)), HBx⟩
            case round =>
              obtain ⟨k, mo, f3, hgk, rfl, rfl, HVf, HFI, HFW, HCN, HCL, HBx⟩ := hrel
              have HGK := Lib.hid hgk
              by_cases hkn : k < N
              · have hk1 : (k : Int) < N := by omega
                have HK := Lib.hid hkn
                have cx := HVf.out.cell HX.out
                have hgr := HGR.out.below HBx.out
                have ct := (hgr x HX.out).1
                have cr := (hgr x HX.out).2 k hkn
                have ck := HVf.out.cell hkn
                have fk := HVf.out.free k
                obtain ⟨u, hu⟩ : ∃ u, f3 x = u := ⟨_, rfl⟩
                obtain ⟨e, he⟩ : ∃ e, edge l N x k = e := ⟨_, rfl⟩
                obtain ⟨z, hz⟩ : ∃ z, f3 k = z := ⟨_, rfl⟩
                have HU := Lib.hid hu
                have HE := Lib.hid he
                have HZ := Lib.hid hz
                simp only [hu] at cx
                rw [he] at cr
                simp only [hz] at ck
                clear hgk hkn hgr hu he hz
                cases u with
                | false =>
                  clear ct cr ck fk
                  go_wp2_with fail
                  go_roundg (N - (x + 1))
                  case measure => have := HX.out; have := HGX.out; omega
                  case rel => exact ⟨x + 1, mo, f3, by have := HX.out; omega, rfl, by go_num, HVf, HFI, HFW, HCN, Lib.hid (fun h a b hab hb ha hg => by
                    rcases Nat.lt_or_eq_of_le (Nat.le_of_lt_succ hab) with h1 | rfl
                    · exact HCL.out h a b (.inl h1) hb ha hg
                    · rw [HU.out] at ha; cases ha), HBx⟩
                | true =>
                  cases e with
                  | false =>
                    clear ck fk
                    go_wp2_with fail
                    go_roundg (N - (k + 1))
                    case measure => have := HK.out; have := HGK.out; omega
                    case rel => exact ⟨k + 1, mo, f3, by have := HK.out; omega, rfl, by go_num, HVf, HFI, HFW, HCN, Lib.hid (fun h a b hab hb ha hg => by
                      rcases hab with h1 | ⟨rfl, h1⟩
                      · exact HCL.out h a b (.inl h1) hb ha hg
                      · rcases Nat.lt_or_eq_of_le (Nat.le_of_lt_succ h1) with h1 | rfl
                        · exact HCL.out h a b (.inr ⟨rfl, h1⟩) hb ha hg
                        · rw [HE.out] at hg; cases hg), HBx⟩
                  | true =>
                    cases z with
                    | true =>
                      go_wp2_with fail
                      go_roundg (N - (k + 1))
                      case measure => have := HK.out; have := HGK.out; omega
                      case rel => exact ⟨k + 1, mo, f3, by have := HK.out; omega, rfl, by go_num, HVf, HFI, HFW, HCN, Lib.hid (fun h a b hab hb ha hg => by
                        rcases hab with h1 | ⟨rfl, h1⟩
                        · exact HCL.out h a b (.inl h1) hb ha hg
                        · rcases Nat.lt_or_eq_of_le (Nat.le_of_lt_succ h1) with h1 | rfl
                          · exact HCL.out h a b (.inr ⟨rfl, h1⟩) hb ha hg
                          · exact HZ.out), HBx⟩
                    | false =>
                      have HV2 := Lib.hid ((HVf.out.set k (.bool true) rfl).congr (g := fun j => .bool (setF f3 k j)) (fun j _ => by unfold setF; split <;> rfl))
                      have HFI2 := Lib.hid (show setF f3 k I = true by unfold setF; split; rfl; exact HFI.out)
                      have HFW2 := Lib.hid (show ∀ y, y < N → setF f3 k y = true → ∃ p, Bf.Way (gEdge l N) I y p by
                        intro y hy hf
                        unfold setF at hf
                        by_cases e : y = k
                        · subst e
                          obtain ⟨p, hp⟩ := HFW.out x HX.out HU.out
                          exact ⟨_, way_snoc' hp HE.out⟩
                        · rw [if_neg e] at hf; exact HFW.out y hy hf)
                      have HCN2 := Lib.hid (show cntF N (setF f3 k) + 1 ≤ cntF N f by
                        have h1 := cntF_lt (n := N) (f := f3) (f' := setF f3 k) (k := k) (fun j _ hj => by unfold setF; split; rfl; exact hj) HK.out HZ.out (by simp [setF])
                        have h2 := HCN.out
                        omega)
                      clear HCN HCL HFI HFW
                      go_wp2_with fail
                      go_roundg (N - (k + 1))
                      case measure => have := HK.out; have := HGK.out; omega
                      case rel => exact ⟨k + 1, true, setF f3 k, by have := HK.out; omega, rfl, by go_num, HV2, HFI2, HFW2, HCN2, Lib.hid (fun h => by cases h), Lib.hid (HBx.out.setCell (p := ⟨w2.heap.size, k, none⟩) (Nat.le_refl _) _)⟩
              · have hkz : ¬ ((k : Int) < N) := by omega
                have HKN := Lib.hid (show k = N by omega)
                clear hgk hkn
                go_wp2_with fail
                go_roundg (N - (x + 1))
                case measure => have := HX.out; have := HGX.out; omega
                case rel => exact ⟨x + 1, mo, f3, by have := HX.out; omega, rfl, by go_num, HVf, HFI, HFW, HCN, Lib.hid (fun h a b hab hb ha hg => by
                  rcases Nat.lt_or_eq_of_le (Nat.le_of_lt_succ hab) with h1 | rfl
                  · exact HCL.out h a b (.inl h1) hb ha hg
                  · exact HCL.out h a b (.inr ⟨rfl, by have := HKN.out; omega⟩) hb ha hg), HBx⟩
          · have hxz : ¬ ((x : Int) < N) := by omega
            have HXN := Lib.hid (show N ≤ x by omega)
            clear hgx hxn
            go_wp2_with fail
            go_roundg (2 * cntF N f2 + mo.toNat)
            case measure => have h1 := HGM.out; have h2 := HCN.out; simp at h1; omega
            case rel => exact ⟨mo, f2, rfl, rfl, HVf, HFI, HFW, Lib.hid (fun h a b ha => HCL.out h a b (by have := HXN.out; omega)), HBx⟩
end Go.Proofs.Ytjgcbobalmmjkaa
