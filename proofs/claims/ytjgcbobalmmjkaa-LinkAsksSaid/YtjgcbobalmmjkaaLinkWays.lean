/- What is proved: LinkWays holds of any references, any topics and any other way: a way is one, and none is shorter. -/
import Derived.Test.YtjgcbobalmmjkaaLkm
import Derived.Test.YtjgcbobalmmjkaaLkf
import Derived.Test.YtjgcbobalmmjkaaPost
import Derived.Test.YtjgcbobalmmjkaaLinkBack
import Derived.ProofKit
import Derived.OpenShut
import Derived.Deep.DeepHandedRow
namespace Go.Proofs.Ytjgcbobalmmjkaa
open Go.ChangeShapes Go.WideShapes Go.ChangeAt Go.RowKit
open Go.ChangeMaps (open_string shut_string)
set_option linter.unusedVariables false
theorem path_at {g : Nat → Nat → Bool} : ∀ {p : List Nat} {m : Nat}, Bf.Path g p → (h : m + 1 < p.length) → g p[m] p[m + 1] = true
  | [], _, h, _ => h.elim
  | [a], m, _, h => by simp at h
  | a :: b :: p, 0, h, _ => h.1
  | a :: b :: p, m + 1, h, hm => by
    have := path_at (m := m) h.2 (by simpa using hm)
    simpa using this
theorem way_lt {l : List Rf} {N x y : Nat} {p : List Nat} (h : Bf.Way (gEdge l N) x y p) (hx : x < N) {m : Nat} (hm : m < p.length) : p[m] < N := by
  match m, hm with
  | 0, hm =>
    have := h.2.1
    rw [List.head?_eq_getElem?, List.getElem?_eq_getElem hm] at this
    injection this with this
    omega
  | m + 1, hm => exact (edge_lt (path_at (m := m) h.1 hm)).2
theorem way_end {l : List Rf} {N x y : Nat} {p : List Nat} (h : Bf.Way (gEdge l N) x y p) (hx : x < N) : y < N :=
  closed_way (C := fun y => y < N) (fun a b hg _ => (edge_lt hg).2) p h hx
theorem take_not {p : List Nat} (h : p.Nodup) {m : Nat} (hm : m < p.length) : p[m] ∉ p.take m := by
  intro hi
  obtain ⟨j, hj, e⟩ := List.mem_iff_getElem.1 hi
  rw [List.length_take] at hj
  rw [List.getElem_take] at e
  have := (List.getElem_inj h).1 e
  omega
theorem reach_len {l : List Rf} {N x : Nat} {zs : List Nat} (hx : x < N) (h : zs.Pairwise (· < ·)) (hm : ∀ y, y ∈ zs ↔ ∃ p, Bf.Way (gEdge l N) x y p) : zs.length ≤ N := by
  have e : zs = (List.range N).filter fun y => decide (y ∈ zs) := inc_nat h ((range_inc _).filter _) fun y => by
    rw [List.mem_filter, List.mem_range]
    constructor
    · intro hy
      obtain ⟨p, hp⟩ := (hm y).1 hy
      exact ⟨way_end hp hx, decide_eq_true hy⟩
    · exact fun hy => of_decide_eq_true hy.2
  have := List.length_filter_le (fun y => decide (y ∈ zs)) (List.range N)
  rw [← e, List.length_range] at this
  exact this
theorem rdI_take {w : World} {b off n cap : Nat} {zs : List Nat} (h : RdI w (.slice (some ⟨b, off, none⟩) n cap) zs) {m : Nat} (hm : m ≤ zs.length) : RdI w (.slice (some ⟨b, off, none⟩) m cap) (zs.take m) := by
  obtain ⟨pa, c, e, h1, h2, h4⟩ := h
  cases e
  have hl : (zs.take m).length = m := by rw [List.length_take]; omega
  refine ⟨some ⟨b, off, none⟩, cap, by rw [hl], by omega, h2, fun j hj => ?_⟩
  obtain ⟨b', o', e, hc⟩ := h4 j (by omega)
  cases e
  exact ⟨b, off, rfl, by rw [List.getElem_take]; exact hc⟩
theorem look_one {len : Nat} {n i k : Int} (h : lookE len n [i] ≠ 0) : lookE len n [i, k] ≠ 0 := by
  unfold lookE at h ⊢
  split
  · omega
  · rename_i h1
    rw [if_neg h1] at h
    split
    · omega
    · rename_i h2
      rw [if_neg h2] at h
      intro h3
      split at h3
      · rename_i h4
        refine h (if_pos ?_)
        simp at h4 ⊢
        exact h4.1
      · omega
theorem look_two {len : Nat} {n i k : Int} (h : lookE len n [i] = 0) (h2 : lookE len n [i, k] ≠ 0) : lookE len n [i, k] = 1 := by
  unfold lookE at h h2 ⊢
  split at h
  · omega
  · rename_i h1
    rw [if_neg h1] at h2 ⊢
    split at h
    · omega
    · rename_i h3
      rw [if_neg h3] at h2 ⊢
      split at h2
      · omega
      · rename_i h4
        rw [if_neg h4]
theorem RdZ.below {w w' : World} {v : Value} {xs : List Int} (h : RdZ w v xs) (hb : Below w.heap.size w w') : RdZ w' v xs := by
  obtain ⟨pa, cap, e, h4⟩ := h
  refine ⟨pa, cap, e, fun j hj => ?_⟩
  obtain ⟨b, off, e, hc⟩ := h4 j hj
  exact ⟨b, off, e, (hb.cell (p := ⟨b, off + j, none⟩) (cellInL hc)).trans hc⟩
theorem RdZ.cell {w : World} {pa : Option Addr} {n cap : Nat} {xs : List Int} (h : RdZ w (.slice pa n cap) xs) {j : Nat} (hj : j < xs.length) : ∃ b off, pa = some ⟨b, off, none⟩ ∧ w.cell? ⟨b, off + j, none⟩ = some (.int .i64 xs[j]) := by
  obtain ⟨pa', cap', e, h4⟩ := h
  cases e
  exact h4 j hj
theorem way_snoc {g : Nat → Nat → Bool} {x y z : Nat} {q : List Nat} (h : Bf.Way g x y q) (hg : g y z = true) : Bf.Way g x z (q ++ [z]) := by
  refine ⟨Bf.path_snoc h.1 h.2.2 hg, ?_, by simp⟩
  have := h.2.1
  cases q
  · cases this
  · exact this
namespace linkWays
set_option maxRecDepth 100000 in
set_option maxHeartbeats 16000000 in
theorem walk (v : Value) (l : List Rf) (n i k : Int) (u : Value) (xs : List Int) (W : World) (hs : RdR W v l ∧ ∀ r ∈ l, FitR r) (hsz : l.length * 56 ≤ 140737488351232) (hn : (Lit.int .i64 n).wf = true) (hi : (Lit.int .i64 i).wf = true) (hk : (Lit.int .i64 k).wf = true)
    (hu : RdZ W u xs ∧ ∀ x ∈ xs, In64 x) (hus : xs.length * 8 ≤ 140737488351232) :
    Calls Try.prog 5 #[v, .int .i64 n, .int .i64 i, .int .i64 k, u] W fun e W' => e = .returned (.bool true) ∧ Below W.heap.size W W' := by
  obtain ⟨pl, cl, rfl, hcl, hcm⟩ := hs.1.form
  have HU := Lib.hid hu.1
  have HX := Lib.hid hu.2
  obtain ⟨pu, cu, rfl, -⟩ := hu.1
  have HL := Lib.hid hs.1
  have HLL := Lib.hid (show l.length ≤ 140737488355328 by omega)
  have HLN := Lib.hid (show l.length * 56 ≤ 140737488355328 by omega)
  have hux : xs.length ≤ 17592186043904 := by omega
  have HUX := Lib.hid hux
  obtain ⟨nx, hnx⟩ : ∃ m, xs.length = m := ⟨_, rfl⟩
  have HNX := Lib.hid hnx
  rw [hnx] at HU hux ⊢
  clear hs hsz hn hi hk hcl hcm hu hus hnx
  go_enter Try.func5, Try.ntmps5
  go_wp2_with fail
  refine (awake_law W).mono ?_
  rintro e w0 ⟨rfl, hb⟩
  have HB0 := Lib.hid hb
  have HL0 := Lib.hid (HL.out.below hb)
  clear hb
  go_wp2_with fail
  refine (twin_pro l _ _ HL0.out HLN.out).mono ?_
  rintro e w1 ⟨v1, rfl, hR1, hb1⟩
  have HQ := Lib.hid (reach_pro l v1 n i w1 hR1 HLL.out)
  have HB1 := Lib.hid (HB0.out.trans (hb1.mono HB0.out.size))
  have HL1 := Lib.hid (HL0.out.below hb1)
  clear hR1 hb1
  go_wp2_with fail
  refine HQ.out.mono ?_
  rintro e w2 ⟨zs, ⟨vr, rfl, hor, hb2⟩, hz0, hz1⟩
  have HB2 := Lib.hid (HB1.out.trans (hb2.mono HB1.out.size))
  have HL2 := Lib.hid (HL1.out.below hb2)
  have HR2 := Lib.hid (show RdI w2 vr zs from RdI.own hor rfl)
  have HZ1 := Lib.hid hz1
  clear hb2 hor HQ hz0 hz1
  obtain ⟨e1, he1⟩ : ∃ e1, lookE l.length n [i] = e1 := ⟨_, rfl⟩
  rw [he1]
  have HE1 := Lib.hid he1
  clear he1
  go_wp2_with fail
  refine (twin_pro l _ _ HL2.out HLN.out).mono ?_
  rintro e w3 ⟨v3, rfl, hR3, hb3⟩
  have HQ := Lib.hid (way_pro l v3 n i k w3 hR3 HLL.out)
  have HB3 := Lib.hid (HB2.out.trans (hb3.mono HB2.out.size))
  have HL3 := Lib.hid (HL2.out.below hb3)
  have HR3 := Lib.hid (HR2.out.below hb3)
  clear hR3 hb3
  go_wp2_with fail
  refine HQ.out.mono ?_
  rintro e w4 (⟨hA, vw, rfl, how, hb4⟩ | ⟨hA, hnw, vw, rfl, how, hb4⟩ | ⟨hA, p, hp, hpn, hpl, vw, rfl, how, hb4⟩)
  · -- Way refuses
    obtain ⟨e2, he2⟩ : ∃ e2, lookE l.length n [i, k] = e2 := ⟨_, rfl⟩
    have HB4 := Lib.hid (HB3.out.trans (hb4.mono HB3.out.size))
    obtain ⟨p, c, rfl⟩ := lenL how
    rw [he2] at hA ⊢
    have HR4 := Lib.hid (HR3.out.below hb4)
    by_cases h1 : e1 = 0
    · subst h1
      obtain rfl : e2 = 1 := by rw [← he2]; exact look_two HE1.out (by rw [he2]; exact hA)
      clear how hb4 HQ he2 hA
      go_wp2_with fail
      go_ret
      exact ⟨rfl, HB4.out⟩
    · have t1 : (e1 != 0) = true := by simpa using h1
      clear how hb4 HQ he2 hA h1
      go_wp2_with fail
      go_ret
      exact ⟨rfl, HB4.out⟩
  · -- no way
    have hz : lookE l.length n [i] = 0 := Classical.byContradiction fun h => look_one h hA
    obtain rfl : e1 = 0 := by rw [← HE1.out]; exact hz
    obtain ⟨h1, N, I, K, rfl, rfl, rfl, h2, h3, h4⟩ := look_ok2 hA
    obtain ⟨hz1, hz2⟩ := HZ1.out hz
    simp only [Int.toNat_natCast] at hz2 hnw
    have HB4 := Lib.hid (HB3.out.trans (hb4.mono HB3.out.size))
    obtain ⟨p, c, rfl⟩ := lenL how
    have HR4 := Lib.hid (HR3.out.below hb4)
    have hhas := has_pro zs vr (K : Nat) w4 HR4.out (by have := reach_len h3 hz1 hz2; omega)
    rw [decide_eq_false (fun h => hnw ((hz2 K).1 (mem_ints.1 h)))] at hhas
    have HH := Lib.hid hhas
    clear how hb4 HQ hA hz hnw hz1 hz2 hhas h1 h2 h3 h4
    go_wp2_with fail
    refine HH.out.mono ?_
    rintro e w5 ⟨rfl, rfl⟩
    go_wp2_with fail
    go_ret
    exact ⟨rfl, HB4.out⟩
  · have hz : lookE l.length n [i] = 0 := Classical.byContradiction fun h => look_one h hA
    obtain rfl : e1 = 0 := by rw [← HE1.out]; exact hz
    obtain ⟨h1, N, I, K, rfl, rfl, rfl, h2, h3, h4⟩ := look_ok2 hA
    obtain ⟨hz1, hz2⟩ := HZ1.out hz
    simp only [Int.toNat_natCast] at hz2 hp hpl
    have HB4 := Lib.hid (HB3.out.trans (hb4.mono HB3.out.size))
    have HL4 := Lib.hid (HL3.out.below hb4)
    have HR4 := Lib.hid (HR3.out.below hb4)
    have HW4 := Lib.hid (show RdI w4 vw p from RdI.own how rfl)
    have HZ2 := Lib.hid hz2
    have HZL := Lib.hid (show zs.length ≤ 1000000 by have := reach_len h3 hz1 hz2; omega)
    have HLK := Lib.hid h1
    have HNA := Lib.hid h2
    have HI := Lib.hid h3
    have HK := Lib.hid h4
    have HP := Lib.hid hp
    have HPN := Lib.hid hpn
    have hp0 : 0 < p.length := by
      have := hp.1.2.1
      cases p
      · cases this
      · simp
    obtain ⟨pb, cp, rfl, hpc, hpm, _⟩ := HW4.out
    obtain ⟨b, off, rfl, c0⟩ := HW4.out.cell hp0
    obtain ⟨_, _, e, cz⟩ := HW4.out.cell (j := p.length - 1) (by omega)
    cases e
    have e0 : p[0] = I := by
      have := hp.1.2.1
      rw [List.head?_eq_getElem?, List.getElem?_eq_getElem hp0] at this
      injection this
    have ez : p[p.length - 1] = K := by
      have := hp.1.2.2
      rw [List.getLast?_eq_getElem?, List.getElem?_eq_getElem (by omega)] at this
      injection this
    rw [e0] at c0
    rw [ez] at cz
    have hkin : K ∈ zs := (hz2 K).2 ⟨p, hp.1⟩
    have hhas := has_pro zs vr (K : Nat) w4 HR4.out HZL.out
    rw [decide_eq_true (mem_ints.2 hkin)] at hhas
    have HH := Lib.hid hhas
    obtain ⟨np, hnp⟩ : ∃ m, p.length = m := ⟨_, rfl⟩
    have HNP := Lib.hid hnp
    rw [hnp] at HW4 hp0 hpc hpl cz ⊢
    rw [Nat.add_zero] at c0
    have hnp9 : np ≤ 1000 := by omega
    have hnn : (0 : Int) < np := by omega
    have t1 : ((np : Int) == 0) = false := by simp; omega
    have v1 : IntKind.i64.wrap ((np : Int) - 1) = ((np - 1 : Nat) : Int) := by rw [IntWalk.i64_in _ (by omega)]; omega
    have hp1 : ((np - 1 : Nat) : Int) < np := by omega
    have HPC := Lib.hid hpc
    have HPM := Lib.hid hpm
    clear how hb4 HQ hA hz hp hpn hz1 hz2 hhas h1 h2 h3 h4 e0 ez hkin hnp hpc hpm hpl
    go_wp2_with fail
    refine HH.out.mono ?_
    rintro e w5 ⟨rfl, rfl⟩
    have tI : ((I : Int) != I) = false := by simp
    have tK : ((K : Int) != K) = false := by simp
    go_wp2_with fail

    go_loopw [15] (fun i wr => ∃ m : Nat, i = .int .i64 (m : Nat) ∧ m ≤ np ∧ Below w4.heap.size w4 wr) (fun i _ => np - (intOf i).toNat)
    case atStart => exact ⟨0, rfl, Nat.zero_le _, Below.refl _ _⟩
    case round =>
      obtain ⟨m, rfl, hm, hB⟩ := hrel
      have HBm := Lib.hid hB
      by_cases hlm : m < np
      · have HM := Lib.hid hlm
        have hm1 : (m : Int) < np := by omega
        have hmp : m < p.length := by rw [HNP.out]; exact hlm
        obtain ⟨_, _, e, c1⟩ := (HW4.out.below hB).cell hmp
        cases e
        obtain ⟨x, hx⟩ : ∃ x, p[m] = x := ⟨_, rfl⟩
        have hnt := take_not HPN.out hmp
        have hx2 : p[m]? = some x := by rw [List.getElem?_eq_getElem hmp, hx]
        rw [hx] at c1 hnt
        have hhas := fun w' (h : RdI w' (.slice (some ⟨b, off, none⟩) m cp) (p.take m)) => has_pro (p.take m) _ (x : Nat) w' h (by rw [List.length_take]; omega)
        rw [decide_eq_false (fun h => hnt (mem_ints.1 h))] at hhas
        have HH2 := Lib.hid hhas
        have HWr := Lib.hid (show RdI wr.drew (.slice (some ⟨b, off, none⟩) np cp) p from (HW4.out.below hB).keep (fun _ _ => rfl))
        have HLr := Lib.hid (HL4.out.below hB)
        have HXP := Lib.hid hx2
        have hmc : (m : Int) ≤ cp := by have := HPC.out; omega
        have hmc2 : m ≤ cp := by have := HPC.out; omega
        clear hnt hhas hx hx2 hmp hB hlm
        go_wp2_with fail
        have hS0 : wr.drew.cell? ⟨b, off + m, none⟩ = some (.int .i64 (x : Nat)) := c1
        refine region_just (S := fun w' => w'.cell? ⟨b, off + m, none⟩ = some (.int .i64 (x : Nat))) (by kernel_rfl) ?_
        refine wpAnyH_take (i := 0) (v := .slice (some ⟨b, off, none⟩) np cp) rfl (by kernel_rfl) (by kernel_rfl) (by kernel_rfl) (fun _ _ _ h => h) (.inl ⟨by rfl, fun w' hS => by have h1 := hS; go_simp⟩) hS0 ?_
        refine wpAnyH_take (i := 1) (v := .int .i64 (m : Nat)) rfl (by kernel_rfl) (by kernel_rfl) (by kernel_rfl) (fun _ _ _ h => h) (.inl ⟨by rfl, fun w' hS => by have h1 := hS; go_simp⟩) hS0 ?_
        refine wpAnyH_take (i := 2) (v := .slice (some ⟨b, off, none⟩) m cp) rfl (by kernel_rfl) (by kernel_rfl) (by kernel_rfl) (fun _ _ _ h => h) (.inl ⟨by rfl, fun w' hS => by have h1 := hS; go_simp⟩) hS0 ?_
        refine wpAnyH_take (i := 3) (v := .slice (some ⟨b, off, none⟩) np cp) rfl (by kernel_rfl) (by kernel_rfl) (by kernel_rfl) (fun _ _ _ h => h) (.inl ⟨by rfl, fun w' hS => by have h1 := hS; go_simp⟩) hS0 ?_
        refine wpAnyH_take (i := 4) (v := .int .i64 (m : Nat)) rfl (by kernel_rfl) (by kernel_rfl) (by kernel_rfl) (fun _ _ _ h => h) (.inl ⟨by rfl, fun w' hS => by have h1 := hS; go_simp⟩) hS0 ?_
        refine wpAnyH_take (i := 5) (v := .pointer (some ⟨b, off + m, none⟩)) rfl (by kernel_rfl) (by kernel_rfl) (by kernel_rfl) (fun _ _ _ h => h) (.inl ⟨by rfl, fun w' hS => by have h1 := hS; go_simp⟩) hS0 ?_
        refine wpAnyH_take (i := 6) (v := .int .i64 (x : Nat)) rfl (by kernel_rfl) (by kernel_rfl) (by kernel_rfl) (fun _ _ _ h => h) (.inl ⟨by rfl, fun w' hS => by have h1 := hS; go_simp⟩) hS0 ?_
        refine wpAnyH_all (rs := [7]) (by kernel_rfl) (by simp) ?_
        intro i' hi'
        obtain rfl : i' = 7 := by simpa using hi'
        refine op_via rfl (by rfl) (fun K hK => ?_)
        go_simp
        refine (HH2.out wr.drew (rdI_take HWr.out (by have := HNP.out; omega))).mono ?_
        rintro e w7 ⟨rfl, rfl⟩
        refine hK _ _ ⟨hS0, ?_⟩
        clear hK K
        refine wpAnyH_done (by kernel_rfl) ?_ _
        simp only [Just]
        by_cases hm0 : m = 0
        · subst hm0
          clear c1 hS0
          go_wp2_with fail
          go_roundw
          case measure => have := HM.out; first | (simp [intOf]; done) | (simp [intOf]; omega)
          case rel => exact ⟨1, by go_num, by have := HM.out; omega, HBm.out.trans ((Below.refl _ wr).drew.mono HBm.out.size)⟩
        · have hmg : (0 : Int) < m := by omega
          obtain ⟨q, hq⟩ : ∃ q, m - 1 = q := ⟨_, rfl⟩
          have HQM := Lib.hid hq
          have hqp : q < p.length := by rw [HNP.out]; omega
          have v2 : IntKind.i64.wrap ((m : Int) - 1) = (q : Int) := by rw [IntWalk.i64_in _ (by omega)]; omega
          obtain ⟨_, _, e, c2⟩ := HWr.out.cell hqp
          cases e
          obtain ⟨y, hy⟩ : ∃ y, p[q] = y := ⟨_, rfl⟩
          have hge : edge l N y x = true := by
            have h9 := path_at (m := q) HP.out.1.1 (by rw [HNP.out]; have := HM.out; omega)
            have h8 := HXP.out
            rw [show m = q + 1 by omega, List.getElem?_eq_getElem (by rw [HNP.out]; have := HM.out; omega)] at h8
            injection h8 with h8
            rw [hy, h8] at h9
            exact h9
          rw [hy] at c2
          have HGE := Lib.hid hge
          have HLX := Lib.hid (look_in (len := l.length) (N := N) (x := y) HLK.out HNA.out (edge_lt hge).1)
          obtain ⟨wd, hwd⟩ : ∃ wd, wr.drew = wd := ⟨_, rfl⟩
          have HBd := Lib.hid (show Below wr.heap.size wr wd from by rw [← hwd]; exact (Below.refl _ wr).drew)
          rw [hwd] at c2 HWr hS0 ⊢
          have HLd := Lib.hid (show RdR wd.drew (.slice pl l.length cl) l from (HLr.out.below HBd.out).keep (fun _ _ => rfl))
          have hqn : (q : Int) < np := by have := HM.out; omega
          clear hqp hy hge hq hm0 c1 hwd
          go_wp2_with fail
          have hS1 : wd.drew.cell? ⟨b, off + q, none⟩ = some (.int .i64 (y : Nat)) ∧ wd.drew.cell? ⟨b, off + m, none⟩ = some (.int .i64 (x : Nat)) := ⟨c2, hS0⟩
          refine region_just (S := fun w' => w'.cell? ⟨b, off + q, none⟩ = some (.int .i64 (y : Nat)) ∧ w'.cell? ⟨b, off + m, none⟩ = some (.int .i64 (x : Nat))) (by kernel_rfl) ?_
          refine wpAnyH_take (i := 0) (v := .slice pl l.length cl) rfl (by kernel_rfl) (by kernel_rfl) (by kernel_rfl) (fun _ _ _ h => h) (.inl ⟨by rfl, fun w' hS => by obtain ⟨h1, h2⟩ := hS; go_simp⟩) hS1 ?_
          refine wpAnyH_take (i := 2) (v := .int .i64 (N : Nat)) rfl (by kernel_rfl) (by kernel_rfl) (by kernel_rfl) (fun _ _ _ h => h) (.inl ⟨by rfl, fun w' hS => by obtain ⟨h1, h2⟩ := hS; go_simp⟩) hS1 ?_
          refine wpAnyH_take (i := 3) (v := .slice (some ⟨b, off, none⟩) np cp) rfl (by kernel_rfl) (by kernel_rfl) (by kernel_rfl) (fun _ _ _ h => h) (.inl ⟨by rfl, fun w' hS => by obtain ⟨h1, h2⟩ := hS; go_simp⟩) hS1 ?_
          refine wpAnyH_take (i := 4) (v := .int .i64 (m : Nat)) rfl (by kernel_rfl) (by kernel_rfl) (by kernel_rfl) (fun _ _ _ h => h) (.inl ⟨by rfl, fun w' hS => by obtain ⟨h1, h2⟩ := hS; go_simp⟩) hS1 ?_
          refine wpAnyH_take (i := 5) (v := .int .i64 (q : Nat)) rfl (by kernel_rfl) (by kernel_rfl) (by kernel_rfl) (fun _ _ _ h => h) (.inl ⟨by rfl, fun w' hS => by obtain ⟨h1, h2⟩ := hS; go_simp⟩) hS1 ?_
          refine wpAnyH_take (i := 6) (v := .pointer (some ⟨b, off + q, none⟩)) rfl (by kernel_rfl) (by kernel_rfl) (by kernel_rfl) (fun _ _ _ h => h) (.inl ⟨by rfl, fun w' hS => by obtain ⟨h1, h2⟩ := hS; go_simp⟩) hS1 ?_
          refine wpAnyH_take (i := 7) (v := .int .i64 (y : Nat)) rfl (by kernel_rfl) (by kernel_rfl) (by kernel_rfl) (fun _ _ _ h => h) (.inl ⟨by rfl, fun w' hS => by obtain ⟨h1, h2⟩ := hS; go_simp⟩) hS1 ?_
          refine wpAnyH_all (rs := [1]) (by kernel_rfl) (by simp) ?_
          intro i' hi'
          obtain rfl : i' = 1 := by simpa using hi'
          refine op_via rfl (by rfl) (fun K hK => ?_)
          go_simp
          refine (twin_pro l _ _ HLd.out HLN.out).mono ?_
          rintro e w5 ⟨v5, rfl, hR5, hb5⟩
          have hS5 := And.intro ((hb5.cell (p := ⟨b, off + q, none⟩) (cellInL hS1.1)).trans hS1.1) ((hb5.cell (p := ⟨b, off + m, none⟩) (cellInL hS1.2)).trans hS1.2)
          have HQ5 := Lib.hid (out_pro l v5 N (y : Nat) w5 hR5 HLL.out)
          have HB5 := Lib.hid hb5
          clear hR5 hb5
          refine hK _ _ ⟨hS5, ?_⟩
          clear hK K
          refine wpAnyH_all (rs := [8]) (by kernel_rfl) (by simp) ?_
          intro i' hi'
          obtain rfl : i' = 8 := by simpa using hi'
          refine op_via rfl (by rfl) (fun K hK => ?_)
          go_simp
          refine HQ5.out.mono ?_
          rw [HLX.out, if_pos rfl]
          rintro e w6 ⟨v6, rfl, ho6, hb6⟩
          have hS6 := And.intro ((hb6.cell (p := ⟨b, off + q, none⟩) (cellInL hS5.1)).trans hS5.1) ((hb6.cell (p := ⟨b, off + m, none⟩) (cellInL hS5.2)).trans hS5.2)
          have HO7 := Lib.hid (show RdI w6 v6 (outM l N y) from RdI.own ho6 rfl)
          have HB7 := Lib.hid (HBd.out.trans ((((Below.refl _ wd).drew).trans (HB5.out.trans (hb6.mono HB5.out.size))).mono HBd.out.size))
          clear ho6 hb6 hS5 HQ5 HB5
          refine hK _ _ ⟨hS6, ?_⟩
          clear hK K
          refine wpAnyH_take (i := 9) (v := .tuple #[v6, .int .i64 0]) rfl (by kernel_rfl) (by kernel_rfl) (by kernel_rfl) (fun _ _ _ h => h) (.inl ⟨by rfl, fun w' hS => by obtain ⟨h1, h2⟩ := hS; go_simp⟩) hS6 ?_
          refine wpAnyH_take (i := 10) (v := v6) rfl (by kernel_rfl) (by kernel_rfl) (by kernel_rfl) (fun _ _ _ h => h) (.inl ⟨by rfl, fun w' hS => by obtain ⟨h1, h2⟩ := hS; go_simp⟩) hS6 ?_
          refine wpAnyH_take (i := 11) (v := .int .i64 0) rfl (by kernel_rfl) (by kernel_rfl) (by kernel_rfl) (fun _ _ _ h => h) (.inl ⟨by rfl, fun w' hS => by obtain ⟨h1, h2⟩ := hS; go_simp⟩) hS6 ?_
          refine wpAnyH_take (i := 12) (v := v6) rfl (by kernel_rfl) (by kernel_rfl) (by kernel_rfl) (fun _ _ _ h => h) (.inl ⟨by rfl, fun w' hS => by obtain ⟨h1, h2⟩ := hS; go_simp⟩) hS6 ?_
          refine wpAnyH_take (i := 13) (v := .int .i64 0) rfl (by kernel_rfl) (by kernel_rfl) (by kernel_rfl) (fun _ _ _ h => h) (.inl ⟨by rfl, fun w' hS => by obtain ⟨h1, h2⟩ := hS; go_simp⟩) hS6 ?_
          refine wpAnyH_done (by kernel_rfl) ?_ _
          simp only [Just]
          have hin : decide ((x : Int) ∈ intsL (outM l N y)) = true := decide_eq_true (mem_ints.2 (outM_mem.2 HGE.out))
          have hhas := has_pro (outM l N y) v6 (x : Nat) _ HO7.out (out_len HNA.out)
          rw [hin] at hhas
          have HHAS := Lib.hid hhas
          have c7 := hS6.2
          clear hin hhas hS0 hS6 hS1 c2
          go_wp2_with fail
          refine HHAS.out.mono ?_
          rintro e w8 ⟨rfl, rfl⟩
          go_wp2_with fail
          go_roundw
          case measure => have := HM.out; first | (simp [intOf]; done) | (simp [intOf]; omega)
          case rel => exact ⟨m + 1, by go_num, by have := HM.out; omega, HBm.out.trans (HB7.out.mono HBm.out.size)⟩
      · obtain rfl : m = np := by omega
        have hlz : ¬ ((m : Int) < m) := by omega
        have HRW := Lib.hid (HR4.out.below hB)
        have HUW := Lib.hid (HU.out.below (HB4.out.trans (hB.mono HB4.out.size)))
        have HLW := Lib.hid (HL4.out.below hB)
        have HBW := Lib.hid (HB4.out.trans (hB.mono HB4.out.size))
        have hm0 : 0 < m := by omega
        clear hlm hB HW4 c0 cz HH tI tK HR4 HU HL4 hp1 t1
        go_wp2_with fail
        go_loopw [18, 19] (fun a i wq => ∃ (j y : Nat) (q : List Nat), a = .int .i64 (y : Nat) ∧ i = .int .i64 (j : Nat) ∧ j < m ∧ Hid (Bf.Way (gEdge l N) I y q ∧ q.length = j + 1) ∧ Below wr.heap.size wr wq) (fun _ i _ => m - (intOf i).toNat)
        case atStart => exact ⟨0, I, [I], rfl, rfl, hm0, Lib.hid ⟨Bf.way_one _ _, rfl⟩, Below.refl _ _⟩
        case round =>
          obtain ⟨j, y, q, rfl, rfl, hjm, HWQ, hB2⟩ := hrel
          have HBq := Lib.hid hB2
          by_cases hjx : j < nx
          · have hj1 : (j : Int) < nx := by omega
            by_cases hjn : j < m - 1
            · have hj2 : (j : Int) < ((m - 1 : Nat) : Int) := by omega
              have HJM := Lib.hid hjn
              have HYN := Lib.hid (way_end HWQ.out.1 HI.out)
              have HLX := Lib.hid (look_in (len := l.length) (N := N) (x := y) HLK.out HNA.out HYN.out)
              have HLq := Lib.hid (HLW.out.below hB2)
              obtain ⟨b3, o3, rfl, cu0⟩ := (HUW.out.below hB2).cell (j := j) (by rw [HNX.out]; exact hjx)
              obtain ⟨z, hz⟩ : ∃ z, xs[j]'(by rw [HNX.out]; exact hjx) = z := ⟨_, rfl⟩
              rw [hz] at cu0
              clear hz hjn hjx hB2
              go_wp2_with fail
              refine (twin_pro l _ _ HLq.out HLN.out).mono ?_
              rintro e w5 ⟨v5, rfl, hR5, hb5⟩
              have HQ5 := Lib.hid (out_pro l v5 N (y : Nat) w5 hR5 HLL.out)
              have HB5 := Lib.hid hb5
              clear hR5 hb5
              go_wp2_with fail
              refine HQ5.out.mono ?_
              rw [HLX.out, if_pos rfl]
              rintro e w6 ⟨v6, rfl, ho6, hb6⟩
              have hb56 := HB5.out.trans (hb6.mono HB5.out.size)
              have HO6 := Lib.hid (show RdI w6 v6 (outM l N y) from RdI.own ho6 rfl)
              have HR6 := Lib.hid (HRW.out.below (HBq.out.trans (hb56.mono HBq.out.size)))
              have c6 := (hb56.cell (p := ⟨b3, o3 + j, none⟩) (cellInL cu0)).trans cu0
              have HB6 := Lib.hid (HBq.out.trans (hb56.mono HBq.out.size))
              clear ho6 hb6 hb56 HQ5 HB5 cu0
              obtain ⟨pq, cq, rfl⟩ := HO6.out.form
              obtain ⟨nq, hnq⟩ : ∃ a, (outM l N y).length = a := ⟨_, rfl⟩
              have HNQ := Lib.hid hnq
              rw [hnq] at HO6 ⊢
              have hnq9 : nq ≤ 1000 := by have h := outM_len l N y; have := HNA.out; omega
              clear hnq
              by_cases hq0 : nq = 0
              · subst hq0
                clear c6
                go_wp2_with fail
                go_ret
                exact ⟨rfl, HBW.out.trans (HB6.out.mono HBW.out.size)⟩
              · have hq0' : 0 < nq := by omega
                have nz : ((nq : Int) == 0) = false := by simp; omega
                obtain ⟨f, hf1, hf2, hf3, hf4, hf5, hf6⟩ := tmod_two z nq hq0'
                obtain ⟨b4, o4, rfl, c4⟩ := HO6.out.cell (j := f) (by rw [HNQ.out]; exact hf1)
                have hme : (outM l N y)[f]'(by rw [HNQ.out]; exact hf1) ∈ outM l N y := List.getElem_mem _
                obtain ⟨x, hx⟩ : ∃ x, (outM l N y)[f]'(by rw [HNQ.out]; exact hf1) = x := ⟨_, rfl⟩
                rw [hx] at c4 hme
                have HGE := Lib.hid (outM_mem.1 hme)
                have HWN := Lib.hid (show Bf.Way (gEdge l N) I x (q ++ [x]) ∧ (q ++ [x]).length = j + 2 from ⟨way_snoc HWQ.out.1 HGE.out, by rw [List.length_append, HWQ.out.2]; rfl⟩)
                have hhas := has_pro zs vr (x : Nat) w6 HR6.out HZL.out
                rw [decide_eq_true (mem_ints.2 ((HZ2.out x).2 ⟨_, HWN.out.1⟩))] at hhas
                have HH6 := Lib.hid hhas
                have f1 : (f : Int) < nq := by omega
                clear hme hx hhas hf1 hq0 hq0'
                go_wp2_with fail
                refine HH6.out.mono ?_
                rintro e w7 ⟨rfl, rfl⟩
                obtain ⟨s, hs⟩ : ∃ s, ((x : Int) == (K : Int)) = s := ⟨_, rfl⟩
                cases s with
                | false =>
                  clear nz hf2 hf3 hf4 hf5 hf6 c4 c6
                  go_wp2_with fail
                  go_roundw
                  case measure => have := HJM.out; first | (simp [intOf]; done) | (simp [intOf]; omega)
                  case rel => exact ⟨j + 1, x, q ++ [x], rfl, by go_num, by have := HJM.out; omega, HWN, HB6.out⟩
                | true =>
                  have hxK : x = K := by have h := hs; simp at h; omega
                  have hlen := (HP.out.2 (q ++ [x]) (by rw [← hxK]; exact HWN.out.1)).1
                  rw [HNP.out, HWN.out.2] at hlen
                  have hw : IntKind.i64.wrap ((j : Int) + 1) = ((j + 1 : Nat) : Int) := by rw [IntWalk.i64_in _ (by omega)]; omega
                  have hj3 : ¬ (((j + 1 : Nat) : Int) < ((m - 1 : Nat) : Int)) := by omega
                  clear nz hf2 hf3 hf4 hf5 hf6 c4 c6 hlen hxK
                  go_wp2_with fail
                  go_roundw
                  case measure => have := HJM.out; first | (simp [intOf]; done) | (simp [intOf]; omega)
                  case rel => exact ⟨j + 1, x, q ++ [x], rfl, by go_num, by have := HJM.out; omega, HWN, HB6.out⟩
            · have hj2 : ¬ ((j : Int) < ((m - 1 : Nat) : Int)) := by omega
              clear hjn hjx hB2
              go_wp2_with fail
              go_ret
              exact ⟨rfl, HBW.out.trans (HBq.out.mono HBW.out.size)⟩
          · have hj1 : ¬ ((j : Int) < nx) := by omega
            clear hjx hB2
            go_wp2_with fail
            go_ret
            exact ⟨rfl, HBW.out.trans (HBq.out.mono HBW.out.size)⟩

set_option maxRecDepth 100000 in
theorem contract (H : Type) (enc : TypeId × Value → H) (W : World) (base : Nat) (args : Array Value) (ds gs : List (DataW H)) (before : List MemPlace)
    (hval : ∀ (j : Nat) t v, Try.f5.params[j]? = some t → args[j]? = some v → Value.okWide Try.prog W .any base t v)
    (hW : DataW.Whole enc Try.prog Try.f5.params.toList Rows.linkWaysSpec.vars false W args.toList ds gs before) (hsz0 : (DataW.weightsEach Try.prog (Try.f5.params.toList ++ Rows.linkWaysSpec.plain.varTypes Try.prog) (ds ++ gs)).all (· ≤ reachBytes) = true) :
    Calls Try.prog 5 args W fun e W' => ∃ v, e = .returned v ∧ Rows.linkWaysSpec.post enc Try.prog Try.f5 false true false false W args v W' := by
  have hW' := hW
  obtain ⟨p, q, hA0, hV, rfl, hfz, hnd⟩ := hW
  have hA : DataW.TrodAll enc Try.prog W 0 (fun _ => true) true Try.f5.params.toList args.toList ds p := hA0
  rw [Try.params5] at hA hval
  have hsz := hsz0
  rw [Try.params5] at hsz
  clear hsz0
  obtain ⟨v0, vs0, d0, ds0, p0, q0, hargs, rfl, rfl, h0, r0⟩ := trodAll_cons hA
  obtain ⟨v1, vs1, d1, ds1, p1, q1, rfl, rfl, rfl, h1, r1⟩ := trodAll_cons r0
  obtain ⟨v2, vs2, d2, ds2, p2, q2, rfl, rfl, rfl, h2, r2⟩ := trodAll_cons r1
  obtain ⟨v3, vs3, d3, ds3, p3, q3, rfl, rfl, rfl, h3, r3⟩ := trodAll_cons r2
  obtain ⟨v4, vs4, d4, ds4, p4, q4, rfl, rfl, rfl, h4, r4⟩ := trodAll_cons r3
  obtain ⟨rfl, rfl, rfl⟩ := trodAll_nil r4
  obtain rfl : args = #[v0, v1, v2, v3, v4] := by cases args; simp_all
  obtain ⟨rfl, rfl⟩ := trodVars_none hV
  have hk0 := h0
  obtain ⟨l0, hR0, hD0⟩ := refs_read h0 (okWide_slice Try.underlying22 (hval 0 22 v0 rfl rfl))
  obtain ⟨a1, rfl, rfl, rfl, w1⟩ := open_int Try.underlying3 (hval 1 3 v1 rfl rfl) h1
  obtain ⟨a2, rfl, rfl, rfl, w2⟩ := open_int Try.underlying3 (hval 2 3 v2 rfl rfl) h2
  obtain ⟨a3, rfl, rfl, rfl, w3⟩ := open_int Try.underlying3 (hval 3 3 v3 rfl rfl) h3
  have hk4 := h4
  obtain ⟨l4, hR4, hD4⟩ := ints_read h4 (okWide_slice Try.underlying23 (hval 4 23 v4 rfl rfl))
  clear hA0
  have size0 := refs_reach hsz (j := 0) rfl rfl hD0
  have size4 := ints_reach hsz (j := 4) rfl rfl hD4
  refine (walk v0 l0 a1 a2 a3 v4 l4 W hR0 size0 w1 w2 w3 hR4 size4).mono fun e W' ⟨he, hg⟩ => ?_
  subst he
  have hlt := hW'.lt
  exact ⟨_, rfl, post_of_below (pa := (p0 ++ ([] ++ ([] ++ ([] ++ (p4 ++ [])))))) (pv := []) hW' (fun _ _ _ => trodAll_cons_mk (shut_bool Try.underlying4 _) trodAll_mk0) (fun sp hsp => (trodAll_cons_mk (Go.WideElems.Trod_stays (by kernel_rfl) (by kernel_rfl) (of_decide_eq_true (by kernel_rfl)) hk0 (fun p hp => hg.same (hlt p (by simp [hp]))) (fun p hp => hsp p (by simp [hp]))) (trodAll_cons_mk (shut_int Try.underlying3 w1) (trodAll_cons_mk (shut_int Try.underlying3 w2) (trodAll_cons_mk (shut_int Try.underlying3 w3) (trodAll_cons_mk (Go.WideElems.Trod_stays (by kernel_rfl) (by kernel_rfl) (of_decide_eq_true (by kernel_rfl)) hk4 (fun p hp => hg.same (hlt p (by simp [hp]))) (fun p hp => hsp p (by simp [hp]))) trodAll_mk0)))))) (fun _ _ => rfl) rfl hg (ok_one (by kernel_rfl) rfl (okWide_bool_mk Try.underlying4 _))⟩

theorem witness_row (os : Os) {H : Type} (enc : TypeId × Value → H) :
    (OpenSpec.ofChange Rows.linkWaysSpec).preRow enc Try.prog Try.f5 Rows.linkWaysRow.domain false Rows.linkWaysRow.laid ((laidWorld os).forCall (fun _ _ => 0) ⟨#[], #[.slice none 0 0, .int .i64 0, .int .i64 0, .int .i64 0, .slice none 0 0], []⟩).memory #[.slice none 0 0, .int .i64 0, .int .i64 0, .int .i64 0, .slice none 0 0] := by
  have hw : (DataW.whole enc Try.prog ((laidWorld os).forCall (fun _ _ => 0) ⟨#[], #[.slice none 0 0, .int .i64 0, .int .i64 0, .int .i64 0, .slice none 0 0], []⟩).memory Try.f5.params.toList Rows.linkWaysSpec.vars false (#[.slice none 0 0, .int .i64 0, .int .i64 0, .int .i64 0, .slice none 0 0] : Array Value).toList 8).map (fun x => (x.1, x.2.1)) =
      some ([.nil, .lit (.int .i64 0), .lit (.int .i64 0), .lit (.int .i64 0), .nil], []) := by kernel_rfl
  obtain ⟨⟨x1, x2, x3⟩, hx, hx1⟩ := Option.map_eq_some_iff.1 hw
  simp only [Prod.mk.injEq] at hx1
  obtain ⟨rfl, rfl⟩ := hx1
  exact OpenSpec.preRow_of_cond 8 hx (by kernel_rfl) (fun k hk => by cases hk) (by kernel_rfl) (laid_met _)

set_option maxRecDepth 100000 in
theorem lifted (os : Os) (started : os.Started) (H : Type) (enc : TypeId × Value → H) (F : Stop.Interp) :
    ReturnsInHanded {} Try.checked os 5 .any ((OpenSpec.ofChange Rows.linkWaysSpec).preRow enc Try.prog Try.f5 Rows.linkWaysRow.domain false Rows.linkWaysRow.laid) (((OpenSpec.ofChange Rows.linkWaysSpec).at F).post enc Try.prog Try.f5 false true false false) := by
  refine returnsInHanded_of_row (C := Try.checked) (s := (OpenSpec.ofChange Rows.linkWaysSpec)) own started (by kernel_rfl) Try.func5
    (witness_row_at (enc := enc) (C := Try.checked) false (laidWorld os) #[.slice none 0 0, .int .i64 0, .int .i64 0, .int .i64 0, .slice none 0 0] rfl (by kernel_rfl) (by kernel_rfl) (by kernel_rfl) (witness_row os enc)) ?_
  intro W base args ds gs before hval hW _ hcond hsz hL hS _
  exact contract H enc W base args ds gs before hval hW hsz

set_option maxHeartbeats 16000000 in
theorem closed : joinedFacts Try.pinned.checked.prog 5 Try.f5 ((OpenSpec.ofChange Rows.linkWaysSpec)).bare Rows.linkWaysRow = true := by
  unfold joinedFacts
  repeat' (with_reducible refine Bool.and_eq_true_iff.2 ⟨?_, ?_⟩)
  all_goals (as_aux_lemma => kernel_rfl)
theorem named : Try.pinned.checked.prog.funcNamed Rows.linkWaysRow.func = some 5 := by kernel_rfl
theorem inst : (Try.f5).isInstance Try.pinned.checked.prog Rows.linkWaysRow.origin Rows.linkWaysRow.targs := of_decide_eq_true (by kernel_rfl)
theorem wrap : (Try.f5).isWrapper Try.pinned.checked.prog Rows.linkWaysRow.wrapper Rows.linkWaysRow.mainSum := by
  unfold Func.isWrapper
  first | (rw [if_pos (by decide +kernel)]; kernel_rfl) | (rw [if_neg (by decide +kernel)]; exact ⟨rfl, rfl⟩)
theorem row : Rows.LinkWaysSaid :=
  OpenClaim.holds_of_cond 5 Try.f5 rfl rfl rfl rfl rfl rfl rfl ⟨rfl, rfl, rfl, rfl, rfl⟩ rfl rfl rfl rfl rfl named Try.func5 closed inst wrap
    (fun os started H enc _ F => by rw [OpenClaim.pre_eq_preRow]; exact lifted os started H enc F)

theorem proved : Rows.LinkWaysSaid := row
end Go.Proofs.Ytjgcbobalmmjkaa.linkWays
