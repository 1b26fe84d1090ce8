/- What is proved: LinkAsks holds of any references, any number of topics and any two topics: the program's answers are the document's. -/
import Derived.Test.YtjgcbobalmmjkaaLkv
import Derived.Test.YtjgcbobalmmjkaaLkf
import Derived.Test.YtjgcbobalmmjkaaPost
import Derived.Test.YtjgcbobalmmjkaaLinkBack
import Derived.Test.YtjgcbobalmmjkaaLinkWays
import Derived.ProofKit
import Derived.OpenShut
import Derived.Deep.DeepHandedRow
namespace Go.Proofs.Ytjgcbobalmmjkaa
open Go.ChangeShapes Go.WideShapes Go.ChangeAt Go.RowKit
open Go.ChangeMaps (open_string shut_string)
set_option linter.unusedVariables false
theorem look_n {len : Nat} {n : Int} {zs : List Int} (h : lookE len n zs = 0) : n.toNat ≤ 1000 := by
  unfold lookE at h
  split at h
  · omega
  · split at h
    · omega
    · omega
/-- Two answers that are one. -/
def Same (w : World) (e : Ending) (w' : World) (zs : List Nat) (er : Int) : Prop := NewL zs er w e w' ∧ zs.length ≤ 1000000
theorem reach_one {l : List Rf} {n i : Int} {w : World} {e : Ending} {w' : World} (h : ReachIs l n i w e w') : ∃ zs, NewL zs (lookE l.length n [i]) w e w' ∧ zs.length ≤ 1000000 ∧ (lookE l.length n [i] ≠ 0 → zs = []) ∧ (lookE l.length n [i] = 0 → zs.Pairwise (· < ·) ∧ ∀ x, x ∈ zs ↔ ∃ p, Bf.Way (gEdge l n.toNat) i.toNat x p) := by
  obtain ⟨zs, h1, h2, h3⟩ := h
  refine ⟨zs, h1, ?_, h2, h3⟩
  by_cases h0 : lookE l.length n [i] = 0
  · obtain ⟨a, N, I, rfl, rfl, b, c⟩ := look_ok h0
    obtain ⟨h4, h5⟩ := h3 h0
    have := reach_len c h4 h5
    omega
  · rw [h2 h0]; simp
theorem reach_same {l : List Rf} {n i : Int} {zs ys : List Nat} (h1 : lookE l.length n [i] ≠ 0 → zs = []) (h2 : lookE l.length n [i] = 0 → zs.Pairwise (· < ·) ∧ ∀ x, x ∈ zs ↔ ∃ p, Bf.Way (gEdge l n.toNat) i.toNat x p)
    (k1 : lookE l.length n [i] ≠ 0 → ys = []) (k2 : lookE l.length n [i] = 0 → ys.Pairwise (· < ·) ∧ ∀ x, x ∈ ys ↔ ∃ p, Bf.Way (gEdge l n.toNat) i.toNat x p) : ys = zs := by
  by_cases h0 : lookE l.length n [i] = 0
  · exact inc_nat (k2 h0).1 (h2 h0).1 fun x => ((k2 h0).2 x).trans ((h2 h0).2 x).symm
  · rw [h1 h0, k1 h0]
/-- What Way answers, as one list and one number. -/
def WayOne (l : List Rf) (n i k : Int) (zs : List Nat) (er : Int) : Prop :=
  (lookE l.length n [i, k] ≠ 0 ∧ zs = [] ∧ er = lookE l.length n [i, k]) ∨
  (lookE l.length n [i, k] = 0 ∧ (¬ ∃ p, Bf.Way (gEdge l n.toNat) i.toNat k.toNat p) ∧ zs = [] ∧ er = 3) ∨
  (lookE l.length n [i, k] = 0 ∧ Bf.FirstWay (gEdge l n.toNat) i.toNat k.toNat zs ∧ er = 0)
theorem WayOne.same {l : List Rf} {n i k : Int} {zs ys : List Nat} {er es : Int} (h : WayOne l n i k zs er) (g : WayOne l n i k ys es) : ys = zs ∧ es = er := by
  rcases h with ⟨h1, rfl, rfl⟩ | ⟨h1, h2, rfl, rfl⟩ | ⟨h1, h2, rfl⟩ <;> rcases g with ⟨g1, rfl, rfl⟩ | ⟨g1, g2, rfl, rfl⟩ | ⟨g1, g2, rfl⟩
  · exact ⟨rfl, rfl⟩
  · exact absurd g1 h1
  · exact absurd g1 h1
  · exact absurd h1 g1
  · exact ⟨rfl, rfl⟩
  · exact absurd ⟨_, g2.1⟩ h2
  · exact absurd h1 g1
  · exact absurd ⟨_, h2.1⟩ g2
  · exact ⟨g2.one h2, rfl⟩
theorem way_one' {l : List Rf} {n i k : Int} {w : World} {e : Ending} {w' : World} (h : WayIs l n i k w e w') : ∃ zs er, NewL zs er w e w' ∧ zs.length ≤ 1000000 ∧ WayOne l n i k zs er := by
  rcases h with ⟨h1, h2⟩ | ⟨h1, h2, h3⟩ | ⟨h1, p, h2, h3, h4, h5⟩
  · exact ⟨_, _, h2, by simp, .inl ⟨h1, rfl, rfl⟩⟩
  · exact ⟨_, _, h3, by simp, .inr (.inl ⟨h1, h2, rfl, rfl⟩)⟩
  · exact ⟨_, _, h5, by have := look_n h1; omega, .inr (.inr ⟨h1, h2, rfl⟩)⟩
theorem way_two' {l : List Rf} {n i k : Int} {w : World} {e : Ending} {w' : World} (h : WayD l n i k w e w') : ∃ zs er, NewL zs er w e w' ∧ WayOne l n i k zs er := by
  rcases h with ⟨h1, h2⟩ | ⟨h1, h2, h3⟩ | ⟨h1, p, h2, h5⟩
  · exact ⟨_, _, h2, .inl ⟨h1, rfl, rfl⟩⟩
  · exact ⟨_, _, h3, .inr (.inl ⟨h1, h2, rfl, rfl⟩)⟩
  · exact ⟨_, _, h5, .inr (.inr ⟨h1, h2, rfl⟩)⟩
theorem out_small {l : List Rf} {n i : Int} : (if lookE l.length n [i] = 0 then outM l n.toNat i.toNat else []).length ≤ 1000000 := by
  split
  · rename_i h; exact out_len (look_n h)
  · simp
theorem into_small {l : List Rf} {n i : Int} : (if lookE l.length n [i] = 0 then intoM l n.toNat i.toNat else []).length ≤ 1000000 := by
  split
  · rename_i h; exact into_len (look_n h)
  · simp
theorem alone_small {l : List Rf} {n : Int} : (if lookE l.length n [] = 0 then aloneM l n.toNat else []).length ≤ 1000000 := by
  split
  · rename_i h; exact alone_len (look_n h)
  · simp
namespace linkAsks
set_option maxRecDepth 100000 in
set_option maxHeartbeats 16000000 in
theorem walk (v : Value) (l : List Rf) (n i k : Int) (W : World) (hs : RdR W v l ∧ ∀ r ∈ l, FitR r) (hsz : l.length * 56 ≤ 140737488351232) (hn : (Lit.int .i64 n).wf = true) (hi : (Lit.int .i64 i).wf = true) (hk : (Lit.int .i64 k).wf = true) :
    Calls Try.prog 3 #[v, .int .i64 n, .int .i64 i, .int .i64 k] W fun e W' => e = .returned (.bool true) ∧ Below W.heap.size W W' := by
  obtain ⟨pl, cl, rfl, hcl, hcm⟩ := hs.1.form
  have HL0 := Lib.hid hs.1
  have HB0 := Lib.hid (Below.refl W.heap.size W)
  have HLL := Lib.hid (show l.length ≤ 140737488355328 by omega)
  have HLN := Lib.hid (show l.length * 56 ≤ 140737488355328 by omega)
  clear hs hsz hn hi hk hcl hcm
  go_enter Try.func3, Try.ntmps3
  go_wp2_with fail
  refine (twin_pro l _ _ HL0.out HLN.out).mono ?_
  rintro e wa0 ⟨vt0, rfl, hR, hb⟩
  have HQ := Lib.hid (out_pro l vt0 n i wa0 hR HLL.out)
  have HBa0 := Lib.hid (HB0.out.trans (hb.mono HB0.out.size))
  have HLa0 := Lib.hid (HL0.out.below hb)
  clear hR hb
  go_wp2_with fail
  refine HQ.out.mono ?_
  rintro e wb0 ⟨vp0, rfl, ho, hb⟩
  have HZ0 := Lib.hid (out_small (l := l) (n := n) (i := i))
  obtain ⟨zs0, hzs0⟩ : ∃ zs, (if lookE l.length n [i] = 0 then outM l n.toNat i.toNat else []) = zs := ⟨_, rfl⟩
  obtain ⟨er0, her0⟩ : ∃ er, lookE l.length n [i] = er := ⟨_, rfl⟩
  rw [hzs0] at ho HZ0
  rw [her0]
  have HZE0 := Lib.hid hzs0
  have HER0 := Lib.hid her0
  clear hzs0 her0
  have HBb0 := Lib.hid (HBa0.out.trans (hb.mono HBa0.out.size))
  have HLb0 := Lib.hid (HLa0.out.below hb)
  have HV := Lib.hid (show RdI wb0 vp0 zs0 from RdI.own ho rfl)
  have HQ2 := Lib.hid (out_doc l (.slice pl l.length cl) n i wb0 HLb0.out HLL.out)
  clear ho hb HQ
  go_wp2_with fail
  refine HQ2.out.mono ?_
  rw [HZE0.out, HER0.out]
  rintro e wc0 ⟨vd0, rfl, ho, hb⟩
  have HBc0 := Lib.hid (HBb0.out.trans (hb.mono HBb0.out.size))
  have HLc0 := Lib.hid (HLb0.out.below hb)
  have HI := Lib.hid (ints_pro zs0 vp0 vd0 wc0 (HV.out.below hb) (RdI.own ho rfl) HZ0.out)
  have te0 : (er0 != er0) = false := by simp
  have tf0 : (er0 == er0) = true := by simp
  clear ho hb HQ2 HV
  go_wp2_with fail
  refine HI.out.mono ?_
  rintro e wd0 ⟨rfl, hb⟩
  have HBd0 := Lib.hid (HBc0.out.trans (hb.mono HBc0.out.size))
  have HLd0 := Lib.hid (HLc0.out.below hb)
  clear hb HI
  go_wp2_with fail
  refine (awake_law wd0).mono ?_
  rintro e w1 ⟨rfl, hb⟩
  have HB1 := Lib.hid (HBd0.out.trans (hb.mono HBd0.out.size))
  have HL1 := Lib.hid (HLd0.out.below hb)
  clear hb
  go_wp2_with fail
  refine (twin_pro l _ _ HL1.out HLN.out).mono ?_
  rintro e wa1 ⟨vt1, rfl, hR, hb⟩
  have HQ := Lib.hid (into_pro l vt1 n i wa1 hR HLL.out)
  have HBa1 := Lib.hid (HB1.out.trans (hb.mono HB1.out.size))
  have HLa1 := Lib.hid (HL1.out.below hb)
  clear hR hb
  go_wp2_with fail
  refine HQ.out.mono ?_
  rintro e wb1 ⟨vp1, rfl, ho, hb⟩
  have HZ1 := Lib.hid (into_small (l := l) (n := n) (i := i))
  obtain ⟨zs1, hzs1⟩ : ∃ zs, (if lookE l.length n [i] = 0 then intoM l n.toNat i.toNat else []) = zs := ⟨_, rfl⟩
  obtain ⟨er1, her1⟩ : ∃ er, lookE l.length n [i] = er := ⟨_, rfl⟩
  rw [hzs1] at ho HZ1
  rw [her1]
  have HZE1 := Lib.hid hzs1
  have HER1 := Lib.hid her1
  clear hzs1 her1
  have HBb1 := Lib.hid (HBa1.out.trans (hb.mono HBa1.out.size))
  have HLb1 := Lib.hid (HLa1.out.below hb)
  have HV := Lib.hid (show RdI wb1 vp1 zs1 from RdI.own ho rfl)
  have HQ2 := Lib.hid (into_doc l (.slice pl l.length cl) n i wb1 HLb1.out HLL.out)
  clear ho hb HQ
  go_wp2_with fail
  refine HQ2.out.mono ?_
  rw [HZE1.out, HER1.out]
  rintro e wc1 ⟨vd1, rfl, ho, hb⟩
  have HBc1 := Lib.hid (HBb1.out.trans (hb.mono HBb1.out.size))
  have HLc1 := Lib.hid (HLb1.out.below hb)
  have HI := Lib.hid (ints_pro zs1 vp1 vd1 wc1 (HV.out.below hb) (RdI.own ho rfl) HZ1.out)
  have te1 : (er1 != er1) = false := by simp
  have tf1 : (er1 == er1) = true := by simp
  clear ho hb HQ2 HV
  go_wp2_with fail
  refine HI.out.mono ?_
  rintro e w2 ⟨rfl, hb⟩
  have HB2 := Lib.hid (HBc1.out.trans (hb.mono HBc1.out.size))
  have HL2 := Lib.hid (HLc1.out.below hb)
  clear hb HI
  go_wp2_with fail
  refine (twin_pro l _ _ HL2.out HLN.out).mono ?_
  rintro e wa2 ⟨vt2, rfl, hR, hb⟩
  have HQ := Lib.hid (alone_pro l vt2 n wa2 hR HLL.out)
  have HBa2 := Lib.hid (HB2.out.trans (hb.mono HB2.out.size))
  have HLa2 := Lib.hid (HL2.out.below hb)
  clear hR hb
  go_wp2_with fail
  refine HQ.out.mono ?_
  rintro e wb2 ⟨vp2, rfl, ho, hb⟩
  have HZ2 := Lib.hid (alone_small (l := l) (n := n))
  obtain ⟨zs2, hzs2⟩ : ∃ zs, (if lookE l.length n [] = 0 then aloneM l n.toNat else []) = zs := ⟨_, rfl⟩
  obtain ⟨er2, her2⟩ : ∃ er, lookE l.length n [] = er := ⟨_, rfl⟩
  rw [hzs2] at ho HZ2
  rw [her2]
  have HZE2 := Lib.hid hzs2
  have HER2 := Lib.hid her2
  clear hzs2 her2
  have HBb2 := Lib.hid (HBa2.out.trans (hb.mono HBa2.out.size))
  have HLb2 := Lib.hid (HLa2.out.below hb)
  have HV := Lib.hid (show RdI wb2 vp2 zs2 from RdI.own ho rfl)
  have HQ2 := Lib.hid (alone_doc l (.slice pl l.length cl) n wb2 HLb2.out HLL.out)
  clear ho hb HQ
  go_wp2_with fail
  refine HQ2.out.mono ?_
  rw [HZE2.out, HER2.out]
  rintro e wc2 ⟨vd2, rfl, ho, hb⟩
  have HBc2 := Lib.hid (HBb2.out.trans (hb.mono HBb2.out.size))
  have HLc2 := Lib.hid (HLb2.out.below hb)
  have HI := Lib.hid (ints_pro zs2 vp2 vd2 wc2 (HV.out.below hb) (RdI.own ho rfl) HZ2.out)
  have te2 : (er2 != er2) = false := by simp
  have tf2 : (er2 == er2) = true := by simp
  clear ho hb HQ2 HV
  go_wp2_with fail
  refine HI.out.mono ?_
  rintro e w3 ⟨rfl, hb⟩
  have HB3 := Lib.hid (HBc2.out.trans (hb.mono HBc2.out.size))
  have HL3 := Lib.hid (HLc2.out.below hb)
  clear hb HI
  go_wp2_with fail
  refine (twin_pro l _ _ HL3.out HLN.out).mono ?_
  rintro e wa3 ⟨vt3, rfl, hR, hb⟩
  have HQ := Lib.hid (reach_pro l vt3 n i wa3 hR HLL.out)
  have HBa3 := Lib.hid (HB3.out.trans (hb.mono HB3.out.size))
  have HLa3 := Lib.hid (HL3.out.below hb)
  clear hR hb
  go_wp2_with fail
  refine HQ.out.mono ?_
  intro e wb3 hri
  obtain ⟨zs3, ⟨vp3, rfl, ho, hb⟩, hz, k1, k2⟩ := reach_one hri
  have HZ3 := Lib.hid hz
  have HK1 := Lib.hid k1
  have HK2 := Lib.hid k2
  obtain ⟨er3, her3⟩ : ∃ er, lookE l.length n [i] = er := ⟨_, rfl⟩
  rw [her3]
  have HER3 := Lib.hid her3
  clear her3 hri hz k1 k2
  have HBb3 := Lib.hid (HBa3.out.trans (hb.mono HBa3.out.size))
  have HLb3 := Lib.hid (HLa3.out.below hb)
  have HV := Lib.hid (show RdI wb3 vp3 zs3 from RdI.own ho rfl)
  have HQ2 := Lib.hid (reach_doc l (.slice pl l.length cl) n i wb3 HLb3.out HLL.out)
  clear ho hb HQ
  go_wp2_with fail
  refine HQ2.out.mono ?_
  intro e wc3 hri
  obtain ⟨ys, ⟨vd3, rfl, ho, hb⟩, _, k1, k2⟩ := reach_one hri
  obtain rfl := (reach_same HK1.out HK2.out k1 k2).symm
  rw [HER3.out]
  clear hri k1 k2 HK1 HK2
  have HBc3 := Lib.hid (HBb3.out.trans (hb.mono HBb3.out.size))
  have HLc3 := Lib.hid (HLb3.out.below hb)
  have HI := Lib.hid (ints_pro zs3 vp3 vd3 wc3 (HV.out.below hb) (RdI.own ho rfl) HZ3.out)
  have te3 : (er3 != er3) = false := by simp
  have tf3 : (er3 == er3) = true := by simp
  clear ho hb HQ2 HV
  go_wp2_with fail
  refine HI.out.mono ?_
  rintro e w4 ⟨rfl, hb⟩
  have HB4 := Lib.hid (HBc3.out.trans (hb.mono HBc3.out.size))
  have HL4 := Lib.hid (HLc3.out.below hb)
  clear hb HI
  go_wp2_with fail
  refine (twin_pro l _ _ HL4.out HLN.out).mono ?_
  rintro e wa4 ⟨vt4, rfl, hR, hb⟩
  have HQ := Lib.hid (way_pro l vt4 n i k wa4 hR HLL.out)
  have HBa4 := Lib.hid (HB4.out.trans (hb.mono HB4.out.size))
  have HLa4 := Lib.hid (HL4.out.below hb)
  clear hR hb
  go_wp2_with fail
  refine HQ.out.mono ?_
  intro e wb4 hri
  obtain ⟨zs4, er4, ⟨vp4, rfl, ho, hb⟩, hz, k1⟩ := way_one' hri
  have HZ4 := Lib.hid hz
  have HK1 := Lib.hid k1
  clear hri hz k1
  have HBb4 := Lib.hid (HBa4.out.trans (hb.mono HBa4.out.size))
  have HLb4 := Lib.hid (HLa4.out.below hb)
  have HV := Lib.hid (show RdI wb4 vp4 zs4 from RdI.own ho rfl)
  have HQ2 := Lib.hid (way_doc l (.slice pl l.length cl) n i k wb4 HLb4.out HLL.out)
  clear ho hb HQ
  go_wp2_with fail
  refine HQ2.out.mono ?_
  intro e wc4 hri
  obtain ⟨ys, es, ⟨vd4, rfl, ho, hb⟩, k1⟩ := way_two' hri
  obtain ⟨rfl, rfl⟩ := k1.same HK1.out
  clear hri k1 HK1
  have HBc4 := Lib.hid (HBb4.out.trans (hb.mono HBb4.out.size))
  have HLc4 := Lib.hid (HLb4.out.below hb)
  have HI := Lib.hid (ints_pro zs4 vp4 vd4 wc4 (HV.out.below hb) (RdI.own ho rfl) HZ4.out)
  have te4 : (er4 != er4) = false := by simp
  have tf4 : (er4 == er4) = true := by simp
  clear ho hb HQ2 HV
  go_wp2_with fail
  refine HI.out.mono ?_
  rintro e w5 ⟨rfl, hb⟩
  have HB5 := Lib.hid (HBc4.out.trans (hb.mono HBc4.out.size))
  have HL5 := Lib.hid (HLc4.out.below hb)
  clear hb HI
  go_wp2_with fail
  go_ret
  exact ⟨rfl, HB5.out⟩

set_option maxRecDepth 100000 in
theorem contract (H : Type) (enc : TypeId × Value → H) (W : World) (base : Nat) (args : Array Value) (ds gs : List (DataW H)) (before : List MemPlace)
    (hval : ∀ (j : Nat) t v, Try.f3.params[j]? = some t → args[j]? = some v → Value.okWide Try.prog W .any base t v)
    (hW : DataW.Whole enc Try.prog Try.f3.params.toList Rows.linkAsksSpec.vars false W args.toList ds gs before) (hsz0 : (DataW.weightsEach Try.prog (Try.f3.params.toList ++ Rows.linkAsksSpec.plain.varTypes Try.prog) (ds ++ gs)).all (· ≤ reachBytes) = true) :
    Calls Try.prog 3 args W fun e W' => ∃ v, e = .returned v ∧ Rows.linkAsksSpec.post enc Try.prog Try.f3 false true false false W args v W' := by
  have hW' := hW
  obtain ⟨p, q, hA0, hV, rfl, hfz, hnd⟩ := hW
  have hA : DataW.TrodAll enc Try.prog W 0 (fun _ => true) true Try.f3.params.toList args.toList ds p := hA0
  rw [Try.params3] at hA hval
  have hsz := hsz0
  rw [Try.params3] at hsz
  clear hsz0
  obtain ⟨v0, vs0, d0, ds0, p0, q0, hargs, rfl, rfl, h0, r0⟩ := trodAll_cons hA
  obtain ⟨v1, vs1, d1, ds1, p1, q1, rfl, rfl, rfl, h1, r1⟩ := trodAll_cons r0
  obtain ⟨v2, vs2, d2, ds2, p2, q2, rfl, rfl, rfl, h2, r2⟩ := trodAll_cons r1
  obtain ⟨v3, vs3, d3, ds3, p3, q3, rfl, rfl, rfl, h3, r3⟩ := trodAll_cons r2
  obtain ⟨rfl, rfl, rfl⟩ := trodAll_nil r3
  obtain rfl : args = #[v0, v1, v2, v3] := by cases args; simp_all
  obtain ⟨rfl, rfl⟩ := trodVars_none hV
  have hk0 := h0
  obtain ⟨l0, hR0, hD0⟩ := refs_read h0 (okWide_slice Try.underlying22 (hval 0 22 v0 rfl rfl))
  obtain ⟨a1, rfl, rfl, rfl, w1⟩ := open_int Try.underlying3 (hval 1 3 v1 rfl rfl) h1
  obtain ⟨a2, rfl, rfl, rfl, w2⟩ := open_int Try.underlying3 (hval 2 3 v2 rfl rfl) h2
  obtain ⟨a3, rfl, rfl, rfl, w3⟩ := open_int Try.underlying3 (hval 3 3 v3 rfl rfl) h3
  clear hA0
  have size0 := refs_reach hsz (j := 0) rfl rfl hD0
  refine (walk v0 l0 a1 a2 a3 W hR0 size0 w1 w2 w3).mono fun e W' ⟨he, hg⟩ => ?_
  subst he
  have hlt := hW'.lt
  exact ⟨_, rfl, post_of_below (pa := (p0 ++ ([] ++ ([] ++ ([] ++ []))))) (pv := []) hW' (fun _ _ _ => trodAll_cons_mk (shut_bool Try.underlying4 _) trodAll_mk0) (fun sp hsp => (trodAll_cons_mk (Go.WideElems.Trod_stays (by kernel_rfl) (by kernel_rfl) (of_decide_eq_true (by kernel_rfl)) hk0 (fun p hp => hg.same (hlt p (by simp [hp]))) (fun p hp => hsp p (by simp [hp]))) (trodAll_cons_mk (shut_int Try.underlying3 w1) (trodAll_cons_mk (shut_int Try.underlying3 w2) (trodAll_cons_mk (shut_int Try.underlying3 w3) trodAll_mk0))))) (fun _ _ => rfl) rfl hg (ok_one (by kernel_rfl) rfl (okWide_bool_mk Try.underlying4 _))⟩

theorem witness_row (os : Os) {H : Type} (enc : TypeId × Value → H) :
    (OpenSpec.ofChange Rows.linkAsksSpec).preRow enc Try.prog Try.f3 Rows.linkAsksRow.domain false Rows.linkAsksRow.laid ((laidWorld os).forCall (fun _ _ => 0) ⟨#[], #[.slice none 0 0, .int .i64 0, .int .i64 0, .int .i64 0], []⟩).memory #[.slice none 0 0, .int .i64 0, .int .i64 0, .int .i64 0] := by
  have hw : (DataW.whole enc Try.prog ((laidWorld os).forCall (fun _ _ => 0) ⟨#[], #[.slice none 0 0, .int .i64 0, .int .i64 0, .int .i64 0], []⟩).memory Try.f3.params.toList Rows.linkAsksSpec.vars false (#[.slice none 0 0, .int .i64 0, .int .i64 0, .int .i64 0] : Array Value).toList 8).map (fun x => (x.1, x.2.1)) =
      some ([.nil, .lit (.int .i64 0), .lit (.int .i64 0), .lit (.int .i64 0)], []) := by kernel_rfl
  obtain ⟨⟨x1, x2, x3⟩, hx, hx1⟩ := Option.map_eq_some_iff.1 hw
  simp only [Prod.mk.injEq] at hx1
  obtain ⟨rfl, rfl⟩ := hx1
  exact OpenSpec.preRow_of_cond 8 hx (by kernel_rfl) (fun k hk => by cases hk) (by kernel_rfl) (laid_met _)

set_option maxRecDepth 100000 in
theorem lifted (os : Os) (started : os.Started) (H : Type) (enc : TypeId × Value → H) (F : Stop.Interp) :
    ReturnsInHanded {} Try.checked os 3 .any ((OpenSpec.ofChange Rows.linkAsksSpec).preRow enc Try.prog Try.f3 Rows.linkAsksRow.domain false Rows.linkAsksRow.laid) (((OpenSpec.ofChange Rows.linkAsksSpec).at F).post enc Try.prog Try.f3 false true false false) := by
  refine returnsInHanded_of_row (C := Try.checked) (s := (OpenSpec.ofChange Rows.linkAsksSpec)) own started (by kernel_rfl) Try.func3
    (witness_row_at (enc := enc) (C := Try.checked) false (laidWorld os) #[.slice none 0 0, .int .i64 0, .int .i64 0, .int .i64 0] rfl (by kernel_rfl) (by kernel_rfl) (by kernel_rfl) (witness_row os enc)) ?_
  intro W base args ds gs before hval hW _ hcond hsz hL hS _
  exact contract H enc W base args ds gs before hval hW hsz

set_option maxHeartbeats 16000000 in
theorem closed : joinedFacts Try.pinned.checked.prog 3 Try.f3 ((OpenSpec.ofChange Rows.linkAsksSpec)).bare Rows.linkAsksRow = true := by
  unfold joinedFacts
  repeat' (with_reducible refine Bool.and_eq_true_iff.2 ⟨?_, ?_⟩)
  all_goals (as_aux_lemma => kernel_rfl)
theorem named : Try.pinned.checked.prog.funcNamed Rows.linkAsksRow.func = some 3 := by kernel_rfl
theorem inst : (Try.f3).isInstance Try.pinned.checked.prog Rows.linkAsksRow.origin Rows.linkAsksRow.targs := of_decide_eq_true (by kernel_rfl)
theorem wrap : (Try.f3).isWrapper Try.pinned.checked.prog Rows.linkAsksRow.wrapper Rows.linkAsksRow.mainSum := by
  unfold Func.isWrapper
  first | (rw [if_pos (by decide +kernel)]; kernel_rfl) | (rw [if_neg (by decide +kernel)]; exact ⟨rfl, rfl⟩)
theorem row : Rows.LinkAsksSaid :=
  OpenClaim.holds_of_cond 3 Try.f3 rfl rfl rfl rfl rfl rfl rfl ⟨rfl, rfl, rfl, rfl, rfl⟩ rfl rfl rfl rfl rfl named Try.func3 closed inst wrap
    (fun os started H enc _ F => by rw [OpenClaim.pre_eq_preRow]; exact lifted os started H enc F)

theorem proved : Rows.LinkAsksSaid := row
end Go.Proofs.Ytjgcbobalmmjkaa.linkAsks
