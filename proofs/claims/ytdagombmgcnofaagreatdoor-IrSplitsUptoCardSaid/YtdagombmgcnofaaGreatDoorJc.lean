/- Layer 11: the program's Join, where it answers. -/
import Derived.Test.YtdagombmgcnofaaGreatDoorJb
namespace Go.Proofs.YtdagombmgcnofaaGreatDoor.Ir
open Go.RowKit Go.Maps Go.Proofs.YtdagombmgcnofaaGreatDoor
set_option linter.unusedVariables false
set_option linter.unusedSimpArgs false
theorem bare_back (x : Opr) (h : x.k = 1) : (⟨(bareO x).k, (bareO x).n, x.t, (bareO x).w⟩ : Opr) = x := by
  cases x
  simp only at h
  subst h
  simp [bareO]
theorem sumT_drop : ∀ (l : List Opr) (k : Nat), sumT (l.drop k) ≤ sumT l
  | [], k => by simp
  | x :: l, 0 => by simp
  | x :: l, k + 1 => by have := sumT_drop l k; simp only [List.drop_succ_cons, sumT]; omega
theorem sumT_split : ∀ (l : List Opr) (k : Nat), sumT (l.take k) + sumT (l.drop k) = sumT l
  | [], k => by simp [sumT]
  | x :: l, 0 => by simp [sumT]
  | x :: l, k + 1 => by have := sumT_split l k; simp only [List.take_succ_cons, List.drop_succ_cons, sumT]; omega
set_option maxRecDepth 100000 in
set_option maxHeartbeats 4000000 in
theorem join_pro {P Q : Nat → Prop} (l : List Opr) (v u : Value) (w : World) (h : RdO P w v (l.map bareO)) (hu : RdZ Q w u (longsL l)) (hl : l.length * 56 ≤ 140737488355328) (hlw : ∀ x ∈ l, x.w.length * 8 ≤ 140737488355328) (hp : ∀ x ∈ l, x.k = 1 → 1 ≤ x.t.size) (hz : sumT l ≤ 1000000000) :
    Calls Tryz.prog 24 #[v, u, .string ⟨(textL l).toArray⟩] w (MakesJ l w) := by
  have HCl := Lib.hid (cloned_pro (l.map bareO) v w h (by rw [List.length_map]; exact hl) (by
    intro x hx
    obtain ⟨y, hy, rfl⟩ := List.mem_map.1 hx
    have := hlw y hy
    unfold bareO
    split <;> exact this))
  have HCn := Lib.hid (count_pro (l.map bareO) v w h)
  rw [longsL_bare] at HCn
  have hge : ∀ z ∈ longsL l, (1 : Int) ≤ z := by
    clear HCl HCn h hu hl hlw hz
    induction l with
    | nil => intro z hz; simp [longsL] at hz
    | cons x l ih =>
      intro z hz
      rw [longsL, List.mem_append] at hz
      rcases hz with hz | hz
      · by_cases hk : x.k = 1
        · simp [hk] at hz
          have := hp x (by simp) hk
          omega
        · simp [hk] at hz
      · exact ih (fun y hy => hp y (by simp [hy])) z hz
  have HAB := Lib.hid (fun W (hb : Below w.heap.size w W) => anyBelow_pro (longsL l) u W (hu.below hb) hge)
  have HU := Lib.hid hu
  obtain ⟨pa, cap, rfl, hc1, hc2⟩ := sliceN h
  obtain ⟨pu, cu, rfl, hd1, hd2⟩ := hu.form
  have HZ := Lib.hid hz
  have hhb : ∀ (W : World), Below w.heap.size w W → RdO P W (.slice pa (l.map bareO).length cap) (l.map bareO) := fun W hb => h.below hb
  have HCl2 := Lib.hid (fun (W : World) (hb : Below w.heap.size w W) => cloned_pro (l.map bareO) _ W (hhb W hb) (by rw [List.length_map]; exact hl) (by
    intro x hx
    obtain ⟨y, hy, rfl⟩ := List.mem_map.1 hx
    have := hlw y hy
    unfold bareO
    split <;> exact this))
  have hml : (l.map bareO).length = l.length := List.length_map _
  obtain ⟨n, hn⟩ : ∃ n, l.length = n := ⟨_, rfl⟩
  have HN := Lib.hid hn
  have hn62 : n ≤ 9223372036854775807 := by omega
  rw [hml, hn] at HCn HCl2 ⊢
  obtain ⟨m, hm⟩ : ∃ m, (longsL l).length = m := ⟨_, rfl⟩
  have HM := Lib.hid hm
  rw [hm] at HCn HAB HU ⊢
  have HUB := HU
  clear h hu hl hlw hz hn hc1 hge HCl hhb hml hm hd1 hd2 hp
  go_enter Tryz.func24, Tryz.ntmps24
  go_wp2_with fail
  refine HCn.out.mono ?_
  rintro e w1 ⟨rfl, hb⟩
  have HB1 := Lib.hid hb
  clear hb
  go_wp2_with fail
  refine (HAB.out _ HB1.out).mono ?_
  rintro e w2 ⟨rfl, hb⟩
  have HB2 := Lib.hid (HB1.out.trans (hb.mono HB1.out.size))
  clear hb
  go_wp2_with fail
  refine (HCl2.out _ HB2.out).mono ?_
  rintro e w3 ⟨v1, ps, rfl, ho, hps, hb⟩
  have hpl : ps.length = n := by have := congrArg List.length hps; rw [List.length_map, List.length_map] at this; rw [this]; exact HN.out
  obtain ⟨p1, c1, rfl⟩ := lenL ho.row
  rw [hpl] at ho ⊢
  have HO1 := Lib.hid (ho.lower HB2.out.size)
  have HB3 := Lib.hid (HB2.out.trans (hb.mono HB2.out.size))
  have HQ1 := Lib.hid (show ps.map (·.1) = mix l 0 by rw [mix_zero]; exact hps)
  have HPL := Lib.hid hpl
  clear ho hps hb hpl
  go_wp2_with fail
  go_loopw [1, 2, 25] (fun s1 s2 i wr => ∃ (k : Nat) (qs : List (Opr × Value)), i = .int .i64 k ∧ k ≤ n ∧ qs.length = n ∧ Hid (s2 = .string ⟨(textL (l.drop k)).toArray⟩) ∧ Hid (RdZ Q w s1 (longsL (l.drop k))) ∧ Hid (qs.map (·.1) = mix l k) ∧ Hid (OwnO w.heap.size wr (.slice p1 n c1) qs) ∧ Hid (Below w.heap.size w wr)) (fun _ _ i _ => n - (intOf i).toNat)
  case atStart => exact ⟨0, ps, rfl, Nat.zero_le _, HPL.out, Lib.hid rfl, HUB, HQ1, HO1, HB3⟩
  case round =>
    obtain ⟨k, qs, rfl, hk, hql, HS2, HS1, HQ, HO, HB⟩ := hrel
    have hs2 := HS2.out
    subst hs2
    clear HS2
    have HQL := Lib.hid hql
    obtain ⟨pv, cv, rfl, _, hv2⟩ := HS1.out.form
    by_cases hlt : k < n
    · have hkl : k < l.length := by rw [HN.out]; exact hlt
      have hkq : k < qs.length := by omega
      obtain ⟨g, cap', e, hBg, hgl, _, _, d0, d1, d2, d3⟩ := row_cells HO.out.row hkq
      rw [hql] at e
      cases e
      have hq1 : (qs[k]'hkq).1 = bareO (l[k]'hkl) := by
        have h9 : (qs.map (·.1))[k]? = (mix l k)[k]? := by rw [HQ.out]
        rw [List.getElem?_map, List.getElem?_eq_getElem hkq, List.getElem?_eq_getElem (by rw [mix_len]; exact hkl), mix_at hkl] at h9
        exact Option.some.inj h9
      have HMS := Lib.hid (mix_succ hkl)
      have ht1 := textL_drop hkl
      have hl1 := longsL_drop hkl
      have hsz : l[k].t.size + (textL (l.drop (k + 1))).length ≤ 2000000000 := by
        have h1 := textL_len (l.drop (k + 1))
        have h2 := sumT_take hkl
        have h3 := sumT_le l (k + 1)
        have := HZ.out
        have h4 := sumT_drop l (k + 1)
        have h5 := sumT_split l (k + 1)
        omega
      have HOT := Lib.hid (fun (W : World) (h : OwnO w.heap.size W (.slice (some ⟨g, 0, none⟩) n c1) qs) => OwnO.text hql.symm h hkq (l[k]'hkl).t)
      rw [hq1] at d0 d1 d2 HOT
      obtain ⟨x, hx⟩ : ∃ x, l[k]'hkl = x := ⟨_, rfl⟩
      rw [hx] at d0 d1 d2 HMS ht1 hl1 hsz HOT
      have k1 : (k : Int) < n := by omega
      have HLT := Lib.hid hlt
      have HBG := Lib.hid hBg
      have HGL := Lib.hid hgl
      by_cases hk1 : x.k = 1
      · have t1 : (x.k == 1) = true := by simpa using hk1
        have HK1 := Lib.hid hk1
        have hbk : (bareO x).k = x.k := by simp [bareO, hk1]
        have hbt : (bareO x).t = ByteArray.empty := by simp [bareO, hk1]
        rw [hbk] at d0
        rw [hbt] at d2
        rw [if_pos hk1] at ht1 hl1
        rw [ht1]
        rw [hl1] at HS1 ⊢
        have s0 := str_size x.t (textL (l.drop (k + 1)))
        have s1 := str_front x.t (textL (l.drop (k + 1)))
        have s2 := str_back x.t (textL (l.drop (k + 1)))
        obtain ⟨S, hS⟩ : ∃ S, (⟨(x.t.data.toList ++ textL (l.drop (k + 1))).toArray⟩ : ByteArray) = S := ⟨_, rfl⟩
        rw [hS] at s0 s1 s2 ⊢
        rw [← s0] at hsz
        obtain ⟨b, off, rfl, e0⟩ := RdZ.cell HS1.out (j := 0) (by simp)
        have e1 := (HB.out.cell (p := ⟨b, off + 0, none⟩) (cellInL e0)).trans e0
        simp only [Nat.add_zero, List.cons_append, List.nil_append, List.getElem_cons_zero] at e1
        have f2 : wr.frozen? ⟨g, k * 4 + 2, none⟩ = false := (World.ownsRow.frozenAt (by have h9 := HO.out.row; rw [HQL.out] at h9; exact h9) _)
        clear hk1 hx hlt hq1 d1 d3 hBg hgl hql ht1 hl1 hbk hbt e0 hS
        have sle : (x.t.size : Int) ≤ S.size := by omega
        have HTL := Lib.hid (RdZ.tail (by simpa using HS1.out))
        obtain ⟨q, hq⟩ : ∃ q, (longsL (l.drop (k + 1))).length = q := ⟨_, rfl⟩
        simp only [List.cons_append, List.nil_append, List.length_cons, hq]
        rw [hq] at HTL
        have hcv : q + 1 ≤ cv := by have := HS1.out.form; obtain ⟨_, _, e, h1, _⟩ := this; cases e; simp [hq] at h1; exact h1
        have HLK := Lib.hid k1
        by_cases hc1 : cv = 1
        · subst hc1
          obtain rfl : q = 0 := by omega
          go_wp2_with fail
          go_region
          go_wp2_with fail
          go_roundw
          case measure => have := HLT.out; simp [intOf]; omega
          case rel =>
            refine ⟨k + 1, qs.set k (⟨(bareO x).k, (bareO x).n, x.t, (bareO x).w⟩, (qs[k]'hkq).2), by go_num, HLT.out, by rw [List.length_set]; exact HQL.out, Lib.hid rfl, Lib.hid (by have h9 := HTL.out.2 (by simp) (some ⟨b, off, none⟩); exact h9), Lib.hid ?_, Lib.hid ((HOT.out _ HO.out).below ((Below.refl _ _).drew)), Lib.hid (HB.out.setCell HBG.out _).drew⟩
            rw [map_set, HQ.out, HMS.out]
            rw [bare_back x HK1.out]
        · have hc2 : (cv == 1) = false := by simpa using hc1
          go_wp2_with fail
          go_region
          go_wp2_with fail
          go_roundw
          case measure => have := HLT.out; simp [intOf]; omega
          case rel =>
            refine ⟨k + 1, qs.set k (⟨(bareO x).k, (bareO x).n, x.t, (bareO x).w⟩, (qs[k]'hkq).2), by go_num, HLT.out, by rw [List.length_set]; exact HQL.out, Lib.hid rfl, Lib.hid (by have h9 := HTL.out.1; exact h9), Lib.hid ?_, Lib.hid ((HOT.out _ HO.out).below ((Below.refl _ _).drew)), Lib.hid (HB.out.setCell HBG.out _).drew⟩
            rw [map_set, HQ.out, HMS.out]
            rw [bare_back x HK1.out]
      · have t1 : (x.k == 1) = false := by simpa using hk1
        have hb : bareO x = x := by unfold bareO; rw [if_neg hk1]
        rw [hb] at d0
        rw [if_neg hk1, List.nil_append] at ht1 hl1
        rw [hl1] at HS1 ⊢
        rw [ht1]
        have HX := Lib.hid hx
        have HBX := Lib.hid hb
        have HSM := Lib.hid (set_same (l := mix l k) (k := k) (by rw [mix_len]; exact hkl))
        have HMA := Lib.hid (mix_at hkl)
        clear hk1 hx hlt hq1 hb d1 d2 d3 hBg hgl hql ht1 hl1
        go_wp2_with fail
        go_roundw
        case measure => have := HLT.out; simp [intOf]; omega
        case rel =>
          refine ⟨k + 1, qs, by go_num, HLT.out, HQL.out, Lib.hid rfl, HS1, Lib.hid ?_, HO, HB⟩
          have h8 := HSM.out
          rw [HMA.out, HX.out, HBX.out] at h8
          rw [HQ.out, HMS.out, h8]
    · obtain rfl : k = n := by omega
      have hz1 : ¬ (k : Int) < k := by omega
      have hd : l.drop k = [] := by rw [← HN.out]; exact List.drop_length
      rw [hd] at HS1 ⊢
      rw [show (⟨(textL []).toArray⟩ : ByteArray) = ⟨#[]⟩ from rfl]
      have hmf : mix l k = l := by rw [← HN.out, mix_full]
      rw [hmf] at HQ
      have HQL := Lib.hid hql
      clear hlt hql hd hmf
      go_wp2_with fail
      go_ret2
      refine ⟨_, qs, rfl, ?_, HQ.out, HB.out⟩
      have h9 := HO.out
      exact h9
end Go.Proofs.YtdagombmgcnofaaGreatDoor.Ir
