/- The program's take: a line. -/
import Derived.Test.YtmceiehnfmgioaaGreatDoorLxc
namespace Go.Proofs.YtmceiehnfmgioaaGreatDoor
open Go.RowKit
set_option linter.unusedVariables false

theorem trim_nonempty {c : UInt8} {r : List UInt8} : True := trivial
theorem strip_nil : stripL [] = [] := rfl
theorem index_bs (c : UInt8) (r : List UInt8) (h : 0 < (bs (c :: r)).size) : (bs (c :: r))[0] = c := rfl
theorem lineM_long {n : Nat} {l : List UInt8} {m : Mk} {x : Nat × Nat} (h : fitL l = some x) : lineM n l m = .error ⟨x.1, n, x.2, []⟩ := by
  unfold fitL at h
  unfold lineM
  by_cases h1 : 4096 < l.length
  · rw [if_pos h1] at h ⊢; cases h; rfl
  · rw [if_neg h1] at h ⊢
    cases hb : badAt l with
    | none => rw [hb] at h; cases h
    | some a => rw [hb] at h; cases h; rfl
theorem fit_none {l : List UInt8} (h : fitL l = none) : l.length ≤ 4096 ∧ badAt l = none := by
  unfold fitL at h
  by_cases h1 : 4096 < l.length
  · rw [if_pos h1] at h; cases h
  · rw [if_neg h1] at h
    exact ⟨by omega, Option.map_eq_none_iff.1 h⟩
theorem lineM_fit {n : Nat} {l : List UInt8} {m : Mk} (h : fitL l = none) : lineM n l m = if stripL l = [] then m.whole 2 [] [] n
    else if l.head? = some 35 then .ok m
    else if l.head? = some 46 then
      (match dirL l.tail with
       | .ok x => m.whole 1 x.1 x.2 n
       | .error x => .error ⟨x.1, n, 2, x.2⟩)
    else charsR n l m := by
  obtain ⟨h1, h2⟩ := fit_none h
  unfold lineM
  rw [if_neg (by omega), h2]
  show (if stripL l = [] then _ else _) = _
  by_cases q1 : stripL l = []
  · rw [if_pos q1, if_pos q1]
  · rw [if_neg q1, if_neg q1]
    by_cases q2 : l.head? = some 35
    · rw [if_pos q2, if_pos q2]
    · rw [if_neg q2, if_neg q2]
      by_cases q3 : l.head? = some 46
      · rw [if_pos q3, if_pos q3]
        unfold dirL
        by_cases q4 : named (letL l.tail) (l.tail.drop (letL l.tail).length) [32, 9] = true
        · rw [if_pos q4, if_pos q4]
        · rw [if_neg q4, if_neg q4]
      · rw [if_neg q3, if_neg q3]; rfl

set_option maxRecDepth 100000 in
set_option maxHeartbeats 8000000 in
theorem take_pro (w : World) (B g n : Nat) (m : Mk) (l : List UInt8) (vt vo vr : Value) (h : Lx w B g n m vt vo vr) (hn : 0 < n) (hc : m.out.length + m.run.length ≤ 1000000) (hll : l.length ≤ 99999) (hT : ∀ w', Below B w w' → Tabs w') :
    Calls Tryz.prog 45 #[.pointer (some ⟨g, 0, none⟩), .string (bs l)] w (DidE B g n (lineM n l m) vt vo w) := by
  have HN := Lib.hid hn
  have HC := Lib.hid hc
  have HLL := Lib.hid hll
  have HT := Lib.hid hT
  have H0 := Lib.hid h
  have BZ := Lib.hid h.size
  have HF := Lib.hid (fit_pro l w (hT _ (Below.refl _ _)) (by omega))
  have HBl := Lib.hid (fun w' => blankL_pro l w' (by omega))
  clear h hn hc hll hT
  cases hf : fitL l with
  | some x =>
    have HE := Lib.hid (lineM_long (n := n) (m := m) hf)
    rw [hf] at HF
    clear hf
    go_enter Tryz.func45, Tryz.ntmps45
    go_wp2_with fail
    refine HF.out.mono ?_
    rintro e w1 ⟨ge, rfl, he, hx, hb⟩
    have EL := Lib.hid (show ErrL B g n ⟨x.1, n, x.2, []⟩ w (errAt ge) w1 from ⟨ge, 0, rfl, he, hx, .inl ⟨rfl, rfl⟩, hb.mono BZ.out, (H0.out.keep hb).cells.2.1⟩)
    clear he hx hb
    unfold errAt at EL ⊢
    go_wp2_with fail
    go_ret
    unfold DidE
    rw [HE.out]
    exact ⟨_, rfl, EL.out⟩
  | none =>
    have HE := Lib.hid (lineM_fit (n := n) (m := m) hf)
    have HK := Lib.hid (fit_none hf)
    rw [hf] at HF
    clear hf
    go_enter Tryz.func45, Tryz.ntmps45
    go_wp2_with fail
    refine HF.out.mono ?_
    rintro e w1 ⟨rfl, hb⟩
    have H1 := Lib.hid (H0.out.keep hb)
    have B1 := Lib.hid (hb.mono BZ.out)
    have K1 := Lib.hid (show Kept3 g vt vo vt vo w w1 from Kp.three (Kp.below hb))
    clear hb
    go_wp2_with fail
    refine (HBl.out w1).mono ?_
    rintro e w2 ⟨rfl, hb⟩
    have H2 := Lib.hid (H1.out.keep hb)
    have B2 := Lib.hid (B1.out.trans (hb.mono H1.out.size))
    have K2 := Lib.hid (K1.out.trans (show Kept3 g vt vo vt vo w1 w2 from Kp.three (Kp.below hb)))
    clear hb
    by_cases hs : stripL l = []
    · have hs' : decide (stripL l = []) = true := by rw [hs]; rfl
      have HQ := Lib.hid (show lineM n l m = m.whole 2 [] [] n by rw [HE.out, if_pos hs])
      clear hs
      go_wp2_with fail
      refine (between_pro w2 B g n m 2 [] [] 0 0 vt vo vr H2.out (by have := HC.out; omega)).mono ?_
      cases hr : m.whole 2 [] [] n with
      | error x =>
        rintro e w3 ⟨v, rfl, ge, l0, rfl, he, hx, hq, hb, hcl⟩
        have EL := Lib.hid (show ErrL B g n x w (errAt ge) w3 from ⟨ge, l0, rfl, he, hx, hq, B2.out.trans hb, hcl⟩)
        have HR := Lib.hid hr
        clear he hx hq hb hcl hr
        unfold errAt at EL ⊢
        go_wp2_with fail
        go_ret
        unfold DidE
        rw [HQ.out, HR.out]
        exact ⟨_, rfl, EL.out⟩
      | ok m' =>
        rintro e w3 ⟨rfl, hm⟩
        have HM := Lib.hid hm
        have HR := Lib.hid hr
        clear hm hr
        go_wp2_with fail
        go_ret
        unfold DidE
        rw [HQ.out, HR.out]
        exact ⟨rfl, Moved.then B2.out K2.out HM.out⟩
    · have hs' : decide (stripL l = []) = false := by rw [decide_eq_false_iff_not]; exact hs
      rcases l with _ | ⟨c, r⟩
      · exact absurd strip_nil hs
      · have z1 := bs_size (c :: r)
        have hix : ∀ hh, (bs (c :: r))[0]'hh = c := fun _ => rfl
        have HS := Lib.hid hs
        clear hs
        by_cases h35 : c = 35
        · subst h35
          have HQ := Lib.hid (show lineM n (35 :: r) m = .ok m by rw [HE.out, if_neg HS.out, if_pos (show (35 :: r).head? = some 35 from rfl)])
          go_wp2_with fail
          go_ret
          unfold DidE
          rw [HQ.out]
          exact ⟨rfl, Moved.then B2.out K2.out (Moved.refl H2.out)⟩
        · have e35 : ((c.toNat : Int) == 35) = false := num_ne h35
          have HN35 := Lib.hid (show ¬ (c :: r).head? = some 35 from fun e => h35 (by simpa using e))
          by_cases h46 : c = 46
          · subst h46
            have HD := Lib.hid (directive_pro 46 r w2 (by have := HLL.out; simp at this; omega))
            have HQ := Lib.hid (show lineM n (46 :: r) m = (match dirL r with
               | .ok x => m.whole 1 x.1 x.2 n
               | .error x => .error ⟨x.1, n, 2, x.2⟩) by rw [HE.out, if_neg HS.out, if_neg HN35.out, if_pos (show (46 :: r).head? = some 46 from rfl)]; rfl)
            clear h35 e35
            go_wp2_with fail
            refine HD.out.mono ?_
            cases hr : dirL r with
            | error x =>
              rintro e w3 ⟨ge, rfl, he, hx, hb⟩
              have EL := Lib.hid (show ErrL B g n ⟨x.1, n, 2, x.2⟩ w (errAt ge) w3 from ⟨ge, 0, rfl, he, hx, .inl ⟨rfl, rfl⟩, B2.out.trans (hb.mono (H2.out.size)), (H2.out.keep hb).cells.2.1⟩)
              have HR := Lib.hid hr
              clear he hx hb hr
              unfold errAt at EL ⊢
              go_wp2_with fail
              go_ret
              unfold DidE
              rw [HQ.out, HR.out]
              exact ⟨_, rfl, EL.out⟩
            | ok x =>
              rintro e w3 ⟨rfl, hb⟩
              have H3 := Lib.hid (H2.out.keep hb)
              have B3 := Lib.hid (B2.out.trans (hb.mono H2.out.size))
              have K3 := Lib.hid (K2.out.trans (show Kept3 g vt vo vt vo w2 w3 from Kp.three (Kp.below hb)))
              have HR := Lib.hid hr
              clear hb hr
              go_wp2_with fail
              refine (between_pro w3 B g n m 1 x.1 x.2 0 0 vt vo vr H3.out (by have := HC.out; omega)).mono ?_
              cases hr : m.whole 1 x.1 x.2 n with
              | error y =>
                rintro e w4 ⟨v, rfl, ge, l0, rfl, he, hx, hq, hb, hcl⟩
                have EL := Lib.hid (show ErrL B g n y w (errAt ge) w4 from ⟨ge, l0, rfl, he, hx, hq, B3.out.trans hb, hcl⟩)
                have HR2 := Lib.hid hr
                clear he hx hq hb hcl hr
                unfold errAt at EL ⊢
                go_wp2_with fail
                go_ret
                unfold DidE
                rw [HQ.out, HR.out]
                simp only []
                rw [HR2.out]
                exact ⟨_, rfl, EL.out⟩
              | ok m' =>
                rintro e w4 ⟨rfl, hm⟩
                have HM := Lib.hid hm
                have HR2 := Lib.hid hr
                clear hm hr
                go_wp2_with fail
                go_ret
                unfold DidE
                rw [HQ.out, HR.out]
                simp only []
                rw [HR2.out]
                exact ⟨rfl, Moved.then B3.out K3.out HM.out⟩
          · have e46 : ((c.toNat : Int) == 46) = false := num_ne h46
            have HN46 := Lib.hid (show ¬ (c :: r).head? = some 46 from fun e => h46 (by simpa using e))
            have HQ := Lib.hid (show lineM n (c :: r) m = charsR n (c :: r) m by rw [HE.out, if_neg HS.out, if_neg HN35.out, if_neg HN46.out])
            clear h35 h46
            go_wp2_with fail
            refine (characters_pro w2 B g n m (c :: r) vt vo vr H2.out HN.out (by have := HC.out; omega) HK.out.1 HK.out.2 (fun w' hb => HT.out w' (B2.out.trans hb))).mono ?_
            cases hr : charsR n (c :: r) m with
            | error y =>
              rintro e w4 ⟨v, rfl, ge, l0, rfl, he, hx, hq, hb, hcl⟩
              have EL := Lib.hid (show ErrL B g n y w (errAt ge) w4 from ⟨ge, l0, rfl, he, hx, hq, B2.out.trans hb, hcl⟩)
              have HR2 := Lib.hid hr
              clear he hx hq hb hcl hr
              unfold errAt at EL ⊢
              go_wp2_with fail
              go_ret
              unfold DidE
              rw [HQ.out, HR2.out]
              exact ⟨_, rfl, EL.out⟩
            | ok m' =>
              rintro e w4 ⟨rfl, hm⟩
              have HM := Lib.hid hm
              have HR2 := Lib.hid hr
              clear hm hr
              go_wp2_with fail
              go_ret
              unfold DidE
              rw [HQ.out, HR2.out]
              exact ⟨rfl, Moved.then B2.out K2.out HM.out⟩
end Go.Proofs.YtmceiehnfmgioaaGreatDoor
