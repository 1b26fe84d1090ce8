/- The program's Parse. -/
import Derived.Test.YtceanagnkcejgaaGreatDoorRg
namespace Go.Proofs.YtceanagnkcejgaaGreatDoor
open Go.RowKit
set_option linter.unusedVariables false

theorem prs_cons {c d : Chg} {x : List UInt8} {r : List (List UInt8)} (hx : ¬ x = colorW) (h : chg1 c x = some d) : prs (x :: r) c = prs r d := prs_bit hx h
theorem rc_none {c : Chg} {x : List UInt8} {r : List (List UInt8)} (h : (rcM c (x :: r)).1 = none) : prs (x :: r) c = none := by
  by_cases hx : x = colorW
  · rw [rc_col hx] at h
    subst hx
    cases r with
    | nil => simp [prs]
    | cons n r =>
      by_cases hc : c.col = -1
      · rw [colC_on hc] at h
        have : colOf n = none := by simpa using h
        simp [prs, hc, this]
      · simp [prs, hc]
  · rw [rc_bit hx] at h
    cases r with
    | nil => simp only [prs, if_neg hx]; exact h
    | cons n r =>
      have h' : chg1 c x = none := h
      simp [prs, hx, h']
theorem rc_some {c d : Chg} {x : List UInt8} {r : List (List UInt8)} (h : (rcM c (x :: r)).1 = some d) : ((rcM c (x :: r)).2 = 1 ∧ prs (x :: r) c = prs r d) ∨ ((rcM c (x :: r)).2 = 2 ∧ ∃ n r', r = n :: r' ∧ prs (x :: r) c = prs r' d) := by
  by_cases hx : x = colorW
  · right
    rw [rc_col hx] at h ⊢
    refine ⟨rfl, ?_⟩
    cases r with
    | nil => cases h
    | cons n r =>
      refine ⟨n, r, rfl, ?_⟩
      by_cases hc : c.col = -1
      · have h2 : colC c (n :: r) = some d := h
        rw [colC_on hc] at h2
        obtain ⟨k, hk, e⟩ := Option.map_eq_some_iff.1 h2
        subst hx
        rw [prs_col hc hk, ← e]
      · have h2 : colC c (n :: r) = some d := h
        rw [colC_no hc] at h2; cases h2
  · left
    rw [rc_bit hx] at h ⊢
    exact ⟨rfl, prs_bit hx h⟩
theorem RdW.drop {w : World} {b off n cap : Nat} {ws : List (List UInt8)} (h : RdW w (.slice (some ⟨b, off, none⟩) n cap) ws) (k : Nat) (hk : k ≤ n) (q : Option Addr) (hq : cap ≠ k → q = some ⟨b, off + k * 3, none⟩) : RdW w (.slice q (n - k) (cap - k)) (ws.drop k) := by
  obtain ⟨pa', cap', e, h1, h2, h4⟩ := h
  cases e
  refine ⟨q, cap - k, by simp, by simp; omega, by omega, fun j hj => ?_⟩
  have hj' : k + j < ws.length := by simp at hj; omega
  obtain ⟨b', off', e, hc⟩ := h4 (k + j) hj'
  cases e
  refine ⟨b, off + k * 3, hq (by omega), ?_⟩
  rw [show off + k * 3 + j * 3 = off + (k + j) * 3 by omega]
  simpa using hc
theorem Only.below {b : Nat} {w w' : World} (h : Only b w w') (hb : b < w.heap.size) : Below b w w' := ⟨h.os, h.tape, h.output, h.size, fun k hk => h.block k (by omega) (by intro e; injection e with e; omega)⟩
theorem rd_zero {b : Nat} {s : Sty} {n : Nat} {w w' : World} {e : Ending} (h : RdPost b s n none w e w') : e = .returned (.int .i64 0) ∧ Only b w w' ∧ SBox w' b ⟨s.nm, s.pr, s.ch⟩ := ⟨h.1, h.2.1, h.2.2⟩
theorem rd_more {b : Nat} {s : Sty} {n : Nat} {d : Chg} {w w' : World} {e : Ending} (h : RdPost b s n (some d) w e w') : e = .returned (.int .i64 (n : Nat)) ∧ Only b w w' ∧ SBox w' b ⟨s.nm, s.pr, d⟩ := ⟨h.1, h.2.1, h.2.2⟩
theorem rd_one {b : Nat} {s : Sty} {d : Chg} {w w' : World} {e : Ending} (h : RdPost b s 1 (some d) w e w') : e = .returned (.int .i64 1) ∧ Only b w w' ∧ SBox w' b ⟨s.nm, s.pr, d⟩ := ⟨h.1, h.2.1, h.2.2⟩
theorem rd_two {b : Nat} {s : Sty} {d : Chg} {w w' : World} {e : Ending} (h : RdPost b s 2 (some d) w e w') : e = .returned (.int .i64 2) ∧ Only b w w' ∧ SBox w' b ⟨s.nm, s.pr, d⟩ := ⟨h.1, h.2.1, h.2.2⟩
theorem rd_empty (w : World) (q : Option Addr) : RdW w (.slice q 0 0) [] := ⟨q, 0, rfl, Nat.le_refl _, Nat.zero_le _, fun j hj => absurd hj (by simp)⟩
def okN : Value → Nat
  | .bool true => 1
  | _ => 0
def pzV (p : Sty × Nat) : Value := .tuple #[styVal p.1, .int .i64 p.2]
theorem parse_nil {t : List UInt8} (h : ¬ 4096 < t.length) (h2 : wordsL t = []) : parseM t = (zeroS, 67) := by unfold parseM; rw [if_neg h, h2]; rfl
theorem parse_bad {t w : List UInt8} {r : List (List UInt8)} (h : ¬ 4096 < t.length) (h2 : wordsL t = w :: r) (h3 : nmsM w = none) : parseM t = (zeroS, 67) := by unfold parseM; rw [if_neg h, h2]; simp only [parseW, h3]
theorem parse_no {t w : List UInt8} {r : List (List UInt8)} {p : List UInt8 × List UInt8} (h : ¬ 4096 < t.length) (h2 : wordsL t = w :: r) (h3 : nmsM w = some p) (h4 : prs r none0 = none) : parseM t = (zeroS, 67) := by unfold parseM; rw [if_neg h, h2]; simp only [parseW, h3, h4]
theorem parse_ok {t w : List UInt8} {r : List (List UInt8)} {p : List UInt8 × List UInt8} {c : Chg} (h : ¬ 4096 < t.length) (h2 : wordsL t = w :: r) (h3 : nmsM w = some p) (h4 : prs r none0 = some c) : parseM t = (⟨p.1, p.2, c⟩, 0) := by unfold parseM; rw [if_neg h, h2]; simp only [parseW, h3, h4]
theorem parse_long {t : List UInt8} (h : 4096 < t.length) : parseM t = (zeroS, 2) := by unfold parseM; rw [if_pos h]

set_option maxRecDepth 100000 in
set_option maxHeartbeats 16000000 in
theorem Parse_pro (t : List UInt8) (w : World) (hT : Tabs w) (ht : t.length ≤ 9223372036854775807) :
    Calls Tryz.prog 24 #[.string (bs t)] w (Says (pzV (parseM t)) w) := by
  have hA := (Below.refl _ w).alloc (Nat.le_refl _) (.cells #[.string ⟨#[]⟩, .string ⟨#[]⟩, .int .i64 0, .int .i64 0, .int .i64 0] 29)
  have HA := Lib.hid hA
  have hX : SBox (w.alloc (.cells #[.string ⟨#[]⟩, .string ⟨#[]⟩, .int .i64 0, .int .i64 0, .int .i64 0] 29)) w.heap.size zeroS := heap_alloc_new w (.cells #[.string ⟨#[]⟩, .string ⟨#[]⟩, .int .i64 0, .int .i64 0, .int .i64 0] 29)
  have HX := Lib.hid hX
  have HT := Lib.hid (hT.at hA)
  have hz := bs_len t
  clear hA hX hT
  by_cases h4 : 4096 < t.length
  · have HV := Lib.hid (parse_long h4)
    have h4' : (4096 : Int) < t.length := by omega
    clear h4
    go_enter Tryz.func24, Tryz.ntmps24
    go_wp2_with fail
    rw [HV.out]
    exact bodyPost_ret (v := pzV (zeroS, 2)) (by simp [results, Tryz.results24, go_sem, pzV, styVal, zeroS, zeroC, bs]) rfl ⟨rfl, HA.out⟩
  have h4' : ¬ (4096 : Int) < t.length := by omega
  have HW := Lib.hid (words_prs t _ (by omega) HT.out)
  have HH := Lib.hid h4
  have HO := Lib.hid (@wordsL_ok t)
  clear h4
  cases hws : wordsL t with
  | nil =>
    have HV := Lib.hid (parse_nil HH.out hws)
    rw [hws] at HW
    clear hws
    go_enter Tryz.func24, Tryz.ntmps24
    go_wp2_with fail
    refine HW.out.mono ?_
    rintro e w1 ⟨v, rfl, hr, hb⟩
    obtain ⟨pa, cap, rfl, _, _⟩ := hr.form
    have HB1 := Lib.hid (HA.out.trans (hb.mono HA.out.size))
    have hx := HX.out.keep hb
    have HX1 := Lib.hid hx
    obtain ⟨c0, c1, c2, c3, c4⟩ := hx.get
    have z0 := hx.free 0
    have z1 := hx.free 1
    have z2 := hx.free 2
    have z3 := hx.free 3
    have z4 := hx.free 4
    clear hr hb hx
    go_wp2_with fail
    obtain ⟨W, hW, hr, k0, k1, k2, k3, k4, hbW⟩ := set5c (HX1.out) (.string ⟨#[]⟩) (.string ⟨#[]⟩) (.int .i64 0) (.int .i64 0) (.int .i64 0)
    rw [hW, HV.out]
    exact bodyPost_ret (v := pzV (zeroS, 67)) (by simp [results, Tryz.results24, go_sem, k0, k1, k2, k3, k4, pzV, styVal, zeroS, zeroC, bs]) rfl ⟨rfl, HB1.out.trans hbW⟩
  | cons x r =>
    rw [hws] at HW
    have hall : ∀ y ∈ x :: r, y.length ≤ 4096 ∧ y ≠ [] := fun y hy => by
      have h := HO.out y (by rw [hws]; exact hy)
      exact ⟨by have := h.2; have := HH.out; omega, h.1⟩
    have HL := Lib.hid hall
    have hxl := (hall x (by simp)).1
    have HXL := Lib.hid hxl
    obtain ⟨nmv, nm, pr, ok0, hrn, hpre⟩ : ∃ (nmv : Value) (nm pr : List UInt8) (ok0 : Bool), rnV (nmsM x) = .tuple #[nmv, .bool ok0] ∧ nmv = styVal ⟨nm, pr, if ok0 then none0 else zeroC⟩ ∧ (∀ c, (if ok0 then prs r none0 else none) = some c → parseM t = (⟨nm, pr, c⟩, 0)) ∧ ((if ok0 then prs r none0 else none) = none → parseM t = (zeroS, 67)) := by
      cases hn : nmsM x with
      | none => exact ⟨_, [], [], false, rfl, rfl, fun c h => by simp at h, fun _ => parse_bad HH.out hws hn⟩
      | some q => exact ⟨_, q.1, q.2, true, rfl, rfl, fun c h => parse_ok HH.out hws hn (by simpa using h), fun h => parse_no HH.out hws hn (by simpa using h)⟩
    obtain ⟨rfl, hok, hno⟩ := hpre
    obtain ⟨R, hR⟩ : ∃ R, (if ok0 then prs r none0 else none) = R := ⟨_, rfl⟩
    have HR := Lib.hid hR
    rw [hR] at hok hno
    have HOK := Lib.hid hok
    have HNO := Lib.hid hno
    have HRN := Lib.hid hrn
    clear hws hall hxl hok hno hrn hR
    go_enter Tryz.func24, Tryz.ntmps24
    go_wp2_with fail
    refine HW.out.mono ?_
    rintro e w1 ⟨v, rfl, hr, hb⟩
    obtain ⟨pa, cap, rfl, hc1, hc2⟩ := hr.form
    obtain ⟨bw, ow, rfl, d0⟩ := hr.first
    simp only [List.length_cons] at hc1 hr ⊢
    unfold maxLen at hc2
    have hlr : (0 : Int) < ((r.length + 1 : Nat) : Int) := by omega
    have hlz : (((r.length + 1 : Nat) : Int) == 0) = false := by simp; omega
    have HB1 := Lib.hid (HA.out.trans (hb.mono HA.out.size))
    have HX1 := Lib.hid (HX.out.keep hb)
    have HT1 := Lib.hid (HT.out.at hb)
    have HRW := Lib.hid hr
    clear hb hr
    go_wp2_with fail
    refine (readNames_pro x w1 HXL.out HT1.out).mono ?_
    rw [HRN.out]
    rintro e w2 ⟨rfl, hb⟩
    have HB2 := Lib.hid (HB1.out.trans (hb.mono HB1.out.size))
    have HX2 := Lib.hid (HX1.out.keep hb)
    have HT2 := Lib.hid (HT1.out.at hb)
    have HRW2 := Lib.hid (HRW.out.below hb)
    obtain ⟨cc, hcc⟩ : ∃ cc, (if ok0 then none0 else zeroC) = cc := ⟨_, rfl⟩
    have HCC := Lib.hid hcc
    have e1 := (Below.refl _ w2).alloc (Nat.le_refl _) (.cells (styCells ⟨nm, pr, cc⟩) 29)
    have HE1 := Lib.hid e1
    have HSB := Lib.hid (show SBox (w2.alloc (.cells (styCells ⟨nm, pr, cc⟩) 29)) w2.heap.size ⟨nm, pr, cc⟩ from heap_alloc_new w2 _)
    obtain ⟨B, hB⟩ : ∃ B, w2.heap.size = B := ⟨_, rfl⟩
    have HBq := Lib.hid hB
    have hwB : w.heap.size < B := by rw [← hB]; exact HX2.out.lt
    have hbwB : bw < B := by
      rw [← hB]
      obtain ⟨b', o', e', hc'⟩ := HRW2.out.first
      cases e'
      exact cell_in hc'
    rw [hcc]
    clear hb hcc e1 hB
    unfold styVal
    have HLr := Lib.hid (show ∀ y ∈ r, y.length ≤ 4096 ∧ y ≠ [] from fun y hy => HL.out y (by simp [hy]))
    have HP0 := Lib.hid (show (if ok0 then prs r cc else none) = R by
      rw [← HR.out, ← HCC.out]
      cases ok0 <;> rfl)
    have key : ∃ (q : Option Addr), (cap = 1 ∧ r = [] ∧ q = some ⟨bw, ow, none⟩) ∨ (cap ≠ 1 ∧ q = some ⟨bw, ow + 3, none⟩) := by
      by_cases h1 : cap = 1
      · exact ⟨_, .inl ⟨h1, by cases r with | nil => rfl | cons a b => simp at hc1; omega, rfl⟩⟩
      · exact ⟨_, .inr ⟨h1, rfl⟩⟩
    obtain ⟨q, hq⟩ := key
    have HD := Lib.hid (HRW2.out.drop 1 (by omega) q (fun e => by rcases hq with ⟨h1, _, _⟩ | ⟨_, h2⟩; exact absurd h1 e; exact h2))
    have hb2' : B = w2.heap.size := HBq.out.symm
    have HB2q := Lib.hid hb2'
    clear hb2'
    rcases hq with ⟨rfl, rfl, rfl⟩ | ⟨hcap, rfl⟩
    all_goals
      go_wp2_with fail
      rw [HBq.out]
      go_loopw [4, 6, 7] (fun v4 v6 _ wr => ∃ (ws : List (List UInt8)) (c : Chg) (ok : Bool), v6 = .bool ok ∧ RdW wr v4 ws ∧ Hid ((if ok then prs ws c else none) = R) ∧ Hid (∀ y ∈ ws, y.length ≤ 4096 ∧ y ≠ []) ∧ Hid (SBox wr B ⟨nm, pr, c⟩) ∧ Hid (Below B w2 wr)) (fun v4 v6 _ _ => slen v4 + okN v6)
      case atStart =>
        refine ⟨_, cc, ok0, rfl, ?_, HP0, HLr, ?_, ?_⟩
        · exact (show RdW w2 _ _ by simpa using HD.out).below HE1.out
        · exact show SBox _ B _ by rw [HB2q.out]; exact HSB.out
        · exact show Below B w2 _ by rw [HB2q.out]; exact HE1.out
      case round =>
        obtain ⟨ws, c, ok, rfl, hrd, HP, HLs, HSb, HBw⟩ := hrel
        have hBlt := HSb.out.lt
        have HTr := Lib.hid (HT2.out.below HBw.out (by rw [HB2q.out]; exact Nat.le_refl _))
        have HBa := Lib.hid (HB2.out.trans (HBw.out.mono (by have := HB2.out.size; have := HB2q.out; omega)))
        have HXr := Lib.hid (show SBox wr w.heap.size zeroS from (HBw.out.block w.heap.size hwB).trans HX2.out)
        obtain ⟨pv, cv, rfl, hv1, hv2⟩ := hrd.form
        unfold maxLen at hv2
        cases ok with
        | false =>
          have HV := Lib.hid (HNO.out (HP.out.symm.trans rfl))
          obtain ⟨xc0, xc1, xc2, xc3, xc4⟩ := (HXr.out).get
          have xz0 := (HXr.out).free 0
          have xz1 := (HXr.out).free 1
          have xz2 := (HXr.out).free 2
          have xz3 := (HXr.out).free 3
          have xz4 := (HXr.out).free 4
          clear hrd
          go_wp2_with fail
          obtain ⟨W, hW, hr, k0, k1, k2, k3, k4, hbW⟩ := set5c HXr.out (.string ⟨#[]⟩) (.string ⟨#[]⟩) (.int .i64 0) (.int .i64 0) (.int .i64 0)
          rw [hW, HV.out]
          exact bodyPost_ret (v := pzV (zeroS, 67)) (by simp [results, Tryz.results24, go_sem, k0, k1, k2, k3, k4, pzV, styVal, zeroS, zeroC, bs]) rfl ⟨rfl, HBa.out.trans hbW⟩
        | true =>
          cases ws with
          | nil =>
            have HV := Lib.hid (HOK.out c (HP.out.symm.trans rfl))
            obtain ⟨xc0, xc1, xc2, xc3, xc4⟩ := (HXr.out).get
            have xz0 := (HXr.out).free 0
            have xz1 := (HXr.out).free 1
            have xz2 := (HXr.out).free 2
            have xz3 := (HXr.out).free 3
            have xz4 := (HXr.out).free 4
            obtain ⟨y0, y1, y2, y3, y4⟩ := HSb.out.get
            clear hrd
            go_wp2_with fail
            obtain ⟨W, hW, hr, k0, k1, k2, k3, k4, hbW⟩ := set5c HXr.out (.string (bs nm)) (.string (bs pr)) (.int .i64 c.on) (.int .i64 c.off) (.int .i64 c.col)
            rw [hW, HV.out]
            exact bodyPost_ret (v := pzV (⟨nm, pr, c⟩, 0)) (by simp [results, Tryz.results24, go_sem, k0, k1, k2, k3, k4, pzV, styVal]) rfl ⟨rfl, HBa.out.trans hbW⟩
          | cons y ys =>
            obtain ⟨bv, ov, rfl, d9⟩ := hrd.first
            have HRd := Lib.hid hrd
            have HQ := Lib.hid (readChange_pro B ⟨nm, pr, c⟩ _ y ys wr HSb.out hrd HLs.out HTr.out)
            simp only [List.length_cons] at hv1 HQ HRd ⊢
            have hlys : (0 : Int) < ((ys.length + 1 : Nat) : Int) := by omega
            have hc0 := @rc_none c y ys
            have hc1 := @rc_some c
            obtain ⟨⟨o, n⟩, hon⟩ : ∃ on, rcM c (y :: ys) = on := ⟨_, rfl⟩
            have HQ2 : Hid (Calls Tryz.prog 41 #[.pointer (some ⟨B, 2, none⟩), .slice (some ⟨bv, ov, none⟩) (ys.length + 1) cv] wr (RdPost B ⟨nm, pr, c⟩ n o wr)) := by
              have := HQ.out
              show Calls _ _ _ _ _
              rw [hon] at this
              exact this
            clear HQ hrd d9
            cases o with
            | none =>
              have HN := Lib.hid (show (if false then prs (y :: ys) c else none) = R by rw [← HP.out]; exact (hc0 (by rw [hon])).symm)
              have HQ := Lib.hid (HQ2.out.mono fun _ _ h => rd_zero h)
              clear HQ2 hc0 hc1 hon
              have hcv : ¬ cv = 0 := by omega
              go_wp2_with fail
              refine HQ.out.mono ?_
              rintro e w4 ⟨rfl, ho, hsb⟩
              have HO4 := Lib.hid ho
              have HS4 := Lib.hid hsb
              have HD4 := Lib.hid ((HRd.out.only ho HSb.out hsb))
              have HB4 := Lib.hid (HBw.out.trans (ho.below hBlt))
              clear ho hsb
              go_wp2_with fail
              go_roundw
              case rel => exact ⟨y :: ys, c, false, rfl, HD4.out, HN, HLs, HS4, HB4⟩
              case measure => simp [slen, okN]
            | some d =>
              have hrs := hc1 (x := y) (r := ys) (d := d) (by rw [hon])
              rw [hon] at hrs
              dsimp only at hrs
              clear hc0 hc1 hon
              rcases hrs with ⟨rfl, hp⟩ | ⟨rfl, n', r', rfl, hp⟩
              · have HQ := Lib.hid (HQ2.out.mono fun _ _ h => rd_one h)
                clear HQ2
                have HN := Lib.hid (show (if true then prs ys d else none) = R by rw [← HP.out]; exact hp.symm)
                clear hp
                by_cases hcv : cv = 1
                · have hnil : ys = [] := by cases ys with | nil => rfl | cons a b => simp at hv1; omega
                  subst hcv
                  subst hnil
                  simp only [List.length_nil, Nat.zero_add] at HQ HRd hlys hv1 ⊢
                  go_wp2_with fail
                  refine HQ.out.mono ?_
                  rintro e w4 ⟨rfl, ho, hsb⟩
                  have HO4 := Lib.hid ho
                  have HS4 := Lib.hid hsb
                  have HD4 := Lib.hid ((HRd.out.only ho HSb.out hsb))
                  have HB4 := Lib.hid (HBw.out.trans (ho.below hBlt))
                  clear ho hsb
                  go_wp2_with fail
                  go_roundw
                  case rel => exact ⟨[], d, true, rfl, rd_empty _ _, HN, Lib.hid (fun z hz => HLs.out z (by simp at hz ⊢; try simp [hz])), HS4, HB4⟩
                  case measure => simp [slen, okN]
                · go_wp2_with fail
                  refine HQ.out.mono ?_
                  rintro e w4 ⟨rfl, ho, hsb⟩
                  have HO4 := Lib.hid ho
                  have HS4 := Lib.hid hsb
                  have HD4 := Lib.hid ((HRd.out.only ho HSb.out hsb))
                  have HB4 := Lib.hid (HBw.out.trans (ho.below hBlt))
                  clear ho hsb
                  go_wp2_with fail
                  go_roundw
                  case rel => exact ⟨ys, d, true, rfl, HD4.out.tail (some ⟨bv, ov + 3, none⟩) (fun _ => rfl), HN, Lib.hid (fun z hz => HLs.out z (by simp [hz])), HS4, HB4⟩
                  case measure => simp [slen, okN]
              · have HQ := Lib.hid (HQ2.out.mono fun _ _ h => rd_two h)
                clear HQ2
                have HN := Lib.hid (show (if true then prs r' d else none) = R by rw [← HP.out]; exact hp.symm)
                clear hp
                simp only [List.length_cons] at hv1 HQ HRd hlys ⊢
                by_cases hcv : cv = 2
                · have hnil : r' = [] := by cases r' with | nil => rfl | cons a b => simp at hv1; omega
                  subst hcv
                  subst hnil
                  simp only [List.length_nil, Nat.zero_add] at HQ HRd hlys hv1 ⊢
                  go_wp2_with fail
                  refine HQ.out.mono ?_
                  rintro e w4 ⟨rfl, ho, hsb⟩
                  have HO4 := Lib.hid ho
                  have HS4 := Lib.hid hsb
                  have HD4 := Lib.hid ((HRd.out.only ho HSb.out hsb))
                  have HB4 := Lib.hid (HBw.out.trans (ho.below hBlt))
                  clear ho hsb
                  go_wp2_with fail
                  go_roundw
                  case rel => exact ⟨[], d, true, rfl, rd_empty _ _, HN, Lib.hid (fun z hz => HLs.out z (by simp at hz ⊢; try simp [hz])), HS4, HB4⟩
                  case measure => simp [slen, okN]
                · go_wp2_with fail
                  refine HQ.out.mono ?_
                  rintro e w4 ⟨rfl, ho, hsb⟩
                  have HO4 := Lib.hid ho
                  have HS4 := Lib.hid hsb
                  have HD4 := Lib.hid ((HRd.out.only ho HSb.out hsb))
                  have HB4 := Lib.hid (HBw.out.trans (ho.below hBlt))
                  clear ho hsb
                  go_wp2_with fail
                  go_roundw
                  case rel => exact ⟨r', d, true, rfl, by have h := (HD4.out.tail (some ⟨bv, ov + 3, none⟩) (fun _ => rfl)).tail (some ⟨bv, ov + 3 + 3, none⟩) (fun _ => rfl); rw [show ov + 3 + 3 = ov + 6 by omega, show cv - 1 - 1 = cv - 2 by omega] at h; exact h, HN, Lib.hid (fun z hz => HLs.out z (by simp [hz])), HS4, HB4⟩
                  case measure => simp [slen, okN]
end Go.Proofs.YtceanagnkcejgaaGreatDoor
