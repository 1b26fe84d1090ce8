/- The program's escaped, directive, blank, fit. -/
import Derived.Test.YtmceiehnfmgioaaGreatDoorLx7
namespace Go.Proofs.YtmceiehnfmgioaaGreatDoor
open Go.RowKit
set_option linter.unusedVariables false

def escL (r : List UInt8) : Except (Nat × List UInt8) (List UInt8) :=
  match r.head? with
  | none => .error (42, behindL r)
  | some d => if special d then .ok [d] else .error (42, behindL r)
theorem bs_take (l : List UInt8) (k : Nat) : (bs l).extract 0 k = bs (l.take k) := by rw [bs_extract, Nat.sub_zero, List.drop_zero]

set_option maxRecDepth 100000 in
set_option maxHeartbeats 2000000 in
theorem escaped_pro (r : List UInt8) (col : Nat) (w : World) (hT : Tabs w) (hl : r.length ≤ 100000) :
    Calls Tryz.prog 140 #[.string (bs r), .int .i64 col] w (PairE (escL r) col w) := by
  have HD := Lib.hid (Tryz.utf8_DecodeRuneInString (bs r) w hT.u8)
  have HT := Lib.hid hT
  have z1 := bs_size r
  clear hT
  rcases r with _ | ⟨d, t⟩
  · have HE := Lib.hid (show escL [] = .error (42, []) from rfl)
    have HX := Lib.hid (show (bs []).extract 0 0 = bs [] from bs_take [] 0)
    have hdec : Lib.decodeGo (bs []) = (65533, 0) := by unfold Lib.decodeGo; rw [if_pos (by rfl)]
    rw [hdec] at HD
    clear hdec hl
    go_enter Tryz.func140, Tryz.ntmps140
    go_wp2_with fail
    refine HD.out.mono ?_
    rintro e w1 ⟨rfl, hb⟩
    have HB := Lib.hid hb
    clear hb
    go_wp2_with fail
    refine (wrong_pro 42 col [] w1 (by decide)).mono ?_
    rintro e w2 ⟨rfl, he, hb⟩
    have H2 := Lib.hid he
    have B2 := Lib.hid hb
    clear he hb
    unfold errAt
    go_wp2_with fail
    go_ret2
    unfold PairE
    rw [HE.out]
    exact ⟨_, rfl, H2.out, (show (42 : Nat) ≠ 0 by decide), HB.out.trans (B2.out.mono HB.out.size)⟩
  · have hpos : 0 < (bs (d :: t)).size := by rw [bs_size]; simp
    have hw1 := width_pos (bs (d :: t)) 0 hpos
    have hw2 := decode_fits (bs (d :: t)) 0 hpos
    have hdec : Lib.decodeGo (bs (d :: t)) = Utf8.decode (bs (d :: t)) 0 := by unfold Lib.decodeGo; rw [if_neg (by omega)]
    rw [hdec] at HD
    have hbe : behindL (d :: t) = (d :: t).take (Utf8.decode (bs (d :: t)) 0).2 := by unfold behindL; rw [if_neg (by simp)]
    have hasc := fun ha => decode_ascii (bs (d :: t)) 0 hpos ha
    obtain ⟨R, eR⟩ : ∃ R, (Utf8.decode (bs (d :: t)) 0).1 = R := ⟨_, rfl⟩
    obtain ⟨W, eW⟩ : ∃ W, (Utf8.decode (bs (d :: t)) 0).2 = W := ⟨_, rfl⟩
    rw [eR, eW] at HD
    rw [eW] at hw1 hw2 hbe
    rw [z1, Nat.zero_add] at hw2
    have b1 : 1 ≤ (W : Int) := by omega
    have b2 : (W : Int) ≤ (t.length : Int) + 1 := by simp at hw2; omega
    have b3 : ((W : Int) == 0) = false := by simp; omega
    have b4 : (W : Int) ≤ (((d :: t).length : Nat) : Int) := by omega
    have b5 : ¬ W = 0 := by omega
    have HX := Lib.hid (bs_take (d :: t) W)
    have HWp := Lib.hid hw1
    obtain ⟨u, hu⟩ : ∃ u, W = u + 1 := ⟨W - 1, by omega⟩
    have HK := Lib.hid (show (d :: t).take W = d :: t.take u by rw [hu]; rfl)
    cases hs : special d with
    | true =>
      have hW1 : W = 1 := by
        have := hasc (by
          have := special_ascii hs
          show ((bs (d :: t)).data[0]).toNat < 128
          simpa [bs] using this)
        rw [← eW, this]
      have HE := Lib.hid (show escL (d :: t) = .ok [d] by unfold escL; simp [hs])
      have HW := Lib.hid hW1
      have HC := Lib.hid (show Lib.contains meantL ((d :: t).take W) = true by rw [hW1]; exact special_one hs)
      clear hs hW1 hw1 hw2 hdec hbe hasc eR eW hl hu hpos
      go_enter Tryz.func140, Tryz.ntmps140
      go_wp2_with fail
      refine HD.out.mono ?_
      rintro e w1 ⟨rfl, hb⟩
      have HB := Lib.hid hb
      have HT1 := Lib.hid (HT.out.at hb)
      obtain ⟨mx, hmx⟩ := (HT.out.at hb).len
      have HM := Lib.hid hmx
      clear hb hmx
      go_wp2_with fail
      rw [HX.out]
      refine (Tryz.strings_Contains (bs meantL) (bs ((d :: t).take W)) mx w1 (by rw [bs_size]; decide) HM.out).mono ?_
      rw [show (bs meantL).data.toList = meantL from rfl, show (bs ((d :: t).take W)).data.toList = (d :: t).take W by simp [bs], HC.out]
      rintro e w2 ⟨rfl, rfl⟩
      go_wp2_with fail
      go_ret2
      unfold PairE
      rw [HE.out]
      refine ⟨?_, HB.out⟩
      have hx := HX.out
      rw [HW.out] at hx ⊢
      rw [hx]
      rfl
    | false =>
      have HE := Lib.hid (show escL (d :: t) = .error (42, (d :: t).take W) by unfold escL; simp [hs, hbe])
      have HC := Lib.hid (show Lib.contains meantL ((d :: t).take W) = false by rw [HK.out]; exact special_not hs)
      clear hs hw1 hw2 hdec hbe hasc eR eW hl hu hpos
      go_enter Tryz.func140, Tryz.ntmps140
      go_wp2_with fail
      refine HD.out.mono ?_
      rintro e w1 ⟨rfl, hb⟩
      have HB := Lib.hid hb
      obtain ⟨mx, hmx⟩ := (HT.out.at hb).len
      have HM := Lib.hid hmx
      clear hb hmx
      go_wp2_with fail
      rw [HX.out]
      refine (Tryz.strings_Contains (bs meantL) (bs ((d :: t).take W)) mx w1 (by rw [bs_size]; decide) HM.out).mono ?_
      rw [show (bs meantL).data.toList = meantL from rfl, show (bs ((d :: t).take W)).data.toList = (d :: t).take W by simp [bs], HC.out]
      rintro e w2 ⟨rfl, hw⟩
      have hw' := hw.symm
      subst hw'
      go_wp2_with fail
      rw [HX.out]
      refine (wrong_pro 42 col ((d :: t).take W) w1 (by decide)).mono ?_
      rintro e w2 ⟨rfl, he, hb⟩
      have H2 := Lib.hid he
      have B2 := Lib.hid hb
      clear he hb
      unfold errAt
      go_wp2_with fail
      go_ret2
      unfold PairE
      rw [HE.out]
      exact ⟨_, rfl, H2.out, (show (42 : Nat) ≠ 0 by decide), HB.out.trans (B2.out.mono HB.out.size)⟩

set_option maxRecDepth 100000 in
set_option maxHeartbeats 2000000 in
theorem blankL_pro (l : List UInt8) (w : World) (hl : l.length ≤ 100000) :
    Calls Tryz.prog 82 #[.string (bs l)] w (Says (.bool (decide (stripL l = []))) w) := by
  have HC := Lib.hid (trim_pro l [32, 9] w (by omega) (by decide) (by decide))
  have HE := Lib.hid (show Lib.trimS l [32, 9] = stripL l from rfl)
  obtain ⟨T, eT⟩ : ∃ T, stripL l = T := ⟨_, rfl⟩
  rw [HE.out, eT] at HC
  have HT := Lib.hid eT
  have y1 := toList_bs T
  clear hl eT
  go_enter Tryz.func82, Tryz.ntmps82
  go_wp2_with fail
  refine HC.out.mono ?_
  rintro e w1 ⟨rfl, hb⟩
  have HB := Lib.hid hb
  clear hb
  rcases T with _ | ⟨a, T⟩
  · go_wp2_with fail
    go_ret
    rw [HT.out]
    exact ⟨rfl, HB.out⟩
  · go_wp2_with fail
    go_ret
    rw [HT.out]
    exact ⟨rfl, HB.out⟩

/-- What is wrong with a line, by its column. -/
def FitP (r : Option (Nat × Nat)) (w : World) (e : Ending) (w' : World) : Prop :=
  match r with
  | none => e = .returned .nilIface ∧ Below w.heap.size w w'
  | some x => ∃ ge, e = .returned (errAt ge) ∧ Erd w' ge ⟨x.1, 0, (0 : Nat), x.2, bs []⟩ ∧ x.1 ≠ 0 ∧ Below w.heap.size w w'
def fitL (l : List UInt8) : Option (Nat × Nat) := if 4096 < l.length then some (2, 1) else (badAt l).map fun a => (40, a + 1)
theorem untab_len (l : List UInt8) : (untab l).length = l.length := by simp [untab]
theorem badAt_lt {l : List UInt8} {a : Nat} (h : badAt l = some a) : a < l.length := by
  unfold badAt at h
  obtain ⟨c, hc, rfl⟩ := Option.map_eq_some_iff.1 h
  have := chars_at (bs l) c (List.mem_of_find?_eq_some hc)
  rw [bs_size] at this
  exact this.1
set_option maxRecDepth 100000 in
set_option maxHeartbeats 2000000 in
theorem fit_pro (l : List UInt8) (w : World) (hT : Tabs w) (hl : l.length ≤ 100000) :
    Calls Tryz.prog 81 #[.string (bs l)] w (FitP (fitL l) w) := by
  have z1 := bs_size l
  by_cases hlong : 4096 < l.length
  · have b1 : (4096 : Int) < l.length := by omega
    have HE := Lib.hid (show fitL l = some (2, 1) by unfold fitL; rw [if_pos hlong])
    clear hlong hl hT
    go_enter Tryz.func81, Tryz.ntmps81
    go_wp2_with fail
    refine (wrong_pro 2 1 [] w (by decide)).mono ?_
    rintro e w2 ⟨rfl, he, hb⟩
    have H2 := Lib.hid he
    have B2 := Lib.hid hb
    clear he hb
    go_wp2_with fail
    go_ret
    unfold FitP
    rw [HE.out]
    exact ⟨_, rfl, H2.out, (show (2 : Nat) ≠ 0 by decide), B2.out⟩
  · have b1 : ¬ (4096 : Int) < l.length := by omega
    obtain ⟨mx, hmx⟩ := hT.len
    have hcb := Lib.countB_mul_le (bs [9]) (by decide) l.length (bs l) (by rw [bs_size]; omega)
    have e1 : (bs [9]).size = 1 := rfl
    have e2 : (bs [32]).size = 1 := rfl
    rw [e1, bs_size] at hcb
    have HC := Lib.hid (Tryz.strings_ReplaceAll (bs l) (bs [9]) (bs [32]) mx w (by rw [bs_size]; omega) hmx (by decide) (by rw [bs_size, e2]; omega))
    clear e1 e2
    rw [show (bs l).data.toList = l by simp [bs], show (bs [9]).data.toList = [9] from rfl, show (bs [32]).data.toList = [32] from rfl, replace_tab] at HC
    have HT := Lib.hid hT
    have HS := Lib.hid (show (bs (untab l)).size ≤ 16777216 by rw [bs_size, untab_len]; omega)
    have HF := Lib.hid (bad_untab l)
    have HQ := Lib.hid (show fitL l = (badAt l).map fun a => (40, a + 1) by unfold fitL; rw [if_neg hlong])
    have HLt := Lib.hid (fun a (h : badAt l = some a) => (show a < 100000 by have := badAt_lt h; omega))
    obtain ⟨F, eF⟩ : ∃ F, (chars (bs (untab l))).find? unplain = F := ⟨_, rfl⟩
    have HEF := Lib.hid eF
    rw [eF] at HF
    clear hcb hmx hT hlong hl eF
    go_enter Tryz.func81, Tryz.ntmps81
    go_wp2_with fail
    refine HC.out.mono ?_
    rintro e w1 ⟨rfl, hb⟩
    have HB := Lib.hid hb
    have HP := Lib.hid (plain_pro (bs (untab l)) w1 HS.out (HT.out.at hb))
    clear hb
    go_wp2_with fail
    refine HP.out.mono ?_
    unfold Finds
    rw [HEF.out]
    rintro e w2 ⟨rfl, hb⟩
    have HB2 := Lib.hid (HB.out.trans (hb.mono HB.out.size))
    clear hb
    cases F with
    | none =>
      have HN := Lib.hid (show badAt l = none from HF.out.symm)
      go_wp2_with fail
      go_ret
      unfold FitP
      rw [HQ.out, HN.out]
      exact ⟨rfl, HB2.out⟩
    | some c =>
      have HN := Lib.hid (show badAt l = some c.1 from HF.out.symm)
      have hlt := HLt.out c.1 HN.out
      have b2 : (c.1 : Int) ≤ 100000 := by omega
      have b3 : 0 ≤ (c.1 : Int) := by omega
      clear hlt
      simp only [placeOf]
      go_wp2_with fail
      refine (wrong_pro 40 (c.1 + 1) [] w2 (by decide)).mono ?_
      rintro e w3 ⟨rfl, he, hb⟩
      have H2 := Lib.hid he
      have B2 := Lib.hid hb
      clear he hb
      go_wp2_with fail
      go_ret
      unfold FitP
      rw [HQ.out, HN.out]
      exact ⟨_, rfl, H2.out, (show (40 : Nat) ≠ 0 by decide), HB2.out.trans (B2.out.mono HB2.out.size)⟩

def dirL (r : List UInt8) : Except (Nat × List UInt8) (List UInt8 × List UInt8) :=
  if named (letL r) (r.drop (letL r).length) [32, 9] then .ok (letL r, stripL (r.drop (letL r).length)) else .error (41, (letL r).take 12)
def TripE (r : Except (Nat × List UInt8) (List UInt8 × List UInt8)) (w : World) (e : Ending) (w' : World) : Prop :=
  match r with
  | .ok s => e = .returned (.tuple #[.string (bs s.1), .string (bs s.2), .nilIface]) ∧ Below w.heap.size w w'
  | .error x => ∃ ge, e = .returned (.tuple #[.string (bs []), .string (bs []), errAt ge]) ∧ Erd w' ge ⟨x.1, 0, (0 : Nat), (2 : Nat), bs x.2⟩ ∧ x.1 ≠ 0 ∧ Below w.heap.size w w'
set_option maxRecDepth 100000 in
set_option maxHeartbeats 2000000 in
theorem directive_pro (c : UInt8) (r : List UInt8) (w : World) (hl : r.length ≤ 99999) :
    Calls Tryz.prog 84 #[.string (bs (c :: r))] w (TripE (dirL r) w) := by
  have hle := letL_le r
  obtain ⟨T, eT⟩ : ∃ T, letL r = T := ⟨_, rfl⟩
  have HC := Lib.hid (letters_pro r w (by omega))
  have HE := Lib.hid (show dirL r = if named T (r.drop T.length) [32, 9] then .ok (T, stripL (r.drop T.length)) else .error (41, T.take 12) by unfold dirL; rw [eT])
  rw [eT] at hle HC
  clear eT
  have z1 := bs_size (c :: r)
  have z2 := bs_size T
  have b1 : (r.length : Int) ≤ 99999 := by omega
  have b2 : (T.length : Int) ≤ r.length := by omega
  have b3 : 0 ≤ (T.length : Int) := by omega
  have b4 : (1 : Int) ≤ (r.length : Int) + 1 := by omega
  have b5 : 1 + (T.length : Int) ≤ (r.length : Int) + 1 := by omega
  have b6 : 0 ≤ 1 + (T.length : Int) := by omega
  have HX1 := Lib.hid (show (bs (c :: r)).extract 1 (r.length + 1) = bs r by rw [bs_extract, List.drop_succ_cons, List.drop_zero, List.take_of_length_le (by simp)])
  have HX2 := Lib.hid (show (bs (c :: r)).extract (1 + T.length) (r.length + 1) = bs (r.drop T.length) by
    rw [bs_extract, show 1 + T.length = T.length + 1 by omega, List.drop_succ_cons, List.take_of_length_le (by simp)])
  have HTr := Lib.hid (fun w' => trim_pro (r.drop T.length) [32, 9] w' (by simp; omega) (by decide) (by decide))
  have HM := Lib.hid (show (bs T).extract 0 (min (T.length : Int) 12).toNat = bs (T.take 12) by
    rw [bs_take, show (min (T.length : Int) 12).toNat = min T.length 12 by omega]
    congr 1
    by_cases h : T.length ≤ 12
    · rw [Nat.min_eq_left h, List.take_of_length_le (Nat.le_refl _), List.take_of_length_le h]
    · rw [Nat.min_eq_right (by omega)])
  clear hl hle
  cases hb : named T (r.drop T.length) [32, 9] with
  | true =>
    rw [hb] at HE
    have HN := Lib.hid hb
    clear hb
    go_enter Tryz.func84, Tryz.ntmps84
    go_wp2_with fail
    rw [HX1.out]
    refine HC.out.mono ?_
    rintro e w1 ⟨rfl, hb⟩
    have HB := Lib.hid hb
    clear hb
    go_wp2_with fail
    rw [HX2.out]
    refine (named_pro T (r.drop T.length) [32, 9] w1).mono ?_
    rw [HN.out]
    rintro e w2 ⟨rfl, rfl⟩
    go_wp2_with fail
    refine (HTr.out w1).mono ?_
    rintro e w2 ⟨rfl, hb⟩
    have HB2 := Lib.hid hb
    clear hb
    go_wp2_with fail
    refine bodyPost_ret (results_tmp3 rfl _ _ _) rfl ?_
    unfold TripE
    rw [HE.out]
    exact ⟨rfl, HB.out.trans (HB2.out.mono HB.out.size)⟩
  | false =>
    rw [hb] at HE
    have HN := Lib.hid hb
    clear hb
    go_enter Tryz.func84, Tryz.ntmps84
    go_wp2_with fail
    rw [HX1.out]
    refine HC.out.mono ?_
    rintro e w1 ⟨rfl, hb⟩
    have HB := Lib.hid hb
    clear hb
    go_wp2_with fail
    rw [HX2.out]
    refine (named_pro T (r.drop T.length) [32, 9] w1).mono ?_
    rw [HN.out]
    rintro e w2 ⟨rfl, rfl⟩
    go_wp2_with fail
    rw [HM.out]
    refine (wrong_pro 41 2 (T.take 12) w1 (by decide)).mono ?_
    rintro e w2 ⟨rfl, he, hb⟩
    have H2 := Lib.hid he
    have B2 := Lib.hid hb
    clear he hb
    unfold errAt
    go_wp2_with fail
    refine bodyPost_ret (results_tmp3 rfl _ _ _) rfl ?_
    unfold TripE
    rw [HE.out]
    exact ⟨_, rfl, H2.out, (show (41 : Nat) ≠ 0 by decide), HB.out.trans (B2.out.mono HB.out.size)⟩
end Go.Proofs.YtmceiehnfmgioaaGreatDoor
