/- The program's Norm and add of layer 7. -/
import Derived.Test.YtoeknophfcfahaaGreatDoorNb
namespace Go.Proofs.YtoeknophfcfahaaGreatDoor
open Go.RowKit Go.Maps
set_option linter.unusedVariables false

/-- What Norm answers. -/
def NormIs (s : ByteArray) (w : World) (e : Ending) (w' : World) : Prop := e = .returned (.tuple #[.string (nrm s).1, .int .i64 (nrm s).2]) ∧ Below w.heap.size w w'
theorem empty_of_size {f : ByteArray} (h : f.size = 0) : f = ByteArray.empty := by
  have : f.data = #[] := Array.eq_empty_of_size_eq_zero h
  cases f; cases this; rfl

set_option maxRecDepth 100000 in
set_option maxHeartbeats 1000000 in
theorem norm_pro (s : ByteArray) (w : World) (hT : Tabs w) : Calls Tryz.prog 26 #[.string s] w (NormIs s w) := by
  by_cases h1 : 64 < s.size
  · have hn : nrm s = (ByteArray.empty, 2) := by unfold nrm; rw [if_pos h1]
    have HN := Lib.hid hn
    have h1z : (64 : Int) < s.size := by omega
    clear hn hT h1
    go_enter Tryz.func26, Tryz.ntmps26
    go_wp2_with fail
    go_ret2
    unfold NormIs
    rw [HN.out]
    exact ⟨rfl, Below.refl _ _⟩
  · have h1z : ¬ (64 : Int) < s.size := by omega
    have HS := Lib.hid (show s.size ≤ 16777216 by omega)
    have HT := Lib.hid hT
    obtain ⟨f, hf⟩ : ∃ f, fold s = f := ⟨_, rfl⟩
    obtain ⟨p, hp⟩ : ∃ p, ((chars s).find? unplain).isNone = p := ⟨_, rfl⟩
    have hn : nrm s = if p = false ∨ f.size = 0 then (ByteArray.empty, 70) else (f, 0) := by unfold nrm; rw [if_neg h1, hp, hf]
    have HN := Lib.hid hn
    have HF := Lib.hid hf
    have HP := Lib.hid hp
    clear h1 hn hf hp hT
    have HC := Lib.hid (fold_pro s w HS.out HT.out)
    cases p with
    | false =>
      go_enter Tryz.func26, Tryz.ntmps26
      go_wp2_with fail
      refine HC.out.mono ?_
      rw [HF.out]
      rintro e w1 ⟨rfl, hb1⟩
      have HB1 := Lib.hid hb1
      have HT1 := Lib.hid (HT.out.below hb1 (Nat.le_refl _))
      clear hb1
      go_wp2_with fail
      refine (plain_pro s _ HS.out HT1.out).mono ?_
      rintro e w2 ⟨he, hb2⟩
      rw [HP.out] at he
      subst he
      have HB2 := Lib.hid (HB1.out.trans (hb2.mono HB1.out.size))
      clear hb2
      go_wp2_with fail
      go_ret2
      unfold NormIs
      rw [HN.out, if_pos (.inl (by simp))]
      exact ⟨rfl, HB2.out⟩
    | true =>
      by_cases hz : f.size = 0
      · have n1 := isNil hz
        have HZ := Lib.hid hz
        clear hz
        go_enter Tryz.func26, Tryz.ntmps26
        go_wp2_with fail
        refine HC.out.mono ?_
        rw [HF.out]
        rintro e w1 ⟨rfl, hb1⟩
        have HB1 := Lib.hid hb1
        have HT1 := Lib.hid (HT.out.below hb1 (Nat.le_refl _))
        clear hb1
        go_wp2_with fail
        refine (plain_pro s _ HS.out HT1.out).mono ?_
        rintro e w2 ⟨he, hb2⟩
        rw [HP.out] at he
        subst he
        have HB2 := Lib.hid (HB1.out.trans (hb2.mono HB1.out.size))
        clear hb2
        go_wp2_with fail
        go_ret2
        unfold NormIs
        rw [HN.out, if_pos (.inr HZ.out)]
        exact ⟨rfl, HB2.out⟩
      · have n1 := notEmpty (s := f) (by omega)
        have HZ := Lib.hid (show ¬ (true = false ∨ f.size = 0) by rintro (h | h); cases h; exact hz h)
        clear hz
        go_enter Tryz.func26, Tryz.ntmps26
        go_wp2_with fail
        refine HC.out.mono ?_
        rw [HF.out]
        rintro e w1 ⟨rfl, hb1⟩
        have HB1 := Lib.hid hb1
        have HT1 := Lib.hid (HT.out.below hb1 (Nat.le_refl _))
        clear hb1
        go_wp2_with fail
        refine (plain_pro s _ HS.out HT1.out).mono ?_
        rintro e w2 ⟨he, hb2⟩
        rw [HP.out] at he
        subst he
        have HB2 := Lib.hid (HB1.out.trans (hb2.mono HB1.out.size))
        clear hb2
        go_wp2_with fail
        go_ret2
        unfold NormIs
        rw [HN.out, if_neg HZ.out]
        exact ⟨rfl, HB2.out⟩

/-- What add answers, and what it leaves of the map. -/
def AddIs (ks : List ByteArray) (M : Nat) (s : ByteArray) (w : World) (e : Ending) (w' : World) : Prop :=
  (errOn ks s ≠ 0 ∧ e = .returned (.tuple #[.string ByteArray.empty, .int .i64 (errOn ks s)]) ∧ MapIs w' M ks ∧ Below w.heap.size w w') ∨
  (errOn ks s = 0 ∧ e = .returned (.tuple #[.string (nm s), .int .i64 0]) ∧ MapIs w' M (ks ++ [nm s]) ∧ w.grownBy w' (some M))
theorem below_by {w w1 w2 : World} {B : Nat} (h : Below w.heap.size w w1) (hg : w1.grownBy w2 (some B)) : w.grownBy w2 (some B) :=
  ⟨hg.os.trans h.os, hg.tape.trans h.tape, hg.output.trans h.output, Nat.le_trans h.size hg.size, fun k hk hne => (hg.block k (Nat.lt_of_lt_of_le hk h.size) hne).trans (h.block k hk)⟩

set_option maxRecDepth 100000 in
set_option maxHeartbeats 2000000 in
theorem add_pro (ks : List ByteArray) (M : Nat) (s : ByteArray) (w : World) (hT : Tabs w) (hM : MapIs w M ks) (hk : ks.length ≤ 1000) :
    Calls Tryz.prog 29 #[.map (some M), .string s] w (AddIs ks M s w) := by
  have HC := Lib.hid (norm_pro s w hT)
  have HM := Lib.hid hM
  have HK := Lib.hid hk
  obtain ⟨er, her⟩ : ∃ er, (nrm s).2 = er := ⟨_, rfl⟩
  obtain ⟨n, hn⟩ : ∃ n, (nrm s).1 = n := ⟨_, rfl⟩
  have hnm : nm s = n := hn
  have HER := Lib.hid her
  have HN := Lib.hid hn
  have HNM := Lib.hid hnm
  have hr := nrm_err s
  rw [her] at hr
  have hsz : er = 0 → s.size ≤ 64 := fun e => (nrm_ok (her.trans e)).1
  have HSZ := Lib.hid hsz
  have hfz : er = 0 → n.size ≤ maxLen := fun e => by
    have h1 := nrm_ok (her.trans e)
    rw [← hnm, h1.2.1]
    have h2 := fold_size s
    unfold maxLen
    omega
  have HFZ := Lib.hid hfz
  clear hT hM hk her hn hnm hsz hfz
  by_cases h0 : er = 0
  · subst h0
    have HFS := Lib.hid (HFZ.out rfl)
    by_cases hin : n ∈ ks
    · have HE := Lib.hid (show errOn ks s = 71 by unfold errOn; rw [HER.out, HNM.out, if_neg (by simp), if_pos (inL_iff.2 hin)])
      have HIN := Lib.hid hin
      clear hr hin
      go_enter Tryz.func29, Tryz.ntmps29
      go_wp2_with fail
      refine HC.out.mono ?_
      unfold NormIs
      rw [HER.out, HN.out]
      rintro e w1 ⟨rfl, hb1⟩
      obtain ⟨D, hown, hnum⟩ := HM.out.below hb1
      have HB1 := Lib.hid hb1
      have HO := Lib.hid hown
      have hhas : Maps.has D (.string n.data.toList) = true := (hnum.has n).2 HIN.out
      have HNU := Lib.hid hnum
      clear hb1 hown hnum
      go_wp2_with (at_lookup; go_loud (refine wpList_lookup_own_ok_int _ rfl _ _ 63 rfl 9 3 .i64 law Tryz.underlying63 Tryz.underlying3 (zeroI _) M ks.length D rfl HO.out _ _ rfl (Go.WideMaps.keyOf_string_mk Tryz.underlying9 HFS.out) ?_); intro c hat hwc)
      go_ret2
      exact .inl ⟨by rw [HE.out]; decide, by rw [HE.out]; rfl, ⟨D, HO.out, HNU.out⟩, HB1.out⟩
    · have HE := Lib.hid (show errOn ks s = 0 by unfold errOn; rw [HER.out, HNM.out, if_neg (by simp), if_neg (fun e => hin (inL_iff.1 e))])
      have HIN := Lib.hid hin
      clear hr hin
      go_enter Tryz.func29, Tryz.ntmps29
      go_wp2_with fail
      refine HC.out.mono ?_
      unfold NormIs
      rw [HER.out, HN.out]
      rintro e w1 ⟨rfl, hb1⟩
      obtain ⟨D, hown, hnum⟩ := HM.out.below hb1
      have HB1 := Lib.hid hb1
      have HO := Lib.hid hown
      have hhas : Maps.has D (.string n.data.toList) = false := by
        cases e : Maps.has D (.string n.data.toList)
        · rfl
        · exact absurd ((hnum.has n).1 e) HIN.out
      have HNU := Lib.hid hnum
      have hsize := hnum.size
      clear hb1 hown hnum
      go_wp2_with (first
        | (at_lookup; go_loud (refine wpList_lookup_own_ok_int _ rfl _ _ 63 rfl 9 3 .i64 law Tryz.underlying63 Tryz.underlying3 (zeroI _) M ks.length D rfl HO.out _ _ rfl (Go.WideMaps.keyOf_string_mk Tryz.underlying9 HFS.out) ?_); intro c hat hwc)
        | (at_len; refine wpList_len_own _ rfl _ 63 rfl 9 3 Tryz.underlying63 (plainElem Tryz.prog 3) M ks.length D rfl HO.out ?_)
        | (at_mapUpdate; go_loud (refine wpList_mapUpdate_own _ rfl _ _ _ 63 rfl 9 3 law Tryz.underlying63 (plainElem Tryz.prog 3) M ks.length D rfl HO.out (by have := HK.out; unfold maxLen; omega) _ _ _ rfl rfl (Go.WideMaps.keyOf_string_mk Tryz.underlying9 HFS.out) _ [] (plainElem_int Tryz.underlying3 (WalkArith.wf_i64 (by have := HK.out; omega))) ?_); intro w2 hown2 hgrow2))
      go_ret2
      refine .inr ⟨HE.out, by rw [HNM.out]; rfl, ⟨_, by rw [List.length_append]; exact hown2, ?_⟩, below_by HB1.out hgrow2⟩
      rw [HNM.out, hsize]
      exact HNU.out.put HIN.out
  · have HE := Lib.hid (show errOn ks s = er by unfold errOn; rw [HER.out, if_pos h0])
    have t1 : (er != 0) = true := by simpa using h0
    have H0 := Lib.hid h0
    clear h0 hr
    go_enter Tryz.func29, Tryz.ntmps29
    go_wp2_with fail
    refine HC.out.mono ?_
    unfold NormIs
    rw [HER.out, HN.out]
    rintro e w1 ⟨rfl, hb1⟩
    have HB1 := Lib.hid hb1
    have HM1 := Lib.hid (HM.out.below hb1)
    clear hb1
    go_wp2_with fail
    go_ret2
    exact .inl ⟨by rw [HE.out]; exact H0.out, by rw [HE.out]; rfl, HM1.out, HB1.out⟩
end Go.Proofs.YtoeknophfcfahaaGreatDoor
