/- The program's Write. -/
import Derived.Test.YtceanagnkcejgaaGreatDoorWb
namespace Go.Proofs.YtceanagnkcejgaaGreatDoor
open Go.RowKit
set_option linter.unusedVariables false

theorem ck1_one (s : Sty) : ck1 [s] 0 = if nameB s.nm = false then 60 else ownE s.ch := by
  unfold ck1
  have : gets [s] 0 = s := rfl
  rw [this, if_neg (by omega : ¬ _ < 0)]
theorem fnd_self (s : Sty) : fnd [s] s.nm = some 0 := by simp [fnd, fndF]
def wrV (p : List UInt8 × Nat) : Value := .tuple #[.string (bs p.1), .int .i64 p.2]
theorem write_bad {s : Sty} {e : Nat} (h : wrE s = e) (he : ¬ e = 0) : writeM s = ([], e) := by unfold writeM; rw [h, if_pos he]
theorem write_ok {s : Sty} (h : wrE s = 0) : writeM s = (textS s, 0) := by unfold writeM; rw [h, if_neg (by simp)]
theorem wrE_ck {s : Sty} (h : ¬ ck1 [s] 0 = 0) : wrE s = ck1 [s] 0 := by
  rw [ck1_one] at h ⊢
  unfold wrE
  split
  · rfl
  · rename_i h1
    rw [if_neg h1] at h
    rw [if_pos h]
theorem wrE_par {s : Sty} (h : ck1 [s] 0 = 0) : wrE s = if ¬ s.pr = [] ∧ nameB s.pr = false then 64 else 0 := by
  rw [ck1_one] at h
  unfold wrE
  split at h
  · cases h
  · rename_i h1
    rw [if_neg h1, if_neg (by omega)]
theorem name_len {l : List UInt8} (h : nameB l = true) : l.length ≤ 12 := by
  unfold nameB at h
  simp only [Bool.and_eq_true, decide_eq_true_eq] at h
  exact h.2
theorem SBox.under {w w' : World} {b B : Nat} {s : Sty} (h : SBox w b s) (hb : Below B w w') (hlt : b < B) : SBox w' b s := (hb.block b hlt).trans h
/-- A builder's writing of a text. -/
theorem bis_keep {B b : Nat} {l : List Value} {w w' : World} (h : BIs B b l w) (hb : Below w.heap.size w w') : BIs B b l w' := by
  have go : ∀ p, Lib.BuilderAtF 90 5 B b p l w → Lib.BuilderAtF 90 5 B b p l w' := by
    rintro p ⟨h1, v, h2, h3, h4⟩
    refine ⟨h1, v, (hb.block b (Array.getElem?_eq_some_iff.1 h2).1).trans h2, ⟨h3.1, ?_⟩, h4⟩
    rcases h3.2 with h0 | ⟨g, cap, cur, fz, e1, e2, e3, e4⟩
    · exact .inl h0
    · exact .inr ⟨g, cap, cur, fz, e1, e2, (hb.block g (Array.getElem?_eq_some_iff.1 e3).1).trans e3, e4⟩
  exact h.elim (fun x => .inl (go _ x)) (fun x => .inr (go _ x))
theorem add_pro (B b : Nat) (l t : List UInt8) (w0 w : World) (h : BIs B b (Lib.byteCells l) w) (hl : l.length + t.length ≤ 100000) (hBw : B ≤ w0.heap.size) (hb0 : Below B w0 w) :
    Calls Tryz.prog 48 #[.pointer (some ⟨b, 0, none⟩), .string (bs t)] w fun e w' => (∃ v, e = .returned v) ∧ BIs B b (Lib.byteCells (l ++ t)) w' ∧ Below B w0 w' := by
  refine (str_pro B b _ (bs t) w h (by rw [bs_len, Lib.byteCells_length]; omega) (by have := hb0.size; omega)).mono ?_
  rintro e w' ⟨rfl, h2⟩
  refine ⟨⟨_, rfl⟩, ?_, hb0.trans h2.2.1⟩
  have h3 := h2.1
  rw [strCells_bs, ← byteCells_app] at h3
  exact .inr h3
theorem bs_nil : bs [] = ⟨#[]⟩ := rfl
theorem bits_len7 (sg : UInt8) (m : Nat) : (bitsT sg m 7).length ≤ 63 := bitsT_len sg m 7 (Nat.le_refl _)

set_option maxRecDepth 100000 in
set_option maxHeartbeats 16000000 in
theorem Write_pro (s : Sty) (w : World) (hf : FitS s) (hT : Tabs w) :
    Calls Tryz.prog 26 #[styVal s] w (Says (wrV (writeM s)) w) := by
  have hA := (Below.refl _ w).alloc (Nat.le_refl _) (.cells (styCells s) 29)
  have hA2 := hA.alloc (by simp) (.cells (styCells s) 29)
  have HA2 := Lib.hid hA2
  have HSB := Lib.hid (show SBox ((w.alloc (.cells (styCells s) 29)).alloc (.cells (styCells s) 29)) w.heap.size s from (Below.heap_alloc _ _ w.heap.size (by simp)).trans (heap_alloc_new w _))
  have hrow := World.ownsRow_lit (e := 29) (size := 5) (base := w.heap.size + 1) (w.alloc (.cells (styCells s) 29)) (styCells s) 1 (by simp) (by unfold maxLen; omega) rfl
  rw [World.size_alloc] at hrow
  have hsh : Sh ((w.alloc (.cells (styCells s) 29)).alloc (.cells (styCells s) 29)) (.slice (some ⟨w.heap.size + 1, 0, none⟩) 1 1) [s] := Sh.own hrow
  have HCK := Lib.hid (checkOwn_pro [s] 0 _ _ hsh (fun x hx => by simp at hx; subst hx; exact hf) (by simp))
  have hT2 := Lib.hid (hT.at hA2)
  have HT := Lib.hid hT
  have HF := Lib.hid hf
  obtain ⟨ec, hec⟩ : ∃ ec, ck1 [s] 0 = ec := ⟨_, rfl⟩
  rw [hec] at HCK
  have hw1 := @wrE_ck s
  have hw2 := @wrE_par s
  rw [hec] at hw1 hw2
  clear hA hA2 hrow hsh hT hf hec
  unfold styCells at HCK HSB HA2 hT2
  by_cases he : ec = 0
  · subst he
    have hw3 := hw2 rfl
    clear hw1 hw2
    obtain ⟨nm, pr, ch⟩ := s
    dsimp only at hw3 HCK HSB HA2 hT2 ⊢
    have tp := bs_toList pr
    have hw4 := @wrE_ok ⟨nm, pr, ch⟩
    by_cases hbad : ¬ pr = [] ∧ nameB pr = false
    · have HV := Lib.hid (write_bad (s := ⟨nm, pr, ch⟩) (hw3.trans (if_pos hbad)) (by decide))
      have tpe : pr.isEmpty = false := by cases hq : pr with | nil => exact absurd hq hbad.1 | cons a b => rfl
      have HNP := Lib.hid (fun W => isName_pro pr W HF.out.2.1)
      rw [hbad.2] at HNP
      clear hw3 hw4 hbad
      unfold styVal
      go_enter Tryz.func26, Tryz.ntmps26
      go_wp2_with fail
      refine HCK.out.mono ?_
      rintro e w1 ⟨rfl, hb⟩
      have HB := Lib.hid (HA2.out.trans (hb.mono HA2.out.size))
      have hsb := HSB.out.keep hb
      obtain ⟨a0, a1, a2, a3, a4⟩ := hsb.get
      clear hb hsb
      go_wp2_with fail
      refine (HNP.out _).mono ?_
      rintro e w2 ⟨rfl, hb⟩
      have HB2 := Lib.hid (HB.out.trans (hb.mono HB.out.size))
      clear hb
      go_wp2_with fail
      go_ret2
      rw [HV.out]
      exact ⟨rfl, HB2.out⟩
    have hz := hw3.trans (if_neg hbad)
    have HV := Lib.hid (write_ok (s := ⟨nm, pr, ch⟩) hz)
    obtain ⟨on, off, col⟩ := ch
    obtain ⟨hnm, ⟨m, o, rfl, rfl, hm, ho, hmo, h6, h7⟩, hpr⟩ := hw4.1 hz
    dsimp only at h6 h7 hnm hpr
    have HMm := Lib.hid hm
    have HMo := Lib.hid ho
    have hl12 := name_len hnm
    clear hz hw3 hw4 hmo hnm hm ho
    by_cases hp : pr = []
    · have tpe : pr.isEmpty = true := by rw [hp]; rfl
      have HLN := Lib.hid hl12
      have hpt : parT pr = [] := by unfold parT; rw [if_pos hp]
      clear hbad hpr hp hl12
      by_cases hc : col = -1
      · have tc := bne_f hc
        have HTX := Lib.hid (show textS ⟨nm, pr, ⟨(m : Int), (o : Int), col⟩⟩ = ([] ++ nm) ++ bitsT 43 m 7 ++ bitsT 45 o 7 by unfold textS colT; rw [if_pos hc, hpt]; simp)
        clear hc hpt h6 h7
        unfold styVal
        go_enter Tryz.func26, Tryz.ntmps26
        go_wp2_with fail
        refine HCK.out.mono ?_
        rintro e w1 ⟨rfl, hb⟩
        have HB := Lib.hid (HA2.out.trans (hb.mono HA2.out.size))
        have hsb := HSB.out.keep hb
        obtain ⟨p0, p1, p2, p3, p4⟩ := hsb.get
        have HS1 := Lib.hid hsb
        clear hb hsb
        obtain ⟨B, hB⟩ : ∃ B, w1.heap.size = B := ⟨_, rfl⟩
        have HBq := Lib.hid hB
        have hSB : w.heap.size < B := by rw [← hB]; exact HS1.out.lt
        have hb0 : Below B w1 (w1.alloc (.cells #[.pointer none, .slice none 0 0] 90)) := by rw [← hB]; exact (Below.refl _ _).alloc (Nat.le_refl _) _
        have hi0 : BIs B B (Lib.byteCells []) (w1.alloc (.cells #[.pointer none, .slice none 0 0] 90)) := by rw [← hB]; exact Lib.IsBuilderF.of (Lib.fresh_isBuilder 90 5 w1)
        have HI0 := Lib.hid hi0
        have HBb0 := Lib.hid hb0
        have HBs := Lib.hid (show B ≤ w1.heap.size by omega)
        have HTk := Lib.hid (HT.out.at HB.out)
        clear hB hi0 hb0
        obtain ⟨a0, a1, a2, a3, a4⟩ := (HS1.out.under HBb0.out hSB).get
        go_wp2_with fail
        rw [HBq.out]
        refine (add_pro B B ([]) (nm) w1 _ HI0.out (by have := HLN.out; (try simp only [List.length_append]); (try simp only [List.length_cons]); (try simp only [List.length_nil]); omega) HBs.out HBb0.out).mono ?_
        rintro e W1 ⟨⟨v1, rfl⟩, hi, hb⟩
        have HI1 := Lib.hid hi
        have HBb1 := Lib.hid hb
        clear hi hb a0 a1 a2 a3 a4
        obtain ⟨a0, a1, a2, a3, a4⟩ := (HS1.out.under HBb1.out hSB).get
        go_wp2_with fail
        refine (writeBits_pro B B ([] ++ nm) 43 m w1 _ HI1.out HMm.out (by have := HLN.out; (try simp only [List.length_append]); (try simp only [List.length_cons]); (try simp only [List.length_nil]); have := bits_len7 43 m; omega) (by have := HBs.out; have := HBb1.out.size; omega) HTk.out (by have := HBq.out; omega) HBb1.out).mono ?_
        rintro e W2 ⟨rfl, hi, hb⟩
        have HI2 := Lib.hid hi
        have HBb2 := Lib.hid (HBb1.out.trans hb)
        clear hi hb a0 a1 a2 a3 a4
        obtain ⟨a0, a1, a2, a3, a4⟩ := (HS1.out.under HBb2.out hSB).get
        go_wp2_with fail
        refine (writeBits_pro B B (([] ++ nm) ++ bitsT 43 m 7) 45 o w1 _ HI2.out HMo.out (by have := HLN.out; (try simp only [List.length_append]); (try simp only [List.length_cons]); (try simp only [List.length_nil]); have := bits_len7 43 m; omega) (by have := HBs.out; have := HBb2.out.size; omega) HTk.out (by have := HBq.out; omega) HBb2.out).mono ?_
        rintro e W3 ⟨rfl, hi, hb⟩
        have HI3 := Lib.hid hi
        have HBb3 := Lib.hid (HBb2.out.trans hb)
        clear hi hb a0 a1 a2 a3 a4
        obtain ⟨a0, a1, a2, a3, a4⟩ := (HS1.out.under HBb3.out hSB).get
        go_wp2_with fail
        refine (Tryz.Builder_String_any_f B B ((([] ++ nm) ++ bitsT 43 m 7) ++ bitsT 45 o 7) _ HI3.out (by have := HBs.out; have := HBb3.out.size; omega)).mono ?_
        rintro e W10 ⟨rfl, _, hb⟩
        have HBz := Lib.hid (HB.out.trans ((HBb3.out.trans hb).mono (by have := hSB; omega)))
        clear hb
        go_wp2_with fail
        go_ret2
        rw [HV.out]
        refine ⟨?_, HBz.out⟩
        rw [show textS ⟨nm, pr, ⟨(m : Int), (o : Int), col⟩⟩ = (([] ++ nm) ++ bitsT 43 m 7) ++ bitsT 45 o 7 from HTX.out]
        simp [wrV, bs]
      · have tc := bne_t hc
        have HCR := Lib.hid (show 0 ≤ col ∧ col ≤ 15 by omega)
        have HCI := Lib.hid (show Lib.itoa col = itoaL col.toNat by
          have h := itoa_is col.toNat (by omega)
          rw [show ((col.toNat : Nat) : Int) = col by omega] at h
          exact h)
        have HTX := Lib.hid (show textS ⟨nm, pr, ⟨(m : Int), (o : Int), col⟩⟩ = (([] ++ nm) ++ bitsT 43 m 7 ++ bitsT 45 o 7) ++ 32 :: (colorW ++ 32 :: itoaL col.toNat) by unfold textS colT; rw [if_neg hc, hpt]; simp)
        have e1 : (⟨#[32, 99, 111, 108, 111, 114, 32]⟩ : ByteArray) ++ bs (itoaL col.toNat) = bs (32 :: (colorW ++ 32 :: itoaL col.toNat)) := bs_app [32, 99, 111, 108, 111, 114, 32] (itoaL col.toNat)
        have hcl : (itoaL col.toNat).length ≤ 2 := by unfold itoaL; split <;> simp
        have HCL := Lib.hid hcl
        have hz1 := bs_len (itoaL col.toNat)
        clear hc hpt h6 h7
        unfold styVal
        go_enter Tryz.func26, Tryz.ntmps26
        go_wp2_with fail
        refine HCK.out.mono ?_
        rintro e w1 ⟨rfl, hb⟩
        have HB := Lib.hid (HA2.out.trans (hb.mono HA2.out.size))
        have hsb := HSB.out.keep hb
        obtain ⟨p0, p1, p2, p3, p4⟩ := hsb.get
        have HS1 := Lib.hid hsb
        clear hb hsb
        obtain ⟨B, hB⟩ : ∃ B, w1.heap.size = B := ⟨_, rfl⟩
        have HBq := Lib.hid hB
        have hSB : w.heap.size < B := by rw [← hB]; exact HS1.out.lt
        have hb0 : Below B w1 (w1.alloc (.cells #[.pointer none, .slice none 0 0] 90)) := by rw [← hB]; exact (Below.refl _ _).alloc (Nat.le_refl _) _
        have hi0 : BIs B B (Lib.byteCells []) (w1.alloc (.cells #[.pointer none, .slice none 0 0] 90)) := by rw [← hB]; exact Lib.IsBuilderF.of (Lib.fresh_isBuilder 90 5 w1)
        have HI0 := Lib.hid hi0
        have HBb0 := Lib.hid hb0
        have HBs := Lib.hid (show B ≤ w1.heap.size by omega)
        have HTk := Lib.hid (HT.out.at HB.out)
        clear hB hi0 hb0
        obtain ⟨a0, a1, a2, a3, a4⟩ := (HS1.out.under HBb0.out hSB).get
        go_wp2_with fail
        rw [HBq.out]
        refine (add_pro B B ([]) (nm) w1 _ HI0.out (by have := HLN.out; (try simp only [List.length_append]); (try simp only [List.length_cons]); (try simp only [List.length_nil]); omega) HBs.out HBb0.out).mono ?_
        rintro e W1 ⟨⟨v1, rfl⟩, hi, hb⟩
        have HI1 := Lib.hid hi
        have HBb1 := Lib.hid hb
        clear hi hb a0 a1 a2 a3 a4
        obtain ⟨a0, a1, a2, a3, a4⟩ := (HS1.out.under HBb1.out hSB).get
        go_wp2_with fail
        refine (writeBits_pro B B ([] ++ nm) 43 m w1 _ HI1.out HMm.out (by have := HLN.out; (try simp only [List.length_append]); (try simp only [List.length_cons]); (try simp only [List.length_nil]); have := bits_len7 43 m; omega) (by have := HBs.out; have := HBb1.out.size; omega) HTk.out (by have := HBq.out; omega) HBb1.out).mono ?_
        rintro e W2 ⟨rfl, hi, hb⟩
        have HI2 := Lib.hid hi
        have HBb2 := Lib.hid (HBb1.out.trans hb)
        clear hi hb a0 a1 a2 a3 a4
        obtain ⟨a0, a1, a2, a3, a4⟩ := (HS1.out.under HBb2.out hSB).get
        go_wp2_with fail
        refine (writeBits_pro B B (([] ++ nm) ++ bitsT 43 m 7) 45 o w1 _ HI2.out HMo.out (by have := HLN.out; (try simp only [List.length_append]); (try simp only [List.length_cons]); (try simp only [List.length_nil]); have := bits_len7 43 m; omega) (by have := HBs.out; have := HBb2.out.size; omega) HTk.out (by have := HBq.out; omega) HBb2.out).mono ?_
        rintro e W3 ⟨rfl, hi, hb⟩
        have HI3 := Lib.hid hi
        have HBb3 := Lib.hid (HBb2.out.trans hb)
        clear hi hb a0 a1 a2 a3 a4
        obtain ⟨a0, a1, a2, a3, a4⟩ := (HS1.out.under HBb3.out hSB).get
        go_wp2_with fail
        refine (itoa_pro col _ (by have := HCR.out; omega) (by have := HCR.out; omega) (HTk.out.below HBb3.out (by have := HBq.out; omega))).mono ?_
        rw [HCI.out]
        rintro e W9 ⟨rfl, hb⟩
        have hi := HI3.out
        have HIi := Lib.hid (bis_keep hi hb)
        have HBi := Lib.hid (HBb3.out.trans (hb.mono (by have := HBb3.out.size; have := HBs.out; omega)))
        clear hi hb a0 a1 a2 a3 a4
        obtain ⟨a0, a1, a2, a3, a4⟩ := (HS1.out.under HBi.out hSB).get
        go_wp2_with fail
        refine (add_pro B B ((([] ++ nm) ++ bitsT 43 m 7) ++ bitsT 45 o 7) (32 :: (colorW ++ 32 :: itoaL col.toNat)) w1 _ HIi.out (by have := HLN.out; have := HCL.out; simp only [List.length_append, List.length_cons, List.length_nil, colorW]; have := bits_len7 43 m; have := bits_len7 45 o; omega) HBs.out HBi.out).mono ?_
        rintro e W4 ⟨⟨v4, rfl⟩, hi, hb⟩
        have HI4 := Lib.hid hi
        have HBb4 := Lib.hid hb
        clear hi hb a0 a1 a2 a3 a4
        go_wp2_with fail
        refine (Tryz.Builder_String_any_f B B (((([] ++ nm) ++ bitsT 43 m 7) ++ bitsT 45 o 7) ++ 32 :: (colorW ++ 32 :: itoaL col.toNat)) _ HI4.out (by have := HBs.out; have := HBb4.out.size; omega)).mono ?_
        rintro e W10 ⟨rfl, _, hb⟩
        have HBz := Lib.hid (HB.out.trans ((HBb4.out.trans hb).mono (by have := hSB; omega)))
        clear hb
        go_wp2_with fail
        go_ret2
        rw [HV.out]
        refine ⟨?_, HBz.out⟩
        rw [show textS ⟨nm, pr, ⟨(m : Int), (o : Int), col⟩⟩ = ((([] ++ nm) ++ bitsT 43 m 7) ++ bitsT 45 o 7) ++ 32 :: (colorW ++ 32 :: itoaL col.toNat) from HTX.out]
        simp [wrV, bs]
    · have tpe : pr.isEmpty = false := by cases hq : pr with | nil => exact absurd hq hp | cons a b => rfl
      have hnp : nameB pr = true := hpr.resolve_left hp
      have HLN := Lib.hid (And.intro hl12 (name_len hnp))
      have HNP := Lib.hid (fun W => isName_pro pr W HF.out.2.1)
      rw [hnp] at HNP
      have hpt : parT pr = 58 :: pr := by unfold parT; rw [if_neg hp]
      have e0 : (⟨#[58]⟩ : ByteArray) ++ bs pr = bs (58 :: pr) := bs_app [58] pr
      have hz0 := bs_len pr
      have hlp := name_len hnp
      clear hbad hpr hp hl12 hnp
      by_cases hc : col = -1
      · have tc := bne_f hc
        have HTX := Lib.hid (show textS ⟨nm, pr, ⟨(m : Int), (o : Int), col⟩⟩ = ([] ++ nm ++ 58 :: pr) ++ bitsT 43 m 7 ++ bitsT 45 o 7 by unfold textS colT; rw [if_pos hc, hpt]; simp)
        clear hc hpt h6 h7
        unfold styVal
        go_enter Tryz.func26, Tryz.ntmps26
        go_wp2_with fail
        refine HCK.out.mono ?_
        rintro e w1 ⟨rfl, hb⟩
        have HB := Lib.hid (HA2.out.trans (hb.mono HA2.out.size))
        have hsb := HSB.out.keep hb
        obtain ⟨a0, a1, a2, a3, a4⟩ := hsb.get
        have HS1 := Lib.hid hsb
        clear hb hsb
        go_wp2_with fail
        refine (HNP.out _).mono ?_
        rintro e w2 ⟨rfl, hb⟩
        have HB2 := Lib.hid (HB.out.trans (hb.mono HB.out.size))
        have hsb := HS1.out.keep hb
        have HS2 := Lib.hid hsb
        clear a0 a1 a2 a3 a4
        obtain ⟨a0, a1, a2, a3, a4⟩ := hsb.get
        clear hb hsb
        obtain ⟨B, hB⟩ : ∃ B, w2.heap.size = B := ⟨_, rfl⟩
        have HBq := Lib.hid hB
        have hSB : w.heap.size < B := by rw [← hB]; exact HS2.out.lt
        have hb0 : Below B w2 (w2.alloc (.cells #[.pointer none, .slice none 0 0] 90)) := by rw [← hB]; exact (Below.refl _ _).alloc (Nat.le_refl _) _
        have hi0 : BIs B B (Lib.byteCells []) (w2.alloc (.cells #[.pointer none, .slice none 0 0] 90)) := by rw [← hB]; exact Lib.IsBuilderF.of (Lib.fresh_isBuilder 90 5 w2)
        have HI0 := Lib.hid hi0
        have HBb0 := Lib.hid hb0
        have HBs := Lib.hid (show B ≤ w2.heap.size by omega)
        have HTk := Lib.hid (HT.out.at HB2.out)
        clear hB hi0 hb0 a0 a1 a2 a3 a4
        obtain ⟨a0, a1, a2, a3, a4⟩ := (HS2.out.under HBb0.out hSB).get
        go_wp2_with fail
        rw [HBq.out]
        refine (add_pro B B ([]) (nm) w2 _ HI0.out (by have := HLN.out; (try simp only [List.length_append]); (try simp only [List.length_cons]); (try simp only [List.length_nil]); omega) HBs.out HBb0.out).mono ?_
        rintro e W1 ⟨⟨v1, rfl⟩, hi, hb⟩
        have HI1 := Lib.hid hi
        have HBb1 := Lib.hid hb
        clear hi hb a0 a1 a2 a3 a4
        obtain ⟨a0, a1, a2, a3, a4⟩ := (HS2.out.under HBb1.out hSB).get
        go_wp2_with fail
        refine (add_pro B B ([] ++ nm) (58 :: pr) w2 _ HI1.out (by have := HLN.out; (try simp only [List.length_append]); (try simp only [List.length_cons]); (try simp only [List.length_nil]); omega) HBs.out HBb1.out).mono ?_
        rintro e W2 ⟨⟨v2, rfl⟩, hi, hb⟩
        have HI2 := Lib.hid hi
        have HBb2 := Lib.hid hb
        clear hi hb a0 a1 a2 a3 a4
        obtain ⟨a0, a1, a2, a3, a4⟩ := (HS2.out.under HBb2.out hSB).get
        go_wp2_with fail
        refine (writeBits_pro B B ([] ++ nm ++ 58 :: pr) 43 m w2 _ HI2.out HMm.out (by have := HLN.out; (try simp only [List.length_append]); (try simp only [List.length_cons]); (try simp only [List.length_nil]); have := bits_len7 43 m; omega) (by have := HBs.out; have := HBb2.out.size; omega) HTk.out (by have := HBq.out; omega) HBb2.out).mono ?_
        rintro e W3 ⟨rfl, hi, hb⟩
        have HI3 := Lib.hid hi
        have HBb3 := Lib.hid (HBb2.out.trans hb)
        clear hi hb a0 a1 a2 a3 a4
        obtain ⟨a0, a1, a2, a3, a4⟩ := (HS2.out.under HBb3.out hSB).get
        go_wp2_with fail
        refine (writeBits_pro B B (([] ++ nm ++ 58 :: pr) ++ bitsT 43 m 7) 45 o w2 _ HI3.out HMo.out (by have := HLN.out; (try simp only [List.length_append]); (try simp only [List.length_cons]); (try simp only [List.length_nil]); have := bits_len7 43 m; omega) (by have := HBs.out; have := HBb3.out.size; omega) HTk.out (by have := HBq.out; omega) HBb3.out).mono ?_
        rintro e W4 ⟨rfl, hi, hb⟩
        have HI4 := Lib.hid hi
        have HBb4 := Lib.hid (HBb3.out.trans hb)
        clear hi hb a0 a1 a2 a3 a4
        obtain ⟨a0, a1, a2, a3, a4⟩ := (HS2.out.under HBb4.out hSB).get
        go_wp2_with fail
        refine (Tryz.Builder_String_any_f B B ((([] ++ nm ++ 58 :: pr) ++ bitsT 43 m 7) ++ bitsT 45 o 7) _ HI4.out (by have := HBs.out; have := HBb4.out.size; omega)).mono ?_
        rintro e W10 ⟨rfl, _, hb⟩
        have HBz := Lib.hid (HB2.out.trans ((HBb4.out.trans hb).mono (by have := hSB; omega)))
        clear hb
        go_wp2_with fail
        go_ret2
        rw [HV.out]
        refine ⟨?_, HBz.out⟩
        rw [show textS ⟨nm, pr, ⟨(m : Int), (o : Int), col⟩⟩ = (([] ++ nm ++ 58 :: pr) ++ bitsT 43 m 7) ++ bitsT 45 o 7 from HTX.out]
        simp [wrV, bs]
      · have tc := bne_t hc
        have HCR := Lib.hid (show 0 ≤ col ∧ col ≤ 15 by omega)
        have HCI := Lib.hid (show Lib.itoa col = itoaL col.toNat by
          have h := itoa_is col.toNat (by omega)
          rw [show ((col.toNat : Nat) : Int) = col by omega] at h
          exact h)
        have HTX := Lib.hid (show textS ⟨nm, pr, ⟨(m : Int), (o : Int), col⟩⟩ = (([] ++ nm ++ 58 :: pr) ++ bitsT 43 m 7 ++ bitsT 45 o 7) ++ 32 :: (colorW ++ 32 :: itoaL col.toNat) by unfold textS colT; rw [if_neg hc, hpt]; simp)
        have e1 : (⟨#[32, 99, 111, 108, 111, 114, 32]⟩ : ByteArray) ++ bs (itoaL col.toNat) = bs (32 :: (colorW ++ 32 :: itoaL col.toNat)) := bs_app [32, 99, 111, 108, 111, 114, 32] (itoaL col.toNat)
        have hcl : (itoaL col.toNat).length ≤ 2 := by unfold itoaL; split <;> simp
        have HCL := Lib.hid hcl
        have hz1 := bs_len (itoaL col.toNat)
        clear hc hpt h6 h7
        unfold styVal
        go_enter Tryz.func26, Tryz.ntmps26
        go_wp2_with fail
        refine HCK.out.mono ?_
        rintro e w1 ⟨rfl, hb⟩
        have HB := Lib.hid (HA2.out.trans (hb.mono HA2.out.size))
        have hsb := HSB.out.keep hb
        obtain ⟨a0, a1, a2, a3, a4⟩ := hsb.get
        have HS1 := Lib.hid hsb
        clear hb hsb
        go_wp2_with fail
        refine (HNP.out _).mono ?_
        rintro e w2 ⟨rfl, hb⟩
        have HB2 := Lib.hid (HB.out.trans (hb.mono HB.out.size))
        have hsb := HS1.out.keep hb
        have HS2 := Lib.hid hsb
        clear a0 a1 a2 a3 a4
        obtain ⟨a0, a1, a2, a3, a4⟩ := hsb.get
        clear hb hsb
        obtain ⟨B, hB⟩ : ∃ B, w2.heap.size = B := ⟨_, rfl⟩
        have HBq := Lib.hid hB
        have hSB : w.heap.size < B := by rw [← hB]; exact HS2.out.lt
        have hb0 : Below B w2 (w2.alloc (.cells #[.pointer none, .slice none 0 0] 90)) := by rw [← hB]; exact (Below.refl _ _).alloc (Nat.le_refl _) _
        have hi0 : BIs B B (Lib.byteCells []) (w2.alloc (.cells #[.pointer none, .slice none 0 0] 90)) := by rw [← hB]; exact Lib.IsBuilderF.of (Lib.fresh_isBuilder 90 5 w2)
        have HI0 := Lib.hid hi0
        have HBb0 := Lib.hid hb0
        have HBs := Lib.hid (show B ≤ w2.heap.size by omega)
        have HTk := Lib.hid (HT.out.at HB2.out)
        clear hB hi0 hb0 a0 a1 a2 a3 a4
        obtain ⟨a0, a1, a2, a3, a4⟩ := (HS2.out.under HBb0.out hSB).get
        go_wp2_with fail
        rw [HBq.out]
        refine (add_pro B B ([]) (nm) w2 _ HI0.out (by have := HLN.out; (try simp only [List.length_append]); (try simp only [List.length_cons]); (try simp only [List.length_nil]); omega) HBs.out HBb0.out).mono ?_
        rintro e W1 ⟨⟨v1, rfl⟩, hi, hb⟩
        have HI1 := Lib.hid hi
        have HBb1 := Lib.hid hb
        clear hi hb a0 a1 a2 a3 a4
        obtain ⟨a0, a1, a2, a3, a4⟩ := (HS2.out.under HBb1.out hSB).get
        go_wp2_with fail
        refine (add_pro B B ([] ++ nm) (58 :: pr) w2 _ HI1.out (by have := HLN.out; (try simp only [List.length_append]); (try simp only [List.length_cons]); (try simp only [List.length_nil]); omega) HBs.out HBb1.out).mono ?_
        rintro e W2 ⟨⟨v2, rfl⟩, hi, hb⟩
        have HI2 := Lib.hid hi
        have HBb2 := Lib.hid hb
        clear hi hb a0 a1 a2 a3 a4
        obtain ⟨a0, a1, a2, a3, a4⟩ := (HS2.out.under HBb2.out hSB).get
        go_wp2_with fail
        refine (writeBits_pro B B ([] ++ nm ++ 58 :: pr) 43 m w2 _ HI2.out HMm.out (by have := HLN.out; (try simp only [List.length_append]); (try simp only [List.length_cons]); (try simp only [List.length_nil]); have := bits_len7 43 m; omega) (by have := HBs.out; have := HBb2.out.size; omega) HTk.out (by have := HBq.out; omega) HBb2.out).mono ?_
        rintro e W3 ⟨rfl, hi, hb⟩
        have HI3 := Lib.hid hi
        have HBb3 := Lib.hid (HBb2.out.trans hb)
        clear hi hb a0 a1 a2 a3 a4
        obtain ⟨a0, a1, a2, a3, a4⟩ := (HS2.out.under HBb3.out hSB).get
        go_wp2_with fail
        refine (writeBits_pro B B (([] ++ nm ++ 58 :: pr) ++ bitsT 43 m 7) 45 o w2 _ HI3.out HMo.out (by have := HLN.out; (try simp only [List.length_append]); (try simp only [List.length_cons]); (try simp only [List.length_nil]); have := bits_len7 43 m; omega) (by have := HBs.out; have := HBb3.out.size; omega) HTk.out (by have := HBq.out; omega) HBb3.out).mono ?_
        rintro e W4 ⟨rfl, hi, hb⟩
        have HI4 := Lib.hid hi
        have HBb4 := Lib.hid (HBb3.out.trans hb)
        clear hi hb a0 a1 a2 a3 a4
        obtain ⟨a0, a1, a2, a3, a4⟩ := (HS2.out.under HBb4.out hSB).get
        go_wp2_with fail
        refine (itoa_pro col _ (by have := HCR.out; omega) (by have := HCR.out; omega) (HTk.out.below HBb4.out (by have := HBq.out; omega))).mono ?_
        rw [HCI.out]
        rintro e W9 ⟨rfl, hb⟩
        have hi := HI4.out
        have HIi := Lib.hid (bis_keep hi hb)
        have HBi := Lib.hid (HBb4.out.trans (hb.mono (by have := HBb4.out.size; have := HBs.out; omega)))
        clear hi hb a0 a1 a2 a3 a4
        obtain ⟨a0, a1, a2, a3, a4⟩ := (HS2.out.under HBi.out hSB).get
        go_wp2_with fail
        refine (add_pro B B ((([] ++ nm ++ 58 :: pr) ++ bitsT 43 m 7) ++ bitsT 45 o 7) (32 :: (colorW ++ 32 :: itoaL col.toNat)) w2 _ HIi.out (by have := HLN.out; have := HCL.out; simp only [List.length_append, List.length_cons, List.length_nil, colorW]; have := bits_len7 43 m; have := bits_len7 45 o; omega) HBs.out HBi.out).mono ?_
        rintro e W5 ⟨⟨v5, rfl⟩, hi, hb⟩
        have HI5 := Lib.hid hi
        have HBb5 := Lib.hid hb
        clear hi hb a0 a1 a2 a3 a4
        go_wp2_with fail
        refine (Tryz.Builder_String_any_f B B (((([] ++ nm ++ 58 :: pr) ++ bitsT 43 m 7) ++ bitsT 45 o 7) ++ 32 :: (colorW ++ 32 :: itoaL col.toNat)) _ HI5.out (by have := HBs.out; have := HBb5.out.size; omega)).mono ?_
        rintro e W10 ⟨rfl, _, hb⟩
        have HBz := Lib.hid (HB2.out.trans ((HBb5.out.trans hb).mono (by have := hSB; omega)))
        clear hb
        go_wp2_with fail
        go_ret2
        rw [HV.out]
        refine ⟨?_, HBz.out⟩
        rw [show textS ⟨nm, pr, ⟨(m : Int), (o : Int), col⟩⟩ = ((([] ++ nm ++ 58 :: pr) ++ bitsT 43 m 7) ++ bitsT 45 o 7) ++ 32 :: (colorW ++ 32 :: itoaL col.toNat) from HTX.out]
        simp [wrV, bs]
  · have HV := Lib.hid (write_bad (hw1 he) he)
    have t := natne he
    clear hw1 hw2 he
    unfold styVal
    go_enter Tryz.func26, Tryz.ntmps26
    go_wp2_with fail
    refine HCK.out.mono ?_
    rintro e w1 ⟨rfl, hb⟩
    have HB := Lib.hid (HA2.out.trans (hb.mono HA2.out.size))
    clear hb
    go_wp2_with fail
    go_ret2
    rw [HV.out]
    exact ⟨rfl, HB.out⟩
end Go.Proofs.YtceanagnkcejgaaGreatDoor
