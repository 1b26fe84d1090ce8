/- What is proved: TextFolds holds of every text and every list of picks: folded once is folded; large and small letters, and more blanks, make no other. Its condition: what comes in is of bulk at most 1048576 (the statement's second form). -/
import Derived.Test.YthojhjimgfbcbaaDoorAwake
import Derived.Test.YthojhjimgfbcbaaDoorPost
import Derived.Test.YthojhjimgfbcbaaDoorTkp
import Derived.Test.YthojhjimgfbcbaaDoorLft
import Derived.Test.YthojhjimgfbcbaaDoorCards
import Derived.Test.YthojhjimgfbcbaaDoorTie
import Derived.ProofKit
import Derived.OpenShut
import Derived.Deep.DeepHandedRow
import Derived.Deep.CutRange
import Derived.WideKeyArgs
namespace Go.Proofs.YthojhjimgfbcbaaDoor.textFolds
open Go.ChangeShapes Go.WideShapes Go.ChangeAt Go.RowKit
open Go.ChangeMaps (open_string shut_string)
set_option linter.unusedVariables false

theorem ints_read {H : Type} {enc : TypeId × Value → H} {W : World} {pa : Option Addr} {len cap : Nat} {d : DataW H} {p : List MemPlace} (h : DataW.Trod enc Tryd.prog W 0 (fun _ => true) true 65 (.slice pa len cap) d p) :
    ∀ i, i < len → ∃ (b off : Nat) (z : Int), pa = some ⟨b, off, none⟩ ∧ W.cell? ⟨b, off + i, none⟩ = some (.int .i64 z) ∧ b < W.heap.size := by
  obtain ⟨n, hn⟩ := h
  rcases open_ints Tryd.underlying65 Tryd.underlying3 (by kernel_rfl) hn with ⟨h3, _⟩ | ⟨a, l, c, zs, h3, _, hlc, _, hz, _, hcell, _⟩
  · simp [Value.cells] at h3
    intro i hi
    omega
  · simp [Value.cells] at h3
    obtain ⟨rfl, rfl, rfl⟩ := h3
    intro i hi
    have hzl : zs.length = cap := by simpa using hz
    obtain ⟨b, off, rfl, hc⟩ := ints_at hcell (by omega)
    exact ⟨b, off, _, rfl, hc i (by omega), World.block_lt_of_cell? W _ (hc i (by omega))⟩

theorem ret_b {a b : Bool} (h : a = b) : Ending.returned (.bool a) = Ending.returned (.bool b) := by rw [h]
/-- What the loop holds between two rounds. -/
def FoldsI (L : List Tk) (B k : Nat) (vc : Value) (n : Nat) (xs : List Value) (W wr : World) (base : Nat) : Prop :=
  ∃ M : List Tk, Rep (L.take k) M ∧ (joinT M).length ≤ 4 * k ∧ BIs B B (Lib.byteCells (joinT M)) wr ∧ wr.ownsRow base 64 4 vc n xs ∧ Below W.heap.size W wr ∧ B ≤ wr.heap.size
theorem folds_step {L : List Tk} {B k : Nat} {vc : Value} {n : Nat} {xs : List Value} {W wr w' : World} {base : Nat} {M : List Tk} {t : Tk} {p : List Tk} {piece : ByteArray}
    (hM : Rep (L.take k) M) (hl : (joinT M).length ≤ 4 * k) (ht : L[k]? = some t) (hp : Rep [t] p) (hpl : (joinT p).length ≤ 4) (hd : piece.data.toList = joinT p)
    (hb : Built B B (Lib.byteCells (joinT M) ++ Lib.strCells piece) wr w') (ho : wr.ownsRow base 64 4 vc n xs) (hB : B < base) (hW : Below W.heap.size W wr) (hWB : W.heap.size ≤ B) (hs : B ≤ wr.heap.size) : FoldsI L B (k + 1) vc n xs W w' base := by
  obtain ⟨b1, b2, b3⟩ := hb
  obtain ⟨hk, e⟩ := List.getElem?_eq_some_iff.1 ht
  refine ⟨M ++ p, ?_, ?_, ?_, own_others ho hB (by decide) b3, hW.trans (b2.mono hWB), Nat.le_trans hs b2.size⟩
  · rw [List.take_succ_eq_append_getElem hk, e]
    exact hM.app hp
  · rw [joinT_app, List.length_append]; omega
  · rw [joinT_app, Lib.byteCells_append, ← hd]
    exact .inr b1
theorem rep_one (t : Tk) : Rep [t] [t] := .same t .nil
theorem good_blank {t : Tk} (h : t.rn = 32) : t = .good 32 := by
  cases t with
  | good r => simp only [Tk.rn] at h; rw [h]
  | bad b => simp [Tk.rn] at h
theorem one_join (t : Tk) : joinT [t] = t.bytes := by show t.bytes ++ [] = _; rw [List.append_nil]

theorem drewN_b (w : World) (n : Nat) : Below w.heap.size w (w.drewN n) := ⟨rfl, rfl, rfl, Nat.le_refl _, fun _ _ => rfl⟩
theorem sz_ok {n k p : Nat} (h1 : n ≤ 4 * k) (h2 : k ≤ 1048576) (h3 : p ≤ 4) : n + p ≤ 140737488355328 := by omega
/-- The small letter in a character's place. -/
theorem small_piece (t : Tk) (h : t.isBad = false) : Rep [t] [smT t] ∧ (Utf8.encode (sml t.rn)).data.toList = joinT [smT t] ∧ (joinT [smT t]).length ≤ 4 := by
  cases t with
  | bad b => simp [Tk.isBad] at h
  | good r =>
    refine ⟨.small r .nil, ?_, by rw [one_join]; exact tk_le _⟩
    rw [one_join, ← enc_rune]
    show Lib.encodeRune (sml r) = Lib.encodeRune ((sml r).toNat : Int)
    rw [sml_nat]

set_option maxRecDepth 100000 in
set_option maxHeartbeats 4000000 in
theorem walk (s : ByteArray) (pa : Option Addr) (len cap : Nat) (hs : s.size ≤ 1048576) (W : World)
    (hP : ∀ i, i < len → ∃ (b off : Nat) (z : Int), pa = some ⟨b, off, none⟩ ∧ W.cell? ⟨b, off + i, none⟩ = some (.int .i64 z) ∧ b < W.heap.size) (hT : Tabs W) :
    Calls Tryd.prog 10 #[.string s, .slice pa len cap] W fun e W' => e = .returned (.bool true) ∧ Below W.heap.size W W' := by
  have hf := fold_size s
  have HS := Lib.hid (show s.size ≤ 16777216 by omega)
  have HFS := Lib.hid (show (fold s).size ≤ 16777216 by omega)
  have hl : (chars s).length ≤ 1048576 := Nat.le_trans (chars_len s) hs
  have HTW := Lib.hid hT
  have HP := Lib.hid hP
  obtain ⟨L, snd, hL⟩ := text_pieces s
  have HC := Lib.hid (chars_pieces s L snd hL)
  have hLl : L.length = (chars s).length := by rw [HC.out, chOf_len]
  have HLL := Lib.hid hLl
  have HSN := Lib.hid snd
  have HJ := Lib.hid hL
  clear hf hs hP hT snd hL hLl
  go_enter Tryd.func10, Tryd.ntmps10
  go_wp2_with fail
  refine (fold_pro s _ HS.out HTW.out).mono ?_
  rintro e w1 ⟨rfl, h1⟩
  have Z1 := Lib.hid h1
  clear h1
  go_wp2_with fail
  refine (fold_pro (fold s) _ HFS.out (HTW.out.at Z1.out)).mono ?_
  rintro e w2 ⟨rfl, h2⟩
  rw [fold_fold]
  have Z2 := Lib.hid (Z1.out.trans (h2.mono Z1.out.size))
  clear h2
  go_wp2_with fail
  refine (awake_law _ (HTW.out.at Z2.out)).mono ?_
  rintro e w3 ⟨rfl, h3⟩
  have Z3 := Lib.hid (Z2.out.trans (h3.mono Z2.out.size))
  clear h3
  go_wp2_with fail
  refine (chars_ref s _ HS.out).mono ?_
  rintro e w4 ⟨v, xs, rfl, how, hx, hb⟩
  have BB := Lib.hid (bis_below (Lib.IsBuilderF.of (Lib.fresh_isBuilder 53 5 w3)) hb)
  have hsz := hb.size
  have Z4 := Lib.hid ((Z3.out.alloc Z3.out.size _).trans (hb.mono (by have := Z3.out.size; simp; omega)))
  have OW := Lib.hid how
  have HX := Lib.hid hx
  have SB := Lib.hid (show w3.heap.size < (w3.alloc (.cells #[.pointer none, .slice none 0 0] 53)).heap.size by simp)
  have SW := Lib.hid Z3.out.size
  have SZ := Lib.hid (show w3.heap.size ≤ w4.heap.size by simp at hsz; omega)
  obtain ⟨B, hB⟩ : ∃ B, w3.heap.size = B := ⟨_, rfl⟩
  obtain ⟨base, hbase⟩ : ∃ base, (w3.alloc (.cells #[.pointer none, .slice none 0 0] 53)).heap.size = base := ⟨_, rfl⟩
  rw [hbase] at OW SB
  rw [hB] at BB SB SW SZ ⊢
  clear how hx hb hsz hbase hB
  obtain ⟨pv, cv, rfl⟩ := lenOf OW.out
  go_wp2_with fail
  go_loopw [8, 9, 10, 55, 67] (fun i _ _ _ _ wr => ∃ k : Nat, i = .int .i64 k ∧ k ≤ (chars s).length ∧ FoldsI L B k (.slice pv (chars s).length cv) (chars s).length xs W wr base) (fun i _ _ _ _ _ => (chars s).length - (intOf i).toNat)
  case atStart => exact ⟨0, rfl, Nat.zero_le _, [], .nil, Nat.zero_le _, BB.out, OW.out, Z4.out, SZ.out⟩
  case round =>
    obtain ⟨k, rfl, hk, M, hM, hml, hbi, how, hbw, hsz⟩ := hrel
    have HM := Lib.hid hM
    have ML := Lib.hid hml
    have BI := Lib.hid hbi
    have HO := Lib.hid how
    have HBW := Lib.hid hbw
    have HZ := Lib.hid hsz
    have KB := Lib.hid (show k ≤ 1048576 by omega)
    clear hM hml hbi how hbw hsz
    by_cases hlt : k < (chars s).length
    · obtain ⟨g, cap', e0, hg, hgl⟩ := World.ownsRow.form HO.out (by omega)
      cases e0
      obtain ⟨c, hc⟩ : ∃ c, (chars s)[k]? = some c := ⟨_, List.getElem?_eq_getElem hlt⟩
      obtain ⟨x0, x1, x2⟩ := HX.out.2 k c hc
      have hxl := HX.out.1
      have g0 := (World.ownsRow.cellAt HO.out (k * 4) (by omega)).trans x0
      have g1 := (World.ownsRow.cellAt HO.out (k * 4 + 1) (by omega)).trans x1
      have g2 := (World.ownsRow.cellAt HO.out (k * 4 + 2) (by omega)).trans (x2 hlt).1
      have g3 := (World.ownsRow.cellAt HO.out (k * 4 + 3) (by omega)).trans (x2 hlt).2
      have hmem : c ∈ chars s := List.mem_of_getElem? hc
      have hw := chars_width s c hmem
      have hr := chars_rune s c hmem
      obtain ⟨t, ht, hct, hdt⟩ := piece_at s L 0 k c (by rw [List.drop_zero]; exact HJ.out) (by rw [← HC.out]; exact hc)
      have HTK := Lib.hid ht
      have HD := Lib.hid hdt
      have hbt : badB c = t.isBad := by
        have e9 : c = (c.1, t.rn, t.n) := by rw [← hct]
        rw [e9]
        exact badB_tk _ _
      have hrn : c.2.1 = t.rn := by rw [hct]
      have HSM := Lib.hid (show badB c = false → Rep [t] [smT t] ∧ (Utf8.encode (sml c.2.1)).data.toList = joinT [smT t] ∧ (joinT [smT t]).length ≤ 4 by
        intro h9
        rw [hrn]
        exact small_piece t (by rw [← hbt]; exact h9))
      have HBL := Lib.hid (show c.2.1 = 32 → Rep [t] [.good 32, .good 32, .good 32] by
        intro h9
        rw [good_blank (hrn.symm.trans h9)]
        exact .blank .nil)
      have PL1 := Lib.hid (show (joinT [t]).length ≤ 4 by rw [one_join]; exact tk_le t)
      have PS := Lib.hid (show (s.extract c.1 (c.1 + c.2.2)).size ≤ 4 by rw [Lib.size_eq, hdt]; exact tk_le t)
      have PSS := Lib.hid (encode_size_le (sml c.2.1))
      have hS := HS.out
      have b1 : (0 : Int) ≤ c.1 := by omega
      have b2 : (c.1 : Int) ≤ 16777216 := by omega
      have b6 : (c.1 : Int) + c.2.2 ≤ s.size := by omega
      have HRR := Lib.hid (show -2147483648 ≤ (c.2.1 : Int) ∧ (c.2.1 : Int) ≤ 2147483647 by omega)
      have v1 := Lib.hid (show IntKind.i64.wrap ((c.1 : Int) + c.2.2) = c.1 + c.2.2 from IntWalk.i64_in _ (by omega))
      have v2 := Lib.hid (show ((c.1 : Int) + c.2.2).toNat = c.1 + c.2.2 by omega)
      have v3 : (0 : Int) ≤ c.1 + c.2.2 := by omega
      have v4 : (c.1 : Int) ≤ c.1 + c.2.2 := by omega
      clear hc x0 x1 x2 hxl hmem hw hr ht hct hdt hbt hrn hS
      by_cases hkl : k < len
      · obtain ⟨b, off, z, rfl, hcz, hbz⟩ := HP.out k hkl
        have gz := (HBW.out.cell (p := ⟨b, off + k, none⟩) hbz).trans hcz
        clear hcz
        cases hbad : badB c
        · rw [hbad] at g3
          have HRS := Lib.hid (HSM.out hbad)
          clear hbad
          by_cases hb : c.2.1 = 32
          · have hb1 : ((c.2.1 : Int) == 32) = true := by simp; omega
            have HRB := Lib.hid (HBL.out hb)
            clear hb
            by_cases z2 : z.tmod 2 = 0
            · have z2b : (z.tmod 2 != 0) = false := by simp [z2]
              by_cases z3 : z.tmod 3 = 1
              · have z3b : (z.tmod 3 == 1) = true := by simp [z3]
                go_wp2_with fail
                have E1 := v1.out
                have E2 := v2.out
                go_quiet (fail)
                clear E1 E2
                go_wp2_with fail
                refine (small_ref _ _ HRR.out).mono ?_
                rintro e w4' ⟨rfl, rfl⟩
                go_wp2_with fail
                refine (str_pro B B _ _ _ (bis_below BI.out (drewN_b _ _)) (by rw [Lib.byteCells_length]; exact sz_ok ML.out KB.out PSS.out) HZ.out).mono ?_
                rintro e w5 ⟨rfl, hb5⟩
                have HN := Lib.hid (folds_step HM.out ML.out HTK.out (HRS.out.1) (HRS.out.2.2) (HRS.out.2.1) hb5 (own_below HO.out (drewN_b _ _)) SB.out (HBW.out.trans ((drewN_b _ _).mono HBW.out.size)) SW.out HZ.out)
                clear hb5
                go_wp2_with fail
                go_roundw
                all_goals first | exact ⟨k + 1, by go_num, by omega, HN.out⟩ | (simp [intOf]; done) | (simp [intOf]; omega)
              · have z3b : (z.tmod 3 == 1) = false := by simp [z3]
                go_wp2_with fail
                have E1 := v1.out
                have E2 := v2.out
                go_quiet (fail)
                clear E1 E2
                go_wp2_with fail
                refine (str_pro B B _ _ _ (bis_below BI.out (drewN_b _ _)) (by rw [Lib.byteCells_length]; exact sz_ok ML.out KB.out PS.out) HZ.out).mono ?_
                rintro e w5 ⟨rfl, hb5⟩
                have HN := Lib.hid (folds_step HM.out ML.out HTK.out (rep_one t) (PL1.out) (HD.out.trans (one_join t).symm) hb5 (own_below HO.out (drewN_b _ _)) SB.out (HBW.out.trans ((drewN_b _ _).mono HBW.out.size)) SW.out HZ.out)
                clear hb5
                go_wp2_with fail
                go_roundw
                all_goals first | exact ⟨k + 1, by go_num, by omega, HN.out⟩ | (simp [intOf]; done) | (simp [intOf]; omega)
            · have z2b : (z.tmod 2 != 0) = true := by simp [z2]
              go_wp2_with fail
              have E1 := v1.out
              have E2 := v2.out
              go_quiet (fail)
              clear E1 E2
              go_wp2_with fail
              refine (str_pro B B _ _ _ (bis_below BI.out (drewN_b _ _)) (by rw [Lib.byteCells_length]; exact sz_ok ML.out KB.out (show ByteArray.size ⟨#[32, 32, 32]⟩ ≤ 4 by decide)) HZ.out).mono ?_
              rintro e w5 ⟨rfl, hb5⟩
              have HN := Lib.hid (folds_step HM.out ML.out HTK.out (HRB.out) (Nat.le_of_ble_eq_true rfl) (rfl) hb5 (own_below HO.out (drewN_b _ _)) SB.out (HBW.out.trans ((drewN_b _ _).mono HBW.out.size)) SW.out HZ.out)
              clear hb5
              go_wp2_with fail
              go_roundw
              all_goals first | exact ⟨k + 1, by go_num, by omega, HN.out⟩ | (simp [intOf]; done) | (simp [intOf]; omega)
          · have hb1 : ((c.2.1 : Int) == 32) = false := by simp; omega
            clear hb
            by_cases z3 : z.tmod 3 = 1
            · have z3b : (z.tmod 3 == 1) = true := by simp [z3]
              go_wp2_with fail
              have E1 := v1.out
              have E2 := v2.out
              go_quiet (fail)
              clear E1 E2
              go_wp2_with fail
              refine (small_ref _ _ HRR.out).mono ?_
              rintro e w4' ⟨rfl, rfl⟩
              go_wp2_with fail
              refine (str_pro B B _ _ _ (bis_below BI.out (drewN_b _ _)) (by rw [Lib.byteCells_length]; exact sz_ok ML.out KB.out PSS.out) HZ.out).mono ?_
              rintro e w5 ⟨rfl, hb5⟩
              have HN := Lib.hid (folds_step HM.out ML.out HTK.out (HRS.out.1) (HRS.out.2.2) (HRS.out.2.1) hb5 (own_below HO.out (drewN_b _ _)) SB.out (HBW.out.trans ((drewN_b _ _).mono HBW.out.size)) SW.out HZ.out)
              clear hb5
              go_wp2_with fail
              go_roundw
              all_goals first | exact ⟨k + 1, by go_num, by omega, HN.out⟩ | (simp [intOf]; done) | (simp [intOf]; omega)
            · have z3b : (z.tmod 3 == 1) = false := by simp [z3]
              go_wp2_with fail
              have E1 := v1.out
              have E2 := v2.out
              go_quiet (fail)
              clear E1 E2
              go_wp2_with fail
              refine (str_pro B B _ _ _ (bis_below BI.out (drewN_b _ _)) (by rw [Lib.byteCells_length]; exact sz_ok ML.out KB.out PS.out) HZ.out).mono ?_
              rintro e w5 ⟨rfl, hb5⟩
              have HN := Lib.hid (folds_step HM.out ML.out HTK.out (rep_one t) (PL1.out) (HD.out.trans (one_join t).symm) hb5 (own_below HO.out (drewN_b _ _)) SB.out (HBW.out.trans ((drewN_b _ _).mono HBW.out.size)) SW.out HZ.out)
              clear hb5
              go_wp2_with fail
              go_roundw
              all_goals first | exact ⟨k + 1, by go_num, by omega, HN.out⟩ | (simp [intOf]; done) | (simp [intOf]; omega)
        · rw [hbad] at g3
          have hb1 : ((c.2.1 : Int) == 32) = false := by
            have h9 : c.2.1 = 65533 := by have h8 := hbad; unfold badB at h8; simp at h8; exact h8.1
            simp; omega
          clear hbad
          go_wp2_with fail
          have E1 := v1.out
          have E2 := v2.out
          go_quiet (fail)
          clear E1 E2
          go_wp2_with fail
          refine (str_pro B B _ _ _ (bis_below BI.out (drewN_b _ _)) (by rw [Lib.byteCells_length]; exact sz_ok ML.out KB.out PS.out) HZ.out).mono ?_
          rintro e w5 ⟨rfl, hb5⟩
          have HN := Lib.hid (folds_step HM.out ML.out HTK.out (rep_one t) (PL1.out) (HD.out.trans (one_join t).symm) hb5 (own_below HO.out (drewN_b _ _)) SB.out (HBW.out.trans ((drewN_b _ _).mono HBW.out.size)) SW.out HZ.out)
          clear hb5
          go_wp2_with fail
          go_roundw
          all_goals first | exact ⟨k + 1, by go_num, by omega, HN.out⟩ | (simp [intOf]; done) | (simp [intOf]; omega)
      · have hkl' : ¬ (k : Int) < (len : Int) := by omega
        cases hbad : badB c
        · rw [hbad] at g3
          have HRS := Lib.hid (HSM.out hbad)
          clear hbad
          by_cases hb : c.2.1 = 32
          · have hb1 : ((c.2.1 : Int) == 32) = true := by simp; omega
            clear hb
            go_wp2_with fail
            have E1 := v1.out
            have E2 := v2.out
            go_quiet (fail)
            clear E1 E2
            go_wp2_with fail
            refine (str_pro B B _ _ _ (bis_below BI.out (drewN_b _ _)) (by rw [Lib.byteCells_length]; exact sz_ok ML.out KB.out PS.out) HZ.out).mono ?_
            rintro e w5 ⟨rfl, hb5⟩
            have HN := Lib.hid (folds_step HM.out ML.out HTK.out (rep_one t) (PL1.out) (HD.out.trans (one_join t).symm) hb5 (own_below HO.out (drewN_b _ _)) SB.out (HBW.out.trans ((drewN_b _ _).mono HBW.out.size)) SW.out HZ.out)
            clear hb5
            go_wp2_with fail
            go_roundw
            all_goals first | exact ⟨k + 1, by go_num, by omega, HN.out⟩ | (simp [intOf]; done) | (simp [intOf]; omega)
          · have hb1 : ((c.2.1 : Int) == 32) = false := by simp; omega
            clear hb
            go_wp2_with fail
            have E1 := v1.out
            have E2 := v2.out
            go_quiet (fail)
            clear E1 E2
            go_wp2_with fail
            refine (str_pro B B _ _ _ (bis_below BI.out (drewN_b _ _)) (by rw [Lib.byteCells_length]; exact sz_ok ML.out KB.out PS.out) HZ.out).mono ?_
            rintro e w5 ⟨rfl, hb5⟩
            have HN := Lib.hid (folds_step HM.out ML.out HTK.out (rep_one t) (PL1.out) (HD.out.trans (one_join t).symm) hb5 (own_below HO.out (drewN_b _ _)) SB.out (HBW.out.trans ((drewN_b _ _).mono HBW.out.size)) SW.out HZ.out)
            clear hb5
            go_wp2_with fail
            go_roundw
            all_goals first | exact ⟨k + 1, by go_num, by omega, HN.out⟩ | (simp [intOf]; done) | (simp [intOf]; omega)
        · rw [hbad] at g3
          have hb1 : ((c.2.1 : Int) == 32) = false := by
            have h9 : c.2.1 = 65533 := by have h8 := hbad; unfold badB at h8; simp at h8; exact h8.1
            simp; omega
          clear hbad
          go_wp2_with fail
          have E1 := v1.out
          have E2 := v2.out
          go_quiet (fail)
          clear E1 E2
          go_wp2_with fail
          refine (str_pro B B _ _ _ (bis_below BI.out (drewN_b _ _)) (by rw [Lib.byteCells_length]; exact sz_ok ML.out KB.out PS.out) HZ.out).mono ?_
          rintro e w5 ⟨rfl, hb5⟩
          have HN := Lib.hid (folds_step HM.out ML.out HTK.out (rep_one t) (PL1.out) (HD.out.trans (one_join t).symm) hb5 (own_below HO.out (drewN_b _ _)) SB.out (HBW.out.trans ((drewN_b _ _).mono HBW.out.size)) SW.out HZ.out)
          clear hb5
          go_wp2_with fail
          go_roundw
          all_goals first | exact ⟨k + 1, by go_num, by omega, HN.out⟩ | (simp [intOf]; done) | (simp [intOf]; omega)
    · obtain rfl : k = (chars s).length := by omega
      have HMF := HM.out
      rw [← HLL.out, List.take_length] at HMF
      have HF := Lib.hid (fold_rep s ⟨(joinT M).toArray⟩ L M HMF HSN.out HJ.out (by simp))
      have HFZ := Lib.hid (show (⟨(joinT M).toArray⟩ : ByteArray).size ≤ 16777216 by rw [Lib.size_eq]; have := ML.out; simp; omega)
      clear HMF
      go_wp2_with fail
      refine (Tryd.Builder_String_any_k B B (joinT M) _ BI.out HZ.out).mono ?_
      rintro e w5 ⟨rfl, _, z5, _⟩
      have Z5 := Lib.hid (HBW.out.trans (z5.mono SW.out))
      clear z5
      go_wp2_with fail
      refine (fold_pro _ _ HFZ.out (HTW.out.at Z5.out)).mono ?_
      rintro e w6 ⟨rfl, h6⟩
      have Z6 := Lib.hid (Z5.out.trans (h6.mono Z5.out.size))
      clear h6
      rw [HF.out]
      go_wp2_with fail
      go_ret
      exact ⟨rfl, Z6.out⟩

set_option maxRecDepth 100000 in
theorem contract (H : Type) (enc : TypeId × Value → H) (W : World) (base : Nat) (args : Array Value) (ds gs : List (DataW H)) (before : List MemPlace)
    (hval : ∀ (j : Nat) t v, Tryd.f10.params[j]? = some t → args[j]? = some v → Value.okWide Tryd.prog W .any base t v)
    (hW : DataW.Whole enc Tryd.prog Tryd.f10.params.toList Rows.textFoldsSpec.vars false W args.toList ds gs before) (hk : Rows.uptoSmall H (ds ++ gs) = true) (hT : Tabs W) :
    Calls Tryd.prog 10 args W fun e W' => ∃ v, e = .returned v ∧ Rows.textFoldsSpec.post enc Tryd.prog Tryd.f10 false true false false W args v W' := by
  have hW' := hW
  obtain ⟨p, q, hA0, hV, rfl, hfz, hnd⟩ := hW
  have hA : DataW.TrodAll enc Tryd.prog W 0 (fun _ => true) true Tryd.f10.params.toList args.toList ds p := hA0
  rw [Tryd.params10] at hA hval
  obtain ⟨v0, vs0, d0, ds0, p0, q0, hargs, rfl, rfl, h0, r0⟩ := trodAll_cons hA
  obtain ⟨v1, vs1, d1, ds1, p1, q1, rfl, rfl, rfl, h1, r1⟩ := trodAll_cons r0
  obtain ⟨rfl, rfl, rfl⟩ := trodAll_nil r1
  obtain rfl : args = #[v0, v1] := by cases args; simp_all
  obtain ⟨rfl, rfl⟩ := trodVars_none hV
  obtain ⟨s0, rfl, rfl, rfl, hm0⟩ := open_string Tryd.underlying9 (hval 0 9 v0 rfl rfl) h0
  have hk1 := h1
  obtain ⟨pa1, len1, cap1, rfl⟩ := okWide_slice Tryd.underlying65 (hval 1 65 v1 rfl rfl)
  have hP1 := ints_read h1
  clear hA0
  simp only [List.append_nil, List.nil_append] at hW' hk
  have hb0 := of_decide_eq_true hk
  simp only [Rows.uptoBulkAll, Rows.uptoBulk] at hb0
  have size0 : s0.size ≤ 1048576 := by
    have e : s0.data.toList.length = s0.size := by rw [Array.length_toList]; rfl
    omega
  refine (walk s0 pa1 len1 cap1 size0 W hP1 hT).mono fun e W' ⟨he, hg⟩ => ?_
  subst he
  have hlt := hW'.lt
  exact ⟨_, rfl, post_of_below (pa := p1) (pv := []) hW' (fun _ _ _ => trodAll_cons_mk (shut_bool Tryd.underlying4 _) trodAll_mk0) (fun sp hsp => by have h9 := (trodAll_cons_mk (shut_string Tryd.underlying9 hm0) (trodAll_cons_mk (Go.WideElems.Trod_stays (by kernel_rfl) (by kernel_rfl) (of_decide_eq_true (by kernel_rfl)) hk1 (fun p hp => hg.same (hlt p hp)) hsp) trodAll_mk0)); simp only [List.append_nil, List.nil_append] at h9; exact h9) (fun _ _ => rfl) (List.append_nil _).symm hg (ok_one (by kernel_rfl) rfl (okWide_bool_mk Tryd.underlying4 _))⟩

theorem witness_row (os : Os) {H : Type} (enc : TypeId × Value → H) :
    (Rows.OpenSpec.upto Rows.textFoldsSpec).preRow enc Tryd.prog Tryd.f10 Rows.textFoldsUptoRow.domain false Rows.textFoldsUptoRow.laid ((laidWorld os).forCall (fun _ _ => 0) ⟨#[], #[.string .empty, .slice none 0 0], []⟩).memory #[.string .empty, .slice none 0 0] := by
  have hw : (DataW.whole enc Tryd.prog ((laidWorld os).forCall (fun _ _ => 0) ⟨#[], #[.string .empty, .slice none 0 0], []⟩).memory Tryd.f10.params.toList Rows.textFoldsSpec.vars false (#[.string .empty, .slice none 0 0] : Array Value).toList 8).map (fun x => (x.1, x.2.1)) =
      some ([.lit (.string []), .nil], []) := by kernel_rfl
  obtain ⟨⟨x1, x2, x3⟩, hx, hx1⟩ := Option.map_eq_some_iff.1 hw
  simp only [Prod.mk.injEq] at hx1
  obtain ⟨rfl, rfl⟩ := hx1
  exact OpenSpec.preRow_of_cond 8 hx (by kernel_rfl) (fun k hk => by cases hk; kernel_rfl) (by kernel_rfl) (laid_met os _)

set_option maxRecDepth 100000 in
theorem lifted (os : Os) (started : os.Started) (H : Type) (enc : TypeId × Value → H) (F : Stop.Interp) :
    ReturnsInHanded {} Tryd.checked os 10 .any ((Rows.OpenSpec.upto Rows.textFoldsSpec).preRow enc Tryd.prog Tryd.f10 Rows.textFoldsUptoRow.domain false Rows.textFoldsUptoRow.laid) (((Rows.OpenSpec.upto Rows.textFoldsSpec).at F).post enc Tryd.prog Tryd.f10 false true false false) := by
  refine returnsInHanded_of_row (C := Tryd.checked) (s := (Rows.OpenSpec.upto Rows.textFoldsSpec)) own started (by kernel_rfl) Tryd.func10
    (witness_row_at (enc := enc) (C := Tryd.checked) false (laidWorld os) #[.string .empty, .slice none 0 0] rfl (by kernel_rfl) (by kernel_rfl) (by kernel_rfl) (witness_row os enc)) ?_
  intro W base args ds gs before hval hW _ hcond _ hL hS _
  exact contract H enc W base args ds gs before hval hW (hcond _ rfl) (tabs_of hL hS)

theorem row : Rows.TextFoldsUptoSaid :=
  OpenClaim.holds_of_cond 10 Tryd.f10 rfl rfl rfl rfl rfl rfl rfl ⟨rfl, rfl, rfl, rfl, rfl⟩ rfl rfl rfl rfl rfl (by kernel_rfl) Tryd.func10 (by kernel_rfl)
    (of_decide_eq_true (by kernel_rfl)) (by unfold Func.isWrapper; first | (rw [if_pos (by decide +kernel)]; kernel_rfl) | (rw [if_neg (by decide +kernel)]; exact ⟨rfl, rfl⟩))
    (fun os started H enc _ F => by rw [OpenClaim.pre_eq_preRow]; exact lifted os started H enc F)

theorem plain (f : FuncId) (fn : Func) (hf : Tryd.pinned.checked.prog.funcNamed Rows.textFoldsUptoRow.func = some f) (hfn : Tryd.pinned.checked.prog.funcs[f]? = some fn) :
    false = Tryd.pinned.checked.prog.looks [] ∧ ∀ (j : Nat) t, fn.params[j]? = some t → Tryd.pinned.checked.prog.wantsStandIn t = false := by
  obtain rfl : f = 10 := Option.some.inj ((show Tryd.prog.funcNamed Rows.textFoldsUptoRow.func = some 10 by kernel_rfl).symm.trans hf) |>.symm
  obtain rfl : fn = Tryd.f10 := (Option.some.inj (Tryd.func10.symm.trans hfn)).symm
  refine ⟨by kernel_rfl, fun j t ht => ?_⟩
  rw [Tryd.params10] at ht
  have hm : t ∈ [9, 65] := by simpa using Array.mem_of_getElem? ht
  simp only [List.mem_cons, List.mem_nil_iff, or_false] at hm
  rcases hm with rfl | rfl
  · exact (show Tryd.prog.wantsStandIn 9 = false by kernel_rfl)
  · exact (show Tryd.prog.wantsStandIn 65 = false by kernel_rfl)

theorem proved : Rows.TextFoldsUptoCardSaid :=
  Claim7.holds_tied_plain_at .later [] _ _ _ _ row (fun _ h => by cases h) (by kernel_rfl) (fun _ h => by cases h) textFoldsUpto_row_tie rfl ⟨rfl, rfl⟩ (by kernel_rfl) rfl plain (by kernel_rfl)
end Go.Proofs.YthojhjimgfbcbaaDoor.textFolds
