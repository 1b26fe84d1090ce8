/- The program's cursor of layer 3: Bytes, Text. -/
import Derived.Test.YtcgeldmbndaocaaDoorMore
namespace Go.Proofs.YtcgeldmbndaocaaDoor
open Go.RowKit Go.Maps

set_option maxRecDepth 100000 in
set_option maxHeartbeats 2000000 in
theorem counted_good (g : Nat) (l : List UInt8) (s : Nat × Int) (p N : Nat) (n : Int) (w : World) (h : Cur w g l s.1 s.2) (hn : n ≤ 9223372036854775807) (hs : ust l s = (p, 0)) (hu : uval l s = N) (h1 : (N : Int) ≤ n) (h2 : p + N ≤ l.length) :
    Calls Tryd.prog 57 #[.pointer (some ⟨g, 0, none⟩), .int .i64 n] w (Gives g l (p + N, 0) ((l.drop p).take N) w) := by
  have H := Lib.hid h
  have HU := Lib.hid hu
  have HS := Lib.hid hs
  have P1 := Lib.hid (show pst l (p, 0) N = (p + N, 0) by unfold pst; rw [if_neg (by simp), if_neg (by omega), if_neg (by simp only; omega)]; rfl)
  have P2 := Lib.hid (show pout l (p, 0) N = (l.drop p).take N by unfold pout; rw [if_neg (by simp), if_neg (by omega), if_neg (by simp only; omega)]; rfl)
  have NB := Lib.hid (show -9223372036854775808 ≤ (N : Int) ∧ (N : Int) ≤ 9223372036854775807 by omega)
  have t1 : ¬ n < 0 := by omega
  have t2 : IntKind.u64.wrap n = n := by rw [IntKind.wrap_u64]; omega
  have t3 : ¬ n < (N : Int) := by omega
  clear h hs hu
  go_enter Tryd.func57, Tryd.ntmps57
  go_wp2_with fail
  refine (at_pro g l s.1 s.2 _ H.out).mono ?_
  rintro e w1 ⟨rfl, rfl⟩
  go_wp2_with fail
  refine (uint_pro g l s _ H.out).mono ?_
  rw [HU.out, HS.out]
  rintro e w1 ⟨rfl, hc, hg⟩
  have HC := Lib.hid hc
  have HG := Lib.hid hg
  have LF := Lib.hid (left_pro g l _ _ _ hc)
  have QL := cur_len hc
  clear hc hg
  simp only at LF
  obtain ⟨q, eq⟩ : ∃ q : Nat, l.length - p = q := ⟨_, rfl⟩
  rw [eq] at LF
  have q2 : IntKind.u64.wrap (q : Int) = q := by rw [IntKind.wrap_u64]; omega
  have q3 : ¬ (q : Int) < N := by omega
  have q4 : wrap64 (N : Int) = N := by unfold wrap64; omega
  clear eq QL h1 h2
  go_wp2_with fail
  refine LF.out.mono ?_
  rintro e w2 ⟨rfl, hb⟩
  have C3 := Lib.hid (HC.out.below hb)
  have G3 := Lib.hid (grown_trans HG.out (below_grown hb))
  clear hb
  go_wp2_with fail
  refine (piece_pro g l (p, 0) N _ C3.out NB.out).mono ?_
  rw [P1.out, P2.out]
  rintro e w3 ⟨v2, rfl, hr, hc, hg⟩
  have H2 := Lib.hid hr
  have C2 := Lib.hid hc
  have G2 := Lib.hid hg
  clear hr hc hg
  go_wp2_with fail
  go_ret
  exact ⟨_, rfl, H2.out, C2.out, grown_trans G3.out G2.out⟩

set_option maxRecDepth 100000 in
set_option maxHeartbeats 2000000 in
theorem bytes_of (g : Nat) (l : List UInt8) (S : Nat × Int) (out : List UInt8) (n : Int) (w : World) (h : Calls Tryd.prog 57 #[.pointer (some ⟨g, 0, none⟩), .int .i64 n] w (Gives g l S out w)) (hl : out.length ≤ 281474976710656) :
    Calls Tryd.prog 37 #[.pointer (some ⟨g, 0, none⟩), .int .i64 n] w (Copies g l S out w) := by
  have HC0 := Lib.hid h
  have HL := Lib.hid (show out.length + ([] : List UInt8).length ≤ 281474976710656 by simpa using hl)
  clear h hl
  go_enter Tryd.func37, Tryd.ntmps37
  go_wp2_with fail
  refine HC0.out.mono ?_
  rintro e w1 ⟨v1, rfl, hr, hc, hg⟩
  have HR := Lib.hid hr
  have HC := Lib.hid hc
  have HG := Lib.hid hg
  clear hr hc hg
  go_wp2_with fail
  refine (joined_pro _ [] _ _ _ HR.out (Rd.nil _) HL.out).mono ?_
  rw [List.append_nil]
  rintro e w2 ⟨v2, rfl, ho, hb⟩
  have HO := Lib.hid ho
  have HB := Lib.hid hb
  clear ho hb
  go_wp2_with fail
  go_ret
  exact ⟨_, rfl, own_mono HO.out HG.out.size, HC.out.below HB.out, grown_trans HG.out (below_grown HB.out)⟩

set_option maxRecDepth 100000 in
set_option maxHeartbeats 2000000 in
theorem text_may (g : Nat) (l : List UInt8) (s S : Nat × Int) (out : List UInt8) (n : Int) (w : World) (h0 : Cur w g l s.1 s.2) (h : Calls Tryd.prog 57 #[.pointer (some ⟨g, 0, none⟩), .int .i64 n] w (Gives g l S out w)) (hl : out.length ≤ 16777216)
    (hT : ∀ w', w.grownBy w' (some g) → Tabs w') (hm : may ⟨out.toArray⟩ = true) :
    Calls Tryd.prog 38 #[.pointer (some ⟨g, 0, none⟩), .int .i64 n] w fun en w' => en = .returned (.string ⟨out.toArray⟩) ∧ Cur w' g l S.1 S.2 ∧ w.grownBy w' (some g) := by
  have H0 := Lib.hid h0
  have HC0 := Lib.hid h
  have HL := Lib.hid (show (⟨out.toArray⟩ : ByteArray).size ≤ 16777216 from (show out.toArray.size ≤ _ by simpa using hl))
  have HT := Lib.hid hT
  have HM := Lib.hid hm
  clear h0 h hl hT hm
  go_enter Tryd.func38, Tryd.ntmps38
  go_wp2_with fail
  refine (at_pro g l s.1 s.2 _ H0.out).mono ?_
  rintro e w1 ⟨rfl, rfl⟩
  go_wp2_with fail
  refine HC0.out.mono ?_
  rintro e w1 ⟨v1, rfl, hr, hc, hg⟩
  have hcv := rd_string hr
  have HC := Lib.hid hc
  have HG := Lib.hid hg
  clear hr hc hg
  go_wp2_with fail
  refine (may_pro _ _ HL.out (HT.out _ HG.out)).mono ?_
  rw [HM.out]
  rintro e w2 ⟨rfl, hb⟩
  have HB := Lib.hid hb
  clear hb hcv
  go_wp2_with fail
  go_ret
  exact ⟨rfl, HC.out.below HB.out, grown_trans HG.out (below_grown HB.out)⟩
set_option maxRecDepth 100000 in
set_option maxHeartbeats 2000000 in
theorem text_not (g : Nat) (l : List UInt8) (s : Nat × Int) (p : Nat) (out : List UInt8) (n : Int) (w : World) (h0 : Cur w g l s.1 s.2) (h : Calls Tryd.prog 57 #[.pointer (some ⟨g, 0, none⟩), .int .i64 n] w (Gives g l (p, 0) out w)) (hl : out.length ≤ 16777216)
    (hT : ∀ w', w.grownBy w' (some g) → Tabs w') (hm : may ⟨out.toArray⟩ = false) :
    Calls Tryd.prog 38 #[.pointer (some ⟨g, 0, none⟩), .int .i64 n] w fun en w' => en = .returned (.string ⟨#[]⟩) ∧ Cur w' g l s.1 32 ∧ w.grownBy w' (some g) := by
  have H0 := Lib.hid h0
  have HC0 := Lib.hid h
  have HL := Lib.hid (show (⟨out.toArray⟩ : ByteArray).size ≤ 16777216 from (show out.toArray.size ≤ _ by simpa using hl))
  have HT := Lib.hid hT
  have HM := Lib.hid hm
  clear h0 h hl hT hm
  go_enter Tryd.func38, Tryd.ntmps38
  go_wp2_with fail
  refine (at_pro g l s.1 s.2 _ H0.out).mono ?_
  rintro e w1 ⟨rfl, rfl⟩
  go_wp2_with fail
  refine HC0.out.mono ?_
  rintro e w1 ⟨v1, rfl, hr, hc, hg⟩
  have hcv := rd_string hr
  have HC := Lib.hid hc
  have HG := Lib.hid hg
  clear hr hc hg
  go_wp2_with fail
  refine (may_pro _ _ HL.out (HT.out _ HG.out)).mono ?_
  rw [HM.out]
  rintro e w2 ⟨rfl, hb⟩
  have C2 := Lib.hid (HC.out.below hb)
  have G2 := Lib.hid (grown_trans HG.out (below_grown hb))
  clear hb hcv
  go_wp2_with fail
  refine (failAt_pro g l p s.1 32 _ C2.out (cur_len H0.out).1 (by decide)).mono ?_
  rintro e w3 ⟨rfl, hc, hg⟩
  have C3 := Lib.hid hc
  have G3 := Lib.hid hg
  clear hc hg
  go_wp2_with fail
  go_ret
  exact ⟨rfl, C3.out, grown_trans G2.out G3.out⟩
end Go.Proofs.YtcgeldmbndaocaaDoor
