/- The program's cursor of layer 3: Take16, Take32, Take, Int, and what a failed cursor answers to Index, Bytes, Text. -/
import Derived.Test.YtcgeldmbndaocaaDoorUn
import Derived.Test.YtcgeldmbndaocaaDoorAwk
namespace Go.Proofs.YtcgeldmbndaocaaDoor
open Go.RowKit Go.Maps

theorem pout_len (l : List UInt8) (s : Nat × Int) (n : Nat) : (pout l s n).length ≤ n := by
  unfold pout
  repeat' split
  all_goals first | (simp; done) | (rw [List.length_take]; exact Nat.min_le_left _ _)
theorem pout_le (l : List UInt8) (s : Nat × Int) (n : Nat) : le (pout l s n) < 256 ^ n :=
  Nat.lt_of_lt_of_le (le_lt _) (Nat.pow_le_pow_right (by omega) (pout_len l s n))

set_option maxRecDepth 100000 in
set_option maxHeartbeats 2000000 in
theorem take16_pro (g : Nat) (l : List UInt8) (s : Nat × Int) (w : World) (h : Cur w g l s.1 s.2) :
    Calls Tryd.prog 34 #[.pointer (some ⟨g, 0, none⟩)] w fun en w' => en = .returned (.int .u16 (le (pout l s 2) : Nat)) ∧ Cur w' g l (pst l s 2).1 (pst l s 2).2 ∧ w.grownBy w' (some g) := by
  have H := Lib.hid h
  have HL := Lib.hid (Nat.le_trans (pout_len l s 2) (by decide : 2 ≤ 4))
  have hb2 := pout_le l s 2
  have e2 : pout l s (2 : Nat) = pout l s 2 := rfl
  rw [e2] at hb2 HL
  obtain ⟨x, ex⟩ : ∃ x, le (pout l s 2) = x := ⟨_, rfl⟩
  have EX := Lib.hid ex
  rw [ex] at hb2
  rw [ex]
  clear h ex e2
  have f1 : IntKind.u16.wrap (x : Int) = x := by rw [IntKind.wrap_u16]; omega
  go_enter Tryd.func34, Tryd.ntmps34
  go_wp2_with fail
  refine (piece_pro g l s 2 _ H.out (by decide)).mono ?_
  rintro e w1 ⟨v1, rfl, hr, hc, hg⟩
  have HR := Lib.hid hr
  have HC := Lib.hid hc
  have HG := Lib.hid hg
  clear hr hc hg
  go_wp2_with fail
  refine (lowest_pro _ _ _ HR.out HL.out).mono ?_
  rw [EX.out]
  rintro e w2 ⟨rfl, rfl⟩
  go_wp2_with fail
  go_ret
  exact ⟨rfl, HC.out, HG.out⟩
set_option maxRecDepth 100000 in
set_option maxHeartbeats 2000000 in
theorem take32_pro (g : Nat) (l : List UInt8) (s : Nat × Int) (w : World) (h : Cur w g l s.1 s.2) :
    Calls Tryd.prog 35 #[.pointer (some ⟨g, 0, none⟩)] w fun en w' => en = .returned (.int .u32 (le (pout l s 4) : Nat)) ∧ Cur w' g l (pst l s 4).1 (pst l s 4).2 ∧ w.grownBy w' (some g) := by
  have H := Lib.hid h
  have HL := Lib.hid (show (pout l s 4).length ≤ 4 from pout_len l s 4)
  clear h
  go_enter Tryd.func35, Tryd.ntmps35
  go_wp2_with fail
  refine (piece_pro g l s 4 _ H.out (by decide)).mono ?_
  rintro e w1 ⟨v1, rfl, hr, hc, hg⟩
  have HR := Lib.hid hr
  have HC := Lib.hid hc
  have HG := Lib.hid hg
  clear hr hc hg
  go_wp2_with fail
  refine (lowest_pro _ _ _ HR.out HL.out).mono ?_
  rintro e w2 ⟨rfl, rfl⟩
  go_wp2_with fail
  go_ret
  exact ⟨rfl, HC.out, HG.out⟩
/-- A cursor's call that answers new bytes. -/
def Copies (g : Nat) (l : List UInt8) (s : Nat × Int) (out : List UInt8) (w : World) (en : Ending) (w' : World) : Prop :=
  ∃ v, en = .returned v ∧ w'.ownsRow w.heap.size 5 1 v out.length (Lib.byteCells out) ∧ Cur w' g l s.1 s.2 ∧ w.grownBy w' (some g)
theorem cur_len {w : World} {g : Nat} {l : List UInt8} {p : Nat} {e : Int} (h : Cur w g l p e) : p ≤ l.length ∧ l.length ≤ 281474976710656 := by
  obtain ⟨_, _, _, h1, h2⟩ := h
  exact ⟨h1, h2⟩
theorem pout_all (l : List UInt8) (s : Nat × Int) (n : Int) : (pout l s n).length ≤ l.length := by
  unfold pout
  repeat' split
  all_goals first | (simp; done) | (rw [List.length_take, List.length_drop]; omega)
set_option maxRecDepth 100000 in
set_option maxHeartbeats 2000000 in
theorem take_pro (g : Nat) (l : List UInt8) (s : Nat × Int) (n : Int) (w : World) (h : Cur w g l s.1 s.2) (hn : -9223372036854775808 ≤ n ∧ n ≤ 9223372036854775807) :
    Calls Tryd.prog 32 #[.pointer (some ⟨g, 0, none⟩), .int .i64 n] w (Copies g l (pst l s n) (pout l s n) w) := by
  have H := Lib.hid h
  have HN := Lib.hid hn
  have HL := Lib.hid (show (pout l s n).length + ([] : List UInt8).length ≤ 281474976710656 by have := pout_all l s n; have := cur_len h; simp; omega)
  clear h hn
  go_enter Tryd.func32, Tryd.ntmps32
  go_wp2_with fail
  refine (piece_pro g l s n _ H.out HN.out).mono ?_
  rintro e w1 ⟨v1, rfl, hr, hc, hg⟩
  have HR := Lib.hid hr
  have HC := Lib.hid hc
  have HG := Lib.hid hg
  clear hr hc hg
  go_wp2_with fail
  refine (joined_pro _ [] _ _ _ HR.out (Rd.nil _) HL.out).mono ?_
  rw [List.append_nil]
  rintro e w2 ⟨v2, rfl, ho, hb⟩
  have HO := Lib.hid ho
  have HB := Lib.hid hb
  clear ho hb
  go_wp2_with fail
  go_ret
  exact ⟨_, rfl, own_mono HO.out HG.out.size, HC.out.below HB.out, grown_trans HG.out (below_grown HB.out)⟩

/-- The int whose number is n. -/
def unzz (n : Nat) : Int := if n % 2 = 1 then -((n / 2 : Nat) : Int) - 1 else (n / 2 : Nat)
theorem unzz_zz (i : Int) : unzz (zz i) = i := by
  unfold unzz zz
  split <;> split <;> omega
theorem uval_lt (l : List UInt8) (s : Nat × Int) : uval l s < 18446744073709551616 := by
  unfold uval
  split
  · omega
  · rename_i h
    have h2 : (uscan 0 0 (l.drop s.1)).2.2 = 0 := by
      apply Classical.byContradiction
      intro h3
      exact h (Or.inr h3)
    exact (gr_back (l := l.drop s.1) (n := (uscan 0 0 (l.drop s.1)).1) (k := (uscan 0 0 (l.drop s.1)).2.1) (by rw [← h2])).2
set_option maxRecDepth 100000 in
set_option maxHeartbeats 2000000 in
theorem int_pro (g : Nat) (l : List UInt8) (s : Nat × Int) (w : World) (h : Cur w g l s.1 s.2) :
    Calls Tryd.prog 36 #[.pointer (some ⟨g, 0, none⟩)] w fun en w' => en = .returned (.int .i64 (unzz (uval l s))) ∧ Cur w' g l (ust l s).1 (ust l s).2 ∧ w.grownBy w' (some g) := by
  have H := Lib.hid h
  have hu := uval_lt l s
  obtain ⟨n, en⟩ : ∃ n, uval l s = n := ⟨_, rfl⟩
  have EN := Lib.hid en
  rw [en] at hu
  rw [en]
  clear h en
  have f1 : bits .and .u64 (n : Int) 1 = (n % 2 : Nat) := by
    have := u64_and_nat n 1 hu (by decide)
    rw [nat_mask1] at this
    exact this
  go_enter Tryd.func36, Tryd.ntmps36
  go_wp2_with fail
  refine (uint_pro g l s _ H.out).mono ?_
  rw [EN.out]
  rintro e w1 ⟨rfl, hc, hg⟩
  have HC := Lib.hid hc
  have HG := Lib.hid hg
  clear hc hg
  by_cases h1 : n % 2 = 1
  · have h3 : ((n % 2 : Nat) : Int) = 1 := by omega
    rw [h3] at f1
    have E : wrap64 (bits .xor .u64 IntKind.u64.max ((n : Int) / 2)) = unzz n := by
      have hc : n / 2 < 18446744073709551616 := by omega
      have e2 := u64_xor_nat 18446744073709551615 _ (by decide) hc
      rw [← compl64 hc] at e2
      have e3 : bits .xor .u64 IntKind.u64.max ((n : Int) / 2) = ((18446744073709551615 - n / 2 : Nat) : Int) := e2
      rw [e3]
      unfold unzz
      rw [if_pos h1]
      unfold wrap64
      omega
    clear h1 h3
    go_wp2_with fail
    all_goals first | exact absurd (by assumption : IntKind.u64.signed = true) (by decide) | skip
    go_ret
    exact ⟨by first | rfl | (rw [← E]; rfl), HC.out, HG.out⟩
  · have h3 : ((n % 2 : Nat) : Int) = 0 := by omega
    rw [h3] at f1
    have E := Lib.hid (show (n : Int) / 2 = unzz n by unfold unzz; rw [if_neg h1]; omega)
    go_wp2_with fail
    go_ret
    exact ⟨by rw [← E.out]; rfl, HC.out, HG.out⟩
/-- A cursor that fails, or has failed, as to a number. -/
theorem ust_bad {l : List UInt8} {s : Nat × Int} (h : (ust l s).2 ≠ 0) : uval l s = 0 := by
  unfold ust at h
  unfold uval
  split at h
  · rename_i h1; rw [if_pos (Or.inl h1)]
  · split at h
    · rename_i h1; rw [if_pos (Or.inr h1)]
    · exact absurd rfl h
set_option maxRecDepth 100000 in
set_option maxHeartbeats 2000000 in
theorem index_bad (g : Nat) (l : List UInt8) (s : Nat × Int) (n : Int) (w : World) (h : Cur w g l s.1 s.2) (hn : -9223372036854775808 ≤ n ∧ n ≤ 9223372036854775807) (hs : (ust l s).2 ≠ 0) :
    Calls Tryd.prog 47 #[.pointer (some ⟨g, 0, none⟩), .int .i64 n] w fun en w' => en = .returned (.int .i64 0) ∧ Cur w' g l (ust l s).1 (ust l s).2 ∧ w.grownBy w' (some g) := by
  have H := Lib.hid h
  have HU := Lib.hid (ust_bad hs)
  have HS := Lib.hid hs
  clear h hs
  go_enter Tryd.func47, Tryd.ntmps47
  go_wp2_with fail
  refine (at_pro g l s.1 s.2 _ H.out).mono ?_
  rintro e w1 ⟨rfl, rfl⟩
  go_wp2_with fail
  refine (uint_pro g l s _ H.out).mono ?_
  rw [HU.out]
  rintro e w1 ⟨rfl, hc, hg⟩
  have HC := Lib.hid hc
  have HG := Lib.hid hg
  clear hc hg
  by_cases h1 : n ≤ 0
  · go_wp2_with fail
    refine (failAt_failed g l _ _ _ 1 _ HC.out HS.out).mono ?_
    rintro e w2 ⟨rfl, rfl⟩
    go_wp2_with fail
    go_ret
    exact ⟨rfl, HC.out, HG.out⟩
  · have h2 : IntKind.u64.wrap n = n := by rw [IntKind.wrap_u64]; omega
    go_wp2_with fail
    go_ret
    exact ⟨rfl, HC.out, HG.out⟩
set_option maxRecDepth 100000 in
set_option maxHeartbeats 2000000 in
theorem counted_bad (g : Nat) (l : List UInt8) (s : Nat × Int) (n : Int) (w : World) (h : Cur w g l s.1 s.2) (hn : -9223372036854775808 ≤ n ∧ n ≤ 9223372036854775807) (hs : (ust l s).2 ≠ 0) :
    Calls Tryd.prog 57 #[.pointer (some ⟨g, 0, none⟩), .int .i64 n] w (Gives g l (ust l s) [] w) := by
  have H := Lib.hid h
  have HU := Lib.hid (ust_bad hs)
  have HS := Lib.hid hs
  have P1 := Lib.hid (show pst l (ust l s) 0 = ust l s by unfold pst; rw [if_pos hs])
  have P2 := Lib.hid (show pout l (ust l s) 0 = [] by unfold pout; rw [if_pos hs])
  clear h hs
  go_enter Tryd.func57, Tryd.ntmps57
  go_wp2_with fail
  refine (at_pro g l s.1 s.2 _ H.out).mono ?_
  rintro e w1 ⟨rfl, rfl⟩
  go_wp2_with fail
  refine (uint_pro g l s _ H.out).mono ?_
  rw [HU.out]
  rintro e w1 ⟨rfl, hc, hg⟩
  have HC := Lib.hid hc
  have HG := Lib.hid hg
  clear hc hg
  by_cases h1 : n < 0
  · go_wp2_with fail
    refine (failAt_failed g l _ _ _ 2 _ HC.out HS.out).mono ?_
    rintro e w2 ⟨rfl, rfl⟩
    go_wp2_with fail
    refine (piece_pro g l (ust l s) 0 _ HC.out (by decide)).mono ?_
    rw [P1.out, P2.out]
    rintro e w2 ⟨v2, rfl, hr, hc, hg⟩
    have H2 := Lib.hid hr
    have C2 := Lib.hid hc
    have G2 := Lib.hid hg
    clear hr hc hg
    go_wp2_with fail
    go_ret
    exact ⟨_, rfl, H2.out, C2.out, grown_trans HG.out G2.out⟩
  · have h2 : IntKind.u64.wrap n = n := by rw [IntKind.wrap_u64]; omega
    have LF := Lib.hid (left_pro g l _ _ _ HC.out)
    obtain ⟨q, eq⟩ : ∃ q : Nat, l.length - (ust l s).1 = q := ⟨_, rfl⟩
    rw [eq] at LF
    have q1 : (0 : Int) ≤ q := by omega
    have QL := cur_len HC.out
    have q2 : IntKind.u64.wrap (q : Int) = q := by rw [IntKind.wrap_u64]; omega
    clear eq QL
    go_wp2_with fail
    refine LF.out.mono ?_
    rintro e w2 ⟨rfl, hb⟩
    have C3 := Lib.hid (HC.out.below hb)
    have G3 := Lib.hid (grown_trans HG.out (below_grown hb))
    clear hb
    go_wp2_with fail
    refine (piece_pro g l (ust l s) 0 _ C3.out (by decide)).mono ?_
    rw [P1.out, P2.out]
    rintro e w3 ⟨v2, rfl, hr, hc, hg⟩
    have H2 := Lib.hid hr
    have C2 := Lib.hid hc
    have G2 := Lib.hid hg
    clear hr hc hg
    go_wp2_with fail
    go_ret
    exact ⟨_, rfl, H2.out, C2.out, grown_trans G3.out G2.out⟩
end Go.Proofs.YtcgeldmbndaocaaDoor
