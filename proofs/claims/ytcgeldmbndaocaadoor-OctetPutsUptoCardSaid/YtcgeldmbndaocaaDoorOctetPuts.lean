/- What is proved: OctetPuts holds of any bytes, numbers and texts: what is laid behind any bytes is what the document lays, in new memory; any bytes' sum; whether a text may be. Its condition: what comes in is of bulk at most 1048576 (the statement's second form). -/
import Derived.Test.YtcgeldmbndaocaaDoorPuts
import Derived.Test.YtcgeldmbndaocaaDoorPost
import Derived.Test.YtcgeldmbndaocaaDoorOLft
import Derived.Test.YtcgeldmbndaocaaDoorCards
import Derived.Test.YtcgeldmbndaocaaDoorTie
import Derived.ProofKit
import Derived.OpenShut
import Derived.Deep.DeepHandedRow
import Derived.WideKeyArgs
import Derived.RegionCalls
import Derived.Deep.RegionLaw
namespace Go.Proofs.YtcgeldmbndaocaaDoor.octetPuts
open Go.ChangeShapes Go.WideShapes Go.ChangeAt Go.RowKit Go.Maps
open Go.ChangeMaps (open_string shut_string)
set_option linter.unusedVariables false

set_option maxRecDepth 100000 in
set_option maxHeartbeats 8000000 in
theorem walk (vl : Value) (l : List UInt8) (x i : Int) (vp : Value) (p : List UInt8) (s : ByteArray) (W : World) (hl : Rd W vl l) (bl : l.length ≤ 1048576) (hx : (Lit.int .u64 x).wf = true) (hi : (Lit.int .i64 i).wf = true) (hp : Rd W vp p) (bp : p.length ≤ 1048576) (bs : s.size ≤ 1048576) (hT : Tabs W) :
    Calls Tryd.prog 3 #[vl, .int .u64 x, .int .i64 i, vp, .string s] W fun e W' => e = .returned (.bool true) ∧ Below W.heap.size W W' := by
  obtain ⟨i0, hi0, hz0, hz1, hz2⟩ := info_parts info5
  have HT := Lib.hid hT
  have RL := Lib.hid hl
  have RP := Lib.hid hp
  obtain ⟨a, rfl, ha⟩ : ∃ a : Nat, x = a ∧ a < 18446744073709551616 := by
    have : 0 ≤ x ∧ x ≤ 18446744073709551615 := by simpa [Lit.wf, IntKind.min, IntKind.max, IntKind.signed, IntKind.bits] using hx
    exact ⟨x.toNat, by omega, by omega⟩
  have hi2 : -9223372036854775808 ≤ i ∧ i ≤ 9223372036854775807 := by simpa [Lit.wf, IntKind.min, IntKind.max, IntKind.signed, IntKind.bits] using hi
  have hz : s.data.toList.length = s.size := by rw [Array.length_toList]; rfl
  have FA := Lib.hid ha
  have FI := Lib.hid hi2
  have BL := Lib.hid bl
  have BP := Lib.hid bp
  have BS := Lib.hid bs
  obtain ⟨pl, cl, rfl, kl, _⟩ := hl.form
  obtain ⟨pp, cp, rfl, kp, _⟩ := hp.form
  have hmk : ∀ w : World, (Instr.makeSlice 22 (.int .i64 0) (.int .i64 ((l.length : Int) + 100))).run Tryd.prog w = .ok (.slice (some ⟨w.heap.size, 0, none⟩) 0 (l.length + 100)) (w.alloc (.cells (madeCells #[.int .u8 0] (l.length + 100)) 5)) := by
    intro w
    have h := run_make (P := Tryd.prog) w 22 5 i0 (.int .u8 0) Tryd.underlying22 hi0 hz0 .i64 .i64 0 ((l.length : Int) + 100) (by omega) (by omega) (by rw [hz2]; omega) (by omega)
    rw [hz1, Nat.mul_one, show ((l.length : Int) + 100).toNat = l.length + 100 by omega] at h
    exact h
  have L47 := Lib.hid (show l.length ≤ 140737488355328 by omega)
  have P47 := Lib.hid (show p.length ≤ 140737488355328 by omega)
  have P48 := Lib.hid (show p.length ≤ 140737488000000 by omega)
  have S24 := Lib.hid (show s.size ≤ 16777216 by omega)
  have L48 := Lib.hid (show l.length ≤ 281474976710000 by omega)
  have LP := Lib.hid (show l.length + p.length ≤ 281474976710000 by omega)
  have LS := Lib.hid (show l.length + s.size ≤ 281474976710000 by omega)
  have MS := Lib.hid (show s.size ≤ maxLen by unfold maxLen; omega)
  have SB := Lib.hid (show s.data.toList.length ≤ 140737488000000 by omega)
  have W16 : IntKind.u16.wrap (a : Int) = (a % 65536 : Nat) := by rw [IntKind.wrap_u16]; omega
  have W32 : IntKind.u32.wrap (a : Int) = (a % 4294967296 : Nat) := by rw [IntKind.wrap_u32]; omega
  have M16 := Lib.hid (show a % 65536 < 65536 by omega)
  have M32 := Lib.hid (show a % 4294967296 < 4294967296 by omega)
  have E16 := Lib.hid (lo_mod2 a)
  have E32 := Lib.hid (lo_mod4 a)
  have NL := Lib.hid (rfl : l.length = l.length)
  have IT : Int.ofNat l.length = (l.length : Int) := rfl
  have WR := Lib.hid (show wrap64 ((l.length : Int) + 100) = (l.length : Int) + 100 by unfold wrap64; omega)
  have HM := Lib.hid hmk
  clear hT hl hp hx hi ha hi2 hz kl kp bl bp bs IT NL hmk
  generalize a % 65536 = a16 at *
  generalize a % 4294967296 = a32 at *
  go_enter Tryd.func3, Tryd.ntmps3
  go_wp2_with fail
  refine (awake_law _ HT.out).mono ?_
  rintro e w1 ⟨rfl, hb1⟩
  have B1 := Lib.hid hb1
  clear hb1
  go_wp2_with fail
  refine (twin_pro _ _ _ (RL.out.below B1.out) L47.out).mono ?_
  rintro e w2 ⟨v2, rfl, ho, hb⟩
  have R2 := Lib.hid (Rd.own ho)
  have B2 := Lib.hid (B1.out.trans (hb.mono B1.out.size))
  clear ho hb
  go_wp2_with fail
  refine (sum_pro _ _ _ R2.out L47.out).mono ?_
  rintro e w2 ⟨rfl, rfl⟩
  go_wp2_with fail
  refine (sum_ref _ _ _ (RL.out.below B2.out) L47.out).mono ?_
  rintro e w2 ⟨rfl, rfl⟩
  go_wp2_with fail
  refine (may_pro _ _ S24.out (HT.out.at B2.out)).mono ?_
  rintro e w3 ⟨rfl, hb⟩
  have B3 := Lib.hid (B2.out.trans (hb.mono B2.out.size))
  clear hb
  go_wp2_with fail
  refine (may_ref _ _ S24.out).mono ?_
  rintro e w4 ⟨rfl, hb⟩
  have B4 := Lib.hid (B3.out.trans (hb.mono B3.out.size))
  clear hb
  go_wp2_with fail
  rw [WR.out, HM.out w4]
  simp only [Result.andThen]
  rw [Oper.upon_value]
  have G0 := heap_alloc_new w4 (.cells (madeCells #[.int .u8 0] (l.length + 100)) 5)
  have B5 := B4.out.alloc B4.out.size (.cells (madeCells #[.int .u8 0] (l.length + 100)) 5)
  have S4 := B4.out.size
  obtain ⟨w5, ew5⟩ : ∃ w5, w4.alloc (.cells (madeCells #[.int .u8 0] (l.length + 100)) 5) = w5 := ⟨_, rfl⟩
  obtain ⟨g, eg⟩ : ∃ g, w4.heap.size = g := ⟨_, rfl⟩
  rw [ew5] at G0 B5 ⊢
  rw [eg] at G0 S4 ⊢
  obtain ⟨w6, hrun, hrow, hgr⟩ := mine_run w5 g l.length cl pl l (RL.out.below B5) G0
  have ST0 : St W g l [] [] w6 := ⟨hrow, S4, B5.grown hgr B5.size (fun k hk => by cases hk; exact S4), fun x hx => (by cases hx), fun x hx => (by cases hx)⟩
  have S0 := Lib.hid ST0
  have RR := Lib.hid hrun
  clear hrun hrow hgr ST0 G0 B5 S4 ew5 eg HM WR
  go_wp2_with (at_builtin; refine wpList_append_run rfl _ _ _ rfl _ RR.out ?_)
  refine (putUint_pro l _ a _ (S0.out.row.rd BL.out) L48.out FA.out).mono ?_
  rintro e w7 ⟨v7, rfl, ho, hb⟩
  obtain ⟨T1, eT1⟩ : ∃ t, l ++ gr a = t := ⟨_, rfl⟩
  rw [eT1] at ho
  have ET1 := Lib.hid eT1
  obtain ⟨qT1, cT1, rfl, _⟩ := (Rd.own ho).form
  have S1 := Lib.hid (S0.out.put ho hb)
  clear ho hb eT1 S0
  go_wp2_with fail
  refine (putInt_pro l _ i _ (S1.out.row.rd BL.out) L48.out FI.out).mono ?_
  rintro e w8 ⟨v8, rfl, ho, hb⟩
  obtain ⟨T2, eT2⟩ : ∃ t, l ++ gr (zz i) = t := ⟨_, rfl⟩
  rw [eT2] at ho
  have ET2 := Lib.hid eT2
  obtain ⟨qT2, cT2, rfl, _⟩ := (Rd.own ho).form
  have S2 := Lib.hid (S1.out.put ho hb)
  clear ho hb eT2 S1
  go_wp2_with fail
  refine (put16_pro l _ a16 _ (S2.out.row.rd BL.out) L48.out M16.out).mono ?_
  rintro e w9 ⟨v9, rfl, ho, hb⟩
  rw [E16.out] at ho
  obtain ⟨T3, eT3⟩ : ∃ t, l ++ lo 2 a = t := ⟨_, rfl⟩
  rw [eT3] at ho
  have ET3 := Lib.hid eT3
  obtain ⟨qT3, cT3, rfl, _⟩ := (Rd.own ho).form
  have S3 := Lib.hid (S2.out.put ho hb)
  clear ho hb eT3 S2
  go_wp2_with fail
  refine (put32_pro l _ a32 _ (S3.out.row.rd BL.out) L48.out M32.out).mono ?_
  rintro e w10 ⟨v10, rfl, ho, hb⟩
  rw [E32.out] at ho
  obtain ⟨T4, eT4⟩ : ∃ t, l ++ lo 4 a = t := ⟨_, rfl⟩
  rw [eT4] at ho
  have ET4 := Lib.hid eT4
  obtain ⟨qT4, cT4, rfl, _⟩ := (Rd.own ho).form
  have S4 := Lib.hid (S3.out.put ho hb)
  clear ho hb eT4 S3
  go_wp2_with fail
  refine (twin_pro p _ _ (S4.out.old RP.out) P47.out).mono ?_
  rintro e w11 ⟨v11, rfl, ho, hb⟩
  have RT := Lib.hid (Rd.own ho)
  have S5 := Lib.hid (S4.out.step hb)
  clear ho hb S4
  go_wp2_with fail
  refine (putBytes_pro l p _ _ _ (S5.out.row.rd BL.out) RT.out LP.out).mono ?_
  rintro e w12 ⟨v12, rfl, ho, hb⟩
  obtain ⟨T5, eT5⟩ : ∃ t, l ++ pb p = t := ⟨_, rfl⟩
  rw [eT5] at ho
  have ET5 := Lib.hid eT5
  obtain ⟨qT5, cT5, rfl, _⟩ := (Rd.own ho).form
  have S6 := Lib.hid (S5.out.put ho hb)
  clear ho hb eT5 S5
  go_wp2_with fail
  clear RT
  refine (putText_pro l s _ _ (S6.out.row.rd BL.out) LS.out).mono ?_
  rintro e w13 ⟨v13, rfl, ho, hb⟩
  obtain ⟨T6, eT6⟩ : ∃ t, l ++ pb s.data.toList = t := ⟨_, rfl⟩
  rw [eT6] at ho
  have ET6 := Lib.hid eT6
  obtain ⟨qT6, cT6, rfl, _⟩ := (Rd.own ho).form
  have S7 := Lib.hid (S6.out.put ho hb)
  clear ho hb eT6 S6
  go_wp2_with fail
  have S8 := Lib.hid (S7.out.alloc (.cells #[.slice qT1 T1.length cT1, .slice qT2 T2.length cT2, .slice qT3 T3.length cT3, .slice qT4 T4.length cT4, .slice qT5 T5.length cT5, .slice qT6 T6.length cT6] 22))
  obtain ⟨w14, hw⟩ : ∃ w, w13.alloc (.cells #[.slice qT1 T1.length cT1, .slice qT2 T2.length cT2, .slice qT3 T3.length cT3, .slice qT4 T4.length cT4, .slice qT5 T5.length cT5, .slice qT6 T6.length cT6] 22) = w := ⟨_, rfl⟩
  obtain ⟨ga, hn⟩ : ∃ n, w13.heap.size = n := ⟨_, rfl⟩
  rw [hw, hn] at S8 ⊢
  clear hw hn S7
  refine (uintB_ref a _ FA.out).mono ?_
  rintro e w15 ⟨v15, rfl, ho, hb⟩
  obtain ⟨U1, eU1⟩ : ∃ t, gr a = t := ⟨_, rfl⟩
  rw [eU1] at ho
  have EU1 := Lib.hid eU1
  obtain ⟨qU1, cU1, rfl, _⟩ := (Rd.own ho).form
  have S9 := Lib.hid (S8.out.put ho hb)
  clear ho hb eU1 S8
  rw [EU1.out] at ET1
  go_wp2_with fail
  refine (intB_ref i _ FI.out).mono ?_
  rintro e w16 ⟨v16, rfl, ho, hb⟩
  obtain ⟨U2, eU2⟩ : ∃ t, gr (zz i) = t := ⟨_, rfl⟩
  rw [eU2] at ho
  have EU2 := Lib.hid eU2
  obtain ⟨qU2, cU2, rfl, _⟩ := (Rd.own ho).form
  have S10 := Lib.hid (S9.out.put ho hb)
  clear ho hb eU2 S9
  rw [EU2.out] at ET2
  go_wp2_with fail
  refine (lowB_ref a 2 _ FA.out (by decide)).mono ?_
  rintro e w17 ⟨v17, rfl, ho, hb⟩
  obtain ⟨U3, eU3⟩ : ∃ t, lo 2 a = t := ⟨_, rfl⟩
  rw [eU3] at ho
  have EU3 := Lib.hid eU3
  obtain ⟨qU3, cU3, rfl, _⟩ := (Rd.own ho).form
  have S11 := Lib.hid (S10.out.put ho hb)
  clear ho hb eU3 S10
  rw [EU3.out] at ET3
  go_wp2_with fail
  refine (lowB_ref a 4 _ FA.out (by decide)).mono ?_
  rintro e w18 ⟨v18, rfl, ho, hb⟩
  obtain ⟨U4, eU4⟩ : ∃ t, lo 4 a = t := ⟨_, rfl⟩
  rw [eU4] at ho
  have EU4 := Lib.hid eU4
  obtain ⟨qU4, cU4, rfl, _⟩ := (Rd.own ho).form
  have S12 := Lib.hid (S11.out.put ho hb)
  clear ho hb eU4 S11
  rw [EU4.out] at ET4
  go_wp2_with fail
  refine (bytesB_ref p _ _ (S12.out.old RP.out) P48.out).mono ?_
  rintro e w19 ⟨v19, rfl, ho, hb⟩
  obtain ⟨U5, eU5⟩ : ∃ t, pb p = t := ⟨_, rfl⟩
  rw [eU5] at ho
  have EU5 := Lib.hid eU5
  obtain ⟨qU5, cU5, rfl, _⟩ := (Rd.own ho).form
  have S13 := Lib.hid (S12.out.put ho hb)
  clear ho hb eU5 S12
  rw [EU5.out] at ET5
  go_wp2_with fail
  rw [Lib.run_convert_string_bytes w19 9 22 5 s Tryd.underlying9 Tryd.underlying22 Tryd.underlying5]
  simp only [Result.andThen]
  rw [Oper.upon_value]
  have RT := Lib.hid (rd_text w19 s MS.out)
  have S14 := Lib.hid (S13.out.step (below_text w19 s))
  obtain ⟨w20, hw1⟩ : ∃ w1, Lib.bytesWorld w19 5 s = w1 := ⟨_, rfl⟩
  obtain ⟨cap, hcap⟩ : ∃ cap, grownCap w19 s.size 0 5 = cap := ⟨_, rfl⟩
  obtain ⟨gt, hgt⟩ : ∃ gt, w19.heap.size = gt := ⟨_, rfl⟩
  rw [hw1] at RT S14 ⊢
  rw [hcap, hgt] at RT ⊢
  clear hw1 hcap hgt S13
  go_wp2_with fail
  refine (bytesB_ref s.data.toList _ _ RT.out SB.out).mono ?_
  rintro e w21 ⟨v21, rfl, ho, hb⟩
  obtain ⟨U6, eU6⟩ : ∃ t, pb s.data.toList = t := ⟨_, rfl⟩
  rw [eU6] at ho
  have EU6 := Lib.hid eU6
  obtain ⟨qU6, cU6, rfl, _⟩ := (Rd.own ho).form
  have S15 := Lib.hid (S14.out.put ho hb)
  clear ho hb eU6 S14
  rw [EU6.out] at ET6
  go_wp2_with fail
  clear RT
  have S16 := Lib.hid (S15.out.alloc (.cells #[.slice qU1 U1.length cU1, .slice qU2 U2.length cU2, .slice qU3 U3.length cU3, .slice qU4 U4.length cU4, .slice qU5 U5.length cU5, .slice qU6 U6.length cU6] 22))
  obtain ⟨w22, hw⟩ : ∃ w, w21.alloc (.cells #[.slice qU1 U1.length cU1, .slice qU2 U2.length cU2, .slice qU3 U3.length cU3, .slice qU4 U4.length cU4, .slice qU5 U5.length cU5, .slice qU6 U6.length cU6] 22) = w := ⟨_, rfl⟩
  obtain ⟨gb, hn⟩ : ∃ n, w21.heap.size = n := ⟨_, rfl⟩
  rw [hw, hn] at S16 ⊢
  clear hw hn S15
  have SK : ∃ (L : List (Value × List UInt8)) (cA cB : Array Value), St W g l L [(gb, .cells cB 22), (ga, .cells cA 22)] w22 ∧ PF l L cA cB := by
    refine ⟨_, _, _, S16.out, ?_⟩
    have b1 := gr_len a
    have b2 := gr_len (zz i)
    have b5 := pb_len p
    have b6 := pb_len s.data.toList
    have d5 : 0 < (pb p).length := by unfold pb; rw [List.length_append]; have := gr_len p.length; omega
    have d6 : 0 < (pb s.data.toList).length := by unfold pb; rw [List.length_append]; have := gr_len s.data.toList.length; omega
    have hz : s.data.toList.length = s.size := by rw [Array.length_toList]; rfl
    have h1 := BP.out
    have h2 := BS.out
    have d3 := lo_len 2 a
    have d4 := lo_len 4 a
    rw [EU1.out] at b1
    rw [EU2.out] at b2
    rw [EU3.out] at d3
    rw [EU4.out] at d4
    rw [EU5.out] at b5 d5
    rw [EU6.out] at b6 d6
    intro k hk
    rcases k with _ | _ | _ | _ | _ | _ | k
    · exact ⟨_, _, T1, _, _, U1, by simp, by simp, rfl, rfl, ET1.out, by omega, by omega⟩
    · exact ⟨_, _, T2, _, _, U2, by simp, by simp, rfl, rfl, ET2.out, by omega, by omega⟩
    · exact ⟨_, _, T3, _, _, U3, by simp, by simp, rfl, rfl, ET3.out, by omega, by omega⟩
    · exact ⟨_, _, T4, _, _, U4, by simp, by simp, rfl, rfl, ET4.out, by omega, by omega⟩
    · exact ⟨_, _, T5, _, _, U5, by simp, by simp, rfl, rfl, ET5.out, by omega, by omega⟩
    · exact ⟨_, _, T6, _, _, U6, by simp, by simp, rfl, rfl, ET6.out, by omega, by omega⟩
    · omega
  obtain ⟨L, cA, cB, SL, PL⟩ := SK
  have SL := Lib.hid SL
  have PL := Lib.hid PL
  clear S16 ET1 ET2 ET3 ET4 ET5 ET6 EU1 EU2 EU3 EU4 EU5 EU6
  go_loopw [14, 79] (fun _ iv wr => ∃ (k : Nat) (ys : List UInt8), iv = .int .i64 k ∧ k ≤ l.length ∧ ys.length = l.length ∧ St W g ys L [(gb, .cells cB 22), (ga, .cells cA 22)] wr) (fun _ iv _ => l.length - (intOf iv).toNat)
  case atStart => exact ⟨0, l, rfl, Nat.zero_le _, rfl, SL.out⟩
  case round =>
    obtain ⟨k, ys, rfl, hk, hys, hst⟩ := hrel
    have HS := Lib.hid hst
    have HY := Lib.hid hys
    clear hst
    by_cases hlt : k < l.length
    · have bq := BL.out
      have ix : (k : Int) < l.length := by omega
      have xa := HS.out.row.at_ k (by omega)
      obtain ⟨x, ex⟩ : ∃ x, ys[k]'(by omega) = x := ⟨_, rfl⟩
      rw [ex] at xa
      have f1 := u8_flip x
      obtain ⟨y, ey⟩ : ∃ y, x ^^^ 85 = y := ⟨_, rfl⟩
      rw [ey] at f1
      have HN := Lib.hid (HS.out.set k (by omega) y)
      have fz := frozen_of_row wr g k _ _ HS.out.row
      clear ex ey hys
      go_wp2_with fail
      go_roundw
      case rel => exact ⟨k + 1, ys.set k y, by go_num, by omega, by rw [List.length_set]; exact HY.out, HN.out⟩
      case measure => simp [intOf]; omega
    · obtain rfl : k = l.length := by omega
      go_wp2_with fail
      go_loopw [15, 91] (fun _ iv w0 => ∃ k : Nat, iv = .int .i64 k ∧ k ≤ 6 ∧ St W g ys L [(gb, .cells cB 22), (ga, .cells cA 22)] w0) (fun _ iv _ => 6 - (intOf iv).toNat)
      case atStart => exact ⟨0, rfl, Nat.zero_le _, HS.out⟩
      case round =>
        obtain ⟨k, rfl, hk6, hst⟩ := hrel
        have HS := Lib.hid hst
        have HD := Lib.hid hst.drew
        clear hst
        by_cases hlt6 : k < 6
        · have ix : (k : Int) < 6 := by omega
          obtain ⟨qa, ca, t, qb, cb, e, m1, m2, c1, c2, et, e0, e1⟩ := PL.out k hlt6
          obtain ⟨b, off, rfl⟩ := rd_some (HS.out.rd m2) e0
          have XA := HS.out.cellA k _ c1
          have XB := HS.out.cellB k _ c2
          have M0 := Lib.hid e0
          have C1 := Lib.hid c1
          have C2 := Lib.hid c2
          have K1 := Lib.hid m1
          have K2 := Lib.hid m2
          have M1 := Lib.hid (show l.length + e.length ≤ maxLen by have := BL.out; unfold maxLen; omega)
          have M2 := Lib.hid (show (l.length + e.length) * 1 ≤ 140737488355328 by have := BL.out; omega)
          have M3 := Lib.hid (show (Lib.byteCells e).length = e.length * 1 by rw [Lib.byteCells_length]; omega)
          have ET := Lib.hid et
          have HI := Lib.hid hi0
          clear e0 e1 c1 c2 m1 m2 et
          go_wp2_with fail
          go_region_law (first
            | (go_simp; go_at_call 11; refine (twin_pro l _ _ (HD.out.old RL.out) L47.out).mono ?_; rintro e9 w9 ⟨v9, rfl, ho, hb⟩; have O9 := Lib.hid ho; have B9 := Lib.hid hb; have H9 := Lib.hid (HD.out.step hb); have XA9 := H9.out.cellA k _ C1.out; have XB9 := H9.out.cellB k _ C2.out; clear ho hb)
            | (refine step_append_lies _ rfl (.tmp 99) (.tmp 103) 22 rfl wr.heap.size 5 i0 (.int .u8 0) 1 1 Tryd.underlying22 HI.out hz0 hz1 hz2 rfl (by decide) _ l.length (Lib.byteCells l) (by simp [Act.eval]) O9.out ⟨b, off, none⟩ e.length cb (Lib.byteCells e) (by simp [Act.eval]) M3.out (rd_news (H9.out.rd K2.out)) (byteCells_one e) M0.out M1.out M2.out B9.out.size _ rfl ?_; intro g3 cap3 w3 hown3 hgrow3 _ _; generalize (Value.slice (some ⟨g3, 0, none⟩) (l.length + e.length) cap3) = V3 at hown3 ⊢; have O3 := Lib.hid (Rd.own (l := l ++ e) (by rw [Lib.byteCells_append]; exact hown3)); have B3 := Lib.hid (B9.out.grown hgrow3 B9.out.size (fun j hj => (O9.out.lt j hj).1)); have H3 := Lib.hid (HD.out.step B3.out); have XA3 := H3.out.cellA k _ C1.out; clear hown3 hgrow3)
            | (go_simp; go_at_call 25; refine (same_pro t t _ _ _ (H3.out.rd K1.out) (by rw [← ET.out]; exact O3.out)).mono ?_; rw [beq_self_eq_true]; rintro e8 w8 ⟨rfl, rfl⟩))
          all_goals
            go_wp2_with fail
            go_roundw
          all_goals first | exact ⟨k + 1, by go_num, by omega, H3.out⟩ | (simp [intOf]; done) | (simp [intOf]; omega)
        · obtain rfl : k = 6 := by omega
          go_wp2_with fail
          go_loopw [17, 115] (fun _ iv w0 => ∃ k : Nat, iv = .int .i64 k ∧ k ≤ 100 ∧ St W g ys L [(gb, .cells cB 22), (ga, .cells cA 22)] w0) (fun _ iv _ => 100 - (intOf iv).toNat)
          case atStart => exact ⟨0, rfl, Nat.zero_le _, HS.out⟩
          case round =>
            obtain ⟨k, rfl, hk7, hst⟩ := hrel
            have HS := Lib.hid hst
            clear hst
            by_cases hlt7 : k < 100
            · have ix : (k : Int) < 100 := by omega
              have xb := HS.out.row.behind k hlt7
              rw [HY.out] at xb
              go_wp2_with fail
              go_roundw
              case rel => exact ⟨k + 1, by go_num, by omega, HS.out⟩
              case measure => simp [intOf]; omega
            · obtain rfl : k = 100 := by omega
              go_wp2_with fail
              go_ret
              exact ⟨rfl, HS.out.bel⟩

set_option maxRecDepth 100000 in
theorem contract (H : Type) (enc : TypeId × Value → H) (W : World) (base : Nat) (args : Array Value) (ds gs : List (DataW H)) (before : List MemPlace)
    (hval : ∀ (j : Nat) t v, Tryd.f3.params[j]? = some t → args[j]? = some v → Value.okWide Tryd.prog W .any base t v)
    (hW : DataW.Whole enc Tryd.prog Tryd.f3.params.toList Rows.octetPutsSpec.vars false W args.toList ds gs before) (hk : Rows.uptoSmall H (ds ++ gs) = true) (hT : Tabs W) :
    Calls Tryd.prog 3 args W fun e W' => ∃ v, e = .returned v ∧ Rows.octetPutsSpec.post enc Tryd.prog Tryd.f3 false true false false W args v W' := by
  have hW' := hW
  obtain ⟨p, q, hA0, hV, rfl, hfz, hnd⟩ := hW
  have hA : DataW.TrodAll enc Tryd.prog W 0 (fun _ => true) true Tryd.f3.params.toList args.toList ds p := hA0
  rw [Tryd.params3] at hA hval
  obtain ⟨v0, vs0, d0, ds0, p0, q0, hargs, rfl, rfl, h0, r0⟩ := trodAll_cons hA
  obtain ⟨v1, vs1, d1, ds1, p1, q1, rfl, rfl, rfl, h1, r1⟩ := trodAll_cons r0
  obtain ⟨v2, vs2, d2, ds2, p2, q2, rfl, rfl, rfl, h2, r2⟩ := trodAll_cons r1
  obtain ⟨v3, vs3, d3, ds3, p3, q3, rfl, rfl, rfl, h3, r3⟩ := trodAll_cons r2
  obtain ⟨v4, vs4, d4, ds4, p4, q4, rfl, rfl, rfl, h4, r4⟩ := trodAll_cons r3
  obtain ⟨rfl, rfl, rfl⟩ := trodAll_nil r4
  obtain rfl : args = #[v0, v1, v2, v3, v4] := by cases args; simp_all
  obtain ⟨rfl, rfl⟩ := trodVars_none hV
  have hk0 := h0
  obtain ⟨l0, hR0, hD0⟩ := bytes_read h0 (okWide_slice Tryd.underlying22 (hval 0 22 v0 rfl rfl))
  obtain ⟨a1, rfl, rfl, rfl, w1⟩ := open_int Tryd.underlying23 (hval 1 23 v1 rfl rfl) h1
  obtain ⟨a2, rfl, rfl, rfl, w2⟩ := open_int Tryd.underlying3 (hval 2 3 v2 rfl rfl) h2
  have hk3 := h3
  obtain ⟨l3, hR3, hD3⟩ := bytes_read h3 (okWide_slice Tryd.underlying22 (hval 3 22 v3 rfl rfl))
  obtain ⟨s4, rfl, rfl, rfl, hm4⟩ := open_string Tryd.underlying9 (hval 4 9 v4 rfl rfl) h4
  clear hA0
  simp only [List.append_nil] at hk
  have hb0 := of_decide_eq_true hk
  simp only [Rows.uptoBulkAll, Rows.uptoBulk] at hb0
  have size0 : l0.length ≤ 1048576 := by
    have e := bytes_bulk hD0
    omega
  have size3 : l3.length ≤ 1048576 := by
    have e := bytes_bulk hD3
    omega
  have size4 : s4.size ≤ 1048576 := by
    have e : s4.data.toList.length = s4.size := by rw [Array.length_toList]; rfl
    omega
  refine (walk v0 l0 a1 a2 v3 l3 s4 W hR0 size0 w1 w2 hR3 size3 size4 hT).mono fun e W' ⟨he, hg⟩ => ?_
  subst he
  have hlt := hW'.lt
  exact ⟨_, rfl, post_of_below (pa := (p0 ++ ([] ++ ([] ++ (p3 ++ ([] ++ [])))))) (pv := []) hW' (fun _ _ _ => trodAll_cons_mk (shut_bool Tryd.underlying4 _) trodAll_mk0) (fun sp hsp => (trodAll_cons_mk (Go.WideElems.Trod_stays (by kernel_rfl) (by kernel_rfl) (of_decide_eq_true (by kernel_rfl)) hk0 (fun p hp => hg.same (hlt p (by simp [hp]))) (fun p hp => hsp p (by simp [hp]))) (trodAll_cons_mk (shut_int Tryd.underlying23 w1) (trodAll_cons_mk (shut_int Tryd.underlying3 w2) (trodAll_cons_mk (Go.WideElems.Trod_stays (by kernel_rfl) (by kernel_rfl) (of_decide_eq_true (by kernel_rfl)) hk3 (fun p hp => hg.same (hlt p (by simp [hp]))) (fun p hp => hsp p (by simp [hp]))) (trodAll_cons_mk (shut_string Tryd.underlying9 hm4) trodAll_mk0)))))) (fun _ _ => rfl) rfl hg (ok_one (by kernel_rfl) rfl (okWide_bool_mk Tryd.underlying4 _))⟩

theorem witness_row (os : Os) {H : Type} (enc : TypeId × Value → H) :
    (Rows.OpenSpec.upto Rows.octetPutsSpec).preRow enc Tryd.prog Tryd.f3 Rows.octetPutsUptoRow.domain false Rows.octetPutsUptoRow.laid ((laidWorld os).forCall (fun _ _ => 0) ⟨#[], #[.slice none 0 0, .int .u64 0, .int .i64 0, .slice none 0 0, .string .empty], []⟩).memory #[.slice none 0 0, .int .u64 0, .int .i64 0, .slice none 0 0, .string .empty] := by
  have hw : (DataW.whole enc Tryd.prog ((laidWorld os).forCall (fun _ _ => 0) ⟨#[], #[.slice none 0 0, .int .u64 0, .int .i64 0, .slice none 0 0, .string .empty], []⟩).memory Tryd.f3.params.toList Rows.octetPutsSpec.vars false (#[.slice none 0 0, .int .u64 0, .int .i64 0, .slice none 0 0, .string .empty] : Array Value).toList 8).map (fun x => (x.1, x.2.1)) =
      some ([.nil, .lit (.int .u64 0), .lit (.int .i64 0), .nil, .lit (.string [])], []) := by kernel_rfl
  obtain ⟨⟨x1, x2, x3⟩, hx, hx1⟩ := Option.map_eq_some_iff.1 hw
  simp only [Prod.mk.injEq] at hx1
  obtain ⟨rfl, rfl⟩ := hx1
  exact OpenSpec.preRow_of_cond 8 hx (by kernel_rfl) (fun k hk => by cases hk; kernel_rfl) (by kernel_rfl) (laid_met os _)

set_option maxRecDepth 100000 in
theorem lifted (os : Os) (started : os.Started) (H : Type) (enc : TypeId × Value → H) (F : Stop.Interp) :
    ReturnsInHanded {} Tryd.checked os 3 .any ((Rows.OpenSpec.upto Rows.octetPutsSpec).preRow enc Tryd.prog Tryd.f3 Rows.octetPutsUptoRow.domain false Rows.octetPutsUptoRow.laid) (((Rows.OpenSpec.upto Rows.octetPutsSpec).at F).post enc Tryd.prog Tryd.f3 false true false false) := by
  refine returnsInHanded_of_row (C := Tryd.checked) (s := (Rows.OpenSpec.upto Rows.octetPutsSpec)) own started (by kernel_rfl) Tryd.func3
    (witness_row_at (enc := enc) (C := Tryd.checked) false (laidWorld os) #[.slice none 0 0, .int .u64 0, .int .i64 0, .slice none 0 0, .string .empty] rfl (by kernel_rfl) (by kernel_rfl) (by kernel_rfl) (witness_row os enc)) ?_
  intro W base args ds gs before hval hW _ hcond hsz hL hS _
  exact contract H enc W base args ds gs before hval hW (hcond _ rfl) (tabs_of hL)

theorem row : Rows.OctetPutsUptoSaid :=
  OpenClaim.holds_of_cond 3 Tryd.f3 rfl rfl rfl rfl rfl rfl rfl ⟨rfl, rfl, rfl, rfl, rfl⟩ rfl rfl rfl rfl rfl (by kernel_rfl) Tryd.func3 (by kernel_rfl)
    (of_decide_eq_true (by kernel_rfl)) (by unfold Func.isWrapper; first | (rw [if_pos (by decide +kernel)]; kernel_rfl) | (rw [if_neg (by decide +kernel)]; exact ⟨rfl, rfl⟩))
    (fun os started H enc _ F => by rw [OpenClaim.pre_eq_preRow]; exact lifted os started H enc F)

theorem plain (f : FuncId) (fn : Func) (hf : Tryd.pinned.checked.prog.funcNamed Rows.octetPutsUptoRow.func = some f) (hfn : Tryd.pinned.checked.prog.funcs[f]? = some fn) :
    false = Tryd.pinned.checked.prog.looks [] ∧ ∀ (j : Nat) t, fn.params[j]? = some t → Tryd.pinned.checked.prog.wantsStandIn t = false := by
  obtain rfl : f = 3 := Option.some.inj ((show Tryd.prog.funcNamed Rows.octetPutsUptoRow.func = some 3 by kernel_rfl).symm.trans hf) |>.symm
  obtain rfl : fn = Tryd.f3 := (Option.some.inj (Tryd.func3.symm.trans hfn)).symm
  refine ⟨by kernel_rfl, fun j t ht => ?_⟩
  rw [Tryd.params3] at ht
  have hm : t ∈ [22, 23, 3, 22, 9] := by simpa using Array.mem_of_getElem? ht
  simp only [List.mem_cons, List.mem_nil_iff, or_false] at hm
  rcases hm with rfl | rfl | rfl | rfl | rfl
  · exact (show Tryd.prog.wantsStandIn 22 = false by kernel_rfl)
  · exact (show Tryd.prog.wantsStandIn 23 = false by kernel_rfl)
  · exact (show Tryd.prog.wantsStandIn 3 = false by kernel_rfl)
  · exact (show Tryd.prog.wantsStandIn 22 = false by kernel_rfl)
  · exact (show Tryd.prog.wantsStandIn 9 = false by kernel_rfl)

theorem proved : Rows.OctetPutsUptoCardSaid :=
  Claim7.holds_tied_plain_at .later [] _ _ _ _ row (fun _ h => by cases h) (by kernel_rfl) (fun _ h => by cases h) octetPutsUpto_row_tie rfl ⟨rfl, rfl⟩ (by kernel_rfl) rfl plain (by kernel_rfl)
end Go.Proofs.YtcgeldmbndaocaaDoor.octetPuts
