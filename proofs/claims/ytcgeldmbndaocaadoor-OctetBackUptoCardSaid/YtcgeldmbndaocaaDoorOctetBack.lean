/- What is proved: OctetBack holds of any numbers, ints, lists of bytes and texts: whatever is put is taken as it was, one behind the other; what is no text is refused. Its condition: what comes in is of bulk at most 1048576 (the statement's second form). -/
import Derived.Test.YtcgeldmbndaocaaDoorOAwake
import Derived.Test.YtcgeldmbndaocaaDoorBackL
import Derived.Test.YtcgeldmbndaocaaDoorPost
import Derived.Test.YtcgeldmbndaocaaDoorOLft
import Derived.Test.YtcgeldmbndaocaaDoorCards
import Derived.Test.YtcgeldmbndaocaaDoorTie
import Derived.ProofKit
import Derived.OpenShut
import Derived.Deep.DeepHandedRow
import Derived.WideKeyArgs
namespace Go.Proofs.YtcgeldmbndaocaaDoor.octetBack
open Go.ChangeShapes Go.WideShapes Go.ChangeAt Go.RowKit Go.Maps
open Go.ChangeMaps (open_string shut_string)
set_option linter.unusedVariables false

theorem byte_eq (x : ByteArray) : (⟨x.data.toList.toArray⟩ : ByteArray) = x := by simp
theorem nums_bulk {H : Type} {d : DataW H} {l : List Nat} {n : Nat} (h : Len d l.length) (hb : Rows.uptoBulk d ≤ n) : l.length ≤ n := len_bulk h hb
theorem ints_bulk {H : Type} {d : DataW H} {l : List Int} {n : Nat} (h : Len d l.length) (hb : Rows.uptoBulk d ≤ n) : l.length ≤ n := len_bulk h hb
theorem lists_bulk {H : Type} {d : DataW H} {l : List (Value × List UInt8)} {n : Nat} (h : Len d l.length ∧ ∀ x ∈ l, x.2.length ≤ Rows.uptoBulk d) (hb : Rows.uptoBulk d ≤ n) : l.length ≤ n ∧ ∀ x ∈ l, x.2.length ≤ n :=
  ⟨len_bulk h.1 hb, fun x hx => Nat.le_trans (h.2 x hx) hb⟩
theorem strs_bulk {H : Type} {d : DataW H} {l : List ByteArray} {n : Nat} (h : Len d l.length ∧ ∀ x ∈ l, x.size ≤ Rows.uptoBulk d) (hb : Rows.uptoBulk d ≤ n) : l.length ≤ n ∧ ∀ x ∈ l, x.size ≤ n :=
  ⟨len_bulk h.1 hb, fun x hx => Nat.le_trans (h.2 x hx) hb⟩

set_option maxRecDepth 100000 in
set_option maxHeartbeats 8000000 in
theorem walk (vn : Value) (ns : List Nat) (vi : Value) (is : List Int) (vp : Value) (ps : List (Value × List UInt8)) (vs : Value) (ss : List ByteArray) (W : World)
    (hn : RdV W vn (ns.map fun (x : Nat) => Value.int .u64 (x : Int)) ∧ ∀ x ∈ ns, x < 18446744073709551616) (bn : ns.length ≤ 1048576)
    (hi : RdV W vi (is.map (Value.int .i64)) ∧ ∀ x ∈ is, -9223372036854775808 ≤ x ∧ x ≤ 9223372036854775807) (bi : is.length ≤ 1048576)
    (hp : RdV W vp (ps.map Prod.fst) ∧ ∀ x ∈ ps, Rd W x.1 x.2) (bp : ps.length ≤ 1048576 ∧ ∀ x ∈ ps, x.2.length ≤ 1048576)
    (hs : RdV W vs (ss.map Value.string)) (bs : ss.length ≤ 1048576 ∧ ∀ x ∈ ss, x.size ≤ 1048576) (hT : Tabs W) :
    Calls Tryd.prog 5 #[vn, vi, vp, vs] W fun e W' => e = .returned (.bool true) ∧ Below W.heap.size W W' := by
  have HT := Lib.hid hT
  have FN := Lib.hid hn.2
  have FI := Lib.hid hi.2
  have FP := Lib.hid hp.2
  have SP := Lib.hid bp.2
  have SS := Lib.hid bs.2
  obtain ⟨pn, cn, rfl, gn⟩ := hn.1.get
  obtain ⟨pi, ci, rfl, gi⟩ := hi.1.get
  obtain ⟨pp, cp, rfl, gp⟩ := hp.1.get
  obtain ⟨ps', cs, rfl, gs⟩ := hs.get
  simp only [List.length_map] at gn gi gp gs ⊢
  have GN := Lib.hid gn
  have GI := Lib.hid gi
  have GP := Lib.hid gp
  have GS := Lib.hid gs
  have QN := Lib.hid (show ∀ k, (eN (ns.take k)).length ≤ 16777216 from fun k => by have := eN_len (ns.take k); have : (ns.take k).length ≤ 1048576 := by { rw [List.length_take]; omega }; omega)
  have QI := Lib.hid (show ∀ k, (eI (is.take k)).length ≤ 10485760 from fun k => by have := eI_len (is.take k); have : (is.take k).length ≤ 1048576 := by { rw [List.length_take]; omega }; omega)
  have QP := Lib.hid (show ∀ k, (eP (ps.take k)).length ≤ 1099522113536 from fun k => by have := eP_len (ps.take k) (fun x hx => SP.out x (List.mem_of_mem_take hx)); have : (ps.take k).length ≤ 1048576 := by { rw [List.length_take]; omega }; omega)
  have QS := Lib.hid (show ∀ k, (eS (ss.take k)).length ≤ 1099522113536 from fun k => by have := eS_len (ss.take k) (fun x hx => SS.out x (List.mem_of_mem_take hx)); have : (ss.take k).length ≤ 1048576 := by { rw [List.length_take]; omega }; omega)
  have bp1 := bp.1
  have bs1 := bs.1
  clear hT hn hi hp hs gn gi gp gs bp bs
  go_enter Tryd.func5, Tryd.ntmps5
  go_wp2_with fail
  refine (awake_law _ HT.out).mono ?_
  rintro e w1 ⟨rfl, hb1⟩
  have B1 := Lib.hid hb1
  clear hb1
  go_wp2_with fail
  go_loopw [9, 11, 31] (fun v _ i wn => ∃ k : Nat, i = .int .i64 k ∧ k ≤ ns.length ∧ Rd wn v (eN (ns.take k)) ∧ Below W.heap.size W wn) (fun _ _ i _ => ns.length - (intOf i).toNat)
  case atStart => exact ⟨0, rfl, Nat.zero_le _, Rd.nil _, B1.out⟩
  case round =>
    obtain ⟨k, rfl, hk, hr, hb⟩ := hrel
    have HR := Lib.hid hr
    have HB := Lib.hid hb
    clear hr hb
    by_cases hlt : k < ns.length
    · obtain ⟨b, off, rfl, hx⟩ := GN.out _ HB.out k (by simpa using hlt)
      have hm : ns[k] ∈ ns := List.getElem_mem _
      have EN := Lib.hid (show eN (ns.take (k + 1)) = (eN (ns.take k)) ++ (gr ns[k] ++ (lo 2 (ns[k] % 65536) ++ lo 4 (ns[k] % 4294967296))) from by rw [eN_next hlt])
      simp only [List.getElem_map] at hx
      obtain ⟨x, ex⟩ : ∃ x, ns[k] = x := ⟨_, rfl⟩
      rw [ex] at hx hm EN
      have FX := Lib.hid (FN.out x hm)
      obtain ⟨y, ey⟩ : ∃ y, x % 65536 = y := ⟨_, rfl⟩
      obtain ⟨z, ez⟩ : ∃ z, x % 4294967296 = z := ⟨_, rfl⟩
      rw [ey, ez] at EN
      have hy : y < 65536 := by omega
      have hz : z < 4294967296 := by omega
      have HY := Lib.hid hy
      have HZ := Lib.hid hz
      have f1 : IntKind.u16.wrap (x : Int) = y := by rw [IntKind.wrap_u16]; omega
      have f2 : IntKind.u32.wrap (x : Int) = z := by rw [IntKind.wrap_u32']; omega
      have Q1 := Lib.hid (show (eN (ns.take k)).length ≤ 281474976710000 by have := QN.out k; omega)
      have Q2 := Lib.hid (show (eN (ns.take k) ++ gr x).length ≤ 281474976710000 by have := QN.out k; have := gr_len x; rw [List.length_append]; omega)
      have Q3 := Lib.hid (show (eN (ns.take k) ++ gr x ++ lo 2 y).length ≤ 281474976710000 by have := QN.out k; have := gr_len x; rw [List.length_append, List.length_append, lo_len]; omega)
      clear ex ey ez hm hy hz
      go_wp2_with fail
      refine (putUint_pro _ _ x _ HR.out Q1.out FX.out).mono ?_
      rintro e w3 ⟨v3, rfl, ho, hb⟩
      have R3 := Lib.hid (Rd.own ho)
      have B3 := Lib.hid (HB.out.trans (hb.mono HB.out.size))
      clear ho hb
      go_wp2_with fail
      refine (put16_pro _ _ y _ R3.out Q2.out HY.out).mono ?_
      rintro e w4 ⟨v4, rfl, ho, hb⟩
      have R4 := Lib.hid (Rd.own ho)
      have B4 := Lib.hid (B3.out.trans (hb.mono B3.out.size))
      clear ho hb
      go_wp2_with fail
      refine (put32_pro _ _ z _ R4.out Q3.out HZ.out).mono ?_
      rintro e w5 ⟨v5, rfl, ho, hb⟩
      have R5 := Lib.hid (Rd.own ho)
      have B5 := Lib.hid (B4.out.trans (hb.mono B4.out.size))
      clear ho hb
      go_wp2_with fail
      go_roundw
      case rel => exact ⟨k + 1, by go_num, by omega, by rw [EN.out, ← List.append_assoc, ← List.append_assoc]; exact R5.out, B5.out⟩
      case measure => simp [intOf]; omega
    · obtain rfl : k = ns.length := by omega
      have HR2 := Lib.hid (show Rd _ _ (eN ns) by have := HR.out; rw [List.take_length] at this; exact this)
      clear HR
      go_wp2_with fail
      go_loopw [9, 13, 47] (fun v _ i wi => ∃ k : Nat, i = .int .i64 k ∧ k ≤ is.length ∧ Rd wi v (eN ns ++ eI (is.take k)) ∧ Below W.heap.size W wi) (fun _ _ i _ => is.length - (intOf i).toNat)
      case atStart => exact ⟨0, rfl, Nat.zero_le _, by rw [List.take_zero, eI_nil, List.append_nil]; exact HR2.out, HB.out⟩
      case round =>
        obtain ⟨k, rfl, hk, hr, hb⟩ := hrel
        have HR := Lib.hid hr
        have HB := Lib.hid hb
        clear hr hb
        by_cases hlt : k < is.length
        · obtain ⟨b, off, rfl, hx⟩ := GI.out _ HB.out k (by simpa using hlt)
          have hm : is[k] ∈ is := List.getElem_mem _
          have EN := Lib.hid (show eN ns ++ eI (is.take (k + 1)) = (eN ns ++ eI (is.take k)) ++ gr (zz is[k]) from by rw [eI_next hlt]; simp only [List.append_assoc])
          simp only [List.getElem_map] at hx
          obtain ⟨x, ex⟩ : ∃ x, is[k] = x := ⟨_, rfl⟩
          rw [ex] at hx hm EN
          have FX := Lib.hid (FI.out x hm)
          have Q1 := Lib.hid (show (eN ns ++ eI (is.take k)).length ≤ 281474976710000 by have := QN.out ns.length; rw [List.take_length] at this; have := QI.out k; rw [List.length_append]; omega)
          clear ex hm
          go_wp2_with fail
          refine (putInt_pro _ _ x _ HR.out Q1.out FX.out).mono ?_
          rintro e w3 ⟨v3, rfl, ho, hb⟩
          have R3 := Lib.hid (Rd.own ho)
          have B3 := Lib.hid (HB.out.trans (hb.mono HB.out.size))
          clear ho hb
          go_wp2_with fail
          go_roundw
          case rel => exact ⟨k + 1, by go_num, by omega, by rw [EN.out]; exact R3.out, B3.out⟩
          case measure => simp [intOf]; omega
        · obtain rfl : k = is.length := by omega
          have HR2 := Lib.hid (show Rd _ _ (eN ns ++ eI is) by have := HR.out; rw [List.take_length] at this; exact this)
          clear HR
          go_wp2_with fail
          go_loopw [9, 15, 57] (fun v _ i wp => ∃ k : Nat, i = .int .i64 k ∧ k ≤ ps.length ∧ Rd wp v (eN ns ++ eI is ++ eP (ps.take k)) ∧ Below W.heap.size W wp) (fun _ _ i _ => ps.length - (intOf i).toNat)
          case atStart => exact ⟨0, rfl, Nat.zero_le _, by rw [List.take_zero, eP_nil, List.append_nil]; exact HR2.out, HB.out⟩
          case round =>
            obtain ⟨k, rfl, hk, hr, hb⟩ := hrel
            have HR := Lib.hid hr
            have HB := Lib.hid hb
            clear hr hb
            by_cases hlt : k < ps.length
            · obtain ⟨b, off, rfl, hx⟩ := GP.out _ HB.out k (by simpa using hlt)
              have hm : ps[k] ∈ ps := List.getElem_mem _
              have EN := Lib.hid (show eN ns ++ eI is ++ eP (ps.take (k + 1)) = (eN ns ++ eI is ++ eP (ps.take k)) ++ pb ps[k].2 from by rw [eP_next hlt]; simp only [List.append_assoc])
              simp only [List.getElem_map] at hx
              obtain ⟨x, ex⟩ : ∃ x, ps[k] = x := ⟨_, rfl⟩
              rw [ex] at hx hm EN
              have FX := Lib.hid ((FP.out x hm).below HB.out)
              obtain ⟨px, cx, ef, _⟩ := FX.out.form
              rw [ef] at hx FX
              have SX := SP.out x hm
              have T1 := Lib.hid (show x.2.length ≤ 140737488355328 by omega)
              have Q1 := Lib.hid (show (eN ns ++ eI is ++ eP (ps.take k)).length + x.2.length ≤ 281474976710000 by have := QN.out ns.length; rw [List.take_length] at this; have := QI.out is.length; rw [List.take_length] at this; have := QP.out k; rw [List.length_append, List.length_append]; omega)
              clear ex hm ef SX
              go_wp2_with fail
              refine (twin_pro _ _ _ FX.out T1.out).mono ?_
              rintro e w2 ⟨v2, rfl, ho, hb⟩
              have R2 := Lib.hid (Rd.own ho)
              have P2 := Lib.hid (HR.out.below hb)
              have B2 := Lib.hid (HB.out.trans (hb.mono HB.out.size))
              clear ho hb
              go_wp2_with fail
              refine (putBytes_pro _ _ _ _ _ P2.out R2.out Q1.out).mono ?_
              rintro e w3 ⟨v3, rfl, ho, hb⟩
              have R3 := Lib.hid (Rd.own ho)
              have B3 := Lib.hid (B2.out.trans (hb.mono B2.out.size))
              clear ho hb
              go_wp2_with fail
              go_roundw
              case rel => exact ⟨k + 1, by go_num, by omega, by rw [EN.out]; exact R3.out, B3.out⟩
              case measure => simp [intOf]; omega
            · obtain rfl : k = ps.length := by omega
              have HR2 := Lib.hid (show Rd _ _ (eN ns ++ eI is ++ eP ps) by have := HR.out; rw [List.take_length] at this; exact this)
              clear HR
              go_wp2_with fail
              go_loopw [9, 17, 68] (fun v _ i ws => ∃ k : Nat, i = .int .i64 k ∧ k ≤ ss.length ∧ Rd ws v (eN ns ++ eI is ++ eP ps ++ eS (ss.take k)) ∧ Below W.heap.size W ws) (fun _ _ i _ => ss.length - (intOf i).toNat)
              case atStart => exact ⟨0, rfl, Nat.zero_le _, by rw [List.take_zero, eS_nil, List.append_nil]; exact HR2.out, HB.out⟩
              case round =>
                obtain ⟨k, rfl, hk, hr, hb⟩ := hrel
                have HR := Lib.hid hr
                have HB := Lib.hid hb
                clear hr hb
                by_cases hlt : k < ss.length
                · obtain ⟨b, off, rfl, hx⟩ := GS.out _ HB.out k (by simpa using hlt)
                  have hm : ss[k] ∈ ss := List.getElem_mem _
                  have EN := Lib.hid (show eN ns ++ eI is ++ eP ps ++ eS (ss.take (k + 1)) = (eN ns ++ eI is ++ eP ps ++ eS (ss.take k)) ++ pb ss[k].data.toList from by rw [eS_next hlt]; simp only [List.append_assoc])
                  simp only [List.getElem_map] at hx
                  obtain ⟨x, ex⟩ : ∃ x, ss[k] = x := ⟨_, rfl⟩
                  rw [ex] at hx hm EN
                  have SX := SS.out x hm
                  have Q1 := Lib.hid (show (eN ns ++ eI is ++ eP ps ++ eS (ss.take k)).length + x.size ≤ 281474976710000 by have := QN.out ns.length; rw [List.take_length] at this; have := QI.out is.length; rw [List.take_length] at this; have := QP.out ps.length; rw [List.take_length] at this; have := QS.out k; rw [List.length_append, List.length_append, List.length_append]; omega)
                  clear ex hm SX
                  go_wp2_with fail
                  refine (putText_pro _ _ _ _ HR.out Q1.out).mono ?_
                  rintro e w3 ⟨v3, rfl, ho, hb⟩
                  have R3 := Lib.hid (Rd.own ho)
                  have B3 := Lib.hid (HB.out.trans (hb.mono HB.out.size))
                  clear ho hb
                  go_wp2_with fail
                  go_roundw
                  case rel => exact ⟨k + 1, by go_num, by omega, by rw [EN.out]; exact R3.out, B3.out⟩
                  case measure => simp [intOf]; omega
                · obtain rfl : k = ss.length := by omega
                  have HR2 := Lib.hid (show Rd _ _ (eN ns ++ eI is ++ eP ps ++ eS ss) by have := HR.out; rw [List.take_length] at this; exact this)
                  clear HR
                  go_wp2_with fail
                  obtain ⟨T, eT⟩ : ∃ T, eN ns ++ eI is ++ eP ps ++ eS ss = T := ⟨_, rfl⟩
                  have LT := Lib.hid (show T.length ≤ 281474976710656 by
                    rw [← eT]
                    have h1 := QN.out ns.length; have h2 := QI.out is.length; have h3 := QP.out ps.length; have h4 := QS.out ss.length
                    rw [List.take_length] at h1 h2 h3 h4
                    rw [List.length_append, List.length_append, List.length_append]; omega)
                  have ET := Lib.hid (show T.drop 0 = eN (ns.drop 0) ++ (eI is ++ (eP ps ++ eS ss)) by rw [← eT]; simp)
                  rw [eT] at HR2
                  clear eT QN QI QP QS
                  refine (new_pro T _ _ HR2.out LT.out).mono ?_
                  rintro e w2 ⟨g, rfl, hg, hc, hb⟩
                  have GE := Lib.hid (Nat.le_trans HB.out.size hg)
                  have C2 := Lib.hid hc
                  have B2 := Lib.hid (HB.out.trans (hb.mono HB.out.size))
                  clear hg hc hb HR2 LT
                  go_wp2_with fail
                  go_loopw [20, 80] (fun _ i wr => ∃ k p : Nat, i = .int .i64 k ∧ k ≤ ns.length ∧ Cur wr g T p 0 ∧ T.drop p = eN (ns.drop k) ++ (eI is ++ (eP ps ++ eS ss)) ∧ Below W.heap.size W wr) (fun _ i _ => ns.length - (intOf i).toNat)
                  case atStart => exact ⟨0, 0, rfl, Nat.zero_le _, C2.out, ET.out, B2.out⟩
                  case round =>
                    obtain ⟨k, p, rfl, hk, hc, hd, hb⟩ := hrel
                    have HC := Lib.hid hc
                    have HD := Lib.hid hd
                    have HB := Lib.hid hb
                    clear hc hd hb
                    by_cases hlt : k < ns.length
                    · obtain ⟨b, off, rfl, hx⟩ := GN.out _ HB.out k (by simpa using hlt)
                      simp only [List.getElem_map] at hx
                      have hm : ns[k] ∈ ns := List.getElem_mem _
                      have hd : T.drop p = (gr ns[k] ++ (lo 2 (ns[k] % 65536) ++ lo 4 (ns[k] % 4294967296))) ++ eN (ns.drop (k + 1)) ++ (eI is ++ (eP ps ++ eS ss)) := by
                        rw [HD.out, eN_drop hlt]
                      obtain ⟨x, ex⟩ : ∃ x, ns[k] = x := ⟨_, rfl⟩
                      rw [ex] at hx hm hd
                      have FX := FN.out x hm
                      obtain ⟨y, ey⟩ : ∃ y, x % 65536 = y := ⟨_, rfl⟩
                      obtain ⟨z, ez⟩ : ∃ z, x % 4294967296 = z := ⟨_, rfl⟩
                      rw [ey, ez] at hd
                      have f1 : IntKind.u16.wrap (x : Int) = y := by rw [IntKind.wrap_u16]; omega
                      have f2 : IntKind.u32.wrap (x : Int) = z := by rw [IntKind.wrap_u32']; omega
                      obtain ⟨R, eR⟩ : ∃ R, eN (ns.drop (k + 1)) ++ (eI is ++ (eP ps ++ eS ss)) = R := ⟨_, rfl⟩
                      have ER := Lib.hid eR
                      rw [List.append_assoc, List.append_assoc, List.append_assoc, eR] at hd
                      obtain ⟨u1, u2, u3, u4⟩ := at_num hd (cur_len HC.out).1 FX
                      obtain ⟨t1, t2, t3, t4⟩ := at_drop u3 u4
                      rw [lo_len] at t1 t2 t3 t4
                      obtain ⟨s1, s2, s3, s4⟩ := at_drop t3 t4
                      rw [lo_len] at s1 s2 s3 s4
                      have t1' : pout T (p + (gr x).length, 0) 2 = lo 2 y := t1
                      have t2' : pst T (p + (gr x).length, 0) 2 = (p + (gr x).length + 2, 0) := t2
                      have s1' : pout T (p + (gr x).length + 2, 0) 4 = lo 4 z := s1
                      have s2' : pst T (p + (gr x).length + 2, 0) 4 = (p + (gr x).length + 2 + 4, 0) := s2
                      have l1 : le (lo 2 y) = y := by rw [le_lo]; omega
                      have l2 : le (lo 4 z) = z := by rw [le_lo]; omega
                      have U1 := Lib.hid u1
                      have U2 := Lib.hid u2
                      have T1 := Lib.hid (show le (pout T (p + (gr x).length, 0) 2) = y by rw [t1', l1])
                      have T2 := Lib.hid t2'
                      have S1 := Lib.hid (show le (pout T (p + (gr x).length + 2, 0) 4) = z by rw [s1', l2])
                      have S2 := Lib.hid s2'
                      have S3 := Lib.hid (show T.drop (p + (gr x).length + 2 + 4) = eN (ns.drop (k + 1)) ++ (eI is ++ (eP ps ++ eS ss)) by rw [s3, ER.out])
                      clear ex ey ez hd hm u1 u2 u3 u4 t1 t2 t3 t4 s1 s2 s3 s4 t1' t2' s1' s2' l1 l2 FX eR ER
                      go_wp2_with fail
                      refine (uint_pro g T (p, 0) _ HC.out).mono ?_
                      rw [U1.out, U2.out]
                      rintro e w3 ⟨rfl, hc, hg⟩
                      have C3 := Lib.hid hc
                      have B3 := Lib.hid (HB.out.grown hg HB.out.size (fun k hk => by cases hk; exact GE.out))
                      clear hc hg
                      go_wp2_with fail
                      refine (take16_pro g T (p + (gr x).length, 0) _ C3.out).mono ?_
                      rw [T1.out, T2.out]
                      rintro e w4 ⟨rfl, hc, hg⟩
                      have C4 := Lib.hid hc
                      have B4 := Lib.hid (B3.out.grown hg B3.out.size (fun k hk => by cases hk; exact GE.out))
                      clear hc hg
                      go_wp2_with fail
                      refine (take32_pro g T (p + (gr x).length + 2, 0) _ C4.out).mono ?_
                      rw [S1.out, S2.out]
                      rintro e w5 ⟨rfl, hc, hg⟩
                      have C5 := Lib.hid hc
                      have B5 := Lib.hid (B4.out.grown hg B4.out.size (fun k hk => by cases hk; exact GE.out))
                      clear hc hg
                      go_wp2_with fail
                      go_roundw
                      case rel => exact ⟨k + 1, _, by go_num, by omega, C5.out, S3.out, B5.out⟩
                      case measure => simp [intOf]; omega
                    · obtain rfl : k = ns.length := by omega
                      have HD2 := Lib.hid (show T.drop p = eI (is.drop 0) ++ (eP ps ++ eS ss) by have := HD.out; rw [List.drop_length, eN_nil, List.nil_append] at this; exact this)
                      have HC2 := Lib.hid HC.out
                      clear HD HC C2 ET B2
                      obtain ⟨p0, rfl⟩ : ∃ p0 : Nat, p0 = p := ⟨_, rfl⟩
                      go_wp2_with fail
                      go_loopw [22, 105] (fun _ i wr => ∃ k p : Nat, i = .int .i64 k ∧ k ≤ is.length ∧ Cur wr g T p 0 ∧ T.drop p = eI (is.drop k) ++ (eP ps ++ eS ss) ∧ Below W.heap.size W wr) (fun _ i _ => is.length - (intOf i).toNat)
                      case atStart => exact ⟨0, _, rfl, Nat.zero_le _, HC2.out, HD2.out, HB.out⟩
                      case round =>
                        obtain ⟨k, p, rfl, hk, hc, hd, hb⟩ := hrel
                        have HC := Lib.hid hc
                        have HD := Lib.hid hd
                        have HB := Lib.hid hb
                        clear hc hd hb
                        by_cases hlt : k < is.length
                        · obtain ⟨b, off, rfl, hx⟩ := GI.out _ HB.out k (by simpa using hlt)
                          simp only [List.getElem_map] at hx
                          have hm : is[k] ∈ is := List.getElem_mem _
                          have hd : T.drop p = gr (zz is[k]) ++ (eI (is.drop (k + 1)) ++ (eP ps ++ eS ss)) := by
                            rw [HD.out, eI_drop hlt, List.append_assoc]
                          obtain ⟨x, ex⟩ : ∃ x, is[k] = x := ⟨_, rfl⟩
                          rw [ex] at hx hm hd
                          have FX := FI.out x hm
                          have zx : zz x < 18446744073709551616 := by unfold zz; split <;> omega
                          obtain ⟨u1, u2, u3, u4⟩ := at_num hd (cur_len HC.out).1 zx
                          have U1 := Lib.hid (show unzz (uval T (p, 0)) = x by rw [u1, unzz_zz])
                          have U2 := Lib.hid u2
                          have U3 := Lib.hid u3
                          clear ex hd hm u1 u2 u3 u4 FX zx
                          go_wp2_with fail
                          refine (int_pro g T (p, 0) _ HC.out).mono ?_
                          rw [U1.out, U2.out]
                          rintro e w3 ⟨rfl, hc, hg⟩
                          have C3 := Lib.hid hc
                          have B3 := Lib.hid (HB.out.grown hg HB.out.size (fun k hk => by cases hk; exact GE.out))
                          clear hc hg
                          go_wp2_with fail
                          go_roundw
                          case rel => exact ⟨k + 1, _, by go_num, by omega, C3.out, U3.out, B3.out⟩
                          case measure => simp [intOf]; omega
                        · obtain rfl : k = is.length := by omega
                          have HD2 := Lib.hid (show T.drop p = eP (ps.drop 0) ++ eS ss by have := HD.out; rw [List.drop_length, eI_nil, List.nil_append] at this; exact this)
                          have HC2 := Lib.hid HC.out
                          clear HD HC
                          go_wp2_with fail
                          go_loopw [24, 116] (fun _ i wr => ∃ k p : Nat, i = .int .i64 k ∧ k ≤ ps.length ∧ Cur wr g T p 0 ∧ T.drop p = eP (ps.drop k) ++ eS ss ∧ Below W.heap.size W wr) (fun _ i _ => ps.length - (intOf i).toNat)
                          case atStart => exact ⟨0, _, rfl, Nat.zero_le _, HC2.out, HD2.out, HB.out⟩
                          case round =>
                            obtain ⟨k, p, rfl, hk, hc, hd, hb⟩ := hrel
                            have HC := Lib.hid hc
                            have HD := Lib.hid hd
                            have HB := Lib.hid hb
                            clear hc hd hb
                            by_cases hlt : k < ps.length
                            · obtain ⟨b, off, rfl, hx⟩ := GP.out _ HB.out k (by simpa using hlt)
                              simp only [List.getElem_map] at hx
                              have hm : ps[k] ∈ ps := List.getElem_mem _
                              have hd : T.drop p = gr ps[k].2.length ++ (ps[k].2 ++ (eP (ps.drop (k + 1)) ++ eS ss)) := by
                                rw [HD.out, eP_drop hlt]
                                simp only [pb, List.append_assoc]
                              obtain ⟨x, ex⟩ : ∃ x, ps[k] = x := ⟨_, rfl⟩
                              rw [ex] at hx hm hd
                              have FX := Lib.hid ((FP.out x hm).below HB.out)
                              obtain ⟨px, cx, ef, _⟩ := FX.out.form
                              rw [ef] at hx FX
                              have SX := SP.out x hm
                              have CL := cur_len HC.out
                              obtain ⟨u1, u2, u3, u4⟩ := at_num hd CL.1 (by omega)
                              obtain ⟨t1, t2, t3, t4⟩ := at_drop u3 u4
                              have OB := Lib.hid (show Calls Tryd.prog 37 #[.pointer (some ⟨g, 0, none⟩), .int .i64 (x.2.length : Int)] wr (Copies g T (p + (gr x.2.length).length + x.2.length, 0) x.2 wr) from
                                bytes_of g T (p + (gr x.2.length).length + x.2.length, 0) x.2 _ wr (by
                                  have h := counted_good g T (p, 0) (p + (gr x.2.length).length) x.2.length (x.2.length : Int) wr HC.out (by omega) u2 u1 (by omega) t4
                                  rw [u3, List.take_left] at h
                                  exact h) (by omega))
                              have T3 := Lib.hid t3
                              clear ex hd hm ef SX CL u1 u2 u3 u4 t1 t2 t3 t4
                              go_wp2_with fail
                              refine OB.out.mono ?_
                              rintro e w3 ⟨v3, rfl, ho, hc, hg⟩
                              have O3 := Lib.hid (Rd.own ho)
                              have C3 := Lib.hid hc
                              have F3 := Lib.hid (rd_grown FX.out HC.out hg)
                              have B3 := Lib.hid (HB.out.grown hg HB.out.size (fun k hk => by cases hk; exact GE.out))
                              clear ho hc hg
                              go_wp2_with fail
                              refine (same_pro x.2 x.2 _ _ _ O3.out F3.out).mono ?_
                              rw [beq_self_eq_true]
                              rintro e w4 ⟨rfl, rfl⟩
                              go_wp2_with fail
                              go_roundw
                              case rel => exact ⟨k + 1, _, by go_num, by omega, C3.out, T3.out, B3.out⟩
                              case measure => simp [intOf]; omega
                            · obtain rfl : k = ps.length := by omega
                              have HD2 := Lib.hid (show T.drop p = eS (ss.drop 0) by have := HD.out; rw [List.drop_length, eP_nil, List.nil_append] at this; exact this)
                              have HC2 := Lib.hid HC.out
                              clear HD HC
                              go_wp2_with fail
                              go_loopw [26, 130] (fun _ i wr => ∃ k p : Nat, i = .int .i64 k ∧ k ≤ ss.length ∧ Cur wr g T p 0 ∧ T.drop p = eS (ss.drop k) ∧ Below W.heap.size W wr) (fun _ i _ => ss.length - (intOf i).toNat)
                              case atStart => exact ⟨0, _, rfl, Nat.zero_le _, HC2.out, HD2.out, HB.out⟩
                              case round =>
                                obtain ⟨k, p, rfl, hk, hc, hd, hb⟩ := hrel
                                have HC := Lib.hid hc
                                have HD := Lib.hid hd
                                have HB := Lib.hid hb
                                clear hc hd hb
                                by_cases hlt : k < ss.length
                                · obtain ⟨b, off, rfl, hx⟩ := GS.out _ HB.out k (by simpa using hlt)
                                  simp only [List.getElem_map] at hx
                                  have hm : ss[k] ∈ ss := List.getElem_mem _
                                  have hd : T.drop p = gr ss[k].data.toList.length ++ (ss[k].data.toList ++ eS (ss.drop (k + 1))) := by
                                    rw [HD.out, eS_drop hlt]
                                    simp only [pb, List.append_assoc]
                                  obtain ⟨x, ex⟩ : ∃ x, ss[k] = x := ⟨_, rfl⟩
                                  rw [ex] at hx hm hd
                                  have SX := SS.out x hm
                                  have hz : x.data.toList.length = x.size := by rw [Array.length_toList]; rfl
                                  have CL := cur_len HC.out
                                  obtain ⟨u1, u2, u3, u4⟩ := at_num hd CL.1 (by omega)
                                  obtain ⟨t1, t2, t3, t4⟩ := at_drop u3 u4
                                  have MS := Lib.hid (show x.size ≤ 16777216 by omega)
                                  have MB := Lib.hid (may_ref x wr MS.out)
                                  have T3 := Lib.hid t3
                                  rw [hz] at u1 u2 u3 t4 T3 hd
                                  have CG := Lib.hid (fun (w3 : World) (h : Cur w3 g T p 0) => by
                                    have h := counted_good g T (p, 0) (p + (gr x.size).length) x.size (x.size : Int) w3 h (by omega) u2 u1 (by omega) t4
                                    rw [u3, show (x.data.toList ++ eS (ss.drop (k + 1))).take x.size = x.data.toList by rw [← hz]; exact List.take_left] at h
                                    exact h)
                                  have TA := Lib.hid (show ∀ w3, Below W.heap.size W w3 → Tabs w3 from fun w3 h => HT.out.at h)
                                  have SL := Lib.hid (show x.data.toList.length ≤ 16777216 by omega)
                                  cases hmay : may x
                                  · have MF := Lib.hid hmay
                                    clear ex hd hm SX CL hz u1 u2 u3 u4 t1 t2 t3 t4 hmay
                                    go_wp2_with fail
                                    refine MB.out.mono ?_
                                    rw [MF.out]
                                    rintro e w3 ⟨rfl, hb⟩
                                    have C3 := Lib.hid (HC.out.below hb)
                                    have B3 := Lib.hid (HB.out.trans (hb.mono HB.out.size))
                                    clear hb
                                    go_wp2_with fail
                                    refine (text_not g T (p, 0) _ _ _ _ C3.out (CG.out _ C3.out) SL.out (fun w4 hg => TA.out w4 (B3.out.grown hg B3.out.size (fun k hk => by cases hk; exact GE.out))) (by rw [byte_eq]; exact MF.out)).mono ?_
                                    rintro e w4 ⟨rfl, hc, hg⟩
                                    have C4 := Lib.hid hc
                                    have B4 := Lib.hid (B3.out.grown hg B3.out.size (fun k hk => by cases hk; exact GE.out))
                                    clear hc hg
                                    go_wp2_with fail
                                    refine (err_pro g T p 32 _ C4.out).mono ?_
                                    rintro e w5 ⟨rfl, rfl⟩
                                    go_wp2_with fail
                                    go_ret
                                    exact ⟨rfl, B4.out⟩
                                  · have MF := Lib.hid hmay
                                    clear ex hd hm SX CL hz u1 u2 u3 u4 t1 t2 t3 t4 hmay
                                    go_wp2_with fail
                                    refine MB.out.mono ?_
                                    rw [MF.out]
                                    rintro e w3 ⟨rfl, hb⟩
                                    have C3 := Lib.hid (HC.out.below hb)
                                    have B3 := Lib.hid (HB.out.trans (hb.mono HB.out.size))
                                    clear hb
                                    go_wp2_with fail
                                    refine (text_may g T (p, 0) _ _ _ _ C3.out (CG.out _ C3.out) SL.out (fun w4 hg => TA.out w4 (B3.out.grown hg B3.out.size (fun k hk => by cases hk; exact GE.out))) (by rw [byte_eq]; exact MF.out)).mono ?_
                                    rw [byte_eq]
                                    rintro e w4 ⟨rfl, hc, hg⟩
                                    have C4 := Lib.hid hc
                                    have B4 := Lib.hid (B3.out.grown hg B3.out.size (fun k hk => by cases hk; exact GE.out))
                                    clear hc hg
                                    go_wp2_with fail
                                    go_roundw
                                    case rel => exact ⟨k + 1, _, by go_num, by omega, C4.out, T3.out, B4.out⟩
                                    case measure => simp [intOf]; omega
                                · obtain rfl : k = ss.length := by omega
                                  have HL := Lib.hid (show T.length ≤ p by
                                    have h := HD.out
                                    rw [List.drop_length, eS_nil] at h
                                    have h2 : T.length - p = 0 := by rw [← List.length_drop, h]; rfl
                                    omega)
                                  clear HD
                                  go_wp2_with fail
                                  refine (end_pro g T p 0 _ HC.out).mono ?_
                                  rw [if_neg (fun h => absurd h.2 (by have := HL.out; omega))]
                                  rintro e w3 ⟨rfl, hb⟩
                                  have C3 := Lib.hid (HC.out.below hb)
                                  have B3 := Lib.hid (HB.out.trans (hb.mono HB.out.size))
                                  clear hb
                                  go_wp2_with fail
                                  refine (left_pro g T p 0 _ C3.out).mono ?_
                                  rw [show T.length - p = 0 by have := HL.out; omega]
                                  rintro e w4 ⟨rfl, hb⟩
                                  have B4 := Lib.hid (B3.out.trans (hb.mono B3.out.size))
                                  clear hb
                                  go_wp2_with fail
                                  go_ret
                                  exact ⟨rfl, B4.out⟩

set_option maxRecDepth 100000 in
theorem contract (H : Type) (enc : TypeId × Value → H) (W : World) (base : Nat) (args : Array Value) (ds gs : List (DataW H)) (before : List MemPlace)
    (hval : ∀ (j : Nat) t v, Tryd.f5.params[j]? = some t → args[j]? = some v → Value.okWide Tryd.prog W .any base t v)
    (hW : DataW.Whole enc Tryd.prog Tryd.f5.params.toList Rows.octetBackSpec.vars false W args.toList ds gs before) (hk : Rows.uptoSmall H (ds ++ gs) = true) (hT : Tabs W) :
    Calls Tryd.prog 5 args W fun e W' => ∃ v, e = .returned v ∧ Rows.octetBackSpec.post enc Tryd.prog Tryd.f5 false true false false W args v W' := by
  have hW' := hW
  obtain ⟨p, q, hA0, hV, rfl, hfz, hnd⟩ := hW
  have hA : DataW.TrodAll enc Tryd.prog W 0 (fun _ => true) true Tryd.f5.params.toList args.toList ds p := hA0
  rw [Tryd.params5] at hA hval
  obtain ⟨v0, vs0, d0, ds0, p0, q0, hargs, rfl, rfl, h0, r0⟩ := trodAll_cons hA
  obtain ⟨v1, vs1, d1, ds1, p1, q1, rfl, rfl, rfl, h1, r1⟩ := trodAll_cons r0
  obtain ⟨v2, vs2, d2, ds2, p2, q2, rfl, rfl, rfl, h2, r2⟩ := trodAll_cons r1
  obtain ⟨v3, vs3, d3, ds3, p3, q3, rfl, rfl, rfl, h3, r3⟩ := trodAll_cons r2
  obtain ⟨rfl, rfl, rfl⟩ := trodAll_nil r3
  obtain rfl : args = #[v0, v1, v2, v3] := by cases args; simp_all
  obtain ⟨rfl, rfl⟩ := trodVars_none hV
  have hk0 := h0
  obtain ⟨l0, hR0, hD0⟩ := nums_read h0 (okWide_slice Tryd.underlying58 (hval 0 58 v0 rfl rfl))
  have hk1 := h1
  obtain ⟨l1, hR1, hD1⟩ := ints_read h1 (okWide_slice Tryd.underlying59 (hval 1 59 v1 rfl rfl))
  have hk2 := h2
  obtain ⟨l2, hR2, hD2⟩ := lists_read h2 (okWide_slice Tryd.underlying36 (hval 2 36 v2 rfl rfl))
  have hk3 := h3
  obtain ⟨l3, hR3, hD3⟩ := strs_read h3 (okWide_slice Tryd.underlying60 (hval 3 60 v3 rfl rfl))
  clear hA0
  simp only [List.append_nil] at hk
  have hb0 := of_decide_eq_true hk
  simp only [Rows.uptoBulkAll] at hb0
  have size0 := nums_bulk hD0 (n := 1048576) (by omega)
  have size1 := ints_bulk hD1 (n := 1048576) (by omega)
  have size2 := lists_bulk hD2 (n := 1048576) (by omega)
  have size3 := strs_bulk hD3 (n := 1048576) (by omega)
  refine (walk v0 l0 v1 l1 v2 l2 v3 l3 W hR0 size0 hR1 size1 hR2 size2 hR3 size3 hT).mono fun e W' ⟨he, hg⟩ => ?_
  subst he
  have hlt := hW'.lt
  exact ⟨_, rfl, post_of_below (pa := (p0 ++ (p1 ++ (p2 ++ (p3 ++ []))))) (pv := []) hW' (fun _ _ _ => trodAll_cons_mk (shut_bool Tryd.underlying4 _) trodAll_mk0) (fun sp hsp => (trodAll_cons_mk (Go.WideElems.Trod_stays (by kernel_rfl) (by kernel_rfl) (of_decide_eq_true (by kernel_rfl)) hk0 (fun p hp => hg.same (hlt p (by simp [hp]))) (fun p hp => hsp p (by simp [hp]))) (trodAll_cons_mk (Go.WideElems.Trod_stays (by kernel_rfl) (by kernel_rfl) (of_decide_eq_true (by kernel_rfl)) hk1 (fun p hp => hg.same (hlt p (by simp [hp]))) (fun p hp => hsp p (by simp [hp]))) (trodAll_cons_mk (Go.WideElems.Trod_stays (by kernel_rfl) (by kernel_rfl) (of_decide_eq_true (by kernel_rfl)) hk2 (fun p hp => hg.same (hlt p (by simp [hp]))) (fun p hp => hsp p (by simp [hp]))) (trodAll_cons_mk (Go.WideElems.Trod_stays (by kernel_rfl) (by kernel_rfl) (of_decide_eq_true (by kernel_rfl)) hk3 (fun p hp => hg.same (hlt p (by simp [hp]))) (fun p hp => hsp p (by simp [hp]))) trodAll_mk0))))) (fun _ _ => rfl) rfl hg (ok_one (by kernel_rfl) rfl (okWide_bool_mk Tryd.underlying4 _))⟩

theorem witness_row (os : Os) {H : Type} (enc : TypeId × Value → H) :
    (Rows.OpenSpec.upto Rows.octetBackSpec).preRow enc Tryd.prog Tryd.f5 Rows.octetBackUptoRow.domain false Rows.octetBackUptoRow.laid ((laidWorld os).forCall (fun _ _ => 0) ⟨#[], #[.slice none 0 0, .slice none 0 0, .slice none 0 0, .slice none 0 0], []⟩).memory #[.slice none 0 0, .slice none 0 0, .slice none 0 0, .slice none 0 0] := by
  have hw : (DataW.whole enc Tryd.prog ((laidWorld os).forCall (fun _ _ => 0) ⟨#[], #[.slice none 0 0, .slice none 0 0, .slice none 0 0, .slice none 0 0], []⟩).memory Tryd.f5.params.toList Rows.octetBackSpec.vars false (#[.slice none 0 0, .slice none 0 0, .slice none 0 0, .slice none 0 0] : Array Value).toList 8).map (fun x => (x.1, x.2.1)) =
      some ([.nil, .nil, .nil, .nil], []) := by kernel_rfl
  obtain ⟨⟨x1, x2, x3⟩, hx, hx1⟩ := Option.map_eq_some_iff.1 hw
  simp only [Prod.mk.injEq] at hx1
  obtain ⟨rfl, rfl⟩ := hx1
  exact OpenSpec.preRow_of_cond 8 hx (by kernel_rfl) (fun k hk => by cases hk; kernel_rfl) (by kernel_rfl) (laid_met os _)

set_option maxRecDepth 100000 in
theorem lifted (os : Os) (started : os.Started) (H : Type) (enc : TypeId × Value → H) (F : Stop.Interp) :
    ReturnsInHanded {} Tryd.checked os 5 .any ((Rows.OpenSpec.upto Rows.octetBackSpec).preRow enc Tryd.prog Tryd.f5 Rows.octetBackUptoRow.domain false Rows.octetBackUptoRow.laid) (((Rows.OpenSpec.upto Rows.octetBackSpec).at F).post enc Tryd.prog Tryd.f5 false true false false) := by
  refine returnsInHanded_of_row (C := Tryd.checked) (s := (Rows.OpenSpec.upto Rows.octetBackSpec)) own started (by kernel_rfl) Tryd.func5
    (witness_row_at (enc := enc) (C := Tryd.checked) false (laidWorld os) #[.slice none 0 0, .slice none 0 0, .slice none 0 0, .slice none 0 0] rfl (by kernel_rfl) (by kernel_rfl) (by kernel_rfl) (witness_row os enc)) ?_
  intro W base args ds gs before hval hW _ hcond hsz hL hS _
  exact contract H enc W base args ds gs before hval hW (hcond _ rfl) (tabs_of hL)

theorem row : Rows.OctetBackUptoSaid :=
  OpenClaim.holds_of_cond 5 Tryd.f5 rfl rfl rfl rfl rfl rfl rfl ⟨rfl, rfl, rfl, rfl, rfl⟩ rfl rfl rfl rfl rfl (by kernel_rfl) Tryd.func5 (by kernel_rfl)
    (of_decide_eq_true (by kernel_rfl)) (by unfold Func.isWrapper; first | (rw [if_pos (by decide +kernel)]; kernel_rfl) | (rw [if_neg (by decide +kernel)]; exact ⟨rfl, rfl⟩))
    (fun os started H enc _ F => by rw [OpenClaim.pre_eq_preRow]; exact lifted os started H enc F)

theorem plain (f : FuncId) (fn : Func) (hf : Tryd.pinned.checked.prog.funcNamed Rows.octetBackUptoRow.func = some f) (hfn : Tryd.pinned.checked.prog.funcs[f]? = some fn) :
    false = Tryd.pinned.checked.prog.looks [] ∧ ∀ (j : Nat) t, fn.params[j]? = some t → Tryd.pinned.checked.prog.wantsStandIn t = false := by
  obtain rfl : f = 5 := Option.some.inj ((show Tryd.prog.funcNamed Rows.octetBackUptoRow.func = some 5 by kernel_rfl).symm.trans hf) |>.symm
  obtain rfl : fn = Tryd.f5 := (Option.some.inj (Tryd.func5.symm.trans hfn)).symm
  refine ⟨by kernel_rfl, fun j t ht => ?_⟩
  rw [Tryd.params5] at ht
  have hm : t ∈ [58, 59, 36, 60] := by simpa using Array.mem_of_getElem? ht
  simp only [List.mem_cons, List.mem_nil_iff, or_false] at hm
  rcases hm with rfl | rfl | rfl | rfl
  · exact (show Tryd.prog.wantsStandIn 58 = false by kernel_rfl)
  · exact (show Tryd.prog.wantsStandIn 59 = false by kernel_rfl)
  · exact (show Tryd.prog.wantsStandIn 36 = false by kernel_rfl)
  · exact (show Tryd.prog.wantsStandIn 60 = false by kernel_rfl)

theorem proved : Rows.OctetBackUptoCardSaid :=
  Claim7.holds_tied_plain_at .later [] _ _ _ _ row (fun _ h => by cases h) (by kernel_rfl) (fun _ h => by cases h) octetBackUpto_row_tie rfl ⟨rfl, rfl⟩ (by kernel_rfl) rfl plain (by kernel_rfl)
end Go.Proofs.YtcgeldmbndaocaaDoor.octetBack
