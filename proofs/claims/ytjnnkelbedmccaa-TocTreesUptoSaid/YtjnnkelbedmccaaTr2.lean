/- Layer 10: the program's Tree. -/
import Derived.Test.YtjnnkelbedmccaaTr1
namespace Go.Proofs.Ytjnnkelbedmccaa
open Go.RowKit Go.Maps
set_option linter.unusedVariables false
/-- The error that tells this fault: nil, if it is none. -/
def ErrOf (f : Flt) (w : World) (ev : Value) : Prop := (f.code = 0 ∧ ev = .nilIface) ∨ (f.code ≠ 0 ∧ ∃ g, ev = errV g ∧ Erd w g f)
def TreeIs (ln : Int) (nm : ByteArray) (ll : List (List Int)) (w : World) (e : Ending) (w' : World) : Prop :=
  ∃ v ev, e = .returned (.tuple #[v, ev]) ∧ RdE w' v (outT ll) ∧ ErrOf (wrT ln nm ll) w' ev ∧ Below w.heap.size w w'
theorem rdE_nil (w : World) : RdE w (.slice none 0 0) [] := ⟨none, 0, rfl, Nat.le_refl _, by decide, (fun s hs => by cases hs), fun j hj => absurd hj (by simp)⟩
set_option maxRecDepth 100000 in
set_option maxHeartbeats 4000000 in
theorem tree_pro (ln : Int) (nm : ByteArray) (ll : List (List Int)) (v : Value) (w : World) (h : RdSs ln nm w v ll) (hm : cntL ll ≤ 1048576) (hl : ll.length ≤ 1048576) :
    Calls Try.prog 9 #[v] w (TreeIs ln nm ll w) := by
  obtain ⟨i0, hi0, hz0, hz1, hz2⟩ := info_parts infoE
  have HQ := Lib.hid (count_pro ln nm ll v w h hm hl)
  obtain ⟨pa, cap, rfl⟩ := h.form
  have HR := Lib.hid h
  have HL := Lib.hid hl
  obtain ⟨n, hn⟩ : ∃ n, ll.length = n := ⟨_, rfl⟩
  have HN := Lib.hid hn
  obtain ⟨c, hc⟩ : ∃ c, cntL ll = c := ⟨_, rfl⟩
  have HC := Lib.hid hc
  rw [hc, hn] at HQ
  rw [hn] at HR HL ⊢
  clear h hl hm hn hc
  by_cases hlong : 1000 < c
  · have hp : (1000 : Int) < c := by omega
    have HT := Lib.hid (tree_long (ll := ll) (by rw [HC.out]; exact hlong) ln nm)
    clear hlong
    go_enter Try.func9, Try.ntmps9
    go_wp2_with fail
    refine HQ.out.mono ?_
    rintro e w1 ⟨rfl, hb⟩
    have HB := Lib.hid hb
    clear hb
    go_wp2_with fail
    refine (fault_code 2 (by decide) w1).mono ?_
    rintro e w2 ⟨⟨g, hg, rfl, hE⟩, hb⟩
    have HB2 := Lib.hid (HB.out.trans (hb.mono HB.out.size))
    have HE := Lib.hid hE
    clear hb hE hg
    unfold errV
    go_wp2_with fail
    go_ret2
    exact ⟨_, _, rfl, by rw [HT.out.2]; exact rdE_nil _, by rw [HT.out.1]; exact .inr ⟨by decide, g, rfl, HE.out⟩, HB2.out⟩
  · have hp : ¬ ((1000 : Int) < c) := by omega
    have HS := Lib.hid (show c ≤ 1000 by omega)
    clear hlong
    go_enter Try.func9, Try.ntmps9
    go_wp2_with fail
    refine HQ.out.mono ?_
    rintro e w1 ⟨rfl, hb⟩
    have HB := Lib.hid hb
    have HR1 := Lib.hid (HR.out.below hb)
    clear hb HR HQ
    go_wp2_with fail
    go_loopw [4, 5, 6, 17] (fun s4 s5 s6 s17 wr => ∃ (i t : Nat) (o : List Ent), s17 = .int .i64 (i : Nat) ∧ i ≤ n ∧ s5 = .int .i64 (t : Nat) ∧ s6 = .int .i64 (ahd o o.length) ∧ Hid (trT (flT ll i) = some (o, t)) ∧ Hid (wr.ownsRow w1.heap.size 67 2 s4 o.length (rowsE o)) ∧ Hid (Below w1.heap.size w1 wr)) (fun _ _ _ s _ => n - (intOf s).toNat)
    case atStart => exact ⟨0, 0, [], rfl, Nat.zero_le _, rfl, rfl, Lib.hid rfl, Lib.hid (World.ownsRow_nil _ _ _ _), Lib.hid (Below.refl _ _)⟩
    case round =>
      obtain ⟨i, t, o, rfl, hi, rfl, rfl, HT, HO, HBr⟩ := hrel
      obtain ⟨pv, cv, hvv⟩ := lenL HO.out
      subst hvv
      obtain ⟨a, ha⟩ : ∃ a, ahd o o.length = a := ⟨_, rfl⟩
      have HAH := Lib.hid ha
      rw [ha]
      obtain ⟨q, hq⟩ : ∃ q, o.length = q := ⟨_, rfl⟩
      have HOL := Lib.hid hq
      rw [hq] at HO ⊢
      clear ha hq
      have hl9 := HL.out
      by_cases hlt : i < n
      · have hil : i < ll.length := by rw [HN.out]; exact hlt
        obtain ⟨b, off, pt, ct, rfl, c1, c2, ht⟩ := HR1.out.cell hil
        replace c1 := (HBr.out.cell (p := ⟨b, off + i * 2, none⟩) (cellInL c1)).trans c1
        replace c2 := (HBr.out.cell (p := ⟨b, off + i * 2 + 1, none⟩) (cellInL c2)).trans c2
        obtain ⟨zs, hzs⟩ : ∃ zs, ll[i] = zs := ⟨_, rfl⟩
        rw [hzs] at c2 ht
        have HFS := Lib.hid (show flT ll (i + 1) = flT ll i ++ zs by rw [flT_succ hil, hzs])
        have HIN := Lib.hid (show ∀ k, k ≤ zs.length → (flT ll i).length + k ≤ c from fun k hk => by rw [← HC.out]; exact flT_in hil (by rw [hzs]; exact hk))
        have HTS := Lib.hid ht
        obtain ⟨m, hm⟩ : ∃ m, zs.length = m := ⟨_, rfl⟩
        have HM := Lib.hid hm
        rw [hm] at c2 HTS HIN
        have hm9 : m ≤ 1000 := by have := HIN.out m (Nat.le_refl _); have := HS.out; omega
        have hi1 : (i : Int) < n := by omega
        have hi9 : i ≤ 1048576 := by omega
        have HLT := Lib.hid hlt
        have HIL := Lib.hid hil
        obtain ⟨wo, rfl⟩ : ∃ wo : World, wo = wr := ⟨_, rfl⟩
        have hal : Below wo.heap.size wo (wo.alloc (.cells #[.slice none 0 0, .slice pt m ct] 27)) := (Below.refl _ _).alloc (Nat.le_refl _) _
        have cB1 : (wo.alloc (.cells #[.slice none 0 0, .slice pt m ct] 27)).cell? ⟨wo.heap.size, 1, none⟩ = some (.slice pt m ct) := by simp
        have HO2 := Lib.hid (HO.out.alloc (.cells #[.slice none 0 0, .slice pt m ct] 27))
        have HB2 := Lib.hid (HBr.out.alloc HBr.out.size (.cells #[.slice none 0 0, .slice pt m ct] 27))
        clear hlt hil hzs hm ht hal HBr
        go_wp2_with fail
        obtain ⟨W0, hW0⟩ : ∃ W0, wo.alloc (.cells #[.slice none 0 0, .slice pt m ct] 27) = W0 := ⟨_, rfl⟩
        rw [hW0] at HO2 HB2 cB1 ⊢
        clear hW0 c1 c2 HO
        go_wp2_with fail
        go_loopw [4, 5, 6, 25] (fun s4 s5 s6 s25 wr => ∃ (k t : Nat) (o : List Ent), s25 = .int .i64 (k : Nat) ∧ k ≤ m ∧ s5 = .int .i64 (t : Nat) ∧ s6 = .int .i64 (ahd o o.length) ∧ Hid (trT (flT ll i ++ zs.take k) = some (o, t)) ∧ Hid (wr.ownsRow w1.heap.size 67 2 s4 o.length (rowsE o)) ∧ Hid (Below w1.heap.size w1 wr) ) (fun _ _ _ s _ => m - (intOf s).toNat)
        case atStart => exact ⟨0, t, o, rfl, Nat.zero_le _, rfl, by rw [HAH.out], Lib.hid (by rw [List.take_zero, List.append_nil]; exact HT.out), by rw [HOL.out]; exact HO2, HB2⟩
        case round =>
          clear HT HO2 HB2 HAH HOL cB1
          obtain ⟨k, t, o, rfl, hk, rfl, rfl, HT, HO, HBr⟩ := hrel
          obtain ⟨pv, cv, hvv⟩ := lenL HO.out
          subst hvv
          have hok := trT_ok HT.out
          obtain ⟨a, ha⟩ : ∃ a, ahd o o.length = a := ⟨_, rfl⟩
          have HAH := Lib.hid ha
          have a0 := hok.lo
          have a8 := hok.hi
          have hfl := hok.len
          have hnum := hok.num
          have hin := HIN.out k hk
          have hcs := HS.out
          have hlf : (flT ll i ++ zs.take k).length = (flT ll i).length + k := by rw [List.length_append, List.length_take, HM.out, Nat.min_eq_left hk]
          rw [hlf] at hfl hnum
          have hqt : o.length ≤ t := by omega
          have ht9 : t ≤ 1000 := by omega
          rw [ha] at a0 a8 ⊢
          obtain ⟨q, hq⟩ : ∃ q, o.length = q := ⟨_, rfl⟩
          have HOL := Lib.hid hq
          have hq9 : q ≤ 1000 := by omega
          have a9 : a ≤ 1000 := by omega
          rw [hq] at HO ⊢
          clear ha hq hok hfl hnum hin hlf hqt hcs
          by_cases hlt : k < m
          · have hkz : k < zs.length := by rw [HM.out]; exact hlt
            obtain ⟨b2, off2, rfl, d0, d1, d2, d3, d4, d5, d6, d7⟩ := (HTS.out.below HBr.out).cell hkz
            have HTK := Lib.hid (show trT (flT ll i ++ zs.take (k + 1)) = stepT (some (o, t)) zs[k] by rw [List.take_succ_eq_append_getElem hkz, ← List.append_assoc, trT_snoc, HT.out])
            obtain ⟨z, hz⟩ : ∃ z, zs[k] = z := ⟨_, rfl⟩
            rw [hz] at d3 HTK
            have hk1 : (k : Int) < m := by omega
            have hk9 : k ≤ 1000 := by omega
            have HLTK := Lib.hid hlt
            obtain ⟨wp, rfl⟩ : ∃ wp : World, wp = wr := ⟨_, rfl⟩
            have hal : Below wp.heap.size wp (wp.alloc (.cells #[.int .i64 0, .string nm, .string .empty, .int .i64 z, .slice none 0 0, .slice none 0 0, .slice none 0 0, .int .i64 ln] 33)) := (Below.refl _ _).alloc (Nat.le_refl _) _
            have HO3 := Lib.hid (HO.out.alloc (.cells #[.int .i64 0, .string nm, .string .empty, .int .i64 z, .slice none 0 0, .slice none 0 0, .slice none 0 0, .int .i64 ln] 33))
            have HB3 := Lib.hid (HBr.out.alloc HBr.out.size (.cells #[.int .i64 0, .string nm, .string .empty, .int .i64 z, .slice none 0 0, .slice none 0 0, .slice none 0 0, .int .i64 ln] 33))
            clear hkz hz hlt hal
            clear HBr
            by_cases hzz : z = 0
            · have t1 : (z != 0) = false := by rw [hzz]; rfl
              have HST := Lib.hid (show trT (flT ll i ++ zs.take (k + 1)) = some (o, t + 1) by rw [HTK.out]; unfold stepT; simp only; rw [if_pos hzz])
              clear hzz
              go_wp2_with fail
              go_roundw
              case measure => have := HLTK.out; first | (simp [intOf]; done) | (simp [intOf]; omega)
              case rel => exact ⟨k + 1, t + 1, o, by go_num, HLTK.out, by go_num, by rw [HAH.out], HST, by rw [HOL.out]; exact HO3, HB3⟩
            · have t1 : (z != 0) = true := by simpa using hzz
              cases hmay : mayB a z with
              | false =>
                have HF := Lib.hid (follow_pro a z (wp.alloc (.cells #[.int .i64 0, .string nm, .string .empty, .int .i64 z, .slice none 0 0, .slice none 0 0, .slice none 0 0, .int .i64 ln] 33)) a0 a9)
                rw [hmay] at HF
                have HRES := Lib.hid (show wrT ln nm ll = ⟨100, (i : Nat), ln, 1, nm⟩ ∧ outT ll = [] by
                  have h9 : trT (flT ll i ++ zs.take (k + 1)) = none := by rw [HTK.out]; unfold stepT; simp only; rw [if_neg hzz, HAH.out, hmay]; rfl
                  obtain ⟨s', h8⟩ := trT_pre HT.out
                  refine tree_bad (by rw [HC.out]; exact HS.out) HIL.out h8 ?_ ln nm
                  rw [HFS.out, ← List.take_append_drop (k + 1) zs, ← List.append_assoc]
                  exact trT_bad _ h9)
                clear hzz hmay
                go_wp2_with fail
                refine HF.out.mono ?_
                rintro e w2 ⟨rfl, rfl⟩
                go_wp2_with fail
                refine (fault_new 100 _ _ 1 nm (by decide) _).mono ?_
                rintro e w3 ⟨⟨g, hg, rfl, hE⟩, hb⟩
                have HBX := Lib.hid (HB3.out.trans (hb.mono HB3.out.size))
                have HE := Lib.hid hE
                clear hb hE hg
                unfold errV
                go_wp2_with fail
                go_ret2
                exact ⟨_, _, rfl, by rw [HRES.out.2]; exact rdE_nil _, by rw [HRES.out.1]; exact .inr ⟨by simp, g, rfl, HE.out⟩, HB.out.trans (HBX.out.mono HB.out.size)⟩
              | true =>
                have HF := Lib.hid (follow_pro a z (wp.alloc (.cells #[.int .i64 0, .string nm, .string .empty, .int .i64 z, .slice none 0 0, .slice none 0 0, .slice none 0 0, .int .i64 ln] 33)) a0 a9)
                rw [hmay] at HF
                have HST := Lib.hid (show trT (flT ll i ++ zs.take (k + 1)) = some (o ++ [⟨(t : Int), z⟩], t + 1) by rw [HTK.out]; unfold stepT; simp only; rw [if_neg hzz, HAH.out, if_pos hmay])
                clear hzz hmay
                go_wp2_with fail
                refine HF.out.mono ?_
                rintro e w2 ⟨rfl, rfl⟩
                have hbx : (wp.alloc (.cells #[.int .i64 0, .string nm, .string .empty, .int .i64 z, .slice none 0 0, .slice none 0 0, .slice none 0 0, .int .i64 ln] 33)).heap[wp.heap.size]? = some (.cells #[.int .i64 0, .string nm, .string .empty, .int .i64 z, .slice none 0 0, .slice none 0 0, .slice none 0 0, .int .i64 ln] 33 (0, 0)) := World.alloc_heap_new _ _
                have hsz : (wp.alloc (.cells #[.int .i64 0, .string nm, .string .empty, .int .i64 z, .slice none 0 0, .slice none 0 0, .slice none 0 0, .int .i64 ln] 33)).heap.size = wp.heap.size + 1 := by simp
                obtain ⟨wB, hwB⟩ : ∃ wB, wp.alloc (.cells #[.int .i64 0, .string nm, .string .empty, .int .i64 z, .slice none 0 0, .slice none 0 0, .slice none 0 0, .int .i64 ln] 33) = wB := ⟨_, rfl⟩
                rw [hwB] at hbx hsz HO3 HB3 HF ⊢
                have cB3 : wB.cell? ⟨wp.heap.size, 3, none⟩ = some (.int .i64 z) := by rw [cell_of_row _ _ _ _ _ _ hbx]; rfl
                have HNE := Lib.hid (show ∀ r, Value.ownBlock (.slice pv q cv) = some r → r ≠ wp.heap.size from fun r e => by have := (own_base HO.out e).2; omega)
                have HBX := Lib.hid hbx
                have HSZ := Lib.hid hsz
                have M1 := Lib.hid (show q + 1 ≤ maxLen by unfold maxLen; omega)
                have M2 := Lib.hid (show (q + 1) * 16 ≤ 140737488355328 by omega)
                have M3 := Lib.hid (show w1.heap.size ≤ (wB.alloc (.cells #[.int .i64 (t : Nat), .int .i64 z] 67)).heap.size by have := HB3.out.size; simp; omega)
                clear hbx hsz hwB d0 d1 d2 d3 d4 d5 d6 d7 HO
                obtain ⟨X, hX⟩ : ∃ X, wp.heap.size = X := ⟨_, rfl⟩
                rw [hX] at cB3 HBX HSZ HNE ⊢
                clear hX
                go_wp2_with (at_builtin; go_loud (refine wpList_append_own_at _ rfl _ _ 34 rfl w1.heap.size 67 i0 (.agg #[.int .i64 0, .int .i64 0]) 2 16 Try.underlying34 hi0 hz0 hz1 hz2 rfl (by decide) _ _ _ rfl (HO3.out.alloc _) ⟨wB.heap.size, 0, none⟩ 1 1 [.int .i64 (t : Nat), .int .i64 z] rfl rfl (cells_newL _ _ _) (by intro u hu; simp at hu; rcases hu with rfl | rfl <;> rfl) M1.out M2.out M3.out ?_); intro v' w3 hown' hgrow _ hat; have HO1 := Lib.hid hown'; have HG1 := Lib.hid hgrow; clear hown' hgrow hat; have hx3 : w3.heap[X]? = some (.cells #[.int .i64 0, .string nm, .string .empty, .int .i64 z, .slice none 0 0, .slice none 0 0, .slice none 0 0, .int .i64 ln] 33 (0, 0)) := (HG1.out.block X (by have := HSZ.out; simp; omega) (fun e => HNE.out X e.symm rfl)).trans ((Below.heap_alloc wB _ X (by have := HSZ.out; omega)).trans HBX.out); have cC3 : w3.cell? ⟨X, 3, none⟩ = some (.int .i64 z) := (by rw [cell_of_row _ _ _ _ _ _ hx3]; rfl); obtain ⟨pw, cw, hvw⟩ := lenL HO1.out; subst hvw; clear hx3 cB3 HBX HF)
                go_roundw
                case measure => have := HLTK.out; first | (simp [intOf]; done) | (simp [intOf]; omega)
                case rel =>
                  refine ⟨k + 1, t + 1, o ++ [⟨(t : Int), z⟩], by go_num, HLTK.out, by go_num, by rw [ahd_snoc], HST, Lib.hid ?_, Lib.hid ((HB3.out.alloc HB3.out.size _).grown HG1.out M3.out (fun r e => (own_base HO3.out e).1))⟩
                  rw [List.length_append, HOL.out, rowsE_snoc]
                  exact HO1.out
          · obtain rfl : k = m := by omega
            have hlz : ¬ ((k : Int) < k) := by omega
            have HTN := Lib.hid (show trT (flT ll (i + 1)) = some (o, t) by rw [HFS.out, ← HT.out, ← HM.out, List.take_length])
            clear hlt
            go_wp2_with fail
            go_roundw
            case measure => have := HLT.out; first | (simp [intOf]; done) | (simp [intOf]; omega)
            case rel => exact ⟨i + 1, t, o, by go_num, HLT.out, rfl, by rw [HAH.out], HTN, by rw [HOL.out]; exact HO, HBr⟩
      · obtain rfl : i = n := by omega
        have hlz : ¬ ((i : Int) < i) := by omega
        have hok := trT_ok HT.out
        have h9 := HT.out
        rw [← HN.out, flT_all] at h9
        have HRES := Lib.hid (tree_good (by rw [HC.out]; exact HS.out) h9 ln nm)
        have hfit := hok.fit (by have h8 := flT_cnt ll i; rw [HC.out] at h8; have := HS.out; omega)
        have HRD := Lib.hid (show RdE wr (.slice pv q cv) o from RdE.own (by rw [HOL.out]; exact HO.out) hfit)
        clear hlt hok h9 hfit
        go_wp2_with fail
        go_ret2
        exact ⟨_, _, rfl, by rw [HRES.out.2]; exact HRD.out, by rw [HRES.out.1]; exact .inl ⟨rfl, rfl⟩, HB.out.trans (HBr.out.mono HB.out.size)⟩
end Go.Proofs.Ytjnnkelbedmccaa
