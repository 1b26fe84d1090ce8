/- The document's names and words. -/
import Derived.Test.YtceanagnkcejgaaGreatDoorDt
import Derived.Test.YtceanagnkcejgaaGreatDoorWp
import Derived.Test.YtceanagnkcejgaaGreatDoorChn
namespace Go.Proofs.YtceanagnkcejgaaGreatDoor
open Go.RowKit
set_option linter.unusedVariables false

/-- The two names of a word, and whether they may be. -/
def nmQ (t : List UInt8) : List UInt8 × List UInt8 × Bool := match t.dropWhile (fun c => !(c == 58)) with
  | [] => (t, [], nameB t)
  | _ :: p => (t.takeWhile (fun c => !(c == 58)), p, nameB (t.takeWhile (fun c => !(c == 58))) && nameB p)
theorem nmQ_is (t : List UInt8) : nmsM t = if (nmQ t).2.2 then some ((nmQ t).1, (nmQ t).2.1) else none := by
  unfold nmsM nmQ
  cases t.dropWhile (fun c => !(c == 58)) with
  | nil => rfl
  | cons c p => rfl
def nmV (p : List UInt8 × List UInt8 × Bool) : Value := .tuple #[.string (bs p.1), .string (bs p.2.1), .bool p.2.2]
theorem nmQ_end {t : List UInt8} (h : (t.all fun c => !(c == 58)) = true) : nmQ t = (t, [], nameB t) := by
  unfold nmQ
  rw [(drop_nil t).2 h]
theorem nmQ_at {t : List UInt8} {k : Nat} (hk : k < t.length) (h : ((t.take k).all fun c => !(c == 58)) = true) (h2 : t[k] = 58) : nmQ t = (t.take k, t.drop (k + 1), nameB (t.take k) && nameB (t.drop (k + 1))) := by
  have e : t = t.take k ++ 58 :: t.drop (k + 1) := by
    rw [← h2, ← List.drop_eq_getElem_cons hk, List.take_append_drop]
  have hc : ∀ c ∈ t.take k, c ≠ 58 := fun c hc => by
    have := List.all_eq_true.1 h c hc
    simpa using this
  have h3 : t.dropWhile (fun c => !(c == 58)) = 58 :: t.drop (k + 1) := by
    conv => lhs; rw [e]
    rw [drop_all hc]
    rfl
  have h4 : t.takeWhile (fun c => !(c == 58)) = t.take k := by
    conv => lhs; rw [e]
    rw [take_all hc]
    simp
  unfold nmQ
  rw [h3, h4]
theorem name_same (l : List UInt8) (hl : l.length ≤ 9223372036854775807) (w : World) : Calls Tryz.prog 32 #[.string (bs l)] w fun e w' => e = .returned (.bool (nameB l)) ∧ w' = w := (name_ref l w hl).mono fun _ _ ⟨h1, h2⟩ => ⟨h1, h2.symm⟩

set_option maxRecDepth 100000 in
set_option maxHeartbeats 2000000 in
theorem names_ref (t : List UInt8) (w : World) (ht : t.length ≤ 4096) :
    Calls Tryz.prog 44 #[.string (bs t)] w (Says (nmV (nmQ t)) w) := by
  have hz := bs_len t
  have b0 : (t.length : Int) ≤ 4096 := by omega
  go_enter Tryz.func44, Tryz.ntmps44
  go_wp2_with fail
  go_loop [5] (fun i => ∃ k : Nat, k ≤ t.length ∧ i = .int .i64 k ∧ Hid (((t.take k).all fun c => !(c == 58)) = true)) (fun i => t.length - (intOf i).toNat)
  case atStart => exact ⟨0, Nat.zero_le _, rfl, rfl⟩
  case round =>
    obtain ⟨k, hk, rfl, HA⟩ := hrel
    by_cases hlt : k < t.length
    · obtain ⟨c, hc⟩ : ∃ c, t[k] = c := ⟨_, rfl⟩
      have hix : ∀ hh, (bs t)[k]'hh = c := fun _ => hc
      have bk0 : 0 ≤ (k : Int) := by omega
      by_cases h58 : c = 58
      · subst h58
        have hq := nmQ_at hlt HA.out hc
        have e1 : (bs t).extract 0 k = bs (t.take k) := by rw [ext_list t 0 k (by omega)]; simp
        have e2 : (bs t).extract (k + 1) t.length = bs (t.drop (k + 1)) := by rw [ext_list t (k + 1) t.length (Nat.le_refl _), List.take_of_length_le (by simp)]
        have n1 := fun w => name_same (t.take k) (by simp; omega) w
        have n2 := fun w => name_same (t.drop (k + 1)) (by simp; omega) w
        rw [← e1] at n1
        rw [← e2] at n2
        have HQ := Lib.hid hq
        have hlt2 : (k : Int) + 1 ≤ t.length := by omega
        obtain ⟨q1, hq1⟩ : ∃ q, nameB (t.take k) = q := ⟨_, rfl⟩
        obtain ⟨q2, hq2⟩ : ∃ q, nameB (t.drop (k + 1)) = q := ⟨_, rfl⟩
        rw [hq1] at n1 HQ
        rw [hq2] at n2 HQ
        have N1 := Lib.hid n1
        have N2 := Lib.hid n2
        have E1 := Lib.hid e1
        have E2 := Lib.hid e2
        clear hq e1 e2 n1 n2 hq1 hq2 hc
        cases q1 with
        | true =>
          go_wp2_with fail
          go_quiet ((go_at_call 32; first | (with_reducible exact Calls.quiet_of_same (N1.out _)) | (with_reducible exact Calls.quiet_of_same (N2.out _))))
          go_wp2_with fail
          go_ret3
          rw [HQ.out]
          refine ⟨?_, below_draws' (Below.refl _ _) _⟩
          rw [E1.out, E2.out]
          rfl
        | false =>
          go_wp2_with fail
          go_quiet ((go_at_call 32; first | (with_reducible exact Calls.quiet_of_same (N1.out _)) | (with_reducible exact Calls.quiet_of_same (N2.out _))))
          go_wp2_with fail
          go_ret3
          rw [HQ.out]
          refine ⟨?_, below_draws' (Below.refl _ _) _⟩
          rw [E1.out, E2.out]
          rfl
      · have t1 : ((c.toNat : Int) == 58) = false := by
          rw [beq_eq_false_iff_ne]
          intro e
          exact h58 (UInt8.toNat_inj.1 (by show c.toNat = 58; omega))
        have HN := Lib.hid (all_take hlt HA.out (show (!(t[k] == 58)) = true by rw [hc]; simpa using h58))
        clear hc
        go_wp2_with fail
        go_round
        case rel => exact ⟨k + 1, by omega, by go_num, HN⟩
        case measure => simp [intOf]; omega
    · have HV := Lib.hid (nmQ_end (t := t) (by have := HA.out; rwa [List.take_of_length_le (by omega)] at this))
      go_wp2_with fail
      refine (name_ref t w (by omega)).mono ?_
      rintro e w1 ⟨rfl, rfl⟩
      go_wp2_with fail
      go_ret3
      rw [HV.out]
      exact ⟨rfl, Below.refl _ _⟩

def pieceL (t : List UInt8) (y : Nat × Nat) : List UInt8 := (t.drop y.1).take (y.2 - y.1)
theorem wrds_none (s : ByteArray) (k b : Nat) : wrds s 0 k b = [] := by simp [wrds]

set_option maxRecDepth 100000 in
set_option maxHeartbeats 4000000 in
theorem words_ref (t : List UInt8) (w : World) (ht : t.length ≤ 4096) :
    Calls Tryz.prog 42 #[.string (bs t)] w fun e w' => ∃ v, e = .returned v ∧ RdS w' v (wordsL t) ∧ Below w.heap.size w w' := by
  obtain ⟨i0, hi0, hz0, hz1, hz2⟩ := info_parts infoStr
  have AG := Lib.hid (show (Value.string .empty).cells.size = 1 from rfl)
  have hz := bs_len t
  have b0 : (t.length : Int) ≤ 4096 := by omega
  have HT := Lib.hid ht
  clear ht
  go_enter Tryz.func42, Tryz.ntmps42
  go_wp2_with fail
  go_loopw [3, 4, 5] (fun u b i wr => ∃ (k fr fuel : Nat) (acc : List (Nat × Nat)), b = .int .i64 fr ∧ i = .int .i64 k ∧ fr ≤ k ∧ k + fuel = t.length + 1 ∧ acc.length ≤ k ∧ Hid (acc ++ wrds (bs t) fuel k fr = words (bs t)) ∧ wr.ownsRow w.heap.size 9 1 u acc.length (strRows (acc.map (pieceL t))) ∧ Below w.heap.size w wr) (fun _ _ i _ => t.length + 1 - (intOf i).toNat)
  case atStart => exact ⟨0, 0, t.length + 1, [], rfl, rfl, Nat.le_refl _, by omega, by simp, by show [] ++ wrds (bs t) (t.length + 1) 0 0 = words (bs t); unfold words; rw [bs_len]; rfl, World.ownsRow_nil _ _ _ _, Below.refl _ _⟩
  case round =>
    obtain ⟨k, fr, fuel, acc, rfl, rfl, hfr, hfu, hal, HA, hown, hbw⟩ := hrel
    have HO := Lib.hid hown
    have HB := Lib.hid hbw
    have HAL := Lib.hid hal
    have HFU := Lib.hid hfu
    have HFR := Lib.hid hfr
    have bk0 : 0 ≤ (k : Int) := by omega
    have bf0 : 0 ≤ (fr : Int) := by omega
    have bfk : (fr : Int) ≤ k := by omega
    by_cases hle : k ≤ t.length
    · obtain ⟨f, rfl⟩ : ∃ f, fuel = f + 1 := ⟨fuel - 1, by omega⟩
      have hle2 : (k : Int) ≤ t.length := by omega
      by_cases h32 : k < t.length ∧ ∃ c, t[k]? = some c ∧ c ≠ 32
      · obtain ⟨hlt, c, hc, hcn⟩ := h32
        have hc' : t[k] = c := by rw [List.getElem?_eq_getElem hlt] at hc; exact Option.some.inj hc
        have hix : ∀ hh, (bs t)[k]'hh = c := fun _ => hc'
        have hlt2 : (k : Int) < t.length := by omega
        have t1 : ((c.toNat : Int) != 32) = true := by
          rw [bne_iff_ne]
          intro e
          exact hcn (UInt8.toNat_inj.1 (by show c.toNat = 32; omega))
        have hN := wrds_more (s := bs t) (k := k) (by rw [bs_len]; exact hlt) (by rw [hix]; exact hcn) f fr
        have HN := Lib.hid (show acc ++ wrds (bs t) f (k + 1) fr = words (bs t) by rw [← hN]; exact HA.out)
        clear hc hcn hN hown hbw hal hfu hfr hc'
        go_wp2_with fail
        go_roundw
        case rel => exact ⟨k + 1, fr, f, acc, rfl, by go_num, by have := HFR.out; omega, by have := HFU.out; omega, by have := HAL.out; omega, HN, HO.out, HB.out⟩
        case measure => have := HFU.out; simp [intOf]; omega
      · have hend : k = (bs t).size ∨ ∃ h : k < (bs t).size, (bs t)[k] = 32 := by
          rcases Nat.lt_or_ge k t.length with h | h
          · right
            have h' : k < (bs t).size := by rw [bs_len]; exact h
            refine ⟨h', ?_⟩
            show t[k] = 32
            rcases Classical.em (t[k] = 32) with h2 | h2
            · exact h2
            · exact absurd ⟨h, t[k], List.getElem?_eq_getElem h, h2⟩ h32
          · left; rw [bs_len]; omega
        have hp := wrds_part hend f fr (by rw [bs_len]; intro e; omega)
        have HP := Lib.hid (show acc ++ ((if fr < k then [(fr, k)] else []) ++ wrds (bs t) f (k + 1) (k + 1)) = words (bs t) by rw [← hp]; exact HA.out)
        have e2 : (bs t).extract fr k = bs (pieceL t (fr, k)) := ext_list t fr k hle
        have HE := Lib.hid e2
        have B1 := Lib.hid (show acc.length + 1 ≤ maxLen by unfold maxLen; have := HT.out; omega)
        have B2 := Lib.hid (show (acc.length + 1) * 16 ≤ 140737488355328 by have := HT.out; omega)
        have B3 := Lib.hid (show w.heap.size ≤ (wr.alloc (.cells #[.string ((bs t).extract fr k)] 9)).heap.size by have := HB.out.size; simp; omega)
        rcases (by
          rcases hend with h | ⟨h, h2⟩
          · exact .inl (by rw [bs_len] at h; exact h)
          · exact .inr ⟨by rw [bs_len] at h; exact h, fun hh => h2⟩ : k = t.length ∨ (k < t.length ∧ ∀ hh, (bs t)[k]'hh = 32)) with hk | ⟨hk, hix⟩
        all_goals
          clear hend hp e2 h32 hown hbw hal hfu hfr
          first
          | (have hlt3 : ¬ (k : Int) < t.length := by omega)
          | (have hlt3 : (k : Int) < t.length := by omega)
          clear hk
          by_cases hfk : fr < k
          · have hfk2 : (fr : Int) < k := by omega
            have HP2 := Lib.hid (show (acc ++ [(fr, k)]) ++ wrds (bs t) f (k + 1) (k + 1) = words (bs t) by have := HP.out; rw [if_pos hfk] at this; rw [List.append_assoc]; exact this)
            clear hfk
            go_wp2_with (at_builtin; go_loud (refine wpList_append_own _ rfl _ _ 39 rfl w.heap.size 9 i0 (.string .empty) 1 16 Tryz.underlying39 hi0 hz0 hz1 hz2 rfl (by decide) _ _ _ rfl (HO.out.alloc _) ⟨wr.heap.size, 0, none⟩ 1 1 [.string ((bs t).extract fr k)] rfl rfl (cells_new1 _ _ _) (by intro u hu; simp at hu; subst hu; rfl) B1.out B2.out B3.out ?_); intro v' w1 hown' hgrow _; have HO1 := Lib.hid hown'; have HB1 := Lib.hid ((HB.out.alloc HB.out.size _).grown hgrow B3.out (fun j hj => (HO.out.lt j hj).1)); clear hown' hgrow)
            go_roundw
            case rel =>
              refine ⟨k + 1, k + 1, f, acc ++ [(fr, k)], by go_num, by go_num, Nat.le_refl _, by have := HFU.out; omega, by rw [List.length_append]; have := HAL.out; simp; omega, HP2, ?_, HB1.out⟩
              have h := HO1.out
              rw [List.length_append, List.map_append, strRows_app]
              rw [HE.out] at h
              exact h
            case measure => have := HFU.out; simp [intOf]; omega
          · have hfk2 : ¬ (fr : Int) < k := by omega
            have HP2 := Lib.hid (show acc ++ wrds (bs t) f (k + 1) (k + 1) = words (bs t) by have := HP.out; rw [if_neg hfk] at this; exact this)
            clear hfk
            go_wp2_with fail
            go_roundw
            case rel => exact ⟨k + 1, k + 1, f, acc, by go_num, by go_num, Nat.le_refl _, by have := HFU.out; omega, by have := HAL.out; omega, HP2, HO.out, HB.out⟩
            case measure => have := HFU.out; simp [intOf]; omega
    · have hge : ¬ (k : Int) ≤ t.length := by omega
      obtain rfl : fuel = 0 := by omega
      have hw : acc = words (bs t) := by
        have := HA.out
        rwa [wrds_none, List.append_nil] at this
      have hm : acc.map (pieceL t) = wordsL t := by rw [hw]; exact words_list t
      have HR := Lib.hid (show RdS wr _ (wordsL t) from RdS.own (by
        rw [← hm, List.length_map]
        exact hown))
      clear hw hm hown hbw hal hfu hfr
      go_wp2_with fail
      go_ret
      exact ⟨_, rfl, HR.out, HB.out⟩
end Go.Proofs.YtceanagnkcejgaaGreatDoor
