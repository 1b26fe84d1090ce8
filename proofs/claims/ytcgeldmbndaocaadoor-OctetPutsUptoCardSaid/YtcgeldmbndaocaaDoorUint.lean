/- The program's cursor of layer 3: Uint. -/
import Derived.Test.YtcgeldmbndaocaaDoorPiece
import Derived.WalkMore
namespace Go.Proofs.YtcgeldmbndaocaaDoor
open Go.RowKit

/-- What stands there as a number: the number, how many bytes it has, the fault. -/
def uscan : Nat → Nat → List UInt8 → Nat × Nat × Int
  | _, acc, [] => (acc, 0, 30)
  | i, acc, x :: a =>
    if i = 9 ∧ 1 < x.toNat ∨ 0 < i ∧ x.toNat = 0 then (0, 0, 31)
    else if x.toNat < 128 then (acc + x.toNat % 128 * 128 ^ i, i + 1, 0)
    else uscan (i + 1) (acc + x.toNat % 128 * 128 ^ i) a
/-- What Uint takes, and where the cursor stands then. -/
def uval (l : List UInt8) (s : Nat × Int) : Nat := if s.2 ≠ 0 ∨ (uscan 0 0 (l.drop s.1)).2.2 ≠ 0 then 0 else (uscan 0 0 (l.drop s.1)).1
def ust (l : List UInt8) (s : Nat × Int) : Nat × Int :=
  if s.2 ≠ 0 then s else if (uscan 0 0 (l.drop s.1)).2.2 ≠ 0 then (s.1, (uscan 0 0 (l.drop s.1)).2.2) else (s.1 + (uscan 0 0 (l.drop s.1)).2.1, 0)
theorem uscan_long : ∀ (a : List UInt8) (i acc : Nat), (uscan i acc a).2.2 = 0 → i < (uscan i acc a).2.1 ∧ (uscan i acc a).2.1 ≤ i + a.length
  | [], _, _, h => by simp [uscan] at h
  | x :: a, i, acc, h => by
    unfold uscan at h ⊢
    split at h
    · simp at h
    · rename_i h1
      rw [if_neg h1]
      split at h
      · rename_i h2
        rw [if_pos h2]
        simp
      · rename_i h2
        rw [if_neg h2]
        have := uscan_long a _ _ h
        simp only [List.length_cons]
        omega
theorem uscan_err : ∀ (a : List UInt8) (i acc : Nat), (uscan i acc a).2.2 = 0 ∨ (uscan i acc a).2.2 = 30 ∨ (uscan i acc a).2.2 = 31
  | [], _, _ => by simp [uscan]
  | x :: a, i, acc => by
    unfold uscan
    split
    · simp
    · split
      · simp
      · exact uscan_err a _ _
theorem or_seven (s x k : Nat) (h : s < 128 ^ k) (hx : x < 128) (hk : k ≤ 8 ∨ k = 9 ∧ x ≤ 1) : bits .or .u64 (s : Int) ((x : Int) * 2 ^ (7 * k) % 18446744073709551616) = (s + x * 128 ^ k : Nat) := by
  have hp : 128 ^ k = 2 ^ (7 * k) := by rw [Nat.pow_mul]
  rw [hp] at h ⊢
  have hm : x * 2 ^ (7 * k) < 18446744073709551616 ∧ 2 ^ (7 * k) < 18446744073709551616 := by
    rcases hk with hk | ⟨rfl, hk⟩
    · have h24 : 2 ^ (7 * k) ≤ 2 ^ 56 := Nat.pow_le_pow_right (by omega) (by omega)
      have hm : x * 2 ^ (7 * k) ≤ 127 * 2 ^ 56 := Nat.mul_le_mul (by omega) h24
      omega
    · have : x * 2 ^ (7 * 9) ≤ 1 * 2 ^ (7 * 9) := Nat.mul_le_mul hk (Nat.le_refl _)
      omega
  have e1 : (x : Int) * 2 ^ (7 * k) % 18446744073709551616 = (x * 2 ^ (7 * k) : Nat) := by
    have e0 : (x : Int) * 2 ^ (7 * k) = (x * 2 ^ (7 * k) : Nat) := by simp
    rw [e0]; omega
  rw [e1, u64_or_nat _ _ (by omega) (by omega), Nat.or_comm, nat_join (7 * k) _ _ (Nat.mul_mod_left _ _) h, Nat.add_comm]

set_option maxRecDepth 100000 in
set_option maxHeartbeats 4000000 in
theorem uint_pro (g : Nat) (l : List UInt8) (s : Nat × Int) (w : World) (h : Cur w g l s.1 s.2) :
    Calls Tryd.prog 31 #[.pointer (some ⟨g, 0, none⟩)] w fun en w' => en = .returned (.int .u64 (uval l s)) ∧ Cur w' g l (ust l s).1 (ust l s).2 ∧ w.grownBy w' (some g) := by
  obtain ⟨p, e⟩ := s
  simp only at h
  have H := Lib.hid h
  by_cases he : e = 0
  · subst he
    have hpl : p ≤ l.length ∧ l.length ≤ 281474976710656 := by obtain ⟨_, _, _, hp, hl⟩ := h; exact ⟨hp, hl⟩
    have hld : (l.drop p).length = l.length - p := List.length_drop
    obtain ⟨a, ea⟩ : ∃ a, l.drop p = a := ⟨_, rfl⟩
    have BAD := Lib.hid (show ∀ u : Int, u ≠ 0 → (uscan 0 0 a).2.2 = u → uval l (p, 0) = 0 ∧ ust l (p, 0) = (p, u) by
      intro u hu hs
      simp [uval, ust, ea, hs, hu])
    have GOOD := Lib.hid (show ∀ n k : Nat, uscan 0 0 a = (n, k, 0) → uval l (p, 0) = n ∧ ust l (p, 0) = (p + k, 0) ∧ p + k ≤ l.length by
      intro n k hs
      have h1 := uscan_long a 0 0 (by rw [hs])
      rw [hs] at h1
      simp only at h1
      rw [ea] at hld
      refine ⟨by simp [uval, ea, hs], by simp [ust, ea, hs], by omega⟩)
    rw [ea] at hld
    have EA := Lib.hid ea
    clear h ea
    go_enter Tryd.func31, Tryd.ntmps31
    go_wp2_with fail
    go_step3
    go_wp2_with fail
    go_step3
    go_wp2_with fail
    refine (ahead_pro g l p _ H.out).mono ?_
    rintro e w1 ⟨v1, rfl, hr, hb⟩
    rw [EA.out] at hr
    have B1 := Lib.hid (below_grown (row := some g) hb)
    have H1 := Lib.hid (H.out.below hb)
    obtain ⟨pa, ca, rfl, hcc, hrc, hcell⟩ := hr
    have HC := Lib.hid hcell
    clear hb hcell hcc hrc
    go_wp2_with fail
    go_loop [3, 4, 5, 11] (fun n lg er i => ∃ k acc : Nat, i = .int .i64 k ∧ k ≤ a.length ∧ k ≤ 9 ∧ n = .int .u64 acc ∧ lg = .int .i64 0 ∧ er = .int .i64 30 ∧ acc < 128 ^ k ∧ uscan k acc (a.drop k) = uscan 0 0 a) (fun _ _ _ i => a.length - (intOf i).toNat)
    case atStart => exact ⟨0, 0, rfl, Nat.zero_le _, by omega, rfl, rfl, rfl, by decide, rfl⟩
    case round =>
      obtain ⟨k, acc, rfl, hk, hk9, rfl, rfl, rfl, hacc, hsc⟩ := hrel
      have HS := Lib.hid hsc
      clear hsc
      by_cases hlt : k < a.length
      · obtain ⟨b, off, rfl, hx⟩ := HC.out k hlt
        have hdr : a.drop k = a[k] :: a.drop (k + 1) := List.drop_eq_getElem_cons hlt
        obtain ⟨x, ex⟩ : ∃ x, a[k] = x := ⟨_, rfl⟩
        rw [ex] at hx hdr
        have HD := Lib.hid hdr
        have hxl : x.toNat < 256 := x.toNat_lt
        clear ex hdr
        have f1 : bits .andNot .u8 (x.toNat : Int) 128 = (x.toNat % 128 : Nat) := by
          have := u8_andNot_nat x.toNat 128 hxl (by decide)
          rw [show 255 - 128 = 127 by decide, nat_mask7] at this
          exact this
        obtain ⟨y, ey⟩ : ∃ y, x.toNat % 128 = y := ⟨_, rfl⟩
        rw [ey] at f1
        have hy : y < 128 := by omega
        have EY := Lib.hid ey
        obtain ⟨xn, exn⟩ : ∃ xn, x.toNat = xn := ⟨_, rfl⟩
        rw [exn] at f1 hx hxl
        have EX := Lib.hid exn
        clear ey exn
        have f2 : IntKind.u64.wrap (y : Int) = y := by rw [IntKind.wrap_u64]; omega
        by_cases h1 : k = 9 ∧ 1 < xn
        · have t1 : ((k : Int) == 9) = true := by simp; omega
          have t2 : (1 : Int) < xn := by omega
          have t3 : (xn : Int) < 256 := by omega
          have HU := Lib.hid (BAD.out 31 (by decide) (by rw [← HS.out, HD.out]; unfold uscan; rw [EX.out, if_pos (Or.inl h1)]))
          clear h1
          go_wp2_with fail
          refine (fail_pro g l p 31 _ H1.out (by decide)).mono ?_
          rintro e w2 ⟨rfl, h2, h3⟩
          have H2 := Lib.hid h2
          have H3 := Lib.hid h3
          clear h2 h3
          go_wp2_with fail
          try rw [Exit.noGoto_ret]
          go_ret
          rw [HU.out.1, HU.out.2]
          exact ⟨rfl, H2.out, grown_trans B1.out H3.out⟩
        · by_cases h2 : 0 < k ∧ xn = 0
          · have HU := Lib.hid (BAD.out 31 (by decide) (by rw [← HS.out, HD.out]; unfold uscan; rw [EX.out, if_pos (Or.inr h2)]))
            obtain ⟨h2, rfl⟩ := h2
            have t2 : (0 : Int) < k := by omega
            clear h1 h2
            go_wp2_with fail
            all_goals
              refine (fail_pro g l p 31 _ H1.out (by decide)).mono ?_
              rintro e w2 ⟨rfl, h2, h3⟩
              have H2 := Lib.hid h2
              have H3 := Lib.hid h3
              clear h2 h3
              go_wp2_with fail
              try rw [Exit.noGoto_ret]
              go_ret
              rw [HU.out.1, HU.out.2]
              exact ⟨rfl, H2.out, grown_trans B1.out H3.out⟩
          · have HN := Lib.hid (show ¬ (k = 9 ∧ 1 < x.toNat ∨ 0 < k ∧ x.toNat = 0) by rw [EX.out]; omega)
            by_cases h3 : xn < 128
            · have hyx : y = xn := by have := EY.out; rw [EX.out] at this; omega
              have HF := Lib.hid (show bits .or .u64 (acc : Int) (IntKind.u64.wrap ((y : Int) * 2 ^ (7 * k))) = (acc + y * 128 ^ k : Nat) by rw [IntKind.wrap_u64]; exact or_seven acc y k hacc hy (by omega))
              have HU := Lib.hid (GOOD.out (acc + y * 128 ^ k) (k + 1) (by rw [← HS.out, HD.out]; unfold uscan; rw [if_neg HN.out, EX.out, if_pos h3, ← EX.out, EY.out]))
              have hcs := cur_set H1.out (p + (k + 1)) HU.out.2.2
              obtain ⟨c1, c2, c3, c4⟩ := H1.out.cells
              rw [Int.natCast_add, Int.natCast_add] at hcs
              have CS := Lib.hid hcs
              clear hcs hyx
              have t3 : (xn : Int) < 128 := by omega
              have t4 : ((k : Int) == 9) = true → ¬ (1 : Int) < xn := by simp; omega
              by_cases hk9' : k = 9
              · have t5 : ((k : Int) == 9) = true := by simp; omega
                have t6 : ¬ (1 : Int) < xn := by omega
                have t7 : (0 : Int) < k := by omega
                have t8 : ((xn : Int) == 0) = false := by simp; omega
                clear h1 h2 t4 hk9'
                go_wp2_with fail
                try rw [Exit.noGoto_ret]
                go_ret
                rw [HU.out.1, HU.out.2.1]
                exact ⟨by rw [← HF.out]; rfl, CS.out.1, grown_trans B1.out CS.out.2⟩
              · have t5 : ((k : Int) == 9) = false := by simp; omega
                by_cases hk0 : k = 0
                · subst hk0
                  rw [Nat.add_zero] at hx
                  have HF2 := Lib.hid (show bits .or .u64 (acc : Int) (y : Int) = (acc + y * 128 ^ 0 : Nat) by
                    have := HF.out
                    rw [show (y : Int) * 2 ^ (7 * 0) = y by simp, f2] at this
                    exact this)
                  clear h1 h2 t4 hk9'
                  go_wp2_with fail
                  try rw [Exit.noGoto_ret]
                  go_ret
                  rw [HU.out.1, HU.out.2.1]
                  exact ⟨by rw [← HF2.out]; rfl, by simpa using CS.out.1, by simpa using grown_trans B1.out CS.out.2⟩
                · have t7 : (0 : Int) < k := by omega
                  have t8 : ((xn : Int) == 0) = false := by simp; omega
                  clear h1 h2 t4 hk9' hk0
                  go_wp2_with fail
                  try rw [Exit.noGoto_ret]
                  go_ret
                  rw [HU.out.1, HU.out.2.1]
                  exact ⟨by rw [← HF.out]; rfl, CS.out.1, grown_trans B1.out CS.out.2⟩
            · have hk8 : k ≤ 8 := by have := EX.out; omega
              have HF := Lib.hid (show bits .or .u64 (acc : Int) (IntKind.u64.wrap ((y : Int) * 2 ^ (7 * k))) = (acc + y * 128 ^ k : Nat) by rw [IntKind.wrap_u64]; exact or_seven acc y k hacc hy (Or.inl hk8))
              have HSN := Lib.hid (show uscan (k + 1) (acc + y * 128 ^ k) (a.drop (k + 1)) = uscan 0 0 a by rw [← HS.out, HD.out]; conv => rhs; unfold uscan; rw [if_neg HN.out, EX.out, if_neg h3, ← EX.out, EY.out])
              have HA := Lib.hid (show acc + y * 128 ^ k < 128 ^ (k + 1) by
                have : y * 128 ^ k ≤ 127 * 128 ^ k := Nat.mul_le_mul (by omega) (Nat.le_refl _)
                rw [Nat.pow_succ]; omega)
              have t5 : ((k : Int) == 9) = false := by simp; omega
              have t8 : ((xn : Int) == 0) = false := by simp; omega
              have t9 : ¬ (xn : Int) < 128 := by omega
              by_cases hk0 : k = 0
              · subst hk0
                rw [Nat.add_zero] at hx
                have HF2 := Lib.hid (show bits .or .u64 (acc : Int) (y : Int) = (acc + y * 128 ^ 0 : Nat) by
                  have := HF.out
                  rw [show (y : Int) * 2 ^ (7 * 0) = y by simp, f2] at this
                  exact this)
                clear h1 h2 h3
                go_wp2_with fail
                go_round
                case rel => exact ⟨1, acc + y * 128 ^ 0, by go_num, by omega, by omega, by rw [← HF2.out], rfl, rfl, HA.out, HSN.out⟩
                case measure => simp [intOf]; omega
              · have t7 : (0 : Int) < k := by omega
                clear h1 h2 h3 hk0
                go_wp2_with fail
                go_round
                case rel => exact ⟨k + 1, acc + y * 128 ^ k, by go_num, by omega, by omega, by rw [← HF.out], rfl, rfl, HA.out, HSN.out⟩
                case measure => simp [intOf]; omega
      · obtain rfl : k = a.length := by omega
        have HU := Lib.hid (BAD.out 30 (by decide) (by rw [← HS.out, List.drop_length]; rfl))
        go_wp2_with fail
        refine (fail_pro g l p 30 _ H1.out (by decide)).mono ?_
        rintro e w2 ⟨rfl, h2, h3⟩
        have H2 := Lib.hid h2
        have H3 := Lib.hid h3
        clear h2 h3
        go_wp2_with fail
        try rw [Exit.noGoto_ret]
        go_ret
        rw [HU.out.1, HU.out.2]
        exact ⟨rfl, H2.out, grown_trans B1.out H3.out⟩
  · have HU := Lib.hid (show uval l (p, e) = 0 ∧ ust l (p, e) = (p, e) by simp [uval, ust, he])
    have HE := Lib.hid he
    clear h he
    go_enter Tryd.func31, Tryd.ntmps31
    go_wp2_with fail
    go_step3
    go_wp2_with fail
    go_step3
    go_wp2_with fail
    refine (ahead_failed g l p e _ H.out HE.out).mono ?_
    rintro e' w1 ⟨rfl, rfl⟩
    go_wp2_with fail
    go_loop [3, 4, 5, 11] (fun n lg er i => n = .int .u64 0 ∧ lg = .int .i64 0 ∧ er = .int .i64 30 ∧ i = .int .i64 0) (fun _ _ _ _ => 0)
    case atStart => exact ⟨rfl, rfl, rfl, rfl⟩
    case round =>
      obtain ⟨rfl, rfl, rfl, rfl⟩ := hrel
      go_wp2_with fail
      refine (fail_failed g l p e 30 _ H.out HE.out).mono ?_
      rintro e' w2 ⟨rfl, rfl⟩
      go_wp2_with fail
      try rw [Exit.noGoto_ret]
      go_ret
      rw [HU.out.1, HU.out.2]
      exact ⟨rfl, H.out, below_grown (Below.refl _ _)⟩
end Go.Proofs.YtcgeldmbndaocaaDoor
