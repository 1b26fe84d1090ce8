/- Numbers' bytes there and back, in plain mathematics. -/
import Derived.Test.YtcgeldmbndaocaaDoorUint
namespace Go.Proofs.YtcgeldmbndaocaaDoor
open Go Go.RowKit

theorem uscan_gN : ∀ (f i acc m : Nat) (r : List UInt8), i + f = 9 → m < 2 * 128 ^ f → (0 < i → 0 < m) → uscan i acc (gN f m ++ r) = (acc + m * 128 ^ i, i + (gN f m).length, 0)
  | 0, i, acc, m, r, hi, hm, h0 => by
    have hm2 : m < 2 := by simpa using hm
    have hx : (UInt8.ofNat m).toNat = m := u8_of (by omega)
    simp only [gN, List.cons_append, List.nil_append, uscan, hx]
    rw [if_neg (by omega), if_pos (by omega)]
    simp only [List.length_singleton]
    rw [Nat.mod_eq_of_lt (by omega)]
  | f + 1, i, acc, m, r, hi, hm, h0 => by
    simp only [gN]
    by_cases h : m < 128
    · rw [if_pos h]
      have hx : (UInt8.ofNat m).toNat = m := u8_of (by omega)
      simp only [List.cons_append, List.nil_append, uscan, hx]
      rw [if_neg (by omega), if_pos h]
      simp only [List.length_singleton]
      rw [Nat.mod_eq_of_lt h]
    · rw [if_neg h]
      have hx : (UInt8.ofNat (m % 128 + 128)).toNat = m % 128 + 128 := u8_of (by omega)
      simp only [List.cons_append, uscan, hx]
      rw [if_neg (by omega), if_neg (by omega)]
      rw [uscan_gN f (i + 1) _ (m / 128) r (by omega) (by rw [Nat.pow_succ] at hm; omega) (by omega)]
      simp only [List.length_cons]
      have e1 : (m % 128 + 128) % 128 = m % 128 := by omega
      have e2 : m / 128 * 128 ^ (i + 1) = (128 * (m / 128)) * 128 ^ i := by rw [Nat.pow_succ, Nat.mul_comm (128 ^ i), ← Nat.mul_assoc, Nat.mul_comm (m / 128)]
      rw [e1, e2, Nat.add_assoc, ← Nat.add_mul, show m % 128 + 128 * (m / 128) = m by omega, show i + 1 + (gN f (m / 128)).length = i + ((gN f (m / 128)).length + 1) by omega]
theorem uscan_gr (x : Nat) (r : List UInt8) (h : x < 18446744073709551616) : uscan 0 0 (gr x ++ r) = (x, (gr x).length, 0) := by
  have := uscan_gN 9 0 0 x r rfl (by omega) (by omega)
  simpa [gr] using this
theorem uscan_back : ∀ (a : List UInt8) (i acc n k : Nat), i ≤ 9 → uscan i acc a = (n, k, 0) → ∃ m f, i + f = 9 ∧ n = acc + m * 128 ^ i ∧ i < k ∧ gN f m = a.take (k - i) ∧ m < 2 * 128 ^ f ∧ (0 < i → 0 < m)
  | [], i, acc, n, k, _, h => by simp [uscan] at h
  | x :: a, i, acc, n, k, hi, h => by
    have hx := x.toNat_lt
    have hof : UInt8.ofNat x.toNat = x := by simp
    unfold uscan at h
    split at h
    · simp at h
    · rename_i h1
      split at h
      · rename_i h2
        simp only [Prod.mk.injEq, and_true] at h
        obtain ⟨rfl, rfl⟩ := h
        refine ⟨x.toNat, 9 - i, by omega, by rw [Nat.mod_eq_of_lt h2], by omega, ?_, ?_, by omega⟩
        · rw [show i + 1 - i = 1 by omega]
          rcases hf : 9 - i with _ | f
          · simp [gN]
          · simp only [gN]
            rw [if_pos h2]
            simp
        · rcases hf : 9 - i with _ | f
          · simp; omega
          · have : 1 ≤ 128 ^ f := Nat.one_le_pow _ _ (by omega)
            rw [Nat.pow_succ]; omega
      · rename_i h2
        obtain ⟨m, f, hf, hn, hk, hg, hm, h0⟩ := uscan_back a (i + 1) _ n k (by omega) h
        refine ⟨x.toNat % 128 + 128 * m, f + 1, by omega, ?_, by omega, ?_, ?_, by omega⟩
        · rw [hn, Nat.pow_succ, Nat.add_assoc, Nat.add_mul, Nat.mul_assoc, Nat.mul_comm 128 (m * _), Nat.mul_assoc]
        · simp only [gN]
          rw [if_neg (by omega), show (x.toNat % 128 + 128 * m) / 128 = m by omega, hg, show (x.toNat % 128 + 128 * m) % 128 + 128 = x.toNat by omega, hof, show k - i = (k - (i + 1)) + 1 by omega]
          rfl
        · rw [Nat.pow_succ]; omega
theorem gr_back {l : List UInt8} {n k : Nat} (h : uscan 0 0 l = (n, k, 0)) : gr n = l.take k ∧ n < 18446744073709551616 := by
  obtain ⟨m, f, hf, hn, hk, hg, hm, _⟩ := uscan_back l 0 0 n k (by omega) h
  have : f = 9 := by omega
  subst this
  have e : n = m := by simpa using hn
  subst e
  exact ⟨by simpa [gr] using hg, by simpa using hm⟩
theorem gr_apart {x y : Nat} (hx : x < 18446744073709551616) (hy : y < 18446744073709551616) (hne : x ≠ y) : gr x ≠ (gr y).take (gr x).length := by
  intro h
  have h1 := uscan_gr y [] hy
  rw [List.append_nil] at h1
  have h2 : gr y = gr x ++ (gr y).drop (gr x).length := by
    conv => lhs; rw [← List.take_append_drop (gr x).length (gr y)]
    rw [← h]
  have h3 := uscan_gr x ((gr y).drop (gr x).length) hx
  rw [← h2, h1] at h3
  simp only [Prod.mk.injEq, and_true] at h3
  exact hne h3.1.symm
/-- What lies elsewhere reads on behind a cursor's call. -/
theorem rd_grown {w w' : World} {g p : Nat} {e : Int} {v : Value} {l l' : List UInt8} (h : Rd w v l') (hc : Cur w g l p e) (hg : w.grownBy w' (some g)) : Rd w' v l' := by
  obtain ⟨sl, hb, hr, _⟩ := hc
  exact rd_apart h (by obtain ⟨pa, ca, e, _⟩ := hr.form; exact ⟨_, _, _, e⟩) hb w' (fun k hk hlt => hg.block k hlt (fun e => hk (by cases e; rfl)))
end Go.Proofs.YtcgeldmbndaocaaDoor
