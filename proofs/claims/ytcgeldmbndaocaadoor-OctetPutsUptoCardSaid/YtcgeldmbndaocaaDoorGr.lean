/- The bytes of a number, in plain mathematics; the program's groups. -/
import Derived.Test.YtcgeldmbndaocaaDoorOBase
import Derived.Laws.BitsAll
namespace Go.Proofs.YtcgeldmbndaocaaDoor
open Go.RowKit

def gN : Nat → Nat → List UInt8
  | 0, n => [UInt8.ofNat n]
  | k + 1, n => if n < 128 then [UInt8.ofNat n] else UInt8.ofNat (n % 128 + 128) :: gN k (n / 128)
/-- The bytes of a number. -/
def gr (n : Nat) : List UInt8 := gN 9 n
theorem gN_len : ∀ (k n : Nat), 1 ≤ (gN k n).length ∧ (gN k n).length ≤ k + 1
  | 0, n => by simp [gN]
  | k + 1, n => by
    unfold gN
    split
    · simp
    · have := gN_len k (n / 128)
      simp only [List.length_cons]; omega
theorem gr_len (n : Nat) : 1 ≤ (gr n).length ∧ (gr n).length ≤ 10 := gN_len 9 n

theorem info5 : (Tryd.prog.info? 5).map (fun i => (i.zero, i.size, i.bytes)) = some (some (.int .u8 0), 1, 1) := by kernel_rfl
theorem cells_new (w : World) (cs : Array Value) (t : TypeId) (j : Nat) (u : Value) (h : cs.toList[j]? = some u) : (w.alloc (.cells cs t)).cell? ((⟨w.heap.size, 0, none⟩ : Addr).add j) = some u := by
  have h' : cs[j]? = some u := by simpa using h
  by_cases hj : j = 0
  · subst hj; simp [Addr.add, h']
  · simp [Addr.add, hj, h']

/-- A new list of these bytes. -/
def Makes (l : List UInt8) (w : World) (e : Ending) (w' : World) : Prop :=
  ∃ v, e = .returned v ∧ w'.ownsRow w.heap.size 5 1 v l.length (Lib.byteCells l) ∧ Below w.heap.size w w'
theorem u8_of {n : Nat} (h : n < 256) : (UInt8.ofNat n).toNat = n := by rw [UInt8.toNat_ofNat']; exact Nat.mod_eq_of_lt h
theorem own_grows {w' : World} {base : Nat} {v' : Value} {acc : List UInt8} {x : UInt8} {n : Int} (h : w'.ownsRow base 5 1 v' (acc.length + 1) (Lib.byteCells acc ++ [.int .u8 n])) (hx : (x.toNat : Int) = n) :
    w'.ownsRow base 5 1 v' (acc ++ [x]).length (Lib.byteCells (acc ++ [x])) := by
  rw [Lib.byteCells_append, List.length_append]
  have : Lib.byteCells [x] = [.int .u8 n] := by simp [Lib.byteCells, hx]
  rw [this]
  exact h

set_option maxRecDepth 100000 in
set_option maxHeartbeats 2000000 in
theorem groups_pro (n : Nat) (w : World) (hn : n < 18446744073709551616) :
    Calls Tryd.prog 43 #[.int .u64 n] w (Makes (gr n) w) := by
  obtain ⟨i0, hi, hz0, hz1, hz2⟩ := info_parts info5
  go_enter Tryd.func43, Tryd.ntmps43
  go_wp2_with fail
  go_loopw [0, 3] (fun n' v wr => ∃ (m k : Nat) (acc : List UInt8), n' = .int .u64 m ∧ m < 2 * 128 ^ k ∧ acc.length + k = 9 ∧ acc ++ gN k m = gr n ∧ wr.ownsRow w.heap.size 5 1 v acc.length (Lib.byteCells acc) ∧ Below w.heap.size w wr) (fun n' _ _ => (intOf n').toNat)
  case atStart => exact ⟨n, 9, [], rfl, by omega, rfl, rfl, World.ownsRow_nil _ _ _ _, Below.refl _ _⟩
  case round =>
    obtain ⟨m, k, acc, rfl, hm, hk, hacc, hown, hb⟩ := hrel
    have HO := Lib.hid hown
    have HB := Lib.hid hb
    have hmm : m < 18446744073709551616 := by
      have : 128 ^ k ≤ 128 ^ 9 := Nat.pow_le_pow_right (by omega) (by omega)
      omega
    have HS := Lib.hid hb.size
    have HA := Lib.hid hacc
    have HM := Lib.hid hm
    clear hown hb hacc hm
    have f1 : IntKind.u8.wrap (m : Int) = (m % 256 : Nat) := by rw [IntKind.wrap_u8']; omega
    by_cases h : 128 ≤ m
    · have f2 : bits .or .u8 ((m % 256 : Nat) : Int) 128 = (m % 128 + 128 : Nat) := by
        have := u8_or_nat (m % 256) 128 (by omega) (by decide)
        rw [show ((m % 256) ||| 128 : Nat) = m % 128 + 128 from ?_] at this
        · exact this
        · have e : m % 256 = m % 128 ∨ m % 256 = m % 128 + 128 := by omega
          have h1 : m % 128 < 128 := by omega
          generalize m % 128 = r at e h1
          have a1 : ∀ r : Fin 128, (r.val ||| 128) = r.val + 128 ∧ ((r.val + 128) ||| 128) = r.val + 128 := by decide
          have := a1 ⟨r, h1⟩
          rcases e with e | e <;> rw [e]
          · exact this.1
          · exact this.2
      obtain ⟨k, rfl⟩ : ∃ k', k = k' + 1 := ⟨k - 1, by
        have := HM.out
        rcases k with _ | k
        · simp at this; omega
        · omega⟩
      have HG := Lib.hid (show acc ++ [UInt8.ofNat (m % 128 + 128)] ++ gN k (m / 128) = gr n by
        rw [← HA.out]
        show _ = acc ++ (if m < 128 then _ else _)
        rw [if_neg (by omega), List.append_assoc]; rfl)
      have HM2 := Lib.hid (show m / 128 < 2 * 128 ^ k by have := HM.out; rw [Nat.pow_succ] at this; omega)
      have HX := Lib.hid (show (((UInt8.ofNat (m % 128 + 128)).toNat : Nat) : Int) = (m % 128 + 128 : Nat) by rw [u8_of (by omega)])
      have hlen : acc.length + 1 ≤ maxLen := by unfold maxLen; omega
      have HL := Lib.hid hlen
      have HL2 := Lib.hid (show (acc.length + 1) * 1 ≤ 140737488355328 by omega)
      clear hlen
      have HF := Lib.hid (show bits .or .u8 ((m : Int) % 256) 128 = ((UInt8.ofNat (m % 128 + 128)).toNat : Int) by rw [HX.out, ← f2]; rfl)
      have HS2 := Lib.hid (show w.heap.size ≤ (wr.alloc (.cells #[.int .u8 (bits .or .u8 ((m : Int) % 256) 128)] 5)).heap.size by have := HS.out; simp; omega)
      clear f1 f2
      go_wp2_with (at_builtin; go_loud (refine wpList_append_own _ rfl _ _ 22 rfl w.heap.size 5 i0 (.int .u8 0) 1 1 Tryd.underlying22 hi hz0 hz1 hz2 rfl (by decide) _ _ _ rfl (HO.out.alloc _) ⟨wr.heap.size, 0, none⟩ 1 1 [.int .u8 (bits .or .u8 ((m : Int) % 256) 128)] rfl rfl (cells_new _ _ _) (by intro u hu; simp at hu; subst hu; rfl) HL.out HL2.out HS2.out ?_); intro v' w1 hown' hgrow _)
      go_roundw
      case rel =>
        refine ⟨m / 128, k, acc ++ [UInt8.ofNat (m % 128 + 128)], by go_num, HM2.out, by simp; omega, HG.out, own_grows hown' HF.out.symm, ?_⟩
        exact (HB.out.alloc HS.out _).grown hgrow HS2.out (fun k hk => (HO.out.lt k hk).1)
      case measure => simp [intOf]; omega
    · have HX := Lib.hid (show (((UInt8.ofNat m).toNat : Nat) : Int) = (m : Int) by rw [u8_of (by omega)])
      have HG := Lib.hid (show acc ++ [UInt8.ofNat m] = gr n by
        rw [← HA.out]
        rcases k with _ | k
        · rfl
        · show _ = acc ++ (if m < 128 then _ else _)
          rw [if_pos (by omega)])
      have HL := Lib.hid (show acc.length + 1 ≤ maxLen by unfold maxLen; omega)
      have HL2 := Lib.hid (show (acc.length + 1) * 1 ≤ 140737488355328 by omega)
      have HS2 := Lib.hid (show w.heap.size ≤ (wr.alloc (.cells #[.int .u8 (m : Int)] 5)).heap.size by have := HS.out; simp; omega)
      clear f1
      go_wp2_with (at_builtin; go_loud (refine wpList_append_own _ rfl _ _ 22 rfl w.heap.size 5 i0 (.int .u8 0) 1 1 Tryd.underlying22 hi hz0 hz1 hz2 rfl (by decide) _ _ _ rfl (HO.out.alloc _) ⟨wr.heap.size, 0, none⟩ 1 1 [.int .u8 (m : Int)] rfl rfl (cells_new _ _ _) (by intro u hu; simp at hu; subst hu; rfl) HL.out HL2.out HS2.out ?_); intro v' w1 hown' hgrow _)
      go_ret
      exact ⟨v', rfl, by rw [← HG.out]; exact own_grows hown' HX.out, (HB.out.alloc HS.out _).grown hgrow HS2.out (fun k hk => (HO.out.lt k hk).1)⟩
end Go.Proofs.YtcgeldmbndaocaaDoor
