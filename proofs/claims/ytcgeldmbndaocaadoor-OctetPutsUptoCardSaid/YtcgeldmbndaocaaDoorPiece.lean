/- The program's cursor of layer 3: piece, lowestAhead, Byte, Take. -/
import Derived.Test.YtcgeldmbndaocaaDoorCur
namespace Go.Proofs.YtcgeldmbndaocaaDoor
open Go.RowKit

/-- What piece takes. -/
def pst (l : List UInt8) (s : Nat × Int) (n : Int) : Nat × Int :=
  if s.2 ≠ 0 then s else if n < 0 then (s.1, 1) else if (l.length : Int) - s.1 < n then (s.1, 30) else (s.1 + n.toNat, 0)
def pout (l : List UInt8) (s : Nat × Int) (n : Int) : List UInt8 :=
  if s.2 ≠ 0 then [] else if n < 0 then [] else if (l.length : Int) - s.1 < n then [] else (l.drop s.1).take n.toNat
/-- A cursor's call: the bytes that it answers, where it stands then. -/
def Gives (g : Nat) (l : List UInt8) (s : Nat × Int) (out : List UInt8) (w : World) (en : Ending) (w' : World) : Prop :=
  ∃ v, en = .returned v ∧ Rd w' v out ∧ Cur w' g l s.1 s.2 ∧ w.grownBy w' (some g)

theorem rd_cur {w : World} {v : Value} {l l' : List UInt8} {g p : Nat} {e : Int} (h : Rd w v l') (hc : Cur w g l p e) (u : Int) : Rd (w.setCell ⟨g, 1, none⟩ (.int .i64 u)) v l' := by
  obtain ⟨sl, hg, hr, _⟩ := hc
  exact rd_apart h (by obtain ⟨pa, ca, e, _⟩ := hr.form; exact ⟨_, _, _, e⟩) hg _ (fun k hk _ => Below.heap_setCell w _ _ k hk)

set_option maxRecDepth 100000 in
set_option maxHeartbeats 2000000 in
theorem piece_pro (g : Nat) (l : List UInt8) (s : Nat × Int) (n : Int) (w : World) (h : Cur w g l s.1 s.2) (hn : -9223372036854775808 ≤ n ∧ n ≤ 9223372036854775807) :
    Calls Tryd.prog 55 #[.pointer (some ⟨g, 0, none⟩), .int .i64 n] w (Gives g l (pst l s n) (pout l s n) w) := by
  obtain ⟨p, e⟩ := s
  simp only at h
  have H := Lib.hid h
  by_cases he : e = 0
  · subst he
    have hpl : p ≤ l.length ∧ l.length ≤ 281474976710656 := by obtain ⟨_, _, _, hp, hl⟩ := h; exact ⟨hp, hl⟩
    have hld : (l.drop p).length = l.length - p := List.length_drop
    clear h
    by_cases h1 : n < 0
    · have e1 : pst l (p, 0) n = (p, 1) := by simp [pst, h1]
      have e2 : pout l (p, 0) n = [] := by simp [pout, h1]
      rw [e1, e2]
      clear e1 e2 hld
      go_enter Tryd.func55, Tryd.ntmps55
      go_wp2_with fail
      refine (ahead_pro g l p _ H.out).mono ?_
      rintro e w1 ⟨v1, rfl, hr, hb⟩
      have B1 := Lib.hid hb
      have H1 := Lib.hid (H.out.below hb)
      obtain ⟨pa, ca, rfl, _⟩ := hr.form
      clear hb hr
      go_wp2_with fail
      refine (fail_pro g l p 1 _ H1.out (by decide)).mono ?_
      rintro e w2 ⟨rfl, h2, h3⟩
      have H2 := Lib.hid h2
      have H3 := Lib.hid h3
      clear h2 h3
      go_wp2_with fail
      refine (good_pro g l p 1 _ H2.out).mono ?_
      rintro e w1 ⟨rfl, rfl⟩
      go_wp2_with fail
      go_ret
      exact ⟨_, rfl, Rd.nil _, H2.out, grown_trans (below_grown B1.out) H3.out⟩
    · by_cases h2 : (l.length : Int) - p < n
      · have e1 : pst l (p, 0) n = (p, 30) := by simp [pst, h1, h2]
        have e2 : pout l (p, 0) n = [] := by simp [pout, h1, h2]
        rw [e1, e2]
        clear e1 e2
        go_enter Tryd.func55, Tryd.ntmps55
        go_wp2_with fail
        refine (ahead_pro g l p _ H.out).mono ?_
        rintro e w1 ⟨v1, rfl, hr, hb⟩
        have B1 := Lib.hid hb
        have H1 := Lib.hid (H.out.below hb)
        obtain ⟨pa, ca, rfl, _⟩ := hr.form
        rw [hld]
        clear hb hr
        have h3 : ((l.length - p : Nat) : Int) < n := by omega
        go_wp2_with fail
        refine (fail_pro g l p 30 _ H1.out (by decide)).mono ?_
        rintro e w2 ⟨rfl, h2, h3⟩
        have H2 := Lib.hid h2
        have H3 := Lib.hid h3
        clear h2 h3
        go_wp2_with fail
        refine (good_pro g l p 30 _ H2.out).mono ?_
        rintro e w1 ⟨rfl, rfl⟩
        go_wp2_with fail
        go_ret
        exact ⟨_, rfl, Rd.nil _, H2.out, grown_trans (below_grown B1.out) H3.out⟩
      · obtain ⟨k, rfl⟩ : ∃ k : Nat, n = k := ⟨n.toNat, by omega⟩
        have e1 : pst l (p, 0) k = (p + k, 0) := by unfold pst; rw [if_neg (by simp), if_neg h1, if_neg h2]; rfl
        have e2 : pout l (p, 0) k = (l.drop p).take k := by unfold pout; rw [if_neg (by simp), if_neg h1, if_neg h2]; rfl
        rw [e1, e2]
        clear e1 e2
        go_enter Tryd.func55, Tryd.ntmps55
        go_wp2_with fail
        refine (ahead_pro g l p _ H.out).mono ?_
        rintro e w1 ⟨v1, rfl, hr, hb⟩
        have B1 := Lib.hid hb
        have H1 := Lib.hid (H.out.below hb)
        obtain ⟨pa, ca, rfl, hcc, _⟩ := hr.form
        rw [hld] at hr hcc ⊢
        have HR := Lib.hid hr
        clear hb hr
        have h3 : ¬ ((l.length - p : Nat) : Int) < (k : Int) := by omega
        have h4 : (k : Int) ≤ ca := by omega
        go_wp2_with fail
        refine (good_pro g l p 0 _ H1.out).mono ?_
        rintro e w2 ⟨rfl, rfl⟩
        obtain ⟨c1, c2, c3, c4⟩ := H1.out.cells
        have hcs := cur_set H1.out (p + k) (by omega)
        rw [Int.natCast_add] at hcs
        have CS := Lib.hid hcs
        have RT := Lib.hid (rd_cur (rd_take HR.out (show k ≤ (l.drop p).length by omega)) H1.out ((p : Int) + k))
        clear hcs
        go_wp2_with fail
        go_ret
        exact ⟨_, rfl, RT.out, CS.out.1, grown_trans (below_grown B1.out) CS.out.2⟩
  · have e1 : pst l (p, e) n = (p, e) := by simp [pst, he]
    have e2 : pout l (p, e) n = [] := by simp [pout, he]
    have E0 : (e == 0) = false := by simpa using he
    have HE := Lib.hid he
    rw [e1, e2]
    clear e1 e2 h he
    by_cases h1 : n < 0
    · go_enter Tryd.func55, Tryd.ntmps55
      go_wp2_with fail
      refine (ahead_failed g l p e _ H.out HE.out).mono ?_
      rintro e w1 ⟨rfl, rfl⟩
      go_wp2_with fail
      refine (fail_failed g l p _ 1 _ H.out HE.out).mono ?_
      rintro e w1 ⟨rfl, rfl⟩
      go_wp2_with fail
      refine (good_pro g l p _ _ H.out).mono ?_
      rintro e w1 ⟨rfl, rfl⟩
      go_wp2_with fail
      go_ret
      exact ⟨_, rfl, Rd.nil _, H.out, below_grown (Below.refl _ _)⟩
    · by_cases h2 : (0 : Int) < n
      · go_enter Tryd.func55, Tryd.ntmps55
        go_wp2_with fail
        refine (ahead_failed g l p e _ H.out HE.out).mono ?_
        rintro e w1 ⟨rfl, rfl⟩
        go_wp2_with fail
        refine (fail_failed g l p _ 30 _ H.out HE.out).mono ?_
        rintro e w1 ⟨rfl, rfl⟩
        go_wp2_with fail
        refine (good_pro g l p _ _ H.out).mono ?_
        rintro e w1 ⟨rfl, rfl⟩
        go_wp2_with fail
        go_ret
        exact ⟨_, rfl, Rd.nil _, H.out, below_grown (Below.refl _ _)⟩
      · go_enter Tryd.func55, Tryd.ntmps55
        go_wp2_with fail
        refine (ahead_failed g l p e _ H.out HE.out).mono ?_
        rintro e w1 ⟨rfl, rfl⟩
        go_wp2_with fail
        refine (good_pro g l p _ _ H.out).mono ?_
        rintro e w1 ⟨rfl, rfl⟩
        go_wp2_with fail
        go_ret
        exact ⟨_, rfl, Rd.nil _, H.out, below_grown (Below.refl _ _)⟩

/-- A number out of its bytes, the lowest ahead. -/
def le : List UInt8 → Nat
  | [] => 0
  | x :: l => x.toNat + 256 * le l
theorem le_snoc : ∀ (l : List UInt8) (x : UInt8), le (l ++ [x]) = le l + x.toNat * 256 ^ l.length
  | [], x => by simp [le]
  | y :: l, x => by
    simp only [List.cons_append, le, le_snoc l x, List.length_cons, Nat.pow_succ]
    rw [Nat.mul_add, Nat.add_assoc, show 256 * (x.toNat * 256 ^ l.length) = x.toNat * (256 ^ l.length * 256) by rw [Nat.mul_left_comm, Nat.mul_comm (256 ^ l.length)]]
theorem le_lt : ∀ (l : List UInt8), le l < 256 ^ l.length
  | [] => by simp [le]
  | x :: l => by
    have h1 := x.toNat_lt
    have h2 := le_lt l
    simp only [le, List.length_cons, Nat.pow_succ]
    omega
theorem le_lo : ∀ (k n : Nat), le (lo k n) = n % 256 ^ k
  | 0, n => by simp [lo, le, Nat.mod_one]
  | k + 1, n => by
    simp only [lo, le, le_lo k]
    rw [u8_of (by omega), Nat.pow_succ, Nat.mul_comm (256 ^ k), Nat.mod_mul]

theorem or_byte (s x k : Nat) (h : s < 256 ^ k) (hx : x < 256) (hk : k ≤ 3) : bits .or .u32 (s : Int) ((x : Int) * 2 ^ (8 * k) % 4294967296) = (s + x * 256 ^ k : Nat) := by
  have hp : 256 ^ k = 2 ^ (8 * k) := by rw [Nat.pow_mul]
  have h24 : 2 ^ (8 * k) ≤ 2 ^ 24 := Nat.pow_le_pow_right (by omega) (by omega)
  have hm : x * 2 ^ (8 * k) ≤ 255 * 2 ^ 24 := Nat.mul_le_mul (by omega) h24
  rw [hp] at h ⊢
  have e1 : (x : Int) * 2 ^ (8 * k) % 4294967296 = (x * 2 ^ (8 * k) : Nat) := by
    have e0 : (x : Int) * 2 ^ (8 * k) = (x * 2 ^ (8 * k) : Nat) := by simp
    rw [e0]; omega
  rw [e1, u32_or_nat _ _ (by omega) (by omega), Nat.or_comm, nat_join (8 * k) _ _ (Nat.mul_mod_left _ _) h, Nat.add_comm]

set_option maxRecDepth 100000 in
set_option maxHeartbeats 2000000 in
theorem lowest_pro (l : List UInt8) (v : Value) (w : World) (h : Rd w v l) (hl : l.length ≤ 4) :
    Calls Tryd.prog 54 #[v] w fun e w' => e = .returned (.int .u32 (le l : Nat)) ∧ w = w' := by
  obtain ⟨pa, cap, rfl, hcap, _, hcell⟩ := h
  have HC := Lib.hid hcell
  clear hcell hcap
  go_enter Tryd.func54, Tryd.ntmps54
  go_wp2_with fail
  go_loop [3, 4, 5, 8] (fun s _ _ i => ∃ k : Nat, i = .int .i64 k ∧ k ≤ l.length ∧ s = .int .u32 (le (l.take k) : Nat)) (fun _ _ _ i => l.length - (intOf i).toNat)
  case atStart => exact ⟨0, rfl, Nat.zero_le _, rfl⟩
  case round =>
    obtain ⟨k, rfl, hk, rfl⟩ := hrel
    by_cases hlt : k < l.length
    · obtain ⟨b, off, rfl, hx⟩ := HC.out k hlt
      have HE := Lib.hid (take_next hlt)
      obtain ⟨x, ex⟩ : ∃ x, l[k] = x := ⟨_, rfl⟩
      rw [ex] at hx HE
      have hxl := x.toNat_lt
      have LK := Lib.hid (show (l.take k).length = k by rw [List.length_take]; omega)
      obtain ⟨s0, es⟩ : ∃ s0, le (l.take k) = s0 := ⟨_, rfl⟩
      have ES := Lib.hid es
      rw [es]
      clear ex es
      have HF := Lib.hid (or_byte s0 x.toNat k (by have := le_lt (l.take k); rw [LK.out, ES.out] at this; exact this) hxl (by omega))
      go_wp2_with fail
      go_round
      case rel => exact ⟨k + 1, by go_num, by omega, by rw [HE.out, le_snoc, ES.out, LK.out]; exact congrArg _ HF.out⟩
      case measure => simp [intOf]; omega
    · obtain rfl : k = l.length := by omega
      have HR := Lib.hid (show l.take l.length = l from List.take_length)
      rw [HR.out]
      go_wp2_with fail
      go_ret
      exact ⟨rfl, rfl⟩

set_option maxRecDepth 100000 in
set_option maxHeartbeats 2000000 in
theorem byte_pro (g : Nat) (l : List UInt8) (s : Nat × Int) (w : World) (h : Cur w g l s.1 s.2) :
    Calls Tryd.prog 30 #[.pointer (some ⟨g, 0, none⟩)] w fun en w' => en = .returned (.int .u8 (le (pout l s 1) : Nat)) ∧ Cur w' g l (pst l s 1).1 (pst l s 1).2 ∧ w.grownBy w' (some g) := by
  have H := Lib.hid h
  have hl : (pout l s 1).length ≤ 1 := by
    unfold pout
    repeat' split
    all_goals first | (simp; done) | (rw [List.length_take]; exact Nat.min_le_left _ _)
  have HL := Lib.hid hl
  have hb := le_lt (pout l s 1)
  have hb2 : le (pout l s 1) < 256 := Nat.lt_of_lt_of_le hb (show 256 ^ _ ≤ 256 ^ 1 from Nat.pow_le_pow_right (by omega) hl)
  obtain ⟨x, ex⟩ : ∃ x, le (pout l s 1) = x := ⟨_, rfl⟩
  have EX := Lib.hid ex
  rw [ex] at hb2
  rw [ex]
  clear h hl hb ex
  have f1 : IntKind.u8.wrap (x : Int) = x := by rw [IntKind.wrap_u8']; omega
  go_enter Tryd.func30, Tryd.ntmps30
  go_wp2_with fail
  refine (piece_pro g l s 1 _ H.out (by decide)).mono ?_
  rintro e w1 ⟨v1, rfl, hr, hc, hg⟩
  have HR := Lib.hid hr
  have HC := Lib.hid hc
  have HG := Lib.hid hg
  clear hr hc hg
  go_wp2_with fail
  refine (lowest_pro _ _ _ HR.out (Nat.le_trans HL.out (by decide))).mono ?_
  rw [EX.out]
  rintro e w2 ⟨rfl, rfl⟩
  go_wp2_with fail
  go_ret
  exact ⟨rfl, HC.out, HG.out⟩
end Go.Proofs.YtcgeldmbndaocaaDoor
