/- The program's Compare of layer 2: by the letters, the marks, the case, the bytes. -/
import Derived.Test.YtoeknophfcfahaaGreatDoorPnxtn
import Derived.Test.YtoeknophfcfahaaGreatDoorCompn
namespace Go.Proofs.YtoeknophfcfahaaGreatDoor
open Go.RowKit Go.Maps

theorem nan_pro (r : Int) (w : World) : Calls Tryz.prog 142 #[.int .i32 r] w fun e w' => e = .returned (.bool false) ∧ w = w' := by
  go_enter Tryz.func142, Tryz.ntmps142
  go_wp2
  go_ret
  first | exact ⟨rfl, rfl⟩ | (refine ⟨ret_bool ?_, rfl⟩; simp)
theorem cmp32_pro (x y : Int) (w : World) : Calls Tryz.prog 111 #[.int .i32 x, .int .i32 y] w fun e w' => e = .returned (.int .i64 (sgn x y)) ∧ w = w' := by
  go_enter Tryz.func111, Tryz.ntmps111
  go_wp2_with (first | (go_at_call 142; refine (nan_pro _ _).mono ?_; rintro e w' ⟨rfl, rfl⟩))
  all_goals go_ret
  all_goals (refine ⟨ret_i ?_, rfl⟩; unfold sgn; repeat' split)
  all_goals omega
theorem cmpInt_sgn (x y : Int) : Lib.compareInt x y = sgn x y := rfl
theorem cmpBytes_is (a b : List UInt8) : Lib.compareBytes a b = cmpL byteCmp a b := by
  induction a generalizing b with
  | nil => cases b <;> rfl
  | cons x l ih =>
    cases b with
    | nil => rfl
    | cons y m =>
      simp only [Lib.compareBytes, cmpL, UInt8.lt_iff_toNat_lt]
      by_cases h1 : x.toNat < y.toNat
      · have e : byteCmp x y = -1 := by unfold byteCmp sgn; rw [if_pos (by omega)]
        rw [if_pos h1, if_neg (by rw [e]; decide), e]
      · by_cases h2 : y.toNat < x.toNat
        · have e : byteCmp x y = 1 := by unfold byteCmp sgn; rw [if_neg (by omega), if_pos (by omega)]
          rw [if_neg h1, if_pos h2, if_neg (by rw [e]; decide), e]
        · have e : byteCmp x y = 0 := by unfold byteCmp sgn; rw [if_neg (by omega), if_neg (by omega)]
          rw [if_neg h1, if_neg h2, if_pos e, ih]
theorem strcmp_pro (a b : ByteArray) (w : World) : Calls Tryz.prog 67 #[.string a, .string b] w fun e w' => e = .returned (.int .i64 (bytesCmp a b)) ∧ w = w' :=
  (Tryz.strings_Compare a b w).mono fun _ _ ⟨h1, h2⟩ => ⟨by rw [h1, cmpBytes_is]; rfl, h2.symm⟩
theorem icmp_pro (x y : Int) (w : World) : Calls Tryz.prog 140 #[.int .i64 x, .int .i64 y] w fun e w' => e = .returned (.int .i64 (sgn x y)) ∧ w = w' :=
  (Tryz.cmp_Compare_int x y w).mono fun _ _ ⟨h1, h2⟩ => ⟨h1, h2.symm⟩
theorem sgn_zero {a b : Int} (h : sgn a b = 0) : a = b := by
  unfold sgn at h
  repeat' split at h
  all_goals omega
/-- How two elements compare, whatever they are: by all three in turn. -/
theorem elCmp_turn {x y : El} (hx : ElFit x) (hy : ElFit y) : elCmp x y = if sgn x.cls y.cls ≠ 0 then sgn x.cls y.cls else if sgn x.code y.code ≠ 0 then sgn x.code y.code
    else if sgn x.digs.size y.digs.size ≠ 0 then sgn x.digs.size y.digs.size else bytesCmp x.digs y.digs := by
  unfold elCmp
  by_cases h1 : x.cls = y.cls
  · by_cases h2 : y.cls = 1
    · have c1 := hx.1 (by omega)
      have c2 := hy.1 h2
      by_cases h3 : x.digs.size = y.digs.size
      · simp [h1, h2, h3, c1, c2, sgn_self]
      · have h4 := sgn_ne (a := x.digs.size) (b := y.digs.size) (by omega)
        simp [h1, h2, h3, h4, c1, c2, sgn_self]
    · have d1 := hx.2.1 (by omega)
      have d2 := hy.2.1 h2
      by_cases h3 : sgn x.code y.code = 0
      · have h4 : bytesCmp ByteArray.empty ByteArray.empty = 0 := rfl
        simp [h1, h2, h3, h4, d1, d2, sgn_self]
      · simp [h1, h2, h3, sgn_self]
  · have h4 := sgn_ne h1
    simp [h1, h4]

set_option maxRecDepth 100000 in
set_option maxHeartbeats 2000000 in
theorem elcmp_pro (x y : El) (w : World) (hx : ElFit x) (hy : ElFit y) : Calls Tryz.prog 109 #[elV x, elV y] w (Says (.int .i64 (elCmp x y)) w) := by
  have hb : Below w.heap.size w ((w.alloc (.cells #[.int .i64 x.cls, .int .i32 x.code, .string x.digs] 196)).alloc (.cells #[.int .i64 y.cls, .int .i32 y.code, .string y.digs] 196)) := ((Below.refl _ w).alloc (Nat.le_refl _) _).alloc (by simp) _
  have HB := Lib.hid hb
  have HE := Lib.hid (elCmp_turn hx hy)
  clear hb hx hy
  unfold elV
  by_cases h1 : sgn x.cls y.cls = 0
  · have t1 : (sgn x.cls y.cls != 0) = false := by simpa using h1
    by_cases h2 : sgn x.code y.code = 0
    · have t2 : (sgn x.code y.code != 0) = false := by simpa using h2
      by_cases h3 : sgn x.digs.size y.digs.size = 0
      · have t3 : (sgn (x.digs.size : Int) y.digs.size != 0) = false := by simpa using h3
        have HF := Lib.hid (show elCmp x y = bytesCmp x.digs y.digs by rw [HE.out, if_neg (by simpa using h1), if_neg (by simpa using h2), if_neg (by simpa using h3)])
        clear h1 h2 h3
        go_enter Tryz.func109, Tryz.ntmps109
        go_wp2_with (first | (go_at_call 140; refine (icmp_pro _ _ _).mono ?_; rintro e w' ⟨rfl, rfl⟩) | (go_at_call 111; refine (cmp32_pro _ _ _).mono ?_; rintro e w' ⟨rfl, rfl⟩) | (go_at_call 67; refine (strcmp_pro _ _ _).mono ?_; rintro e w' ⟨rfl, rfl⟩))
        go_ret
        exact ⟨ret_i HF.out.symm, HB.out⟩
      · have t3 : (sgn (x.digs.size : Int) y.digs.size != 0) = true := by simpa using h3
        have HF := Lib.hid (show elCmp x y = sgn x.digs.size y.digs.size by rw [HE.out, if_neg (by simpa using h1), if_neg (by simpa using h2), if_pos h3])
        clear h1 h2 h3
        go_enter Tryz.func109, Tryz.ntmps109
        go_wp2_with (first | (go_at_call 140; refine (icmp_pro _ _ _).mono ?_; rintro e w' ⟨rfl, rfl⟩) | (go_at_call 111; refine (cmp32_pro _ _ _).mono ?_; rintro e w' ⟨rfl, rfl⟩))
        go_ret
        exact ⟨ret_i HF.out.symm, HB.out⟩
    · have t2 : (sgn x.code y.code != 0) = true := by simpa using h2
      have HF := Lib.hid (show elCmp x y = sgn x.code y.code by rw [HE.out, if_neg (by simpa using h1), if_pos h2])
      clear h1 h2
      go_enter Tryz.func109, Tryz.ntmps109
      go_wp2_with (first | (go_at_call 140; refine (icmp_pro _ _ _).mono ?_; rintro e w' ⟨rfl, rfl⟩) | (go_at_call 111; refine (cmp32_pro _ _ _).mono ?_; rintro e w' ⟨rfl, rfl⟩))
      go_ret
      exact ⟨ret_i HF.out.symm, HB.out⟩
  · have t1 : (sgn x.cls y.cls != 0) = true := by simpa using h1
    have HF := Lib.hid (show elCmp x y = sgn x.cls y.cls by rw [HE.out, if_pos h1])
    clear h1
    go_enter Tryz.func109, Tryz.ntmps109
    go_wp2_with (first | (go_at_call 140; refine (icmp_pro _ _ _).mono ?_; rintro e w' ⟨rfl, rfl⟩))
    go_ret
    exact ⟨ret_i HF.out.symm, HB.out⟩
end Go.Proofs.YtoeknophfcfahaaGreatDoor
