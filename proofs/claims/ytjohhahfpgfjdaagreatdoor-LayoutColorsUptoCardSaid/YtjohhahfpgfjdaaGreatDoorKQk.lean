/- Layer 13: the document's Check of a sheet. -/
import Derived.Test.YtjohhahfpgfjdaaGreatDoorK10
import Derived.WalkMore
namespace Go.Proofs.YtjohhahfpgfjdaaGreatDoor.S6
open Go.RowKit
set_option linter.unusedVariables false

set_option maxRecDepth 100000 in
set_option maxHeartbeats 1000000 in
theorem find_ref (l : List Sty) (x : List UInt8) (v : Value) (w : World) (h : Sh w v l) :
    Calls Tryz.prog 36 #[v, .string (bs x)] w fun e w' => e = .returned (fndV (fnd l x)) ∧ w = w' := by
  obtain ⟨pa, cap, rfl, hc1, hc2⟩ := h.form
  unfold maxLen at hc2
  have HH := Lib.hid h
  clear h
  go_enter Tryz.func36, Tryz.ntmps36
  go_wp2_with fail
  go_loop [6] (fun i => ∃ k : Nat, k ≤ l.length ∧ i = .int .i64 k ∧ Hid (fndF x (l.drop k) k = fnd l x)) (fun i => l.length - (intOf i).toNat)
  case atStart => exact ⟨0, Nat.zero_le _, rfl, rfl⟩
  case round =>
    obtain ⟨k, hk, rfl, HF⟩ := hrel
    by_cases hlt : k < l.length
    · obtain ⟨b, off, rfl, c0, c1, c2, c3, c4⟩ := HH.out.cells hlt
      have hs := fndF_step (x := x) hlt
      by_cases he : (l[k]).nm = x
      · rw [if_pos he] at hs
        have hz : fnd l x = some k := HF.out.symm.trans hs
        have t1 : ((bs (gets l k).nm).toList == (bs x).toList) = true := by rw [bs_eq, gets_eq hlt]; simpa using he
        have HZ := Lib.hid hz
        clear hs he hz
        go_wp2_with fail
        go_ret2
        rw [HZ.out]
        exact ⟨rfl, rfl⟩
      · rw [if_neg he] at hs
        have hz := hs.symm.trans HF.out
        have t1 : ((bs (gets l k).nm).toList == (bs x).toList) = false := by rw [bs_eq, gets_eq hlt]; simpa using he
        have HZ := Lib.hid hz
        clear hs he hz
        go_wp2_with fail
        go_round
        case rel => exact ⟨k + 1, by omega, by go_num, HZ.out⟩
        case measure => simp [intOf]; omega
    · have hz : fnd l x = none := by rw [← HF.out]; exact fndF_end (by omega)
      have HZ := Lib.hid hz
      clear hz
      go_wp2_with fail
      go_ret2
      rw [HZ.out]
      exact ⟨rfl, rfl⟩

theorem isL_iff (c : UInt8) : isL c = true ↔ ¬ ((c.toNat : Int) < 97) ∧ ¬ ((122 : Int) < (c.toNat : Int)) := by
  have h1 : (97 ≤ c) ↔ 97 ≤ c.toNat := UInt8.le_iff_toNat_le
  have h2 : (c ≤ 122) ↔ c.toNat ≤ 122 := UInt8.le_iff_toNat_le
  simp [isL, h1, h2]
  omega
theorem all_take {p : UInt8 → Bool} {l : List UInt8} {k : Nat} (hk : k < l.length) (h : (l.take k).all p = true) (h2 : p l[k] = true) : (l.take (k + 1)).all p = true := by
  rw [take_next hk, List.all_append, h]; simp [h2]
theorem all_not {p : UInt8 → Bool} {l : List UInt8} {k : Nat} (hk : k < l.length) (h2 : p l[k] = false) : l.all p = false := by
  cases h : l.all p with
  | false => rfl
  | true =>
    have := List.all_eq_true.1 h _ (List.getElem_mem hk)
    rw [h2] at this; cases this
theorem name_no {l : List UInt8} (h : l.all isL = false) : nameB l = false := by simp [nameB, h]
theorem name_all {l : List UInt8} (h : l.all isL = true) : nameB l = (decide (1 ≤ (l.length : Int)) && decide ((l.length : Int) ≤ 12)) := by
  unfold nameB
  rw [h]
  cases l with
  | nil => rfl
  | cons a r =>
    have : (1 : Int) ≤ ((a :: r).length : Int) := by simp; omega
    simp only [this, decide_true, List.isEmpty_cons, Bool.not_false, Bool.true_and]
    rw [Bool.eq_iff_iff]; simp; omega

set_option maxRecDepth 100000 in
set_option maxHeartbeats 1000000 in
theorem name_ref (l : List UInt8) (w : World) (hl : l.length ≤ 9223372036854775807) :
    Calls Tryz.prog 35 #[.string (bs l)] w fun e w' => e = .returned (.bool (nameB l)) ∧ w = w' := by
  have hz := bs_len l
  go_enter Tryz.func35, Tryz.ntmps35
  go_wp2_with fail
  go_loop [3] (fun i => ∃ k : Nat, k ≤ l.length ∧ i = .int .i64 k ∧ Hid ((l.take k).all isL = true)) (fun i => l.length - (intOf i).toNat)
  case atStart => exact ⟨0, Nat.zero_le _, rfl, rfl⟩
  case round =>
    obtain ⟨k, hk, rfl, HA⟩ := hrel
    by_cases hlt : k < l.length
    · obtain ⟨c, hc⟩ : ∃ c, l[k] = c := ⟨_, rfl⟩
      have hix : ∀ hh, (bs l)[k]'hh = c := fun _ => hc
      have bk0 : 0 ≤ (k : Int) := by omega
      have hi := isL_iff c
      by_cases h1 : (c.toNat : Int) < 97
      · have HV := Lib.hid (name_no (all_not hlt (by rw [hc, Bool.eq_false_iff]; intro e; exact (hi.1 e).1 h1)))
        clear hc hi
        go_wp2_with fail
        go_ret
        rw [HV.out]
        exact ⟨rfl, rfl⟩
      · have t1 : decide ((c.toNat : Int) < 97) = false := by simpa using h1
        by_cases h2 : (122 : Int) < (c.toNat : Int)
        · have HV := Lib.hid (name_no (all_not hlt (by rw [hc, Bool.eq_false_iff]; intro e; exact (hi.1 e).2 h2)))
          clear hc hi h1
          go_wp2_with fail
          go_ret
          rw [HV.out]
          exact ⟨rfl, rfl⟩
        · have t2 : decide ((122 : Int) < (c.toNat : Int)) = false := by simpa using h2
          have HN := Lib.hid (all_take hlt HA.out (by rw [hc]; exact hi.2 ⟨h1, h2⟩))
          clear hc hi h1 h2
          go_wp2_with fail
          go_round
          case rel => exact ⟨k + 1, by omega, by go_num, HN⟩
          case measure => simp [intOf]; omega
    · have HV := Lib.hid (name_all (l := l) (by have := HA.out; rwa [List.take_of_length_le (by omega)] at this))
      obtain ⟨n, hn⟩ : ∃ n, l.length = n := ⟨_, rfl⟩
      rw [hn] at HV hz hlt hk hl
      rw [hn]
      by_cases h1 : (1 : Int) ≤ n
      · by_cases h2 : (n : Int) ≤ 12
        · go_wp2_with fail
          go_ret
          rw [HV.out]
          refine ⟨?_, rfl⟩
          simp [h1, h2]
        · have t2 : decide ((n : Int) ≤ 12) = false := by simpa using h2
          go_wp2_with fail
          go_ret
          rw [HV.out]
          refine ⟨?_, rfl⟩
          simp [h1, t2]
      · have t1 : decide ((1 : Int) ≤ (n : Int)) = false := by simpa using h1
        go_wp2_with fail
        go_ret
        rw [HV.out]
        refine ⟨?_, rfl⟩
        simp [t1]

set_option maxRecDepth 100000 in
set_option maxHeartbeats 4000000 in
theorem own_ref (c : Chg) (w : World) : Calls Tryz.prog 37 #[chgVal c] w (Says (.int .i64 (ownE c : Nat)) w) := by
  have hd : ownE c = if c.on < 0 ∨ c.off < 0 ∨ 127 < c.on ∨ 127 < c.off ∨ ¬ bits .and .i64 c.on c.off = 0 then 62 else if c.col < -1 ∨ 15 < c.col then 63 else 0 := rfl
  unfold chgVal
  by_cases a1 : c.on < 0
  · have HV := Lib.hid (hd.trans (if_pos (.inl a1)))
    clear hd
    go_enter Tryz.func37, Tryz.ntmps37
    go_wp2_with fail
    go_ret
    rw [HV.out]
    exact ⟨rfl, (Below.refl _ w).alloc (Nat.le_refl _) _⟩
  have t1 : decide (c.on < 0) = false := by simpa using a1
  by_cases a2 : c.off < 0
  · have HV := Lib.hid (hd.trans (if_pos (.inr (.inl a2))))
    clear hd
    go_enter Tryz.func37, Tryz.ntmps37
    go_wp2_with fail
    go_ret
    rw [HV.out]
    exact ⟨rfl, (Below.refl _ w).alloc (Nat.le_refl _) _⟩
  have t2 : decide (c.off < 0) = false := by simpa using a2
  by_cases a3 : (127 : Int) < c.on
  · have HV := Lib.hid (hd.trans (if_pos (.inr (.inr (.inl a3)))))
    clear hd
    go_enter Tryz.func37, Tryz.ntmps37
    go_wp2_with fail
    go_ret
    rw [HV.out]
    exact ⟨rfl, (Below.refl _ w).alloc (Nat.le_refl _) _⟩
  have t3 : decide ((127 : Int) < c.on) = false := by simpa using a3
  by_cases a4 : (127 : Int) < c.off
  · have HV := Lib.hid (hd.trans (if_pos (.inr (.inr (.inr (.inl a4))))))
    clear hd
    go_enter Tryz.func37, Tryz.ntmps37
    go_wp2_with fail
    go_ret
    rw [HV.out]
    exact ⟨rfl, (Below.refl _ w).alloc (Nat.le_refl _) _⟩
  have t4 : decide ((127 : Int) < c.off) = false := by simpa using a4
  by_cases a5 : ¬ bits .and .i64 c.on c.off = 0
  · have HV := Lib.hid (hd.trans (if_pos (.inr (.inr (.inr (.inr a5))))))
    have t5 := bne_t a5
    clear a5
    clear hd
    go_enter Tryz.func37, Tryz.ntmps37
    go_wp2_with fail
    go_ret
    rw [HV.out]
    exact ⟨rfl, (Below.refl _ w).alloc (Nat.le_refl _) _⟩
  have a5' := Classical.not_not.1 a5
  have t5 := bne_f a5'
  rw [if_neg (by rintro (h | h | h | h | h) <;> first | exact a1 h | exact a2 h | exact a3 h | exact a4 h | exact a5 h)] at hd
  clear a1 a2 a3 a4 a5 a5'
  by_cases a6 : c.col < -1
  · have HV := Lib.hid (hd.trans (if_pos (.inl a6)))
    clear hd
    go_enter Tryz.func37, Tryz.ntmps37
    go_wp2_with fail
    go_ret
    rw [HV.out]
    exact ⟨rfl, (Below.refl _ w).alloc (Nat.le_refl _) _⟩
  have t6 : decide (c.col < -1) = false := by simpa using a6
  by_cases a7 : (15 : Int) < c.col
  · have HV := Lib.hid (hd.trans (if_pos (.inr a7)))
    clear hd
    go_enter Tryz.func37, Tryz.ntmps37
    go_wp2_with fail
    go_ret
    rw [HV.out]
    exact ⟨rfl, (Below.refl _ w).alloc (Nat.le_refl _) _⟩
  have t7 : decide ((15 : Int) < c.col) = false := by simpa using a7
  have HV := Lib.hid (hd.trans (if_neg (by rintro (h | h) <;> first | exact a6 h | exact a7 h)))
  clear hd a6 a7
  go_enter Tryz.func37, Tryz.ntmps37
  go_wp2_with fail
  go_ret
  rw [HV.out]
  exact ⟨rfl, (Below.refl _ w).alloc (Nat.le_refl _) _⟩

/-- What chain comes to, at the n-th of a style and its parents. -/
def chR (l : List Sty) (n k : Nat) : Nat := if n = 1 then ck2 l k else if path l (9 - n) k = none then 65 else 0
theorem path_up {l : List Sty} {k j f : Nat} (h : upS l k = some j) : path l (f + 1) k = none ↔ path l f j = none := by
  simp only [path, h]; simp
theorem path_end {l : List Sty} {k f : Nat} (h : upS l k = none) : ¬ path l (f + 1) k = none := by
  simp only [path, h]; simp
theorem chR_root {l : List Sty} {n k : Nat} (h1 : 1 ≤ n) (h8 : n ≤ 8) (h : (gets l k).pr = []) : chR l n k = 0 := by
  have hu : upS l k = none := by unfold upS; rw [if_pos h]
  unfold chR
  by_cases e : n = 1
  · rw [if_pos e]
    unfold ck2
    rw [if_neg (fun x => x.1 h), if_neg (path_end (f := 7) hu)]
  · rw [if_neg e, show 9 - n = (8 - n) + 1 by omega, if_neg (path_end hu)]
theorem chR_no1 {l : List Sty} {k : Nat} (h : ¬ (gets l k).pr = []) (h2 : fnd l (gets l k).pr = none) : chR l 1 k = 64 := by
  unfold chR ck2; rw [if_pos rfl, if_pos ⟨h, h2⟩]
theorem chR_no {l : List Sty} {n k : Nat} (h1 : ¬ n = 1) (h0 : 1 ≤ n) (h8 : n ≤ 8) (h : ¬ (gets l k).pr = []) (h2 : fnd l (gets l k).pr = none) : chR l n k = 0 := by
  have hu : upS l k = none := by unfold upS; rw [if_neg h, h2]
  unfold chR
  rw [if_neg h1, show 9 - n = (8 - n) + 1 by omega, if_neg (path_end hu)]
theorem chR_far {l : List Sty} {k j : Nat} (h : ¬ (gets l k).pr = []) (h2 : fnd l (gets l k).pr = some j) : chR l 8 k = 65 := by
  have hu : upS l k = some j := by unfold upS; rw [if_neg h, h2]
  unfold chR
  rw [if_neg (by omega), if_pos ((path_up (f := 0) hu).2 rfl)]
theorem chR_up {l : List Sty} {n k j : Nat} (h1 : 1 ≤ n) (h8 : n < 8) (h : ¬ (gets l k).pr = []) (h2 : fnd l (gets l k).pr = some j) : chR l n k = chR l (n + 1) j := by
  have hu : upS l k = some j := by unfold upS; rw [if_neg h, h2]
  have e2 : chR l (n + 1) j = if path l (8 - n) j = none then 65 else 0 := by unfold chR; rw [if_neg (by omega), show 9 - (n + 1) = 8 - n by omega]
  rw [e2]
  unfold chR
  by_cases e : n = 1
  · subst e
    rw [if_pos rfl]
    unfold ck2
    rw [if_neg (fun x => by rw [h2] at x; cases x.2)]
    by_cases p : path l 7 j = none
    · rw [if_pos ((path_up hu).2 p), if_pos p]
    · rw [if_neg (fun x => p ((path_up hu).1 x)), if_neg p]
  · rw [if_neg e, show 9 - n = (8 - n) + 1 by omega]
    by_cases p : path l (8 - n) j = none
    · rw [if_pos ((path_up hu).2 p), if_pos p]
    · rw [if_neg (fun x => p ((path_up hu).1 x)), if_neg p]

set_option maxRecDepth 100000 in
set_option maxHeartbeats 4000000 in
theorem chain_ref (l : List Sty) (i : Nat) (v : Value) (w : World) (h : Sh w v l) (hi : i < l.length) :
    Calls Tryz.prog 38 #[v, .int .i64 i] w fun e w' => e = .returned (.int .i64 (ck2 l i : Nat)) ∧ w = w' := by
  obtain ⟨pa, cap, rfl, hc1, hc2⟩ := h.form
  unfold maxLen at hc2
  have HS := Lib.hid h
  clear h
  go_enter Tryz.func38, Tryz.ntmps38
  go_wp2_with fail
  go_loop [1, 5, 6, 7] (fun i' n _ _ => ∃ k m : Nat, i' = .int .i64 k ∧ n = .int .i64 m ∧ k < l.length ∧ 1 ≤ m ∧ m ≤ 8 ∧ Hid (ck2 l i = chR l m k)) (fun _ n _ _ => 9 - (intOf n).toNat)
  case atStart => exact ⟨i, 1, rfl, rfl, hi, Nat.le_refl _, by omega, rfl⟩
  case round =>
    obtain ⟨k, m, rfl, rfl, hk, hm1, hm8, HP⟩ := hrel
    obtain ⟨b, off, rfl, c0, c1, c2, c3, c4⟩ := HS.out.cells hk
    have h0 := @chR_root l m k hm1 hm8
    have h1 := @chR_no1 l k
    have h2 := @chR_no l m k
    have h3 := @chR_far l k
    have h4 := @chR_up l m k
    have HF := Lib.hid (find_ref l (gets l k).pr _ w HS.out)
    have hj := @fnd_some l (gets l k).pr
    obtain ⟨q, hq⟩ : ∃ q, (gets l k).pr = q := ⟨_, rfl⟩
    rw [hq] at c1 HF h0 h1 h2 h3 h4 hj
    obtain ⟨o, ho⟩ : ∃ o, fnd l q = o := ⟨_, rfl⟩
    rw [ho] at HF h1 h2 h3 h4 hj
    unfold fndV at HF
    have hk2 : (k : Int) < l.length := by omega
    clear c0 c2 c3 c4 hq ho
    by_cases hq0 : q = []
    · have HV := Lib.hid (HP.out.trans (h0 hq0))
      have tq : (bs q).toList = [] := by rw [bs_toList, hq0]
      clear h0 h1 h2 h3 h4 hj hq0
      go_wp2_with fail
      go_ret
      rw [HV.out]
      exact ⟨rfl, rfl⟩
    · have tq := bs_toList q
      have ne : q.isEmpty = false := by cases q with | nil => exact absurd rfl hq0 | cons a r => rfl
      rcases Option.eq_none_or_eq_some o with e | ⟨j, e⟩
      · have to : o.isSome = false := by simp [e]
        by_cases hm : m = 1
        · have HV := Lib.hid (show ck2 l i = 64 from HP.out.trans (by rw [hm]; exact h1 hq0 e))
          have tm : ((m : Int) == 1) = true := by simp; omega
          clear h0 h1 h2 h3 h4 hj hq0 e
          go_wp2_with fail
          refine HF.out.mono ?_
          rintro e w2 ⟨rfl, rfl⟩
          go_wp2_with fail
          go_ret
          rw [HV.out]
          exact ⟨rfl, rfl⟩
        · have HV := Lib.hid (HP.out.trans (h2 hm hm1 hm8 hq0 e))
          have tm : ((m : Int) == 1) = false := by simp; omega
          clear h0 h1 h2 h3 h4 hj hq0 e
          go_wp2_with fail
          refine HF.out.mono ?_
          rintro e w2 ⟨rfl, rfl⟩
          go_wp2_with fail
          go_ret
          rw [HV.out]
          exact ⟨rfl, rfl⟩
      · have to : o.isSome = true := by simp [e]
        have HG := Lib.hid (show o.getD 0 = j by simp [e])
        have HJ := Lib.hid (hj e).1
        by_cases hm : m = 8
        · have HV := Lib.hid (show ck2 l i = 65 from HP.out.trans (by rw [hm]; exact h3 hq0 e))
          have tm : (8 : Int) < (m : Int) + 1 := by omega
          clear h0 h1 h2 h3 h4 hj hq0 e
          go_wp2_with fail
          refine HF.out.mono ?_
          rintro e w2 ⟨rfl, rfl⟩
          go_wp2_with fail
          go_ret
          rw [HV.out]
          exact ⟨rfl, rfl⟩
        · have HN := Lib.hid (HP.out.trans (h4 hm1 (by omega) hq0 e))
          have tm : decide ((8 : Int) < (m : Int) + 1) = false := by simp; omega
          clear h0 h1 h2 h3 h4 hj hq0 e
          go_wp2_with fail
          refine HF.out.mono ?_
          rintro e w2 ⟨rfl, rfl⟩
          go_wp2_with fail
          go_round
          case rel => exact ⟨j, m + 1, by rw [HG.out], by go_num, HJ.out, by omega, by omega, HN⟩
          case measure => simp [intOf]; omega
theorem ck1_name {l : List Sty} {i : Nat} {s : Sty} (h : gets l i = s) (h2 : nameB s.nm = false) : ck1 l i = 60 := by subst h; unfold ck1; rw [if_pos h2]
theorem ck1_two {l : List Sty} {i j : Nat} {s : Sty} (h : gets l i = s) (h2 : nameB s.nm = true) (h3 : fnd l s.nm = some j) (h4 : j < i) : ck1 l i = 61 := by
  subst h; unfold ck1; rw [if_neg (by rw [h2]; decide), h3, if_pos (by simpa using h4)]
theorem ck1_own {l : List Sty} {i j : Nat} {s : Sty} (h : gets l i = s) (h2 : nameB s.nm = true) (h3 : fnd l s.nm = some j) (h4 : ¬ j < i) : ck1 l i = ownE s.ch := by
  subst h; unfold ck1; rw [if_neg (by rw [h2]; decide), h3, if_neg (by simpa using h4)]

set_option maxRecDepth 100000 in
set_option maxHeartbeats 4000000 in
theorem check_ref (l : List Sty) (v : Value) (w : World) (h : Sh w v l) (hf : Fit l) :
    Calls Tryz.prog 19 #[v] w (Says (ckV (checkM l)) w) := by
  obtain ⟨pa, cap, rfl, hc1, hc2⟩ := h.form
  unfold maxLen at hc2
  have HS := Lib.hid h
  have HFt := Lib.hid hf
  clear h hf
  by_cases h64 : 64 < l.length
  · have HV := Lib.hid (show checkM l = (0, 2) by unfold checkM; rw [if_pos h64])
    have h64' : (64 : Int) < l.length := by omega
    go_enter Tryz.func19, Tryz.ntmps19
    go_wp2_with fail
    go_ret2
    rw [HV.out]
    exact ⟨rfl, Below.refl _ _⟩
  have h64' : ¬ (64 : Int) < l.length := by omega
  have HM := Lib.hid (And.intro (fun p => @checkM_1 l p h64) (And.intro (fun p => @checkM_2 l p h64) (@checkM_0 l h64)))
  clear h64
  go_enter Tryz.func19, Tryz.ntmps19
  go_wp2_with fail
  go_loopw [4, 5, 6, 7] (fun i _ _ _ wr => ∃ k : Nat, k ≤ l.length ∧ i = .int .i64 k ∧ Hid (fb (ck1 l) (l.length - k) k = fb (ck1 l) l.length 0) ∧ Below w.heap.size w wr) (fun i _ _ _ _ => l.length - (intOf i).toNat)
  case atStart => exact ⟨0, Nat.zero_le _, rfl, rfl, Below.refl _ _⟩
  case round =>
    obtain ⟨k, hk, rfl, HF, hbw⟩ := hrel
    have HB := Lib.hid hbw
    clear hbw
    by_cases hlt : k < l.length
    · have hs := fb_step (f := ck1 l) hlt
      obtain ⟨n1, n2, n3, n4, n5⟩ := HFt.out.at hlt
      obtain ⟨b, off, rfl, c0, c1, c2, c3, c4⟩ := (HS.out.below HB.out).cells hlt
      obtain ⟨j, hj, hji⟩ := fnd_here (l := l) (x := (gets l k).nm) hlt (by rw [gets_eq hlt])
      have HFI := Lib.hid (find_ref l (gets l k).nm _ wr (HS.out.below HB.out))
      rw [hj] at HFI
      unfold fndV at HFI
      have HNM := Lib.hid (name_ref (gets l k).nm wr n1)
      have HOW := Lib.hid (own_ref (gets l k).ch wr)
      obtain ⟨s, hg⟩ : ∃ s, gets l k = s := ⟨_, rfl⟩
      have K1 := @ck1_name l k s hg
      have K2 := @ck1_two l k j s hg
      have K3 := @ck1_own l k j s hg
      rw [hg] at c0 c1 c2 c3 c4 hj HFI HNM HOW
      unfold chgVal at HOW
      have hlt2 : (k : Int) < l.length := by omega
      clear hg n1 n2 n3 n4 n5 hji
      by_cases hn : nameB s.nm = true
      · rw [hn] at HNM
        by_cases hlj : j < k
        · rw [K2 hn hj hlj, if_neg (by decide)] at hs
          have HV := Lib.hid (HM.out.1 _ (HF.out.symm.trans hs))
          clear K1 K2 K3 hs hn hj
          go_wp2_with fail
          refine HNM.out.mono ?_
          rintro e w2 ⟨rfl, rfl⟩
          go_wp2_with fail
          refine HFI.out.mono ?_
          rintro e w2 ⟨rfl, rfl⟩
          go_wp2_with fail
          go_ret2
          rw [HV.out]
          exact ⟨rfl, HB.out⟩
        · rw [K3 hn hj hlj] at hs
          obtain ⟨c, hc⟩ : ∃ c, ownE s.ch = c := ⟨_, rfl⟩
          rw [hc] at hs HOW
          by_cases hz : c = 0
          · rw [if_pos hz] at hs
            have HN := Lib.hid (hs.symm.trans HF.out)
            have t := nateq hz
            clear K1 K2 K3 hs hn hj hc hz
            go_wp2_with fail
            refine HNM.out.mono ?_
            rintro e w2 ⟨rfl, rfl⟩
            go_wp2_with fail
            refine HFI.out.mono ?_
            rintro e w2 ⟨rfl, rfl⟩
            go_wp2_with fail
            refine HOW.out.mono ?_
            rintro e w2 ⟨rfl, hb⟩
            have HB2 := Lib.hid (HB.out.trans (hb.mono HB.out.size))
            clear hb
            go_wp2_with fail
            go_roundw
            case rel => exact ⟨k + 1, by omega, by go_num, HN.out, HB2.out⟩
            case measure => simp [intOf]; omega
          · rw [if_neg hz] at hs
            have HV := Lib.hid (HM.out.1 _ (HF.out.symm.trans hs))
            have t := natne hz
            clear K1 K2 K3 hs hn hj hc hz
            go_wp2_with fail
            refine HNM.out.mono ?_
            rintro e w2 ⟨rfl, rfl⟩
            go_wp2_with fail
            refine HFI.out.mono ?_
            rintro e w2 ⟨rfl, rfl⟩
            go_wp2_with fail
            refine HOW.out.mono ?_
            rintro e w2 ⟨rfl, hb⟩
            have HB2 := Lib.hid (HB.out.trans (hb.mono HB.out.size))
            clear hb
            go_wp2_with fail
            go_ret2
            rw [HV.out]
            exact ⟨rfl, HB2.out⟩
      · have hn2 : nameB s.nm = false := by simpa using hn
        rw [hn2] at HNM
        rw [K1 hn2, if_neg (by decide)] at hs
        have HV := Lib.hid (HM.out.1 _ (HF.out.symm.trans hs))
        clear K1 K2 K3 hs hn hn2 hj
        go_wp2_with fail
        refine HNM.out.mono ?_
        rintro e w2 ⟨rfl, rfl⟩
        go_wp2_with fail
        go_ret2
        rw [HV.out]
        exact ⟨rfl, HB.out⟩
    · have he := fb_end (f := ck1 l) (n := l.length) (k := k) (by omega)
      have HE1 := Lib.hid (HF.out.symm.trans he)
      clear he HF
      obtain ⟨wo, hwo⟩ : ∃ wo : World, wo = wr := ⟨_, rfl⟩
      subst hwo
      go_wp2_with fail
      go_loopw [8, 9] (fun i _ wr => ∃ k : Nat, k ≤ l.length ∧ i = .int .i64 k ∧ Hid (fb (ck2 l) (l.length - k) k = fb (ck2 l) l.length 0) ∧ Below w.heap.size w wr) (fun i _ _ => l.length - (intOf i).toNat)
      case atStart => exact ⟨0, Nat.zero_le _, rfl, rfl, HB.out⟩
      case round =>
        obtain ⟨k2, hk2, rfl, HF, hbw⟩ := hrel
        have HB := Lib.hid hbw
        clear hbw
        by_cases hlt2 : k2 < l.length
        · have hs := fb_step (f := ck2 l) hlt2
          have HO := Lib.hid (chain_ref l k2 _ wr (HS.out.below HB.out) hlt2)
          obtain ⟨c, hc⟩ : ∃ c, ck2 l k2 = c := ⟨_, rfl⟩
          rw [hc] at hs HO
          by_cases hz : c = 0
          · rw [if_pos hz] at hs
            have HN := Lib.hid (hs.symm.trans HF.out)
            have t := nateq hz
            clear hs hc hz
            go_wp2_with fail
            refine HO.out.mono ?_
            rintro e w2 ⟨rfl, rfl⟩
            go_wp2_with fail
            go_roundw
            case rel => exact ⟨k2 + 1, by omega, by go_num, HN.out, HB.out⟩
            case measure => simp [intOf]; omega
          · rw [if_neg hz] at hs
            have HV := Lib.hid (HM.out.2.1 _ HE1.out (HF.out.symm.trans hs))
            have t := natne hz
            clear hs hc hz
            go_wp2_with fail
            refine HO.out.mono ?_
            rintro e w2 ⟨rfl, rfl⟩
            go_wp2_with fail
            go_ret2
            rw [HV.out]
            exact ⟨rfl, HB.out⟩
        · have he := fb_end (f := ck2 l) (n := l.length) (k := k2) (by omega)
          have HV := Lib.hid (HM.out.2.2 HE1.out (HF.out.symm.trans he))
          clear he
          go_wp2_with fail
          go_ret2
          rw [HV.out]
          exact ⟨rfl, HB.out⟩

end Go.Proofs.YtjohhahfpgfjdaaGreatDoor.S6
