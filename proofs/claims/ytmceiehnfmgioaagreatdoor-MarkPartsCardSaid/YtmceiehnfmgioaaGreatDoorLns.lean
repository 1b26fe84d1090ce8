/- Lines of the document's answer for layer 4: it tells the lines of the plain model. -/
import Derived.Test.YtmceiehnfmgioaaGreatDoorLxh
import Derived.Test.YtmceiehnfmgioaaGreatDoorMChars
import Derived.Test.YtmceiehnfmgioaaGreatDoorMBld
namespace Go.Proofs.YtmceiehnfmgioaaGreatDoor
open Go.RowKit Go.Maps
set_option linter.unusedVariables false

/-- The lines from place i on, one having begun at b. -/
def lns (l : List UInt8) : Nat → Nat → Nat → List (List UInt8)
  | 0, _, _ => []
  | f + 1, i, b =>
    if i < l.length ∧ l[i]? ≠ some 10 then lns l f (i + 1) b
    else if i = l.length ∧ b = l.length then []
    else chop ((l.drop b).take (i - b)) :: lns l f (i + 1) (i + 1)
theorem cutNL_end : ∀ (p : List UInt8), (∀ x ∈ p, x ≠ 10) → cutNL p = (p, [])
  | [], _ => rfl
  | a :: p, h => by
    have ih := cutNL_end p (fun x hx => h x (List.mem_cons_of_mem _ hx))
    have ha : (a != 10) = true := by simpa using h a List.mem_cons_self
    unfold cutNL at ih ⊢
    rw [List.takeWhile_cons_of_pos (p := (· != 10)) ha, List.dropWhile_cons_of_pos (p := (· != 10)) ha]
    simp only [Prod.mk.injEq] at ih ⊢
    exact ⟨by rw [ih.1], ih.2⟩
theorem cutNL_mid : ∀ (p q : List UInt8), (∀ x ∈ p, x ≠ 10) → cutNL (p ++ 10 :: q) = (p, q)
  | [], q, _ => rfl
  | a :: p, q, h => by
    have ih := cutNL_mid p q (fun x hx => h x (List.mem_cons_of_mem _ hx))
    have ha : (a != 10) = true := by simpa using h a List.mem_cons_self
    unfold cutNL at ih ⊢
    rw [List.cons_append, List.takeWhile_cons_of_pos (p := (· != 10)) ha, List.dropWhile_cons_of_pos (p := (· != 10)) ha]
    simp only [Prod.mk.injEq] at ih ⊢
    exact ⟨by rw [ih.1], ih.2⟩
theorem piece_no {l : List UInt8} {b i : Nat} (h : ∀ j, b ≤ j → j < i → l[j]? ≠ some 10) : ∀ x ∈ (l.drop b).take (i - b), x ≠ 10 := by
  intro x hx e
  subst e
  obtain ⟨j, hj, hjx⟩ := List.mem_iff_getElem.1 hx
  have hj2 : j < i - b := by simp at hj; omega
  refine h (b + j) (by omega) (by omega) ?_
  have h1 := List.getElem?_eq_getElem hj
  rw [hjx, List.getElem?_take_of_lt hj2, List.getElem?_drop] at h1
  exact h1
theorem lns_lines (l : List UInt8) : ∀ (f i b : Nat), i + f = l.length + 1 → b ≤ i → (i ≤ l.length → ∀ j, b ≤ j → j < i → l[j]? ≠ some 10) → lns l f i b = if i ≤ l.length then lines (l.drop b) else []
  | 0, i, b, hf, hb, _ => by rw [if_neg (by omega)]; rfl
  | f + 1, i, b, hf, hb, hn => by
    have hi : i ≤ l.length := by omega
    rw [if_pos hi]
    unfold lns
    by_cases c1 : i < l.length ∧ l[i]? ≠ some 10
    · rw [if_pos c1, lns_lines l f (i + 1) b (by omega) (by omega) ?_, if_pos (by omega)]
      intro _ j h1 h2
      by_cases hj : j = i
      · subst hj; exact c1.2
      · exact hn hi j h1 (by omega)
    rw [if_neg c1]
    have hp := piece_no (l := l) (b := b) (i := i) (hn hi)
    by_cases c2 : i = l.length ∧ b = l.length
    · rw [if_pos c2, c2.2, List.drop_eq_nil_iff.2 (Nat.le_refl _), lines_nil]
    rw [if_neg c2, lns_lines l f (i + 1) (i + 1) (by omega) (Nat.le_refl _) (fun _ j h1 h2 => absurd h2 (by omega))]
    by_cases c3 : i < l.length
    · have h10 : l[i]? = some 10 := Classical.byContradiction fun h => c1 ⟨c3, h⟩
      have hd : l.drop b = (l.drop b).take (i - b) ++ 10 :: l.drop (i + 1) := by
        have h1 := (List.take_append_drop (i - b) (l.drop b)).symm
        rw [List.drop_drop, show b + (i - b) = i by omega] at h1
        rw [List.getElem?_eq_getElem c3] at h10
        rw [List.drop_eq_getElem_cons c3, Option.some.inj h10] at h1
        exact h1
      have hne : l.drop b ≠ [] := by rw [hd]; simp
      have hc := cutNL_mid _ (l.drop (i + 1)) hp
      rw [← hd] at hc
      rw [lines_cons _ hne, hc, if_pos (by omega)]
    · have hil : i = l.length := by omega
      have hne : l.drop b ≠ [] := by
        intro e
        have := List.drop_eq_nil_iff.1 e
        exact c2 ⟨hil, by omega⟩
      have hd : (l.drop b).take (i - b) = l.drop b := List.take_of_length_le (by rw [List.length_drop]; omega)
      have hc := cutNL_end _ hp
      rw [hd] at hc ⊢
      rw [lines_cons _ hne, hc, if_neg (by omega), lines_nil]
theorem lns_all (l : List UInt8) : lns l (l.length + 1) 0 0 = lines l := by
  rw [lns_lines l _ 0 0 (by omega) (Nat.le_refl _) (fun _ j _ h => absurd h (by omega)), if_pos (Nat.zero_le _)]
  rfl
theorem lns_more {l : List UInt8} {i : Nat} (h : i < l.length ∧ l[i]? ≠ some 10) (f b : Nat) : lns l (f + 1) i b = lns l f (i + 1) b := by
  show (if _ then _ else _) = _
  rw [if_pos h]
theorem lns_part {l : List UInt8} {i b : Nat} (h : ¬ (i < l.length ∧ l[i]? ≠ some 10)) (h2 : ¬ (i = l.length ∧ b = l.length)) (f : Nat) : lns l (f + 1) i b = chop ((l.drop b).take (i - b)) :: lns l f (i + 1) (i + 1) := by
  show (if _ then _ else _) = _
  rw [if_neg h, if_neg h2]
theorem lns_stop {l : List UInt8} (f : Nat) : lns l (f + 1) l.length l.length = [] := by
  show (if _ then _ else _) = _
  rw [if_neg (by omega), if_pos ⟨rfl, rfl⟩]
def strRows (ls : List (List UInt8)) : List Value := ls.map fun x => .string (bs x)
theorem strRows_snoc (ls : List (List UInt8)) (x : List UInt8) : strRows (ls ++ [x]) = strRows ls ++ [.string (bs x)] := by simp [strRows]
theorem infoStr : (Tryz.prog.info? 9).map (fun i => (i.zero, i.size, i.bytes)) = some (some (.string .empty), 1, 16) := by kernel_rfl
/-- What Lines answers: a new list that holds the lines. -/
def IsLines (l : List UInt8) (w : World) (e : Ending) (w' : World) : Prop :=
  ∃ v : Value, e = .returned v ∧ w'.ownsRow w.heap.size 9 1 v (lines l).length (strRows (lines l)) ∧ Below w.heap.size w w'
theorem get_at {l : List UInt8} {k : Nat} (h : k < (bs l).size) : l[k]? = some ((bs l)[k]'h) := by
  have h' : k < l.length := by rw [bs_size] at h; exact h
  rw [List.getElem?_eq_getElem h']
  rfl
theorem rel_line {l : List UInt8} {w wr w1 : World} {u v' : Value} {k f : Nat} {acc : List (List UInt8)} {y : List UInt8} {o : Obj} {x1 x2 : Int} (hx1 : x1 = (k : Int) + 1) (hx2 : x2 = (k : Int) + 1) (hk : k ≤ l.length) (hf : k + (f + 1) = l.length + 1) (hal : acc.length ≤ k)
    (hq : (acc ++ [y]) ++ lns l f (k + 1) (k + 1) = lines l) (ho : wr.ownsRow w.heap.size 9 1 u acc.length (strRows acc)) (hB : Below w.heap.size w wr)
    (hown : w1.ownsRow w.heap.size 9 1 v' (acc.length + 1) (strRows acc ++ [.string (bs y)])) (hg : (wr.alloc o).grownBy w1 u.ownBlock) :
    ∃ (k' d' fuel : Nat) (acc' : List (List UInt8)), Value.int .i64 x1 = .int .i64 k' ∧ Value.int .i64 x2 = .int .i64 d' ∧ d' ≤ k' ∧ k' ≤ l.length + 1 ∧ (k' = l.length + 1 → d' = k') ∧ k' + fuel = l.length + 1 ∧ acc'.length ≤ d' ∧ acc' ++ lns l fuel k' d' = lines l ∧
      w1.ownsRow w.heap.size 9 1 v' acc'.length (strRows acc') ∧ Below w.heap.size w w1 := by
  subst hx1 hx2
  refine ⟨k + 1, k + 1, f, acc ++ [y], by simp, by simp, Nat.le_refl _, by omega, fun _ => rfl, by omega, by simp; omega, hq, ?_, ?_⟩
  · rw [strRows_snoc, List.length_append]; exact hown
  · exact (hB.alloc hB.size o).grown hg (by have := hB.size; simp; omega) (fun j hj => (ho.lt j hj).1)
theorem chop_yes {p : List UInt8} (h : p.getLast? = some 13) : chop p = p.dropLast := by unfold chop; rw [if_pos h]
theorem chop_no {p : List UInt8} (h : p.getLast? ≠ some 13) : chop p = p := by unfold chop; rw [if_neg h]
theorem last_piece {l : List UInt8} {b k j : Nat} (hj : k = j + 1) (hb : b < k) (hk : k ≤ l.length) : ((l.drop b).take (k - b)).getLast? = l[j]? ∧ ((l.drop b).take (k - b)).dropLast = (l.drop b).take (j - b) := by
  subst hj
  have hlen : ((l.drop b).take (j + 1 - b)).length = j + 1 - b := by rw [List.length_take, List.length_drop]; omega
  refine ⟨?_, ?_⟩
  · rw [List.getLast?_eq_getElem?, hlen, List.getElem?_take_of_lt (by omega), List.getElem?_drop]
    congr 1; omega
  · rw [List.dropLast_eq_take, hlen, List.take_take]
    congr 1; omega

set_option maxRecDepth 100000 in
set_option maxHeartbeats 2000000 in
theorem lines_ref (l : List UInt8) (w : World) (hs : l.length ≤ 16777216) :
    Calls Tryz.prog 23 #[.string (bs l)] w (IsLines l w) := by
  obtain ⟨i0, hi, hz0, hz1, hz2⟩ := info_parts infoStr
  have z1 := bs_size l
  go_enter Tryz.func23, Tryz.ntmps23
  go_wp2_with fail
  go_loopw [3, 4, 5, 6] (fun u b i _ wr => ∃ (k d fuel : Nat) (acc : List (List UInt8)), i = .int .i64 k ∧ b = .int .i64 d ∧ d ≤ k ∧ k ≤ l.length + 1 ∧ (k = l.length + 1 → d = k) ∧ k + fuel = l.length + 1 ∧ acc.length ≤ d ∧ acc ++ lns l fuel k d = lines l ∧ wr.ownsRow w.heap.size 9 1 u acc.length (strRows acc) ∧ Below w.heap.size w wr) (fun _ _ i _ _ => l.length + 1 - (intOf i).toNat)
  case atStart => exact ⟨0, 0, l.length + 1, [], rfl, rfl, by omega, by omega, by omega, by omega, by simp, lns_all l, World.ownsRow_nil _ _ _ _, Below.refl _ _⟩
  case round =>
    obtain ⟨k, d, fuel, acc, rfl, rfl, hdk, hk, hkd, hf, hal, hacc, hown, hbw⟩ := hrel
    have HA := Lib.hid hacc
    have HW := Lib.hid hown
    have HB := Lib.hid hbw
    clear hacc hown hbw
    by_cases hle : k ≤ l.length
    · obtain ⟨f, rfl⟩ : ∃ f, fuel = f + 1 := ⟨fuel - 1, by omega⟩
      have HF := Lib.hid hf
      have HK := Lib.hid hkd
      have le1 : (k : Int) ≤ l.length := by omega
      clear hkd hf
      by_cases hwd : k < l.length ∧ l[k]? ≠ some 10
      · obtain ⟨hlt, hsp⟩ := hwd
        have HN := Lib.hid (HA.out.symm.trans (congrArg (acc ++ ·) (lns_more ⟨hlt, hsp⟩ f d)))
        have lt1 : (k : Int) < l.length := by omega
        have hsp2 : ∀ h : k < (bs l).size, ¬ ((((bs l)[k]'h).toNat : Int) = 10) := by
          intro h e
          have h1 := get_at h
          rw [h1] at hsp
          exact hsp (congrArg some (UInt8.toNat_inj.1 (by simpa using (by omega : ((bs l)[k]'h).toNat = 10))))
        have hsp3 := hsp2 (by rw [bs_size]; exact hlt)
        clear hsp
        go_wp2_with fail
        go_roundw
        case rel => exact ⟨k + 1, d, f, acc, by go_num, rfl, by omega, by omega, fun h => absurd h (by omega), by have := HF.out; omega, hal, HN.out.symm, HW.out, HB.out⟩
        case measure => simp [intOf]; omega
      · have z16 : (l.length : Int) ≤ 16777216 := by omega
        have ZK := Lib.hid (show wrap64 ((k : Int) + 1) = (k : Int) + 1 from IntWalk.wrap64_in _ (by omega))
        by_cases hst : k = l.length ∧ d = l.length
        · obtain ⟨rfl, rfl⟩ := hst
          have HF2 := Lib.hid (show acc = lines l by have := HA.out; rw [lns_stop] at this; simpa using this)
          clear hwd
          go_wp2_with fail
          go_ret
          exact ⟨_, rfl, HF2.out ▸ HW.out, HB.out⟩
        · have HQ := Lib.hid (show (acc ++ [chop ((l.drop d).take (k - d))]) ++ lns l f (k + 1) (k + 1) = lines l by have := HA.out; rw [lns_part hwd hst] at this; simpa using this)
          have B1 := Lib.hid (show acc.length + 1 ≤ maxLen by unfold maxLen; omega)
          have B2 := Lib.hid (show (acc.length + 1) * 16 ≤ 140737488355328 by omega)
          have B3 := Lib.hid (fun o => show w.heap.size ≤ (wr.alloc o).heap.size by have := HB.out.size; simp; omega)
          have dk1 : (d : Int) ≤ k := by omega
          by_cases hkl : k < l.length
          · have h10 : l[k]? = some 10 := Classical.byContradiction fun h => hwd ⟨hkl, h⟩
            have hx10 : ∀ h : k < (bs l).size, (bs l)[k]'h = 10 := fun h => Option.some.inj ((get_at h).symm.trans h10)
            have lt1 : (k : Int) < l.length := by omega
            have kl : ((k : Int) == l.length) = false := by rw [beq_eq_false_iff_ne]; omega
            clear hwd hst h10
            by_cases hdk2 : d < k
            · obtain ⟨j, hj⟩ : ∃ j, k = j + 1 := ⟨k - 1, by omega⟩
              obtain ⟨hl1, hl2⟩ := last_piece hj hdk2 hle
              have gt1 : (d : Int) < k := by omega
              have zj : wrap64 ((k : Int) - 1) = (j : Int) := by
                rw [IntWalk.wrap64_in _ (by omega)]; omega
              have zj2 : (k : Int) - 1 = (j : Int) := by omega
              have j0 : (j : Int) < l.length := by omega
              have j1 : (d : Int) ≤ j := by omega
              have j2 : (j : Int) ≤ l.length := by omega
              have hjs : j < (bs l).size := by rw [bs_size]; omega
              have hga := get_at hjs
              by_cases h13 : l[j]? = some 13
              · have HCH := Lib.hid (show chop ((l.drop d).take (k - d)) = (l.drop d).take (j - d) by rw [chop_yes (hl1.trans h13), hl2])
                have hx13 : ∀ h : j < (bs l).size, (bs l)[j]'h = 13 := fun h => Option.some.inj ((get_at h).symm.trans h13)
                clear hl1 hl2 h13 hga hj hjs
                have HX := Lib.hid (show (bs l).extract d j = bs (chop ((l.drop d).take (k - d))) by rw [bs_extract]; exact congrArg bs HCH.out.symm)
                clear HCH
                go_wp2_with (at_builtin; go_loud (refine wpList_append_own _ rfl _ _ 41 rfl w.heap.size 9 i0 (.string .empty) 1 16 Tryz.underlying41 hi hz0 hz1 hz2 rfl (by decide) _ _ _ rfl (HW.out.alloc _) ⟨wr.heap.size, 0, none⟩ 1 1 [.string ((bs l).extract d j)] rfl rfl (cells_one _ _ _) (by intro u hu; simp at hu; subst hu; rfl) B1.out B2.out (B3.out _) ?_); intro v' w1 hown' hgrow _; have HO1 := Lib.hid hown'; have HG1 := Lib.hid hgrow; clear hown' hgrow)
                go_roundw
                case rel => exact rel_line (by first | rfl | exact ZK.out) (by first | rfl | exact ZK.out) hle HF.out (by omega) HQ.out HW.out HB.out (by rw [← HX.out]; exact HO1.out) HG1.out
                case measure => (first | (simp [intOf]; done) | (simp [intOf]; omega) | (rw [ZK.out]; simp only [intOf]; omega))
              · have HCH := Lib.hid (show chop ((l.drop d).take (k - d)) = (l.drop d).take (k - d) by rw [chop_no (by rw [hl1]; exact h13)])
                have hx13 : ¬ ((((bs l)[j]'hjs).toNat : Int) = 13) := by
                  intro e
                  rw [hga] at h13
                  exact h13 (congrArg some (UInt8.toNat_inj.1 (by simpa using (by omega : ((bs l)[j]'hjs).toNat = 13))))
                clear hl1 hl2 h13 hga hj
                have HX := Lib.hid (show (bs l).extract d k = bs (chop ((l.drop d).take (k - d))) by rw [bs_extract]; exact congrArg bs HCH.out.symm)
                clear HCH
                go_wp2_with (at_builtin; go_loud (refine wpList_append_own _ rfl _ _ 41 rfl w.heap.size 9 i0 (.string .empty) 1 16 Tryz.underlying41 hi hz0 hz1 hz2 rfl (by decide) _ _ _ rfl (HW.out.alloc _) ⟨wr.heap.size, 0, none⟩ 1 1 [.string ((bs l).extract d k)] rfl rfl (cells_one _ _ _) (by intro u hu; simp at hu; subst hu; rfl) B1.out B2.out (B3.out _) ?_); intro v' w1 hown' hgrow _; have HO1 := Lib.hid hown'; have HG1 := Lib.hid hgrow; clear hown' hgrow)
                go_roundw
                case rel => exact rel_line (by first | rfl | exact ZK.out) (by first | rfl | exact ZK.out) hle HF.out (by omega) HQ.out HW.out HB.out (by rw [← HX.out]; exact HO1.out) HG1.out
                case measure => (first | (simp [intOf]; done) | (simp [intOf]; omega) | (rw [ZK.out]; simp only [intOf]; omega))
            · obtain rfl : d = k := by omega
              have gt1 : ¬ (d : Int) < d := by omega
              have HCH := Lib.hid (show chop ((l.drop d).take (d - d)) = (l.drop d).take (d - d) by rw [Nat.sub_self]; rfl)
              have HX := Lib.hid (show ByteArray.empty = bs (chop ((l.drop d).take (d - d))) by rw [Nat.sub_self]; rfl)
              clear HCH
              go_wp2_with (at_builtin; go_loud (refine wpList_append_own _ rfl _ _ 41 rfl w.heap.size 9 i0 (.string .empty) 1 16 Tryz.underlying41 hi hz0 hz1 hz2 rfl (by decide) _ _ _ rfl (HW.out.alloc _) ⟨wr.heap.size, 0, none⟩ 1 1 [.string ByteArray.empty] rfl rfl (cells_one _ _ _) (by intro u hu; simp at hu; subst hu; rfl) B1.out B2.out (B3.out _) ?_); intro v' w1 hown' hgrow _; have HO1 := Lib.hid hown'; have HG1 := Lib.hid hgrow; clear hown' hgrow)
              go_roundw
              case rel => exact rel_line (by first | rfl | exact ZK.out) (by first | rfl | exact ZK.out) hle HF.out (by omega) HQ.out HW.out HB.out (by rw [← HX.out]; exact HO1.out) HG1.out
              case measure => (first | (simp [intOf]; done) | (simp [intOf]; omega) | (rw [ZK.out]; simp only [intOf]; omega))
          · have lt1 : ¬ (k : Int) < l.length := by omega
            have kl : ((k : Int) == l.length) = true := by rw [beq_iff_eq]; omega
            have dl : ((d : Int) == l.length) = false := by rw [beq_eq_false_iff_ne]; omega
            clear hwd hst
            by_cases hdk2 : d < k
            · obtain ⟨j, hj⟩ : ∃ j, k = j + 1 := ⟨k - 1, by omega⟩
              obtain ⟨hl1, hl2⟩ := last_piece hj hdk2 hle
              have gt1 : (d : Int) < k := by omega
              have zj : wrap64 ((k : Int) - 1) = (j : Int) := by
                rw [IntWalk.wrap64_in _ (by omega)]; omega
              have zj2 : (k : Int) - 1 = (j : Int) := by omega
              have j0 : (j : Int) < l.length := by omega
              have j1 : (d : Int) ≤ j := by omega
              have j2 : (j : Int) ≤ l.length := by omega
              have hjs : j < (bs l).size := by rw [bs_size]; omega
              have hga := get_at hjs
              by_cases h13 : l[j]? = some 13
              · have HCH := Lib.hid (show chop ((l.drop d).take (k - d)) = (l.drop d).take (j - d) by rw [chop_yes (hl1.trans h13), hl2])
                have hx13 : ∀ h : j < (bs l).size, (bs l)[j]'h = 13 := fun h => Option.some.inj ((get_at h).symm.trans h13)
                clear hl1 hl2 h13 hga hj hjs
                have HX := Lib.hid (show (bs l).extract d j = bs (chop ((l.drop d).take (k - d))) by rw [bs_extract]; exact congrArg bs HCH.out.symm)
                clear HCH
                go_wp2_with (at_builtin; go_loud (refine wpList_append_own _ rfl _ _ 41 rfl w.heap.size 9 i0 (.string .empty) 1 16 Tryz.underlying41 hi hz0 hz1 hz2 rfl (by decide) _ _ _ rfl (HW.out.alloc _) ⟨wr.heap.size, 0, none⟩ 1 1 [.string ((bs l).extract d j)] rfl rfl (cells_one _ _ _) (by intro u hu; simp at hu; subst hu; rfl) B1.out B2.out (B3.out _) ?_); intro v' w1 hown' hgrow _; have HO1 := Lib.hid hown'; have HG1 := Lib.hid hgrow; clear hown' hgrow)
                go_roundw
                case rel => exact rel_line (by first | rfl | exact ZK.out) (by first | rfl | exact ZK.out) hle HF.out (by omega) HQ.out HW.out HB.out (by rw [← HX.out]; exact HO1.out) HG1.out
                case measure => (first | (simp [intOf]; done) | (simp [intOf]; omega) | (rw [ZK.out]; simp only [intOf]; omega))
              · have HCH := Lib.hid (show chop ((l.drop d).take (k - d)) = (l.drop d).take (k - d) by rw [chop_no (by rw [hl1]; exact h13)])
                have hx13 : ¬ ((((bs l)[j]'hjs).toNat : Int) = 13) := by
                  intro e
                  rw [hga] at h13
                  exact h13 (congrArg some (UInt8.toNat_inj.1 (by simpa using (by omega : ((bs l)[j]'hjs).toNat = 13))))
                clear hl1 hl2 h13 hga hj
                have HX := Lib.hid (show (bs l).extract d k = bs (chop ((l.drop d).take (k - d))) by rw [bs_extract]; exact congrArg bs HCH.out.symm)
                clear HCH
                go_wp2_with (at_builtin; go_loud (refine wpList_append_own _ rfl _ _ 41 rfl w.heap.size 9 i0 (.string .empty) 1 16 Tryz.underlying41 hi hz0 hz1 hz2 rfl (by decide) _ _ _ rfl (HW.out.alloc _) ⟨wr.heap.size, 0, none⟩ 1 1 [.string ((bs l).extract d k)] rfl rfl (cells_one _ _ _) (by intro u hu; simp at hu; subst hu; rfl) B1.out B2.out (B3.out _) ?_); intro v' w1 hown' hgrow _; have HO1 := Lib.hid hown'; have HG1 := Lib.hid hgrow; clear hown' hgrow)
                go_roundw
                case rel => exact rel_line (by first | rfl | exact ZK.out) (by first | rfl | exact ZK.out) hle HF.out (by omega) HQ.out HW.out HB.out (by rw [← HX.out]; exact HO1.out) HG1.out
                case measure => (first | (simp [intOf]; done) | (simp [intOf]; omega) | (rw [ZK.out]; simp only [intOf]; omega))
            · obtain rfl : d = k := by omega
              have gt1 : ¬ (d : Int) < d := by omega
              have HCH := Lib.hid (show chop ((l.drop d).take (d - d)) = (l.drop d).take (d - d) by rw [Nat.sub_self]; rfl)
              have HX := Lib.hid (show ByteArray.empty = bs (chop ((l.drop d).take (d - d))) by rw [Nat.sub_self]; rfl)
              clear HCH
              go_wp2_with (at_builtin; go_loud (refine wpList_append_own _ rfl _ _ 41 rfl w.heap.size 9 i0 (.string .empty) 1 16 Tryz.underlying41 hi hz0 hz1 hz2 rfl (by decide) _ _ _ rfl (HW.out.alloc _) ⟨wr.heap.size, 0, none⟩ 1 1 [.string ByteArray.empty] rfl rfl (cells_one _ _ _) (by intro u hu; simp at hu; subst hu; rfl) B1.out B2.out (B3.out _) ?_); intro v' w1 hown' hgrow _; have HO1 := Lib.hid hown'; have HG1 := Lib.hid hgrow; clear hown' hgrow)
              go_roundw
              case rel => exact rel_line (by first | rfl | exact ZK.out) (by first | rfl | exact ZK.out) hle HF.out (by omega) HQ.out HW.out HB.out (by rw [← HX.out]; exact HO1.out) HG1.out
              case measure => (first | (simp [intOf]; done) | (simp [intOf]; omega) | (rw [ZK.out]; simp only [intOf]; omega))
    · obtain rfl : k = l.length + 1 := by omega
      obtain rfl : fuel = 0 := by omega
      have HF := Lib.hid (show acc = lines l by have := HA.out; simpa [lns] using this)
      clear hf hkd
      go_wp2_with fail
      go_ret
      exact ⟨_, rfl, HF.out ▸ HW.out, HB.out⟩
end Go.Proofs.YtmceiehnfmgioaaGreatDoor
