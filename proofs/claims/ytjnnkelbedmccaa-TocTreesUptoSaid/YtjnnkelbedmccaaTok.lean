/- Layer 10: what the laws themselves call: twin, ints, has; the chapter's first example. -/
import Derived.Test.YtjnnkelbedmccaaToj
import Derived.Lib.QuietBelow
import Derived.Maps.AppendAt
namespace Go.Proofs.Ytjnnkelbedmccaa
open Go.RowKit Go.Maps Go.Sort
set_option linter.unusedVariables false

def entRow (e : Ent) : List Value := [.int .i64 e.tp, .int .i64 e.lv]
def rowsE (l : List Ent) : List Value := l.flatMap entRow
theorem entRow_len (r : Ent) : (entRow r).length = 2 := rfl
theorem rowsE_len : ∀ l : List Ent, (rowsE l).length = l.length * 2
  | [] => rfl
  | r :: l => by
    have := rowsE_len l
    unfold rowsE at this ⊢
    rw [List.flatMap_cons, List.length_append, this, entRow_len, List.length_cons]
    omega
theorem rowsE_at : ∀ (l : List Ent) (j k : Nat) (hj : j < l.length), k < 2 → (rowsE l)[j * 2 + k]? = (entRow l[j])[k]?
  | [], j, k, hj, _ => absurd hj (by simp)
  | r :: l, 0, k, _, hk => by
    unfold rowsE
    rw [List.flatMap_cons, Nat.zero_mul, Nat.zero_add, List.getElem?_append_left (by rw [entRow_len]; exact hk)]
    rfl
  | r :: l, j + 1, k, hj, hk => by
    have h := rowsE_at l j k (by simpa using hj) hk
    unfold rowsE at h ⊢
    rw [List.flatMap_cons, List.getElem?_append_right (by rw [entRow_len]; omega), entRow_len, show (j + 1) * 2 + k - 2 = j * 2 + k by omega, h]
    simp
theorem rowsE_snoc (l : List Ent) (r : Ent) : rowsE (l ++ [r]) = rowsE l ++ entRow r := by simp [rowsE]
theorem rowsE_one (l : List Ent) : ∀ u ∈ rowsE l, u.oneCell' = true := by
  intro u hu
  obtain ⟨r, _, hr⟩ := List.mem_flatMap.1 hu
  simp only [entRow, List.mem_cons, List.not_mem_nil, or_false] at hr
  rcases hr with rfl | rfl <;> rfl
theorem RdE.own {W : World} {base : Nat} {v : Value} {l : List Ent} (h : W.ownsRow base 67 2 v l.length (rowsE l)) (hf : ∀ e ∈ l, FitE e) : RdE W v l := by
  rcases h.2 with ⟨rfl, h0⟩ | ⟨g, cap, cur, rfl, hb, hg, h1, h2, h3, h4⟩
  · have : l = [] := List.eq_nil_of_length_eq_zero h0
    subst this
    exact ⟨none, 0, rfl, Nat.le_refl _, Nat.zero_le _, hf, fun i hi => absurd hi (by simp)⟩
  · refine ⟨_, cap, rfl, h1, h2, hf, fun j hj => ⟨g, 0, rfl, ?_, ?_⟩⟩
    · rw [Nat.zero_add]
      have := World.ownsRow.cellAt h (j * 2 + 0) (by omega)
      rw [rowsE_at l j 0 hj (by omega)] at this
      exact this
    · rw [Nat.zero_add, World.ownsRow.cellAt h (j * 2 + 1) (by omega), rowsE_at l j 1 hj (by omega)]
      rfl
theorem run_append_nilL {P : Program} (w : World) (base : Nat) (t ty e : TypeId) (i : TypeInfo) (size : Nat) (ht : P.underlying t = some (.slice e)) (hi : P.info? e = some i)
    (v : Value) (n : Nat) (xs : List Value) (hown : w.ownsRow base e size v n xs) (c : Nat) : (Builtin.append_ #[t, t] ty #[v, .slice none 0 c]).run P w = .ok v w := by
  rcases hown.2 with ⟨rfl, rfl⟩ | ⟨g, cap, cur, rfl, _, _, hnc, _⟩
  · simp [Builtin.append_, run_underlying ht, sizeOf, typeInfo, hi, Builtin.lenOf, Builtin.firstCells]
  · simp [Builtin.append_, run_underlying ht, sizeOf, typeInfo, hi, Builtin.lenOf, Builtin.firstCells, hnc, storeCells]
theorem run_twin (w : World) (ty : TypeId) (l : List Ent) (v d : Value) (h : RdE w v l) (hl : l.length * 16 ≤ 140737488355328) (B : Nat) (hd : w.ownsRow B 67 2 d 0 []) (hB : B ≤ w.heap.size) :
    ∃ v' w', (Builtin.append_ #[34, 34] ty #[d, v]).run Try.prog w = .ok v' w' ∧ RdE w' v' l ∧ Below B w w' := by
  obtain ⟨i0, hi, hz0, hz1, hz2⟩ := info_parts infoE
  obtain ⟨pa, cap, rfl, h1, h2, hf, h4⟩ := h
  cases pa with
  | none =>
    have hx0 : l = [] := by
      rcases Nat.eq_zero_or_pos l.length with h0 | h0
      · exact List.eq_nil_of_length_eq_zero h0
      · obtain ⟨_, _, e, _⟩ := h4 0 h0
        cases e
    subst hx0
    exact ⟨_, _, run_append_nilL w B 34 ty 67 i0 2 Try.underlying34 hi d 0 [] hd cap, RdE.own (l := []) hd hf, Below.refl _ _⟩
  | some a =>
    have hn : ∀ j u, (rowsE l)[j]? = some u → w.cell? (a.add j) = some u := by
      intro j u hu
      have hj : j < l.length * 2 := by have := (List.getElem?_eq_some_iff.1 hu).1; rwa [rowsE_len] at this
      obtain ⟨b, off, e, hc, hd⟩ := h4 (j / 2) (by omega)
      cases e
      rw [show j = j / 2 * 2 + j % 2 by omega, rowsE_at l (j / 2) (j % 2) (by omega) (by omega)] at hu
      rcases (show j % 2 = 0 ∨ j % 2 = 1 by omega) with e | e
      · rw [e] at hu
        cases hu
        rw [Addr.add_lit, show off + j = off + j / 2 * 2 by omega]
        exact hc
      · rw [e] at hu
        cases hu
        rw [Addr.add_lit, show off + j = off + j / 2 * 2 + 1 by omega]
        exact hd
    obtain ⟨v', w', hr, ho, hg, _, _⟩ := run_append_own_at (P := Try.prog) w B 34 ty 67 i0 (.agg #[.int .i64 0, .int .i64 0]) 2 16 Try.underlying34 hi hz0 hz1 hz2 rfl (by decide) d 0 [] hd a l.length cap (rowsE l) (rowsE_len l) hn (rowsE_one l) (by unfold maxLen; omega) (by omega) hB
    exact ⟨v', w', hr, RdE.own (by simpa using ho) hf, (Below.refl B w).grown hg hB (fun k e => (own_base hd e).1)⟩
/-- A list of numbers that came in, or was made, is copied into new memory. -/
theorem run_twinZ (w : World) (ty : TypeId) (l : List Int) (xs : List Int) (v d : Value) (h : RdZ w v l) (hl : (xs.length + l.length) * 8 ≤ 140737488355328) (B : Nat) (hd : w.ownsRow B 3 1 d xs.length (numsZ xs)) (hB : B ≤ w.heap.size) :
    ∃ v' w', (Builtin.append_ #[28, 28] ty #[d, v]).run Try.prog w = .ok v' w' ∧ w'.ownsRow B 3 1 v' (xs ++ l).length (numsZ (xs ++ l)) ∧ Below B w w' := by
  obtain ⟨i0, hi, hz0, hz1, hz2⟩ := info_parts infoI
  obtain ⟨pa, cap, rfl, h1, h2, h4⟩ := h
  cases pa with
  | none =>
    have hx0 : l = [] := by
      rcases Nat.eq_zero_or_pos l.length with h0 | h0
      · exact List.eq_nil_of_length_eq_zero h0
      · obtain ⟨_, _, e, _⟩ := h4 0 h0
        cases e
    subst hx0
    exact ⟨_, _, run_append_nilL w B 28 ty 3 i0 1 Try.underlying28 hi d _ _ hd cap, by simpa using hd, Below.refl _ _⟩
  | some a =>
    have hn : ∀ j u, (numsZ l)[j]? = some u → w.cell? (a.add j) = some u := by
      intro j u hu
      have hj : j < l.length := by have := (List.getElem?_eq_some_iff.1 hu).1; rwa [numsZ_len] at this
      obtain ⟨b, off, e, hc⟩ := h4 j hj
      cases e
      rw [show ((⟨b, off, none⟩ : Addr).add j) = ⟨b, off + j, none⟩ by simp [Addr.add], hc]
      simpa [numsZ, hj] using hu
    obtain ⟨v', w', hr, ho, hg, _, _⟩ := run_append_own_at (P := Try.prog) w B 28 ty 3 i0 (.int .i64 0) 1 8 Try.underlying28 hi hz0 hz1 hz2 rfl (by decide) d xs.length (numsZ xs) hd a l.length cap (numsZ l) (by rw [numsZ_len, Nat.mul_one]) hn (numsZ_one l) (by unfold maxLen; omega) (by omega) hB
    exact ⟨v', w', hr, by rw [List.length_append, numsZ_app]; exact ho, (Below.refl B w).grown hg hB (fun k e => (own_base hd e).1)⟩
theorem wpList_app2 {W W' : World} {ops : Array Oper} {rest : List Oper} {o : Oper} {a : Act} {Q : Exit → Act → World → Prop} (hgd : o.guard = none) (s y : Operand) (t : TypeId)
    (ho : o.op = .call { callee := .builtin .append, args := #[s, y], argTypes := #[t, t] }) {v u v' : Value} (hs : a.eval s = v) (hy : a.eval y = u)
    (hr : (Builtin.append_ #[t, t] o.type #[v, u]).run Try.prog W = .ok v' W') (hK : wpList Try.prog ops Q rest (a.put o.dst v') W') : wpList Try.prog ops Q (o :: rest) a W := by
  refine wpList_plain hgd fun K hK' => ?_
  unfold Oper.wp execOp
  simp only [ho, resolve, invoke, builtin, Sem.run_bind, Sem.run_pure, Result.andThen_ok, List.map_toArray, List.map_cons, List.map_nil, hs, hy, hr]
  exact hK' _ _ hK
set_option maxRecDepth 100000 in
set_option maxHeartbeats 1000000 in
theorem twin_pro (l : List Ent) (v : Value) (w : World) (h : RdE w v l) (hl : l.length * 16 ≤ 140737488355328) :
    Calls Try.prog 15 #[v] w fun e w' => ∃ v', e = .returned v' ∧ RdE w' v' l ∧ Below w.heap.size w w' := by
  have hA : Below w.heap.size w (w.alloc (.cells #[] 67)) := (Below.refl _ w).alloc (Nat.le_refl _) _
  have hd : (w.alloc (.cells #[] 67)).ownsRow w.heap.size 67 2 (.slice (some ⟨w.heap.size, 0, none⟩) 0 0) 0 [] := ⟨rfl, .inr ⟨w.heap.size, 0, #[], rfl, Nat.le_refl _, World.alloc_heap_new w _, Nat.le_refl _, Nat.zero_le _, rfl, rfl⟩⟩
  obtain ⟨v', w', hr, hR, hb⟩ := run_twin (w.alloc (.cells #[] 67)) 34 l v _ (h.below hA) hl w.heap.size hd (by simp)
  obtain ⟨pa, cap, rfl, _, _⟩ := h.form
  have HR := Lib.hid hR
  have HB := Lib.hid (hA.trans hb)
  have HQ := Lib.hid hr
  clear h hA hd hR hb hr
  go_enter Try.func15, Try.ntmps15
  go_wp2_with (at_builtin; go_loud (refine wpList_app2 rfl _ _ _ rfl rfl rfl HQ.out ?_))
  go_ret
  exact ⟨v', rfl, HR.out, HB.out⟩
set_option maxRecDepth 100000 in
set_option maxHeartbeats 4000000 in
theorem ints_pro (zs : List Int) (v u : Value) (w : World) (hv : RdZ w v zs) (hu : RdZ w u zs) (hz : zs.length ≤ 1000000) : Calls Try.prog 25 #[v, u] w (SaysL (.bool true) w) := by
  obtain ⟨pa, ca, rfl, _, _⟩ := hv.form
  obtain ⟨pb, cb, rfl, _, _⟩ := hu.form
  have HV := Lib.hid hv
  have HU := Lib.hid hu
  have HZ := Lib.hid hz
  obtain ⟨n, hn⟩ : ∃ n, zs.length = n := ⟨_, rfl⟩
  have HN := Lib.hid hn
  rw [hn]
  rw [hn] at HV HU
  clear hv hu hz hn
  go_enter Try.func25, Try.ntmps25
  go_wp2_with fail
  go_loopw [5] (fun j wr => ∃ k : Nat, j = .int .i64 k ∧ k ≤ n ∧ Below w.heap.size w wr) (fun j _ => n - (intOf j).toNat)
  case atStart => exact ⟨0, rfl, Nat.zero_le _, Below.refl _ _⟩
  case round =>
    obtain ⟨k, rfl, hk, hB⟩ := hrel
    have HB := Lib.hid hB
    by_cases hlt : k < n
    · have hkz : k < zs.length := by rw [HN.out]; exact hlt
      obtain ⟨b1, o1, rfl, c1⟩ := (HV.out.below hB).cell hkz
      obtain ⟨b2, o2, rfl, c2⟩ := (HU.out.below hB).cell hkz
      have kr1 := cell_regrown c1
      have kr2 := cell_regrown c2
      have mixed : Try.prog.follows .mixedOrders = true := by kernel_rfl
      obtain ⟨d, hd⟩ : ∃ d, zs[k] = d := ⟨_, rfl⟩
      rw [hd] at kr1 kr2
      have k1 : (k : Int) < n := by omega
      have hzz := HZ.out
      have hnn := HN.out
      clear hB c1 c2 hd
      go_wp2_with fail
      refine wp_region_quiet_below mixed (by kernel_rfl) ?_
      repeat (quiet_step (fail))
      refine wpQuiet_nil ?_
      intro _ hw'
      obtain ⟨⟨dq, osq⟩, hw''⟩ := hw'
      subst hw''
      have HB6 := Lib.hid (HB.out.trans ((below_regrown wr dq osq).mono HB.out.size))
      clear kr1 kr2
      go_wp2_with fail
      go_roundw
      case measure => simp [intOf]; omega
      case rel => exact ⟨k + 1, by go_num, by omega, HB6.out⟩
    · obtain rfl : k = n := by omega
      have hlz : ¬ ((k : Int) < k) := by omega
      clear hB hlt
      go_wp2_with fail
      go_ret
      exact ⟨rfl, HB.out⟩
def fiveL : List Ent := [⟨4, 1⟩, ⟨0, 2⟩, ⟨2, 3⟩, ⟨7, 2⟩, ⟨1, 1⟩]
set_option maxRecDepth 100000 in
theorem five_pro (w : World) : Calls Try.prog 44 #[] w fun e w' => ∃ v, e = .returned v ∧ RdE w' v fiveL ∧ Below w.heap.size w w' := by
  have hA : Below w.heap.size w (w.alloc (.cells #[.int .i64 4, .int .i64 1, .int .i64 0, .int .i64 2, .int .i64 2, .int .i64 3, .int .i64 7, .int .i64 2, .int .i64 1, .int .i64 1] 67)) := (Below.refl _ w).alloc (Nat.le_refl _) _
  have HA := Lib.hid hA
  have hR : RdE (w.alloc (.cells #[.int .i64 4, .int .i64 1, .int .i64 0, .int .i64 2, .int .i64 2, .int .i64 3, .int .i64 7, .int .i64 2, .int .i64 1, .int .i64 1] 67)) (.slice (some ⟨w.heap.size, 0, none⟩) 5 5) fiveL :=
    RdE.own (base := w.heap.size) (l := fiveL) ⟨rfl, .inr ⟨w.heap.size, 5, _, rfl, Nat.le_refl _, World.alloc_heap_new w _, Nat.le_refl _, by decide, rfl, rfl⟩⟩ (by
      intro e he
      simp only [fiveL, List.mem_cons, List.not_mem_nil, or_false] at he
      rcases he with rfl | rfl | rfl | rfl | rfl <;> exact ⟨by decide, by decide⟩)
  have HR := Lib.hid hR
  clear hA hR
  go_enter Try.func44, Try.ntmps44
  go_wp2_with fail
  go_ret
  exact ⟨_, rfl, HR.out, HA.out⟩
theorem row_pair (w : World) (B : Nat) (h : B ≤ w.heap.size) (zs : List Int) (hm : zs.length ≤ maxLen) : RdZ (w.alloc (.cells (numsZ zs).toArray 3)) (.slice (some ⟨w.heap.size, 0, none⟩) zs.length zs.length) zs :=
  RdZ.own (base := w.heap.size) (n := zs.length) ⟨by rw [numsZ_len, Nat.mul_one], .inr ⟨w.heap.size, zs.length, _, rfl, Nat.le_refl _, World.alloc_heap_new w _, Nat.le_refl _, hm, by simp [numsZ_len], by rw [Nat.mul_one]; exact List.take_of_length_le (by simp [numsZ])⟩⟩ rfl
theorem five_par : parE fiveL 3 = (0, 0) := by decide +kernel
theorem five_kids : kidE fiveL 0 = 0 ∧ natZ (kidsM fiveL 0) = [1, 3] := by decide +kernel
theorem five_path : (entE fiveL 2).2 = 0 ∧ pathM fiveL (atF fiveL 2) = [4, 0, 2] := by decide +kernel
theorem five_next : besE fiveL 2 1 = (7, 0) := by decide +kernel
theorem five_prev : besE fiveL 4 (-1) = (0, 3) := by decide +kernel
set_option maxRecDepth 100000 in
set_option maxHeartbeats 1000000 in
theorem awake_law (w : World) : Calls Try.prog 13 #[] w (SaysL (.bool true) w) := by
  go_enter Try.func13, Try.ntmps13
  go_wp2_with fail
  refine (five_pro _).mono ?_
  rintro e w1 ⟨v1, rfl, hR, hb⟩
  have HB1 := Lib.hid hb
  have HQ := Lib.hid (par_pro _ _ 3 _ hR)
  rw [five_par] at HQ
  clear hR hb
  go_wp2_with fail
  refine HQ.out.mono ?_
  rintro e w2 ⟨rfl, hb⟩
  have HB2 := Lib.hid (HB1.out.trans (hb.mono HB1.out.size))
  clear hb HQ
  go_wp2_with fail
  refine (five_pro _).mono ?_
  rintro e w3 ⟨v3, rfl, hR, hb⟩
  have HB3 := Lib.hid (HB2.out.trans (hb.mono HB2.out.size))
  have HQ := Lib.hid (kids_pro _ _ 0 _ hR)
  rw [five_kids.1, if_pos rfl, five_kids.2] at HQ
  clear hR hb
  go_wp2_with fail
  refine HQ.out.mono ?_
  rintro e w4 ⟨vk, rfl, ho, hb⟩
  have HK := Lib.hid (RdZ.own ho rfl)
  have HB4 := Lib.hid (HB3.out.trans (hb.mono HB3.out.size))
  clear hb HQ ho
  go_wp2_with fail
  refine (five_pro _).mono ?_
  rintro e w5 ⟨v5, rfl, hR, hb⟩
  have HB5 := Lib.hid (HB4.out.trans (hb.mono HB4.out.size))
  have HK5 := Lib.hid (HK.out.below hb)
  have HQ := Lib.hid (path_pro _ _ 2 _ hR)
  rw [five_path.1, if_pos rfl, five_path.2] at HQ
  clear hR hb
  go_wp2_with fail
  refine HQ.out.mono ?_
  rintro e w6 ⟨vp, rfl, ho, hb⟩
  have HP := Lib.hid (RdZ.own ho rfl)
  have HB6 := Lib.hid (HB5.out.trans (hb.mono HB5.out.size))
  have HK6 := Lib.hid (HK5.out.below hb)
  clear hb HQ ho
  go_wp2_with fail
  refine (five_pro _).mono ?_
  rintro e w7 ⟨v7, rfl, hR, hb⟩
  have HB7 := Lib.hid (HB6.out.trans (hb.mono HB6.out.size))
  have HK7 := Lib.hid (HK6.out.below hb)
  have HP7 := Lib.hid (HP.out.below hb)
  have HQ := Lib.hid (next_pro _ _ 2 _ hR)
  rw [five_next] at HQ
  clear hR hb
  go_wp2_with fail
  refine HQ.out.mono ?_
  rintro e w8 ⟨rfl, hb⟩
  have HB8 := Lib.hid (HB7.out.trans (hb.mono HB7.out.size))
  have HK8 := Lib.hid (HK7.out.below hb)
  have HP8 := Lib.hid (HP7.out.below hb)
  clear hb HQ
  go_wp2_with fail
  refine (five_pro _).mono ?_
  rintro e w9 ⟨v9, rfl, hR, hb⟩
  have HB9 := Lib.hid (HB8.out.trans (hb.mono HB8.out.size))
  have HK9 := Lib.hid (HK8.out.below hb)
  have HP9 := Lib.hid (HP8.out.below hb)
  have HQ := Lib.hid (prev_pro _ _ 4 _ hR)
  rw [five_prev] at HQ
  clear hR hb
  go_wp2_with fail
  refine HQ.out.mono ?_
  rintro e wa ⟨rfl, hb⟩
  have HBa := Lib.hid (HB9.out.trans (hb.mono HB9.out.size))
  have HKa := Lib.hid (HK9.out.below hb)
  have HPa := Lib.hid (HP9.out.below hb)
  clear hb HQ HK HK5 HK6 HK7 HK8 HK9 HP HP7 HP8 HP9 HB1 HB2 HB3 HB4 HB5 HB6 HB7 HB8 HB9
  have HI1 := Lib.hid (ints_pro [1, 3] vk (.slice (some ⟨wa.heap.size, 0, none⟩) 2 2) (wa.alloc (.cells #[.int .i64 1, .int .i64 3] 3)) (HKa.out.below ((Below.refl _ wa).alloc (Nat.le_refl _) _)) (row_pair wa _ (Nat.le_refl _) [1, 3] (by decide)) (by decide))
  have HBb := Lib.hid (HBa.out.alloc HBa.out.size (.cells #[.int .i64 1, .int .i64 3] 3))
  have HPb := Lib.hid (HPa.out.below ((Below.refl _ wa).alloc (Nat.le_refl _) (.cells #[.int .i64 1, .int .i64 3] 3)))
  go_wp2_with fail
  refine HI1.out.mono ?_
  rintro e wb ⟨rfl, hb⟩
  have HBc := Lib.hid (HBb.out.trans (hb.mono HBb.out.size))
  have HPc := Lib.hid (HPb.out.below hb)
  have HI2 := Lib.hid (ints_pro [4, 0, 2] vp (.slice (some ⟨wb.heap.size, 0, none⟩) 3 3) (wb.alloc (.cells #[.int .i64 4, .int .i64 0, .int .i64 2] 3)) (HPc.out.below ((Below.refl _ wb).alloc (Nat.le_refl _) _)) (row_pair wb _ (Nat.le_refl _) [4, 0, 2] (by decide)) (by decide))
  have HBd := Lib.hid (HBc.out.alloc HBc.out.size (.cells #[.int .i64 4, .int .i64 0, .int .i64 2] 3))
  clear hb
  go_wp2_with fail
  refine HI2.out.mono ?_
  rintro e wc ⟨rfl, hb⟩
  have HBe := Lib.hid (HBd.out.trans (hb.mono HBd.out.size))
  clear hb
  go_wp2_with fail
  go_ret
  exact ⟨rfl, HBe.out⟩
end Go.Proofs.Ytjnnkelbedmccaa
