/- Layer 8: what the laws themselves call: twin, ints, has, pairs. -/
import Derived.Test.YtjgcbobalmmjkaaLkz
import Derived.Lib.QuietBelow
import Derived.Maps.AppendAt
namespace Go.Proofs.Ytjgcbobalmmjkaa
open Go.RowKit Go.Maps Go.Sort
set_option linter.unusedVariables false

def rowsR (l : List Rf) : List Value := l.flatMap rfRow
theorem rfRow_len (r : Rf) : (rfRow r).length = 6 := rfl
theorem rowsR_len : ∀ l : List Rf, (rowsR l).length = l.length * 6
  | [] => rfl
  | r :: l => by
    have := rowsR_len l
    unfold rowsR at this ⊢
    rw [List.flatMap_cons, List.length_append, this, rfRow_len, List.length_cons]
    omega
theorem rowsR_at : ∀ (l : List Rf) (j k : Nat) (hj : j < l.length), k < 6 → (rowsR l)[j * 6 + k]? = (rfRow l[j])[k]?
  | [], j, k, hj, _ => absurd hj (by simp)
  | r :: l, 0, k, _, hk => by
    unfold rowsR
    rw [List.flatMap_cons, Nat.zero_mul, Nat.zero_add, List.getElem?_append_left (by rw [rfRow_len]; exact hk)]
    rfl
  | r :: l, j + 1, k, hj, hk => by
    have h := rowsR_at l j k (by simpa using hj) hk
    unfold rowsR at h ⊢
    rw [List.flatMap_cons, List.getElem?_append_right (by rw [rfRow_len]; omega), rfRow_len, show (j + 1) * 6 + k - 6 = j * 6 + k by omega, h]
    simp
theorem rowsR_snoc (l : List Rf) (r : Rf) : rowsR (l ++ [r]) = rowsR l ++ rfRow r := by simp [rowsR]
theorem rowsR_one (l : List Rf) : ∀ u ∈ rowsR l, u.oneCell' = true := by
  intro u hu
  obtain ⟨r, _, hr⟩ := List.mem_flatMap.1 hu
  simp only [rfRow, List.mem_cons, List.not_mem_nil, or_false] at hr
  rcases hr with rfl | rfl | rfl | rfl | rfl | rfl <;> rfl
theorem RdR.own {W : World} {base : Nat} {v : Value} {l : List Rf} (h : W.ownsRow base 45 6 v l.length (rowsR l)) : RdR W v l := by
  rcases h.2 with ⟨rfl, h0⟩ | ⟨g, cap, cur, rfl, hb, hg, h1, h2, h3, h4⟩
  · have : l = [] := List.eq_nil_of_length_eq_zero h0
    subst this
    exact ⟨none, 0, rfl, Nat.le_refl _, Nat.zero_le _, fun i hi => absurd hi (by simp)⟩
  · refine ⟨_, cap, rfl, h1, h2, fun j hj => ⟨g, 0, rfl, fun k u hu => ?_⟩⟩
    have hk : k < 6 := by have := (List.getElem?_eq_some_iff.1 hu).1; rwa [rfRow_len] at this
    rw [Nat.zero_add, World.ownsRow.cellAt h (j * 6 + k) (by omega), rowsR_at l j k hj hk]
    exact hu
theorem run_append_nilL {P : Program} (w : World) (base : Nat) (t ty e : TypeId) (i : TypeInfo) (size : Nat) (ht : P.underlying t = some (.slice e)) (hi : P.info? e = some i)
    (v : Value) (n : Nat) (xs : List Value) (hown : w.ownsRow base e size v n xs) (c : Nat) : (Builtin.append_ #[t, t] ty #[v, .slice none 0 c]).run P w = .ok v w := by
  rcases hown.2 with ⟨rfl, rfl⟩ | ⟨g, cap, cur, rfl, _, _, hnc, _⟩
  · simp [Builtin.append_, run_underlying ht, sizeOf, typeInfo, hi, Builtin.lenOf, Builtin.firstCells]
  · simp [Builtin.append_, run_underlying ht, sizeOf, typeInfo, hi, Builtin.lenOf, Builtin.firstCells, hnc, storeCells]
theorem run_twin (w : World) (ty : TypeId) (l : List Rf) (v d : Value) (h : RdR w v l) (hl : l.length * 56 ≤ 140737488355328) (B : Nat) (hd : w.ownsRow B 45 6 d 0 []) (hB : B ≤ w.heap.size) :
    ∃ v' w', (Builtin.append_ #[22, 22] ty #[d, v]).run Try.prog w = .ok v' w' ∧ RdR w' v' l ∧ Below B w w' := by
  obtain ⟨i0, hi, hz0, hz1, hz2⟩ := info_parts infoR
  obtain ⟨pa, cap, rfl, h1, h2, h4⟩ := h
  cases pa with
  | none =>
    have hx0 : l = [] := by
      rcases Nat.eq_zero_or_pos l.length with h0 | h0
      · exact List.eq_nil_of_length_eq_zero h0
      · obtain ⟨_, _, e, _⟩ := h4 0 h0
        cases e
    subst hx0
    exact ⟨_, _, run_append_nilL w B 22 ty 45 i0 6 Try.underlying22 hi d 0 [] hd cap, RdR.own (l := []) hd, Below.refl _ _⟩
  | some a =>
    have hn : ∀ j u, (rowsR l)[j]? = some u → w.cell? (a.add j) = some u := by
      intro j u hu
      have hj : j < l.length * 6 := by have := (List.getElem?_eq_some_iff.1 hu).1; rwa [rowsR_len] at this
      obtain ⟨b, off, e, hc⟩ := h4 (j / 6) (by omega)
      cases e
      have h9 := hc (j % 6) u (by rw [← rowsR_at l (j / 6) (j % 6) (by omega) (by omega), show j / 6 * 6 + j % 6 = j by omega]; exact hu)
      rw [show ((⟨b, off, none⟩ : Addr).add j) = ⟨b, off + j / 6 * 6 + j % 6, none⟩ from by
        rw [show off + j / 6 * 6 + j % 6 = off + j by omega]
        simp [Addr.add]]
      exact h9
    obtain ⟨v', w', hr, ho, hg, _, _⟩ := run_append_own_at (P := Try.prog) w B 22 ty 45 i0 (.agg #[.int .i64 0, .int .i64 0, .int .i64 0, .string .empty, .int .i64 0, .int .i64 0]) 6 56 Try.underlying22 hi hz0 hz1 hz2 rfl (by decide) d 0 [] hd a l.length cap (rowsR l) (rowsR_len l) hn (rowsR_one l) (by unfold maxLen; omega) (by omega) hB
    exact ⟨v', w', hr, RdR.own (by simpa using ho), (Below.refl B w).grown hg hB (fun k e => (own_base hd e).1)⟩
theorem wpList_app2 {W W' : World} {ops : Array Oper} {rest : List Oper} {o : Oper} {a : Act} {Q : Exit → Act → World → Prop} (hgd : o.guard = none) (s y : Operand) (t : TypeId)
    (ho : o.op = .call { callee := .builtin .append, args := #[s, y], argTypes := #[t, t] }) {v u v' : Value} (hs : a.eval s = v) (hy : a.eval y = u)
    (hr : (Builtin.append_ #[t, t] o.type #[v, u]).run Try.prog W = .ok v' W') (hK : wpList Try.prog ops Q rest (a.put o.dst v') W') : wpList Try.prog ops Q (o :: rest) a W := by
  refine wpList_plain hgd fun K hK' => ?_
  unfold Oper.wp execOp
  simp only [ho, resolve, invoke, builtin, Sem.run_bind, Sem.run_pure, Result.andThen_ok, List.map_toArray, List.map_cons, List.map_nil, hs, hy, hr]
  exact hK' _ _ hK
set_option maxRecDepth 100000 in
set_option maxHeartbeats 1000000 in
theorem twin_pro (l : List Rf) (v : Value) (w : World) (h : RdR w v l) (hl : l.length * 56 ≤ 140737488355328) :
    Calls Try.prog 7 #[v] w fun e w' => ∃ v', e = .returned v' ∧ RdR w' v' l ∧ Below w.heap.size w w' := by
  have hA : Below w.heap.size w (w.alloc (.cells #[] 45)) := (Below.refl _ w).alloc (Nat.le_refl _) _
  have hd : (w.alloc (.cells #[] 45)).ownsRow w.heap.size 45 6 (.slice (some ⟨w.heap.size, 0, none⟩) 0 0) 0 [] := ⟨rfl, .inr ⟨w.heap.size, 0, #[], rfl, Nat.le_refl _, World.alloc_heap_new w _, Nat.le_refl _, Nat.zero_le _, rfl, rfl⟩⟩
  obtain ⟨v', w', hr, hR, hb⟩ := run_twin (w.alloc (.cells #[] 45)) 22 l v _ (h.below hA) hl w.heap.size hd (by simp)
  obtain ⟨pa, cap, rfl, _, _⟩ := h.form
  have HR := Lib.hid hR
  have HB := Lib.hid (hA.trans hb)
  have HQ := Lib.hid hr
  clear h hA hd hR hb hr
  go_enter Try.func7, Try.ntmps7
  go_wp2_with (at_builtin; go_loud (refine wpList_app2 rfl _ _ _ rfl rfl rfl HQ.out ?_))
  go_ret
  exact ⟨v', rfl, HR.out, HB.out⟩
set_option maxRecDepth 100000 in
set_option maxHeartbeats 1000000 in
theorem has_pro (zs : List Nat) (v : Value) (x : Int) (w : World) (h : RdI w v zs) (hz : zs.length ≤ 1000000) :
    Calls Try.prog 19 #[v, .int .i64 x] w fun e w' => e = .returned (.bool (decide (x ∈ intsL zs))) ∧ w = w' := by
  obtain ⟨pa, cap, rfl⟩ := h.form
  have HR := Lib.hid h
  obtain ⟨t, ht⟩ : ∃ t, decide (x ∈ intsL zs) = t := ⟨_, rfl⟩
  rw [ht]
  have HT := Lib.hid ht
  clear h ht
  go_enter Try.func19, Try.ntmps19
  go_wp2_with fail
  go_loop [5] (fun i => ∃ k : Nat, i = .int .i64 (k : Nat) ∧ k ≤ zs.length ∧ Hid (x ∉ intsL (zs.take k))) (fun i => zs.length - (intOf i).toNat)
  case atStart => exact ⟨0, rfl, Nat.zero_le _, Lib.hid (by simp [intsL])⟩
  case round =>
    obtain ⟨k, rfl, hk, HN⟩ := hrel
    by_cases hlt : k < zs.length
    · obtain ⟨b, off, rfl, hc⟩ := HR.out.cell hlt
      have hk1 : (k : Int) < zs.length := by omega
      have htk : zs.take (k + 1) = zs.take k ++ [zs[k]] := List.take_succ_eq_append_getElem hlt
      have hme : zs[k] ∈ zs := List.getElem_mem hlt
      obtain ⟨y, hy⟩ : ∃ y, zs[k] = y := ⟨_, rfl⟩
      rw [hy] at hc htk hme
      by_cases he : (y : Int) = x
      · have t1 : ((y : Int) == x) = true := by simp [he]
        obtain rfl : t = true := by
          rw [← HT.out]
          exact decide_eq_true (List.mem_map.2 ⟨y, hme, he⟩)
        clear he htk hme hy hlt
        go_wp2_with fail
        go_ret
        exact ⟨rfl, rfl⟩
      · have t1 : ((y : Int) == x) = false := by simpa using he
        have HN2 := Lib.hid (show x ∉ intsL (zs.take (k + 1)) by
          rw [htk]
          have h9 := HN.out
          simp only [intsL, List.map_append, List.mem_append, List.map_cons, List.map_nil, List.mem_singleton] at h9 ⊢
          rintro (h8 | h8)
          · exact h9 h8
          · exact he h8.symm)
        clear he htk hme hy
        go_wp2_with fail
        go_round
        case rel => exact ⟨k + 1, by go_num, by omega, HN2⟩
        case measure => simp [intOf]; omega
    · obtain rfl : k = zs.length := by omega
      have hlz : ¬ ((zs.length : Int) < zs.length) := by omega
      obtain rfl : t = false := by
        rw [← HT.out]
        have h9 := HN.out
        rw [List.take_length] at h9
        exact decide_eq_false h9
      clear hlt
      go_wp2_with fail
      go_ret
      exact ⟨rfl, rfl⟩
set_option maxRecDepth 100000 in
set_option maxHeartbeats 4000000 in
theorem ints_pro (zs : List Nat) (v u : Value) (w : World) (hv : RdI w v zs) (hu : RdI w u zs) (hz : zs.length ≤ 1000000) : Calls Try.prog 9 #[v, u] w (SaysL (.bool true) w) := by
  obtain ⟨pa, ca, rfl⟩ := hv.form
  obtain ⟨pb, cb, rfl⟩ := hu.form
  have HV := Lib.hid hv
  have HU := Lib.hid hu
  have HZ := Lib.hid hz
  obtain ⟨n, hn⟩ : ∃ n, zs.length = n := ⟨_, rfl⟩
  have HN := Lib.hid hn
  rw [hn]
  rw [hn] at HV HU
  clear hv hu hz hn
  go_enter Try.func9, Try.ntmps9
  go_wp2_with fail
  go_loopw [5] (fun j wr => ∃ k : Nat, j = .int .i64 k ∧ k ≤ n ∧ Below w.heap.size w wr) (fun j _ => n - (intOf j).toNat)
  case atStart => exact ⟨0, rfl, Nat.zero_le _, Below.refl _ _⟩
  case round =>
    obtain ⟨k, rfl, hk, hB⟩ := hrel
    have HB := Lib.hid hB
    by_cases hlt : k < n
    · have hkz : k < zs.length := by rw [HN.out]; exact hlt
      obtain ⟨b1, o1, rfl, c1⟩ := (HV.out.below hB).cell hkz
      obtain ⟨b2, o2, rfl, c2⟩ := (HU.out.below hB).cell hkz
      have kr1 := cell_regrown c1
      have kr2 := cell_regrown c2
      have mixed : Try.prog.follows .mixedOrders = true := by kernel_rfl
      obtain ⟨d, hd⟩ : ∃ d, zs[k] = d := ⟨_, rfl⟩
      rw [hd] at kr1 kr2
      have k1 : (k : Int) < n := by omega
      have hzz := HZ.out
      have hnn := HN.out
      clear hB c1 c2 hd
      go_wp2_with fail
      refine wp_region_quiet_below (by assumption) (by kernel_rfl) ?_
      repeat (quiet_step (fail))
      refine wpQuiet_nil ?_
      intro _ hw'
      obtain ⟨⟨dq, osq⟩, hw''⟩ := hw'
      subst hw''
      have HB6 := Lib.hid (HB.out.trans ((below_regrown wr dq osq).mono HB.out.size))
      clear kr1 kr2
      go_wp2_with fail
      go_roundw
      case measure => simp [intOf]; omega
      case rel => exact ⟨k + 1, by go_num, by omega, HB6.out⟩
    · obtain rfl : k = n := by omega
      have hlz : ¬ ((k : Int) < k) := by omega
      clear hB hlt
      go_wp2_with fail
      go_ret
      exact ⟨rfl, HB.out⟩
def mkRf (p : Int × Int) : Rf := ⟨p.1, p.2, 0, .empty, 0, 0⟩
theorem own_drewL {W : World} {base : Nat} {e : TypeId} {size : Nat} {v : Value} {n : Nat} {xs : List Value} (h : W.ownsRow base e size v n xs) : W.drew.ownsRow base e size v n xs := h
set_option maxRecDepth 100000 in
set_option maxHeartbeats 4000000 in
theorem pairs_pro (ps : List (Int × Int)) (b : Nat) (w : World) (hp : ∀ k (hk : k < ps.length), w.cell? ⟨b, k * 2, none⟩ = some (.int .i64 ps[k].1) ∧ w.cell? ⟨b, k * 2 + 1, none⟩ = some (.int .i64 ps[k].2)) (hl : ps.length ≤ 1000) :
    Calls Try.prog 24 #[.slice (some ⟨b, 0, none⟩) ps.length ps.length] w fun e w' => ∃ v, e = .returned v ∧ RdR w' v (ps.map mkRf) ∧ Below w.heap.size w w' := by
  obtain ⟨i0, hi0, hz0, hz1, hz2⟩ := info_parts infoR
  have HP := Lib.hid hp
  obtain ⟨n, hn⟩ : ∃ n, ps.length = n := ⟨_, rfl⟩
  have HN := Lib.hid hn
  rw [hn] at hl ⊢
  clear hp hn
  go_enter Try.func24, Try.ntmps24
  go_wp2_with fail
  go_loopw [3, 4] (fun v3 i wr => ∃ k : Nat, i = .int .i64 (k : Nat) ∧ k ≤ n ∧ Hid (wr.ownsRow w.heap.size 45 6 v3 k (rowsR ((ps.take k).map mkRf))) ∧ Hid (Below w.heap.size w wr)) (fun _ i _ => n - (intOf i).toNat)
  case atStart => exact ⟨0, rfl, Nat.zero_le _, Lib.hid (World.ownsRow_nil _ _ _ _), Lib.hid (Below.refl _ _)⟩
  case round =>
    rename_i v3 _
    obtain ⟨k, rfl, hk, HO, HB⟩ := hrel
    by_cases hlt : k < n
    · have hkp : k < ps.length := by rw [HN.out]; exact hlt
      obtain ⟨q1, q2⟩ := HP.out k hkp
      have c1 := (HB.out.cell (p := ⟨b, k * 2, none⟩) (cellInL q1)).trans q1
      have c2 := (HB.out.cell (p := ⟨b, k * 2 + 1, none⟩) (cellInL q2)).trans q2
      have htk : ps.take (k + 1) = ps.take k ++ [ps[k]] := List.take_succ_eq_append_getElem hkp
      obtain ⟨⟨x, y⟩, hxy⟩ : ∃ p, ps[k] = p := ⟨_, rfl⟩
      rw [hxy] at c1 c2 htk
      dsimp only at c1 c2
      have HTK := Lib.hid (show rowsR ((ps.take (k + 1)).map mkRf) = rowsR ((ps.take k).map mkRf) ++ [.int .i64 x, .int .i64 y, .int .i64 0, .string .empty, .int .i64 0, .int .i64 0] by rw [htk, List.map_append]; exact rowsR_snoc _ _)
      have hk1 : (k : Int) < n := by omega
      have HK := Lib.hid hlt
      obtain ⟨pv, cv, hv3⟩ := lenL HO.out
      subst hv3
      clear q1 q2 htk hxy hkp
      go_wp2_with fail
      refine region_just (S := fun w' => w'.cell? ⟨b, k * 2, none⟩ = some (.int .i64 x) ∧ w'.cell? ⟨b, k * 2 + 1, none⟩ = some (.int .i64 y)) (by kernel_rfl) ?_
      have hS0 : wr.drew.cell? ⟨b, k * 2, none⟩ = some (.int .i64 x) ∧ wr.drew.cell? ⟨b, k * 2 + 1, none⟩ = some (.int .i64 y) := ⟨c1, c2⟩
      refine wpAnyH_take (i := 0) (v := .slice pv k cv) rfl (by kernel_rfl) (by kernel_rfl) (by kernel_rfl) (fun _ _ _ h => h) (.inl ⟨by rfl, fun w' hS => by obtain ⟨h1, h2⟩ := hS; go_simp⟩) hS0 ?_
      refine wpAnyH_take (i := 1) (v := .slice (some ⟨b, 0, none⟩) n n) rfl (by kernel_rfl) (by kernel_rfl) (by kernel_rfl) (fun _ _ _ h => h) (.inl ⟨by rfl, fun w' hS => by obtain ⟨h1, h2⟩ := hS; go_simp⟩) hS0 ?_
      refine wpAnyH_take (i := 2) (v := .int .i64 (k : Nat)) rfl (by kernel_rfl) (by kernel_rfl) (by kernel_rfl) (fun _ _ _ h => h) (.inl ⟨by rfl, fun w' hS => by obtain ⟨h1, h2⟩ := hS; go_simp⟩) hS0 ?_
      refine wpAnyH_take (i := 3) (v := .pointer (some ⟨b, k * 2, none⟩)) rfl (by kernel_rfl) (by kernel_rfl) (by kernel_rfl) (fun _ _ _ h => h) (.inl ⟨by rfl, fun w' hS => by obtain ⟨h1, h2⟩ := hS; go_simp⟩) hS0 ?_
      refine wpAnyH_take (i := 4) (v := .pointer (some ⟨b, k * 2, none⟩)) rfl (by kernel_rfl) (by kernel_rfl) (by kernel_rfl) (fun _ _ _ h => h) (.inl ⟨by rfl, fun w' hS => by obtain ⟨h1, h2⟩ := hS; go_simp⟩) hS0 ?_
      refine wpAnyH_take (i := 5) (v := .int .i64 x) rfl (by kernel_rfl) (by kernel_rfl) (by kernel_rfl) (fun _ _ _ h => h) (.inl ⟨by rfl, fun w' hS => by obtain ⟨h1, h2⟩ := hS; go_simp⟩) hS0 ?_
      refine wpAnyH_take (i := 6) (v := .slice (some ⟨b, 0, none⟩) n n) rfl (by kernel_rfl) (by kernel_rfl) (by kernel_rfl) (fun _ _ _ h => h) (.inl ⟨by rfl, fun w' hS => by obtain ⟨h1, h2⟩ := hS; go_simp⟩) hS0 ?_
      refine wpAnyH_take (i := 7) (v := .int .i64 (k : Nat)) rfl (by kernel_rfl) (by kernel_rfl) (by kernel_rfl) (fun _ _ _ h => h) (.inl ⟨by rfl, fun w' hS => by obtain ⟨h1, h2⟩ := hS; go_simp⟩) hS0 ?_
      refine wpAnyH_take (i := 8) (v := .pointer (some ⟨b, k * 2, none⟩)) rfl (by kernel_rfl) (by kernel_rfl) (by kernel_rfl) (fun _ _ _ h => h) (.inl ⟨by rfl, fun w' hS => by obtain ⟨h1, h2⟩ := hS; go_simp⟩) hS0 ?_
      refine wpAnyH_take (i := 9) (v := .pointer (some ⟨b, k * 2 + 1, none⟩)) rfl (by kernel_rfl) (by kernel_rfl) (by kernel_rfl) (fun _ _ _ h => h) (.inl ⟨by rfl, fun w' hS => by obtain ⟨h1, h2⟩ := hS; go_simp⟩) hS0 ?_
      refine wpAnyH_take (i := 10) (v := .int .i64 y) rfl (by kernel_rfl) (by kernel_rfl) (by kernel_rfl) (fun _ _ _ h => h) (.inl ⟨by rfl, fun w' hS => by obtain ⟨h1, h2⟩ := hS; go_simp⟩) hS0 ?_
      refine wpAnyH_take (i := 11) (v := .agg #[.int .i64 x, .int .i64 y, .int .i64 0, .string .empty, .int .i64 0, .int .i64 0]) rfl (by kernel_rfl) (by kernel_rfl) (by kernel_rfl) (fun _ _ _ h => h) (.inl ⟨by rfl, fun w' hS => by obtain ⟨h1, h2⟩ := hS; go_simp; try rfl⟩) hS0 ?_
      have hAl : Below wr.drew.heap.size wr.drew (wr.drew.alloc (.cells #[.int .i64 x, .int .i64 y, .int .i64 0, .string .empty, .int .i64 0, .int .i64 0] 45)) := (Below.refl _ _).alloc (Nat.le_refl _) _
      have hS1 := And.intro ((hAl.cell (p := ⟨b, k * 2, none⟩) (cellInL hS0.1)).trans hS0.1) ((hAl.cell (p := ⟨b, k * 2 + 1, none⟩) (cellInL hS0.2)).trans hS0.2)
      refine wpAnyH_all (rs := [12]) (by kernel_rfl) (by simp) ?_
      intro i' hi'
      obtain rfl : i' = 12 := by simpa using hi'
      refine op_via rfl (by rfl) (fun K hK => ?_)
      go_simp
      refine hK _ _ ⟨hS1, ?_⟩
      clear hK K
      refine wpAnyH_all (rs := [13]) (by kernel_rfl) (by simp) ?_
      intro i' hi'
      obtain rfl : i' = 13 := by simpa using hi'
      refine op_via rfl (by rfl) (fun K hK => ?_)
      refine wp_append_lies _ (.tmp 11) (.tmp 23) 22 rfl w.heap.size 45 i0 (.agg #[.int .i64 0, .int .i64 0, .int .i64 0, .string .empty, .int .i64 0, .int .i64 0]) 6 56 Try.underlying22 hi0 hz0 hz1 hz2 rfl (by decide) (.slice pv k cv) k (rowsR ((ps.take k).map mkRf)) (by simp [Act.eval]) ((own_drewL HO.out).alloc _) ⟨wr.heap.size, 0, none⟩ 1 1 [.int .i64 x, .int .i64 y, .int .i64 0, .string .empty, .int .i64 0, .int .i64 0] (by simp [Act.eval]) rfl (cells_newL _ _ _) (by intro u hu; simp only [List.mem_cons, List.not_mem_nil, or_false] at hu; rcases hu with rfl | rfl | rfl | rfl | rfl | rfl <;> rfl) (by decide) (by unfold maxLen; omega) (by omega) (by have := HB.out.size; simp; omega) _ rfl ?_
      intro g' cap' w3 hown' hgrow _ _
      have hb3 : Below w.heap.size w w3 := ((HB.out.drew.alloc (by have := HB.out.size; simp; omega) _).grown hgrow (by have := HB.out.size; simp; omega) (fun r e => (own_base HO.out e).1))
      have hb4 : Below w.heap.size wr.drew w3 := (((Below.refl _ wr.drew).alloc (by have := HB.out.size; simp; omega) _).grown hgrow (by have := HB.out.size; simp; omega) (fun r e => (own_base HO.out e).1))
      obtain ⟨p1, p2⟩ := HP.out k (by rw [HN.out]; exact HK.out)
      have hS2 := And.intro ((hb4.cell (p := ⟨b, k * 2, none⟩) (cellInL p1)).trans hS0.1) ((hb4.cell (p := ⟨b, k * 2 + 1, none⟩) (cellInL p2)).trans hS0.2)
      have HO3 := Lib.hid hown'
      have HB3 := Lib.hid hb3
      clear hown' hgrow hb3 hb4 p1 p2
      refine hK _ _ ⟨hS2, ?_⟩
      clear hK K
      refine wpAnyH_all (rs := [14]) (by kernel_rfl) (by simp) ?_
      intro i' hi'
      obtain rfl : i' = 14 := by simpa using hi'
      refine op_via rfl (by rfl) (fun K hK => ?_)
      go_simp
      refine hK _ _ ⟨hS2, ?_⟩
      clear hK K
      refine wpAnyH_done (by kernel_rfl) ?_ _
      simp only [Just]
      go_wp2_with fail
      go_roundw
      case measure => have := HK.out; first | (simp [intOf]; done) | (simp [intOf]; omega)
      case rel => exact ⟨k + 1, by go_num, by have := HK.out; omega, Lib.hid (by rw [HTK.out]; exact HO3.out), HB3⟩
    · obtain rfl : k = n := by omega
      have hlz : ¬ ((k : Int) < k) := by omega
      have hO := HO.out
      rw [← HN.out, List.take_length] at hO
      have HR := Lib.hid (RdR.own (l := ps.map mkRf) (by rw [List.length_map]; exact hO))
      clear hO hlt
      go_wp2_with fail
      go_ret
      exact ⟨_, rfl, HR.out, HB.out⟩
end Go.Proofs.Ytjgcbobalmmjkaa
