/- Layer 12: the law's twin, twins: lists in new memory. -/
import Derived.Test.YtadecjjbpoaooaaUp
namespace Go.Proofs.Ytadecjjbpoaooaa.Tb
open Go.RowKit Go.Maps
set_option linter.unusedVariables false
set_option linter.unusedSimpArgs false
section
variable {P : Program} {w : World}
theorem run_append_nilc (base : Nat) (t ty e : TypeId) (i : TypeInfo) (size : Nat) (ht : P.underlying t = some (.slice e)) (hi : P.info? e = some i)
    (v : Value) (n : Nat) (xs : List Value) (hown : w.ownsRow base e size v n xs) (c : Nat) :
    (Builtin.append_ #[t, t] ty #[v, .slice none 0 c]).run P w = .ok v w := by
  rcases hown.2 with ⟨rfl, rfl⟩ | ⟨g, cap, cur, rfl, _, _, hnc, _⟩
  · simp [Builtin.append_, run_underlying ht, sizeOf, typeInfo, hi, Builtin.lenOf, Builtin.firstCells]
  · simp [Builtin.append_, run_underlying ht, sizeOf, typeInfo, hi, Builtin.lenOf, Builtin.firstCells, hnc, storeCells]
/-- What is appended: so many elements, the cells known where there is one. -/
structure Lies (w : World) (size : Nat) (vx : Value) (m : Nat) (ys : List Value) : Prop where
  len : ys.length = m * size
  one : ∀ u ∈ ys, u.oneCell' = true
  at' : (∃ c, vx = .slice none 0 c ∧ m = 0) ∨ ∃ a c, vx = .slice (some a) m c ∧ ∀ j u, ys[j]? = some u → w.cell? (a.add j) = some u
theorem run_append_lies' (base : Nat) (t ty e : TypeId) (i : TypeInfo) (z : Value) (size bytes : Nat) (ht : P.underlying t = some (.slice e)) (hi : P.info? e = some i) (hz : i.zero = some z)
    (hsize : i.size = size) (hby : i.bytes = bytes) (hzs : z.cells.size = size) (hsz : 0 < size)
    (v : Value) (n : Nat) (xs : List Value) (hown : w.ownsRow base e size v n xs) (vx : Value) (m : Nat) (ys : List Value) (hx : Lies w size vx m ys)
    (h63 : n + m ≤ maxLen) (hbytes : (n + m) * bytes ≤ 140737488355328) (hbase : base ≤ w.heap.size) :
    ∃ v' w', (Builtin.append_ #[t, t] ty #[v, vx]).run P w = .ok v' w' ∧ w'.ownsRow base e size v' (n + m) (xs ++ ys) ∧ w.grownBy w' v.ownBlock := by
  rcases hx.at' with ⟨c, rfl, rfl⟩ | ⟨a, c, rfl, hc⟩
  · have hys : ys = [] := List.eq_nil_of_length_eq_zero (by have := hx.len; omega)
    subst hys
    exact ⟨v, w, run_append_nilc base t ty e i size ht hi v n xs hown c, by simpa using hown, ⟨rfl, rfl, rfl, Nat.le_refl _, fun _ _ _ => rfl⟩⟩
  · obtain ⟨v', w', h2, h3, h4, _⟩ := run_append_own (P := P) w base t ty e i z size bytes ht hi hz hsize hby hzs hsz v n xs hown a m c ys hx.len hc hx.one h63 hbytes hbase
    exact ⟨v', w', h2, h3, h4⟩
theorem wpList_append_lies' {ops : Array Oper} {rest : List Oper} {o : Oper} {a : Act} {Q : Exit → Act → World → Prop} (hgd : o.guard = none) (s x : Operand) (t : TypeId)
    (ho : o.op = .call { callee := .builtin .append, args := #[s, x], argTypes := #[t, t] })
    (base : Nat) (e : TypeId) (i : TypeInfo) (z : Value) (size bytes : Nat) (ht : P.underlying t = some (.slice e)) (hi : P.info? e = some i) (hz : i.zero = some z)
    (hsize : i.size = size) (hby : i.bytes = bytes) (hzs : z.cells.size = size) (hsz : 0 < size)
    (v : Value) (n : Nat) (xs : List Value) (hs : a.eval s = v) (hown : w.ownsRow base e size v n xs) (vx : Value) (m : Nat) (ys : List Value) (hvx : a.eval x = vx) (hx : Lies w size vx m ys)
    (h63 : n + m ≤ maxLen) (hbytes : (n + m) * bytes ≤ 140737488355328) (hbase : base ≤ w.heap.size)
    (h : ∀ v' w', w'.ownsRow base e size v' (n + m) (xs ++ ys) → w.grownBy w' v.ownBlock → wpList P ops Q rest (a.put o.dst v') w') : wpList P ops Q (o :: rest) a w :=
  wpList_plain hgd fun _ hK => by
    obtain ⟨v', w', hr, h2, h3⟩ := run_append_lies' (P := P) (w := w) base t o.type e i z size bytes ht hi hz hsize hby hzs hsz v n xs hown vx m ys hx h63 hbytes hbase
    unfold Oper.wp execOp
    simp only [ho, resolve, invoke, builtin, Sem.run_bind, Sem.run_pure, Result.andThen_ok, List.map_toArray, List.map_cons, List.map_nil, hs, hvx, hr]
    exact hK _ _ (h v' w' h2 h3)
end
theorem Lies.alloc {w : World} {size : Nat} {vx : Value} {m : Nat} {ys : List Value} (h : Lies w size vx m ys) (o : Obj) : Lies (w.alloc o) size vx m ys := by
  refine ⟨h.len, h.one, ?_⟩
  rcases h.at' with h1 | ⟨a, c, rfl, hc⟩
  · exact .inl h1
  · exact .inr ⟨a, c, rfl, fun j u hj => by
      have := hc j u hj
      exact (((Below.refl _ w).alloc (Nat.le_refl _) o).cell (World.block_lt_of_cell? w _ this)).trans this⟩
theorem Lies.below {w w' : World} {size : Nat} {vx : Value} {m : Nat} {ys : List Value} (h : Lies w size vx m ys) (hb : Below w.heap.size w w') : Lies w' size vx m ys := by
  refine ⟨h.len, h.one, ?_⟩
  rcases h.at' with h1 | ⟨a, c, rfl, hc⟩
  · exact .inl h1
  · exact .inr ⟨a, c, rfl, fun j u hj => by
      have := hc j u hj
      exact (hb.cell (World.block_lt_of_cell? w _ this)).trans this⟩
theorem rowsG_cell : ∀ (l : List Gl) (j : Nat) (u : Value), (rowsG l)[j]? = some u → ∃ i k, ∃ hi : i < l.length, j = i * 5 + k ∧ (glRow l[i])[k]? = some u
  | [], j, u, h => by simp [rowsG] at h
  | a :: l, j, u, h => by
    have e : rowsG (a :: l) = glRow a ++ rowsG l := by simp [rowsG]
    have hl : (glRow a).length = 5 := rfl
    rw [e] at h
    rcases Nat.lt_or_ge j 5 with h5 | h5
    · rw [List.getElem?_append_left (by omega)] at h
      exact ⟨0, j, by simp, by omega, h⟩
    · rw [List.getElem?_append_right (by omega), hl] at h
      obtain ⟨i, k, hi, h1, h2⟩ := rowsG_cell l (j - 5) u h
      exact ⟨i + 1, k, by simpa using hi, by omega, by simpa using h2⟩
theorem GlIs.cells {W : World} {b o : Nat} {x : Gl} (h : GlIs W b o x) (k : Nat) (u : Value) (hu : (glRow x)[k]? = some u) : W.cell? ⟨b, o + k, none⟩ = some u := by
  obtain ⟨h0, h1, h2, h3, h4⟩ := h
  match k with
  | 0 => simp [glRow] at hu; rw [← hu]; exact h0
  | 1 => simp [glRow] at hu; rw [← hu]; exact h1
  | 2 => simp [glRow] at hu; rw [← hu]; exact h2
  | 3 => simp [glRow] at hu; rw [← hu]; exact h3
  | 4 => simp [glRow] at hu; rw [← hu]; exact h4
  | k + 5 => simp [glRow] at hu
theorem RdG.lies {P : Nat → Prop} {w : World} {v : Value} {l : List Gl} (h : RdG P w v l) : Lies w 5 v l.length (rowsG l) := by
  obtain ⟨pa, cap, rfl, _, _, h4⟩ := h
  refine ⟨rowsG_len l, rowsG_one l, ?_⟩
  cases pa with
  | none =>
    left
    have : l.length = 0 := by
      rcases Nat.eq_zero_or_pos l.length with h | h
      · exact h
      · obtain ⟨b, off, e, _⟩ := h4 0 h; cases e
    exact ⟨cap, by rw [this], this⟩
  | some a =>
    right
    refine ⟨a, cap, rfl, fun j u hj => ?_⟩
    obtain ⟨i, k, hi, rfl, hk⟩ := rowsG_cell l j u hj
    obtain ⟨b, off, e, _, hc⟩ := h4 i hi
    cases e
    have := hc.cells k u hk
    rw [Addr.add_lit, ← Nat.add_assoc]
    exact this
/-- A new list of glyphs. -/
def MakesR (l : List Gl) (w : World) (e : Ending) (w' : World) : Prop := ∃ v, e = .returned v ∧ w'.ownsRow w.heap.size 40 5 v l.length (rowsG l) ∧ Below w.heap.size w w'
set_option maxRecDepth 100000 in
set_option maxHeartbeats 2000000 in
theorem twin_law {P : Nat → Prop} (l : List Gl) (v : Value) (w : World) (h : RdG P w v l) (hl : l.length * 48 ≤ 140737488355328) : Calls Try.prog 12 #[v] w (MakesR l w) := by
  obtain ⟨i0, hi0, hz0, hz1, hz2⟩ := info_parts infoG
  have HL := Lib.hid h.lies
  have E1 := Lib.hid (World.ownsRow_lit (e := 40) (size := 5) (base := w.heap.size) w #[] 0 (Nat.le_refl _) (Nat.zero_le _) rfl)
  have E1s := Lib.hid (show w.heap.size ≤ (w.alloc (.cells #[] 40)).heap.size by simp)
  have M1 := Lib.hid (show 0 + l.length ≤ maxLen by unfold maxLen; omega)
  have M2 := Lib.hid (show (0 + l.length) * 48 ≤ 140737488355328 by omega)
  clear h hl
  go_enter Try.func12, Try.ntmps12
  go_wp2_with (at_builtin; go_loud (refine wpList_append_lies' rfl _ _ 32 rfl w.heap.size 40 i0 _ 5 48 Try.underlying32 hi0 hz0 hz1 hz2 rfl (by decide) _ _ _ rfl E1.out v _ _ rfl (HL.out.alloc _) M1.out M2.out E1s.out ?_); intro v5 w5 hown5 hg5; have HO5 := Lib.hid hown5; have B5 := Lib.hid (((Below.refl w.heap.size w).alloc (Nat.le_refl _) _).grown hg5 E1s.out (fun k hk => (E1.out.lt k hk).1)); clear hown5 hg5)
  go_ret
  refine ⟨_, rfl, ?_, B5.out⟩
  have := HO5.out
  simpa using this
/-- Lists of glyphs that a call has made, each with a row of its own. -/
structure OwnT (B : Nat) (w : World) (v : Value) (ls : List (List Gl)) (vs : List Value) : Prop where
  num : vs.length = ls.length
  row : w.ownsRow B 32 1 v ls.length vs
  line : ∀ j (hj : j < ls.length), w.ownsRow B 40 5 (vs[j]'(by omega)) ls[j].length (rowsG ls[j])
theorem OwnT.nil (w : World) (B : Nat) : OwnT B w (.slice none 0 0) [] [] := ⟨rfl, World.ownsRow_nil _ _ _ _, fun j hj => absurd hj (by simp)⟩
theorem OwnT.below {B : Nat} {w w' : World} {v : Value} {ls : List (List Gl)} {vs : List Value} (h : OwnT B w v ls vs) (hb : Below w.heap.size w w') : OwnT B w' v ls vs := ⟨h.num, own_below h.row hb, fun j hj => own_below (h.line j hj) hb⟩
theorem OwnT.push {B : Nat} {w w' : World} {v v' u : Value} {ls : List (List Gl)} {vs : List Value} {l : List Gl} (h : OwnT B w v ls vs) (hu : w.ownsRow B 40 5 u l.length (rowsG l)) (hg : w.grownBy w' v.ownBlock) (ho : w'.ownsRow B 32 1 v' (ls.length + 1) (vs ++ [u])) : OwnT B w' v' (ls ++ [l]) (vs ++ [u]) := by
  have st : ∀ (z : Value) (m : List Gl), w.ownsRow B 40 5 z m.length (rowsG m) → w'.ownsRow B 40 5 z m.length (rowsG m) := fun z m hz =>
    own_stays hz fun c hc => hg.block c (own_base hz hc).2 (fun e => own_ne hz h.row (by decide) hc e.symm)
  refine ⟨by simp [h.num], by rw [List.length_append]; exact ho, fun j hj => ?_⟩
  by_cases hjl : j < ls.length
  · have e1 : (ls ++ [l])[j] = ls[j] := List.getElem_append_left hjl
    have e2 : (vs ++ [u])[j]'(by simp [h.num]; omega) = vs[j]'(by have := h.num; omega) := List.getElem_append_left (by have := h.num; omega)
    rw [e1, e2]
    exact st _ _ (h.line j hjl)
  · have hje : j = ls.length := by simp at hj; omega
    have e1 : (ls ++ [l])[j] = l := by simp [hje]
    have e2 : (vs ++ [u])[j]'(by simp [h.num]; omega) = u := by simp [hje, ← h.num]
    rw [e1, e2]
    exact st _ _ hu
theorem OwnT.rd {B : Nat} {w : World} {v : Value} {ls : List (List Gl)} {vs : List Value} (h : OwnT B w v ls vs) : RdL (B ≤ ·) w v ls :=
  OwnL.rd (P := (B ≤ ·)) ⟨h.num, h.row, fun j hj => (RdG.own (h.line j hj) rfl).imp fun b _ hb => hb.2⟩ (fun b hb _ => hb) (fun b _ hb => hb)
def MakesT (ls : List (List Gl)) (w : World) (e : Ending) (w' : World) : Prop := ∃ v vs, e = .returned v ∧ OwnT w.heap.size w' v ls vs ∧ Below w.heap.size w w'
set_option maxRecDepth 100000 in
set_option maxHeartbeats 4000000 in
theorem twins_law {P : Nat → Prop} (ls : List (List Gl)) (v : Value) (w : World) (h : RdL P w v ls) (hl : ls.length * 24 ≤ 140737488355328) (hll : ∀ l ∈ ls, l.length * 48 ≤ 140737488355328) : Calls Try.prog 20 #[v] w (MakesT ls w) := by
  obtain ⟨i0, hi0, hz0, hz1, hz2⟩ := info_parts infoL
  obtain ⟨pa, cap, rfl, hc1, hc2⟩ := h.form
  unfold maxLen at hc2
  have HH := Lib.hid h
  have HL := Lib.hid hl
  have HLL := Lib.hid hll
  obtain ⟨n, hn⟩ : ∃ n, ls.length = n := ⟨_, rfl⟩
  have HN := Lib.hid hn
  rw [hn] at HH hc1 ⊢
  have hn62 : n ≤ 9223372036854775807 := by omega
  clear h hl hll hn hc1
  go_enter Try.func20, Try.ntmps20
  go_wp2_with fail
  go_loopw [3, 4] (fun s3 i wr => ∃ (k : Nat) (vs : List Value), i = .int .i64 k ∧ k ≤ n ∧ Hid (OwnT w.heap.size wr s3 (ls.take k) vs) ∧ Hid (Below w.heap.size w wr)) (fun _ i _ => n - (intOf i).toNat)
  case atStart => exact ⟨0, [], rfl, Nat.zero_le _, Lib.hid (by rw [List.take_zero]; exact OwnT.nil _ _), Lib.hid (Below.refl _ _)⟩
  case round =>
    obtain ⟨k, vs, rfl, hk, HO, HB⟩ := hrel
    by_cases hlt : k < n
    · have hkl : k < ls.length := by rw [HN.out]; exact hlt
      obtain ⟨b, off, p1, q1, rfl, _, c0, _, _, hx1⟩ := (HH.out.below HB.out).at_ hkl
      have hT := Lib.hid (show ls.take (k + 1) = ls.take k ++ [ls[k]] from List.take_succ_eq_append_getElem hkl)
      have hlen : (ls.take k).length = k := by rw [List.length_take]; omega
      obtain ⟨p3, c3, rfl⟩ := lenL HO.out.row
      have hxl := HLL.out _ (List.getElem_mem hkl)
      obtain ⟨x, hx⟩ : ∃ x, ls[k] = x := ⟨_, rfl⟩
      rw [hx] at hx1 c0 hT hxl
      have HTW := Lib.hid (twin_law x _ wr hx1 hxl)
      obtain ⟨m, hm⟩ : ∃ m, x.length = m := ⟨_, rfl⟩
      have HM := Lib.hid hm
      rw [hm] at c0 HTW
      rw [hlen]
      have HLEN := Lib.hid hlen
      have k1 : (k : Int) < n := by omega
      have HLT := Lib.hid hlt
      clear hx hx1 hxl hm hlt hlen
      go_wp2_with fail
      refine HTW.out.mono ?_
      rintro e w2 ⟨v2, rfl, ho2, hb2⟩
      obtain ⟨p2, c2, rfl⟩ := lenL ho2
      have hBs := HB.out.size
      have hA := below_box w2 (.cells #[.slice p2 x.length c2] 32)
      have HO2 := Lib.hid ((HO.out.below hb2).below hA)
      have HX2 := Lib.hid (own_below (own_lower ho2 hBs) hA)
      have HB2 := Lib.hid ((HB.out.trans (hb2.mono hBs)).trans (hA.mono (Nat.le_trans hBs hb2.size)))
      have L3 := Lib.hid HB2.out.size
      have L1 := Lib.hid (show (ls.take k).length + 1 ≤ maxLen by rw [HLEN.out]; unfold maxLen; omega)
      have L2 := Lib.hid (show ((ls.take k).length + 1) * 24 ≤ 140737488355328 by rw [HLEN.out]; have := HL.out; have := HN.out; have := HLT.out; omega)
      have HNC := Lib.hid (fun j u hu => cells_newL w2 #[.slice p2 x.length c2] 32 j u hu)
      have HON := Lib.hid (show ∀ u ∈ [Value.slice p2 x.length c2], u.oneCell' = true from fun u hu => by rw [List.mem_singleton] at hu; rw [hu]; rfl)
      rw [HM.out] at HO2 HB2 L3 HNC HON
      have HX2' := HX2.out
      rw [HM.out] at HX2'
      have HX3 := Lib.hid (show ((w2.alloc (.cells #[.slice p2 m c2] 32))).ownsRow w.heap.size 40 5 (.slice p2 m c2) x.length (rowsG x) by rw [HM.out]; exact HX2')
      clear HX2'
      clear ho2 hb2 hBs hA c0
      rw [HM.out]
      dsimp only
      rename_i K hK
      refine hK _ _ ?_
      clear hK K
      go_wp2_with (at_builtin; go_loud (refine wpList_append_own _ rfl _ _ 33 rfl w.heap.size 32 i0 _ 1 24 Try.underlying33 hi0 hz0 hz1 hz2 rfl (by decide) _ _ _ (by simp [Act.eval, HLEN.out]) HO2.out.row ⟨w2.heap.size, 0, none⟩ 1 1 [.slice p2 m c2] rfl rfl HNC.out HON.out L1.out L2.out L3.out ?_); intro v6 w6 hown6 hgrow6 _; have HO6 := Lib.hid (HO2.out.push (l := x) HX3.out hgrow6 hown6); have HB6 := Lib.hid (HB2.out.grown hgrow6 L3.out (fun r e => (own_base HO2.out.row e).1)); clear hown6 hgrow6)
      go_wp2_with fail
      go_roundw
      case measure => have := HLT.out; simp [intOf]; omega
      case rel => exact ⟨k + 1, _, by go_num, HLT.out, by rw [hT.out]; exact HO6, HB6⟩
    · obtain rfl : k = n := by omega
      have hzk : ¬ (k : Int) < k := by omega
      clear hlt
      go_wp2_with fail
      go_ret
      exact ⟨_, vs, rfl, by have h := HO.out; rw [show ls.take k = ls by rw [← HN.out, List.take_length]] at h; exact h, HB.out⟩
end Go.Proofs.Ytadecjjbpoaooaa.Tb
