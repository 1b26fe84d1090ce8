/- The texts that the laws of layout stand on, part 22. -/
import Derived.Test.YtjohhahfpgfjdaaGreatDoorK5
import Derived.Test.YtjohhahfpgfjdaaGreatDoorK9
section
namespace Go.Proofs.YtjohhahfpgfjdaaGreatDoor.Tb
open Go.RowKit Go.Maps
set_option linter.unusedVariables false
set_option linter.unusedSimpArgs false
def flat (ls : List (List Gl)) : List Gl := ls.flatten
theorem flat_take (ls : List (List Gl)) (k : Nat) (h : k < ls.length) : flat (ls.take (k + 1)) = flat (ls.take k) ++ ls[k] := by
  unfold flat
  rw [List.take_succ_eq_append_getElem h, List.flatten_append, List.flatten_cons, List.flatten_nil, List.append_nil]
theorem flat_take_le (ls : List (List Gl)) (k : Nat) : (flat (ls.take k)).length ≤ (flat ls).length := by
  have := congrArg List.length (congrArg List.flatten (List.take_append_drop k ls))
  rw [List.flatten_append, List.length_append] at this
  unfold flat
  omega
theorem wrap_add {t m : Nat} (h : t + m ≤ 2932031007402) : wrap64 ((t : Int) + m) = ((t + m : Nat) : Int) ∧ ¬ ((t : Int) + m < 0) ∧ ¬ (((t + m : Nat) : Int) < 0) := by
  refine ⟨?_, by omega, by omega⟩
  rw [IntWalk.wrap64_in _ (by omega)]
  omega
set_option maxRecDepth 100000 in
set_option maxHeartbeats 4000000 in
theorem concat_pro {P : Nat → Prop} (ls : List (List Gl)) (v : Value) (w : World) (h : RdL P w v ls) (hl : (flat ls).length * 48 ≤ 140737488355328) :
    Calls Tryz.prog 112 #[v] w (MakesR (flat ls) w) := by
  obtain ⟨i0, hi0, hz0, hz1, hz2⟩ := info_parts infoG
  obtain ⟨pa, cap, rfl, hc1, hc2⟩ := h.form
  unfold maxLen at hc2
  have HH := Lib.hid h
  have HL := Lib.hid hl
  obtain ⟨n, hn⟩ : ∃ n, ls.length = n := ⟨_, rfl⟩
  have HN := Lib.hid hn
  rw [hn] at HH hc1 ⊢
  have hn62 : n ≤ 9223372036854775807 := by omega
  have HG := Lib.hid (grow_pro (flat ls).length w hl)
  obtain ⟨T, hT⟩ : ∃ T, (flat ls).length = T := ⟨_, rfl⟩
  have HT := Lib.hid hT
  rw [hT] at HG hl
  have hT2 : T ≤ 2932031007402 := by omega
  clear h hn hc1 hT hl
  go_enter Tryz.func112, Tryz.ntmps112
  go_wp2_with fail
  go_loop [3, 11] (fun s i => ∃ k : Nat, i = .int .i64 k ∧ k ≤ n ∧ s = .int .i64 ((flat (ls.take k)).length : Nat)) (fun _ i => n - (intOf i).toNat)
  case atStart => exact ⟨0, rfl, Nat.zero_le _, rfl⟩
  case round =>
    obtain ⟨k, rfl, hk, rfl⟩ := hrel
    by_cases hlt : k < n
    · have hkl : k < ls.length := by rw [HN.out]; exact hlt
      obtain ⟨b, off, p1, q1, rfl, _, c0, _, _, _⟩ := HH.out.at_ hkl
      have hft := flat_take ls k hkl
      have hle := flat_take_le ls (k + 1)
      rw [HT.out] at hle
      have HFT := Lib.hid (congrArg List.length hft)
      rw [hft, List.length_append] at hle
      obtain ⟨m, hm⟩ : ∃ m, (ls[k]'hkl).length = m := ⟨_, rfl⟩
      obtain ⟨t, ht⟩ : ∃ t, (flat (ls.take k)).length = t := ⟨_, rfl⟩
      rw [List.length_append, ht, hm] at HFT
      rw [hm] at c0
      rw [ht, hm] at hle
      rw [ht]
      have hw := wrap_add (Nat.le_trans hle hT2)
      have t1 := hw.2.1
      have k1 : (k : Int) < n := by omega
      have HLT := Lib.hid hlt
      clear hm ht hlt hft hw
      go_wp2_with fail
      go_round
      case measure => have := HLT.out; simp [intOf]; omega
      case rel => exact ⟨k + 1, by go_num, HLT.out, by rw [HFT.out]; go_num⟩
    · obtain rfl : k = n := by omega
      have hzk : ¬ (k : Int) < k := by omega
      have hts : (flat (ls.take k)).length = T := by rw [show ls.take k = ls by rw [← HN.out, List.take_length]]; exact HT.out
      rw [hts]
      clear hlt hts
      go_wp2_with fail
      refine HG.out.mono ?_
      rintro e w1 ⟨v1, rfl, ho1, hb1⟩
      have HO1 := Lib.hid (show w1.ownsRow w.heap.size 44 5 v1 (flat (ls.take 0)).length (rowsG (flat (ls.take 0))) from ho1)
      have HB1 := Lib.hid hb1
      clear ho1 hb1
      go_wp2_with fail
      go_loopw [6, 27] (fun s i wr => ∃ j : Nat, i = .int .i64 j ∧ j ≤ k ∧ Hid (wr.ownsRow w.heap.size 44 5 s (flat (ls.take j)).length (rowsG (flat (ls.take j)))) ∧ Hid (Below w.heap.size w wr)) (fun _ i _ => k - (intOf i).toNat)
      case atStart => exact ⟨0, rfl, Nat.zero_le _, HO1, HB1⟩
      case round =>
        obtain ⟨j, rfl, hj, HO, HB⟩ := hrel
        by_cases hlt : j < k
        · have hjl : j < ls.length := by rw [HN.out]; exact hlt
          obtain ⟨b, off, p1, q1, rfl, _, c0, _, _, hx⟩ := (HH.out.below HB.out).at_ hjl
          obtain ⟨p3, c3, rfl⟩ := lenL HO.out
          have hft := flat_take ls j hjl
          have hle := flat_take_le ls (j + 1)
          rw [HT.out, hft, List.length_append] at hle
          have HFT := Lib.hid hft
          obtain ⟨x, hxx⟩ : ∃ x, ls[j]'hjl = x := ⟨_, rfl⟩
          rw [hxx] at c0 hx hle HFT
          have HLI := Lib.hid hx.lies
          have HSZ := Lib.hid HB.out.size
          have M1 := Lib.hid (show (flat (ls.take j)).length + x.length ≤ maxLen by unfold maxLen; omega)
          have M2 := Lib.hid (show ((flat (ls.take j)).length + x.length) * 48 ≤ 140737488355328 by have := HL.out; have := HT.out; omega)
          have j1 : (j : Int) < k := by omega
          have HLT := Lib.hid hlt
          obtain ⟨t, ht⟩ : ∃ t, (flat (ls.take j)).length = t := ⟨_, rfl⟩
          have HTT := Lib.hid ht
          obtain ⟨m, hm⟩ : ∃ m, x.length = m := ⟨_, rfl⟩
          have HMM := Lib.hid hm
          rw [ht] at HO M1 M2
          rw [hm] at HLI M1 M2 c0
          rw [ht]
          clear hft hle hxx hx hlt ht hm
          go_wp2_with (at_builtin; go_loud (refine wpList_append_lies' rfl _ _ 34 rfl w.heap.size 44 i0 _ 5 48 Tryz.underlying34 hi0 hz0 hz1 hz2 rfl (by decide) _ _ _ rfl HO.out _ _ _ rfl HLI.out M1.out M2.out HSZ.out ?_); intro v5 w5 hown5 hg5; have HO5 := Lib.hid (show w5.ownsRow w.heap.size 44 5 v5 (flat (ls.take (j + 1))).length (rowsG (flat (ls.take (j + 1)))) from by rw [HFT.out, List.length_append, HTT.out, HMM.out, rowsG_app]; exact hown5); have HB5 := Lib.hid (HB.out.grown hg5 HSZ.out (fun k hk => (own_base HO.out hk).1)); clear hown5 hg5)
          go_wp2_with fail
          go_roundw
          case measure => have := HLT.out; simp [intOf]; omega
          case rel => exact ⟨j + 1, by go_num, HLT.out, HO5, HB5⟩
        · obtain rfl : j = k := by omega
          have hzj : ¬ (j : Int) < j := by omega
          clear hlt
          go_wp2_with fail
          go_ret
          exact ⟨_, rfl, by have h := HO.out; rw [show ls.take j = ls by rw [← HN.out, List.take_length]] at h; exact h, HB.out⟩
end Go.Proofs.YtjohhahfpgfjdaaGreatDoor.Tb
end
section
namespace Go.Proofs.YtjohhahfpgfjdaaGreatDoor.Tb
open Go.RowKit Go.Maps
set_option linter.unusedVariables false
set_option linter.unusedSimpArgs false
theorem run_copy_rowN {P : Program} (w : World) (dT sT ty elem : TypeId) (g o dLen dCap : Nat) (a : Addr) (sLen sCap : Nat) (cur : Array Value) (t : TypeId) (cs : List Value) (s m : Nat)
    (hu : P.underlying dT = some (.slice elem)) (hs : (P.info? elem).map (·.size) = some s)
    (hg : w.heap[g]? = some (.cells cur t (0, 0))) (hm : m = Nat.min sLen dLen) (hn : cs.length = m * s)
    (hsrc : ∀ j v, cs[j]? = some v → w.cell? (a.add j) = some v) (hfit : o + cs.length ≤ cur.size) (h1 : ∀ v ∈ cs, v.oneCell' = true) :
    (Builtin.copy_ #[dT, sT] ty #[.slice (some ⟨g, o, none⟩) dLen dCap, .slice (some a) sLen sCap]).run P w =
      .ok (goInt m) (w.setRow g (cur.toList.take o ++ cs ++ cur.toList.drop (o + cs.length)).toArray) := by
  have hl := run_loadCells_list (P := P) w a cs hsrc
  have hst := run_storeCells_at P g o t cs 0 cur w hg (by simpa using hfit) h1
  cases hq : P.info? elem with
  | none => simp [hq] at hs
  | some i =>
    have hi : i.size = s := by simpa [hq] using hs
    simp [Builtin.copy_, run_underlying hu, Builtin.lenOf, Builtin.firstCells, sizeOf, typeInfo, hq, hi, ← hm, ← hn, hl, hst]
theorem rowsG_take (l : List Gl) (j : Nat) : (rowsG l).take (j * 5) = rowsG (l.take j) := by
  induction l generalizing j with
  | nil => simp [rowsG]
  | cons a l ih =>
    cases j with
    | zero => simp [rowsG]
    | succ j =>
      have e : ∀ (a : Gl) (m : List Gl), rowsG (a :: m) = glRow a ++ rowsG m := fun a m => by simp [rowsG]
      rw [List.take_succ_cons, e, e, show (j + 1) * 5 = (glRow a).length + j * 5 by rw [glRow_len]; omega, List.take_length_add_append, ih]
theorem rowsG_drop (l : List Gl) (j : Nat) : (rowsG l).drop (j * 5) = rowsG (l.drop j) := by
  induction l generalizing j with
  | nil => simp [rowsG]
  | cons a l ih =>
    cases j with
    | zero => simp [rowsG]
    | succ j =>
      have e : ∀ (a : Gl) (m : List Gl), rowsG (a :: m) = glRow a ++ rowsG m := fun a m => by simp [rowsG]
      rw [List.drop_succ_cons, e, show (j + 1) * 5 = (glRow a).length + j * 5 by rw [glRow_len]; omega, List.drop_length_add_append, ih]
/-- A copy of glyphs into a row of the call's own. -/
theorem run_copyG {B : Nat} (w : World) (ty : TypeId) (b c cap j dCap : Nat) (l xs : List Gl) (ad : Addr) (sLen sCap : Nat) (h : w.ownsRow B 44 5 (.slice (some ⟨b, 0, none⟩) c cap) c (rowsG l)) (hc : c = l.length) (hcc : cap = c) (hj : j ≤ c)
    (hx : xs.length = Nat.min sLen (c - j)) (hsrc : ∀ k u, (rowsG xs)[k]? = some u → w.cell? (ad.add k) = some u) :
    ∃ w', (Builtin.copy_ #[34, 34] ty #[.slice (some ⟨b, j * 5, none⟩) (c - j) dCap, .slice (some ad) sLen sCap]).run Tryz.prog w = .ok (goInt xs.length) w' ∧
      w'.ownsRow B 44 5 (.slice (some ⟨b, 0, none⟩) c cap) c (rowsG (l.take j ++ xs ++ l.drop (j + xs.length))) ∧ w.grownBy w' (some b) := by
  rcases h.2 with ⟨e, _⟩ | ⟨g, cap', cur, e, hb, hg, h1, h2, h3, h4⟩
  · cases e
  · cases e
    have hle : xs.length ≤ c - j := by rw [hx]; exact Nat.min_le_right _ _
    have hcur : cur.toList = rowsG l := by
      rw [← h4, List.take_of_length_le]
      rw [Array.length_toList, h3, hcc]
      exact Nat.le_refl _
    have hr := run_copy_rowN (P := Tryz.prog) w 34 34 ty 44 b (j * 5) (c - j) dCap ad sLen sCap cur 44 (rowsG xs) 5 xs.length Tryz.underlying34 (by kernel_rfl) hg hx (rowsG_len xs) hsrc (by rw [rowsG_len, h3, hcc]; omega) (rowsG_one xs)
    refine ⟨_, hr, ?_, ⟨rfl, rfl, rfl, by simp [World.setRow], fun k _ hk => setRow_other w b k _ (fun e => hk (by simp [e]))⟩⟩
    have hn : (rowsG (l.take j ++ xs ++ l.drop (j + xs.length))) = cur.toList.take (j * 5) ++ rowsG xs ++ cur.toList.drop (j * 5 + (rowsG xs).length) := by
      rw [hcur, rowsG_app, rowsG_app, rowsG_take, rowsG_len, show j * 5 + xs.length * 5 = (j + xs.length) * 5 by omega, rowsG_drop]
    have hlen : (l.take j ++ xs ++ l.drop (j + xs.length)).length = c := by
      simp only [List.length_append, List.length_take, List.length_drop]
      omega
    refine ⟨by rw [rowsG_len, hlen], .inr ⟨b, cap, _, rfl, hb, setRow_heap w b cur _ 44 _ hg, h1, h2, ?_, ?_⟩⟩
    · rw [← hn, List.size_toArray, rowsG_len, hlen, hcc]
    · rw [← hn]
      exact List.take_of_length_le (by rw [rowsG_len, hlen]; exact Nat.le_refl _)
def zeroG : Gl := ⟨.empty, 0, 0, 0, 0⟩
theorem make_gl (N : Nat) (hN : N ≤ 1000) (w : World) : (Instr.makeSlice 34 (.int .i64 (N : Int)) (.int .i64 (N : Int))).run Tryz.prog w = .ok (.slice (some ⟨w.heap.size, 0, none⟩) N N) (w.alloc (.cells (madeCells #[.string .empty, .int .i64 0, .int .i64 0, .int .i64 0, .int .i64 0] (N * 5)) 44)) := by
  obtain ⟨i0, hi0, hz0, hz1, hz2⟩ := info_parts infoG
  have h := run_make (P := Tryz.prog) w 34 44 i0 (.agg #[.string .empty, .int .i64 0, .int .i64 0, .int .i64 0, .int .i64 0]) Tryz.underlying34 hi0 hz0 .i64 .i64 (N : Int) (N : Int) (by omega) (by omega) (by rw [hz2]; omega) (by omega)
  rw [hz1, show (N : Int).toNat = N by omega] at h
  exact h
theorem made_gl (N : Nat) : (madeCells #[.string .empty, .int .i64 0, .int .i64 0, .int .i64 0, .int .i64 0] (N * 5)).toList = rowsG (List.replicate N zeroG) := by
  apply List.ext_getElem?
  intro j
  by_cases h : j < N * 5
  · have hj : j = (j / 5) * 5 + j % 5 := by omega
    have hm : j % 5 < 5 := by omega
    have hd : j / 5 < N := by omega
    have h1 := rowsG_at (List.replicate N zeroG) (j / 5) (j % 5) (by simpa using hd) hm
    rw [← hj] at h1
    rw [h1]
    simp [madeCells, h, glRow, zeroG]
    have : j % 5 = 0 ∨ j % 5 = 1 ∨ j % 5 = 2 ∨ j % 5 = 3 ∨ j % 5 = 4 := by omega
    rcases this with e | e | e | e | e <;> simp [e]
  · have h2 : (rowsG (List.replicate N zeroG)).length ≤ j := by rw [rowsG_len]; simp; omega
    rw [List.getElem?_eq_none h2]
    simp [madeCells, h]
/-- A row of which the first j are one glyph. -/
def repL (g : Gl) (j c : Nat) : List Gl := List.replicate j g ++ List.replicate (c - j) zeroG
theorem repL_len (g : Gl) {j c : Nat} (h : j ≤ c) : (repL g j c).length = c := by simp [repL]; omega
theorem repL_copy (g : Gl) {j m c : Nat} (h : j + m ≤ c) : (repL g j c).take j ++ List.replicate m g ++ (repL g j c).drop (j + m) = repL g (j + m) c := by
  unfold repL
  rw [List.take_left' (by simp), List.drop_append, List.drop_of_length_le (by simp), List.length_replicate, List.nil_append, List.drop_replicate, List.replicate_append_replicate]
  congr 2
  omega
theorem repL_take (g : Gl) (j c m : Nat) (h : m ≤ j) : (repL g j c).take m = List.replicate m g := by
  unfold repL
  rw [List.take_append_of_le_length (by simpa using h), List.take_replicate, Nat.min_eq_left h]
theorem wpList_copy_run {P : Program} {w : World} {ops : Array Oper} {rest : List Oper} {o : Oper} {a : Act} {Q : Exit → Act → World → Prop} (hgd : o.guard = none) (d s : Operand) (dT sT : TypeId)
    (ho : o.op = .call { callee := .builtin .copy, args := #[d, s], argTypes := #[dT, sT] }) (vd vs : Value) (hd : a.eval d = vd) (hs : a.eval s = vs)
    (v' : Value) (w' : World) (hr : (Builtin.copy_ #[dT, sT] o.type #[vd, vs]).run P w = .ok v' w') (h : wpList P ops Q rest (a.put o.dst v') w') : wpList P ops Q (o :: rest) a w :=
  wpList_plain hgd fun K hK => by
    unfold Oper.wp execOp
    simp only [ho, resolve, invoke, builtin, Sem.run_bind, Sem.run_pure, Result.andThen_ok, List.map_toArray, List.map_cons, List.map_nil, hd, hs, hr]
    exact hK _ _ h
theorem step_copy_run {P : Program} {ops : Array Oper} {o : Oper} {a : Act} {w : World} {K : Act → World → Prop} {Q : Exit → Act → World → Prop} {E : Prop} (hgd : o.guard = none) (d s : Operand) (dT sT : TypeId)
    (ho : o.op = .call { callee := .builtin .copy, args := #[d, s], argTypes := #[dT, sT] }) (vd vs : Value) (hd : a.eval d = vd) (hs : a.eval s = vs)
    (v' : Value) (w' : World) (hr : (Builtin.copy_ #[dT, sT] o.type #[vd, vs]).run P w = .ok v' w') (h : K (a.put o.dst v') w') :
    if Region.wanted o (yielded ops a.tmps) = true then Oper.wp P o a w K Q else E := by
  have hw : Region.wanted o (yielded ops a.tmps) = true := by simp [Region.wanted, hgd]
  rw [if_pos hw]
  unfold Oper.wp execOp
  simp only [ho, resolve, invoke, builtin, Sem.run_bind, Sem.run_pure, Result.andThen_ok, List.map_toArray, List.map_cons, List.map_nil, hd, hs, hr]
  exact h
set_option maxRecDepth 100000 in
set_option maxHeartbeats 4000000 in
theorem repeat_pro {P : Nat → Prop} (g : Gl) (v : Value) (c : Nat) (w : World) (h : RdG P w v [g]) (hc : c ≤ 1000) :
    Calls Tryz.prog 121 #[v, .int .i64 c] w (MakesR (List.replicate c g) w) := by
  obtain ⟨pa, cap, rfl, hc1, hc2⟩ := sliceG h
  obtain ⟨b, off, rfl, _, hcell⟩ := h.at_ (j := 0) (by simp)
  have HH := Lib.hid h
  have HM := Lib.hid (Tryz.bits_Mul 1 c (by omega) (by omega) w)
  have hmul : 1 * c / 18446744073709551616 = 0 := by rw [Nat.one_mul]; exact Nat.div_eq_of_lt (by omega)
  have hmod : 1 * c % 18446744073709551616 = c := by rw [Nat.one_mul]; exact Nat.mod_eq_of_lt (by omega)
  rw [hmul, hmod] at HM
  have c0 : ¬ ((c : Int) < 0) := by omega
  have c1 : ¬ (9223372036854775807 < (c : Int)) := by omega
  have w1 : IntKind.u64.wrap (c : Int) = c := by rw [IntKind.wrap_u64]; omega
  have hmk := make_gl c hc w
  clear h hc1 hmul hmod hcell
  go_enter Tryz.func121, Tryz.ntmps121
  go_wp2_with fail
  refine HM.out.mono ?_
  rintro e w2 ⟨rfl, rfl⟩
  have hA := below_box w2 (.cells (madeCells #[.string .empty, .int .i64 0, .int .i64 0, .int .i64 0, .int .i64 0] (c * 5)) 44)
  have hO : (w2.alloc (.cells (madeCells #[.string .empty, .int .i64 0, .int .i64 0, .int .i64 0, .int .i64 0] (c * 5)) 44)).ownsRow w2.heap.size 44 5 (.slice (some ⟨w2.heap.size, 0, none⟩) c c) c (rowsG (repL g 0 c)) := by
    have h := World.ownsRow_lit (e := 44) (size := 5) (base := w2.heap.size) w2 (madeCells #[.string .empty, .int .i64 0, .int .i64 0, .int .i64 0, .int .i64 0] (c * 5)) c (Nat.le_refl _) (by unfold maxLen; omega) (by simp [madeCells])
    rw [made_gl] at h
    have e : repL g 0 c = List.replicate c zeroG := by simp [repL]
    rw [e]
    exact h
  have c1d : decide ((9223372036854775807 : Int) < c) = false := decide_eq_false (by omega)
  obtain ⟨m, hm⟩ : ∃ m, Nat.min 1 c = m := ⟨_, rfl⟩
  have hm1 : m ≤ 1 := by rw [← hm]; exact Nat.min_le_left _ _
  have hmc : m ≤ c := by rw [← hm]; exact Nat.min_le_right _ _
  have hsrc : ∀ k u, (rowsG (List.replicate m g))[k]? = some u → (w2.alloc (.cells (madeCells #[.string .empty, .int .i64 0, .int .i64 0, .int .i64 0, .int .i64 0] (c * 5)) 44)).cell? ((⟨b, off, none⟩ : Addr).add k) = some u := fun k u hu => by
    have h1 : (rowsG [g])[k]? = some u := by
      rcases Nat.eq_zero_or_pos m with h0 | h0
      · rw [h0] at hu; simp [rowsG] at hu
      · rw [show m = 1 by omega] at hu; exact hu
    obtain ⟨i, j, hi, rfl, hj⟩ := rowsG_cell [g] k u h1
    obtain ⟨b', off', e, _, hc⟩ := (HH.out.below hA).at_ hi
    cases e
    rw [show (⟨b, off, none⟩ : Addr).add (i * 5 + j) = ⟨b, off + i * 5 + j, none⟩ by simp [Addr.add, Nat.add_assoc]]
    exact hc.cells j u hj
  obtain ⟨W3, hr3, ho3, hg3⟩ := run_copyG _ 3 w2.heap.size c c 0 c (repL g 0 c) (List.replicate m g) ⟨b, off, none⟩ 1 cap hO (repL_len g (Nat.zero_le _)).symm rfl (Nat.zero_le _) (by rw [List.length_replicate, Nat.sub_zero]; exact hm.symm) hsrc
  rw [List.length_replicate, repL_copy g (by omega), Nat.zero_add] at ho3
  rw [List.length_replicate, Nat.zero_mul, Nat.sub_zero] at hr3
  have HR3 := Lib.hid hr3
  have HO3 := Lib.hid ho3
  have HB3 := Lib.hid (hA.grown hg3 (by simp) (fun k hk => by simp at hk; omega))
  obtain ⟨B, hBB⟩ : ∃ B, w2.heap.size = B := ⟨_, rfl⟩
  have HBB := Lib.hid hBB
  have HMP := Lib.hid (show 0 < c → 0 < m from fun h => by rw [← hm]; exact Nat.lt_min.2 ⟨by omega, h⟩)
  rw [hBB] at HR3 HO3 HB3
  clear hA hO hsrc hr3 ho3 hg3 hm
  go_wp2_with (refine wpList_copy_run (o := ⟨some 33, _, _, _, _, _⟩) rfl (.tmp 31) (.tmp 32) 34 34 rfl (.slice (some ⟨B, 0, none⟩) c c) (.slice (some ⟨b, off, none⟩) 1 cap) rfl rfl _ _ HR3.out ?_)
  clear hmk
  go_loopw [8] (fun n wr => ∃ j : Nat, n = .int .i64 j ∧ j ≤ c ∧ Hid (0 < c → 0 < j) ∧ Hid (wr.ownsRow B 44 5 (.slice (some ⟨B, 0, none⟩) c c) c (rowsG (repL g j c))) ∧ Hid (Below B w2 wr)) (fun n _ => c - (intOf n).toNat)
  case atStart => exact ⟨m, rfl, hmc, HMP, HO3, HB3⟩
  case round =>
    obtain ⟨j, rfl, hj, HJ0, HO, HB⟩ := hrel
    by_cases hlt : j < c
    · have j0 := HJ0.out (by omega)
      have j1 : (j : Int) < c := by omega
      obtain ⟨k, hk⟩ : ∃ k, Nat.min j (c - j) = k := ⟨_, rfl⟩
      have hk1 : k ≤ j := by rw [← hk]; exact Nat.min_le_left _ _
      have hk2 : k ≤ c - j := by rw [← hk]; exact Nat.min_le_right _ _
      have hk0 : 0 < k := by rw [← hk]; exact Nat.lt_min.2 ⟨j0, by omega⟩
      have hod : wr.drew.ownsRow B 44 5 (.slice (some ⟨B, 0, none⟩) c c) c (rowsG (repL g j c)) := HO.out
      have hsrc : ∀ i u, (rowsG (List.replicate k g))[i]? = some u → wr.drew.cell? ((⟨B, 0, none⟩ : Addr).add i) = some u := fun i u hu => by
        rw [← repL_take g j c k hk1, ← rowsG_take, List.getElem?_take] at hu
        split at hu
        · exact hod.cells rfl i u hu
        · cases hu
      obtain ⟨W4, hr4, ho4, hg4⟩ := run_copyG wr.drew 3 B c c j (c - j) (repL g j c) (List.replicate k g) ⟨B, 0, none⟩ j c hod (repL_len g hj).symm rfl hj (by rw [List.length_replicate]; exact hk.symm) hsrc
      rw [List.length_replicate, repL_copy g (by omega)] at ho4
      rw [List.length_replicate] at hr4
      have HR4 := Lib.hid hr4
      have HO4 := Lib.hid ho4
      have HB4 := Lib.hid (HB.out.drew.grown hg4 (by have := HB.out.size; rw [← HBB.out]; exact this) (fun k hk => by simp at hk; omega))
      have hjc : ¬ c = j := by omega
      have HLT := Lib.hid hlt
      have HK0 := Lib.hid hk0
      have hkj : k ≤ 1000 := by omega
      have HWJ := Lib.hid (show IntKind.i64.wrap ((j : Int) + k) = ((j + k : Nat) : Int) by rw [IntWalk.i64_in _ (by omega)]; omega)
      clear hk hod hsrc hr4 ho4 hg4 hk0
      go_wp2_with fail
      go_region_law (refine step_copy_run rfl (.tmp 41) (.tmp 44) 34 34 rfl (.slice (some ⟨B, j * 5, none⟩) (c - j) (c - j)) (.slice (some ⟨B, 0, none⟩) j c) (by go_simp) (by go_simp) _ _ HR4.out ?_)
      all_goals
        simp only [Act.put, List.getElem_toArray, List.getElem_cons_zero, List.getElem_cons_succ, List.setIfInBounds_toArray, List.set_cons_zero, List.set_cons_succ, HWJ.out]
        go_wp2_with fail
        go_roundw
        case measure => have := HLT.out; have := HK0.out; simp [intOf]; omega
        case rel => exact ⟨j + k, rfl, by omega, Lib.hid (fun _ => by omega), HO4, HB4⟩
    · obtain rfl : j = c := by omega
      have hzj : ¬ (j : Int) < j := by omega
      clear hlt
      go_wp2_with fail
      go_ret
      exact ⟨_, rfl, by
        have h := HO.out
        have e : repL g j j = List.replicate j g := by simp [repL]
        rw [e] at h
        rw [HBB.out, List.length_replicate]
        exact h, by rw [HBB.out]; exact HB.out⟩
end Go.Proofs.YtjohhahfpgfjdaaGreatDoor.Tb
end
