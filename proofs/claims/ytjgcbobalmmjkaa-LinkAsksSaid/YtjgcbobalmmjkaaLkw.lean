/- The program's walk of layer 8: what was seen as a map, the queue as a row that is cut at its front. -/
import Derived.Test.YtjgcbobalmmjkaaLkn
import Derived.Maps.OwnSet
import Derived.Maps.OwnOps
import Derived.Lib.SlKeysI
import Derived.Deep.CutRange
import Derived.Deep.LoopGhost
import Derived.WalkMore
import Derived.ArgAppend
namespace Go.Proofs.Ytjgcbobalmmjkaa
open Go.RowKit Go.Maps
set_option linter.unusedVariables false

theorem perm_insertL {H : Type} (x : Lit × DataW H) : ∀ l : List (Lit × DataW H), (DataW.insert x l).Perm (x :: l)
  | [] => by simp [DataW.insert]
  | y :: r => by
    unfold DataW.insert
    split
    · exact List.Perm.refl _
    · exact ((perm_insertL x r).cons y).trans (List.Perm.swap x y r)
/-- A map that tells of each place that was seen from which one. -/
structure MpS (D : DataW Unit) (S : List (Nat × Nat)) : Prop where
  tidy : Tidy D
  has : ∀ x : Nat, Maps.has D (.int .i64 (x : Nat)) = true ↔ x ∈ S.map (·.1)
  at_ : ∀ (j n q m r : Nat), S[j]? = some (n, q) → S[q]? = some (m, r) → ∀ z, D.atKey (.int .i64 (n : Nat)) z = .lit (.int .i64 (m : Nat))
  keys : (intKeys D).Perm (intsL (S.map (·.1)))
  size : Maps.size D = S.length
theorem lit_ne {a b : Nat} (h : a ≠ b) : (Lit.int .i64 (a : Nat)) ≠ Lit.int .i64 (b : Nat) := by
  intro e
  injection e with _ e
  omega
theorem key_i64 (x : Nat) : WideAt.IsKeyLit (.int .i64 (x : Nat)) := trivial
theorem keys_put {D : DataW Unit} (hD : IsMap D) {x : Nat} (hx : Maps.has D (.int .i64 (x : Nat)) = false) (d : DataW Unit) : (intKeys (D.put (.int .i64 (x : Nat)) d)).Perm ((x : Int) :: intKeys D) := by
  obtain ⟨es, rfl⟩ := hD
  have hf : (es.filter fun p => !p.1.sameKey (.int .i64 (x : Nat))) = es := List.filter_eq_self.2 fun p hp => by
    rw [has_eq, List.any_eq_false] at hx
    simpa using hx p hp
  have h2 : (DataW.map es).put (.int .i64 (x : Nat)) d = .map (DataW.insert ((.int .i64 (x : Nat)), d) es) := by
    show DataW.map (DataW.insert _ (es.filter fun p => !p.1.sameKey (.int .i64 (x : Nat)))) = _
    rw [hf]
  rw [h2]
  exact (perm_insertL _ es).map _
theorem MpS.start (x : Nat) : MpS ((DataW.map [] : DataW Unit).put (.int .i64 (x : Nat)) (.lit (.int .i64 (x : Nat)))) [(x, 0)] := by
  refine ⟨tidy_empty.put (key_i64 x) _, fun y => ?_, fun j n q m r h1 h2 z => ?_, ?_, ?_⟩
  · by_cases e : y = x
    · subst e
      simp [has_put_same isMap_empty (key_i64 y)]
    · rw [has_put_other (lit_ne e)]
      simp [Maps.has, e]
  · have e1 : n = x ∧ q = 0 := by
      rcases j with _ | j
      · simp at h1; exact ⟨h1.1.symm, h1.2.symm⟩
      · simp at h1
    obtain ⟨rfl, rfl⟩ := e1
    simp at h2
    rw [← h2.1]
    exact atKey_put_same isMap_empty (key_i64 n) _ _
  · exact (keys_put isMap_empty (by simp [Maps.has]) _).trans (by simp [intKeys, intsL])
  · rw [size_put tidy_empty]
    simp [Maps.has, Maps.size]
theorem MpS.put {D : DataW Unit} {S : List (Nat × Nat)} (h : MpS D S) (hq : ∀ (j n q : Nat), S[j]? = some (n, q) → q < S.length) {x c m r : Nat} (hx : x ∉ S.map (·.1)) (hc : S[c]? = some (m, r)) : MpS (D.put (.int .i64 (x : Nat)) (.lit (.int .i64 (m : Nat)))) (S ++ [(x, c)]) := by
  have hf : Maps.has D (.int .i64 (x : Nat)) = false := by
    cases e : Maps.has D (.int .i64 (x : Nat))
    · rfl
    · exact absurd ((h.has x).1 e) hx
  refine ⟨h.tidy.put (key_i64 x) _, fun y => ?_, fun j n q m' r' h1 h2 z => ?_, ?_, ?_⟩
  · by_cases e : y = x
    · subst e
      simp [has_put_same h.tidy.isMap (key_i64 y)]
    · rw [has_put_other (lit_ne e), h.has]
      simp [e]
  · rcases Nat.lt_or_ge j S.length with hj | hj
    · rw [List.getElem?_append_left hj] at h1
      rw [List.getElem?_append_left (hq j n q h1)] at h2
      have hn : n ≠ x := fun e => hx (by rw [← e]; exact Bf.at_mem h1)
      rw [atKey_put_other (lit_ne hn)]
      exact h.at_ j n q m' r' h1 h2 z
    · rw [List.getElem?_append_right hj] at h1
      have e0 : j - S.length = 0 := by
        rcases Nat.eq_zero_or_pos (j - S.length) with h3 | h3
        · exact h3
        · obtain ⟨k, hk⟩ : ∃ k, j - S.length = k + 1 := ⟨j - S.length - 1, by omega⟩
          rw [hk] at h1; simp at h1
      rw [e0] at h1
      simp at h1
      obtain ⟨rfl, rfl⟩ := h1
      rw [List.getElem?_append_left (List.getElem?_eq_some_iff.1 hc).1, hc] at h2
      cases h2
      exact atKey_put_same h.tidy.isMap (key_i64 x) _ _
  · refine (keys_put h.tidy.isMap hf _).trans ?_
    have : intsL ((S ++ [(x, c)]).map (·.1)) = intsL (S.map (·.1)) ++ [(x : Int)] := by simp [intsL]
    rw [this]
    exact ((h.keys.cons _).trans (List.perm_append_singleton _ _).symm)
  · rw [size_put h.tidy, hf, h.size]
    simp
theorem lawI : Keyed Try.prog 3 := int_keyed Try.underlying3
theorem zeroIL (w : World) : (zeroValue 3).run Try.prog w = .ok (.int .i64 0) w := by kernel_rfl
/-- Block M is such a map. -/
def MapAt (w : World) (M : Nat) (S : List (Nat × Nat)) : Prop := ∃ D : DataW Unit, w.ownsMap Try.prog 3 (plainElem Try.prog 3) M S.length D ∧ MpS D S
theorem MapAt.lt {w : World} {M : Nat} {S : List (Nat × Nat)} (h : MapAt w M S) : M < w.heap.size := by
  obtain ⟨D, h1, _⟩ := h
  exact h1.lt
theorem MapAt.block {w w' : World} {M : Nat} {S : List (Nat × Nat)} (h : MapAt w M S) (e : w'.heap[M]? = w.heap[M]?) : MapAt w' M S := by
  obtain ⟨D, ⟨es, ck, h1, h2⟩, h3⟩ := h
  exact ⟨D, ⟨es, ck, e.trans h1, h2⟩, h3⟩
theorem MapAt.below {w w' : World} {M : Nat} {S : List (Nat × Nat)} (h : MapAt w M S) (hb : Below w.heap.size w w') : MapAt w' M S := h.block (hb.block M h.lt)
theorem MapAt.obj {w : World} {M : Nat} {S : List (Nat × Nat)} (h : MapAt w M S) : ∃ es ck, w.heap[M]? = some (.map es ck) := by
  obtain ⟨D, ⟨es, ck, h1, _⟩, _⟩ := h
  exact ⟨es, ck, h1⟩

/-- A row of numbers that begins somewhere in a block of the call's own. -/
def Qr (W : World) (base : Nat) (v : Value) (zs : List Nat) : Prop :=
  ∃ (g o cap : Nat) (cur : Array Value), v = .slice (some ⟨g, o, none⟩) zs.length cap ∧ base ≤ g ∧ W.heap[g]? = some (.cells cur 3 (0, 0)) ∧ o + cap ≤ cur.size ∧ zs.length ≤ cap ∧ cap ≤ maxLen ∧ ∀ j (hj : j < zs.length), cur[o + j]? = some (.int .i64 (zs[j] : Nat))
section
variable {W W' : World} {base : Nat} {v : Value} {zs : List Nat}
theorem Qr.own (h : Qr W base v zs) {c : Nat} (hc : v.ownBlock = some c) : base ≤ c ∧ c < W.heap.size ∧ ∃ cur, W.heap[c]? = some (.cells cur 3 (0, 0)) := by
  obtain ⟨g, o, cap, cur, rfl, h1, h2, _⟩ := h
  obtain rfl : g = c := by simpa [Value.ownBlock] using hc
  exact ⟨h1, (Array.getElem?_eq_some_iff.1 h2).1, cur, h2⟩
theorem Qr.keep (h : Qr W base v zs) (hk : ∀ c, v.ownBlock = some c → W'.heap[c]? = W.heap[c]?) : Qr W' base v zs := by
  obtain ⟨g, o, cap, cur, rfl, h1, h2, h3⟩ := h
  exact ⟨g, o, cap, cur, rfl, h1, (hk g rfl).trans h2, h3⟩
theorem Qr.below (h : Qr W base v zs) (hb : Below W.heap.size W W') : Qr W' base v zs := h.keep fun c e => hb.block c (h.own e).2.1
theorem Qr.one (W : World) (x base : Nat) (hb : base ≤ W.heap.size) : Qr (W.alloc (.cells #[.int .i64 (x : Nat)] 3)) base (.slice (some ⟨W.heap.size, 0, none⟩) 1 1) [x] :=
  ⟨W.heap.size, 0, 1, _, rfl, hb, World.alloc_heap_new W _, by simp, by simp, by decide, fun j hj => by
    have : j = 0 := by simpa using hj
    subst this
    rfl⟩
/-- What is left behind the first. -/
theorem Qr.cut {g o cap : Nat} {x : Nat} (h : Qr W base (.slice (some ⟨g, o, none⟩) (zs.length + 1) cap) (x :: zs)) : Qr W base (.slice (if cap = 1 then some ⟨g, o, none⟩ else some ⟨g, o + 1, none⟩) zs.length (cap - 1)) zs := by
  obtain ⟨g', o', cap', cur, e, h1, h2, h3, h4, h5, h6⟩ := h
  cases e
  simp at h4
  by_cases hc : cap = 1
  · subst hc
    have : zs = [] := List.eq_nil_of_length_eq_zero (by omega)
    subst this
    rw [if_pos rfl]
    exact ⟨g, o, 0, cur, rfl, h1, h2, by omega, by simp, Nat.zero_le _, fun j hj => absurd hj (by simp)⟩
  · rw [if_neg hc]
    exact ⟨g, o + 1, cap - 1, cur, rfl, h1, h2, by omega, by omega, by omega, fun j hj => by
      have := h6 (j + 1) (by simp; omega)
      rw [show o + 1 + j = o + (j + 1) by omega, this]
      simp⟩
theorem Qr.first {g o n cap x : Nat} (h : Qr W base (.slice (some ⟨g, o, none⟩) n cap) (x :: zs)) : W.cell? ⟨g, o, none⟩ = some (.int .i64 (x : Nat)) := by
  obtain ⟨g', o', cap', cur, e, h1, h2, h3, h4, h5, h6⟩ := h
  cases e
  have := h6 0 (by simp)
  rw [cell_of_row _ _ _ _ _ _ h2]
  simpa using this
end
theorem Qr.of_own {W : World} {b base : Nat} {v : Value} {zs : List Nat} (h : W.ownsRow b 3 1 v zs.length (numsV zs)) (h0 : 0 < zs.length) (hb : base ≤ b) : Qr W base v zs := by
  rcases h.2 with ⟨_, e⟩ | ⟨g, cap, cur, rfl, hbg, hg, h1, h2, h3, h4⟩
  · omega
  · refine ⟨g, 0, cap, cur, rfl, by omega, hg, by omega, h1, h2, fun j hj => ?_⟩
    have := World.ownsRow.cellAt h j (by omega)
    rw [cell_of_row _ _ _ _ _ _ hg] at this
    rw [Nat.zero_add, this]
    simp [numsV, hj]
theorem run_append_q {W : World} {base : Nat} {v : Value} {zs : List Nat} (h : Qr W base v zs) (ty : TypeId) (ad : Addr) (c x : Nat) (hx : W.cell? ad = some (.int .i64 (x : Nat))) (hl : zs.length ≤ 1000000) (hb : base ≤ W.heap.size) :
    ∃ v' W', (Builtin.append_ #[23, 23] ty #[v, .slice (some ad) 1 c]).run Try.prog W = .ok v' W' ∧ Qr W' base v' (zs ++ [x]) ∧ W.grownBy W' v.ownBlock := by
  obtain ⟨i0, hi0, hz0, hz1, hz2⟩ := info_parts infoI
  obtain ⟨g, o, cap, cur, rfl, h1, h2, h3, h4, h5, h6⟩ := h
  have hnews : ∀ j u, [Value.int .i64 (x : Nat)][j]? = some u → W.cell? (ad.add j) = some u := by
    intro j u hu
    rcases j with _ | j
    · simp at hu; subst hu; rw [show ad.add 0 = ad by simp [Addr.add]]; exact hx
    · simp at hu
  have holds : ∀ j u, (numsV zs)[j]? = some u → W.cell? ((⟨g, o, none⟩ : Addr).add j) = some u := by
    intro j u hu
    have hj : j < zs.length := by have := (List.getElem?_eq_some_iff.1 hu).1; rwa [numsV_len] at this
    rw [show (⟨g, o, none⟩ : Addr).add j = ⟨g, o + j, none⟩ by simp [Addr.add], cell_of_row _ _ _ _ _ _ h2, h6 j hj]
    simpa [numsV, hj] using hu
  by_cases hr : zs.length + 1 ≤ cap
  · have hsz : o + zs.length < cur.size := by omega
    have hrun := run_append_room_cells (P := Try.prog) W 23 ty 3 i0 Try.underlying23 hi0 g o zs.length cap ad 1 c [.int .i64 (x : Nat)] (by rw [hz1]; rfl) hnews (numsV_one [x]) hr
      (fun j hj => by
        have : j = 0 := by simpa using hj
        subst this
        rw [hz1, Nat.mul_one, Nat.add_zero, cell_of_row _ _ _ _ _ _ h2]
        simp [hsz]) (fun j hj => frozen_of_row W g _ _ _ h2)
    have hw : W.setCells g (o + zs.length * i0.size) [.int .i64 (x : Nat)] = W.setCell ⟨g, o + zs.length, none⟩ (.int .i64 (x : Nat)) := by rw [hz1, Nat.mul_one]; rfl
    rw [hw] at hrun
    refine ⟨_, _, hrun, ⟨g, o, cap, _, by simp, h1, heap_setCell_same W g (o + zs.length) _ _ _ h2, by simpa using h3, by simpa using hr, h5, fun j hj => ?_⟩, ⟨rfl, rfl, rfl, by simp [World.setCell], fun k hk hne => Below.heap_setCell _ _ _ _ (fun e => hne (by simp [Value.ownBlock]; exact e))⟩⟩
    by_cases e : j = zs.length
    · subst e
      rw [Array.getElem?_setIfInBounds_self_of_lt hsz]
      simp
    · have hj' : j < zs.length := by simp at hj; omega
      rw [Array.getElem?_setIfInBounds_ne (by omega), h6 j hj']
      simp [List.getElem_append_left hj']
  · obtain ⟨v', W', hrun, ho, hg⟩ := run_append_arg_grows (P := Try.prog) W 23 ty 3 i0 (.int .i64 0) 1 8 Try.underlying23 hi0 hz0 hz1 hz2 rfl (by decide) ⟨g, o, none⟩ zs.length cap (numsV zs) (by rw [numsV_len, Nat.mul_one]) holds ad 1 c [.int .i64 (x : Nat)] rfl hnews (by omega) (by unfold maxLen; omega) (by omega)
    refine ⟨v', W', hrun, Qr.of_own (zs := zs ++ [x]) (by rw [List.length_append, numsV_app]; exact ho) (by simp) hb, ⟨hg.os, hg.tape, hg.output, hg.size, fun k hk _ => hg.block k hk (by simp)⟩⟩
theorem wpList_append_q {W : World} {ops : Array Oper} {rest : List Oper} {o : Oper} {a : Act} {Q : Exit → Act → World → Prop} (hgd : o.guard = none) (s y : Operand)
    (ho : o.op = .call { callee := .builtin .append, args := #[s, y], argTypes := #[23, 23] })
    {base : Nat} {v : Value} {zs : List Nat} (hs : a.eval s = v) (h : Qr W base v zs) (ad : Addr) (c x : Nat) (hy : a.eval y = .slice (some ad) 1 c) (hx : W.cell? ad = some (.int .i64 (x : Nat))) (hl : zs.length ≤ 1000000) (hb : base ≤ W.heap.size)
    (hK : ∀ v' W', Qr W' base v' (zs ++ [x]) → W.grownBy W' v.ownBlock → wpList Try.prog ops Q rest (a.put o.dst v') W') : wpList Try.prog ops Q (o :: rest) a W := by
  refine wpList_plain hgd fun K hK' => ?_
  obtain ⟨v', W', hrun, h2, h3⟩ := run_append_q h o.type ad c x hx hl hb
  unfold Oper.wp execOp
  simp only [ho, resolve, invoke, builtin, Sem.run_bind, Sem.run_pure, Result.andThen_ok, List.map_toArray, List.map_cons, List.map_nil, hs, hy, hrun]
  exact hK' _ _ (hK v' W' h2 h3)
theorem wpList_insert_own {H : Type} {P : Program} (w : World) {ops : Array Oper} {rest : List Oper} {o : Oper} {a : Act} {Q : Exit → Act → World → Prop}
    (hg : o.guard = none) (m x v : Operand) (t : TypeId) (hop : o.op = Op.insert t m x v)
    (k e : TypeId) (K : Keyed P k) (ht : P.underlying t = some (.map k e)) (R : Value → Option (DataW H × List MemPlace)) (b n : Nat) (D : DataW H)
    (hm : a.eval m = .map (some b)) (hown : w.ownsMap P k R b n D) (hn : n < maxLen) (key val : Value) (kl : Lit) (hx : a.eval x = key) (hv : a.eval v = val) (hkey : keyOf P k key = some kl)
    (d : DataW H) (ps : List MemPlace) (hval : R val = some (d, ps))
    (hK : ∀ w', w'.ownsMap P k R b (n + 1) (D.put kl d) → w.grownBy w' (some b) → wpList P ops Q rest (a.put o.dst undef) w') :
    wpList P ops Q (o :: rest) a w := by
  refine wpList_plain hg fun K' hK' => ?_
  obtain ⟨w', hrun, r1, r2⟩ := hown.update K ht hn hkey hval
  unfold Oper.wp
  simp [execOp, hop, hm, hx, hv, hrun, Result.andThen]
  exact hK' _ _ (hK w' r1 r2)
end Go.Proofs.Ytjgcbobalmmjkaa
