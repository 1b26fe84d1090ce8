/- Layer 10: sources in memory, as far as contents are made of them; what the tree of them is. -/
import Derived.Test.YtjnnkelbedmccaaTol
import Derived.Test.YtjnnkelbedmccaaToq
import Derived.Test.YtjnnkelbedmccaaFm4
namespace Go.Proofs.Ytjnnkelbedmccaa
open Go.Deep Go.ChangeShapes Go.WideShapes Go.RowKit Go.Maps
set_option linter.unusedVariables false
/-- One topic's level: what comes of the entries so far and the topic's number. -/
def stepT (s : Option (List Ent × Nat)) (z : Int) : Option (List Ent × Nat) :=
  match s with
  | none => none
  | some (o, t) => if z = 0 then some (o, t + 1) else if mayB (ahd o o.length) z = true then some (o ++ [⟨(t : Int), z⟩], t + 1) else none
def trT (fs : List Int) : Option (List Ent × Nat) := fs.foldl stepT (some ([], 0))
theorem trT_snoc (fs : List Int) (z : Int) : trT (fs ++ [z]) = stepT (trT fs) z := by simp [trT, List.foldl_append]
theorem fold_noneT : ∀ fs : List Int, fs.foldl stepT none = none
  | [] => rfl
  | z :: fs => fold_noneT fs
theorem trT_bad {a : List Int} (b : List Int) (h : trT a = none) : trT (a ++ b) = none := by
  unfold trT at h ⊢
  rw [List.foldl_append, h]
  exact fold_noneT b
theorem trT_pre {a b : List Int} {s : List Ent × Nat} (h : trT (a ++ b) = some s) : ∃ s', trT a = some s' := by
  cases e : trT a with
  | none => rw [trT_bad b e] at h; cases h
  | some s' => exact ⟨s', rfl⟩
theorem ahd_snoc (o : List Ent) (e : Ent) : ahd (o ++ [e]) (o ++ [e]).length = e.lv := by
  rw [List.length_append, List.length_singleton]
  simp [ahd, lvN]
structure OkT (o : List Ent) (t n : Nat) : Prop where
  num : t = n
  len : o.length ≤ n
  ents : ∀ e ∈ o, 0 ≤ e.tp ∧ e.tp < n ∧ 1 ≤ e.lv ∧ e.lv ≤ 8
  lo : 0 ≤ ahd o o.length
  hi : ahd o o.length ≤ 8
theorem OkT.step {o o' : List Ent} {t t' n : Nat} {z : Int} (h : OkT o t n) (hs : stepT (some (o, t)) z = some (o', t')) : OkT o' t' (n + 1) := by
  unfold stepT at hs
  simp only at hs
  split at hs
  · injection hs with hs
    injection hs with h1 h2
    subst h1 h2
    exact ⟨by have := h.num; omega, by have := h.len; omega, fun e he => by have := h.ents e he; omega, h.lo, h.hi⟩
  · split at hs
    · rename_i hm
      injection hs with hs
      injection hs with h1 h2
      subst h1 h2
      unfold mayB at hm
      have hm := of_decide_eq_true hm
      refine ⟨by have := h.num; omega, by have := h.len; simp; omega, fun e he => ?_, by rw [ahd_snoc]; exact by simp only; omega, by rw [ahd_snoc]; exact by simp only; omega⟩
      rcases List.mem_append.1 he with he | he
      · have := h.ents e he; omega
      · obtain rfl := List.mem_singleton.1 he
        have := h.num
        simp only
        omega
    · cases hs
theorem fold_ok : ∀ (fs : List Int) (o : List Ent) (t n : Nat) (s : List Ent × Nat), OkT o t n → fs.foldl stepT (some (o, t)) = some s → OkT s.1 s.2 (n + fs.length)
  | [], o, t, n, s, h, hs => by cases hs; exact h
  | z :: fs, o, t, n, s, h, hs => by
    rw [List.foldl_cons] at hs
    cases e : stepT (some (o, t)) z with
    | none => rw [e, fold_noneT] at hs; cases hs
    | some s' =>
      rw [e] at hs
      have := fold_ok fs s'.1 s'.2 (n + 1) s (h.step e) hs
      rw [List.length_cons, show n + (fs.length + 1) = n + 1 + fs.length by omega]
      exact this
theorem trT_ok {fs : List Int} {o : List Ent} {t : Nat} (h : trT fs = some (o, t)) : OkT o t fs.length := by
  have := fold_ok fs [] 0 0 (o, t) ⟨rfl, Nat.le_refl _, (fun e he => by cases he), by decide, by decide⟩ h
  rw [Nat.zero_add] at this
  exact this
theorem OkT.fit {o : List Ent} {t n : Nat} (h : OkT o t n) (hn : n ≤ 1000) : ∀ e ∈ o, FitE e := fun e he => by
  have := h.ents e he
  exact ⟨by simp [Lit.wf, IntKind.min, IntKind.max, IntKind.signed, IntKind.bits]; omega, by simp [Lit.wf, IntKind.min, IntKind.max, IntKind.signed, IntKind.bits]; omega⟩
/-- The topics of the sources ahead of the i-th. -/
def flT (ll : List (List Int)) (i : Nat) : List Int := (ll.take i).flatten
theorem flT_succ {ll : List (List Int)} {i : Nat} (h : i < ll.length) : flT ll (i + 1) = flT ll i ++ ll[i] := by
  unfold flT
  rw [List.take_succ_eq_append_getElem h, List.flatten_append, List.flatten_singleton]
theorem flT_all (ll : List (List Int)) : flT ll ll.length = ll.flatten := by unfold flT; rw [List.take_length]
theorem flT_le (ll : List (List Int)) (i j : Nat) (h : i ≤ j) : ∃ r, flT ll j = flT ll i ++ r := by
  refine ⟨((ll.take j).drop i).flatten, ?_⟩
  unfold flT
  rw [← List.flatten_append]
  congr 1
  have := List.take_append_drop i (ll.take j)
  rw [List.take_take, Nat.min_eq_left h] at this
  exact this.symm
/-- How many topics there are. -/
def cntL (ll : List (List Int)) : Nat := ll.flatten.length
theorem flT_cnt (ll : List (List Int)) (i : Nat) : (flT ll i).length ≤ cntL ll := by
  by_cases h : i ≤ ll.length
  · obtain ⟨r, e⟩ := flT_le ll i ll.length h
    rw [flT_all] at e
    unfold cntL
    rw [e, List.length_append]
    omega
  · unfold flT cntL
    rw [List.take_of_length_le (by omega)]
    exact Nat.le_refl _
theorem flT_in {ll : List (List Int)} {i : Nat} (h : i < ll.length) {k : Nat} (hk : k ≤ ll[i].length) : (flT ll i).length + k ≤ cntL ll := by
  have := flT_cnt ll (i + 1)
  rw [flT_succ h, List.length_append] at this
  omega
def badS (ll : List (List Int)) : Option Nat := (List.range ll.length).find? fun i => (trT (flT ll (i + 1))).isNone
def wrT (ln : Int) (nm : ByteArray) (ll : List (List Int)) : Flt :=
  if 1000 < cntL ll then ⟨2, 0, 0, 0, .empty⟩ else match badS ll with | some i => ⟨100, (i : Nat), ln, 1, nm⟩ | none => ⟨0, 0, 0, 0, .empty⟩
def outT (ll : List (List Int)) : List Ent := if 1000 < cntL ll then [] else match trT ll.flatten with | some (o, _) => o | none => []
theorem tree_long {ll : List (List Int)} (h : 1000 < cntL ll) (ln : Int) (nm : ByteArray) : wrT ln nm ll = ⟨2, 0, 0, 0, .empty⟩ ∧ outT ll = [] := by
  unfold wrT outT
  rw [if_pos h, if_pos h]
  exact ⟨rfl, rfl⟩
theorem tree_bad {ll : List (List Int)} (h : cntL ll ≤ 1000) {i : Nat} (hi : i < ll.length) {s : List Ent × Nat} (h1 : trT (flT ll i) = some s) (h2 : trT (flT ll (i + 1)) = none) (ln : Int) (nm : ByteArray) : wrT ln nm ll = ⟨100, (i : Nat), ln, 1, nm⟩ ∧ outT ll = [] := by
  unfold wrT outT
  rw [if_neg (by omega), if_neg (by omega)]
  have hb : badS ll = some i := by
    unfold badS
    refine find_first hi (fun j hj => ?_) (by simp [h2])
    obtain ⟨r, e⟩ := flT_le ll (j + 1) i (by omega)
    rw [e] at h1
    obtain ⟨s', h3⟩ := trT_pre h1
    simp [h3]
  rw [hb]
  refine ⟨rfl, ?_⟩
  obtain ⟨r, e⟩ := flT_le ll (i + 1) ll.length hi
  rw [flT_all] at e
  rw [e, trT_bad r h2]
theorem tree_good {ll : List (List Int)} (h : cntL ll ≤ 1000) {o : List Ent} {t : Nat} (h1 : trT ll.flatten = some (o, t)) (ln : Int) (nm : ByteArray) : wrT ln nm ll = ⟨0, 0, 0, 0, .empty⟩ ∧ outT ll = o := by
  unfold wrT outT
  rw [if_neg (by omega), if_neg (by omega), h1]
  refine ⟨?_, rfl⟩
  have hb : badS ll = none := by
    unfold badS
    rw [List.find?_eq_none]
    intro j hj
    have hj := List.mem_range.1 hj
    obtain ⟨r, e⟩ := flT_le ll (j + 1) ll.length hj
    rw [flT_all] at e
    rw [e] at h1
    obtain ⟨s', h3⟩ := trT_pre h1
    simp [h3]
  rw [hb]
/-- A topic that the law makes. -/
def tRow (ln : Int) (nm : ByteArray) (z : Int) : List Value := [.int .i64 0, .string nm, .string .empty, .int .i64 z, .slice none 0 0, .slice none 0 0, .slice none 0 0, .int .i64 ln]
def RdTs (ln : Int) (nm : ByteArray) (w : World) (v : Value) (zs : List Int) : Prop :=
  ∃ (pa : Option Addr) (cap : Nat), v = .slice pa zs.length cap ∧ ∀ j (hj : j < zs.length), ∃ b off, pa = some ⟨b, off, none⟩ ∧ ∀ k u, (tRow ln nm zs[j])[k]? = some u → w.cell? ⟨b, off + j * 8 + k, none⟩ = some u
def RdSs (ln : Int) (nm : ByteArray) (w : World) (v : Value) (ll : List (List Int)) : Prop :=
  ∃ (pa : Option Addr) (cap : Nat), v = .slice pa ll.length cap ∧ ∀ j (hj : j < ll.length), ∃ b off tv, pa = some ⟨b, off, none⟩ ∧ w.cell? ⟨b, off + j * 2, none⟩ = some (.slice none 0 0) ∧ w.cell? ⟨b, off + j * 2 + 1, none⟩ = some tv ∧ RdTs ln nm w tv ll[j]
section
variable {ln : Int} {nm : ByteArray} {w w' : World} {v : Value} {zs : List Int} {ll : List (List Int)}
theorem RdTs.keep (h : RdTs ln nm w v zs) (hk : ∀ a : Addr, a.block < w.heap.size → w'.cell? a = w.cell? a) : RdTs ln nm w' v zs := by
  obtain ⟨pa, cap, e, h4⟩ := h
  refine ⟨pa, cap, e, fun j hj => ?_⟩
  obtain ⟨b, off, e, hc⟩ := h4 j hj
  exact ⟨b, off, e, fun k u hu => (hk ⟨b, off + j * 8 + k, none⟩ (cellInL (hc k u hu))).trans (hc k u hu)⟩
theorem RdTs.below (h : RdTs ln nm w v zs) (hb : Below w.heap.size w w') : RdTs ln nm w' v zs := h.keep fun _ ha => hb.cell ha
theorem RdTs.form (h : RdTs ln nm w v zs) : ∃ (pa : Option Addr) (cap : Nat), v = .slice pa zs.length cap := by
  obtain ⟨pa, cap, e, _⟩ := h
  exact ⟨pa, cap, e⟩
theorem RdTs.cell {pa : Option Addr} {n cap : Nat} (h : RdTs ln nm w (.slice pa n cap) zs) {j : Nat} (hj : j < zs.length) : ∃ b off, pa = some ⟨b, off, none⟩ ∧ w.cell? ⟨b, off + j * 8, none⟩ = some (.int .i64 0) ∧ w.cell? ⟨b, off + j * 8 + 1, none⟩ = some (.string nm) ∧ w.cell? ⟨b, off + j * 8 + 2, none⟩ = some (.string .empty) ∧
    w.cell? ⟨b, off + j * 8 + 3, none⟩ = some (.int .i64 zs[j]) ∧ w.cell? ⟨b, off + j * 8 + 4, none⟩ = some (.slice none 0 0) ∧ w.cell? ⟨b, off + j * 8 + 5, none⟩ = some (.slice none 0 0) ∧ w.cell? ⟨b, off + j * 8 + 6, none⟩ = some (.slice none 0 0) ∧ w.cell? ⟨b, off + j * 8 + 7, none⟩ = some (.int .i64 ln) := by
  obtain ⟨pa', cap', e, h4⟩ := h
  cases e
  obtain ⟨b, off, e, hc⟩ := h4 j hj
  exact ⟨b, off, e, hc 0 _ rfl, hc 1 _ rfl, hc 2 _ rfl, hc 3 _ rfl, hc 4 _ rfl, hc 5 _ rfl, hc 6 _ rfl, hc 7 _ rfl⟩
theorem RdSs.keep (h : RdSs ln nm w v ll) (hk : ∀ a : Addr, a.block < w.heap.size → w'.cell? a = w.cell? a) : RdSs ln nm w' v ll := by
  obtain ⟨pa, cap, e, h4⟩ := h
  refine ⟨pa, cap, e, fun j hj => ?_⟩
  obtain ⟨b, off, tv, e, h1, h2, h3⟩ := h4 j hj
  exact ⟨b, off, tv, e, (hk _ (cellInL h1)).trans h1, (hk _ (cellInL h2)).trans h2, h3.keep hk⟩
theorem RdSs.below (h : RdSs ln nm w v ll) (hb : Below w.heap.size w w') : RdSs ln nm w' v ll := h.keep fun _ ha => hb.cell ha
theorem RdSs.form (h : RdSs ln nm w v ll) : ∃ (pa : Option Addr) (cap : Nat), v = .slice pa ll.length cap := by
  obtain ⟨pa, cap, e, _⟩ := h
  exact ⟨pa, cap, e⟩
theorem RdSs.cell {pa : Option Addr} {n cap : Nat} (h : RdSs ln nm w (.slice pa n cap) ll) {j : Nat} (hj : j < ll.length) : ∃ b off pt ct, pa = some ⟨b, off, none⟩ ∧ w.cell? ⟨b, off + j * 2, none⟩ = some (.slice none 0 0) ∧ w.cell? ⟨b, off + j * 2 + 1, none⟩ = some (.slice pt ll[j].length ct) ∧ RdTs ln nm w (.slice pt ll[j].length ct) ll[j] := by
  obtain ⟨pa', cap', e, h4⟩ := h
  cases e
  obtain ⟨b, off, tv, e, h1, h2, h3⟩ := h4 j hj
  obtain ⟨pt, ct, rfl⟩ := h3.form
  exact ⟨b, off, pt, ct, e, h1, h2, h3⟩
end
/-- A new error that is this fault. -/
def ErrIs (f : Flt) (w : World) (e : Ending) (w' : World) : Prop := (∃ g, w.heap.size ≤ g ∧ e = .returned (errV g) ∧ Erd w' g f) ∧ Below w.heap.size w w'
set_option maxRecDepth 100000 in
set_option maxHeartbeats 1000000 in
theorem fault_new (c n m k : Int) (s : ByteArray) (hc : c ≠ 0) (w : World) : Calls Try.prog 41 #[.int .i64 c, .int .i64 n, .int .i64 m, .int .i64 k, .string s] w (ErrIs ⟨c, n, m, k, s⟩ w) := by
  have t1 : (c == 0) = false := by simpa using hc
  have HC := Lib.hid hc
  clear hc
  go_enter Try.func41, Try.ntmps41
  go_wp2_with fail
  go_ret
  exact ⟨⟨_, Nat.le_refl _, rfl, World.alloc_heap_new _ _, HC.out⟩, (Below.refl _ w).alloc (Nat.le_refl _) _⟩
set_option maxRecDepth 100000 in
set_option maxHeartbeats 1000000 in
theorem fault_code (c : Int) (hc : c ≠ 0) (w : World) : Calls Try.prog 39 #[.int .i64 c] w (ErrIs ⟨c, 0, 0, 0, .empty⟩ w) := by
  have HC := Lib.hid hc
  clear hc
  go_enter Try.func39, Try.ntmps39
  go_wp2_with fail
  refine (fault_new c 0 0 0 _ HC.out _).mono ?_
  rintro e w1 ⟨⟨g, hg, rfl, hE⟩, hb⟩
  have HB := Lib.hid hb
  have HE := Lib.hid hE
  have HG := Lib.hid hg
  clear hb hE hg
  unfold errV
  go_wp2_with fail
  go_ret
  exact ⟨⟨_, HG.out, rfl, HE.out⟩, HB.out⟩
set_option maxRecDepth 100000 in
set_option maxHeartbeats 2000000 in
theorem count_pro (ln : Int) (nm : ByteArray) (ll : List (List Int)) (v : Value) (w : World) (h : RdSs ln nm w v ll) (hm : cntL ll ≤ 1048576) (hl : ll.length ≤ 1048576) :
    Calls Try.prog 38 #[v] w (SaysL (.int .i64 (cntL ll : Nat)) w) := by
  obtain ⟨pa, cap, rfl⟩ := h.form
  have HR := Lib.hid h
  have HM := Lib.hid hm
  have HL := Lib.hid hl
  obtain ⟨n, hn⟩ : ∃ n, ll.length = n := ⟨_, rfl⟩
  have HN := Lib.hid hn
  rw [hn]
  rw [hn] at HR
  rw [hn] at HL
  clear h hm hn hl
  go_enter Try.func38, Try.ntmps38
  go_wp2_with fail
  go_loopw [8, 3] (fun i nv wr => ∃ k : Nat, i = .int .i64 k ∧ k ≤ n ∧ nv = .int .i64 ((flT ll k).length : Nat) ∧ Hid (Below w.heap.size w wr)) (fun i _ _ => n - (intOf i).toNat)
  case atStart => exact ⟨0, rfl, Nat.zero_le _, rfl, Lib.hid (Below.refl _ _)⟩
  case round =>
    obtain ⟨k, rfl, hk, rfl, HB⟩ := hrel
    have h1 := flT_cnt ll k
    have h2 := HM.out
    obtain ⟨c, hc⟩ : ∃ c, (flT ll k).length = c := ⟨_, rfl⟩
    have HC := Lib.hid hc
    rw [hc] at h1 ⊢
    clear hc
    by_cases hlt : k < n
    · have hkl : k < ll.length := by rw [HN.out]; exact hlt
      obtain ⟨b, off, pt, ct, rfl, c1, c2, ht⟩ := (HR.out.below HB.out).cell hkl
      have hcs := flT_succ hkl
      have h3 := flT_in hkl (Nat.le_refl _)
      rw [HC.out] at h3
      obtain ⟨m, hm⟩ : ∃ m, ll[k].length = m := ⟨_, rfl⟩
      have HX := Lib.hid (show (flT ll (k + 1)).length = c + m by rw [hcs, List.length_append, HC.out, hm])
      rw [hm] at c2 h3
      have v1 : IntKind.i64.wrap ((c : Int) + m) = c + m := IntWalk.i64_in _ (by omega)
      have hk9 : k ≤ 1048576 := by have := HL.out; omega
      have hk1 : (k : Int) < n := by omega
      have HLT := Lib.hid hlt
      have HA := Lib.hid (HB.out.alloc HB.out.size (.cells #[.slice none 0 0, .slice pt m ct] 27))
      clear ht hcs h3 hm hkl hlt
      go_wp2_with fail
      go_roundw
      case measure => have := HLT.out; simp [intOf]; omega
      case rel => exact ⟨k + 1, by go_num, HLT.out, by rw [HX.out]; go_num, HA⟩
    · obtain rfl : k = n := by omega
      have hlz : ¬ ((k : Int) < k) := by omega
      have HE := Lib.hid (show cntL ll = c by rw [← HC.out, ← HN.out, flT_all]; rfl)
      clear hlt h1 h2 hk
      go_wp2_with fail
      go_ret
      exact ⟨by rw [HE.out]; rfl, HB.out⟩
end Go.Proofs.Ytjnnkelbedmccaa
