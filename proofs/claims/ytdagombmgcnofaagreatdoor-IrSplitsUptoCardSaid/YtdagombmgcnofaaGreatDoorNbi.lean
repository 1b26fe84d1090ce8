/- Plain model of layer 7: norms, tables; lists of texts and of numbers in memory. -/
import Derived.Test.YtdagombmgcnofaaGreatDoorTB
import Derived.Maps.OwnSet
import Derived.Sort.LotA
namespace Go.Proofs.YtdagombmgcnofaaGreatDoor
open Go.RowKit Go.Maps
set_option linter.unusedVariables false

theorem isNil {s : ByteArray} (h : s.size = 0) : s.toList = [] := by rw [ByteArray.toList_eq]; exact List.eq_nil_of_length_eq_zero (by rw [list_len]; exact h)
theorem foldCh_size (s : ByteArray) (c : Ch) : (foldCh s c).size ≤ 4 := by
  unfold foldCh
  split
  · rw [ByteArray.size_extract]; omega
  · exact encode_size_le _
theorem foldOf_size (s : ByteArray) : ∀ (l : List Ch) (st : ByteArray × Bool), (l.foldl (foldStep s) st).1.size ≤ st.1.size + 5 * l.length
  | [], st => by simp
  | c :: l, st => by
    have h1 := foldOf_size s l (foldStep s st c)
    have h2 : (foldStep s st c).1.size ≤ st.1.size + 5 := by
      have h3 := foldCh_size s c
      unfold foldStep
      split
      · exact Nat.le_add_right _ _
      · simp only [ByteArray.size_append]
        split
        · simp only [ByteArray.size_append, one32]; omega
        · omega
    simp only [List.foldl_cons, List.length_cons]
    omega
theorem fold_size (s : ByteArray) : (fold s).size ≤ 5 * s.size := by
  have h1 := foldOf_size s (chars s) (ByteArray.empty, false)
  have h2 := chars_len s
  unfold fold foldOf
  simp only [ByteArray.size_empty] at h1
  omega
def inL (x : ByteArray) (ks : List ByteArray) : Bool := ks.any fun k => k.data.toList == x.data.toList
theorem inL_iff {x : ByteArray} {ks : List ByteArray} : inL x ks = true ↔ x ∈ ks := by
  unfold inL
  rw [List.any_eq_true]
  constructor
  · rintro ⟨k, hk, e⟩
    have : k = x := by
      cases k; cases x
      simpa using e
    exact this ▸ hk
  · intro h
    exact ⟨x, h, by simp⟩
/-- A text as a name: its one form, or why it is none. -/
def nrm (s : ByteArray) : ByteArray × Int :=
  if 64 < s.size then (ByteArray.empty, 2) else if ((chars s).find? unplain).isNone = false ∨ (fold s).size = 0 then (ByteArray.empty, 70) else (fold s, 0)
def nm (s : ByteArray) : ByteArray := (nrm s).1
/-- Why a name may not stand behind those whose norms are given; 0: it may. -/
def errOn (ks : List ByteArray) (s : ByteArray) : Int := if (nrm s).2 ≠ 0 then (nrm s).2 else if inL (nm s) ks = true then 71 else 0
def errAt (l : List ByteArray) (k : Nat) : Int := errOn ((l.take k).map nm) (l.getD k ByteArray.empty)
/-- The first so many names may stand together. -/
def GoodTo (l : List ByteArray) (k : Nat) : Prop := ∀ j, j < k → errAt l j = 0
theorem nrm_err (s : ByteArray) : (nrm s).2 = 0 ∨ (nrm s).2 = 2 ∨ (nrm s).2 = 70 := by
  unfold nrm
  repeat' split
  all_goals simp
theorem nrm_ok {s : ByteArray} (h : (nrm s).2 = 0) : s.size ≤ 64 ∧ nm s = fold s ∧ (fold s).size ≠ 0 := by
  unfold nm
  unfold nrm at h ⊢
  split at h
  · simp at h
  · split at h
    · simp at h
    · rename_i h1 h2
      rw [if_neg h1, if_neg h2]
      exact ⟨by omega, rfl, fun e => h2 (.inr e)⟩
theorem errOn_ok {ks : List ByteArray} {s : ByteArray} (h : errOn ks s = 0) : (nrm s).2 = 0 ∧ nm s ∉ ks := by
  unfold errOn at h
  split at h
  · rename_i h1; exact absurd h h1
  · rename_i h1
    split at h
    · simp at h
    · rename_i h2
      exact ⟨by simpa using h1, fun e => h2 (inL_iff.2 e)⟩
theorem getD_get {l : List ByteArray} {k : Nat} (h : k < l.length) : l.getD k ByteArray.empty = l[k] := by simp [h]
theorem GoodTo.ok {l : List ByteArray} {k : Nat} (h : GoodTo l k) {j : Nat} (hj : j < k) (hl : j < l.length) : (nrm l[j]).2 = 0 ∧ nm l[j] ∉ (l.take j).map nm := by
  have := errOn_ok (h j hj)
  rwa [getD_get hl] at this
theorem GoodTo.inj {l : List ByteArray} {n : Nat} (h : GoodTo l n) {i j : Nat} (hi : i < n) (hj : j < n) (li : i < l.length) (lj : j < l.length) (e : nm l[i] = nm l[j]) : i = j := by
  rcases Nat.lt_trichotomy i j with h1 | h1 | h1
  · exfalso
    refine (h.ok hj lj).2 ?_
    rw [← e]
    exact List.mem_map.2 ⟨l[i], List.mem_take_iff_getElem.2 ⟨i, by omega, rfl⟩, rfl⟩
  · exact h1
  · exfalso
    refine (h.ok hi li).2 ?_
    rw [e]
    exact List.mem_map.2 ⟨l[j], List.mem_take_iff_getElem.2 ⟨j, by omega, rfl⟩, rfl⟩
theorem GoodTo.succ {l : List ByteArray} {k : Nat} (h : GoodTo l k) (e : errAt l k = 0) : GoodTo l (k + 1) := fun j hj => by
  rcases Nat.lt_succ_iff_lt_or_eq.1 hj with h1 | rfl
  · exact h j h1
  · exact e
theorem GoodTo.size {l : List ByteArray} {n : Nat} (h : GoodTo l n) {j : Nat} (hj : j < n) (hl : j < l.length) : l[j].size ≤ 64 := (nrm_ok (h.ok hj hl).1).1

/-- A list of texts in memory. -/
def RdT (w : World) (v : Value) (xs : List ByteArray) : Prop :=
  ∃ (pa : Option Addr) (cap : Nat), v = .slice pa xs.length cap ∧ xs.length ≤ cap ∧ cap ≤ maxLen ∧ ∀ j (hj : j < xs.length), ∃ b off, pa = some ⟨b, off, none⟩ ∧ w.cell? ⟨b, off + j, none⟩ = some (.string xs[j])
theorem cellIn {w : World} {a : Addr} {v : Value} (h : w.cell? a = some v) : a.block < w.heap.size := block_lt_of_cell h
theorem RdT.below {w w' : World} {v : Value} {xs : List ByteArray} (h : RdT w v xs) (hb : Below w.heap.size w w') : RdT w' v xs := by
  obtain ⟨pa, cap, e, h1, h2, h4⟩ := h
  refine ⟨pa, cap, e, h1, h2, fun j hj => ?_⟩
  obtain ⟨b, off, e, hc⟩ := h4 j hj
  exact ⟨b, off, e, (hb.cell (p := ⟨b, off + j, none⟩) (cellIn hc)).trans hc⟩
theorem RdT.form {w : World} {v : Value} {xs : List ByteArray} (h : RdT w v xs) : ∃ (pa : Option Addr) (cap : Nat), v = .slice pa xs.length cap ∧ xs.length ≤ cap ∧ cap ≤ maxLen := by
  obtain ⟨pa, cap, e, h1, h2, _⟩ := h
  exact ⟨pa, cap, e, h1, h2⟩
theorem RdT.cell {w : World} {pa : Option Addr} {n cap : Nat} {xs : List ByteArray} (h : RdT w (.slice pa n cap) xs) {j : Nat} (hj : j < xs.length) : ∃ b off, pa = some ⟨b, off, none⟩ ∧ w.cell? ⟨b, off + j, none⟩ = some (.string xs[j]) := by
  obtain ⟨pa', cap', e, _, _, h4⟩ := h
  cases e
  exact h4 j hj
/-- A list of numbers in memory. -/
def RdI (w : World) (v : Value) (zs : List Nat) : Prop :=
  ∃ (pa : Option Addr) (cap : Nat), v = .slice pa zs.length cap ∧ zs.length ≤ cap ∧ cap ≤ maxLen ∧ ∀ j (hj : j < zs.length), ∃ b off, pa = some ⟨b, off, none⟩ ∧ w.cell? ⟨b, off + j, none⟩ = some (.int .i64 (zs[j] : Nat))
theorem RdI.below {w w' : World} {v : Value} {xs : List Nat} (h : RdI w v xs) (hb : Below w.heap.size w w') : RdI w' v xs := by
  obtain ⟨pa, cap, e, h1, h2, h4⟩ := h
  refine ⟨pa, cap, e, h1, h2, fun j hj => ?_⟩
  obtain ⟨b, off, e, hc⟩ := h4 j hj
  exact ⟨b, off, e, (hb.cell (p := ⟨b, off + j, none⟩) (cellIn hc)).trans hc⟩
theorem RdI.cell {w : World} {pa : Option Addr} {n cap : Nat} {xs : List Nat} (h : RdI w (.slice pa n cap) xs) {j : Nat} (hj : j < xs.length) : ∃ b off, pa = some ⟨b, off, none⟩ ∧ w.cell? ⟨b, off + j, none⟩ = some (.int .i64 (xs[j] : Nat)) := by
  obtain ⟨pa', cap', e, _, _, h4⟩ := h
  cases e
  exact h4 j hj
def textsV (xs : List ByteArray) : List Value := xs.map Value.string
def numsV (zs : List Nat) : List Value := zs.map fun (z : Nat) => Value.int .i64 z
theorem textsV_len (xs : List ByteArray) : (textsV xs).length = xs.length := by simp [textsV]
theorem numsV_len (xs : List Nat) : (numsV xs).length = xs.length := by simp [numsV]
theorem RdT.own {w : World} {base n : Nat} {v : Value} {xs : List ByteArray} (h : w.ownsRow base 9 1 v n (textsV xs)) (hn : n = xs.length) : RdT w v xs := by
  subst hn
  rcases h.2 with ⟨rfl, h0⟩ | ⟨g, cap, cur, rfl, hb, hg, h1, h2, h3, h4⟩
  · have : xs = [] := List.eq_nil_of_length_eq_zero h0
    subst this
    exact ⟨none, 0, rfl, Nat.le_refl _, Nat.zero_le _, fun i hi => absurd hi (by simp)⟩
  · refine ⟨_, cap, rfl, h1, h2, fun j hj => ⟨g, 0, rfl, ?_⟩⟩
    rw [Nat.zero_add]
    have := World.ownsRow.cellAt h j (by omega)
    rw [this]
    simp [textsV, hj]
theorem RdI.own {w : World} {base n : Nat} {v : Value} {xs : List Nat} (h : w.ownsRow base 3 1 v n (numsV xs)) (hn : n = xs.length) : RdI w v xs := by
  subst hn
  rcases h.2 with ⟨rfl, h0⟩ | ⟨g, cap, cur, rfl, hb, hg, h1, h2, h3, h4⟩
  · have : xs = [] := List.eq_nil_of_length_eq_zero h0
    subst this
    exact ⟨none, 0, rfl, Nat.le_refl _, Nat.zero_le _, fun i hi => absurd hi (by simp)⟩
  · refine ⟨_, cap, rfl, h1, h2, fun j hj => ⟨g, 0, rfl, ?_⟩⟩
    rw [Nat.zero_add]
    have := World.ownsRow.cellAt h j (by omega)
    rw [this]
    simp [numsV, hj]

/-- A map that tells of each text where it stands in a list. -/
def keyL (s : ByteArray) : Lit := .string s.data.toList
theorem keyL_inj {a b : ByteArray} (h : keyL a = keyL b) : a = b := by
  unfold keyL at h
  have : a.data.toList = b.data.toList := by simpa using h
  cases a; cases b
  simpa using this
theorem keyL_key (s : ByteArray) : WideAt.IsKeyLit (keyL s) := trivial
structure Num (D : DataW Unit) (ks : List ByteArray) : Prop where
  tidy : Tidy D
  has : ∀ x, Maps.has D (keyL x) = true ↔ x ∈ ks
  at_ : ∀ j (hj : j < ks.length) z, D.atKey (keyL ks[j]) z = .lit (.int .i64 (j : Nat))
  size : Maps.size D = ks.length
theorem Num.nil : Num (.map []) [] := ⟨tidy_empty, fun x => by simp [Maps.has], fun j hj => by simp at hj, rfl⟩
theorem Num.put {D : DataW Unit} {ks : List ByteArray} (h : Num D ks) {x : ByteArray} (hx : x ∉ ks) : Num (D.put (keyL x) (.lit (.int .i64 (ks.length : Nat)))) (ks ++ [x]) := by
  refine ⟨h.tidy.put (keyL_key x) _, fun y => ?_, fun j hj z => ?_, ?_⟩
  · by_cases e : y = x
    · subst e
      simp [has_put_same h.tidy.isMap (keyL_key y)]
    · rw [has_put_other (fun e' => e (keyL_inj e')), h.has]
      simp [e]
  · by_cases hl : j < ks.length
    · have hne : ks[j] ≠ x := fun e => hx (e ▸ List.getElem_mem hl)
      rw [show (ks ++ [x])[j] = ks[j] by rw [List.getElem_append_left hl], atKey_put_other (fun e' => hne (keyL_inj e'))]
      exact h.at_ j hl z
    · have hje : j = ks.length := by simp at hj; omega
      subst hje
      rw [show (ks ++ [x])[ks.length] = x by simp]
      exact atKey_put_same h.tidy.isMap (keyL_key x) _ _
  · rw [size_put h.tidy]
    have : Maps.has D (keyL x) = false := by
      cases e : Maps.has D (keyL x)
      · rfl
      · exact absurd ((h.has x).1 e) hx
    rw [this, h.size]
    simp
theorem law : Keyed Tryz.prog 9 := string_keyed Tryz.underlying9
theorem zeroI (w : World) : (zeroValue 3).run Tryz.prog w = .ok (.int .i64 0) w := by kernel_rfl
def MapIs (w : World) (M : Nat) (ks : List ByteArray) : Prop := ∃ D : DataW Unit, w.ownsMap Tryz.prog 9 (plainElem Tryz.prog 3) M ks.length D ∧ Num D ks
theorem MapIs.lt {w : World} {M : Nat} {ks : List ByteArray} (h : MapIs w M ks) : M < w.heap.size := by
  obtain ⟨D, h1, _⟩ := h
  exact h1.lt
theorem MapIs.block {w w' : World} {M : Nat} {ks : List ByteArray} (h : MapIs w M ks) (e : w'.heap[M]? = w.heap[M]?) : MapIs w' M ks := by
  obtain ⟨D, ⟨es, ck, h1, h2⟩, h3⟩ := h
  exact ⟨D, ⟨es, ck, e.trans h1, h2⟩, h3⟩
theorem MapIs.below {w w' : World} {M : Nat} {ks : List ByteArray} (h : MapIs w M ks) (hb : Below w.heap.size w w') : MapIs w' M ks := h.block (hb.block M h.lt)
end Go.Proofs.YtdagombmgcnofaaGreatDoor
