/- What the last statement of layer 6 asks beside: numbers read; a sheet turned; a sheet without one. -/
import Derived.Test.YtceanagnkcejgaaGreatDoorDd
import Derived.Test.YtceanagnkcejgaaGreatDoorDc
import Derived.Test.YtceanagnkcejgaaGreatDoorOdr
import Derived.Test.YtceanagnkcejgaaGreatDoorArg
namespace Go.Proofs.YtceanagnkcejgaaGreatDoor
open Go.RowKit
open Go.ChangeShapes Go.WideShapes Go.ChangeAt Go.Deep
set_option linter.unusedVariables false

/-- A list of numbers in memory. -/
def RdI (w : World) (v : Value) (zs : List Int) : Prop :=
  ∃ (pa : Option Addr) (cap : Nat), v = .slice pa zs.length cap ∧ zs.length ≤ cap ∧ cap ≤ maxLen ∧ ∀ j (hj : j < zs.length), ∃ b off, pa = some ⟨b, off, none⟩ ∧ w.cell? ⟨b, off + j, none⟩ = some (.int .i64 zs[j])
theorem RdI.below {w w' : World} {v : Value} {xs : List Int} (h : RdI w v xs) (hb : Below w.heap.size w w') : RdI w' v xs := by
  obtain ⟨pa, cap, e, h1, h2, h4⟩ := h
  refine ⟨pa, cap, e, h1, h2, fun j hj => ?_⟩
  obtain ⟨b, off, e, hc⟩ := h4 j hj
  exact ⟨b, off, e, (hb.cell (p := ⟨b, off + j, none⟩) (cell_in hc)).trans hc⟩
theorem RdI.form {w : World} {v : Value} {xs : List Int} (h : RdI w v xs) : ∃ (pa : Option Addr) (cap : Nat), v = .slice pa xs.length cap ∧ xs.length ≤ cap ∧ cap ≤ maxLen := by
  obtain ⟨pa, cap, e, h1, h2, _⟩ := h
  exact ⟨pa, cap, e, h1, h2⟩
theorem RdI.cell {w : World} {pa : Option Addr} {n cap : Nat} {xs : List Int} (h : RdI w (.slice pa n cap) xs) {j : Nat} (hj : j < xs.length) : ∃ b off, pa = some ⟨b, off, none⟩ ∧ w.cell? ⟨b, off + j, none⟩ = some (.int .i64 xs[j]) := by
  obtain ⟨pa', cap', e, _, _, h4⟩ := h
  cases e
  exact h4 j hj
section
variable {H : Type} {enc : TypeId × Value → H} {W : World}
theorem ints_read {v : Value} {d : DataW H} {p : List MemPlace} (h : DataW.Trod enc Tryz.prog W 0 (fun _ => true) true 64 v d p) (hv : ∃ pa len cap, v = .slice pa len cap) :
    ∃ xs : List Int, (RdI W v xs ∧ ∀ x ∈ xs, In64 x) ∧ LenD d xs.length := by
  obtain ⟨pa, len, cap, rfl⟩ := hv
  obtain ⟨n, hn⟩ := h
  rcases open_slice1 Tryz.underlying64 kI hn with ⟨h3, h4⟩ | ⟨a, l, c, m, n', V, D, Pl, h3, _, hlc, hcm, hm, hx, hall⟩
  · simp [Value.cells] at h3
    obtain ⟨rfl, rfl, rfl⟩ := h3
    cases h4
    exact ⟨[], ⟨⟨none, 0, rfl, Nat.le_refl _, by decide, fun j hj => absurd hj (by simp)⟩, fun s hs => by cases hs⟩, .inl ⟨rfl, rfl⟩⟩
  · simp [Value.cells] at h3
    obtain ⟨rfl, rfl, rfl⟩ := h3
    have hmc : m = cap := by simpa using hm
    subst hmc
    cases hx
    obtain ⟨f, hf⟩ := choose_n (R := fun i (z : Int) => In64 z ∧ a = ⟨a.block, a.off, none⟩ ∧ W.cell? ⟨a.block, a.off + i, none⟩ = some (.int .i64 z)) 0 (fun i hi => by
      obtain ⟨h1, h2⟩ := hall i (show i < m from Nat.lt_of_lt_of_le (show i < len from hi) hlc)
      obtain ⟨z, e, _, m0⟩ := DataW.trod_int Tryz.underlying3 h2
      simp at e
      rw [e] at h1
      obtain ⟨b, off, spot⟩ := a
      have hspot : spot = none := by
        have := (hall 0 (Nat.lt_of_lt_of_le (show 0 < len by omega) hlc)).1
        simpa [Addr.add] using World.cell?_spot this
      subst hspot
      rw [add_plain] at h1
      exact ⟨z, in64_wf m0, rfl, h1⟩)
    refine ⟨(List.range len).map f, ⟨⟨some a, m, by simp, by simpa using hlc, hcm, fun i hi => ?_⟩, fun s hs => ?_⟩, .inr ⟨_, _, rfl, by simp⟩⟩
    · have hi' : i < len := by simpa using hi
      obtain ⟨_, e, hc⟩ := hf i hi'
      refine ⟨a.block, a.off, by rw [← e], ?_⟩
      simp only [List.getElem_map, List.getElem_range]
      exact hc
    · obtain ⟨i, hi, rfl⟩ := List.mem_map.1 hs
      exact (hf i (by simpa using hi)).1
end
theorem ints_reach {H : Type} {d : DataW H} {n : Nat} {ts : List TypeId} {ds : List (DataW H)} {j : Nat} (h : (DataW.weightsEach Tryz.prog ts ds).all (· ≤ reachBytes) = true) (ht : ts[j]? = some 64) (hd : ds[j]? = some d)
    (hl : LenD d n) : n * 8 ≤ 140737488351232 := by
  rcases hl with ⟨_, rfl⟩ | ⟨es, sp, rfl, he⟩
  · simp
  · have := sized_slice h ht hd Tryz.underlying64
    rw [show Tryz.prog.bytesOf 3 = 8 by kernel_rfl] at this
    simp only [reachBytes] at this
    omega
theorem tmod_two (x : Int) (n : Nat) (h : 0 < n) : ∃ k : Nat, k < n ∧ (x.tmod n + n).tmod n = k ∧ -(n : Int) < x.tmod n ∧ x.tmod n < n ∧ 0 < x.tmod n + n ∧ x.tmod n + n < 2 * n := by
  have h1 : x.tmod n < n := Int.tmod_lt_of_pos x (by omega)
  have h2 : -(n : Int) < x.tmod n := by
    have h3 : (-x).tmod n < n := Int.tmod_lt_of_pos (-x) (by omega)
    rw [Int.neg_tmod] at h3
    omega
  refine ⟨((x.tmod n + n).tmod n).toNat, ?_, ?_, h2, h1, by omega, by omega⟩
  · have h4 := Int.tmod_lt_of_pos (x.tmod n + n) (show (0 : Int) < n by omega)
    have h5 := Int.tmod_nonneg (n : Int) (show 0 ≤ x.tmod n + n by omega)
    omega
  · have h5 := Int.tmod_nonneg (n : Int) (show 0 ≤ x.tmod n + n by omega)
    omega

/-- Block g is a row of the styles T. -/
def TRow (w : World) (g : Nat) (T : List Sty) : Prop := ∃ cur : Array Value, w.heap[g]? = some (.cells cur 29 (0, 0)) ∧ T.length * 5 ≤ cur.size ∧ ∀ i, i < T.length → ∀ k u, (styRow (gets T i))[k]? = some u → cur[i * 5 + k]? = some u
theorem TRow.made {w : World} {base : Nat} {v : Value} {T : List Sty} (hT : 0 < T.length) (h : w.ownsRow base 29 5 v T.length (styRows T)) : ∃ g cap, v = .slice (some ⟨g, 0, none⟩) T.length cap ∧ T.length ≤ cap ∧ cap ≤ maxLen ∧ base ≤ g ∧ g < w.heap.size ∧ TRow w g T := by
  rcases h.2 with ⟨_, h0⟩ | ⟨g, cap, cur, rfl, hb, hg, h1, h2, h3, h4⟩
  · omega
  · refine ⟨g, cap, rfl, h1, h2, hb, (Array.getElem?_eq_some_iff.1 hg).1, cur, hg, by rw [h3]; exact Nat.mul_le_mul_right 5 h1, fun i hi k u hk => ?_⟩
    rw [gets_eq hi] at hk
    have hk5 : k < 5 := by have := (List.getElem?_eq_some_iff.1 hk).1; simpa [styRow] using this
    have := styRows_get T i hi k u hk
    rw [← h4, List.getElem?_take_of_lt (by omega), Array.getElem?_toList] at this
    exact this
theorem TRow.lt {w : World} {g : Nat} {T : List Sty} (h : TRow w g T) : g < w.heap.size := by
  obtain ⟨cur, h1, _⟩ := h
  exact (Array.getElem?_eq_some_iff.1 h1).1
theorem TRow.keep {w w' : World} {g : Nat} {T : List Sty} (h : TRow w g T) (hb : Below w.heap.size w w') : TRow w' g T := by
  obtain ⟨cur, h1, h2⟩ := h
  exact ⟨cur, (hb.block g (Array.getElem?_eq_some_iff.1 h1).1).trans h1, h2⟩
theorem TRow.under {w w' : World} {g B : Nat} {T : List Sty} (h : TRow w g T) (hb : Below B w w') (hlt : g < B) : TRow w' g T := by
  obtain ⟨cur, h1, h2⟩ := h
  exact ⟨cur, (hb.block g hlt).trans h1, h2⟩
theorem TRow.free {w : World} {g : Nat} {T : List Sty} (h : TRow w g T) (i : Nat) : w.frozen? ⟨g, i, none⟩ = false := by
  obtain ⟨cur, h1, _⟩ := h
  exact frozen_of_row w g i _ _ h1
theorem TRow.cells {w : World} {g : Nat} {T : List Sty} (h : TRow w g T) {i : Nat} (hi : i < T.length) :
    w.cell? ⟨g, i * 5, none⟩ = some (.string (bs (gets T i).nm)) ∧ w.cell? ⟨g, i * 5 + 1, none⟩ = some (.string (bs (gets T i).pr)) ∧
    w.cell? ⟨g, i * 5 + 2, none⟩ = some (.int .i64 (gets T i).ch.on) ∧ w.cell? ⟨g, i * 5 + 3, none⟩ = some (.int .i64 (gets T i).ch.off) ∧ w.cell? ⟨g, i * 5 + 4, none⟩ = some (.int .i64 (gets T i).ch.col) := by
  obtain ⟨cur, h1, _, h3⟩ := h
  have go : ∀ q u, (styRow (gets T i))[q]? = some u → w.cell? ⟨g, i * 5 + q, none⟩ = some u := fun q u hq => by
    rw [cell_of_row _ _ _ _ _ _ h1]
    exact h3 i hi q u hq
  exact ⟨go 0 _ rfl, go 1 _ rfl, go 2 _ rfl, go 3 _ rfl, go 4 _ rfl⟩
theorem TRow.sh {w : World} {g cap : Nat} {T : List Sty} (h : TRow w g T) (h1 : T.length ≤ cap) (h2 : cap ≤ maxLen) : Sh w (.slice (some ⟨g, 0, none⟩) T.length cap) T := by
  obtain ⟨cur, e1, _, h3⟩ := h
  refine ⟨_, cap, rfl, h1, h2, fun i hi => ⟨g, 0, rfl, fun k u hk => ?_⟩⟩
  rw [Nat.zero_add, cell_of_row _ _ _ _ _ _ e1]
  exact h3 i hi k u (by rw [gets_eq hi]; exact hk)
/-- Five stores: a style laid over one of the row. -/
theorem TRow.set {w : World} {g : Nat} {T : List Sty} (h : TRow w g T) {a : Nat} (ha : a < T.length) (s : Sty) :
    TRow (((((w.setCell ⟨g, a * 5, none⟩ (.string (bs s.nm))).setCell ⟨g, a * 5 + 1, none⟩ (.string (bs s.pr))).setCell ⟨g, a * 5 + 2, none⟩ (.int .i64 s.ch.on)).setCell ⟨g, a * 5 + 3, none⟩ (.int .i64 s.ch.off)).setCell ⟨g, a * 5 + 4, none⟩ (.int .i64 s.ch.col)) g (T.set a s) := by
  obtain ⟨cur, h1, h2, h3⟩ := h
  refine ⟨_, heap_setCell_same _ g (a * 5 + 4) _ _ _ (heap_setCell_same _ g (a * 5 + 3) _ _ _ (heap_setCell_same _ g (a * 5 + 2) _ _ _ (heap_setCell_same _ g (a * 5 + 1) _ _ _ (heap_setCell_same w g (a * 5) _ _ _ h1)))), by simpa using h2, fun i hi k u hk => ?_⟩
  have hi' : i < T.length := by simpa using hi
  have hk5 : k < 5 := by have := (List.getElem?_eq_some_iff.1 hk).1; simpa [styRow] using this
  rw [gets_eq hi, List.getElem_set] at hk
  by_cases e : a = i
  · subst e
    rw [if_pos rfl] at hk
    have hsz : a * 5 + 5 ≤ cur.size := by omega
    match k, hk5 with
    | 0, _ =>
      rw [Array.getElem?_setIfInBounds_ne (by omega), Array.getElem?_setIfInBounds_ne (by omega), Array.getElem?_setIfInBounds_ne (by omega), Array.getElem?_setIfInBounds_ne (by omega), Nat.add_zero, Array.getElem?_setIfInBounds_self_of_lt (by omega)]
      simpa [styRow] using hk
    | 1, _ =>
      rw [Array.getElem?_setIfInBounds_ne (by omega), Array.getElem?_setIfInBounds_ne (by omega), Array.getElem?_setIfInBounds_ne (by omega), Array.getElem?_setIfInBounds_self_of_lt (by simp; omega)]
      simpa [styRow] using hk
    | 2, _ =>
      rw [Array.getElem?_setIfInBounds_ne (by omega), Array.getElem?_setIfInBounds_ne (by omega), Array.getElem?_setIfInBounds_self_of_lt (by simp; omega)]
      simpa [styRow] using hk
    | 3, _ =>
      rw [Array.getElem?_setIfInBounds_ne (by omega), Array.getElem?_setIfInBounds_self_of_lt (by simp; omega)]
      simpa [styRow] using hk
    | 4, _ =>
      rw [Array.getElem?_setIfInBounds_self_of_lt (by simp; omega)]
      simpa [styRow] using hk
  · rw [if_neg e] at hk
    rw [Array.getElem?_setIfInBounds_ne (by omega), Array.getElem?_setIfInBounds_ne (by omega), Array.getElem?_setIfInBounds_ne (by omega), Array.getElem?_setIfInBounds_ne (by omega), Array.getElem?_setIfInBounds_ne (by omega)]
    exact h3 i hi' k u (by rw [gets_eq hi']; exact hk)
theorem swap_perm {T : List Sty} {a b : Nat} (ha : a < T.length) (hb : b < T.length) : (((T.set a (gets T b)).set b (gets T a))).Perm T := by
  rw [gets_eq ha, gets_eq hb]
  exact List.set_set_perm ha hb
theorem less_take {l : List Sty} {i k : Nat} (hi : i < l.length) : (l.take (i + 1)).eraseIdx k = if i = k then (l.take i).eraseIdx k else (l.take i).eraseIdx k ++ [gets l i] := by
  rw [List.take_succ_eq_append_getElem hi, gets_eq hi]
  have hl : (l.take i).length = i := by simp; omega
  rcases Nat.lt_trichotomy i k with h | h | h
  · rw [if_neg (by omega), List.eraseIdx_of_length_le (by rw [List.length_append, hl]; simp; omega), List.eraseIdx_of_length_le (by omega)]
  · subst h
    rw [if_pos rfl, List.eraseIdx_of_length_le (l := l.take i) (by omega), List.eraseIdx_append_of_length_le (by omega)]
    rw [hl, Nat.sub_self]
    simp
  · rw [if_neg (by omega), List.eraseIdx_append_of_lt_length (by omega)]
end Go.Proofs.YtceanagnkcejgaaGreatDoor
