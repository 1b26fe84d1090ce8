/- Layer 12: lists of flows that came in; columns copied by a law. -/
import Derived.Test.YtadecjjbpoaooaaVi
import Derived.Test.YtadecjjbpoaooaaVk
namespace Go.Proofs.Ytadecjjbpoaooaa.Tb
open Go.Deep Go.ChangeShapes Go.WideShapes Go.RowKit Go.Maps
set_option linter.unusedVariables false
set_option linter.unusedSimpArgs false
set_option maxRecDepth 100000
def LsD {H : Type} (d : DataW H) (ls : List (List Gl)) : Prop := (d = .nil ∧ ls = []) ∨ ∃ es sp, d = .slice es sp ∧ es.length = ls.length ∧ ∀ l ∈ ls, ∃ x ∈ es, LenD x l.length
theorem lists_read {H : Type} {enc : TypeId × Value → H} {W : World} {v : Value} {d : DataW H} {p : List MemPlace} (h : DataW.Trod enc Try.prog W 0 (fun _ => true) true 33 v d p) (hv : ∃ pa len cap, v = .slice pa len cap) :
    ∃ ls : List (List Gl), RdL (fun _ => True) W v ls ∧ LsD d ls := by
  obtain ⟨pa, len, cap, rfl⟩ := hv
  obtain ⟨n, hn⟩ := h
  obtain ⟨pa', cap', l, e, h1, h2, hc, hd⟩ := rows_read (α := Value × List Gl) Try.underlying33 kL (by decide) (.slice none 0 0, []) (fun a => [a.1]) (fun a d => RdG (fun _ => True) W a.1 a.2 ∧ LenD d a.2.length) (fun {n cs x} h => by
    obtain ⟨c, rfl⟩ : ∃ c, cs = [c] := by
      rcases open_slice Try.underlying32 h with ⟨h3, _⟩ | ⟨a, l, c', m, n', D, Pl, h3, _⟩
      · exact ⟨_, h3⟩
      · exact ⟨_, h3⟩
    obtain ⟨p0, l0, k0, e0⟩ := slice_cell Try.underlying32 h
    subst e0
    obtain ⟨g, hr, hd⟩ := gls_read (enc := enc) (W := W) (v := .slice p0 l0 k0) (d := x.1) (p := x.2) ⟨_, h⟩ ⟨_, _, _, rfl⟩
    exact ⟨(.slice p0 l0 k0, g), rfl, hr, hd⟩) (fun _ => rfl) hn
  refine ⟨l.map (·.2), ⟨pa', cap', by rw [List.length_map]; exact e, by rw [List.length_map]; exact h1, h2, fun j hj => ?_⟩, ?_⟩
  · have hj' : j < l.length := by simpa using hj
    obtain ⟨b, off, e2, hc2⟩ := hc j hj'
    have h0 := hc2 0 _ rfl
    rw [Nat.mul_one, Nat.add_zero] at h0
    refine ⟨b, off, _, e2, trivial, h0, ?_⟩
    rw [List.getElem_map]
    rcases hd with ⟨_, e3⟩ | ⟨es, sp, _, _, h3⟩
    · simp [e3] at hj'
    · obtain ⟨x, _, hx, _⟩ := h3 _ (List.getElem_mem hj')
      exact hx
  · rcases hd with ⟨e1, e2⟩ | ⟨es, sp, e1, e2, h3⟩
    · exact .inl ⟨e1, by rw [e2]; rfl⟩
    · refine .inr ⟨es, sp, e1, by rw [List.length_map]; exact e2, fun g hg => ?_⟩
      obtain ⟨a, ha, rfl⟩ := List.mem_map.1 hg
      obtain ⟨x, hx, _, hl⟩ := h3 a ha
      exact ⟨x, hx, hl⟩
theorem lists_reach {H : Type} {d : DataW H} {l : List (List Gl)} {ts : List TypeId} {ds : List (DataW H)} {j : Nat} (h : (DataW.weightsEach Try.prog ts ds).all (· ≤ reachBytes) = true) (ht : ts[j]? = some 33) (hd : ds[j]? = some d)
    (hl : LsD d l) : l.length * 24 ≤ 140737488351232 ∧ ∀ x ∈ l, x.length * 48 ≤ 140737488351232 := by
  have hw := wEach_at h ht hd
  rcases hl with ⟨_, rfl⟩ | ⟨es, sp, rfl, he, hs⟩
  · exact ⟨by simp, fun s hs => absurd hs (by simp)⟩
  · obtain ⟨h1, h2⟩ := w_slice Try.underlying33 hw
    rw [show Try.prog.bytesOf 32 = 24 by kernel_rfl] at h1
    have h1' : (es.length + sp.length) * 24 ≤ 140737488351232 := of_decide_eq_true h1
    refine ⟨by omega, fun x hx => ?_⟩
    obtain ⟨y, hy, hlen⟩ := hs x hx
    have h3 := h2 y hy
    rcases hlen with ⟨_, e⟩ | ⟨es2, sp2, rfl, e⟩
    · rw [e]; simp
    · obtain ⟨h4, _⟩ := w_slice Try.underlying32 h3
      rw [show Try.prog.bytesOf 40 = 48 by kernel_rfl] at h4
      have h4' : (es2.length + sp2.length) * 48 ≤ 140737488351232 := of_decide_eq_true h4
      omega
theorem cols_reach {H : Type} {d : DataW H} {n : Nat} {ts : List TypeId} {ds : List (DataW H)} {j : Nat} (h : (DataW.weightsEach Try.prog ts ds).all (· ≤ reachBytes) = true) (ht : ts[j]? = some 23) (hd : ds[j]? = some d)
    (hl : LenD d n) : n * 16 ≤ 140737488351232 := by
  rcases hl with ⟨_, rfl⟩ | ⟨es, sp, rfl, he⟩
  · simp
  · have := sized_slice h ht hd Try.underlying23
    rw [show Try.prog.bytesOf 53 = 16 by kernel_rfl] at this
    simp only [reachBytes] at this
    omega
theorem rowsC_cell : ∀ (l : List (Int × Int)) (j : Nat) (u : Value), (rowsC l)[j]? = some u → ∃ i k, ∃ hi : i < l.length, j = i * 2 + k ∧ (colRow l[i])[k]? = some u
  | [], j, u, h => by simp [rowsC] at h
  | a :: l, j, u, h => by
    have e : rowsC (a :: l) = colRow a ++ rowsC l := by simp [rowsC]
    have hl : (colRow a).length = 2 := rfl
    rw [e] at h
    rcases Nat.lt_or_ge j 2 with h5 | h5
    · rw [List.getElem?_append_left (by omega)] at h
      exact ⟨0, j, by simp, by omega, h⟩
    · rw [List.getElem?_append_right (by omega), hl] at h
      obtain ⟨i, k, hi, h1, h2⟩ := rowsC_cell l (j - 2) u h
      exact ⟨i + 1, k, by simpa using hi, by omega, by simpa using h2⟩
theorem RdC.lies {P : Nat → Prop} {w : World} {v : Value} {l : List (Int × Int)} (h : RdC P w v l) : Lies w 2 v l.length (rowsC l) := by
  obtain ⟨pa, cap, rfl, _, _, h4⟩ := h
  refine ⟨rowsC_len l, rowsC_one l, ?_⟩
  cases pa with
  | none =>
    left
    have : l.length = 0 := by
      rcases Nat.eq_zero_or_pos l.length with h | h
      · exact h
      · obtain ⟨b, off, e, _⟩ := h4 0 h; cases e
    exact ⟨cap, by rw [this], this⟩
  | some a =>
    right
    refine ⟨a, cap, rfl, fun j u hj => ?_⟩
    obtain ⟨i, k, hi, rfl, hk⟩ := rowsC_cell l j u hj
    obtain ⟨b, off, e, _, hc, hd⟩ := h4 i hi
    cases e
    rw [Addr.add_lit, ← Nat.add_assoc]
    match k with
    | 0 => simp [colRow] at hk; rw [← hk]; exact hc
    | 1 => simp [colRow] at hk; rw [← hk]; exact hd
    | k + 2 => simp [colRow] at hk
end Go.Proofs.Ytadecjjbpoaooaa.Tb
