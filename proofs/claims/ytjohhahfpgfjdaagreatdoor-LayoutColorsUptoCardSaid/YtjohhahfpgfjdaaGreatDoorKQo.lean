/- Layer 13: changes that came in; a sheet whose styles have other changes. -/
import Derived.Test.YtjohhahfpgfjdaaGreatDoorK37
import Derived.Test.YtjohhahfpgfjdaaGreatDoorKQi
namespace Go.Proofs.YtjohhahfpgfjdaaGreatDoor.S6
open Go.Deep Go.ChangeShapes Go.WideShapes Go.RowKit Go.Proofs.YtjohhahfpgfjdaaGreatDoor
set_option linter.unusedVariables false
set_option linter.unusedSimpArgs false
set_option maxRecDepth 100000
def chgRow (c : Chg) : List Value := [.int .i64 c.on, .int .i64 c.off, .int .i64 c.col]
/-- The slice v reads as the changes l. -/
def Chs (w : World) (v : Value) (l : List Chg) : Prop :=
  ∃ (pa : Option Addr) (cap : Nat), v = .slice pa l.length cap ∧ l.length ≤ cap ∧ cap ≤ maxLen ∧
    ∀ i (hi : i < l.length), ∃ b off, pa = some ⟨b, off, none⟩ ∧ ∀ k u, (chgRow l[i])[k]? = some u → w.cell? ⟨b, off + i * 3 + k, none⟩ = some u
theorem Chs.below {w w' : World} {v : Value} {l : List Chg} (h : Chs w v l) (hb : Below w.heap.size w w') : Chs w' v l := by
  obtain ⟨pa, cap, h1, h2, h3, h4⟩ := h
  refine ⟨pa, cap, h1, h2, h3, fun i hi => ?_⟩
  obtain ⟨b, off, e, hc⟩ := h4 i hi
  exact ⟨b, off, e, fun k u hk => (hb.cell (p := ⟨b, off + i * 3 + k, none⟩) (cell_in (hc k u hk))).trans (hc k u hk)⟩
theorem Chs.form {w : World} {v : Value} {l : List Chg} (h : Chs w v l) : ∃ (pa : Option Addr) (cap : Nat), v = .slice pa l.length cap ∧ l.length ≤ cap ∧ cap ≤ maxLen := by
  obtain ⟨pa, cap, h1, h2, h3, _⟩ := h
  exact ⟨pa, cap, h1, h2, h3⟩
theorem Chs.cells {w : World} {pa : Option Addr} {n cap : Nat} {l : List Chg} (h : Chs w (.slice pa n cap) l) {i : Nat} (hi : i < l.length) : ∃ b off, pa = some ⟨b, off, none⟩ ∧
    w.cell? ⟨b, off + i * 3, none⟩ = some (.int .i64 l[i].on) ∧ w.cell? ⟨b, off + i * 3 + 1, none⟩ = some (.int .i64 l[i].off) ∧ w.cell? ⟨b, off + i * 3 + 2, none⟩ = some (.int .i64 l[i].col) := by
  obtain ⟨pa, cap, h1, _, _, h4⟩ := h
  cases h1
  obtain ⟨b, off, e, hc⟩ := h4 i hi
  exact ⟨b, off, e, hc 0 _ rfl, hc 1 _ rfl, hc 2 _ rfl⟩
section
variable {H : Type} {enc : TypeId × Value → H} {W : World}
theorem changes_read {v : Value} {d : DataW H} {p : List MemPlace} (h : DataW.Trod enc Tryz.prog W 0 (fun _ => true) true 62 v d p) (hv : ∃ pa len cap, v = .slice pa len cap) :
    ∃ l : List Chg, (Chs W v l ∧ ∀ c ∈ l, In64 c.on ∧ In64 c.off ∧ In64 c.col) ∧ LenD d l.length := by
  obtain ⟨pa, len, cap, rfl⟩ := hv
  obtain ⟨n, hn⟩ := h
  rcases open_slice Tryz.underlying62 hn with ⟨h3, h4⟩ | ⟨a, l, c, m, n', D, Pl, h3, _, hlc, hcm, hm, hx, hall⟩
  · simp [Value.cells] at h3
    obtain ⟨rfl, rfl, rfl⟩ := h3
    cases h4
    exact ⟨[], ⟨⟨none, 0, rfl, Nat.le_refl _, by decide, fun j hj => absurd hj (by simp)⟩, fun s hs => by cases hs⟩, .inl ⟨rfl, rfl⟩⟩
  · simp [Value.cells] at h3
    obtain ⟨rfl, rfl, rfl⟩ := h3
    have hmc : m = cap := by simpa using hm
    subst hmc
    cases hx
    obtain ⟨f, hf⟩ := choose_n (R := fun i (s : Chg) => (In64 s.on ∧ In64 s.off ∧ In64 s.col) ∧ ∃ spot, a = ⟨a.block, a.off, spot⟩ ∧ spot = none ∧ ∀ k u, (chgRow s)[k]? = some u → W.cell? ⟨a.block, a.off + i * 3 + k, none⟩ = some u) zeroC (fun i hi => by
      obtain ⟨cs', h1, h2⟩ := hall i (show i < m from Nat.lt_of_lt_of_le (show i < len from hi) hlc)
      obtain ⟨s, rfl, hs⟩ := chg_cells h2
      rw [kC] at h1
      obtain ⟨_, _, hcell⟩ := World.cells?_some h1
      obtain ⟨b, off, spot⟩ := a
      have hspot : spot = none := by
        obtain ⟨cs0, h01, h02⟩ := hall 0 (Nat.lt_of_lt_of_le (show 0 < len by omega) hlc)
        obtain ⟨s0, rfl, _⟩ := chg_cells h02
        rw [kC] at h01
        obtain ⟨_, _, hc0⟩ := World.cells?_some h01
        have := hc0 0 (by omega)
        rw [show ([Value.int .i64 s0.on, .int .i64 s0.off, .int .i64 s0.col])[0]? = some (.int .i64 s0.on) from rfl] at this
        simpa [Addr.add] using World.cell?_spot this
      subst hspot
      refine ⟨s, hs, none, rfl, rfl, fun k u hk => ?_⟩
      have hk5 : k < 3 := by
        rcases Nat.lt_or_ge k 3 with h | h
        · exact h
        · rw [List.getElem?_eq_none (by simpa [chgRow] using h)] at hk; cases hk
      have := hcell k hk5
      rw [add_add, add_plain] at this
      rw [← hk]
      show _ = ([Value.int .i64 s.on, .int .i64 s.off, .int .i64 s.col])[k]?
      rw [← this, Nat.add_assoc])
    refine ⟨(List.range len).map f, ⟨⟨some a, m, by simp, by simpa using hlc, hcm, fun i hi => ?_⟩, fun s hs => ?_⟩, .inr ⟨_, _, rfl, by simp⟩⟩
    · have hi' : i < len := by simpa using hi
      obtain ⟨_, spot, e, e2, hc⟩ := hf i hi'
      subst e2
      refine ⟨a.block, a.off, by rw [← e], ?_⟩
      simp only [List.getElem_map, List.getElem_range]
      exact hc
    · obtain ⟨i, hi, rfl⟩ := List.mem_map.1 hs
      exact (hf i (by simpa using hi)).1
theorem bulk_posS {H : Type} : ∀ d : DataW H, 1 ≤ Rows.uptoBulk d := by
  intro d
  cases d with
  | lit l => cases l <;> simp [Rows.uptoBulk]
  | _ => simp [Rows.uptoBulk]
theorem bulk_allS {H : Type} : ∀ ds : List (DataW H), ds.length ≤ Rows.uptoBulkAll ds
  | [] => by simp [Rows.uptoBulkAll]
  | d :: r => by
    have := bulk_posS d
    have := bulk_allS r
    simp only [Rows.uptoBulkAll, List.length_cons]
    omega
theorem sheet_size {H : Type} {d : DataW H} {m n : Nat} (h : LenD d m) (hb : Rows.uptoBulk d ≤ n) : m ≤ n := by
  rcases h with ⟨rfl, rfl⟩ | ⟨es, sp, rfl, he⟩
  · omega
  · have := bulk_allS es
    simp only [Rows.uptoBulk] at hb
    omega
end
/-- A style with another change, if there is one. -/
def othS (sh : List Sty) (cs : List Chg) (i : Nat) : Sty := ⟨(gets sh i).nm, (gets sh i).pr, if i < cs.length then cs.getD i zeroC else (gets sh i).ch⟩
def othL (sh : List Sty) (cs : List Chg) (k : Nat) : List Sty := (List.range k).map (othS sh cs)
theorem othL_len (sh : List Sty) (cs : List Chg) (k : Nat) : (othL sh cs k).length = k := by simp [othL]
theorem othL_succ (sh : List Sty) (cs : List Chg) (k : Nat) : othL sh cs (k + 1) = othL sh cs k ++ [othS sh cs k] := by simp [othL, List.range_succ]
theorem othL_fit {sh : List Sty} {cs : List Chg} (h : Fit sh) (hc : ∀ c ∈ cs, In64 c.on ∧ In64 c.off ∧ In64 c.col) {k : Nat} (hk : k ≤ sh.length) : Fit (othL sh cs k) := by
  intro s hs
  obtain ⟨i, hi, rfl⟩ := List.mem_map.1 hs
  have hi' : i < sh.length := by have := List.mem_range.1 hi; omega
  obtain ⟨h1, h2, h3⟩ := h.at hi'
  refine ⟨h1, h2, ?_⟩
  unfold othS
  simp only
  split
  · rename_i hlt
    rw [List.getD_eq_getElem?_getD, List.getElem?_eq_getElem hlt]
    exact hc _ (List.getElem_mem hlt)
  · exact h3
theorem styRows_snocL (a : List Sty) (x : Sty) : styRows (a ++ [x]) = styRows a ++ styRow x := by simp [styRows]
theorem styRow_oneL (s : Sty) : ∀ u ∈ styRow s, u.oneCell' = true := by
  intro u hu; simp [styRow] at hu; rcases hu with rfl | rfl | rfl | rfl | rfl <;> rfl
end Go.Proofs.YtjohhahfpgfjdaaGreatDoor.S6
