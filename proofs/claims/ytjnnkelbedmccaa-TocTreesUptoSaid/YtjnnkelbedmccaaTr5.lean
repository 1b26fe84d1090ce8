/- Layer 10: lists of lists of numbers that came in; the sources that the law makes of them. -/
import Derived.Test.YtjnnkelbedmccaaTr4
import Derived.Deep.Onto
import Derived.Deep.RegionLaw
import Derived.Deep.AppendLies
import Derived.Lib.LaidIn
namespace Go.Proofs.Ytjnnkelbedmccaa
open Go.Deep Go.ChangeShapes Go.WideShapes Go.RowKit Go.Maps
set_option linter.unusedVariables false
/-- A list of lists of numbers in memory. -/
def RdLs (w : World) (v : Value) (ll : List (List Int)) : Prop :=
  ∃ (pa : Option Addr) (cap : Nat), v = .slice pa ll.length cap ∧ ∀ j (hj : j < ll.length), ∃ b off tv, pa = some ⟨b, off, none⟩ ∧ w.cell? ⟨b, off + j, none⟩ = some tv ∧ RdZ w tv ll[j]
theorem RdLs.keep {w w' : World} {v : Value} {ll : List (List Int)} (h : RdLs w v ll) (hk : ∀ a : Addr, a.block < w.heap.size → w'.cell? a = w.cell? a) : RdLs w' v ll := by
  obtain ⟨pa, cap, e, h4⟩ := h
  refine ⟨pa, cap, e, fun j hj => ?_⟩
  obtain ⟨b, off, tv, e, hc, hd⟩ := h4 j hj
  exact ⟨b, off, tv, e, (hk ⟨b, off + j, none⟩ (cellInL hc)).trans hc, hd.keep hk⟩
theorem RdLs.below {w w' : World} {v : Value} {ll : List (List Int)} (h : RdLs w v ll) (hb : Below w.heap.size w w') : RdLs w' v ll := h.keep fun _ ha => hb.cell ha
theorem RdLs.form {w : World} {v : Value} {ll : List (List Int)} (h : RdLs w v ll) : ∃ (pa : Option Addr) (cap : Nat), v = .slice pa ll.length cap := by
  obtain ⟨pa, cap, e, _⟩ := h
  exact ⟨pa, cap, e⟩
theorem RdLs.cell {w : World} {pa : Option Addr} {n cap : Nat} {ll : List (List Int)} (h : RdLs w (.slice pa n cap) ll) {j : Nat} (hj : j < ll.length) : ∃ b off pz cz, pa = some ⟨b, off, none⟩ ∧ w.cell? ⟨b, off + j, none⟩ = some (.slice pz ll[j].length cz) ∧ RdZ w (.slice pz ll[j].length cz) ll[j] := by
  obtain ⟨pa', cap', e, h4⟩ := h
  cases e
  obtain ⟨b, off, tv, e, hc, hd⟩ := h4 j hj
  obtain ⟨pz, cz, rfl, _⟩ := hd.form
  exact ⟨b, off, pz, cz, e, hc, hd⟩
theorem kZl : Try.prog.cellsOf 28 = 1 := by kernel_rfl
theorem bulk_posL {H : Type} : ∀ d : DataW H, 1 ≤ Rows.uptoBulk d := by
  intro d
  cases d with
  | lit l => cases l <;> simp [Rows.uptoBulk]
  | _ => simp [Rows.uptoBulk]
theorem bulk_allL {H : Type} : ∀ ds : List (DataW H), ds.length ≤ Rows.uptoBulkAll ds
  | [] => by simp [Rows.uptoBulkAll]
  | d :: r => by
    have := bulk_posL d
    have := bulk_allL r
    simp only [Rows.uptoBulkAll, List.length_cons]
    omega
theorem bulk_sumL {H : Type} (f : Nat → List Int) (D : Nat → DataW H) : ∀ is : List Nat, (∀ i ∈ is, (f i).length ≤ Rows.uptoBulk (D i)) → (is.map f).flatten.length ≤ Rows.uptoBulkAll (is.map D)
  | [], _ => by simp [Rows.uptoBulkAll]
  | i :: r, h => by
    have h1 := bulk_sumL f D r fun j hj => h j (List.mem_cons_of_mem _ hj)
    have h2 := h i (by simp)
    rw [List.map_cons, List.flatten_cons, List.length_append, List.map_cons]
    simp only [Rows.uptoBulkAll]
    omega
theorem len_bulkL {H : Type} {d : DataW H} {n : Nat} (h : LenD d n) : n ≤ Rows.uptoBulk d := by
  rcases h with ⟨rfl, rfl⟩ | ⟨es, sp, rfl, he⟩
  · omega
  · have := bulk_allL es
    simp only [Rows.uptoBulk]
    omega
section
variable {H : Type} {enc : TypeId × Value → H} {W : World}
def BulkL (d : DataW H) (ll : List (List Int)) : Prop := cntL ll ≤ Rows.uptoBulk d ∧ ll.length ≤ Rows.uptoBulk d
theorem lists_read {v : Value} {d : DataW H} {p : List MemPlace} (h : DataW.Trod enc Try.prog W 0 (fun _ => true) true 22 v d p) (hv : ∃ pa len cap, v = .slice pa len cap) :
    ∃ ll : List (List Int), RdLs W v ll ∧ BulkL d ll := by
  obtain ⟨pa, len, cap, rfl⟩ := hv
  obtain ⟨n, hn⟩ := h
  rcases open_slice1 Try.underlying22 kZl hn with ⟨h3, h4⟩ | ⟨a, l, c, m, n', V, D, Pl, h3, _, hlc, hcm, hm, hx, hall⟩
  · simp [Value.cells] at h3
    obtain ⟨rfl, rfl, rfl⟩ := h3
    cases h4
    exact ⟨[], ⟨none, 0, rfl, fun j hj => absurd hj (by simp)⟩, by simp [cntL], by simp⟩
  · simp [Value.cells] at h3
    obtain ⟨rfl, rfl, rfl⟩ := h3
    have hmc : m = cap := by simpa using hm
    subst hmc
    cases hx
    obtain ⟨f, hf⟩ := choose_n (R := fun i (z : List Int) => RdZ W (V i) z ∧ z.length ≤ Rows.uptoBulk (D i) ∧ a = ⟨a.block, a.off, none⟩ ∧ W.cell? ⟨a.block, a.off + i, none⟩ = some (V i)) [] (fun i hi => by
      obtain ⟨h1, h2⟩ := hall i (show i < m from Nat.lt_of_lt_of_le (show i < len from hi) hlc)
      have hsl : ∃ pa len cap, V i = .slice pa len cap := by
        rcases open_slice1 Try.underlying28 kI h2 with ⟨e, _⟩ | ⟨_, _, _, _, _, _, _, _, e, _⟩
        · simp at e; exact ⟨_, _, _, e⟩
        · simp at e; exact ⟨_, _, _, e⟩
      have hcs : (V i).cells.toList = [V i] := by
        obtain ⟨_, _, _, e⟩ := hsl
        rw [e]; rfl
      obtain ⟨xs, ⟨hr, _⟩, hd⟩ := ints_read (enc := enc) (W := W) (v := V i) (d := D i) (p := Pl i) ⟨n', by rw [hcs]; exact h2⟩ hsl
      obtain ⟨b, off, spot⟩ := a
      have hspot : spot = none := by
        have := (hall 0 (Nat.lt_of_lt_of_le (show 0 < len by omega) hlc)).1
        simpa [Addr.add] using World.cell?_spot this
      subst hspot
      rw [add_plain] at h1
      exact ⟨xs, hr, len_bulkL hd, rfl, h1⟩)
    refine ⟨(List.range len).map f, ⟨some a, m, by simp, fun i hi => ?_⟩, ?_, ?_⟩
    · have hi' : i < len := by simpa using hi
      obtain ⟨h1, _, e, hc⟩ := hf i hi'
      refine ⟨a.block, a.off, V i, by rw [← e], hc, ?_⟩
      simp only [List.getElem_map, List.getElem_range]
      exact h1
    · have := bulk_sumL f D (List.range len) fun i hi => (hf i (List.mem_range.1 hi)).2.1
      unfold cntL
      simp only [Rows.uptoBulk]
      omega
    · have := bulk_allL ((List.range len).map D)
      rw [List.length_map] at this ⊢
      simp only [Rows.uptoBulk]
      omega
theorem lists_bulk {d : DataW H} {ll : List (List Int)} {n : Nat} (h : BulkL d ll) (hb : Rows.uptoBulk d ≤ n) : cntL ll ≤ n ∧ ll.length ≤ n := ⟨Nat.le_trans h.1 hb, Nat.le_trans h.2 hb⟩
end
/-- Rows of cells. -/
def rowsT (ln : Int) (nm : ByteArray) (zs : List Int) : List Value := zs.flatMap (tRow ln nm)
def sRow (tv : Value) : List Value := [.slice none 0 0, tv]
def rowsV (tvs : List Value) : List Value := tvs.flatMap sRow
theorem rowsT_len (ln : Int) (nm : ByteArray) : ∀ zs, (rowsT ln nm zs).length = zs.length * 8
  | [] => rfl
  | z :: zs => by
    have := rowsT_len ln nm zs
    unfold rowsT at this ⊢
    rw [List.flatMap_cons, List.length_append, this, List.length_cons]
    simp [tRow]
    omega
theorem rowsT_at (ln : Int) (nm : ByteArray) : ∀ (zs : List Int) (j k : Nat) (hj : j < zs.length), k < 8 → (rowsT ln nm zs)[j * 8 + k]? = (tRow ln nm zs[j])[k]?
  | [], j, k, hj, _ => absurd hj (by simp)
  | z :: zs, 0, k, _, hk => by
    unfold rowsT
    rw [List.flatMap_cons, Nat.zero_mul, Nat.zero_add, List.getElem?_append_left (by simp [tRow]; exact hk)]
    rfl
  | z :: zs, j + 1, k, hj, hk => by
    have h := rowsT_at ln nm zs j k (by simpa using hj) hk
    unfold rowsT at h ⊢
    rw [List.flatMap_cons, List.getElem?_append_right (by simp [tRow]; omega), show (tRow ln nm z).length = 8 from rfl, show (j + 1) * 8 + k - 8 = j * 8 + k by omega, h]
    simp
theorem rowsT_snoc (ln : Int) (nm : ByteArray) (zs : List Int) (z : Int) : rowsT ln nm (zs ++ [z]) = rowsT ln nm zs ++ tRow ln nm z := by simp [rowsT]
theorem rowsV_len : ∀ tvs, (rowsV tvs).length = tvs.length * 2
  | [] => rfl
  | z :: zs => by
    have := rowsV_len zs
    unfold rowsV at this ⊢
    rw [List.flatMap_cons, List.length_append, this, List.length_cons]
    simp [sRow]
    omega
theorem rowsV_at : ∀ (zs : List Value) (j k : Nat) (hj : j < zs.length), k < 2 → (rowsV zs)[j * 2 + k]? = (sRow zs[j])[k]?
  | [], j, k, hj, _ => absurd hj (by simp)
  | z :: zs, 0, k, _, hk => by
    unfold rowsV
    rw [List.flatMap_cons, Nat.zero_mul, Nat.zero_add, List.getElem?_append_left (by simp [sRow]; exact hk)]
    rfl
  | z :: zs, j + 1, k, hj, hk => by
    have h := rowsV_at zs j k (by simpa using hj) hk
    unfold rowsV at h ⊢
    rw [List.flatMap_cons, List.getElem?_append_right (by simp [sRow]; omega), show (sRow z).length = 2 from rfl, show (j + 1) * 2 + k - 2 = j * 2 + k by omega, h]
    simp
theorem rowsV_snoc (tvs : List Value) (tv : Value) : rowsV (tvs ++ [tv]) = rowsV tvs ++ sRow tv := by simp [rowsV]
theorem tRow_one (ln : Int) (nm : ByteArray) (z : Int) : ∀ u ∈ tRow ln nm z, u.oneCell' = true := by
  intro u hu
  simp only [tRow, List.mem_cons, List.not_mem_nil, or_false] at hu
  rcases hu with rfl | rfl | rfl | rfl | rfl | rfl | rfl | rfl <;> rfl
theorem RdTs.own {ln : Int} {nm : ByteArray} {W : World} {base : Nat} {v : Value} {zs : List Int} (h : W.ownsRow base 33 8 v zs.length (rowsT ln nm zs)) : RdTs ln nm W v zs := by
  rcases h.2 with ⟨rfl, h0⟩ | ⟨g, cap, cur, rfl, hb, hg, h1, h2, h3, h4⟩
  · exact ⟨none, 0, by rw [h0], fun i hi => absurd hi (by omega)⟩
  · refine ⟨_, cap, rfl, fun j hj => ⟨g, 0, rfl, fun k u hu => ?_⟩⟩
    have hk : k < 8 := by have := (List.getElem?_eq_some_iff.1 hu).1; simpa [tRow] using this
    rw [Nat.zero_add, World.ownsRow.cellAt h (j * 8 + k) (by omega), rowsT_at ln nm zs j k hj hk]
    exact hu
/-- The sources that the law has made so far. -/
structure LO (ln : Int) (nm : ByteArray) (B : Nat) (W : World) (v : Value) (ll : List (List Int)) (tvs : List Value) : Prop where
  num : tvs.length = ll.length
  row : W.ownsRow B 27 2 v ll.length (rowsV tvs)
  tops : ∀ j (hj : j < ll.length), W.ownsRow B 33 8 (tvs[j]'(by omega)) ll[j].length (rowsT ln nm ll[j])
theorem LO.below {ln : Int} {nm : ByteArray} {B : Nat} {W W' : World} {v : Value} {ll : List (List Int)} {tvs : List Value} (h : LO ln nm B W v ll tvs) (hb : Below W.heap.size W W') : LO ln nm B W' v ll tvs :=
  ⟨h.num, own_stays h.row fun c e => hb.block c (own_base h.row e).2, fun j hj => own_stays (h.tops j hj) fun c e => hb.block c (own_base (h.tops j hj) e).2⟩
theorem own_apart {W : World} {B1 B2 n1 n2 : Nat} {e1 e2 : TypeId} {s1 s2 : Nat} {v1 v2 : Value} {x1 x2 : List Value} (h1 : W.ownsRow B1 e1 s1 v1 n1 x1) (h2 : W.ownsRow B2 e2 s2 v2 n2 x2) (hne : e1 ≠ e2) : v1.ownBlock = none ∨ v1.ownBlock ≠ v2.ownBlock := by
  rcases h1.2 with ⟨rfl, _⟩ | ⟨g, cap, cur, rfl, _, hg, _⟩
  · exact .inl rfl
  · refine .inr fun e => ?_
    rcases h2.2 with ⟨rfl, _⟩ | ⟨g2, cap2, cur2, rfl, _, hg2, _⟩
    · cases e
    · injection e with e
      simp only at e
      subst e
      rw [hg] at hg2
      injection hg2 with hg2
      injection hg2 with _ h _
      exact hne h
theorem LO.push {ln : Int} {nm : ByteArray} {B : Nat} {W W' : World} {v v' tv : Value} {ll : List (List Int)} {zs : List Int} {tvs : List Value} {o : Obj} (h : LO ln nm B W v ll tvs) (ht : W.ownsRow B 33 8 tv zs.length (rowsT ln nm zs)) (hg : (W.alloc o).grownBy W' v.ownBlock) (hown : W'.ownsRow B 27 2 v' (ll.length + 1) (rowsV tvs ++ sRow tv)) : LO ln nm B W' v' (ll ++ [zs]) (tvs ++ [tv]) := by
  have keep : ∀ {u : Value} {m : Nat} {xs : List Value}, W.ownsRow B 33 8 u m xs → W'.ownsRow B 33 8 u m xs := fun hu =>
    (hu.alloc o).kept hg (own_apart hu h.row (by decide))
  refine ⟨by simp [h.num], by rw [List.length_append, rowsV_snoc]; exact hown, fun j hj => ?_⟩
  by_cases hjl : j < ll.length
  · have h1 : (ll ++ [zs])[j] = ll[j] := List.getElem_append_left hjl
    have h2 : (tvs ++ [tv])[j]'(by simp [h.num]; omega) = tvs[j]'(by have := h.num; omega) := List.getElem_append_left (by have := h.num; omega)
    rw [h1, h2]
    exact keep (h.tops j hjl)
  · have hje : j = ll.length := by simp at hj; omega
    have h1 : (ll ++ [zs])[j] = zs := by simp [hje]
    have h2 : (tvs ++ [tv])[j]'(by simp [h.num]; omega) = tv := by simp [hje, ← h.num]
    rw [h1, h2]
    exact keep ht
theorem LO.read {ln : Int} {nm : ByteArray} {B : Nat} {W : World} {v : Value} {ll : List (List Int)} {tvs : List Value} (h : LO ln nm B W v ll tvs) : RdSs ln nm W v ll := by
  rcases h.row.2 with ⟨rfl, h0⟩ | ⟨g, cap, cur, rfl, hb, hg, h1, h2, h3, h4⟩
  · exact ⟨none, 0, by rw [h0], fun i hi => absurd hi (by omega)⟩
  · refine ⟨_, cap, rfl, fun j hj => ⟨g, 0, tvs[j]'(by have := h.num; omega), rfl, ?_, ?_, RdTs.own (h.tops j hj)⟩⟩
    · rw [Nat.zero_add]
      have := World.ownsRow.cellAt h.row (j * 2 + 0) (by omega)
      rw [rowsV_at tvs j 0 (by have := h.num; omega) (by omega)] at this
      exact this
    · rw [Nat.zero_add, World.ownsRow.cellAt h.row (j * 2 + 1) (by omega), rowsV_at tvs j 1 (by have := h.num; omega) (by omega)]
      rfl
theorem infoTo : (Try.prog.info? 33).map (fun i => (i.zero, i.size, i.bytes)) = some (some (.agg #[.int .i64 0, .string ⟨#[]⟩, .string ⟨#[]⟩, .int .i64 0, .slice none 0 0, .slice none 0 0, .slice none 0 0, .int .i64 0]), 8, 128) := by kernel_rfl
theorem infoSo : (Try.prog.info? 27).map (fun i => (i.zero, i.size, i.bytes)) = some (some (.agg #[.slice none 0 0, .slice none 0 0]), 2, 48) := by kernel_rfl
end Go.Proofs.Ytjnnkelbedmccaa
