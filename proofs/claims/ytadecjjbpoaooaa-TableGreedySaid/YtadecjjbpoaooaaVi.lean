/- Layer 12: what came in: flows, rows, columns, numbers; a first world. -/
import Derived.Test.YtadecjjbpoaooaaUs
import Derived.Test.YtadecjjbpoaooaaRows
import Derived.Deep.Strs
import Derived.Deep.Slices
import Derived.Lib.SmallJoins
import Derived.Lib.LaidIn
namespace Go.Proofs.Ytadecjjbpoaooaa.Tb
open Go.Deep Go.ChangeShapes Go.WideShapes Go.RowKit
set_option linter.unusedVariables false
set_option maxRecDepth 100000
section
variable {H : Type}
theorem wAll_mem {P : Program} {e : TypeId} {q : Nat → Bool} : ∀ {l : List (DataW H)}, (DataW.weightsAll P e l).all q = true → ∀ d ∈ l, (d.weights P e).all q = true
  | [], _, d, hd => absurd hd (by simp)
  | x :: l, h, d, hd => by
    rw [DataW.weightsAll, List.all_append, Bool.and_eq_true] at h
    rcases List.mem_cons.1 hd with rfl | hd
    · exact h.1
    · exact wAll_mem h.2 d hd
theorem wEach_at {P : Program} {q : Nat → Bool} : ∀ {ts : List TypeId} {ds : List (DataW H)} {j : Nat} {t : TypeId} {d : DataW H}, (DataW.weightsEach P ts ds).all q = true → ts[j]? = some t → ds[j]? = some d → (d.weights P t).all q = true
  | [], _, j, _, _, _, ht, _ => by simp at ht
  | _ :: _, [], j, _, _, _, _, hd => by simp at hd
  | t0 :: ts, d0 :: ds, 0, t, d, h, ht, hd => by
    rw [DataW.weightsEach, List.all_append, Bool.and_eq_true] at h
    simp at ht hd
    subst ht hd
    exact h.1
  | t0 :: ts, d0 :: ds, j + 1, t, d, h, ht, hd => by
    rw [DataW.weightsEach, List.all_append, Bool.and_eq_true] at h
    exact wEach_at h.2 (by simpa using ht) (by simpa using hd)
theorem w_slice {P : Program} {t e : TypeId} {q : Nat → Bool} {els sp : List (DataW H)} (ht : P.underlying t = some (.slice e)) (h : ((DataW.slice els sp).weights P t).all q = true) :
    q ((els.length + sp.length) * P.bytesOf e) = true ∧ ∀ d ∈ els, (d.weights P e).all q = true := by
  simp only [DataW.weights, ht, List.all_cons, List.all_append, Bool.and_eq_true] at h
  exact ⟨h.1, wAll_mem h.2.1⟩
end
/-- How a list's reading tells its length. -/
def LenD {H : Type} (d : DataW H) (n : Nat) : Prop := d = .nil ∧ n = 0 ∨ ∃ es sp, d = .slice es sp ∧ es.length = n
theorem choose_n {α : Type} {n : Nat} {R : Nat → α → Prop} (z : α) (h : ∀ i, i < n → ∃ a, R i a) : ∃ f : Nat → α, ∀ i, i < n → R i (f i) := by
  have : ∀ i, ∃ a, i < n → R i a := by
    intro i
    by_cases hi : i < n
    · obtain ⟨a, ha⟩ := h i hi
      exact ⟨a, fun _ => ha⟩
    · exact ⟨z, fun h => absurd h hi⟩
  exact ⟨fun i => Classical.choose (this i), fun i hi => Classical.choose_spec (this i) hi⟩
def In64 (z : Int) : Prop := -9223372036854775808 ≤ z ∧ z ≤ 9223372036854775807
theorem in64_wf {z : Int} (w : (Lit.int .i64 z).wf = true) : In64 z := by unfold In64; simpa [Lit.wf, IntKind.min, IntKind.max, IntKind.signed, IntKind.bits] using w
theorem kI : Try.prog.cellsOf 3 = 1 := by kernel_rfl
theorem kS : Try.prog.cellsOf 9 = 1 := by kernel_rfl
theorem kLk : Try.prog.cellsOf 38 = 2 := by kernel_rfl
theorem kG : Try.prog.cellsOf 40 = 5 := by kernel_rfl
theorem kC : Try.prog.cellsOf 53 = 2 := by kernel_rfl
theorem kL : Try.prog.cellsOf 32 = 1 := by kernel_rfl
section
variable {H : Type} {enc : TypeId × Value → H} {W : World}
theorem slice_cell {t e : TypeId} {n : Nat} {c : Value} {x : DataW H × List MemPlace} (ht : Try.prog.underlying t = some (.slice e)) (h : DataW.trod enc Try.prog W 0 (fun _ => true) true n t [c] = some x) : ∃ p l k, c = .slice p l k := by
  rcases open_slice ht h with ⟨h3, _⟩ | ⟨a, l, c', m, n', D, Pl, h3, _⟩
  · simp at h3; exact ⟨_, _, _, h3⟩
  · simp at h3; exact ⟨_, _, _, h3⟩
/-- A slice of rows of some cells each. -/
theorem rows_read {α : Type} {t e : TypeId} {c : Nat} {v : Value} {n : Nat} {x : DataW H × List MemPlace} (ht : Try.prog.underlying t = some (.slice e)) (hc : Try.prog.cellsOf e = c) (hc0 : 0 < c) (z : α) (row : α → List Value) (R : α → DataW H → Prop)
    (hr : ∀ {n : Nat} {cs : List Value} {x : DataW H × List MemPlace}, DataW.trod enc Try.prog W 0 (fun _ => true) true n e cs = some x → ∃ a, cs = row a ∧ R a x.1) (hlen : ∀ a, (row a).length = c)
    (hn : DataW.trod enc Try.prog W 0 (fun _ => true) true n t [v] = some x) :
    ∃ (pa : Option Addr) (cap : Nat) (l : List α), v = .slice pa l.length cap ∧ l.length ≤ cap ∧ cap ≤ maxLen ∧ (∀ j (hj : j < l.length), ∃ b off, pa = some ⟨b, off, none⟩ ∧ ∀ k u, (row l[j])[k]? = some u → W.cell? ⟨b, off + j * c + k, none⟩ = some u) ∧
      ((x.1 = .nil ∧ l = []) ∨ ∃ es sp, x.1 = .slice es sp ∧ es.length = l.length ∧ ∀ a ∈ l, ∃ d ∈ es, R a d) := by
  rcases open_slice ht hn with ⟨h3, h4⟩ | ⟨a, len, cap, m, n', D, Pl, h3, _, hlc, hcm, hm, hx, hall⟩
  · simp at h3
    subst h3 h4
    exact ⟨none, 0, [], rfl, Nat.le_refl _, by decide, fun j hj => absurd hj (by simp), .inl ⟨rfl, rfl⟩⟩
  · simp at h3
    subst h3
    have hmc : m = cap := by simpa using hm
    subst hmc
    subst hx
    obtain ⟨b, off, spot⟩ := a
    have hspot : 0 < len → spot = none := fun h0 => by
      obtain ⟨cs0, h01, h02⟩ := hall 0 (Nat.lt_of_lt_of_le h0 hlc)
      obtain ⟨s0, rfl, _⟩ := hr h02
      rw [hc] at h01
      obtain ⟨_, hl1, hc0'⟩ := World.cells?_some h01
      have := hc0' 0 hc0
      have hz : (row s0)[0]? = some (row s0)[0] := List.getElem?_eq_getElem (by rw [hlen]; exact hc0)
      rw [hz] at this
      simpa [Addr.add] using World.cell?_spot this
    obtain ⟨f, hf⟩ := choose_n (R := fun i (s : α) => R s (D i) ∧ ∀ k u, (row s)[k]? = some u → W.cell? ⟨b, off + i * c + k, none⟩ = some u) z (fun i hi => by
      obtain ⟨cs', h1, h2⟩ := hall i (show i < m from Nat.lt_of_lt_of_le (show i < len from hi) hlc)
      obtain ⟨s, rfl, hs⟩ := hr h2
      rw [hc] at h1
      obtain ⟨_, _, hcell⟩ := World.cells?_some h1
      have hsp := hspot (by omega)
      subst hsp
      refine ⟨s, hs, fun k u hk => ?_⟩
      have hk5 : k < c := by
        rcases Nat.lt_or_ge k c with h | h
        · exact h
        · rw [List.getElem?_eq_none (by rw [hlen]; exact h)] at hk; cases hk
      have := hcell k hk5
      rw [add_add, add_plain] at this
      rw [← hk, ← this, Nat.add_assoc])
    refine ⟨some ⟨b, off, spot⟩, m, (List.range len).map f, by simp, by simpa using hlc, by assumption, fun j hj => ?_, .inr ⟨_, _, rfl, by simp, fun s hs => ?_⟩⟩
    · have hj' : j < len := by simpa using hj
      have hsp := hspot (by omega)
      subst hsp
      refine ⟨b, off, rfl, ?_⟩
      simp only [List.getElem_map, List.getElem_range]
      exact (hf j hj').2
    · obtain ⟨i, hi, rfl⟩ := List.mem_map.1 hs
      exact ⟨D i, List.mem_map.2 ⟨i, hi, rfl⟩, (hf i (by simpa using hi)).1⟩
theorem gl_cells {n : Nat} {cs : List Value} {x : DataW H × List MemPlace} (h : DataW.trod enc Try.prog W 0 (fun _ => true) true n 40 cs = some x) : ∃ g : Gl, cs = glRow g ∧ True := by
  obtain ⟨xs, m, _, rfl, hl, hlen, hf⟩ := DataW.trod_struct Try.underlying40 h
  have hl8 : cs.length = 5 := hl.trans kG
  have hl9 : xs.length = 4 := hlen
  match cs, hl8, xs, hl9 with
  | [c0, c1, c2, c3, c4], _, [y0, y1, y2, y3], _ =>
    have h0 := hf 0 _ rfl
    have h1 := hf 1 _ rfl
    have h2 := hf 2 _ rfl
    have h3 := hf 3 _ rfl
    simp [kI, kS, kLk] at h0 h1 h2 h3
    obtain ⟨s0, e0, _⟩ := DataW.trod_string Try.underlying9 h0
    obtain ⟨z1, e1, _⟩ := DataW.trod_int Try.underlying3 h1
    obtain ⟨z4, e4, _⟩ := DataW.trod_int Try.underlying3 h3
    obtain ⟨ys, m2, _, _, hl2, hlen2, hf2⟩ := DataW.trod_struct Try.underlying38 h2
    have hl7 : ys.length = 2 := hlen2
    match ys, hl7 with
    | [q0, q1], _ =>
      have g0 := hf2 0 _ rfl
      have g1 := hf2 1 _ rfl
      simp [kI] at g0 g1
      obtain ⟨z2, e2, _⟩ := DataW.trod_int Try.underlying3 g0
      obtain ⟨z3, e3, _⟩ := DataW.trod_int Try.underlying3 g1
      simp at e0 e1 e2 e3 e4
      subst e0 e1 e2 e3 e4
      exact ⟨⟨s0, z1, z2, z3, z4⟩, rfl, trivial⟩
theorem gls_read {v : Value} {d : DataW H} {p : List MemPlace} (h : DataW.Trod enc Try.prog W 0 (fun _ => true) true 32 v d p) (hv : ∃ pa len cap, v = .slice pa len cap) :
    ∃ l : List Gl, RdG (fun _ => True) W v l ∧ LenD d l.length := by
  obtain ⟨pa, len, cap, rfl⟩ := hv
  obtain ⟨n, hn⟩ := h
  obtain ⟨pa', cap', l, e, h1, h2, hc, hd⟩ := rows_read Try.underlying32 kG (by decide) (⟨⟨#[]⟩, 0, 0, 0, 0⟩ : Gl) glRow (fun _ _ => True) (fun h => by obtain ⟨g, e, _⟩ := gl_cells h; exact ⟨g, e, trivial⟩) (fun _ => rfl) hn
  refine ⟨l, ⟨pa', cap', e, h1, h2, fun j hj => ?_⟩, ?_⟩
  · obtain ⟨b, off, e2, hc2⟩ := hc j hj
    exact ⟨b, off, e2, trivial, hc2 0 _ rfl, hc2 1 _ rfl, hc2 2 _ rfl, hc2 3 _ rfl, hc2 4 _ rfl⟩
  · rcases hd with ⟨e1, e2⟩ | ⟨es, sp, e1, e2, _⟩
    · exact .inl ⟨e1, by rw [e2]; rfl⟩
    · exact .inr ⟨es, sp, e1, e2⟩
theorem col_cells {n : Nat} {cs : List Value} {x : DataW H × List MemPlace} (h : DataW.trod enc Try.prog W 0 (fun _ => true) true n 53 cs = some x) : ∃ c : Int × Int, cs = colRow c ∧ (Lit.int .i64 c.1).wf = true ∧ (Lit.int .i64 c.2).wf = true := by
  obtain ⟨xs, m, _, rfl, hl, hlen, hf⟩ := DataW.trod_struct Try.underlying53 h
  have hl8 : cs.length = 2 := hl.trans kC
  have hl9 : xs.length = 2 := hlen
  match cs, hl8, xs, hl9 with
  | [c0, c1], _, [y0, y1], _ =>
    have h0 := hf 0 _ rfl
    have h1 := hf 1 _ rfl
    simp [kI] at h0 h1
    obtain ⟨z0, e0, _, w0⟩ := DataW.trod_int Try.underlying3 h0
    obtain ⟨z1, e1, _, w1⟩ := DataW.trod_int Try.underlying3 h1
    simp at e0 e1
    subst e0 e1
    exact ⟨(z0, z1), rfl, w0, w1⟩
theorem cols_read {v : Value} {d : DataW H} {p : List MemPlace} (h : DataW.Trod enc Try.prog W 0 (fun _ => true) true 23 v d p) (hv : ∃ pa len cap, v = .slice pa len cap) :
    ∃ l : List (Int × Int), RdC (fun _ => True) W v l ∧ LenD d l.length := by
  obtain ⟨pa, len, cap, rfl⟩ := hv
  obtain ⟨n, hn⟩ := h
  obtain ⟨pa', cap', l, e, h1, h2, hc, hd⟩ := rows_read Try.underlying23 kC (by decide) ((0, 0) : Int × Int) colRow (fun _ _ => True) (fun h => by obtain ⟨g, e, _⟩ := col_cells h; exact ⟨g, e, trivial⟩) (fun _ => rfl) hn
  refine ⟨l, ⟨pa', cap', e, h1, h2, fun j hj => ?_⟩, ?_⟩
  · obtain ⟨b, off, e2, hc2⟩ := hc j hj
    exact ⟨b, off, e2, trivial, hc2 0 _ rfl, hc2 1 _ rfl⟩
  · rcases hd with ⟨e1, e2⟩ | ⟨es, sp, e1, e2, _⟩
    · exact .inl ⟨e1, by rw [e2]; rfl⟩
    · exact .inr ⟨es, sp, e1, e2⟩
theorem ints_read {v : Value} {d : DataW H} {p : List MemPlace} (h : DataW.Trod enc Try.prog W 0 (fun _ => true) true 22 v d p) (hv : ∃ pa len cap, v = .slice pa len cap) :
    ∃ l : List Int, RdZ (fun _ => True) W v l ∧ LenD d l.length := by
  obtain ⟨pa, len, cap, rfl⟩ := hv
  obtain ⟨n, hn⟩ := h
  obtain ⟨pa', cap', l, e, h1, h2, hc, hd⟩ := rows_read Try.underlying22 kI (by decide) (0 : Int) (fun z => [Value.int .i64 z]) (fun _ _ => True) (fun h => by obtain ⟨z, e, _⟩ := DataW.trod_int Try.underlying3 h; exact ⟨z, e, trivial⟩) (fun _ => rfl) hn
  refine ⟨l, ⟨pa', cap', e, h1, h2, fun j hj => ?_⟩, ?_⟩
  · obtain ⟨b, off, e2, hc2⟩ := hc j hj
    have := hc2 0 _ rfl
    rw [Nat.mul_one, Nat.add_zero] at this
    exact ⟨b, off, e2, trivial, this⟩
  · rcases hd with ⟨e1, e2⟩ | ⟨es, sp, e1, e2, _⟩
    · exact .inl ⟨e1, by rw [e2]; rfl⟩
    · exact .inr ⟨es, sp, e1, e2⟩
end
theorem gls_reach {H : Type} {d : DataW H} {n : Nat} {ts : List TypeId} {ds : List (DataW H)} {j : Nat} (h : (DataW.weightsEach Try.prog ts ds).all (· ≤ reachBytes) = true) (ht : ts[j]? = some 32) (hd : ds[j]? = some d)
    (hl : LenD d n) : n * 48 ≤ 140737488351232 := by
  rcases hl with ⟨_, rfl⟩ | ⟨es, sp, rfl, he⟩
  · simp
  · have := sized_slice h ht hd Try.underlying32
    rw [show Try.prog.bytesOf 40 = 48 by kernel_rfl] at this
    simp only [reachBytes] at this
    omega
theorem ints_reach {H : Type} {d : DataW H} {n : Nat} {ts : List TypeId} {ds : List (DataW H)} {j : Nat} (h : (DataW.weightsEach Try.prog ts ds).all (· ≤ reachBytes) = true) (ht : ts[j]? = some 22) (hd : ds[j]? = some d)
    (hl : LenD d n) : n * 8 ≤ 140737488351232 := by
  rcases hl with ⟨_, rfl⟩ | ⟨es, sp, rfl, he⟩
  · simp
  · have := sized_slice h ht hd Try.underlying22
    rw [show Try.prog.bytesOf 3 = 8 by kernel_rfl] at this
    simp only [reachBytes] at this
    omega
theorem own : ownKnob Try.prog.godebug = none := by kernel_rfl
/-- A world for the witness: nothing of the library is laid. -/
noncomputable def laidWorld (os : Os) : World := World.holding Try.prog os ⟨#[], #[], []⟩
theorem laid_met (w : World) : laidMet Try.prog [] w := ⟨[], rfl, List.nodup_nil, fun _ _ h => by cases h⟩
end Go.Proofs.Ytadecjjbpoaooaa.Tb
