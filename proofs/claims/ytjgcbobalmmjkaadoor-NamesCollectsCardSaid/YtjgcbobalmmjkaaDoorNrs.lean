/- What came in: sources. -/
import Derived.Test.YtjgcbobalmmjkaaDoorNco
import Derived.Test.YtjgcbobalmmjkaaDoorNrg
namespace Go.Proofs.YtjgcbobalmmjkaaDoor
open Go.Deep Go.ChangeShapes Go.WideShapes Go.RowKit
set_option linter.unusedVariables false
set_option maxRecDepth 100000
section
variable {H : Type}
theorem wAll_mem {P : Program} {e : TypeId} {q : Nat → Bool} : ∀ {l : List (DataW H)}, (DataW.weightsAll P e l).all q = true → ∀ d ∈ l, (d.weights P e).all q = true
  | [], _, d, hd => absurd hd (by simp)
  | x :: l, h, d, hd => by
    rw [DataW.weightsAll, List.all_append, Bool.and_eq_true] at h
    rcases List.mem_cons.1 hd with rfl | hd
    · exact h.1
    · exact wAll_mem h.2 d hd
theorem wEach_at {P : Program} {q : Nat → Bool} : ∀ {ts : List TypeId} {ds : List (DataW H)} {j : Nat} {t : TypeId} {d : DataW H}, (DataW.weightsEach P ts ds).all q = true → ts[j]? = some t → ds[j]? = some d → (d.weights P t).all q = true
  | [], _, j, _, _, _, ht, _ => by simp at ht
  | _ :: _, [], j, _, _, _, _, hd => by simp at hd
  | t0 :: ts, d0 :: ds, 0, t, d, h, ht, hd => by
    rw [DataW.weightsEach, List.all_append, Bool.and_eq_true] at h
    simp at ht hd
    subst ht hd
    exact h.1
  | t0 :: ts, d0 :: ds, j + 1, t, d, h, ht, hd => by
    rw [DataW.weightsEach, List.all_append, Bool.and_eq_true] at h
    exact wEach_at h.2 (by simpa using ht) (by simpa using hd)
theorem w_slice {P : Program} {t e : TypeId} {q : Nat → Bool} {els sp : List (DataW H)} (ht : P.underlying t = some (.slice e)) (h : ((DataW.slice els sp).weights P t).all q = true) :
    q ((els.length + sp.length) * P.bytesOf e) = true ∧ ∀ d ∈ els, (d.weights P e).all q = true := by
  simp only [DataW.weights, ht, List.all_cons, List.all_append, Bool.and_eq_true] at h
  exact ⟨h.1, wAll_mem h.2.1⟩
theorem w_struct {P : Program} {t : TypeId} {fs : Array Field} {q : Nat → Bool} {parts : List (DataW H)} (ht : P.underlying t = some (.struct fs)) (h : ((DataW.agg parts).weights P t).all q = true) :
    (DataW.weightsEach P (fs.toList.map (·.type)) parts).all q = true := by
  simpa only [DataW.weights, ht] using h
end
theorem kI : Tryd.prog.cellsOf 3 = 1 := by kernel_rfl
theorem kS : Tryd.prog.cellsOf 9 = 1 := by kernel_rfl
theorem kK : Tryd.prog.cellsOf 34 = 1 := by kernel_rfl
theorem kE : Tryd.prog.cellsOf 35 = 1 := by kernel_rfl
theorem kB : Tryd.prog.cellsOf 36 = 1 := by kernel_rfl
theorem kD : Tryd.prog.cellsOf 30 = 1 := by kernel_rfl
theorem kL : Tryd.prog.cellsOf 31 = 1 := by kernel_rfl
theorem kT : Tryd.prog.cellsOf 38 = 8 := by kernel_rfl
theorem kO : Tryd.prog.cellsOf 33 = 2 := by kernel_rfl
section
variable {H : Type} {enc : TypeId × Value → H} {W : World}
theorem slice_cell {t e : TypeId} {n : Nat} {c : Value} {x : DataW H × List MemPlace} (ht : Tryd.prog.underlying t = some (.slice e)) (h : DataW.trod enc Tryd.prog W 0 (fun _ => true) true n t [c] = some x) : ∃ p l k, c = .slice p l k := by
  rcases open_slice ht h with ⟨h3, _⟩ | ⟨a, l, c', m, n', D, Pl, h3, _⟩
  · simp at h3; exact ⟨_, _, _, h3⟩
  · simp at h3; exact ⟨_, _, _, h3⟩
theorem tpc_cells {n : Nat} {cs : List Value} {x : DataW H × List MemPlace} (h : DataW.trod enc Tryd.prog W 0 (fun _ => true) true n 38 cs = some x) : ∃ t : Tpc, cs = tpcRow t := by
  obtain ⟨xs, m, _, rfl, hl, hlen, hf⟩ := DataW.trod_struct Tryd.underlying38 h
  have hl8 : cs.length = 8 := hl.trans kT
  have hl9 : xs.length = 8 := hlen
  match cs, hl8, xs, hl9 with
  | [c0, c1, c2, c3, c4, c5, c6, c7], _, [y0, y1, y2, y3, y4, y5, y6, y7], _ =>
    have h0 := hf 0 _ rfl
    have h1 := hf 1 _ rfl
    have h2 := hf 2 _ rfl
    have h3 := hf 3 _ rfl
    have h4 := hf 4 _ rfl
    have h5 := hf 5 _ rfl
    have h6 := hf 6 _ rfl
    have h7 := hf 7 _ rfl
    simp [kI, kS, kK, kE, kB] at h0 h1 h2 h3 h4 h5 h6 h7
    obtain ⟨z0, e0, _⟩ := DataW.trod_int Tryd.underlying3 h0
    obtain ⟨s1, e1, _⟩ := DataW.trod_string Tryd.underlying9 h1
    obtain ⟨s2, e2, _⟩ := DataW.trod_string Tryd.underlying9 h2
    obtain ⟨z3, e3, _⟩ := DataW.trod_int Tryd.underlying3 h3
    obtain ⟨p4, l4, k4, e4⟩ := slice_cell Tryd.underlying34 h4
    obtain ⟨p5, l5, k5, e5⟩ := slice_cell Tryd.underlying35 h5
    obtain ⟨p6, l6, k6, e6⟩ := slice_cell Tryd.underlying36 h6
    obtain ⟨z7, e7, _⟩ := DataW.trod_int Tryd.underlying3 h7
    simp at e0 e1 e2 e3 e7
    subst e0 e1 e2 e3 e4 e5 e6 e7
    exact ⟨⟨z0, s1, s2, z3, p4, l4, k4, p5, l5, k5, p6, l6, k6, z7⟩, rfl⟩
/-- A slice of rows of some cells each. -/
theorem rows_read {α : Type} {t e : TypeId} {c : Nat} {v : Value} {n : Nat} {x : DataW H × List MemPlace} (ht : Tryd.prog.underlying t = some (.slice e)) (hc : Tryd.prog.cellsOf e = c) (hc0 : 0 < c) (z : α) (row : α → List Value) (R : α → DataW H → Prop)
    (hr : ∀ {n : Nat} {cs : List Value} {x : DataW H × List MemPlace}, DataW.trod enc Tryd.prog W 0 (fun _ => true) true n e cs = some x → ∃ a, cs = row a ∧ R a x.1) (hlen : ∀ a, (row a).length = c)
    (hn : DataW.trod enc Tryd.prog W 0 (fun _ => true) true n t [v] = some x) :
    ∃ (pa : Option Addr) (cap : Nat) (l : List α), v = .slice pa l.length cap ∧ (∀ j (hj : j < l.length), ∃ b off, pa = some ⟨b, off, none⟩ ∧ ∀ k u, (row l[j])[k]? = some u → W.cell? ⟨b, off + j * c + k, none⟩ = some u) ∧
      ((x.1 = .nil ∧ l = []) ∨ ∃ es sp, x.1 = .slice es sp ∧ es.length = l.length ∧ ∀ a ∈ l, ∃ d ∈ es, R a d) := by
  rcases open_slice ht hn with ⟨h3, h4⟩ | ⟨a, len, cap, m, n', D, Pl, h3, _, hlc, hcm, hm, hx, hall⟩
  · simp at h3
    subst h3 h4
    exact ⟨none, 0, [], rfl, fun j hj => absurd hj (by simp), .inl ⟨rfl, rfl⟩⟩
  · simp at h3
    subst h3
    have hmc : m = cap := by simpa using hm
    subst hmc
    subst hx
    obtain ⟨b, off, spot⟩ := a
    have hspot : 0 < len → spot = none := fun h0 => by
      obtain ⟨cs0, h01, h02⟩ := hall 0 (Nat.lt_of_lt_of_le h0 hlc)
      obtain ⟨s0, rfl, _⟩ := hr h02
      rw [hc] at h01
      obtain ⟨_, hl1, hc0'⟩ := World.cells?_some h01
      have := hc0' 0 hc0
      have hz : (row s0)[0]? = some (row s0)[0] := List.getElem?_eq_getElem (by rw [hlen]; exact hc0)
      rw [hz] at this
      simpa [Addr.add] using World.cell?_spot this
    obtain ⟨f, hf⟩ := choose_n (R := fun i (s : α) => R s (D i) ∧ ∀ k u, (row s)[k]? = some u → W.cell? ⟨b, off + i * c + k, none⟩ = some u) z (fun i hi => by
      obtain ⟨cs', h1, h2⟩ := hall i (show i < m from Nat.lt_of_lt_of_le (show i < len from hi) hlc)
      obtain ⟨s, rfl, hs⟩ := hr h2
      rw [hc] at h1
      obtain ⟨_, _, hcell⟩ := World.cells?_some h1
      have hsp := hspot (by omega)
      subst hsp
      refine ⟨s, hs, fun k u hk => ?_⟩
      have hk5 : k < c := by
        rcases Nat.lt_or_ge k c with h | h
        · exact h
        · rw [List.getElem?_eq_none (by rw [hlen]; exact h)] at hk; cases hk
      have := hcell k hk5
      rw [add_add, add_plain] at this
      rw [← hk, ← this, Nat.add_assoc])
    refine ⟨some ⟨b, off, spot⟩, m, (List.range len).map f, by simp, fun j hj => ?_, .inr ⟨_, _, rfl, by simp, fun s hs => ?_⟩⟩
    · have hj' : j < len := by simpa using hj
      have hsp := hspot (by omega)
      subst hsp
      refine ⟨b, off, rfl, ?_⟩
      simp only [List.getElem_map, List.getElem_range]
      exact (hf j hj').2
    · obtain ⟨i, hi, rfl⟩ := List.mem_map.1 hs
      exact ⟨D i, List.mem_map.2 ⟨i, hi, rfl⟩, (hf i (by simpa using hi)).1⟩
def srmRow (s : Srm) : List Value := [s.st, s.tv]
/-- What a source's reading tells of it. -/
def SrmR (W : World) (s : Srm) (d : DataW H) : Prop :=
  (∃ sp sn sc, s.st = .slice sp sn sc) ∧ RdTp W s.tv s.ts ∧ ∃ d0 d1, d = .agg [d0, d1] ∧ ((d1 = .nil ∧ s.ts = []) ∨ ∃ es sp, d1 = .slice es sp ∧ es.length = s.ts.length)
theorem srm_cells {n : Nat} {cs : List Value} {x : DataW H × List MemPlace} (h : DataW.trod enc Tryd.prog W 0 (fun _ => true) true n 33 cs = some x) : ∃ s : Srm, cs = srmRow s ∧ SrmR W s x.1 := by
  obtain ⟨y0, y1, m, rfl, hl, h0, h1⟩ := trod_struct2 Tryd.underlying33 h
  have hl2 : cs.length = 2 := hl.trans kO
  match cs, hl2 with
  | [c0, c1], _ =>
    simp [kD, kL] at h0 h1
    obtain ⟨p0, l0, k0, e0⟩ := slice_cell Tryd.underlying30 h0
    obtain ⟨pa, cap, ts, e1, hc, hd⟩ := rows_read Tryd.underlying31 kT (by decide) tpz tpcRow (fun _ _ => True) (fun h => by obtain ⟨t, ht⟩ := tpc_cells h; exact ⟨t, ht, trivial⟩) (fun _ => rfl) h1
    refine ⟨⟨c0, c1, ts⟩, rfl, ⟨_, _, _, e0⟩, ⟨pa, cap, e1, hc⟩, _, _, rfl, ?_⟩
    rcases hd with ⟨e, h2⟩ | ⟨es, sp, e, h2, _⟩
    · exact .inl ⟨e, h2⟩
    · exact .inr ⟨es, sp, e, h2⟩
/-- What the sources' reading tells of their lengths. -/
def SrD (d : DataW H) (l : List Srm) : Prop :=
  (d = .nil ∧ l = []) ∨ ∃ es sp, d = .slice es sp ∧ es.length = l.length ∧ ∀ s ∈ l, ∃ d ∈ es, ∃ d0 d1, d = .agg [d0, d1] ∧ ((d1 = .nil ∧ s.ts = []) ∨ ∃ es sp, d1 = .slice es sp ∧ es.length = s.ts.length)
theorem srcs_read {v : Value} {d : DataW H} {p : List MemPlace} (h : DataW.Trod enc Tryd.prog W 0 (fun _ => true) true 22 v d p) (hv : ∃ pa len cap, v = .slice pa len cap) :
    ∃ l : List Srm, RdSr W v l ∧ SrD d l := by
  obtain ⟨pa, len, cap, rfl⟩ := hv
  obtain ⟨n, hn⟩ := h
  have hn' : DataW.trod enc Tryd.prog W 0 (fun _ => true) true n 22 [.slice pa len cap] = some (d, p) := hn
  obtain ⟨pa', cap', l, e, hc, hd⟩ := rows_read Tryd.underlying22 kO (by decide) srz srmRow (fun s d => SrmR W s d) srm_cells (fun _ => rfl) hn'
  refine ⟨l, ⟨pa', cap', e, fun j hj => ?_⟩, ?_⟩
  · obtain ⟨b, off, e2, hc2⟩ := hc j hj
    have hm : l[j] ∈ l := List.getElem_mem hj
    have hR : ∃ d : DataW H, SrmR W l[j] d := by
      rcases hd with ⟨_, h2⟩ | ⟨es, sp, _, _, h3⟩
      · simp [h2] at hj
      · obtain ⟨d', _, h4⟩ := h3 _ hm
        exact ⟨d', h4⟩
    obtain ⟨d', h1, h2, _⟩ := hR
    exact ⟨b, off, e2, h1, hc2 0 _ rfl, hc2 1 _ rfl, h2⟩
  · rcases hd with ⟨e1, h2⟩ | ⟨es, sp, e1, h2, h3⟩
    · exact .inl ⟨e1, h2⟩
    · refine .inr ⟨es, sp, e1, h2, fun s hs => ?_⟩
      obtain ⟨d', hd', _, _, h4⟩ := h3 s hs
      exact ⟨d', hd', h4⟩
end
theorem srcs_reach {H : Type} {d : DataW H} {l : List Srm} {ts : List TypeId} {ds : List (DataW H)} {j : Nat} (h : (DataW.weightsEach Tryd.prog ts ds).all (· ≤ reachBytes) = true) (ht : ts[j]? = some 22) (hd : ds[j]? = some d)
    (hl : SrD d l) : l.length ≤ 4611686018427387904 ∧ ∀ s ∈ l, s.ts.length ≤ 140737488355328 := by
  have hw := wEach_at h ht hd
  rcases hl with ⟨_, rfl⟩ | ⟨es, sp, rfl, he, hs⟩
  · exact ⟨by simp, fun s hs => absurd hs (by simp)⟩
  · obtain ⟨h1, h2⟩ := w_slice Tryd.underlying22 hw
    rw [show Tryd.prog.bytesOf 33 = 48 by kernel_rfl] at h1
    have h1' : (es.length + sp.length) * 48 ≤ 140737488351232 := of_decide_eq_true h1
    refine ⟨by omega, fun s hsm => ?_⟩
    obtain ⟨d', hd', d0, d1, rfl, h3⟩ := hs s hsm
    rcases h3 with ⟨_, e⟩ | ⟨es2, sp2, rfl, e⟩
    · rw [e]; simp
    · have h4 := wEach_at (j := 1) (w_struct Tryd.underlying33 (h2 _ hd')) rfl rfl
      obtain ⟨h5, _⟩ := w_slice Tryd.underlying31 h4
      rw [show Tryd.prog.bytesOf 38 = 128 by kernel_rfl] at h5
      have h5' : (es2.length + sp2.length) * 128 ≤ 140737488351232 := of_decide_eq_true h5
      omega
end Go.Proofs.YtjgcbobalmmjkaaDoor
