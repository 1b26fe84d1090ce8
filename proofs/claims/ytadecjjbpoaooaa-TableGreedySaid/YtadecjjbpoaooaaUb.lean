/- Layer 12: glyphs, lines and columns in memory; rows of them that a call makes. -/
import Derived.Test.YtadecjjbpoaooaaProg
import Derived.Test.YtadecjjbpoaooaaUa
import Derived.WalkKit
import Derived.Lib.Hide
import Derived.IntWalk
import Derived.Laws.OwnMore
import Derived.Deep.AppendLies
import Derived.Below
import Derived.BigQuiet
import Derived.Deep.QuietTactic
import Derived.Maps.OwnSet
import Derived.Maps.OwnOps
import Derived.Maps.AppendAt
import Derived.WalkMore
import Derived.Lib.QuietBelow
namespace Go.Proofs.Ytadecjjbpoaooaa.Tb
open Go.RowKit Go.Maps
set_option linter.unusedVariables false

def SaysL (v : Value) (w : World) (e : Ending) (w' : World) : Prop := e = .returned v ∧ Below w.heap.size w w'
theorem cellInL {w : World} {a : Addr} {v : Value} (h : w.cell? a = some v) : a.block < w.heap.size := World.block_lt_of_cell? w _ h
theorem own_base {W : World} {base : Nat} {e : TypeId} {size : Nat} {v : Value} {n : Nat} {xs : List Value} (h : W.ownsRow base e size v n xs) {c : Nat} (hc : v.ownBlock = some c) : base ≤ c ∧ c < W.heap.size := h.lt c hc
theorem own_stays {W W' : World} {base : Nat} {e : TypeId} {size : Nat} {v : Value} {n : Nat} {xs : List Value} (h : W.ownsRow base e size v n xs) (hk : ∀ c, v.ownBlock = some c → W'.heap[c]? = W.heap[c]?) : W'.ownsRow base e size v n xs := by
  refine ⟨h.1, ?_⟩
  rcases h.2 with h0 | ⟨g, cap, cur, h1, h2, h3, h4⟩
  · exact .inl h0
  · exact .inr ⟨g, cap, cur, h1, h2, (hk g (by rw [h1]; rfl)).trans h3, h4⟩
theorem own_below {W W' : World} {base : Nat} {e : TypeId} {size : Nat} {v : Value} {n : Nat} {xs : List Value} (h : W.ownsRow base e size v n xs) (hb : Below W.heap.size W W') : W'.ownsRow base e size v n xs :=
  own_stays h fun c hc => hb.block c (own_base h hc).2
theorem own_ne {W : World} {b1 b2 : Nat} {e1 e2 : TypeId} {s1 s2 : Nat} {v1 v2 : Value} {n1 n2 : Nat} {x1 x2 : List Value} (h1 : W.ownsRow b1 e1 s1 v1 n1 x1) (h2 : W.ownsRow b2 e2 s2 v2 n2 x2) (hne : e1 ≠ e2) {c : Nat} (hc : v1.ownBlock = some c) : v2.ownBlock ≠ some c := by
  intro hd
  rcases h1.2 with ⟨rfl, _⟩ | ⟨g, cap, cur, rfl, _, hg, _⟩
  · simp [Value.ownBlock] at hc
  · rcases h2.2 with ⟨rfl, _⟩ | ⟨g2, cap2, cur2, rfl, _, hg2, _⟩
    · simp [Value.ownBlock] at hd
    · obtain rfl : g = c := by simpa [Value.ownBlock] using hc
      obtain rfl : g2 = g := by simpa [Value.ownBlock] using hd
      rw [hg] at hg2
      injection hg2 with h
      injection h with _ h
      exact hne h
theorem own_not {W : World} {M : Nat} {base : Nat} {e T : TypeId} {size n : Nat} {v : Value} {xs : List Value} {cs : Array Value} {fr : Nat × Nat} (h : W.ownsRow base e size v n xs) (hM : W.heap[M]? = some (.cells cs T fr)) (he : e ≠ T) : v.ownBlock ≠ some M := by
  intro hd
  rcases h.2 with ⟨rfl, _⟩ | ⟨g, cap, cur, rfl, _, hg, _⟩
  · simp [Value.ownBlock] at hd
  · obtain rfl : g = M := by simpa [Value.ownBlock] using hd
    rw [hM] at hg
    injection hg with h
    injection h with _ h
    exact he h.symm
theorem own_lower {W : World} {base base' : Nat} {e : TypeId} {size : Nat} {v : Value} {n : Nat} {xs : List Value} (h : W.ownsRow base e size v n xs) (hb : base' ≤ base) : W.ownsRow base' e size v n xs := by
  refine ⟨h.1, ?_⟩
  rcases h.2 with h0 | ⟨g, cap, cur, h1, h2, h3⟩
  · exact .inl h0
  · exact .inr ⟨g, cap, cur, h1, Nat.le_trans hb h2, h3⟩
theorem lenL {w : World} {base : Nat} {e : TypeId} {size : Nat} {v : Value} {n : Nat} {xs : List Value} (h : w.ownsRow base e size v n xs) : ∃ (p : Option Addr) (c : Nat), v = .slice p n c := by
  rcases h.2 with ⟨rfl, h0⟩ | ⟨g, cap, cur, rfl, _⟩
  · exact ⟨none, 0, by rw [h0]⟩
  · exact ⟨_, _, rfl⟩
theorem own_one {w : World} {v : Value} {base : Nat} {e : TypeId} {size n : Nat} {xs : List Value} (h : w.ownsRow base e size v n xs) : v.oneCell' = true := by
  obtain ⟨p, c, rfl⟩ := lenL h
  rfl
theorem cells_newL (w : World) (cs : Array Value) (t : TypeId) (j : Nat) (u : Value) (h : cs.toList[j]? = some u) : (w.alloc (.cells cs t)).cell? ((⟨w.heap.size, 0, none⟩ : Addr).add j) = some u := by
  rw [Addr.add_lit, Nat.zero_add, cell_of_row _ _ _ _ _ _ (heap_alloc_new w _)]
  rw [← Array.getElem?_toList]
  exact h
/-- A glyph's value, its cells, its cells in memory. -/
def glV (g : Gl) : Value := .agg #[.string g.t, .int .i64 g.wd, .int .i64 g.at_, .int .i64 g.co, .int .i64 g.lk]
def glRow (g : Gl) : List Value := [.string g.t, .int .i64 g.wd, .int .i64 g.at_, .int .i64 g.co, .int .i64 g.lk]
def boxG (g : Gl) : Obj := .cells #[.string g.t, .int .i64 g.wd, .int .i64 g.at_, .int .i64 g.co, .int .i64 g.lk] 40
def GlIs (W : World) (b o : Nat) (g : Gl) : Prop :=
  W.cell? ⟨b, o, none⟩ = some (.string g.t) ∧ W.cell? ⟨b, o + 1, none⟩ = some (.int .i64 g.wd) ∧ W.cell? ⟨b, o + 2, none⟩ = some (.int .i64 g.at_) ∧ W.cell? ⟨b, o + 3, none⟩ = some (.int .i64 g.co) ∧ W.cell? ⟨b, o + 4, none⟩ = some (.int .i64 g.lk)
/-- A flow, a line in memory, in blocks that P holds of. -/
def RdG (P : Nat → Prop) (w : World) (v : Value) (l : List Gl) : Prop :=
  ∃ (pa : Option Addr) (cap : Nat), v = .slice pa l.length cap ∧ l.length ≤ cap ∧ cap ≤ maxLen ∧ ∀ j (hj : j < l.length), ∃ b off, pa = some ⟨b, off, none⟩ ∧ P b ∧ GlIs w b (off + j * 5) l[j]
section
variable {P Q : Nat → Prop} {w w' : World} {v : Value} {l : List Gl}
theorem GlIs.keep {b o : Nat} {x : Gl} (h : GlIs w b o x) (hk : ∀ a : Addr, a.block = b → w'.cell? a = w.cell? a) : GlIs w' b o x :=
  ⟨(hk ⟨b, o, none⟩ rfl).trans h.1, (hk ⟨b, o + 1, none⟩ rfl).trans h.2.1, (hk ⟨b, o + 2, none⟩ rfl).trans h.2.2.1, (hk ⟨b, o + 3, none⟩ rfl).trans h.2.2.2.1, (hk ⟨b, o + 4, none⟩ rfl).trans h.2.2.2.2⟩
theorem RdG.keep (h : RdG P w v l) (hk : ∀ a : Addr, P a.block → a.block < w.heap.size → w'.cell? a = w.cell? a) : RdG P w' v l := by
  obtain ⟨pa, cap, e, h1, h2, h4⟩ := h
  refine ⟨pa, cap, e, h1, h2, fun j hj => ?_⟩
  obtain ⟨b, off, e, hp, hc⟩ := h4 j hj
  exact ⟨b, off, e, hp, hc.keep fun a ha => hk a (by rw [ha]; exact hp) (by rw [ha]; exact cellInL hc.1)⟩
theorem RdG.move (h : RdG P w v l) (hk : ∀ b, P b → b < w.heap.size → w'.heap[b]? = w.heap[b]? ∧ Q b) : RdG Q w' v l := by
  obtain ⟨pa, cap, e, h1, h2, h4⟩ := h
  refine ⟨pa, cap, e, h1, h2, fun j hj => ?_⟩
  obtain ⟨b, off, e, hp, hc⟩ := h4 j hj
  have hb := hk b hp (cellInL hc.1)
  exact ⟨b, off, e, hb.2, hc.keep fun a ha => World.cell?_of_block (by rw [ha]; exact hb.1)⟩
theorem RdG.below (h : RdG P w v l) (hb : Below w.heap.size w w') : RdG P w' v l := h.keep fun _ _ ha => hb.cell ha
theorem RdG.imp (h : RdG P w v l) (hq : ∀ b, b < w.heap.size → P b → Q b) : RdG Q w v l := by
  obtain ⟨pa, cap, e, h1, h2, h4⟩ := h
  refine ⟨pa, cap, e, h1, h2, fun j hj => ?_⟩
  obtain ⟨b, off, e, hp, hc⟩ := h4 j hj
  exact ⟨b, off, e, hq b (cellInL hc.1) hp, hc⟩
theorem RdG.form (h : RdG P w v l) : ∃ (pa : Option Addr) (cap : Nat), v = .slice pa l.length cap ∧ l.length ≤ cap ∧ cap ≤ maxLen := by
  obtain ⟨pa, cap, e, h1, h2, _⟩ := h
  exact ⟨pa, cap, e, h1, h2⟩
theorem RdG.at_ {pa : Option Addr} {n cap : Nat} (h : RdG P w (.slice pa n cap) l) {j : Nat} (hj : j < l.length) : ∃ b off, pa = some ⟨b, off, none⟩ ∧ P b ∧ GlIs w b (off + j * 5) l[j] := by
  obtain ⟨pa', cap', e, _, _, h4⟩ := h
  cases e
  exact h4 j hj
theorem RdG.nil (w : World) (c : Nat) (hc : c ≤ maxLen) (pa : Option Addr) : RdG P w (.slice pa 0 c) [] := ⟨pa, c, rfl, Nat.zero_le _, hc, fun j hj => absurd hj (by simp)⟩
/-- What is left behind the first ones. -/
theorem RdG.drop {b off n cap : Nat} (h : RdG P w (.slice (some ⟨b, off, none⟩) n cap) l) (k : Nat) (hk : k ≤ n) : RdG P w (.slice (some ⟨b, off + k * 5, none⟩) (n - k) (cap - k)) (l.drop k) := by
  obtain ⟨pa, cap', e, h1, h2, h4⟩ := h
  cases e
  refine ⟨_, _, by rw [List.length_drop], by rw [List.length_drop]; omega, by omega, fun j hj => ?_⟩
  rw [List.length_drop] at hj
  obtain ⟨b', off', e, hp, hc⟩ := h4 (k + j) (by omega)
  cases e
  refine ⟨_, _, rfl, hp, ?_⟩
  rw [show off + k * 5 + j * 5 = off + (k + j) * 5 by omega, List.getElem_drop]
  exact hc
theorem RdG.none_nil {n cap : Nat} (h : RdG P w (.slice none n cap) l) : l = [] := by
  obtain ⟨pa, cap', e, _, _, h4⟩ := h
  cases e
  rcases Nat.eq_zero_or_pos l.length with h0 | h0
  · exact List.eq_nil_of_length_eq_zero h0
  · obtain ⟨_, _, e, _⟩ := h4 0 h0
    cases e
/-- The first ones. -/
theorem RdG.take {pa : Option Addr} {n cap : Nat} (h : RdG P w (.slice pa n cap) l) (k : Nat) (hk : k ≤ n) : RdG P w (.slice pa k cap) (l.take k) := by
  obtain ⟨pa, cap', e, h1, h2, h4⟩ := h
  cases e
  have hl : (l.take k).length = k := by rw [List.length_take]; omega
  refine ⟨_, _, by rw [hl], by omega, h2, fun j hj => ?_⟩
  obtain ⟨b', off', e, hp, hc⟩ := h4 j (by omega)
  refine ⟨_, _, e, hp, ?_⟩
  rw [List.getElem_take]
  exact hc
end
def rowsG (l : List Gl) : List Value := l.flatMap glRow
theorem glRow_len (r : Gl) : (glRow r).length = 5 := rfl
theorem rowsG_len : ∀ l : List Gl, (rowsG l).length = l.length * 5
  | [] => rfl
  | r :: l => by
    have := rowsG_len l
    unfold rowsG at this ⊢
    rw [List.flatMap_cons, List.length_append, this, glRow_len, List.length_cons]
    omega
theorem rowsG_at : ∀ (l : List Gl) (j k : Nat) (hj : j < l.length), k < 5 → (rowsG l)[j * 5 + k]? = (glRow l[j])[k]?
  | [], j, k, hj, _ => absurd hj (by simp)
  | r :: l, 0, k, _, hk => by
    unfold rowsG
    rw [List.flatMap_cons, Nat.zero_mul, Nat.zero_add, List.getElem?_append_left (by rw [glRow_len]; exact hk)]
    rfl
  | r :: l, j + 1, k, hj, hk => by
    have h := rowsG_at l j k (by simpa using hj) hk
    unfold rowsG at h ⊢
    rw [List.flatMap_cons, List.getElem?_append_right (by rw [glRow_len]; omega), glRow_len, show (j + 1) * 5 + k - 5 = j * 5 + k by omega, h]
    simp
theorem rowsG_snoc (l : List Gl) (r : Gl) : rowsG (l ++ [r]) = rowsG l ++ glRow r := by simp [rowsG]
theorem rowsG_app (a b : List Gl) : rowsG (a ++ b) = rowsG a ++ rowsG b := by simp [rowsG]
theorem glRow_one (r : Gl) : ∀ u ∈ glRow r, u.oneCell' = true := by
  intro u hr
  simp only [glRow, List.mem_cons, List.not_mem_nil, or_false] at hr
  rcases hr with rfl | rfl | rfl | rfl | rfl <;> rfl
theorem rowsG_one (l : List Gl) : ∀ u ∈ rowsG l, u.oneCell' = true := by
  intro u hu
  obtain ⟨r, hm, hr⟩ := List.mem_flatMap.1 hu
  exact glRow_one r u hr
section
variable {B : Nat} {w w' : World} {v : Value} {l : List Gl}
theorem row_form {n : Nat} (h : w.ownsRow B 40 5 v n (rowsG l)) (hn : n = l.length) {j : Nat} (hj : j < l.length) : ∃ g cap, v = .slice (some ⟨g, 0, none⟩) n cap ∧ B ≤ g ∧ g < w.heap.size ∧ n ≤ cap ∧ cap ≤ maxLen ∧ GlIs w g (j * 5) l[j] := by
  rcases h.2 with ⟨rfl, h0⟩ | ⟨g, cap, cur, rfl, hb, hg, h1, h2, h3, h4⟩
  · omega
  · have c : ∀ k, k < 5 → w.cell? ⟨g, j * 5 + k, none⟩ = (glRow l[j])[k]? := fun k hk => by
      rw [World.ownsRow.cellAt h (j * 5 + k) (by omega), rowsG_at l j k hj hk]
    exact ⟨g, cap, rfl, hb, (Array.getElem?_eq_some_iff.1 hg).1, h1, h2, c 0 (by omega), c 1 (by omega), c 2 (by omega), c 3 (by omega), c 4 (by omega)⟩
/-- A row of the call's own reads as its list. -/
theorem RdG.own {n : Nat} (h : w.ownsRow B 40 5 v n (rowsG l)) (hn : n = l.length) : RdG (fun b => v.ownBlock = some b ∧ B ≤ b) w v l := by
  subst hn
  rcases Nat.eq_zero_or_pos l.length with h0 | h0
  · have : l = [] := List.eq_nil_of_length_eq_zero h0
    subst this
    rcases h.2 with ⟨rfl, _⟩ | ⟨g, cap, cur, rfl, hb, hg, h1, h2, _⟩
    · exact ⟨none, 0, rfl, Nat.le_refl _, Nat.zero_le _, fun i hi => absurd hi (by simp)⟩
    · exact ⟨_, cap, rfl, h1, h2, fun i hi => absurd hi (by simp)⟩
  · obtain ⟨g, cap, rfl, hb, hg, h1, h2, _⟩ := row_form h rfl h0
    refine ⟨_, cap, rfl, h1, h2, fun j hj => ?_⟩
    obtain ⟨g', cap', e, _, _, _, _, hc⟩ := row_form h rfl hj
    cases e
    refine ⟨g, 0, rfl, ⟨rfl, hb⟩, ?_⟩
    rw [Nat.zero_add]
    exact hc
end
/-- Lines in memory. -/
def RdL (P : Nat → Prop) (w : World) (v : Value) (ls : List (List Gl)) : Prop :=
  ∃ (pa : Option Addr) (cap : Nat), v = .slice pa ls.length cap ∧ ls.length ≤ cap ∧ cap ≤ maxLen ∧ ∀ j (hj : j < ls.length), ∃ b off tv, pa = some ⟨b, off, none⟩ ∧ P b ∧ w.cell? ⟨b, off + j, none⟩ = some tv ∧ RdG P w tv ls[j]
section
variable {P Q : Nat → Prop} {w w' : World} {v : Value} {ls : List (List Gl)}
theorem RdL.keep (h : RdL P w v ls) (hk : ∀ a : Addr, P a.block → a.block < w.heap.size → w'.cell? a = w.cell? a) : RdL P w' v ls := by
  obtain ⟨pa, cap, e, h1, h2, h4⟩ := h
  refine ⟨pa, cap, e, h1, h2, fun j hj => ?_⟩
  obtain ⟨b, off, tv, e, hp, hc, hd⟩ := h4 j hj
  exact ⟨b, off, tv, e, hp, (hk ⟨b, off + j, none⟩ hp (cellInL hc)).trans hc, hd.keep hk⟩
theorem RdL.below (h : RdL P w v ls) (hb : Below w.heap.size w w') : RdL P w' v ls := h.keep fun _ _ ha => hb.cell ha
theorem RdL.imp (h : RdL P w v ls) (hq : ∀ b, b < w.heap.size → P b → Q b) : RdL Q w v ls := by
  obtain ⟨pa, cap, e, h1, h2, h4⟩ := h
  refine ⟨pa, cap, e, h1, h2, fun j hj => ?_⟩
  obtain ⟨b, off, tv, e, hp, hc, hd⟩ := h4 j hj
  exact ⟨b, off, tv, e, hq b (cellInL hc) hp, hc, hd.imp hq⟩
theorem RdL.form (h : RdL P w v ls) : ∃ (pa : Option Addr) (cap : Nat), v = .slice pa ls.length cap ∧ ls.length ≤ cap ∧ cap ≤ maxLen := by
  obtain ⟨pa, cap, e, h1, h2, _⟩ := h
  exact ⟨pa, cap, e, h1, h2⟩
theorem RdL.at_ {pa : Option Addr} {n cap : Nat} (h : RdL P w (.slice pa n cap) ls) {j : Nat} (hj : j < ls.length) : ∃ b off pz cz, pa = some ⟨b, off, none⟩ ∧ P b ∧ w.cell? ⟨b, off + j, none⟩ = some (.slice pz ls[j].length cz) ∧ ls[j].length ≤ cz ∧ cz ≤ maxLen ∧ RdG P w (.slice pz ls[j].length cz) ls[j] := by
  obtain ⟨pa', cap', e, _, _, h4⟩ := h
  cases e
  obtain ⟨b, off, tv, e, hp, hc, hd⟩ := h4 j hj
  obtain ⟨pz, cz, rfl, h5, h6⟩ := hd.form
  exact ⟨b, off, pz, cz, e, hp, hc, h5, h6, hd⟩
end
theorem infoG : (Try.prog.info? 40).map (fun i => (i.zero, i.size, i.bytes)) = some (some (.agg #[.string .empty, .int .i64 0, .int .i64 0, .int .i64 0, .int .i64 0]), 5, 48) := by kernel_rfl
theorem infoL : (Try.prog.info? 32).map (fun i => (i.zero, i.size, i.bytes)) = some (some (.slice none 0 0), 1, 24) := by kernel_rfl
theorem infoC : (Try.prog.info? 53).map (fun i => (i.zero, i.size, i.bytes)) = some (some (.agg #[.int .i64 0, .int .i64 0]), 2, 16) := by kernel_rfl
theorem infoI : (Try.prog.info? 3).map (fun i => (i.zero, i.size, i.bytes)) = some (some (.int .i64 0), 1, 8) := by kernel_rfl
/-- Lines that a call has made: a row of the call's own, its lines in blocks that P holds of. -/
structure OwnL (B : Nat) (P : Nat → Prop) (w : World) (v : Value) (ls : List (List Gl)) (vs : List Value) : Prop where
  num : vs.length = ls.length
  row : w.ownsRow B 32 1 v ls.length vs
  line : ∀ j (hj : j < ls.length), RdG P w (vs[j]'(by omega)) ls[j]
theorem rdg_one {P : Nat → Prop} {w : World} {v : Value} {l : List Gl} (h : RdG P w v l) : v.oneCell' = true := by
  obtain ⟨pa, cap, rfl, _⟩ := h
  rfl
section
variable {B : Nat} {P Q : Nat → Prop} {w w' : World} {v : Value} {ls : List (List Gl)} {vs : List Value}
theorem OwnL.nil (w : World) (B : Nat) (P : Nat → Prop) : OwnL B P w (.slice none 0 0) [] [] := ⟨rfl, World.ownsRow_nil _ _ _ _, fun j hj => absurd hj (by simp)⟩
theorem OwnL.one (h : OwnL B P w v ls vs) : ∀ u ∈ vs, u.oneCell' = true := by
  intro u hu
  obtain ⟨j, hj, rfl⟩ := List.mem_iff_getElem.1 hu
  exact rdg_one (h.line j (by have := h.num; omega))
theorem OwnL.keep (h : OwnL B P w v ls vs) (h1 : ∀ c, v.ownBlock = some c → w'.heap[c]? = w.heap[c]?) (hk : ∀ a : Addr, P a.block → a.block < w.heap.size → w'.cell? a = w.cell? a) : OwnL B P w' v ls vs :=
  ⟨h.num, own_stays h.row h1, fun j hj => (h.line j hj).keep hk⟩
theorem OwnL.imp (h : OwnL B P w v ls vs) (hq : ∀ b, b < w.heap.size → P b → Q b) : OwnL B Q w v ls vs := ⟨h.num, h.row, fun j hj => (h.line j hj).imp hq⟩
theorem OwnL.below (h : OwnL B P w v ls vs) (hb : Below w.heap.size w w') : OwnL B P w' v ls vs := ⟨h.num, own_below h.row hb, fun j hj => (h.line j hj).below hb⟩
theorem OwnL.rd (h : OwnL B P w v ls vs) (hP : ∀ b, B ≤ b → v.ownBlock = some b → Q b) (hq : ∀ b, b < w.heap.size → P b → Q b) : RdL Q w v ls := by
  rcases h.row.2 with ⟨rfl, h0⟩ | ⟨g, cap, cur, rfl, hb, hg, h1, h2, h3, h4⟩
  · exact ⟨none, 0, by rw [h0], by omega, Nat.zero_le _, fun i hi => absurd hi (by omega)⟩
  · refine ⟨_, cap, rfl, h1, h2, fun j hj => ⟨g, 0, vs[j]'(by have := h.num; omega), rfl, hP g hb rfl, ?_, (h.line j hj).imp hq⟩⟩
    have := World.ownsRow.cellAt h.row j (by omega)
    rw [Nat.zero_add, this]
    simp
/-- Behind the append of a line. -/
theorem OwnL.push (h : OwnL B P w v ls vs) {u : Value} {l : List Gl} {v' : Value} (hu : RdG Q w' u l) (h1 : w'.ownsRow B 32 1 v' (ls.length + 1) (vs ++ [u])) (hk : ∀ b, P b → b < w.heap.size → w'.heap[b]? = w.heap[b]? ∧ Q b) : OwnL B Q w' v' (ls ++ [l]) (vs ++ [u]) := by
  refine ⟨by simp [h.num], by rw [List.length_append]; exact h1, fun j hj => ?_⟩
  by_cases hjl : j < ls.length
  · have e1 : (ls ++ [l])[j] = ls[j] := List.getElem_append_left hjl
    have e2 : (vs ++ [u])[j]'(by simp [h.num]; omega) = vs[j]'(by have := h.num; omega) := List.getElem_append_left (by have := h.num; omega)
    rw [e1, e2]
    exact (h.line j hjl).move hk
  · have hje : j = ls.length := by simp at hj; omega
    have e1 : (ls ++ [l])[j] = l := by simp [hje]
    have e2 : (vs ++ [u])[j]'(by simp [h.num]; omega) = u := by simp [hje, ← h.num]
    rw [e1, e2]
    exact hu
end
end Go.Proofs.Ytadecjjbpoaooaa.Tb
