/- The program's New of layer 7, ts far ts the sort: what it holds from round to round. -/
import Derived.Test.YtoeknophfcfahaaGreatDoorNp
import Derived.Deep.RegionLaw
import Derived.Deep.AppendLies
import Derived.Deep.Onto
namespace Go.Proofs.YtoeknophfcfahaaGreatDoor
open Go.RowKit Go.Maps
set_option linter.unusedVariables false

theorem infoS : (Tryz.prog.info? 9).map (fun i => (i.zero, i.size, i.bytes)) = some (some (.string .empty), 1, 16) := by kernel_rfl
theorem infoI : (Tryz.prog.info? 3).map (fun i => (i.zero, i.size, i.bytes)) = some (some (.int .i64 0), 1, 8) := by kernel_rfl
theorem textsV_app (a b : List ByteArray) : textsV (a ++ b) = textsV a ++ textsV b := by simp [textsV]
theorem numsV_app (a b : List Nat) : numsV (a ++ b) = numsV a ++ numsV b := by simp [numsV]
theorem textsV_one (a : List ByteArray) : ∀ u ∈ textsV a, u.oneCell' = true := by
  intro u hu
  obtain ⟨x, _, rfl⟩ := List.mem_map.1 hu
  rfl
theorem numsV_one (a : List Nat) : ∀ u ∈ numsV a, u.oneCell' = true := by
  intro u hu
  obtain ⟨x, _, rfl⟩ := List.mem_map.1 hu
  rfl

/-- A copy of a list of texts. -/
theorem cloneT_pro (xs : List ByteArray) (v : Value) (w : World) (h : RdT w v xs) (hx : xs.length * 16 ≤ 140737488355328) :
    Calls Tryz.prog 28 #[v] w fun e w' => ∃ v', e = .returned v' ∧ w'.ownsRow w.heap.size 9 1 v' xs.length (textsV xs) ∧ Below w.heap.size w w' := by
  obtain ⟨pa, cap, rfl, h1, h2, h4⟩ := h
  rcases Nat.eq_zero_or_pos xs.length with h0 | h0
  · have hx0 : xs = [] := List.eq_nil_of_length_eq_zero h0
    subst hx0
    cases pa with
    | none => exact (Tryz.slices_Clone_string_nil 0 cap w).mono fun _ _ ⟨he, hw⟩ => ⟨_, he, by rw [hw]; exact World.ownsRow_nil _ _ _ _, by rw [hw]; exact Below.refl _ _⟩
    | some a => exact (Tryz.slices_Clone_string_zero a cap w).mono fun _ _ ⟨v', he, ho, _, hb⟩ => ⟨v', he, ho, hb⟩
  · obtain ⟨b, off, rfl, _⟩ := h4 0 h0
    refine (Tryz.slices_Clone_string b off xs.length cap xs w (Nat.le_refl _) hx fun j hj => ?_).mono fun _ _ ⟨v', he, ho, _, hb⟩ => ⟨v', he, ?_, hb⟩
    · obtain ⟨b', off', e, hc⟩ := h4 j hj
      cases e
      rw [hc]; simp [hj]
    · rw [List.take_length] at ho; exact ho
/-- A copy of a list of numbers. -/
theorem cloneI_pro (xs : List Nat) (v : Value) (w : World) (h : RdI w v xs) (hx : xs.length * 8 ≤ 140737488355328) :
    Calls Tryz.prog 34 #[v] w fun e w' => ∃ v', e = .returned v' ∧ w'.ownsRow w.heap.size 3 1 v' xs.length (numsV xs) ∧ Below w.heap.size w w' := by
  obtain ⟨pa, cap, rfl, h1, h2, h4⟩ := h
  rcases Nat.eq_zero_or_pos xs.length with h0 | h0
  · have hx0 : xs = [] := List.eq_nil_of_length_eq_zero h0
    subst hx0
    cases pa with
    | none => exact (Tryz.slices_Clone_int_nil 0 cap w).mono fun _ _ ⟨he, hw⟩ => ⟨_, he, by rw [hw]; exact World.ownsRow_nil _ _ _ _, by rw [hw]; exact Below.refl _ _⟩
    | some a => exact (Tryz.slices_Clone_int_zero a cap w).mono fun _ _ ⟨v', he, ho, _, hb⟩ => ⟨v', he, ho, hb⟩
  · obtain ⟨b, off, rfl, _⟩ := h4 0 h0
    refine (Tryz.slices_Clone_int b off xs.length cap (xs.map fun (z : Nat) => (z : Int)) w (by simp) hx fun j hj => ?_).mono fun _ _ ⟨v', he, ho, _, hb⟩ => ⟨v', he, ?_, hb⟩
    · have hj' : j < xs.length := by simpa using hj
      obtain ⟨b', off', e, hc⟩ := h4 j hj'
      cases e
      rw [hc]; simp [hj']
    · rw [List.take_of_length_le (by simp)] at ho
      simpa [numsV, Function.comp_def] using ho

/-- The row that is owned lies in no block that holds another kind of cells. -/
theorem own_not {W : World} {base : Nat} {e : TypeId} {size : Nat} {v : Value} {n : Nat} {xs : List Value} (h : W.ownsRow base e size v n xs) {c : Nat} {o : Obj} (hc : W.heap[c]? = some o) (hne : ∀ cur fr, o ≠ .cells cur e fr) : v.ownBlock ≠ some c := by
  intro ec
  rcases h.2 with ⟨rfl, _⟩ | ⟨g, cap, cur, rfl, _, hgb, _⟩
  · simp [Value.ownBlock] at ec
  · obtain rfl : g = c := by simpa [Value.ownBlock] using ec
    rw [hc] at hgb
    cases hgb
    exact hne _ _ rfl
theorem own_base {W : World} {base : Nat} {e : TypeId} {size : Nat} {v : Value} {n : Nat} {xs : List Value} (h : W.ownsRow base e size v n xs) {c : Nat} (hc : v.ownBlock = some c) : base ≤ c ∧ c < W.heap.size := by
  rcases h.2 with ⟨rfl, _⟩ | ⟨g, cap, cur, rfl, hb, hgb, _⟩
  · simp [Value.ownBlock] at hc
  · obtain rfl : g = c := by simpa [Value.ownBlock] using hc
    exact ⟨hb, (Array.getElem?_eq_some_iff.1 hgb).1⟩
/-- A row that is owned stays, where its block does. -/
theorem own_stays {W W' : World} {base : Nat} {e : TypeId} {size : Nat} {v : Value} {n : Nat} {xs : List Value} (h : W.ownsRow base e size v n xs) (hk : ∀ c, v.ownBlock = some c → W'.heap[c]? = W.heap[c]?) : W'.ownsRow base e size v n xs := by
  refine ⟨h.1, ?_⟩
  rcases h.2 with h0 | ⟨g, cap, cur, rfl, hb, hgb, h3⟩
  · exact .inl h0
  · exact .inr ⟨g, cap, cur, rfl, hb, (hk g rfl).trans hgb, h3⟩

/-- What New holds: the table in block M + 1, over the map in block M, found through the box in block M + 2. -/
structure NS (w1 : World) (v : Value) (ks ts : List ByteArray) (ns : List Nat) (gv sv : Value) (W : World) : Prop where
  cB : W.heap[w1.heap.size + 1]? = some (.cells #[v, gv, .map (some w1.heap.size), sv] 65 (0, 0))
  cT : W.heap[w1.heap.size + 1 + 1]? = some (.cells #[.pointer (some ⟨w1.heap.size + 1, 0, none⟩)] 24 (0, 0))
  og : W.ownsRow w1.heap.size 9 1 gv ts.length (textsV ts)
  os : W.ownsRow w1.heap.size 3 1 sv ns.length (numsV ns)
  mp : MapIs W w1.heap.size ks
  bl : Below w1.heap.size w1 W
namespace NS
variable {w1 : World} {v : Value} {ks ts : List ByteArray} {ns : List Nat} {gv sv : Value} {W : World}
theorem size (h : NS w1 v ks ts ns gv sv W) : w1.heap.size + 1 + 1 < W.heap.size := (Array.getElem?_eq_some_iff.1 h.cT).1
theorem drew (h : NS w1 v ks ts ns gv sv W) : NS w1 v ks ts ns gv sv W.drew := ⟨h.cB, h.cT, h.og, h.os, h.mp.block rfl, h.bl.drew⟩
theorem below {W' : World} (h : NS w1 v ks ts ns gv sv W) (hb : Below W.heap.size W W') : NS w1 v ks ts ns gv sv W' :=
  have hz := h.size
  ⟨(hb.block _ (by omega)).trans h.cB, (hb.block _ (by omega)).trans h.cT, own_stays h.og fun c e => hb.block _ (own_base h.og e).2, own_stays h.os fun c e => hb.block _ (own_base h.os e).2, h.mp.below hb, h.bl.trans (hb.mono (by omega))⟩
theorem mapNot (h : NS w1 v ks ts ns gv sv W) : ∃ es ck, W.heap[w1.heap.size]? = some (.map es ck) := by
  obtain ⟨D, ⟨es, ck, h1, _⟩, _⟩ := h.mp
  exact ⟨es, ck, h1⟩
theorem mapped {W' : World} {ks' : List ByteArray} (h : NS w1 v ks ts ns gv sv W) (hg : W.grownBy W' (some w1.heap.size)) (hm : MapIs W' w1.heap.size ks') : NS w1 v ks' ts ns gv sv W' := by
  obtain ⟨es, ck, hM⟩ := h.mapNot
  have hz := h.size
  have k : ∀ c, c < W.heap.size → c ≠ w1.heap.size → W'.heap[c]? = W.heap[c]? := fun c hc hne => hg.block c hc (by simpa using hne)
  refine ⟨(k _ (by omega) (by omega)).trans h.cB, (k _ (by omega) (by omega)).trans h.cT, own_stays h.og fun c e => k c (own_base h.og e).2 ?_, own_stays h.os fun c e => k c (own_base h.os e).2 ?_, hm, ?_⟩
  · rintro rfl
    exact own_not h.og hM (fun cur fr e => by cases e) e
  · rintro rfl
    exact own_not h.os hM (fun cur fr e => by cases e) e
  · exact h.bl.grown hg (by omega) (fun r e => by cases e; exact Nat.le_refl _)
theorem c0 (h : NS w1 v ks ts ns gv sv W) : W.cell? ⟨w1.heap.size + 1, 0, none⟩ = some v := by simp [World.cell?, h.cB]
theorem c1 (h : NS w1 v ks ts ns gv sv W) : W.cell? ⟨w1.heap.size + 1, 1, none⟩ = some gv := by simp [World.cell?, h.cB]
theorem c2 (h : NS w1 v ks ts ns gv sv W) : W.cell? ⟨w1.heap.size + 1, 2, none⟩ = some (.map (some w1.heap.size)) := by simp [World.cell?, h.cB]
theorem c3 (h : NS w1 v ks ts ns gv sv W) : W.cell? ⟨w1.heap.size + 1, 3, none⟩ = some sv := by simp [World.cell?, h.cB]
theorem cT0 (h : NS w1 v ks ts ns gv sv W) : W.cell? ⟨w1.heap.size + 1 + 1, 0, none⟩ = some (.pointer (some ⟨w1.heap.size + 1, 0, none⟩)) := by simp [World.cell?, h.cT]
theorem f1 (h : NS w1 v ks ts ns gv sv W) : W.frozen? ⟨w1.heap.size + 1, 1, none⟩ = false := by simp [World.frozen?, h.cB]
theorem f3 (h : NS w1 v ks ts ns gv sv W) : W.frozen? ⟨w1.heap.size + 1, 3, none⟩ = false := by simp [World.frozen?, h.cB]
end NS
theorem setCell_row {W : World} {b : Nat} {cs : Array Value} {T : TypeId} (h : W.heap[b]? = some (.cells cs T (0, 0))) (k : Nat) (u : Value) : (W.setCell ⟨b, k, none⟩ u).heap[b]? = some (.cells (cs.setIfInBounds k u) T (0, 0)) := by
  simp only [World.setCell, Array.getElem?_modify, h]
  simp
end Go.Proofs.YtoeknophfcfahaaGreatDoor
