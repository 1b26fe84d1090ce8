/- Lists that came in: of numbers, of texts, of lists of bytes; what is taken where it was put. -/
import Derived.Test.YtcgeldmbndaocaaDoorMore2
import Derived.Test.YtcgeldmbndaocaaDoorPut2
import Derived.Test.YtcgeldmbndaocaaDoorOBytes
import Derived.Test.YtcgeldmbndaocaaDoorRows
import Derived.Deep.Strs
namespace Go.Proofs.YtcgeldmbndaocaaDoor
open Go.Deep Go.ChangeShapes Go.WideShapes Go.RowKit Go.Maps
set_option linter.unusedVariables false

/-- A list of values, each in one cell. -/
def RdV (w : World) (v : Value) (vs : List Value) : Prop :=
  ∃ (pa : Option Addr) (cap : Nat), v = .slice pa vs.length cap ∧ ∀ j (hj : j < vs.length), ∃ b off, pa = some ⟨b, off, none⟩ ∧ w.cell? ⟨b, off + j, none⟩ = some vs[j]
theorem RdV.below {w w' : World} {v : Value} {vs : List Value} (h : RdV w v vs) (hb : Below w.heap.size w w') : RdV w' v vs := by
  obtain ⟨pa, cap, e, h4⟩ := h
  refine ⟨pa, cap, e, fun j hj => ?_⟩
  obtain ⟨b, off, e, hc⟩ := h4 j hj
  exact ⟨b, off, e, (hb.cell (p := ⟨b, off + j, none⟩) (cell_in hc)).trans hc⟩
/-- How a list's reading tells its length. -/
def Len {H : Type} (d : DataW H) (n : Nat) : Prop := d = .nil ∧ n = 0 ∨ ∃ es sp, d = .slice es sp ∧ es.length = n
theorem bulk_pos {H : Type} : ∀ d : DataW H, 1 ≤ Rows.uptoBulk d := by
  intro d
  cases d with
  | lit l => cases l <;> simp [Rows.uptoBulk]
  | _ => simp [Rows.uptoBulk]
theorem bulk_all {H : Type} : ∀ ds : List (DataW H), ds.length ≤ Rows.uptoBulkAll ds
  | [] => by simp [Rows.uptoBulkAll]
  | d :: r => by
    have := bulk_pos d
    have := bulk_all r
    simp only [Rows.uptoBulkAll, List.length_cons]
    omega
theorem bulk_mem {H : Type} : ∀ (ds : List (DataW H)) (d : DataW H), d ∈ ds → Rows.uptoBulk d ≤ Rows.uptoBulkAll ds
  | [], _, h => by cases h
  | e :: r, d, h => by
    simp only [Rows.uptoBulkAll]
    rcases List.mem_cons.1 h with rfl | h
    · omega
    · have := bulk_mem r d h
      omega
theorem len_bulk {H : Type} {d : DataW H} {n m : Nat} (h : Len d n) (hb : Rows.uptoBulk d ≤ m) : n ≤ m := by
  rcases h with ⟨rfl, rfl⟩ | ⟨es, sp, rfl, he⟩
  · omega
  · have := bulk_all es
    simp only [Rows.uptoBulk] at hb
    omega
theorem bytes_bulk {H : Type} {d : DataW H} {l : List UInt8} (h : d = .nil ∧ l = [] ∨ ∃ es sp, d = .slice es sp ∧ es.length = l.length) : l.length ≤ Rows.uptoBulk d := by
  rcases h with ⟨rfl, rfl⟩ | ⟨es, sp, rfl, he⟩
  · simp
  · have := bulk_all es
    simp only [Rows.uptoBulk]
    omega
section
variable {H : Type} {enc : TypeId × Value → H} {W : World}
theorem cells_list {t e : TypeId} {v : Value} {d : DataW H} {p : List MemPlace} (ht : Tryd.prog.underlying t = some (.slice e)) (hc : Tryd.prog.cellsOf e = 1) (h : DataW.Trod enc Tryd.prog W 0 (fun _ => true) true t v d p) (hv : ∃ pa len cap, v = .slice pa len cap) :
    ∃ (len : Nat) (V : Nat → Value) (D : Nat → DataW H), RdV W v ((List.range len).map V) ∧ Len d len ∧ (d = .nil ∨ ∃ sp, d = .slice ((List.range len).map D) sp) ∧ ∀ i, i < len → ∃ n P, DataW.trod enc Tryd.prog W 0 (fun _ => true) true n e [V i] = some (D i, P) := by
  obtain ⟨pa, len, cap, rfl⟩ := hv
  obtain ⟨n, hn⟩ := h
  rcases open_slice1 ht hc hn with ⟨h3, h4⟩ | ⟨a, l, c, m, n', V, D, Pl, h3, _, hlc, hcm, hm, hx, hall⟩
  · simp [Value.cells] at h3
    obtain ⟨rfl, rfl, rfl⟩ := h3
    cases h4
    exact ⟨0, fun _ => undef, fun _ => .nil, ⟨none, 0, rfl, fun j hj => absurd hj (by simp)⟩, .inl ⟨rfl, rfl⟩, .inl rfl, fun i hi => absurd hi (by omega)⟩
  · simp [Value.cells] at h3
    obtain ⟨rfl, rfl, rfl⟩ := h3
    have hmc : m = cap := by simpa using hm
    subst hmc
    cases hx
    refine ⟨len, V, D, ⟨some a, m, by simp, fun j hj => ?_⟩, .inr ⟨_, _, rfl, by simp⟩, .inr ⟨_, rfl⟩, fun i hi => ⟨_, _, (hall i (by omega)).2⟩⟩
    have hj' : j < len := by simpa using hj
    obtain ⟨b, off, spot⟩ := a
    have hspot : spot = none := by
      have := (hall 0 (by omega)).1
      simpa [Addr.add] using World.cell?_spot this
    subst hspot
    have := (hall j (by omega)).1
    rw [add_plain] at this
    exact ⟨b, off, rfl, by simpa using this⟩
theorem choose_list {α : Type} {n : Nat} {R : Nat → α → Prop} (z : α) (h : ∀ i, i < n → ∃ a, R i a) : ∃ f : Nat → α, ∀ i, i < n → R i (f i) := by
  have : ∀ i, ∃ a, i < n → R i a := by
    intro i
    by_cases hi : i < n
    · obtain ⟨a, ha⟩ := h i hi
      exact ⟨a, fun _ => ha⟩
    · exact ⟨z, fun h => absurd h hi⟩
  exact ⟨fun i => Classical.choose (this i), fun i hi => Classical.choose_spec (this i) hi⟩
theorem map_range_congr {α : Type} {n : Nat} {f g : Nat → α} (h : ∀ i, i < n → f i = g i) : (List.range n).map f = (List.range n).map g :=
  List.map_congr_left (fun i hi => h i (by simpa using hi))
theorem nums_read {v : Value} {d : DataW H} {p : List MemPlace} (h : DataW.Trod enc Tryd.prog W 0 (fun _ => true) true 58 v d p) (hv : ∃ pa len cap, v = .slice pa len cap) :
    ∃ l : List Nat, (RdV W v (l.map fun (x : Nat) => Value.int .u64 (x : Int)) ∧ ∀ x ∈ l, x < 18446744073709551616) ∧ Len d l.length := by
  obtain ⟨len, V, D, h1, h2, _, h3⟩ := cells_list Tryd.underlying58 (by kernel_rfl) h hv
  obtain ⟨f, hf⟩ := choose_list (R := fun i (x : Nat) => V i = .int .u64 (x : Int) ∧ x < 18446744073709551616) 0 (fun i hi => by
    obtain ⟨n, P, hh⟩ := h3 i hi
    obtain ⟨z, e, _, w⟩ := DataW.trod_int Tryd.underlying23 hh
    simp at e
    have : 0 ≤ z ∧ z ≤ 18446744073709551615 := by simpa [Lit.wf, IntKind.min, IntKind.max, IntKind.signed, IntKind.bits] using w
    exact ⟨z.toNat, by rw [e]; congr 1; omega, by omega⟩)
  refine ⟨(List.range len).map f, ⟨?_, ?_⟩, by simpa using h2⟩
  · have e := map_range_congr (fun i hi => (hf i hi).1)
    rw [e] at h1
    rw [List.map_map]
    exact h1
  · intro x hx
    obtain ⟨i, hi, rfl⟩ := List.mem_map.1 hx
    exact (hf i (by simpa using hi)).2
theorem ints_read {v : Value} {d : DataW H} {p : List MemPlace} (h : DataW.Trod enc Tryd.prog W 0 (fun _ => true) true 59 v d p) (hv : ∃ pa len cap, v = .slice pa len cap) :
    ∃ l : List Int, (RdV W v (l.map (Value.int .i64)) ∧ ∀ x ∈ l, -9223372036854775808 ≤ x ∧ x ≤ 9223372036854775807) ∧ Len d l.length := by
  obtain ⟨len, V, D, h1, h2, _, h3⟩ := cells_list Tryd.underlying59 (by kernel_rfl) h hv
  obtain ⟨f, hf⟩ := choose_list (R := fun i (x : Int) => V i = .int .i64 x ∧ -9223372036854775808 ≤ x ∧ x ≤ 9223372036854775807) 0 (fun i hi => by
    obtain ⟨n, P, hh⟩ := h3 i hi
    obtain ⟨z, e, _, w⟩ := DataW.trod_int Tryd.underlying3 hh
    simp at e
    exact ⟨z, e, by simpa [Lit.wf, IntKind.min, IntKind.max, IntKind.signed, IntKind.bits] using w⟩)
  refine ⟨(List.range len).map f, ⟨?_, ?_⟩, by simpa using h2⟩
  · have e := map_range_congr (fun i hi => (hf i hi).1)
    rw [e] at h1
    rw [List.map_map]
    exact h1
  · intro x hx
    obtain ⟨i, hi, rfl⟩ := List.mem_map.1 hx
    exact (hf i (by simpa using hi)).2
theorem strs_read {v : Value} {d : DataW H} {p : List MemPlace} (h : DataW.Trod enc Tryd.prog W 0 (fun _ => true) true 60 v d p) (hv : ∃ pa len cap, v = .slice pa len cap) :
    ∃ l : List ByteArray, RdV W v (l.map Value.string) ∧ (Len d l.length ∧ ∀ x ∈ l, x.size ≤ Rows.uptoBulk d) := by
  obtain ⟨len, V, D, h1, h2, h4, h3⟩ := cells_list Tryd.underlying60 (by kernel_rfl) h hv
  obtain ⟨f, hf⟩ := choose_list (R := fun i (x : ByteArray) => V i = .string x ∧ D i = .lit (.string x.data.toList)) .empty (fun i hi => by
    obtain ⟨n, P, hh⟩ := h3 i hi
    obtain ⟨s, e1, e2, _⟩ := DataW.trod_string Tryd.underlying9 hh
    simp at e1 e2
    exact ⟨s, e1, e2.1⟩)
  refine ⟨(List.range len).map f, ?_, by simpa using h2, ?_⟩
  · have e := map_range_congr (fun i hi => (hf i hi).1)
    rw [e] at h1
    rw [List.map_map]
    exact h1
  · intro x hx
    obtain ⟨i, hi, rfl⟩ := List.mem_map.1 hx
    have hi' : i < len := by simpa using hi
    rcases h4 with rfl | ⟨sp, rfl⟩
    · rcases h2 with ⟨_, h0⟩ | ⟨es, sp, h0, _⟩
      · omega
      · cases h0
    · have hb := bulk_mem ((List.range len).map D) (D i) (List.mem_map.2 ⟨i, hi, rfl⟩)
      rw [(hf i hi').2] at hb
      simp only [Rows.uptoBulk] at hb ⊢
      have e : (f i).data.toList.length = (f i).size := by rw [Array.length_toList]; rfl
      omega
theorem lists_read {v : Value} {d : DataW H} {p : List MemPlace} (h : DataW.Trod enc Tryd.prog W 0 (fun _ => true) true 36 v d p) (hv : ∃ pa len cap, v = .slice pa len cap) :
    ∃ l : List (Value × List UInt8), (RdV W v (l.map Prod.fst) ∧ ∀ x ∈ l, Rd W x.1 x.2) ∧ (Len d l.length ∧ ∀ x ∈ l, x.2.length ≤ Rows.uptoBulk d) := by
  obtain ⟨len, V, D, h1, h2, h4, h3⟩ := cells_list Tryd.underlying36 (by kernel_rfl) h hv
  obtain ⟨f, hf⟩ := choose_list (R := fun i (x : List UInt8) => Rd W (V i) x ∧ x.length ≤ Rows.uptoBulk (D i)) [] (fun i hi => by
    obtain ⟨n, P, hh⟩ := h3 i hi
    have hsl : ∃ pa len cap, V i = .slice pa len cap := by
      rcases open_ints Tryd.underlying22 Tryd.underlying5 (by kernel_rfl) hh with ⟨e, _⟩ | ⟨a, l, c, zs, e, _⟩
      · simp at e; exact ⟨_, _, _, e⟩
      · simp at e; exact ⟨_, _, _, e⟩
    have hcs : (V i).cells.toList = [V i] := by
      obtain ⟨_, _, _, e⟩ := hsl
      rw [e]; rfl
    obtain ⟨l, hr, hd⟩ := bytes_read (enc := enc) (W := W) (v := V i) (d := D i) (p := P) ⟨n, by rw [hcs]; exact hh⟩ hsl
    exact ⟨l, hr, bytes_bulk hd⟩)
  refine ⟨(List.range len).map fun i => (V i, f i), ⟨?_, ?_⟩, by simpa using h2, ?_⟩
  · rw [List.map_map]
    exact h1
  · intro x hx
    obtain ⟨i, hi, rfl⟩ := List.mem_map.1 hx
    exact (hf i (by simpa using hi)).1
  · intro x hx
    obtain ⟨i, hi, rfl⟩ := List.mem_map.1 hx
    have hi' : i < len := by simpa using hi
    rcases h4 with rfl | ⟨sp, rfl⟩
    · rcases h2 with ⟨_, h0⟩ | ⟨es, sp, h0, _⟩
      · omega
      · cases h0
    · have hb := bulk_mem ((List.range len).map D) (D i) (List.mem_map.2 ⟨i, hi, rfl⟩)
      have := (hf i hi').2
      simp only [Rows.uptoBulk]
      omega
end
theorem at_drop {T a r : List UInt8} {p : Nat} (h : T.drop p = a ++ r) (hp : p ≤ T.length) : pout T (p, 0) a.length = a ∧ pst T (p, 0) a.length = (p + a.length, 0) ∧ T.drop (p + a.length) = r ∧ p + a.length ≤ T.length := by
  have hl : T.length - p = a.length + r.length := by rw [← List.length_drop, h, List.length_append]
  refine ⟨?_, ?_, ?_, by omega⟩
  · unfold pout
    rw [if_neg (by simp), if_neg (by omega), if_neg (by simp only; omega)]
    simp only [Int.toNat_natCast]
    rw [h]
    exact List.take_left
  · unfold pst
    rw [if_neg (by simp), if_neg (by omega), if_neg (by simp only; omega)]
    rfl
  · rw [← List.drop_drop, h]
    exact List.drop_left
theorem at_num {T r : List UInt8} {p x : Nat} (h : T.drop p = gr x ++ r) (hp : p ≤ T.length) (hx : x < 18446744073709551616) : uval T (p, 0) = x ∧ ust T (p, 0) = (p + (gr x).length, 0) ∧ T.drop (p + (gr x).length) = r ∧ p + (gr x).length ≤ T.length := by
  have hu := uscan_gr x r hx
  rw [← h] at hu
  obtain ⟨_, _, h3, h4⟩ := at_drop h hp
  exact ⟨by simp [uval, hu], by simp [ust, hu], h3, h4⟩
set_option maxRecDepth 100000 in
set_option maxHeartbeats 2000000 in
theorem may_ref (s : ByteArray) (w : World) (hs : s.size ≤ 16777216) : Calls Tryd.prog 14 #[.string s] w (Says (.bool (may s)) w) := by
  have HS := Lib.hid hs
  clear hs
  go_enter Tryd.func14, Tryd.ntmps14
  go_wp2_with fail
  refine (plain_ref s _ HS.out).mono ?_
  rintro e w1 ⟨rfl, h⟩
  have HB := Lib.hid h
  clear h
  go_wp2_with fail
  go_ret
  exact ⟨rfl, HB.out⟩
theorem RdV.get {w : World} {v : Value} {vs : List Value} (h : RdV w v vs) : ∃ (pa : Option Addr) (cap : Nat), v = .slice pa vs.length cap ∧ ∀ w', Below w.heap.size w w' → ∀ k (hk : k < vs.length), ∃ b off, pa = some ⟨b, off, none⟩ ∧ w'.cell? ⟨b, off + k, none⟩ = some vs[k] := by
  obtain ⟨pa, cap, e, h4⟩ := h
  refine ⟨pa, cap, e, fun w' hb k hk => ?_⟩
  obtain ⟨b, off, e, hc⟩ := h4 k hk
  exact ⟨b, off, e, (hb.cell (p := ⟨b, off + k, none⟩) (cell_in hc)).trans hc⟩
/-- What is laid for numbers, ints, lists of bytes, texts. -/
def eN (l : List Nat) : List UInt8 := l.flatMap fun x => gr x ++ (lo 2 (x % 65536) ++ lo 4 (x % 4294967296))
def eI (l : List Int) : List UInt8 := l.flatMap fun x => gr (zz x)
def eP (l : List (Value × List UInt8)) : List UInt8 := l.flatMap fun x => pb x.2
def eS (l : List ByteArray) : List UInt8 := l.flatMap fun x => pb x.data.toList
theorem flat_len {α : Type} {f : α → List UInt8} {c : Nat} : ∀ (l : List α), (∀ x ∈ l, (f x).length ≤ c) → (l.flatMap f).length ≤ c * l.length
  | [], _ => by simp
  | x :: l, h => by
    have h1 := h x (by simp)
    have h2 := flat_len l (fun y hy => h y (by simp [hy]))
    simp only [List.flatMap_cons, List.length_append, List.length_cons, Nat.mul_add]
    omega
theorem flat_next {α : Type} {f : α → List UInt8} {l : List α} {k : Nat} (h : k < l.length) : (l.take (k + 1)).flatMap f = (l.take k).flatMap f ++ f l[k] := by
  rw [List.take_succ_eq_append_getElem h, List.flatMap_append]; simp only [List.flatMap_cons, List.flatMap_nil, List.append_nil]
theorem flat_drop {α : Type} {f : α → List UInt8} {l : List α} {k : Nat} (h : k < l.length) : (l.drop k).flatMap f = f l[k] ++ (l.drop (k + 1)).flatMap f := by
  rw [List.drop_eq_getElem_cons h, List.flatMap_cons]
theorem eN_len (l : List Nat) : (eN l).length ≤ 16 * l.length := flat_len l (fun x _ => by have := gr_len x; simp only [List.length_append, lo_len]; omega)
theorem eI_len (l : List Int) : (eI l).length ≤ 10 * l.length := flat_len l (fun x _ => (gr_len _).2)
theorem eP_len (l : List (Value × List UInt8)) (h : ∀ x ∈ l, x.2.length ≤ 1048576) : (eP l).length ≤ 1048586 * l.length := flat_len l (fun x hx => by have := h x hx; have := pb_len x.2; omega)
theorem eS_len (l : List ByteArray) (h : ∀ x ∈ l, x.size ≤ 1048576) : (eS l).length ≤ 1048586 * l.length := flat_len l (fun x hx => by
  have := h x hx
  have e : x.data.toList.length = x.size := by rw [Array.length_toList]; rfl
  have := pb_len x.data.toList
  omega)
theorem eN_next {l : List Nat} {k : Nat} (h : k < l.length) : eN (l.take (k + 1)) = eN (l.take k) ++ (gr l[k] ++ (lo 2 (l[k] % 65536) ++ lo 4 (l[k] % 4294967296))) := flat_next h
theorem eI_next {l : List Int} {k : Nat} (h : k < l.length) : eI (l.take (k + 1)) = eI (l.take k) ++ gr (zz l[k]) := flat_next h
theorem eP_next {l : List (Value × List UInt8)} {k : Nat} (h : k < l.length) : eP (l.take (k + 1)) = eP (l.take k) ++ pb l[k].2 := flat_next h
theorem eS_next {l : List ByteArray} {k : Nat} (h : k < l.length) : eS (l.take (k + 1)) = eS (l.take k) ++ pb l[k].data.toList := flat_next h
theorem eN_drop {l : List Nat} {k : Nat} (h : k < l.length) : eN (l.drop k) = (gr l[k] ++ (lo 2 (l[k] % 65536) ++ lo 4 (l[k] % 4294967296))) ++ eN (l.drop (k + 1)) := flat_drop h
theorem eI_drop {l : List Int} {k : Nat} (h : k < l.length) : eI (l.drop k) = gr (zz l[k]) ++ eI (l.drop (k + 1)) := flat_drop h
theorem eP_drop {l : List (Value × List UInt8)} {k : Nat} (h : k < l.length) : eP (l.drop k) = pb l[k].2 ++ eP (l.drop (k + 1)) := flat_drop h
theorem eS_drop {l : List ByteArray} {k : Nat} (h : k < l.length) : eS (l.drop k) = pb l[k].data.toList ++ eS (l.drop (k + 1)) := flat_drop h
theorem eN_nil : eN [] = [] := rfl
theorem eI_nil : eI [] = [] := rfl
theorem eP_nil : eP [] = [] := rfl
theorem eS_nil : eS [] = [] := rfl
end Go.Proofs.YtcgeldmbndaocaaDoor
