/- What is proved: NamesFinds holds of all lists of texts and any number: the program's table tells what the document's does, in order, and finds by a name, by a beginning and nearly what the document finds. Its condition: what comes in is of bulk at most 1048576 (the statement's second form). -/
import Derived.Test.YtoeknophfcfahaaGreatDoorNdz
import Derived.Test.YtoeknophfcfahaaGreatDoorNin
import Derived.Test.YtoeknophfcfahaaGreatDoorNlf
import Derived.Test.YtoeknophfcfahaaGreatDoorPost
import Derived.Test.YtoeknophfcfahaaGreatDoorCards
import Derived.Test.YtoeknophfcfahaaGreatDoorTie
import Derived.ProofKit
import Derived.OpenShut
import Derived.Deep.DeepHandedRow
import Derived.Deep.RegionHeld3
namespace Go.Proofs.YtoeknophfcfahaaGreatDoor.namesFinds
open Go.ChangeShapes Go.WideShapes Go.ChangeAt Go.RowKit Go.Maps Go.Sort
open Go.ChangeMaps (open_string shut_string)
set_option linter.unusedVariables false
set_option linter.unusedSimpArgs false

section
open Go.Deep
variable {H : Type} {enc : TypeId × Value → H} {W : World}
/-- A reading of a list of texts. -/
def LenT (d : DataW H) (l : List ByteArray) : Prop := d = .nil ∧ l = [] ∨ ∃ es sp, d = .slice es sp ∧ es = l.map fun s => .lit (.string s.data.toList)
theorem texs_read {v : Value} {d : DataW H} {p : List MemPlace} (h : DataW.Trod enc Tryz.prog W 0 (fun _ => true) true 22 v d p) (hv : ∃ pa len cap, v = .slice pa len cap) :
    ∃ l : List ByteArray, RdT W v l ∧ LenT d l := by
  obtain ⟨pa, len, cap, rfl⟩ := hv
  obtain ⟨n, hn⟩ := h
  rcases open_slice1 Tryz.underlying22 (by kernel_rfl) hn with ⟨h3, h4⟩ | ⟨a, l, c, m, n', V, D, Pl, h3, _, hlc, hcm, hm, hx, hall⟩
  · simp [Value.cells] at h3
    obtain ⟨rfl, rfl, rfl⟩ := h3
    cases h4
    exact ⟨[], ⟨none, 0, rfl, Nat.le_refl _, by decide, fun j hj => absurd hj (by simp)⟩, .inl ⟨rfl, rfl⟩⟩
  · simp [Value.cells] at h3
    obtain ⟨rfl, rfl, rfl⟩ := h3
    have hmc : m = cap := by simpa using hm
    subst hmc
    cases hx
    obtain ⟨f, hf⟩ := choose_n (R := fun i (s : ByteArray) => a = ⟨a.block, a.off, none⟩ ∧ W.cell? ⟨a.block, a.off + i, none⟩ = some (.string s) ∧ D i = .lit (.string s.data.toList)) .empty (fun i hi => by
      obtain ⟨h1, h2⟩ := hall i (show i < m from Nat.lt_of_lt_of_le (show i < len from hi) hlc)
      obtain ⟨s, e, hd, m0⟩ := DataW.trod_string Tryz.underlying9 h2
      simp at e
      rw [e] at h1
      obtain ⟨b, off, spot⟩ := a
      have hspot : spot = none := by
        have := (hall 0 (Nat.lt_of_lt_of_le (show 0 < len by omega) hlc)).1
        simpa [Addr.add] using World.cell?_spot this
      subst hspot
      rw [add_plain] at h1
      exact ⟨s, rfl, h1, (Prod.mk.inj hd).1⟩)
    refine ⟨(List.range len).map f, ⟨some a, m, by simp, by simpa using hlc, hcm, fun i hi => ?_⟩, .inr ⟨_, _, rfl, ?_⟩⟩
    · have hi' : i < len := by simpa using hi
      obtain ⟨e, hc, _⟩ := hf i hi'
      refine ⟨a.block, a.off, by rw [← e], ?_⟩
      simpa using hc
    · rw [List.map_map]
      refine List.map_congr_left fun i hi => ?_
      exact (hf i (by simpa using hi)).2.2
theorem texs_bulk {d : DataW H} {l : List ByteArray} {n : Nat} (h : LenT d l) (hb : Rows.uptoBulk d ≤ n) : l.length ≤ n ∧ ∀ s ∈ l, s.size ≤ n := by
  rcases h with ⟨rfl, rfl⟩ | ⟨es, sp, rfl, he⟩
  · exact ⟨Nat.zero_le _, fun s hs => by cases hs⟩
  · have hall : ∀ l : List ByteArray, l.length ≤ Rows.uptoBulkAll (H := H) (l.map fun s => .lit (.string s.data.toList)) ∧ ∀ s ∈ l, s.size ≤ Rows.uptoBulkAll (H := H) (l.map fun s => .lit (.string s.data.toList)) := by
      intro l
      induction l with
      | nil => exact ⟨Nat.zero_le _, fun s hs => by cases hs⟩
      | cons x r ih =>
        have e : x.data.toList.length = x.size := by rw [Array.length_toList]; rfl
        simp only [List.map_cons, Rows.uptoBulkAll, Rows.uptoBulk, List.length_cons, e]
        refine ⟨by have := ih.1; omega, fun s hs => ?_⟩
        rcases List.mem_cons.1 hs with rfl | hs
        · omega
        · have := ih.2 s hs; omega
    have h1 := hall l
    rw [← he] at h1
    simp only [Rows.uptoBulk] at hb
    exact ⟨by have := h1.1; omega, fun s hs => by have := h1.2 s hs; omega⟩
end
theorem rdT_above {W W' : World} {v : Value} {xs : List ByteArray} {B : Nat} (h : RdT W v xs) (hB : ∀ c, v.ownBlock = some c → B ≤ c) (k : ∀ c, B ≤ c → W'.heap[c]? = W.heap[c]?) : RdT W' v xs := by
  obtain ⟨pa, cap, rfl, h1, h2, h3⟩ := h
  refine ⟨pa, cap, rfl, h1, h2, fun j hj => ?_⟩
  obtain ⟨b, off, rfl, hc⟩ := h3 j hj
  exact ⟨b, off, rfl, (World.cell?_of_block (a := ⟨b, off + j, none⟩) (k b (hB b rfl))).trans hc⟩
theorem rdI_above {W W' : World} {v : Value} {xs : List Nat} {B : Nat} (h : RdI W v xs) (hB : ∀ c, v.ownBlock = some c → B ≤ c) (k : ∀ c, B ≤ c → W'.heap[c]? = W.heap[c]?) : RdI W' v xs := by
  obtain ⟨pa, cap, rfl, h1, h2, h3⟩ := h
  refine ⟨pa, cap, rfl, h1, h2, fun j hj => ?_⟩
  obtain ⟨b, off, rfl, hc⟩ := h3 j hj
  exact ⟨b, off, rfl, (World.cell?_of_block (a := ⟨b, off + j, none⟩) (k b (hB b rfl))).trans hc⟩
theorem tbl_above {W W' : World} {b B : Nat} {l : List ByteArray} {nv gv mv sv : Value} (h : Tbl b l nv gv mv sv W) (hf : FrP B b nv gv mv sv) (k : ∀ c, B ≤ c → W'.heap[c]? = W.heap[c]?) : Tbl b l nv gv mv sv W' := by
  obtain ⟨f1, f2, f3, f4, M, rfl, f5⟩ := hf
  refine ⟨(k b f1).trans h.cB, rdT_above h.nn f2 k, rdT_above h.gg f3 k, ?_, rdI_above h.ss f4 k⟩
  rcases h.mp with ⟨M', e, h⟩ | ⟨e, _⟩
  · cases e
    exact .inl ⟨M, rfl, h.block (k M f5)⟩
  · cases e
theorem dt_above {W W' : World} {B : Nat} {l : List ByteArray} {tv : Value} (h : DT W tv l) (hf : FrT B tv) (k : ∀ c, B ≤ c → W'.heap[c]? = W.heap[c]?) : DT W' tv l := by
  obtain ⟨nv, gv, rfl, h1, h2⟩ := h
  obtain ⟨a, b, e, f1, f2⟩ := hf
  cases e
  exact ⟨_, _, rfl, rdT_above h1 f1 k, rdT_above h2 f2 k⟩
/-- What both News tell: the list that is in the table, the place, the error. -/
def OutK (l L : List ByteArray) (k er : Int) : Prop := (1000 < l.length ∧ L = [] ∧ k = 0 ∧ er = 2) ∨ (l.length ≤ 1000 ∧ ∃ j : Nat, j < l.length ∧ GoodTo l j ∧ errAt l j ≠ 0 ∧ L = [] ∧ k = j ∧ er = errAt l j) ∨
  (l.length ≤ 1000 ∧ GoodTo l l.length ∧ L = l ∧ k = 0 ∧ er = 0)
theorem OutK.same {l L L' : List ByteArray} {k k' er er' : Int} (h : OutK l L k er) (h' : OutK l L' k' er') : L = L' ∧ k = k' ∧ er = er' := by
  rcases h with ⟨a, rfl, rfl, rfl⟩ | ⟨a, j, hj, hg, he, rfl, rfl, rfl⟩ | ⟨a, hg, rfl, rfl, rfl⟩ <;> rcases h' with ⟨a', rfl, rfl, rfl⟩ | ⟨a', j', hj', hg', he', rfl, rfl, rfl⟩ | ⟨a', hg', rfl, rfl, rfl⟩
  · exact ⟨rfl, rfl, rfl⟩
  · omega
  · omega
  · omega
  · have : j = j' := by
      rcases Nat.lt_trichotomy j j' with h | h | h
      · exact absurd (hg' j h) he
      · exact h
      · exact absurd (hg j' h) he'
    subst this
    exact ⟨rfl, rfl, rfl⟩
  · exact absurd (hg' j hj) he
  · omega
  · exact absurd (hg j' hj') he'
  · exact ⟨rfl, rfl, rfl⟩
theorem OutK.good {l L : List ByteArray} {k er : Int} (h : OutK l L k er) : GoodTo L L.length ∧ L.length ≤ 1000 := by
  rcases h with ⟨a, rfl, _⟩ | ⟨a, j, hj, hg, he, rfl, _⟩ | ⟨a, hg, rfl, _⟩
  · exact ⟨fun j hj => absurd hj (by simp), by simp⟩
  · exact ⟨fun j hj => absurd hj (by simp), by simp⟩
  · exact ⟨hg, a⟩
def TPO (B : Nat) (W : World) (p : Value) (l : List ByteArray) : Prop := (p = .pointer none ∧ l = []) ∨ ∃ b nv gv mv sv, p = .pointer (some ⟨b, 0, none⟩) ∧ FrP B b nv gv mv sv ∧ Tbl b l nv gv mv sv W
theorem TPO.tp {B : Nat} {W : World} {p : Value} {l : List ByteArray} (h : TPO B W p l) : TP W p l := by
  rcases h with h | ⟨b, nv, gv, mv, sv, e, _, h⟩
  · exact .inl h
  · exact .inr ⟨b, nv, gv, mv, sv, e, h⟩
theorem TPO.above {B : Nat} {W W' : World} {p : Value} {l : List ByteArray} (h : TPO B W p l) (k : ∀ c, B ≤ c → W'.heap[c]? = W.heap[c]?) : TP W' p l := by
  rcases h with h | ⟨b, nv, gv, mv, sv, e, hf, h⟩
  · exact .inl h
  · exact .inr ⟨b, nv, gv, mv, sv, e, tbl_above h hf k⟩
theorem TPO.below {B : Nat} {W W' : World} {p : Value} {l : List ByteArray} (h : TPO B W p l) (hb : Below W.heap.size W W') : TPO B W' p l := by
  rcases h with h | ⟨b, nv, gv, mv, sv, e, hf, h⟩
  · exact .inl h
  · exact .inr ⟨b, nv, gv, mv, sv, e, hf, h.below hb⟩
theorem dt_below {W W' : World} {tv : Value} {l : List ByteArray} (h : DT W tv l) (hb : Below W.heap.size W W') : DT W' tv l := by
  obtain ⟨nv, gv, rfl, h1, h2⟩ := h
  exact ⟨_, _, rfl, h1.below hb, h2.below hb⟩
theorem ptr_eq (p : Value) (L : List ByteArray) (er : Int) (hp : p = .pointer none ∧ er ≠ 0 ∨ (∃ b, p = .pointer (some ⟨b, 0, none⟩)) ∧ er = 0) : ∃ bb : Bool, (∀ w, (binOp .eql 24 p (.pointer none)).run Tryz.prog w = .ok (.bool bb) w) ∧ (∀ x y w, (eqGuard .eql 24 x y p (.pointer none)).run Tryz.prog w = .ok () w) ∧ (bb != (er != 0)) = false := by
  obtain ⟨d, hd⟩ : ∃ d, Op.maxDepth = d + 1 := ⟨_, rfl⟩
  have hu := Tryz.underlying24
  rcases hp with ⟨rfl, h⟩ | ⟨⟨b, rfl⟩, rfl⟩
  · refine ⟨true, fun w => ?_, fun x y w => by simp [eqGuard], ?_⟩
    · simp only [binOp, Op.equal, hd]
      simp [Op.equalIn, run_underlying hu]
    · have : (er != 0) = true := by simpa using h
      rw [this]
      rfl
  · refine ⟨false, fun w => ?_, fun x y w => by simp [eqGuard], by simp⟩
    simp only [binOp, Op.equal, hd]
    simp [Op.equalIn, run_underlying hu]
theorem newO {l : List ByteArray} {w w' : World} {e : Ending} (h : NewIsO l w e w') : ∃ (p : Value) (k er : Int) (L : List ByteArray), e = .returned (.tuple #[p, .int .i64 k, .int .i64 er]) ∧ Below w.heap.size w w' ∧ OutK l L k er ∧ TPO w.heap.size w' p L ∧
    (p = .pointer none ∧ er ≠ 0 ∨ (∃ b, p = .pointer (some ⟨b, 0, none⟩)) ∧ er = 0) := by
  obtain ⟨hb, h⟩ := h
  rcases h with ⟨h1, rfl⟩ | ⟨h1, k, hk, hg, he, rfl⟩ | ⟨h1, hg, b, nv, gv, mv, sv, hf, ht, rfl⟩
  · exact ⟨_, _, _, [], rfl, hb, .inl ⟨h1, rfl, rfl, rfl⟩, .inl ⟨rfl, rfl⟩, .inl ⟨rfl, by decide⟩⟩
  · exact ⟨_, _, _, [], rfl, hb, .inr (.inl ⟨h1, k, hk, hg, he, rfl, rfl, rfl⟩), .inl ⟨rfl, rfl⟩, .inl ⟨rfl, he⟩⟩
  · exact ⟨_, _, _, l, rfl, hb, .inr (.inr ⟨h1, hg, rfl, rfl, rfl⟩), .inr ⟨b, nv, gv, mv, sv, rfl, hf, ht⟩, .inr ⟨⟨b, rfl⟩, rfl⟩⟩
theorem newD {l : List ByteArray} {w w' : World} {e : Ending} (h : DNewIs l w e w') : ∃ (tv : Value) (k er : Int) (L : List ByteArray), e = .returned (.tuple #[tv, .int .i64 k, .int .i64 er]) ∧ Below w.heap.size w w' ∧ OutK l L k er ∧ DT w' tv L ∧ FrT w.heap.size tv := by
  obtain ⟨hb, h⟩ := h
  have hz : DT w' (.agg #[.slice none 0 0, .slice none 0 0]) [] := ⟨_, _, rfl, ⟨none, 0, rfl, Nat.le_refl _, Nat.zero_le _, fun j hj => absurd hj (by simp)⟩, ⟨none, 0, rfl, Nat.le_refl _, Nat.zero_le _, fun j hj => absurd hj (by simp)⟩⟩
  have hy : FrT w.heap.size (.agg #[.slice none 0 0, .slice none 0 0]) := ⟨_, _, rfl, (fun c e => by cases e), (fun c e => by cases e)⟩
  rcases h with ⟨h1, rfl⟩ | ⟨h1, k, hk, hg, he, rfl⟩ | ⟨h1, hg, tv, ht, hf, rfl⟩
  · exact ⟨_, _, _, [], rfl, hb, .inl ⟨h1, rfl, rfl, rfl⟩, hz, hy⟩
  · exact ⟨_, _, _, [], rfl, hb, .inr (.inl ⟨h1, k, hk, hg, he, rfl, rfl, rfl⟩), hz, hy⟩
  · exact ⟨_, _, _, l, rfl, hb, .inr (.inr ⟨h1, hg, rfl, rfl, rfl⟩), ht, hf⟩
theorem s_next {W w w' : World} {N : Nat} {x y : Value} (h : w.cell? ⟨N, 0, none⟩ = some x ∧ w.cell? ⟨N, 1, none⟩ = some y ∧ Below W.heap.size W w) (hb : Below w.heap.size w w') :
    w'.cell? ⟨N, 0, none⟩ = some x ∧ w'.cell? ⟨N, 1, none⟩ = some y ∧ Below W.heap.size W w' :=
  ⟨(hb.cell (p := ⟨N, 0, none⟩) (cellIn h.1)).trans h.1, (hb.cell (p := ⟨N, 1, none⟩) (cellIn h.2.1)).trans h.2.1, h.2.2.trans (hb.mono h.2.2.size)⟩

set_option maxRecDepth 100000 in
set_option maxHeartbeats 8000000 in
theorem walk (v : Value) (ls : List ByteArray) (va : Value) (qs : List ByteArray) (at' : Int) (W : World) (hR : RdT W v ls) (hl : ls.length ≤ 1048576 ∧ ∀ s ∈ ls, s.size ≤ 1048576) (hA : RdT W va qs) (ha : qs.length ≤ 1048576 ∧ ∀ s ∈ qs, s.size ≤ 1048576) (hat : (Lit.int .i64 at').wf = true) (hT : Tabs W) :
    Calls Tryz.prog 3 #[v, va, .int .i64 at'] W fun e w' => e = .returned (.bool true) ∧ Below W.heap.size W w' := by
  obtain ⟨pa, cap, rfl, hc1, hc2⟩ := hR.form
  obtain ⟨pq, cq, rfl, hc3, hc4⟩ := hA.form
  have HR := Lib.hid hR
  have HA := Lib.hid hA
  have HAS := Lib.hid ha.2
  have HAL := Lib.hid ha.1
  have HL := Lib.hid (show ls.length * 16 ≤ 140737488355328 by omega)
  have HT := Lib.hid hT
  obtain ⟨i0, hi, hz0, hz1, hz2⟩ := info_parts infoI
  clear hR hT hA hc1 hc2 hc3 hc4 hl ha
  go_enter Tryz.func3, Tryz.ntmps3
  go_wp2_with fail
  refine (awake_law _ HT.out).mono ?_
  rintro e w1 ⟨rfl, h1⟩
  have HB1 := Lib.hid h1
  have HR1 := Lib.hid (HR.out.below h1)
  have HT1 := Lib.hid (HT.out.below h1 (Nat.le_refl _))
  clear h1
  go_wp2_with (at_builtin; go_loud (refine wpList_copyT rfl _ rfl ls _ rfl HR1.out HL.out ?_); intro vm w2 hown hb2; obtain ⟨pm, cm, rfl⟩ := lenOf hown; have HOW := Lib.hid hown; have HO := Lib.hid (RdT.own hown rfl); have HB2 := Lib.hid (HB1.out.trans (hb2.mono HB1.out.size)); have HR2 := Lib.hid (HR1.out.below hb2); have HT2 := Lib.hid (HT1.out.below hb2 (Nat.le_refl _)); have HS12 := Lib.hid hb2.size; clear hown hb2)
  refine (new_proO ls _ _ HO.out HT2.out).mono ?_
  rintro e w3 h3
  obtain ⟨p, k, er, L, rfl, hb3, hK, hTP, hnil⟩ := newO h3
  have HB3 := Lib.hid (HB2.out.trans (hb3.mono HB2.out.size))
  have HR3 := Lib.hid (HR2.out.below hb3)
  have HT3 := Lib.hid (HT2.out.below hb3 (Nat.le_refl _))
  have HOW3 := Lib.hid (own_below HOW.out hb3)
  have HS23 := Lib.hid hb3.size
  have HTP := Lib.hid hTP
  have HK := Lib.hid hK
  obtain ⟨bb, hpe, hpg, hbb⟩ := ptr_eq p L er hnil
  have HPG := Lib.hid hpg
  have HPE := Lib.hid hpe
  have HBB := Lib.hid hbb
  clear hb3 h3 hTP hK hnil hpe hbb hpg
  go_wp2_with fail
  refine (new_ref ls _ _ HR3.out).mono ?_
  rintro e w4 h4
  obtain ⟨tv, k', er', L', rfl, hb4, hK', hDT, hF⟩ := newD h4
  obtain ⟨rfl, rfl, rfl⟩ := HK.out.same hK'
  have HB4 := Lib.hid (HB3.out.trans (hb4.mono HB3.out.size))
  have HT4 := Lib.hid (HT3.out.below hb4 (Nat.le_refl _))
  have HOW4 := Lib.hid (own_below HOW3.out hb4)
  have HTP4 := Lib.hid (HTP.out.below hb4)
  have HS34 := Lib.hid hb4.size
  have HG := Lib.hid hK'.good.1
  have HLL := Lib.hid hK'.good.2
  have HDT := Lib.hid hDT
  have HF := Lib.hid hF
  obtain ⟨nv, gv, rfl, hn, hg⟩ := hDT
  obtain ⟨pn, cn, rfl, _, _⟩ := hn.form
  obtain ⟨pg, cg, rfl, _, _⟩ := hg.form
  rw [List.length_map] at HDT HF ⊢
  have hpe := HPE.out
  have hbb : (er != 0) = bb := by
    have h9 := HBB.out
    cases bb <;> cases h8 : (er != 0) <;> simp_all
  have hpg := HPG.out
  have t0 : (k != k) = false := by simp
  have t1 : (er != er) = false := by simp
  clear hb4 h4 hK' hF hn hg
  have X := World.alloc_heap_new w4 (.cells #[.slice pn L.length cn, .slice pg L.length cg] 29)
  have hA5 : Below w4.heap.size w4 (w4.alloc (.cells #[.slice pn L.length cn, .slice pg L.length cg] 29)) := (Below.refl _ _).alloc (Nat.le_refl _) _
  obtain ⟨w5, hw5⟩ : ∃ w5, w4.alloc (.cells #[.slice pn L.length cn, .slice pg L.length cg] 29) = w5 := ⟨_, rfl⟩
  have HW5 := Lib.hid hw5
  rw [hw5] at X hA5
  have HX5 := Lib.hid X
  have HA5 := Lib.hid hA5
  have HOW5 := Lib.hid (own_below HOW4.out hA5)
  have HOW5' := Lib.hid (show w5.ownsRow w1.heap.size 9 1 (.slice pm ls.length cm) ls.length (textsV ls) from HOW5.out)
  have HL2 := Lib.hid (show ls.length ≤ 140737488355328 by have := HL.out; omega)
  clear X hA5 hw5
  go_wp2_with fail
  rw [HW5.out]
  clear hpe hbb hpg t0 t1
  go_loopw [56] (fun i wr => ∃ (q : Nat) (xs : List Value), i = .int .i64 q ∧ q ≤ ls.length ∧ Hid (wr.ownsRow w1.heap.size 9 1 (.slice pm ls.length cm) ls.length xs) ∧ Hid (Below w1.heap.size w5 wr) ∧ Hid (∀ c, (Value.slice pm ls.length cm).ownBlock ≠ some c → wr.heap[c]? = w5.heap[c]?)) (fun i _ => ls.length - (intOf i).toNat)
  case atStart => exact ⟨0, _, rfl, Nat.zero_le _, HOW5', Lib.hid (Below.refl _ _), Lib.hid (fun _ _ => rfl)⟩
  case round =>
    obtain ⟨q, xs, rfl, hq, HO6, HB6, HK6⟩ := hrel
    by_cases hlt : q < ls.length
    · obtain ⟨g, e6⟩ : ∃ g, pm = some ⟨g, 0, none⟩ := by
        rcases HO6.out.2 with ⟨e, h0⟩ | ⟨g, c, cur, e, _⟩
        · omega
        · cases e; exact ⟨g, rfl⟩
      subst e6
      have hxs : q < xs.length := by rw [HO6.out.1]; omega
      have c1 := HO6.out.cellAt q (by omega)
      rw [List.getElem?_eq_getElem hxs] at c1
      have f1 := HO6.out.frozenAt q
      have hq1 : (q : Int) < ls.length := by omega
      have HLT := Lib.hid hlt
      have hl2 := HL2.out
      have HST := Lib.hid (HO6.out.stored q (.string ⟨#[63]⟩))
      have hgb : w1.heap.size ≤ g := (own_base HO6.out rfl).1
      have HBS := Lib.hid (HB6.out.setCell (p := ⟨g, q, none⟩) hgb (.string ⟨#[63]⟩))
      have HKS := Lib.hid (show ∀ c, (Value.slice (some ⟨g, 0, none⟩) ls.length cm).ownBlock ≠ some c → (wr.setCell ⟨g, q, none⟩ (.string ⟨#[63]⟩)).heap[c]? = w5.heap[c]? from fun c hc => (Below.heap_setCell _ _ _ _ (fun e => hc (by rw [e]; rfl))).trans (HK6.out c hc))
      clear hgb hlt
      go_wp2_with fail
      go_roundw
      case measure => have := HLT.out; simp [intOf]; omega
      case rel => exact ⟨q + 1, _, by go_num, HLT.out, Lib.hid HST.out.1, HBS, HKS⟩
    · obtain rfl : q = ls.length := by omega
      have hlz : ¬ (ls.length : Int) < ls.length := by omega
      have hkeep : ∀ c, w2.heap.size ≤ c → wr.heap[c]? = w5.heap[c]? := fun c hc => HK6.out c (fun e => by have := (own_base HOW.out e).2; omega)
      have HTP6 := Lib.hid ((HTP4.out.below HA5.out).above hkeep)
      have HDT6 := Lib.hid (dt_above (dt_below HDT.out HA5.out) HF.out (fun c hc => hkeep c (by have := HS23.out; omega)))
      have HX6 := Lib.hid ((hkeep w4.heap.size (by have := HS23.out; have := HS34.out; omega)).trans HX5.out)
      have HBW := Lib.hid ((HB4.out.trans (HA5.out.mono HB4.out.size)).trans (HB6.out.mono HB1.out.size))
      have HA6 := Lib.hid (HA.out.below HBW.out)
      have HT6 := Lib.hid (HT.out.below HBW.out (Nat.le_refl _))
      obtain ⟨z0, z1, _, _⟩ := two_cells HX6.out
      clear hlt hkeep HK6 HB6 HO6 HOW HOW3 HOW4 HOW5 HOW5' HX5 HA5 HTP HTP4 HDT HF HR HR1 HR2 HR3 HT1 HT2 HT3 HT4 HB1 HB2 HB3 HB4 HK HO
      go_wp2_with fail
      refine (name_pro L p at' _ HTP6.out).mono ?_
      rintro e w7 ⟨rfl, hnm⟩
      obtain ⟨s, g, rfl, hsg⟩ : ∃ (s : ByteArray) (g : Int), e = .returned (.tuple #[.string s, .int .i64 g]) ∧ ((∃ k : Nat, at' = k ∧ k < L.length ∧ s = L.getD k ByteArray.empty ∧ g = 0) ∨ ((at' < 0 ∨ (L.length : Int) ≤ at') ∧ s = ByteArray.empty ∧ g = 1)) := by
        rcases hnm with ⟨k, h1, h2, h3⟩ | ⟨h1, h2⟩
        · exact ⟨_, _, h3, .inl ⟨k, h1, h2, rfl, rfl⟩⟩
        · exact ⟨_, _, h2, .inr ⟨h1, rfl, rfl⟩⟩
      have HSG := Lib.hid hsg
      clear hnm hsg
      go_upto_region 14 with fail
      go_cut [109] from 69 to 109 (fun s109 wx => s109 = .bool false ∧ wx = wr)
      case first =>
        rcases HSG.out with ⟨kk, hak, hkk, hs, rfl⟩ | ⟨hor, rfl, rfl⟩
        · obtain ⟨nv, gv, e, hn, _⟩ := HDT6.out
          cases e
          obtain ⟨b, off, e, cn1⟩ := hn.cell hkk
          subst e
          rw [← getD_get hkk, ← hs] at cn1
          have hk1 : at' < (L.length : Int) := by omega
          have hk0 : (0 : Int) ≤ at' := by omega
          have hkt : at'.toNat = kk := by omega
          rw [← hkt] at cn1
          clear hn hak hkt hs
          go_wp2_with fail
          go_meet
          all_goals exact ⟨rfl, rfl⟩
        · by_cases h0 : 0 ≤ at'
          · have h1 : (L.length : Int) ≤ at' := by omega
            have h2 : ¬ at' < (L.length : Int) := by omega
            have h3 : ¬ at' < 0 := by omega
            clear hor
            go_wp2_with fail
            go_meet
            all_goals exact ⟨rfl, rfl⟩
          · have h3 : at' < 0 := by omega
            have h2 : ¬ (0 : Int) ≤ at' := by omega
            clear hor
            go_wp2_with fail
            go_meet
            all_goals exact ⟨rfl, rfl⟩
      case rest =>
        obtain ⟨rfl, hwc⟩ := hcut
        subst hwc
        clear HSG
        go_upto_region 16 with fail
        have HSL := Lib.hid (show (srt L).length ≤ 1000 by rw [srt_len]; exact HLL.out)
        by_cases hq20 : 20 < qs.length
        · have hqi : (20 : Int) < qs.length := by omega
          have hqd : decide ((20 : Int) < (qs.length : Int)) = true := decide_eq_true hqi
          have hS0 : (fun w' => w'.cell? ⟨w4.heap.size, 0, none⟩ = some (.slice pn L.length cn) ∧ w'.cell? ⟨w4.heap.size, 1, none⟩ = some (.slice pg L.length cg) ∧ Below wc.heap.size wc w') wc.drew := ⟨z0, z1, (Below.refl _ _).drew⟩
          refine wp_region_held_drew (S := (fun w' => w'.cell? ⟨w4.heap.size, 0, none⟩ = some (.slice pn L.length cn) ∧ w'.cell? ⟨w4.heap.size, 1, none⟩ = some (.slice pg L.length cg) ∧ Below wc.heap.size wc w')) (by kernel_rfl) hS0 (fun hS => ?_)
          obtain ⟨wd, hwd⟩ : ∃ wd, wc.drew = wd := ⟨_, rfl⟩
          rw [hwd] at hS ⊢
          clear hwd hS0
          refine wpAnyH_take (i := 0) (v := p) rfl (by kernel_rfl) (by kernel_rfl) (by kernel_rfl) (fun _ _ _ h => h) (.inl ⟨by kernel_rfl, fun w' hS => by go_simp⟩) hS ?_
          simp only [Act.put, List.getElem_toArray, List.getElem_cons_zero, List.getElem_cons_succ, List.setIfInBounds_toArray, List.set_cons_zero, List.set_cons_succ]
          refine wpAnyH_take (i := 2) (v := .pointer (some ⟨w4.heap.size, 0, none⟩)) rfl (by kernel_rfl) (by kernel_rfl) (by kernel_rfl) (fun _ _ _ h => h) (.inl ⟨by kernel_rfl, fun w' hS => by go_simp⟩) hS ?_
          simp only [Act.put, List.getElem_toArray, List.getElem_cons_zero, List.getElem_cons_succ, List.setIfInBounds_toArray, List.set_cons_zero, List.set_cons_succ]
          refine wpAnyH_take (i := 3) (v := .slice pn L.length cn) rfl (by kernel_rfl) (by kernel_rfl) (by kernel_rfl) (fun _ _ _ h => h) (.inl ⟨by kernel_rfl, fun w' hS => by have hh := hS.1; go_simp⟩) hS ?_
          simp only [Act.put, List.getElem_toArray, List.getElem_cons_zero, List.getElem_cons_succ, List.setIfInBounds_toArray, List.set_cons_zero, List.set_cons_succ]
          refine wpAnyH_take (i := 4) (v := .int .i64 L.length) rfl (by kernel_rfl) (by kernel_rfl) (by kernel_rfl) (fun _ _ _ h => h) (.inl ⟨by kernel_rfl, fun w' hS => by go_simp⟩) hS ?_
          simp only [Act.put, List.getElem_toArray, List.getElem_cons_zero, List.getElem_cons_succ, List.setIfInBounds_toArray, List.set_cons_zero, List.set_cons_succ]
          refine wpAnyH_all (rs := [1]) (by kernel_rfl) (by simp) ?_
          intro i' hi'
          obtain rfl : i' = 1 := by simpa using hi'
          clear hi'
          refine op_via rfl (by kernel_rfl) (fun K hK => ?_)
          go_simp
          refine (len_pro L p _ (HTP6.out.below hS.2.2)).mono ?_
          rintro e w8 ⟨rfl, rfl⟩
          refine hK _ _ ⟨hS, ?_⟩
          clear hK K
          refine wpAnyH_take (i := 5) (v := .bool false) rfl (by kernel_rfl) (by kernel_rfl) (by kernel_rfl) (fun _ _ _ h => h) (.inl ⟨by kernel_rfl, fun w' hS => by go_simp⟩) hS ?_
          simp only [Act.put, List.getElem_toArray, List.getElem_cons_zero, List.getElem_cons_succ, List.setIfInBounds_toArray, List.set_cons_zero, List.set_cons_succ]
          refine wpAnyH_take (i := 6) (v := .bool false) rfl (by kernel_rfl) (by kernel_rfl) (by kernel_rfl) (fun _ _ _ h => h) (.inl ⟨by kernel_rfl, fun w' hS => by go_simp⟩) hS ?_
          simp only [Act.put, List.getElem_toArray, List.getElem_cons_zero, List.getElem_cons_succ, List.setIfInBounds_toArray, List.set_cons_zero, List.set_cons_succ]
          refine wpAnyH_take (i := 7) (v := p) rfl (by kernel_rfl) (by kernel_rfl) (by kernel_rfl) (fun _ _ _ h => h) (.inl ⟨by kernel_rfl, fun w' hS => by go_simp⟩) hS ?_
          simp only [Act.put, List.getElem_toArray, List.getElem_cons_zero, List.getElem_cons_succ, List.setIfInBounds_toArray, List.set_cons_zero, List.set_cons_succ]
          refine wpAnyH_take (i := 9) (v := .agg #[.slice pn L.length cn, .slice pg L.length cg]) rfl (by kernel_rfl) (by kernel_rfl) (by kernel_rfl) (fun _ _ _ h => h) (.inl ⟨by kernel_rfl, fun w' hS => by have h1 := hS.1; have h2 := hS.2.1; go_simp⟩) hS ?_
          simp only [Act.put, List.getElem_toArray, List.getElem_cons_zero, List.getElem_cons_succ, List.setIfInBounds_toArray, List.set_cons_zero, List.set_cons_succ]
          refine wpAnyH_all (rs := [8]) (by kernel_rfl) (by simp) ?_
          intro i' hi'
          obtain rfl : i' = 8 := by simpa using hi'
          clear hi'
          refine op_via rfl (by kernel_rfl) (fun K hK => ?_)
          go_simp
          refine (sorted_pro L p _ (HTP6.out.below hS.2.2) HLL.out).mono ?_
          rintro e w7 ⟨v8, rfl, ho8, h8⟩
          have R1 := Lib.hid (RdI.own ho8 rfl)
          replace hS := s_next hS h8
          refine hK _ _ ⟨hS, ?_⟩
          clear hK K ho8 h8
          refine wpAnyH_all (rs := [10]) (by kernel_rfl) (by simp) ?_
          intro i' hi'
          obtain rfl : i' = 10 := by simpa using hi'
          clear hi'
          refine op_via rfl (by kernel_rfl) (fun K hK => ?_)
          go_simp
          refine (sorted_ref L _ _ (dt_below HDT6.out hS.2.2) HG.out HLL.out).mono ?_
          rintro e w9 ⟨v9, rfl, ho8, h8⟩
          have R2 := Lib.hid (RdI.own ho8 rfl)
          replace R1 := Lib.hid (R1.out.below h8)
          replace hS := s_next hS h8
          refine hK _ _ ⟨hS, ?_⟩
          clear hK K ho8 h8
          refine wpAnyH_all (rs := [11]) (by kernel_rfl) (by simp) ?_
          intro i' hi'
          obtain rfl : i' = 11 := by simpa using hi'
          clear hi'
          refine op_via rfl (by kernel_rfl) (fun K hK => ?_)
          go_simp
          refine (ints_ref (srt L) _ _ _ R1.out R2.out HSL.out).mono ?_
          rintro e w8 ⟨rfl, h8⟩
          replace hS := s_next hS h8
          refine hK _ _ ⟨hS, ?_⟩
          clear hK K h8
          refine wpAnyH_take (i := 12) (v := .bool false) rfl (by kernel_rfl) (by kernel_rfl) (by kernel_rfl) (fun _ _ _ h => h) (.inl ⟨by kernel_rfl, fun w' hS => by go_simp⟩) hS ?_
          simp only [Act.put, List.getElem_toArray, List.getElem_cons_zero, List.getElem_cons_succ, List.setIfInBounds_toArray, List.set_cons_zero, List.set_cons_succ]
          refine wpAnyH_take (i := 13) (v := .bool false) rfl (by kernel_rfl) (by kernel_rfl) (by kernel_rfl) (fun _ _ _ h => h) (.inl ⟨by kernel_rfl, fun w' hS => by go_simp⟩) hS ?_
          simp only [Act.put, List.getElem_toArray, List.getElem_cons_zero, List.getElem_cons_succ, List.setIfInBounds_toArray, List.set_cons_zero, List.set_cons_succ]
          refine wpAnyH_take (i := 14) (v := .bool false) rfl (by kernel_rfl) (by kernel_rfl) (by kernel_rfl) (fun _ _ _ h => h) (.inl ⟨by kernel_rfl, fun w' hS => by go_simp⟩) hS ?_
          simp only [Act.put, List.getElem_toArray, List.getElem_cons_zero, List.getElem_cons_succ, List.setIfInBounds_toArray, List.set_cons_zero, List.set_cons_succ]
          refine wpAnyH_take (i := 15) (v := .slice pq qs.length cq) rfl (by kernel_rfl) (by kernel_rfl) (by kernel_rfl) (fun _ _ _ h => h) (.inl ⟨by kernel_rfl, fun w' hS => by go_simp⟩) hS ?_
          simp only [Act.put, List.getElem_toArray, List.getElem_cons_zero, List.getElem_cons_succ, List.setIfInBounds_toArray, List.set_cons_zero, List.set_cons_succ]
          refine wpAnyH_take (i := 16) (v := .int .i64 qs.length) rfl (by kernel_rfl) (by kernel_rfl) (by kernel_rfl) (fun _ _ _ h => h) (.inl ⟨by kernel_rfl, fun w' hS => by go_simp⟩) hS ?_
          simp only [Act.put, List.getElem_toArray, List.getElem_cons_zero, List.getElem_cons_succ, List.setIfInBounds_toArray, List.set_cons_zero, List.set_cons_succ]
          refine wpAnyH_take (i := 17) (v := .bool true) rfl (by kernel_rfl) (by kernel_rfl) (by kernel_rfl) (fun _ _ _ h => h) (.inl ⟨by kernel_rfl, fun w' hS => by go_simp⟩) hS ?_
          simp only [Act.put, List.getElem_toArray, List.getElem_cons_zero, List.getElem_cons_succ, List.setIfInBounds_toArray, List.set_cons_zero, List.set_cons_succ]
          refine wpAnyH_take (i := 18) (v := .bool true) rfl (by kernel_rfl) (by kernel_rfl) (by kernel_rfl) (fun _ _ _ h => h) (.inl ⟨by kernel_rfl, fun w' hS => by go_simp⟩) hS ?_
          simp only [Act.put, List.getElem_toArray, List.getElem_cons_zero, List.getElem_cons_succ, List.setIfInBounds_toArray, List.set_cons_zero, List.set_cons_succ]
          refine wpAnyH_take (i := 19) (v := .bool true) rfl (by kernel_rfl) (by kernel_rfl) (by kernel_rfl) (fun _ _ _ h => h) (.inl ⟨by kernel_rfl, fun w' hS => by go_simp⟩) hS ?_
          simp only [Act.put, List.getElem_toArray, List.getElem_cons_zero, List.getElem_cons_succ, List.setIfInBounds_toArray, List.set_cons_zero, List.set_cons_succ]
          refine wpAnyH_take (i := 20) (v := undef) rfl (by kernel_rfl) (by kernel_rfl) (by kernel_rfl) (fun _ _ _ h => h) (.inr ⟨by kernel_rfl, rfl⟩) hS ?_
          simp only [Act.put, List.getElem_toArray, List.getElem_cons_zero, List.getElem_cons_succ, List.setIfInBounds_toArray, List.set_cons_zero, List.set_cons_succ]
          refine wpAnyH_take (i := 21) (v := undef) rfl (by kernel_rfl) (by kernel_rfl) (by kernel_rfl) (fun _ _ _ h => h) (.inr ⟨by kernel_rfl, rfl⟩) hS ?_
          simp only [Act.put, List.getElem_toArray, List.getElem_cons_zero, List.getElem_cons_succ, List.setIfInBounds_toArray, List.set_cons_zero, List.set_cons_succ]
          refine wpAnyH_take (i := 22) (v := undef) rfl (by kernel_rfl) (by kernel_rfl) (by kernel_rfl) (fun _ _ _ h => h) (.inr ⟨by kernel_rfl, rfl⟩) hS ?_
          simp only [Act.put, List.getElem_toArray, List.getElem_cons_zero, List.getElem_cons_succ, List.setIfInBounds_toArray, List.set_cons_zero, List.set_cons_succ]
          refine wpAnyH_take (i := 23) (v := .bool true) rfl (by kernel_rfl) (by kernel_rfl) (by kernel_rfl) (fun _ _ _ h => h) (.inl ⟨by kernel_rfl, fun w' hS => by go_simp⟩) hS ?_
          simp only [Act.put, List.getElem_toArray, List.getElem_cons_zero, List.getElem_cons_succ, List.setIfInBounds_toArray, List.set_cons_zero, List.set_cons_succ]
          refine wpAnyH_done (by kernel_rfl) ?_ _
          obtain ⟨z6, z7, hb8⟩ := hS
          have HB8 := Lib.hid (hb8.trans ((Below.refl _ _).drew.mono hb8.size))
          have HBE := Lib.hid (HBW.out.trans (HB8.out.mono HBW.out.size))
          clear hb8
          go_upto_region 17 with fail
          go_region_held3 (fun w' => w'.cell? ⟨w4.heap.size, 0, none⟩ = some (.slice pn L.length cn) ∧ w'.cell? ⟨w4.heap.size, 1, none⟩ = some (.slice pg L.length cg) ∧ Below wc.heap.size wc w')
            (first | exact ⟨z6, z7, HB8.out⟩ | assumption)
            ((first
              | (go_at_call 9; refine (len_pro L p _ (HTP6.out.below ((by assumption : _ ∧ _ ∧ Below wc.heap.size wc _).2.2))).mono ?_; rintro e w14 ⟨rfl, rfl⟩)))
          go_wp2_with fail
          go_ret
          exact ⟨rfl, HBE.out⟩
        · have hqi : ¬ (20 : Int) < qs.length := by omega
          have hqd : decide ((20 : Int) < (qs.length : Int)) = false := decide_eq_false hqi
          by_cases hl100 : 100 < ls.length
          · have hli : (100 : Int) < ls.length := by omega
            have hld : decide ((100 : Int) < (ls.length : Int)) = true := decide_eq_true hli
            go_region_held3 (fun w' => w'.cell? ⟨w4.heap.size, 0, none⟩ = some (.slice pn L.length cn) ∧ w'.cell? ⟨w4.heap.size, 1, none⟩ = some (.slice pg L.length cg) ∧ Below wc.heap.size wc w')
              (first | exact ⟨z0, z1, (Below.refl _ _).drew⟩ | exact s_next (by assumption) h8 | assumption)
              ((first
                | (go_at_call 9; refine (len_pro L p _ (HTP6.out.below ((by assumption : _ ∧ _ ∧ Below wc.heap.size wc _).2.2))).mono ?_; rintro e w8 ⟨rfl, rfl⟩)
                | (go_at_call 11; refine (sorted_pro L p _ (HTP6.out.below ((by assumption : _ ∧ _ ∧ Below wc.heap.size wc _).2.2)) HLL.out).mono ?_; rintro e w8 ⟨v8, rfl, ho8, h8⟩; have R1 := Lib.hid (RdI.own ho8 rfl); clear ho8)
                | (go_at_call 12; refine (sorted_ref L _ _ (dt_below HDT6.out ((by assumption : _ ∧ _ ∧ Below wc.heap.size wc _).2.2)) HG.out HLL.out).mono ?_; rintro e w9 ⟨v9, rfl, ho8, h8⟩; have R2 := Lib.hid (RdI.own ho8 rfl); replace R1 := Lib.hid (R1.out.below h8); clear ho8)
                | (go_at_call 10; refine (ints_ref (srt L) _ _ _ R1.out R2.out HSL.out).mono ?_; rintro e w8 ⟨rfl, h8⟩)))
            obtain ⟨⟨z6, z7, hb8⟩⟩ : Nonempty (w8.cell? ⟨w4.heap.size, 0, none⟩ = some (.slice pn L.length cn) ∧ w8.cell? ⟨w4.heap.size, 1, none⟩ = some (.slice pg L.length cg) ∧ Below wc.heap.size wc w8) := ⟨by assumption⟩
            have HB8 := Lib.hid (hb8.trans ((Below.refl _ _).drew.mono hb8.size))
            have HBE := Lib.hid (HBW.out.trans (HB8.out.mono HBW.out.size))
            clear hb8
            go_upto_region 17 with fail
            go_region_held3 (fun w' => w'.cell? ⟨w4.heap.size, 0, none⟩ = some (.slice pn L.length cn) ∧ w'.cell? ⟨w4.heap.size, 1, none⟩ = some (.slice pg L.length cg) ∧ Below wc.heap.size wc w')
              (first | exact ⟨z6, z7, HB8.out⟩ | assumption)
              ((first
                | (go_at_call 9; refine (len_pro L p _ (HTP6.out.below ((by assumption : _ ∧ _ ∧ Below wc.heap.size wc _).2.2))).mono ?_; rintro e w14 ⟨rfl, rfl⟩)))
            go_wp2_with fail
            go_ret
            exact ⟨rfl, HBE.out⟩
          · have hli : ¬ (100 : Int) < ls.length := by omega
            have hld : decide ((100 : Int) < (ls.length : Int)) = false := decide_eq_false hli
            go_region_held3 (fun w' => w'.cell? ⟨w4.heap.size, 0, none⟩ = some (.slice pn L.length cn) ∧ w'.cell? ⟨w4.heap.size, 1, none⟩ = some (.slice pg L.length cg) ∧ Below wc.heap.size wc w')
              (first | exact ⟨z0, z1, (Below.refl _ _).drew⟩ | exact s_next (by assumption) h8 | assumption)
              ((first
                | (go_at_call 9; refine (len_pro L p _ (HTP6.out.below ((by assumption : _ ∧ _ ∧ Below wc.heap.size wc _).2.2))).mono ?_; rintro e w8 ⟨rfl, rfl⟩)
                | (go_at_call 11; refine (sorted_pro L p _ (HTP6.out.below ((by assumption : _ ∧ _ ∧ Below wc.heap.size wc _).2.2)) HLL.out).mono ?_; rintro e w8 ⟨v8, rfl, ho8, h8⟩; have R1 := Lib.hid (RdI.own ho8 rfl); clear ho8)
                | (go_at_call 12; refine (sorted_ref L _ _ (dt_below HDT6.out ((by assumption : _ ∧ _ ∧ Below wc.heap.size wc _).2.2)) HG.out HLL.out).mono ?_; rintro e w9 ⟨v9, rfl, ho8, h8⟩; have R2 := Lib.hid (RdI.own ho8 rfl); replace R1 := Lib.hid (R1.out.below h8); clear ho8)
                | (go_at_call 10; refine (ints_ref (srt L) _ _ _ R1.out R2.out HSL.out).mono ?_; rintro e w8 ⟨rfl, h8⟩)))
            obtain ⟨⟨z6, z7, hb8⟩⟩ : Nonempty (w8.cell? ⟨w4.heap.size, 0, none⟩ = some (.slice pn L.length cn) ∧ w8.cell? ⟨w4.heap.size, 1, none⟩ = some (.slice pg L.length cg) ∧ Below wc.heap.size wc w8) := ⟨by assumption⟩
            go_wp2_with fail
            go_loopw [142] (fun i wr => ∃ q : Nat, i = .int .i64 q ∧ q ≤ qs.length ∧ Hid (Below wc.heap.size wc wr)) (fun i _ => qs.length - (intOf i).toNat)
            case atStart => exact ⟨0, rfl, Nat.zero_le _, Lib.hid hb8⟩
            case round =>
              obtain ⟨q, rfl, hq, HB9⟩ := hrel
              by_cases hlt : q < qs.length
              · obtain ⟨b, off, e, c1⟩ := (HA6.out.below HB9.out).cell hlt
                subst e
                obtain ⟨x, hx⟩ : ∃ x, qs[q] = x := ⟨_, rfl⟩
                rw [hx] at c1
                have HXS := Lib.hid (show x.size ≤ 16777216 by have := HAS.out x (by rw [← hx]; exact List.getElem_mem hlt); omega)
                have hq1 : (q : Int) < qs.length := by omega
                have hal := HAL.out
                have HLT := Lib.hid hlt
                have HPL := Lib.hid (show (prefixN L x).length ≤ 1000 by have h9 := HSL.out; unfold prefixN; split; exact Nat.le_trans (fltP_len _ _ _) h9; simp)
                have HNL := Lib.hid (show (nearN L x).length ≤ 1000 by have h9 := HSL.out; unfold nearN; split; exact Nat.le_trans (nearOf_le _ _ _).2 h9; simp)
                have HFP := Lib.hid (find_pro L p x _ (HTP6.out.below HB9.out) HG.out (HT6.out.below HB9.out (Nat.le_refl _)))
                clear hx hlt
                go_wp2_with fail
                refine HFP.out.mono ?_
                unfold FindIs
                obtain ⟨r, hr⟩ : ∃ r, (findN L x).getD 0 = r := ⟨_, rfl⟩
                obtain ⟨ok, hok⟩ : ∃ ok, (findN L x).isSome = ok := ⟨_, rfl⟩
                have HRR := Lib.hid hr
                have HOK := Lib.hid hok
                rw [hr, hok]
                rintro e w9 ⟨rfl, hb9⟩
                have HB10 := Lib.hid (HB9.out.trans (hb9.mono HB9.out.size))
                obtain ⟨y0, y1, _, _⟩ := two_cells ((HB10.out.block _ (by have := (Array.getElem?_eq_some_iff.1 HX6.out).1; exact this)).trans HX6.out)
                have HFD := Lib.hid (find_ref L (.agg #[.slice pn L.length cn, .slice pg L.length cg]) x _ (dt_below HDT6.out HB10.out) HG.out HLL.out)
                clear hb9 hr hok c1
                go_wp2_with fail
                refine HFD.out.mono ?_
                unfold FindIs
                rw [HRR.out, HOK.out]
                rintro e w13 ⟨rfl, hb13⟩
                have HB13 := Lib.hid (HB10.out.trans (hb13.mono HB10.out.size))
                obtain ⟨x0, x1, _, _⟩ := two_cells ((HB13.out.block _ (by have := (Array.getElem?_eq_some_iff.1 HX6.out).1; exact this)).trans HX6.out)
                clear hb13 y0 y1 z6 z7 hb8
                go_upto_region 23 with fail
                go_region_held3 (fun w' => w'.cell? ⟨w4.heap.size, 0, none⟩ = some (.slice pn L.length cn) ∧ w'.cell? ⟨w4.heap.size, 1, none⟩ = some (.slice pg L.length cg) ∧ Below wc.heap.size wc w')
                  (first | exact ⟨x0, x1, HB13.out.trans ((Below.refl _ _).drew.mono HB13.out.size)⟩ | exact s_next (by assumption) h8)
                  ((first
                    | (go_at_call 15; refine (prefix_pro L p x _ (HTP6.out.below ((by assumption : _ ∧ _ ∧ Below wc.heap.size wc _).2.2)) HLL.out HXS.out (HT6.out.below ((by assumption : _ ∧ _ ∧ Below wc.heap.size wc _).2.2) (Nat.le_refl _))).mono ?_; rintro e w10 ⟨v10, rfl, ho8, h8⟩; have R1 := Lib.hid (RdI.own ho8 rfl); clear ho8)
                    | (go_at_call 16; refine (prefix_ref L _ x _ (dt_below HDT6.out ((by assumption : _ ∧ _ ∧ Below wc.heap.size wc _).2.2)) HG.out HLL.out HXS.out).mono ?_; rintro e w11 ⟨v11, rfl, ho8, h8⟩; have R2 := Lib.hid (RdI.own ho8 rfl); replace R1 := Lib.hid (R1.out.below h8); clear ho8)
                    | (go_at_call 17; refine (near_pro L p x _ (HTP6.out.below ((by assumption : _ ∧ _ ∧ Below wc.heap.size wc _).2.2)) HLL.out (HT6.out.below ((by assumption : _ ∧ _ ∧ Below wc.heap.size wc _).2.2) (Nat.le_refl _))).mono ?_; rintro e w10 ⟨v10, rfl, ho8, h8⟩; have R1 := Lib.hid (RdI.own ho8 rfl); clear ho8)
                    | (go_at_call 18; refine (near_ref L _ x _ (dt_below HDT6.out ((by assumption : _ ∧ _ ∧ Below wc.heap.size wc _).2.2)) HG.out HLL.out).mono ?_; rintro e w11 ⟨v11, rfl, ho8, h8⟩; have R2 := Lib.hid (RdI.own ho8 rfl); replace R1 := Lib.hid (R1.out.below h8); clear ho8)
                    | (go_at_call 10; refine (ints_ref _ _ _ _ R1.out R2.out (by first | exact HPL.out | exact HNL.out)).mono ?_; rintro e w12 ⟨rfl, h8⟩; clear R1 R2)))
                obtain ⟨⟨_, _, hb14⟩⟩ : Nonempty (w12.cell? ⟨w4.heap.size, 0, none⟩ = some (.slice pn L.length cn) ∧ w12.cell? ⟨w4.heap.size, 1, none⟩ = some (.slice pg L.length cg) ∧ Below wc.heap.size wc w12) := ⟨by assumption⟩
                have HB14 := Lib.hid hb14
                clear hb14
                go_wp2_with fail
                go_roundw
                case measure => have := HLT.out; simp [intOf]; omega
                case rel => exact ⟨q + 1, by go_num, HLT.out, HB14⟩
              · obtain rfl : q = qs.length := by omega
                have hlz : ¬ (qs.length : Int) < qs.length := by omega
                obtain ⟨y0, y1, _, _⟩ := two_cells ((HB9.out.block _ (by have := (Array.getElem?_eq_some_iff.1 HX6.out).1; exact this)).trans HX6.out)
                clear hlt
                go_wp2_with fail
                refine (callsIn_wide.1 (goes_in L p _ _ (HTP6.out.below HB9.out) (dt_below HDT6.out HB9.out) HG.out HLL.out)).mono ?_
                rintro e w10 ⟨rfl, hb10⟩
                have HB11 := Lib.hid (HBW.out.trans ((HB9.out.trans (hb10.mono HB9.out.size)).mono HBW.out.size))
                clear hb10
                go_wp2_with fail
                go_ret
                exact ⟨rfl, HB11.out⟩

set_option maxRecDepth 100000 in
theorem contract (H : Type) (enc : TypeId × Value → H) (W : World) (base : Nat) (args : Array Value) (ds gs : List (DataW H)) (before : List MemPlace)
    (hval : ∀ (j : Nat) t v, Tryz.f3.params[j]? = some t → args[j]? = some v → Value.okWide Tryz.prog W .any base t v)
    (hW : DataW.Whole enc Tryz.prog Tryz.f3.params.toList Rows.namesFindsSpec.vars false W args.toList ds gs before) (hk : Rows.uptoSmall H (ds ++ gs) = true) (hT : Tabs W) :
    Calls Tryz.prog 3 args W fun e W' => ∃ v, e = .returned v ∧ Rows.namesFindsSpec.post enc Tryz.prog Tryz.f3 false true false false W args v W' := by
  have hW' := hW
  obtain ⟨p, q, hA0, hV, rfl, hfz, hnd⟩ := hW
  have hA : DataW.TrodAll enc Tryz.prog W 0 (fun _ => true) true Tryz.f3.params.toList args.toList ds p := hA0
  rw [Tryz.params3] at hA hval
  obtain ⟨v0, vs0, d0, ds0, p0, q0, hargs, rfl, rfl, h0, r0⟩ := trodAll_cons hA
  obtain ⟨v1, vs1, d1, ds1, p1, q1, rfl, rfl, rfl, h1, r1⟩ := trodAll_cons r0
  obtain ⟨v2, vs2, d2, ds2, p2, q2, rfl, rfl, rfl, h2, r2⟩ := trodAll_cons r1
  obtain ⟨rfl, rfl, rfl⟩ := trodAll_nil r2
  obtain rfl : args = #[v0, v1, v2] := by cases args; simp_all
  obtain ⟨rfl, rfl⟩ := trodVars_none hV
  have hk0 := h0
  obtain ⟨l0, hR0, hD0⟩ := texs_read h0 (okWide_slice Tryz.underlying22 (hval 0 22 v0 rfl rfl))
  have hk1 := h1
  obtain ⟨l1, hR1, hD1⟩ := texs_read h1 (okWide_slice Tryz.underlying22 (hval 1 22 v1 rfl rfl))
  obtain ⟨a2, rfl, rfl, rfl, w2⟩ := open_int Tryz.underlying3 (hval 2 3 v2 rfl rfl) h2
  clear hA0
  simp only [List.append_nil] at hk
  have hb0 := of_decide_eq_true hk
  simp only [Rows.uptoBulkAll, Rows.uptoBulk] at hb0
  have size0 := texs_bulk hD0 (n := 1048576) (by omega)
  have size1 := texs_bulk hD1 (n := 1048576) (by omega)
  refine (walk v0 l0 v1 l1 a2 W hR0 size0 hR1 size1 w2 hT).mono fun e W' ⟨he, hg⟩ => ?_
  subst he
  have hlt := hW'.lt
  exact ⟨_, rfl, post_of_below (pa := (p0 ++ (p1 ++ ([] ++ [])))) (pv := []) hW' (fun _ _ _ => trodAll_cons_mk (shut_bool Tryz.underlying4 _) trodAll_mk0) (fun sp hsp => (trodAll_cons_mk (Go.WideElems.Trod_stays (by kernel_rfl) (by kernel_rfl) (of_decide_eq_true (by kernel_rfl)) hk0 (fun p hp => hg.same (hlt p (by simp [hp]))) (fun p hp => hsp p (by simp [hp]))) (trodAll_cons_mk (Go.WideElems.Trod_stays (by kernel_rfl) (by kernel_rfl) (of_decide_eq_true (by kernel_rfl)) hk1 (fun p hp => hg.same (hlt p (by simp [hp]))) (fun p hp => hsp p (by simp [hp]))) (trodAll_cons_mk (shut_int Tryz.underlying3 w2) trodAll_mk0)))) (fun _ _ => rfl) rfl hg (ok_one (by kernel_rfl) rfl (okWide_bool_mk Tryz.underlying4 _))⟩

theorem witness_row (os : Os) {H : Type} (enc : TypeId × Value → H) :
    (Rows.OpenSpec.upto Rows.namesFindsSpec).preRow enc Tryz.prog Tryz.f3 Rows.namesFindsUptoRow.domain false Rows.namesFindsUptoRow.laid ((laidWorld os).forCall (fun _ _ => 0) ⟨#[], #[.slice none 0 0, .slice none 0 0, .int .i64 0], []⟩).memory #[.slice none 0 0, .slice none 0 0, .int .i64 0] := by
  have hw : (DataW.whole enc Tryz.prog ((laidWorld os).forCall (fun _ _ => 0) ⟨#[], #[.slice none 0 0, .slice none 0 0, .int .i64 0], []⟩).memory Tryz.f3.params.toList Rows.namesFindsSpec.vars false (#[.slice none 0 0, .slice none 0 0, .int .i64 0] : Array Value).toList 8).map (fun x => (x.1, x.2.1)) =
      some ([.nil, .nil, .lit (.int .i64 0)], []) := by kernel_rfl
  obtain ⟨⟨x1, x2, x3⟩, hx, hx1⟩ := Option.map_eq_some_iff.1 hw
  simp only [Prod.mk.injEq] at hx1
  obtain ⟨rfl, rfl⟩ := hx1
  exact OpenSpec.preRow_of_cond 8 hx (by kernel_rfl) (fun k hk => by cases hk; kernel_rfl) (by kernel_rfl) (laid_met os _)

set_option maxRecDepth 100000 in
theorem lifted (os : Os) (started : os.Started) (H : Type) (enc : TypeId × Value → H) (F : Stop.Interp) :
    ReturnsInHanded {} Tryz.checked os 3 .any ((Rows.OpenSpec.upto Rows.namesFindsSpec).preRow enc Tryz.prog Tryz.f3 Rows.namesFindsUptoRow.domain false Rows.namesFindsUptoRow.laid) (((Rows.OpenSpec.upto Rows.namesFindsSpec).at F).post enc Tryz.prog Tryz.f3 false true false false) := by
  refine returnsInHanded_of_row (C := Tryz.checked) (s := (Rows.OpenSpec.upto Rows.namesFindsSpec)) own started (by kernel_rfl) Tryz.func3
    (witness_row_at (enc := enc) (C := Tryz.checked) false (laidWorld os) #[.slice none 0 0, .slice none 0 0, .int .i64 0] rfl (by kernel_rfl) (by kernel_rfl) (by kernel_rfl) (witness_row os enc)) ?_
  intro W base args ds gs before hval hW _ hcond hsz hL hS _
  exact contract H enc W base args ds gs before hval hW (hcond _ rfl) (tabs_of hL hS)

set_option maxHeartbeats 16000000 in
theorem closed : joinedFacts Tryz.pinned.checked.prog 3 Tryz.f3 ((Rows.OpenSpec.upto Rows.namesFindsSpec)).bare Rows.namesFindsUptoRow = true := by
  unfold joinedFacts
  repeat' (with_reducible refine Bool.and_eq_true_iff.2 ⟨?_, ?_⟩)
  all_goals (as_aux_lemma => kernel_rfl)
theorem named : Tryz.pinned.checked.prog.funcNamed Rows.namesFindsUptoRow.func = some 3 := by kernel_rfl
theorem inst : (Tryz.f3).isInstance Tryz.pinned.checked.prog Rows.namesFindsUptoRow.origin Rows.namesFindsUptoRow.targs := of_decide_eq_true (by kernel_rfl)
theorem wrap : (Tryz.f3).isWrapper Tryz.pinned.checked.prog Rows.namesFindsUptoRow.wrapper Rows.namesFindsUptoRow.mainSum := by
  unfold Func.isWrapper
  first | (rw [if_pos (by decide +kernel)]; kernel_rfl) | (rw [if_neg (by decide +kernel)]; exact ⟨rfl, rfl⟩)
theorem row : Rows.NamesFindsUptoSaid :=
  OpenClaim.holds_of_cond 3 Tryz.f3 rfl rfl rfl rfl rfl rfl rfl ⟨rfl, rfl, rfl, rfl, rfl⟩ rfl rfl rfl rfl rfl named Tryz.func3 closed inst wrap
    (fun os started H enc _ F => by rw [OpenClaim.pre_eq_preRow]; exact lifted os started H enc F)

theorem plain (f : FuncId) (fn : Func) (hf : Tryz.pinned.checked.prog.funcNamed Rows.namesFindsUptoRow.func = some f) (hfn : Tryz.pinned.checked.prog.funcs[f]? = some fn) :
    true = Tryz.pinned.checked.prog.looks [] ∧ ∀ (j : Nat) t, fn.params[j]? = some t → Tryz.pinned.checked.prog.wantsStandIn t = false := by
  obtain rfl : f = 3 := Option.some.inj ((show Tryz.prog.funcNamed Rows.namesFindsUptoRow.func = some 3 by kernel_rfl).symm.trans hf) |>.symm
  obtain rfl : fn = Tryz.f3 := (Option.some.inj (Tryz.func3.symm.trans hfn)).symm
  refine ⟨by kernel_rfl, fun j t ht => ?_⟩
  rw [Tryz.params3] at ht
  have hm : t ∈ [22, 22, 3] := by simpa using Array.mem_of_getElem? ht
  simp only [List.mem_cons, List.mem_nil_iff, or_false] at hm
  rcases hm with rfl | rfl | rfl
  · exact (show Tryz.prog.wantsStandIn 22 = false by kernel_rfl)
  · exact (show Tryz.prog.wantsStandIn 22 = false by kernel_rfl)
  · exact (show Tryz.prog.wantsStandIn 3 = false by kernel_rfl)

theorem proved : Rows.NamesFindsUptoCardSaid :=
  Claim7.holds_tied_plain_at .later [] _ _ _ _ row (fun _ h => by cases h) (by kernel_rfl) (fun _ h => by cases h) namesFindsUpto_row_tie rfl ⟨rfl, rfl⟩ (by kernel_rfl) rfl plain (by kernel_rfl)
end Go.Proofs.YtoeknophfcfahaaGreatDoor.namesFinds
