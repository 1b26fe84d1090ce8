/- Pieces and a directory in memory; under each Norm the number of the first one that has it: the program's firstOfNorm of layer 11. -/
import Derived.Test.YtdagombmgcnofaaGreatDoorNpi
import Derived.Test.YtdagombmgcnofaaGreatDoorPost
import Derived.Maps.OwnSet
namespace Go.Proofs.YtdagombmgcnofaaGreatDoor
open Go.RowKit Go.Maps Go.Sort
set_option linter.unusedVariables false
set_option linter.unusedSimpArgs false

/-- A piece of a paragraph, as far as references go. -/
structure Pc where
  kind : Int
  txt : ByteArray
  name : ByteArray
  line : Int
  col : Int
/-- A row of structs of so many cells in memory: what is said of each. -/
def RdRow {α : Type} (size : Nat) (E : World → Nat → Nat → α → Prop) (W : World) (v : Value) (l : List α) : Prop :=
  ∃ (pa : Option Addr) (cap : Nat), v = .slice pa l.length cap ∧ l.length ≤ cap ∧ cap ≤ maxLen ∧ ∀ j (hj : j < l.length), ∃ b off, pa = some ⟨b, off, none⟩ ∧ E W b (off + j * size) l[j]
theorem RdRow.form {α : Type} {size : Nat} {E : World → Nat → Nat → α → Prop} {W : World} {v : Value} {l : List α} (h : RdRow size E W v l) : ∃ (pa : Option Addr) (cap : Nat), v = .slice pa l.length cap ∧ l.length ≤ cap ∧ cap ≤ maxLen := by
  obtain ⟨pa, cap, e, h1, h2, _⟩ := h
  exact ⟨pa, cap, e, h1, h2⟩
theorem RdRow.at_ {α : Type} {size : Nat} {E : World → Nat → Nat → α → Prop} {W : World} {pa : Option Addr} {n cap : Nat} {l : List α} (h : RdRow size E W (.slice pa n cap) l) {j : Nat} (hj : j < l.length) : ∃ b off, pa = some ⟨b, off, none⟩ ∧ E W b (off + j * size) l[j] := by
  obtain ⟨pa', cap', e, _, _, h3⟩ := h
  cases e
  exact h3 j hj
theorem RdRow.below {α : Type} {size : Nat} {E : World → Nat → Nat → α → Prop} (hE : ∀ {W W' : World} {b o : Nat} {x : α}, E W b o x → Below W.heap.size W W' → E W' b o x) {W W' : World} {v : Value} {l : List α} (h : RdRow size E W v l) (hb : Below W.heap.size W W') : RdRow size E W' v l := by
  obtain ⟨pa, cap, e, h1, h2, h3⟩ := h
  refine ⟨pa, cap, e, h1, h2, fun j hj => ?_⟩
  obtain ⟨b, off, e, h⟩ := h3 j hj
  exact ⟨b, off, e, hE h hb⟩
theorem cell_below {W W' : World} {b o : Nat} {v : Value} (h : W.cell? ⟨b, o, none⟩ = some v) (hb : Below W.heap.size W W') : W'.cell? ⟨b, o, none⟩ = some v := (hb.cell (p := ⟨b, o, none⟩) (cellIn h)).trans h
/-- A piece's five cells. -/
def InlIs (W : World) (b o : Nat) (p : Pc) : Prop := W.cell? ⟨b, o, none⟩ = some (.int .i64 p.kind) ∧ W.cell? ⟨b, o + 1, none⟩ = some (.string p.txt) ∧ W.cell? ⟨b, o + 2, none⟩ = some (.string p.name) ∧ W.cell? ⟨b, o + 3, none⟩ = some (.int .i64 p.line) ∧ W.cell? ⟨b, o + 4, none⟩ = some (.int .i64 p.col)
theorem InlIs.below {W W' : World} {b o : Nat} {p : Pc} (h : InlIs W b o p) (hb : Below W.heap.size W W') : InlIs W' b o p := by
  obtain ⟨h0, h1, h2, h3, h4⟩ := h
  exact ⟨cell_below h0 hb, cell_below h1 hb, cell_below h2 hb, cell_below h3 hb, cell_below h4 hb⟩
/-- A directory, as far as references go: the Norms and the kinds. -/
structure Nd where
  nam : ByteArray
  norm : ByteArray
  src : Int
  at_ : Int
  kind : Int
  line : Int
def NdIs (W : World) (b o : Nat) (d : Nd) : Prop := W.cell? ⟨b, o, none⟩ = some (.string d.nam) ∧ W.cell? ⟨b, o + 1, none⟩ = some (.string d.norm) ∧ W.cell? ⟨b, o + 2, none⟩ = some (.int .i64 d.src) ∧ W.cell? ⟨b, o + 3, none⟩ = some (.int .i64 d.at_) ∧ W.cell? ⟨b, o + 4, none⟩ = some (.int .i64 d.kind) ∧ W.cell? ⟨b, o + 5, none⟩ = some (.int .i64 d.line)
theorem NdIs.below {W W' : World} {b o : Nat} {d : Nd} (h : NdIs W b o d) (hb : Below W.heap.size W W') : NdIs W' b o d := by
  obtain ⟨h0, h1, h2, h3, h4, h5⟩ := h
  exact ⟨cell_below h0 hb, cell_below h1 hb, cell_below h2 hb, cell_below h3 hb, cell_below h4 hb, cell_below h5 hb⟩

/-- The number of the first of a name. -/
def foundN (l : List Nd) (s : ByteArray) : Option Nat := if (nrm s).2 = 0 then l.findIdx? (fun d => d.norm.data.toList == (nm s).data.toList) else none
/-- The number of the first of a Norm. -/
def firstN (l : List Nd) (x : ByteArray) : Option Nat := l.findIdx? fun d => d.norm.data.toList == x.data.toList
theorem found_first {l : List Nd} {s : ByteArray} : foundN l s = if (nrm s).2 = 0 then firstN l (nm s) else none := rfl
theorem bytes_beq {a b : ByteArray} : (a.data.toList == b.data.toList) = true ↔ a = b := by
  constructor
  · intro h
    have h9 := eq_of_beq h
    cases a; cases b
    simpa using h9
  · rintro rfl
    simp
theorem first_snoc (l : List Nd) (d : Nd) (x : ByteArray) : firstN (l ++ [d]) x = (firstN l x).or (if d.norm = x then some l.length else none) := by
  unfold firstN
  rw [List.findIdx?_append]
  congr 1
  by_cases h : d.norm = x
  · subst h
    rw [if_pos rfl]
    simp [List.findIdx?_cons]
  · rw [if_neg h]
    have : (d.norm.data.toList == x.data.toList) = false := by
      cases e : (d.norm.data.toList == x.data.toList)
      · rfl
      · exact absurd (bytes_beq.1 e) h
    simp only [List.findIdx?_cons, List.findIdx?_nil, this]
    rfl
/-- A map that tells of each Norm the number of the first one. -/
structure Fst (D : DataW Unit) (l : List Nd) : Prop where
  tidy : Tidy D
  has : ∀ x, Maps.has D (keyL x) = (firstN l x).isSome
  at_ : ∀ x j, firstN l x = some j → ∀ z, D.atKey (keyL x) z = .lit (.int .i64 (j : Nat))
theorem Fst.nil : Fst (.map []) [] := ⟨tidy_empty, fun x => by simp [Maps.has, firstN], fun x j h => by simp [firstN] at h⟩
theorem Fst.seen {D : DataW Unit} {l : List Nd} (h : Fst D l) {d : Nd} (hd : Maps.has D (keyL d.norm) = true) : Fst D (l ++ [d]) := by
  have hs : (firstN l d.norm).isSome = true := (h.has d.norm).symm.trans hd
  have e : ∀ x, firstN (l ++ [d]) x = firstN l x := fun x => by
    rw [first_snoc]
    by_cases hx : d.norm = x
    · subst hx
      obtain ⟨j, hj⟩ := Option.isSome_iff_exists.1 hs
      rw [hj]
      rfl
    · rw [if_neg hx, Option.or_none]
  exact ⟨h.tidy, fun x => by rw [e]; exact h.has x, fun x j hj => h.at_ x j ((e x).symm.trans hj)⟩
theorem Fst.put {D : DataW Unit} {l : List Nd} (h : Fst D l) {d : Nd} (hd : Maps.has D (keyL d.norm) = false) : Fst (D.put (keyL d.norm) (.lit (.int .i64 (l.length : Nat)))) (l ++ [d]) := by
  have hs : firstN l d.norm = none := by
    have := (h.has d.norm).symm.trans hd
    simpa using this
  refine ⟨h.tidy.put (keyL_key _) _, fun x => ?_, fun x j hj z => ?_⟩
  · by_cases e : d.norm = x
    · subst e
      rw [has_put_same h.tidy.isMap (keyL_key _), first_snoc, hs, if_pos rfl]
      rfl
    · rw [has_put_other (fun e' => e (keyL_inj e').symm), h.has, first_snoc, if_neg e, Option.or_none]
  · rw [first_snoc] at hj
    by_cases e : d.norm = x
    · subst e
      rw [hs, if_pos rfl] at hj
      obtain rfl : l.length = j := by simpa using hj
      exact atKey_put_same h.tidy.isMap (keyL_key _) _ _
    · rw [if_neg e, Option.or_none] at hj
      rw [atKey_put_other (fun e' => e (keyL_inj e').symm)]
      exact h.at_ x j hj z
def FMap (w : World) (M : Nat) (l : List Nd) : Prop := ∃ (n : Nat) (D : DataW Unit), n ≤ l.length ∧ w.ownsMap Tryz.prog 9 (plainElem Tryz.prog 3) M n D ∧ Fst D l
theorem FMap.lt {w : World} {M : Nat} {l : List Nd} (h : FMap w M l) : M < w.heap.size := by
  obtain ⟨n, D, _, h1, _⟩ := h
  exact h1.lt
theorem FMap.block {w w' : World} {M : Nat} {l : List Nd} (h : FMap w M l) (e : w'.heap[M]? = w.heap[M]?) : FMap w' M l := by
  obtain ⟨n, D, hn, ⟨es, ck, h1, h2⟩, h3⟩ := h
  exact ⟨n, D, hn, ⟨es, ck, e.trans h1, h2⟩, h3⟩
theorem FMap.below {w w' : World} {M : Nat} {l : List Nd} (h : FMap w M l) (hb : Below w.heap.size w w') : FMap w' M l := h.block (hb.block M h.lt)

set_option maxRecDepth 100000 in
set_option maxHeartbeats 1500000 in
theorem first_pro (l : List Nd) (v : Value) (w : World) (h : RdRow 6 NdIs w v l) (hl : l.length ≤ 4611686018427387904) (hs : ∀ d ∈ l, d.norm.size ≤ maxLen) : Calls Tryz.prog 104 #[v] w fun e w' => e = .returned (.map (some w.heap.size)) ∧ FMap w' w.heap.size l ∧ Below w.heap.size w w' := by
  obtain ⟨pa, cap, rfl, h1, h2⟩ := h.form
  have HR := Lib.hid h
  have HL := Lib.hid hl
  have HS := Lib.hid hs
  have hmm := @run_makeMap Tryz.prog
  clear h h1 h2 hs
  go_enter Tryz.func104, Tryz.ntmps104
  go_wp2_with fail
  go_loopw [11] (fun i wr => ∃ k : Nat, i = .int .i64 k ∧ k ≤ l.length ∧ Hid (FMap wr w.heap.size (l.take k)) ∧ Hid (Below w.heap.size w wr)) (fun i _ => l.length - (intOf i).toNat)
  case atStart => exact ⟨0, rfl, Nat.zero_le _, Lib.hid ⟨0, .map [], Nat.zero_le _, World.ownsMap_made _ _ _ _, Fst.nil⟩, Lib.hid ((Below.refl _ _).alloc (Nat.le_refl _) _)⟩
  case round =>
    obtain ⟨k, rfl, hk, HM, HB⟩ := hrel
    by_cases hlt : k < l.length
    · obtain ⟨b, off, e, hE⟩ := (RdRow.below (E := NdIs) (fun h hb => NdIs.below h hb) HR.out HB.out).at_ hlt
      subst e
      obtain ⟨d, hd⟩ : ∃ d, l[k] = d := ⟨_, rfl⟩
      rw [hd] at hE
      have HSD := Lib.hid (HS.out d (by rw [← hd]; exact List.getElem_mem hlt))
      have HTK := Lib.hid (show l.take (k + 1) = l.take k ++ [d] by rw [List.take_succ_eq_append_getElem hlt, hd])
      have HTL := Lib.hid (show (l.take k).length = k by simp; omega)
      obtain ⟨ts, hts⟩ : ∃ ts, l.take k = ts := ⟨_, rfl⟩
      rw [hts] at HM HTK HTL
      obtain ⟨c0, c1, c2, c3, c4, c5⟩ := hE
      obtain ⟨nam, norm, src, at_, kind, line⟩ := d
      dsimp only at c0 c1 c2 c3 c4 c5 HSD
      have hk1 : (k : Int) < l.length := by omega
      have HLT := Lib.hid hlt
      obtain ⟨n, D, hn, hown, hF⟩ := HM.out
      have hA : Below wr.heap.size wr (wr.alloc (.cells #[.string nam, .string norm, .int .i64 src, .int .i64 at_, .int .i64 kind, .int .i64 line] 78)) := (Below.refl _ _).alloc (Nat.le_refl _) _
      have hX := World.alloc_heap_new wr (.cells #[.string nam, .string norm, .int .i64 src, .int .i64 at_, .int .i64 kind, .int .i64 line] 78)
      have HO := Lib.hid (show (wr.alloc (.cells #[.string nam, .string norm, .int .i64 src, .int .i64 at_, .int .i64 kind, .int .i64 line] 78)).ownsMap Tryz.prog 9 (plainElem Tryz.prog 3) w.heap.size n D by
        obtain ⟨es, ck, h1, h2⟩ := hown
        exact ⟨es, ck, (hA.block _ (Array.getElem?_eq_some_iff.1 h1).1).trans h1, h2⟩)
      have x1 : (wr.alloc (.cells #[.string nam, .string norm, .int .i64 src, .int .i64 at_, .int .i64 kind, .int .i64 line] 78)).cell? ⟨wr.heap.size, 1, none⟩ = some (.string norm) := by unfold World.cell?; rw [hX]; rfl
      have HBA := Lib.hid (HB.out.trans (hA.mono HB.out.size))
      have HF := Lib.hid hF
      have HNN := Lib.hid hn
      clear hd hts hlt hown hF hX hA
      by_cases hin : Maps.has D (keyL norm) = true
      · have hhas : Maps.has D (.string norm.data.toList) = true := hin
        have HFS := Lib.hid (HF.out.seen (d := ⟨nam, norm, src, at_, kind, line⟩) hin)
        clear hin
        go_wp2_with (at_lookup; go_loud (refine wpList_lookup_own_ok_int _ rfl _ _ 215 rfl 9 3 .i64 law Tryz.underlying215 Tryz.underlying3 (zeroI _) w.heap.size n D rfl HO.out _ _ rfl (Go.WideMaps.keyOf_string_mk Tryz.underlying9 HSD.out) ?_); intro c hat hwc)
        go_roundw
        case measure => have := HLT.out; simp [intOf]; omega
        case rel => exact ⟨k + 1, by go_num, HLT.out, Lib.hid (by rw [HTK.out]; exact ⟨n, D, by have := HNN.out; simp; omega, HO.out, HFS.out⟩), HBA⟩
      · have hf : Maps.has D (keyL norm) = false := by simpa using hin
        have hhas : Maps.has D (.string norm.data.toList) = false := hf
        have HFS := Lib.hid (HF.out.put (d := ⟨nam, norm, src, at_, kind, line⟩) hf)
        have HML := Lib.hid (show n < maxLen by have := HNN.out; have := HTL.out; have := HL.out; have := HLT.out; unfold maxLen; omega)
        clear hin hf
        go_wp2_with (first
          | (at_lookup; go_loud (refine wpList_lookup_own_ok_int _ rfl _ _ 215 rfl 9 3 .i64 law Tryz.underlying215 Tryz.underlying3 (zeroI _) w.heap.size n D rfl HO.out _ _ rfl (Go.WideMaps.keyOf_string_mk Tryz.underlying9 HSD.out) ?_); intro c hat hwc)
          | (at_mapUpdate; go_loud (refine wpList_mapUpdate_own _ rfl _ _ _ 215 rfl 9 3 law Tryz.underlying215 (plainElem Tryz.prog 3) w.heap.size n D rfl HO.out HML.out _ _ _ rfl rfl (Go.WideMaps.keyOf_string_mk Tryz.underlying9 HSD.out) _ [] (plainElem_int Tryz.underlying3 (WalkArith.wf_i64 (by have := HL.out; have := HLT.out; omega))) ?_); intro w3 hown3 hgrow3; have HO3 := Lib.hid hown3; have HG3 := Lib.hid hgrow3; clear hown3 hgrow3))
        go_roundw
        case measure => have := HLT.out; simp [intOf]; omega
        case rel =>
          refine ⟨k + 1, by go_num, HLT.out, Lib.hid ?_, Lib.hid (HBA.out.grown HG3.out HBA.out.size (fun r e => by cases e; exact Nat.le_refl _))⟩
          rw [HTK.out]
          refine ⟨n + 1, _, by have := HNN.out; simp; omega, HO3.out, ?_⟩
          have h9 := HFS.out
          rw [HTL.out] at h9
          exact h9
    · obtain rfl : k = l.length := by omega
      have hlz : ¬ ((l.length : Int) < l.length) := by omega
      clear hlt
      go_wp2_with fail
      go_ret
      have h9 := HM.out
      rw [List.take_length] at h9
      exact ⟨rfl, h9, HB.out⟩
def kindAt (l : List Nd) (t : Nat) : Int := (l[t]?.map (·.kind)).getD 0
theorem first_lt {l : List Nd} {x : ByteArray} {t : Nat} (h : firstN l x = some t) : t < l.length := by
  unfold firstN at h
  rw [List.findIdx?_eq_some_iff_getElem] at h
  exact h.1
end Go.Proofs.YtdagombmgcnofaaGreatDoor
