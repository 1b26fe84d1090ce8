/- What is proved: LayoutHits holds of all lines, layouts and places (the statement's second form). Its condition: what comes in is of bulk at most 1048576. Part 4: its texts. -/
import Derived.Test.YtalomeialegmiaaGreatDoorKLayoutHits1
import Derived.Test.YtalomeialegmiaaGreatDoorKLayoutHits3
import Derived.Lib.FrozenHead2
import Derived.Lib.OthersKept
import Derived.Lib.RuneBytes
import Derived.Laws.StructEq
import Derived.BigQuiet
import Derived.Deep.CutRange
section
namespace Go.Proofs.YtalomeialegmiaaGreatDoor.Tb
open Go.RowKit Go.Maps

theorem sizeB : (Tryz.prog.info? 155).map (·.size) = some 2 := by kernel_rfl
theorem infoB5 : (Tryz.prog.info? 5).map (fun i => (i.zero, i.size, i.bytes)) = some (some (.int .u8 0), 1, 1) := by kernel_rfl
abbrev BAt (B b : Nat) (bs : List Value) (w : World) : Prop := Lib.BuilderAtF 155 5 B b (.pointer (some ⟨b, 0, none⟩)) bs w
abbrev BIs (B b : Nat) (bs : List Value) (w : World) : Prop := Lib.IsBuilderF 155 5 B b bs w
/-- A call has left the builder with bs, and all else but rows of bytes as it was. -/
def Built (B b : Nat) (bs : List Value) (w w' : World) : Prop := BAt B b bs w' ∧ Below B w w' ∧ Lib.OthersKept 5 (some b) w w'
def Wrote (v : Value) (B b : Nat) (bs : List Value) (w : World) (e : Ending) (w' : World) : Prop := e = .returned v ∧ Built B b bs w w'

set_option maxRecDepth 100000 in
set_option maxHeartbeats 1000000 in
theorem check_used (b : Nat) (w : World) (h0 : w.cell? ⟨b, 0, none⟩ = some (.pointer (some ⟨b, 0, none⟩))) :
    Calls Tryz.prog 129 #[.pointer (some ⟨b, 0, none⟩)] w fun e w' => e = .returned (.tuple #[]) ∧ w' = w := by
  obtain ⟨j, hj, _⟩ := Option.map_eq_some_iff.1 sizeB
  go_enter Tryz.func129, Tryz.ntmps129
  go_wp2
  rw [Lib.run_neq_ptr_same w _ Tryz.underlying153 hj]
  go_wp2
  go_end0
  exact ⟨rfl, rfl⟩

set_option maxRecDepth 100000 in
set_option maxHeartbeats 1000000 in
theorem check_fresh (b : Nat) (w : World) (h0 : w.cell? ⟨b, 0, none⟩ = some (.pointer none)) (hsh : w.shape? b = some (155, 2)) (hfz : w.frozen? ⟨b, 0, none⟩ = false) :
    Calls Tryz.prog 129 #[.pointer (some ⟨b, 0, none⟩)] w fun e w' => e = .returned (.tuple #[]) ∧ w' = w.setCell ⟨b, 0, none⟩ (.pointer (some ⟨b, 0, none⟩)) := by
  obtain ⟨j, hj, hjs⟩ := Option.map_eq_some_iff.1 sizeB
  go_enter Tryz.func129, Tryz.ntmps129
  go_wp2
  rw [Lib.run_to_unsafe w ⟨b, 0, none⟩ Tryz.underlying153 Tryz.underlying232 hj (by rw [hjs]; decide) hsh (Nat.zero_lt_succ 1)]
  simp only [Result.andThen]
  rw [Oper.upon_value]
  go_wp2
  rw [run_callFunc_extern Tryz.func161 (by kernel_rfl) (by kernel_rfl) (by kernel_rfl) (e := Extern.AbiNoEscape.same) (by kernel_rfl)]
  rw [Lib.run_noEscape]
  simp only [Result.andThen]
  rw [Oper.upon_value]
  go_wp2
  rw [Lib.run_from_unsafe w ⟨b, 0, none⟩ Tryz.underlying232 Tryz.underlying153 hj hsh Tryz.Builder_Extra_169.liesBuilder]
  simp only [Result.andThen]
  rw [Oper.upon_value]
  go_wp2
  go_end0
  exact ⟨rfl, rfl⟩

theorem check_pro (B b : Nat) (bs : List Value) (w : World) (h : BIs B b bs w) :
    Calls Tryz.prog 129 #[.pointer (some ⟨b, 0, none⟩)] w (Wrote (.tuple #[]) B b bs w) := by
  rcases h with h | h
  · refine (check_fresh b w h.cell0 h.shape h.frozen0).mono ?_
    rintro e w' ⟨rfl, rfl⟩
    exact ⟨rfl, h.used _, (Below.refl B w).setCell (p := ⟨b, 0, none⟩) h.1 _, (Lib.OthersKept.refl _ _ w).setCell ⟨b, 0, none⟩ rfl _⟩
  · refine (check_used b w h.cell0).mono ?_
    rintro e w' ⟨rfl, rfl⟩
    exact ⟨rfl, h, Below.refl B _, Lib.OthersKept.refl _ _ _⟩
/-- What the slice of a builder's bytes looks like. -/
theorem bld_form {B : Nat} {v : Value} {n : Nat} {xs : List Value} {w : World} (h : w.ownsRowF B 5 1 v n xs) : ∃ a c, v = .slice a n c := by
  rcases h.2 with ⟨hv, h0⟩ | ⟨g, cap, cur, fz, hv, _⟩
  · exact ⟨none, 0, by rw [hv, h0]⟩
  · exact ⟨_, _, hv⟩
theorem built_put0 {B b : Nat} {v v' : Value} {bs more : List Value} {w w1 w2 : World} (h1 : B ≤ b) (hbk : w1.heap[b]? = some (.cells #[.pointer (some ⟨b, 0, none⟩), v] 155 (0, 0)))
    (hown : w1.ownsRowF B 5 1 v bs.length bs) (hne : v.ownBlock ≠ some b) (hb1 : Below B w w1) (hk1 : Lib.OthersKept 5 (some b) w w1)
    (hown' : w2.ownsRowF B 5 1 v' (bs ++ more).length (bs ++ more)) (hgrow : w1.grownBy w2 v.ownBlock) :
    w2.heap[b]? = some (.cells #[.pointer (some ⟨b, 0, none⟩), v] 155 (0, 0)) ∧ Built B b (bs ++ more) w (w2.setCell ⟨b, 1, none⟩ v') := by
  have hlt : b < w1.heap.size := (Array.getElem?_eq_some_iff.1 hbk).1
  have hb2 : w2.heap[b]? = some (.cells #[.pointer (some ⟨b, 0, none⟩), v] 155 (0, 0)) := by
    rw [hgrow.block b hlt (fun e => hne e.symm)]
    exact hbk
  refine ⟨hb2, Lib.BuilderAtF.put (T := 155) (e := 5) h1 hb2 hown' (by decide), ?_, (hk1.grown hgrow (Lib.ownsRowF_kind hown)).setCell ⟨b, 1, none⟩ rfl _⟩
  exact (hb1.grown hgrow (by have := hb1.size; omega) (fun k hk => (hown.lt k hk).1)).setCell (p := ⟨b, 1, none⟩) h1 _

set_option maxRecDepth 100000 in
set_option maxHeartbeats 2000000 in
theorem str_pro (B b : Nat) (bs : List Value) (t : ByteArray) (w : World) (h : BIs B b bs w) (hlen : bs.length + t.size ≤ 140737488355328) (hBw : B ≤ w.heap.size) :
    Calls Tryz.prog 86 #[.pointer (some ⟨b, 0, none⟩), .string t] w (Wrote (.tuple #[.int .i64 t.size, .nilIface]) B b (bs ++ Lib.strCells t) w) := by
  obtain ⟨i0, hi, hz0, hz1, hz2⟩ := info_parts infoB5
  go_enter Tryz.func86, Tryz.ntmps86
  go_wp2_with fail
  refine (check_pro B b bs _ h).mono ?_
  rintro e w1 ⟨rfl, ⟨hB, v, hbk, hown, hne⟩, hb1, hk1⟩
  have c1 : w1.cell? ⟨b, 1, none⟩ = some v := by rw [Lib.cell_of_heap hbk]; rfl
  have K := Lib.hid (fun (w2 : World) (v' : Value) => built_put0 (v' := v') (more := Lib.strCells t) (w2 := w2) hB hbk hown hne hb1 hk1)
  have HO := Lib.hid hown
  have L1 := Lib.hid (show bs.length + t.size ≤ maxLen by unfold maxLen; omega)
  have L2 := Lib.hid (show (bs.length + t.size) * 1 ≤ 140737488355328 by omega)
  have L3 := Lib.hid (show B ≤ w1.heap.size by have := hb1.size; omega)
  clear hlen hBw hbk hown hne hb1 hk1 h
  go_wp2_with (at_builtin; go_loud (refine Lib.wpList_append_own_stringF _ rfl _ _ 147 9 rfl B 5 i0 Tryz.underlying147 Tryz.underlying9 hi hz0 hz1 hz2 _ _ _ rfl HO.out t rfl ?c3 ?c4 ?c5 ?_))
  case c3 => exact L1.out
  case c4 => have := L2.out; omega
  case c5 => exact L3.out
  intro v' w2 hown' hgrow _
  obtain ⟨g, cap, rfl⟩ := bld_form hown'
  obtain ⟨hb2, hbt⟩ := K.out w2 _ (by simpa [Lib.strCells_length] using hown') hgrow
  have d0 : w2.cell? ⟨b, 0, none⟩ = some (.pointer (some ⟨b, 0, none⟩)) := by rw [Lib.cell_of_heap hb2]; rfl
  have d1 : w2.cell? ⟨b, 1, none⟩ = some v := by rw [Lib.cell_of_heap hb2]; rfl
  have f1 : w2.frozen? ⟨b, 1, none⟩ = false := Lib.frozen_of_heap hb2 1
  have HT := Lib.hid hbt
  clear hbt hown' hgrow hb2
  go_wp2_with fail
  go_ret2
  exact ⟨rfl, HT.out⟩

theorem bis_below {B b : Nat} {bs : List Value} {w w' : World} (h : BIs B b bs w) (hb : Below w.heap.size w w') : BIs B b bs w' := by
  have hg : w.grownBy w' none := ⟨hb.os, hb.tape, hb.output, hb.size, fun k hk _ => hb.block k hk⟩
  have go : ∀ p, Lib.BuilderAtF 155 5 B b p bs w → Lib.BuilderAtF 155 5 B b p bs w' := by
    rintro p ⟨h1, v, hk, ho, hne⟩
    exact ⟨h1, v, (hb.block b (Array.getElem?_eq_some_iff.1 hk).1).trans hk, ho.kept hg (by cases hv : v.ownBlock <;> simp), hne⟩
  exact h.imp (go _) (go _)
end Go.Proofs.YtalomeialegmiaaGreatDoor.Tb
end
section
namespace Go.Proofs.YtalomeialegmiaaGreatDoor.Tb
open Go.RowKit Go.Maps
set_option linter.unusedVariables false
set_option linter.unusedSimpArgs false
def txtL : List Gl → List UInt8
  | [] => []
  | g :: l => g.t.data.toList ++ txtL l
theorem txtL_app (a b : List Gl) : txtL (a ++ b) = txtL a ++ txtL b := by
  induction a with
  | nil => rfl
  | cons g a ih => simp only [List.cons_append, txtL, ih, List.append_assoc]
theorem txtL_take {l : List Gl} {k : Nat} (h : k < l.length) : txtL (l.take (k + 1)) = txtL (l.take k) ++ l[k].t.data.toList := by
  rw [List.take_succ_eq_append_getElem h, txtL_app]
  simp [txtL]
theorem txtL_le (l : List Gl) (k : Nat) : (txtL (l.take k)).length ≤ (txtL l).length := by
  have e : l = l.take k ++ l.drop k := (List.take_append_drop _ _).symm
  have e2 : (txtL l).length = (txtL (l.take k)).length + (txtL (l.drop k)).length := by conv => lhs; rw [e, txtL_app, List.length_append]
  omega
def txtS (l : List Gl) : ByteArray := ⟨(txtL l).toArray⟩
theorem sizeT (t : ByteArray) : t.data.toList.length = t.size := by rw [Array.length_toList]; rfl
set_option maxRecDepth 100000 in
set_option maxHeartbeats 2000000 in
theorem textOf_pro {P : Nat → Prop} (l : List Gl) (v : Value) (w : World) (h : RdG P w v l) (hz : (txtL l).length ≤ 1000000000) : Calls Tryz.prog 38 #[v] w (SaysL (.string (txtS l)) w) := by
  obtain ⟨pa, cap, rfl, hc1, hc2⟩ := sliceG h
  have HH := Lib.hid h
  have HZ := Lib.hid hz
  obtain ⟨n, hn⟩ : ∃ n, l.length = n := ⟨_, rfl⟩
  have HN := Lib.hid hn
  rw [hn] at HH hc1 ⊢
  have hn62 : n ≤ 9223372036854775807 := by omega
  clear h hz hn hc1
  go_enter Tryz.func38, Tryz.ntmps38
  go_wp2_with fail
  go_loopw [8] (fun i wr => ∃ k : Nat, i = .int .i64 k ∧ k ≤ n ∧ Hid (BIs w.heap.size w.heap.size (Lib.byteCells (txtL (l.take k))) wr) ∧ Hid (Below w.heap.size w wr)) (fun i _ => n - (intOf i).toNat)
  case atStart => exact ⟨0, rfl, Nat.zero_le _, Lib.hid (Lib.IsBuilderF.of (Lib.fresh_isBuilder 155 5 w)), Lib.hid ((Below.refl _ w).alloc (Nat.le_refl _) _)⟩
  case round =>
    obtain ⟨k, rfl, hk, HBI, HB⟩ := hrel
    by_cases hlt : k < n
    · have hkl : k < l.length := by rw [HN.out]; exact hlt
      obtain ⟨b, off, rfl, _, d0, d1, d2, d3, d4⟩ := (HH.out.below HB.out).at_ hkl
      have ht := txtL_take hkl
      have hsz : (txtL (l.take k)).length + l[k].t.size ≤ 140737488355328 := by
        have h1 := txtL_le l (k + 1)
        have := HZ.out
        rw [ht, List.length_append, sizeT] at h1
        omega
      obtain ⟨x, hx⟩ : ∃ x, l[k] = x := ⟨_, rfl⟩
      rw [hx] at d0 d1 d2 d3 d4 ht hsz
      have hA := below_box wr (boxG x)
      have HB2 := Lib.hid (HB.out.trans (hA.mono HB.out.size))
      have HBI2 := Lib.hid (bis_below HBI.out hA)
      unfold boxG at HB2 HBI2
      have k1 : (k : Int) < n := by omega
      have HLT := Lib.hid hlt
      have HT := Lib.hid ht
      have HSZ := Lib.hid hsz
      clear ht hsz hx hA hlt
      go_wp2_with fail
      refine (str_pro w.heap.size w.heap.size _ x.t _ HBI2.out (by rw [Lib.byteCells_length]; exact HSZ.out) HB2.out.size).mono ?_
      rintro e w3 ⟨rfl, b3, z3, _⟩
      have HB3 := Lib.hid (HB2.out.trans z3)
      have HBI3 := Lib.hid (show BIs w.heap.size w.heap.size (Lib.byteCells (txtL (l.take (k + 1)))) w3 by rw [HT.out, Lib.byteCells_append, ← Lib.strCells_eq]; exact .inr b3)
      clear b3 z3
      go_wp2_with fail
      go_roundw
      case measure => have := HLT.out; simp [intOf]; omega
      case rel => exact ⟨k + 1, by go_num, HLT.out, HBI3, HB3⟩
    · obtain rfl : k = n := by omega
      have hz1 : ¬ (k : Int) < k := by omega
      have hbi := HBI.out
      rw [show l.take k = l by rw [← HN.out, List.take_length]] at hbi
      have HS := Lib.hid (Tryz.Builder_String_any_k w.heap.size w.heap.size (txtL l) wr hbi HB.out.size)
      clear hlt hbi
      go_wp2_with fail
      refine HS.out.mono ?_
      rintro e w2 ⟨rfl, _, hb, _⟩
      have HB2 := Lib.hid (HB.out.trans hb)
      clear hb
      go_wp2_with fail
      go_ret
      exact ⟨rfl, HB2.out⟩
end Go.Proofs.YtalomeialegmiaaGreatDoor.Tb
end
section
namespace Go.Proofs.YtalomeialegmiaaGreatDoor.Tb
open Go.RowKit Go.Maps
set_option linter.unusedVariables false
set_option linter.unusedSimpArgs false
structure Rc where
  row : Int
  col : Int
  wide : Int
  link : Int
  deriving DecidableEq
def rcRow (r : Rc) : List Value := [.int .i64 r.row, .int .i64 r.col, .int .i64 r.wide, .int .i64 r.link]
def rowsQ (l : List Rc) : List Value := l.flatMap rcRow
theorem rowsQ_len : ∀ l : List Rc, (rowsQ l).length = l.length * 4
  | [] => rfl
  | r :: l => by
    have := rowsQ_len l
    unfold rowsQ at this ⊢
    rw [List.flatMap_cons, List.length_append, this, List.length_cons]
    simp [rcRow]
    omega
theorem rowsQ_at : ∀ (l : List Rc) (j k : Nat) (hj : j < l.length), k < 4 → (rowsQ l)[j * 4 + k]? = (rcRow l[j])[k]?
  | [], j, k, hj, _ => absurd hj (by simp)
  | r :: l, 0, k, _, hk => by
    unfold rowsQ
    rw [List.flatMap_cons, Nat.zero_mul, Nat.zero_add, List.getElem?_append_left (by simp [rcRow]; exact hk)]
    rfl
  | r :: l, j + 1, k, hj, hk => by
    have h := rowsQ_at l j k (by simpa using hj) hk
    unfold rowsQ at h ⊢
    rw [List.flatMap_cons, List.getElem?_append_right (by simp [rcRow]; omega), show (rcRow r).length = 4 from rfl, show (j + 1) * 4 + k - 4 = j * 4 + k by omega, h]
    simp
theorem rowsQ_snoc (l : List Rc) (r : Rc) : rowsQ (l ++ [r]) = rowsQ l ++ rcRow r := by simp [rowsQ]
theorem rowsQ_app (a b : List Rc) : rowsQ (a ++ b) = rowsQ a ++ rowsQ b := by simp [rowsQ]
theorem rcRow_one (r : Rc) : ∀ u ∈ rcRow r, u.oneCell' = true := by
  intro u hr
  simp only [rcRow, List.mem_cons, List.not_mem_nil, or_false] at hr
  rcases hr with rfl | rfl | rfl | rfl <;> rfl
theorem rowsQ_one (l : List Rc) : ∀ u ∈ rowsQ l, u.oneCell' = true := by
  intro u hu
  obtain ⟨r, _, hr⟩ := List.mem_flatMap.1 hu
  exact rcRow_one r u hr
theorem rowsQ_last (l : List Rc) (r : Rc) (z : Int) : (rowsQ (l ++ [r])).set (l.length * 4 + 2) (.int .i64 z) = rowsQ (l ++ [⟨r.row, r.col, z, r.link⟩]) := by
  rw [rowsQ_snoc, rowsQ_snoc, List.set_append_right _ _ (by rw [rowsQ_len]; omega), rowsQ_len, show l.length * 4 + 2 - l.length * 4 = 2 by omega]
  rfl
def RcIs (W : World) (b o : Nat) (r : Rc) : Prop :=
  W.cell? ⟨b, o, none⟩ = some (.int .i64 r.row) ∧ W.cell? ⟨b, o + 1, none⟩ = some (.int .i64 r.col) ∧ W.cell? ⟨b, o + 2, none⟩ = some (.int .i64 r.wide) ∧ W.cell? ⟨b, o + 3, none⟩ = some (.int .i64 r.link)
/-- Rects in memory, in blocks that P holds of. -/
def RdQ (P : Nat → Prop) (w : World) (v : Value) (l : List Rc) : Prop :=
  ∃ (pa : Option Addr) (cap : Nat), v = .slice pa l.length cap ∧ l.length ≤ cap ∧ cap ≤ maxLen ∧ ∀ j (hj : j < l.length), ∃ b off, pa = some ⟨b, off, none⟩ ∧ P b ∧ RcIs w b (off + j * 4) l[j]
section
variable {P Q : Nat → Prop} {w w' : World} {v : Value} {l : List Rc}
theorem RcIs.keep {b o : Nat} {x : Rc} (h : RcIs w b o x) (hk : ∀ a : Addr, a.block = b → w'.cell? a = w.cell? a) : RcIs w' b o x :=
  ⟨(hk ⟨b, o, none⟩ rfl).trans h.1, (hk ⟨b, o + 1, none⟩ rfl).trans h.2.1, (hk ⟨b, o + 2, none⟩ rfl).trans h.2.2.1, (hk ⟨b, o + 3, none⟩ rfl).trans h.2.2.2⟩
theorem RdQ.keep (h : RdQ P w v l) (hk : ∀ a : Addr, P a.block → a.block < w.heap.size → w'.cell? a = w.cell? a) : RdQ P w' v l := by
  obtain ⟨pa, cap, e, h1, h2, h4⟩ := h
  refine ⟨pa, cap, e, h1, h2, fun j hj => ?_⟩
  obtain ⟨b, off, e, hp, hc⟩ := h4 j hj
  exact ⟨b, off, e, hp, hc.keep fun a ha => hk a (by rw [ha]; exact hp) (by rw [ha]; exact cellInL hc.1)⟩
theorem RdQ.below (h : RdQ P w v l) (hb : Below w.heap.size w w') : RdQ P w' v l := h.keep fun _ _ ha => hb.cell ha
theorem RdQ.imp (h : RdQ P w v l) (hq : ∀ b, b < w.heap.size → P b → Q b) : RdQ Q w v l := by
  obtain ⟨pa, cap, e, h1, h2, h4⟩ := h
  refine ⟨pa, cap, e, h1, h2, fun j hj => ?_⟩
  obtain ⟨b, off, e, hp, hc⟩ := h4 j hj
  exact ⟨b, off, e, hq b (cellInL hc.1) hp, hc⟩
theorem RdQ.form (h : RdQ P w v l) : ∃ (pa : Option Addr) (cap : Nat), v = .slice pa l.length cap ∧ l.length ≤ cap ∧ cap ≤ maxLen := by
  obtain ⟨pa, cap, e, h1, h2, _⟩ := h
  exact ⟨pa, cap, e, h1, h2⟩
theorem RdQ.at_ {pa : Option Addr} {n cap : Nat} (h : RdQ P w (.slice pa n cap) l) {j : Nat} (hj : j < l.length) : ∃ b off, pa = some ⟨b, off, none⟩ ∧ P b ∧ RcIs w b (off + j * 4) l[j] := by
  obtain ⟨pa', cap', e, _, _, h4⟩ := h
  cases e
  exact h4 j hj
theorem RdQ.own {base n : Nat} (h : w.ownsRow base 53 4 v n (rowsQ l)) (hn : n = l.length) : RdQ (base ≤ ·) w v l := by
  subst hn
  rcases h.2 with ⟨rfl, h0⟩ | ⟨g, cap, cur, rfl, hb, hg, h1, h2, h3, h4⟩
  · have : l = [] := List.eq_nil_of_length_eq_zero h0
    subst this
    exact ⟨none, 0, rfl, Nat.le_refl _, Nat.zero_le _, fun i hi => absurd hi (by simp)⟩
  · refine ⟨_, cap, rfl, h1, h2, fun j hj => ⟨g, 0, rfl, hb, ?_⟩⟩
    have c : ∀ k, k < 4 → w.cell? ⟨g, j * 4 + k, none⟩ = (rcRow l[j])[k]? := fun k hk => by
      rw [World.ownsRow.cellAt h (j * 4 + k) (by omega), rowsQ_at l j k hj hk]
    rw [Nat.zero_add]
    exact ⟨c 0 (by omega), c 1 (by omega), c 2 (by omega), c 3 (by omega)⟩
end
/-- The last rect of a row of the call's own. -/
theorem own_lastQ {W : World} {B n : Nat} {v : Value} {l : List Rc} {r : Rc} (h : W.ownsRow B 53 4 v n (rowsQ (l ++ [r]))) (hn : n = l.length + 1) : ∃ g cap, v = .slice (some ⟨g, 0, none⟩) n cap ∧ B ≤ g ∧ g < W.heap.size ∧ n ≤ cap ∧ W.frozen? ⟨g, l.length * 4 + 2, none⟩ = false ∧ W.cell? ⟨g, l.length * 4 + 2, none⟩ = some (.int .i64 r.wide) ∧
    ∀ z, (W.setCell ⟨g, l.length * 4 + 2, none⟩ (.int .i64 z)).ownsRow B 53 4 v n (rowsQ (l ++ [⟨r.row, r.col, z, r.link⟩])) := by
  rcases h.2 with ⟨rfl, h1⟩ | ⟨g, cap, cur, rfl, hb, hg, h1, h2, h3, h4⟩
  · omega
  · refine ⟨g, cap, rfl, hb, (Array.getElem?_eq_some_iff.1 hg).1, h1, World.ownsRow.frozenAt h _, ?_, fun z => ?_⟩
    · have := World.ownsRow.cellAt h (l.length * 4 + 2) (by omega)
      rw [this, rowsQ_at (l ++ [r]) l.length 2 (by simp) (by omega)]
      simp [rcRow]
    · rw [← rowsQ_last]
      exact (h.stored (l.length * 4 + 2) (.int .i64 z)).1
theorem infoQ : (Tryz.prog.info? 53).map (fun i => (i.zero, i.size, i.bytes)) = some (some (.agg #[.int .i64 0, .int .i64 0, .int .i64 0, .int .i64 0]), 4, 32) := by kernel_rfl
/-- The last one wider. -/
def addW (rs : List Rc) (d : Int) : List Rc := match rs.getLast? with
  | some l => rs.dropLast ++ [⟨l.row, l.col, wrap64 (l.wide + d), l.link⟩]
  | none => rs
theorem addW_snoc (rs : List Rc) (l : Rc) (d : Int) : addW (rs ++ [l]) d = rs ++ [⟨l.row, l.col, wrap64 (l.wide + d), l.link⟩] := by
  simp [addW]
/-- Where links stand in a line: the rects so far, the cell, the link ahead. -/
structure Qs where
  rs : List Rc
  col : Int
  ah : Int
def qStep (row : Int) (s : Qs) (g : Gl) : Qs :=
  ⟨if g.lk = 0 then s.rs else if g.lk = s.ah then addW s.rs g.wd else s.rs ++ [⟨row, s.col, wrap64 g.wd, g.lk⟩], wrap64 (s.col + g.wd), g.lk⟩
def qRun (row : Int) (l : List Gl) : Qs := l.foldl (qStep row) ⟨[], 0, 0⟩
def rectsM (row : Int) (l : List Gl) : List Rc := (qRun row l).rs
theorem qRun_snoc (row : Int) (l : List Gl) (g : Gl) : qRun row (l ++ [g]) = qStep row (qRun row l) g := by simp [qRun]
def QsOk (s : Qs) (n : Nat) : Prop := (s.ah ≠ 0 → s.rs ≠ []) ∧ s.rs.length ≤ n ∧ (-9223372036854775808 ≤ s.col ∧ s.col ≤ 9223372036854775807)
theorem addW_len (rs : List Rc) (d : Int) : (addW rs d).length = rs.length := by
  unfold addW
  split
  · rename_i l h
    have : rs ≠ [] := fun e => by rw [e] at h; cases h
    have := List.length_pos_iff.2 this
    simp; omega
  · rfl
theorem wrap_in (z : Int) : -9223372036854775808 ≤ wrap64 z ∧ wrap64 z ≤ 9223372036854775807 := by
  unfold wrap64; omega
theorem qStep_ok (row : Int) {s : Qs} {n : Nat} (h : QsOk s n) (g : Gl) : QsOk (qStep row s g) (n + 1) := by
  obtain ⟨h1, h2, h3⟩ := h
  refine ⟨fun h0 => ?_, ?_, wrap_in _⟩
  · simp only [qStep] at h0 ⊢
    rw [if_neg h0]
    split
    · rename_i he
      intro e
      have := addW_len s.rs g.wd
      rw [e] at this
      exact h1 (by rw [← he]; exact h0) (List.eq_nil_of_length_eq_zero this.symm)
    · simp
  · simp only [qStep]
    split
    · omega
    · split
      · rw [addW_len]; omega
      · simp; omega
theorem qRun_ok (row : Int) (l : List Gl) : QsOk (qRun row l) l.length := by
  have : ∀ (l : List Gl) (s : Qs) (n : Nat), QsOk s n → QsOk (l.foldl (qStep row) s) (n + l.length) := fun l => by
    induction l with
    | nil => intro s n h; exact h
    | cons g l ih =>
      intro s n h
      have := ih _ _ (qStep_ok row h g)
      rw [List.foldl_cons, List.length_cons, show n + (l.length + 1) = n + 1 + l.length by omega]
      exact this
  have := this l ⟨[], 0, 0⟩ 0 ⟨fun h => absurd rfl h, Nat.le_refl _, ⟨by show (-9223372036854775808 : Int) ≤ 0; omega, by show (0 : Int) ≤ 9223372036854775807; omega⟩⟩
  rw [Nat.zero_add] at this
  exact this
def MakesQ (l : List Rc) (w : World) (e : Ending) (w' : World) : Prop := ∃ v, e = .returned v ∧ w'.ownsRow w.heap.size 53 4 v l.length (rowsQ l) ∧ Below w.heap.size w w'
end Go.Proofs.YtalomeialegmiaaGreatDoor.Tb
end
section
namespace Go.Proofs.YtalomeialegmiaaGreatDoor.Tb
open Go.RowKit Go.Maps
set_option linter.unusedVariables false
set_option linter.unusedSimpArgs false
/-- Whether a cell is one of so many from the first on. -/
def inB (cell first wide : Int) : Bool := decide (first ≤ cell) && (decide (0 < wide) && decide (IntKind.u64.wrap (IntKind.u64.wrap cell - IntKind.u64.wrap first) < IntKind.u64.wrap wide))
def hitF (row col : Int) : List Rc → Option Int
  | [] => none
  | r :: l => if r.row = row ∧ inB col r.col r.wide = true then some r.link else hitF row col l
def hitV (o : Option Int) : Value := match o with
  | some z => .tuple #[.int .i64 z, .bool true]
  | none => .tuple #[.int .i64 0, .bool false]
theorem hit_step {row col : Int} {l : List Rc} {k : Nat} (h : k < l.length) : hitF row col (l.drop k) = if l[k].row = row ∧ inB col l[k].col l[k].wide = true then some l[k].link else hitF row col (l.drop (k + 1)) := by
  rw [← List.getElem_cons_drop (h := h)]
  rfl
set_option maxRecDepth 100000 in
theorem lwithin_pro (a b c : Int) (w : World) : Calls Tryz.prog 44 #[.int .i64 a, .int .i64 b, .int .i64 c] w fun e w' => e = .returned (.bool (inB a b c)) ∧ w = w' := by
  obtain ⟨q, hq⟩ : ∃ q, decide (IntKind.u64.wrap (IntKind.u64.wrap a - IntKind.u64.wrap b) < IntKind.u64.wrap c) = q := ⟨_, rfl⟩
  have HE := Lib.hid (show inB a b c = (decide (b ≤ a) && (decide (0 < c) && q)) by unfold inB; rw [hq])
  by_cases h1 : b ≤ a
  · have t1 : decide (b ≤ a) = true := decide_eq_true h1
    rw [t1] at HE
    by_cases h2 : 0 < c
    · have t2 : decide (0 < c) = true := decide_eq_true h2
      rw [t2] at HE
      clear h1 h2
      go_enter Tryz.func44, Tryz.ntmps44
      go_wp2_with fail
      go_ret
      exact ⟨by rw [HE.out]; rfl, rfl⟩
    · have t2 : decide (0 < c) = false := decide_eq_false h2
      rw [t2] at HE
      clear h1 h2 hq
      go_enter Tryz.func44, Tryz.ntmps44
      go_wp2_with fail
      go_ret
      exact ⟨by rw [HE.out]; rfl, rfl⟩
  · have t1 : decide (b ≤ a) = false := decide_eq_false h1
    rw [t1] at HE
    clear h1 hq
    go_enter Tryz.func44, Tryz.ntmps44
    go_wp2_with fail
    go_ret
    exact ⟨by rw [HE.out]; rfl, rfl⟩
/-- A layout by value. -/
def laidV (vl vr vk : Value) (mo : Bool) : Value := .agg #[vl, vr, vk, .bool mo]
set_option maxRecDepth 100000 in
set_option maxHeartbeats 4000000 in
theorem hit_pro {P : Nat → Prop} (rs : List Rc) (vl vr vk : Value) (mo : Bool) (row col : Int) (w : World) (h : RdQ P w vr rs) (h1 : vl.oneCell' = true) (h2 : vk.oneCell' = true) : Calls Tryz.prog 21 #[laidV vl vr vk mo, .int .i64 row, .int .i64 col] w fun e w' => e = .returned (hitV (hitF row col rs)) ∧ Below w.heap.size w w' := by
  obtain ⟨pa, cap, rfl, hc1, hc2⟩ := h.form
  unfold maxLen at hc2
  have HH := Lib.hid h
  obtain ⟨n, hn⟩ : ∃ n, rs.length = n := ⟨_, rfl⟩
  have HN := Lib.hid hn
  rw [hn] at HH hc1 ⊢
  have n62 : n ≤ 9223372036854775807 := by omega
  obtain ⟨O, hO⟩ : ∃ O, hitF row col rs = O := ⟨_, rfl⟩
  have HO := Lib.hid (show hitF row col (rs.drop 0) = O from hO)
  rw [hO]
  unfold laidV
  have HA := Lib.hid (below_box w (.cells #[vl, .slice pa n cap, vk, .bool mo] 29))
  clear h hn hO
  go_enter Tryz.func21, Tryz.ntmps21
  go_wp2_with fail
  go_loopw [13] (fun i wr => ∃ k : Nat, i = .int .i64 k ∧ k ≤ n ∧ Hid (hitF row col (rs.drop k) = O) ∧ Hid (Below w.heap.size w wr)) (fun i _ => n - (intOf i).toNat)
  case atStart => exact ⟨0, rfl, Nat.zero_le _, HO, HA⟩
  case round =>
    obtain ⟨k, rfl, hk, HP, HB⟩ := hrel
    by_cases hlt : k < n
    · have hkl : k < rs.length := by rw [HN.out]; exact hlt
      have k1 : (k : Int) < n := by omega
      have HLT := Lib.hid hlt
      obtain ⟨b, off, rfl, _, d0, d1, d2, d3⟩ := (HH.out.below HB.out).at_ hkl
      have hst := hit_step (row := row) (col := col) hkl
      obtain ⟨r, hr⟩ : ∃ r, rs[k] = r := ⟨_, rfl⟩
      rw [hr] at d0 d1 d2 d3 hst
      have HST := Lib.hid hst
      have hA := below_box wr (.cells #[.int .i64 r.row, .int .i64 r.col, .int .i64 r.wide, .int .i64 r.link] 53)
      have HB2 := Lib.hid (HB.out.trans (hA.mono HB.out.size))
      have HW := Lib.hid (lwithin_pro col r.col r.wide (wr.alloc (.cells #[.int .i64 r.row, .int .i64 r.col, .int .i64 r.wide, .int .i64 r.link] 53)))
      clear hlt hkl hr hst hA
      by_cases hrow : r.row = row
      · have t1 : (r.row == row) = true := by simp [hrow]
        cases hi : inB col r.col r.wide with
        | true =>
          rw [hi] at HW
          have HE := Lib.hid (show some r.link = O by rw [← HP.out, HST.out, if_pos ⟨hrow, hi⟩])
          clear hrow hi
          go_wp2_with fail
          refine HW.out.mono ?_
          rintro e w5 ⟨rfl, rfl⟩
          go_wp2_with fail
          go_ret2
          exact ⟨by rw [← HE.out]; rfl, HB2.out⟩
        | false =>
          rw [hi] at HW
          have HE := Lib.hid (show hitF row col (rs.drop (k + 1)) = O by rw [← HP.out, HST.out, if_neg (fun h => by rw [hi] at h; cases h.2)])
          clear hrow hi
          go_wp2_with fail
          refine HW.out.mono ?_
          rintro e w5 ⟨rfl, rfl⟩
          go_wp2_with fail
          go_roundw
          case measure => have := HLT.out; simp [intOf]; omega
          case rel => exact ⟨k + 1, by go_num, HLT.out, HE, HB2⟩
      · have t1 : (r.row == row) = false := by simp [hrow]
        have HE := Lib.hid (show hitF row col (rs.drop (k + 1)) = O by rw [← HP.out, HST.out, if_neg (fun h => hrow h.1)])
        clear hrow
        go_wp2_with fail
        go_roundw
        case measure => have := HLT.out; simp [intOf]; omega
        case rel => exact ⟨k + 1, by go_num, HLT.out, HE, HB2⟩
    · obtain rfl : k = n := by omega
      have hzk : ¬ (k : Int) < k := by omega
      have HE := Lib.hid (show none = O by
        have := HP.out
        rw [List.drop_of_length_le (by rw [HN.out]; exact Nat.le_refl _)] at this
        exact this)
      clear hlt
      go_wp2_with fail
      go_ret2
      exact ⟨by rw [← HE.out]; rfl, HB.out⟩
set_option maxRecDepth 100000 in
set_option maxHeartbeats 4000000 in
theorem hit_ref {P : Nat → Prop} (rs : List Rc) (vl vr vk : Value) (mo : Bool) (row col : Int) (w : World) (h : RdQ P w vr rs) (h1 : vl.oneCell' = true) (h2 : vk.oneCell' = true) : Calls Tryz.prog 22 #[laidV vl vr vk mo, .int .i64 row, .int .i64 col] w fun e w' => e = .returned (hitV (hitF row col rs)) ∧ Below w.heap.size w w' := by
  obtain ⟨pa, cap, rfl, hc1, hc2⟩ := h.form
  unfold maxLen at hc2
  have HH := Lib.hid h
  obtain ⟨n, hn⟩ : ∃ n, rs.length = n := ⟨_, rfl⟩
  have HN := Lib.hid hn
  rw [hn] at HH hc1 ⊢
  have n62 : n ≤ 9223372036854775807 := by omega
  obtain ⟨O, hO⟩ : ∃ O, hitF row col rs = O := ⟨_, rfl⟩
  have HO := Lib.hid (show hitF row col (rs.drop 0) = O from hO)
  rw [hO]
  unfold laidV
  have HA := Lib.hid (below_box w (.cells #[vl, .slice pa n cap, vk, .bool mo] 29))
  clear h hn hO
  go_enter Tryz.func22, Tryz.ntmps22
  go_wp2_with fail
  go_loopw [13] (fun i wr => ∃ k : Nat, i = .int .i64 k ∧ k ≤ n ∧ Hid (hitF row col (rs.drop k) = O) ∧ Hid (Below w.heap.size w wr)) (fun i _ => n - (intOf i).toNat)
  case atStart => exact ⟨0, rfl, Nat.zero_le _, HO, HA⟩
  case round =>
    obtain ⟨k, rfl, hk, HP, HB⟩ := hrel
    by_cases hlt : k < n
    · have hkl : k < rs.length := by rw [HN.out]; exact hlt
      have k1 : (k : Int) < n := by omega
      have HLT := Lib.hid hlt
      obtain ⟨b, off, rfl, _, d0, d1, d2, d3⟩ := (HH.out.below HB.out).at_ hkl
      have hst := hit_step (row := row) (col := col) hkl
      obtain ⟨r, hr⟩ : ∃ r, rs[k] = r := ⟨_, rfl⟩
      rw [hr] at d0 d1 d2 d3 hst
      have HST := Lib.hid hst
      have hA := below_box wr (.cells #[.int .i64 r.row, .int .i64 r.col, .int .i64 r.wide, .int .i64 r.link] 53)
      have HB2 := Lib.hid (HB.out.trans (hA.mono HB.out.size))
      obtain ⟨q, hq⟩ : ∃ q, decide (IntKind.u64.wrap (IntKind.u64.wrap col - IntKind.u64.wrap r.col) < IntKind.u64.wrap r.wide) = q := ⟨_, rfl⟩
      have HI := Lib.hid (show inB col r.col r.wide = (decide (r.col ≤ col) && (decide (0 < r.wide) && q)) by unfold inB; rw [hq])
      clear hlt hkl hr hst hA
      by_cases hrow : row = r.row
      · have t1 : (row == r.row) = true := by simp [hrow]
        by_cases h3 : r.col ≤ col
        · have t2 : decide (r.col ≤ col) = true := decide_eq_true h3
          rw [t2] at HI
          by_cases h4 : 0 < r.wide
          · have t3 : decide (0 < r.wide) = true := decide_eq_true h4
            rw [t3] at HI
            cases q with
            | true =>
              have HE := Lib.hid (show some r.link = O by rw [← HP.out, HST.out, if_pos ⟨hrow.symm, by rw [HI.out]; rfl⟩])
              clear hrow h3 h4
              go_wp2_with fail
              go_ret2
              exact ⟨by rw [← HE.out]; rfl, HB2.out⟩
            | false =>
              have HE := Lib.hid (show hitF row col (rs.drop (k + 1)) = O by rw [← HP.out, HST.out, if_neg (fun h => by rw [HI.out] at h; cases h.2)])
              clear hrow h3 h4
              go_wp2_with fail
              go_roundw
              case measure => have := HLT.out; simp [intOf]; omega
              case rel => exact ⟨k + 1, by go_num, HLT.out, HE, HB2⟩
          · have t3 : decide (0 < r.wide) = false := decide_eq_false h4
            rw [t3] at HI
            have HE := Lib.hid (show hitF row col (rs.drop (k + 1)) = O by rw [← HP.out, HST.out, if_neg (fun h => by rw [HI.out] at h; cases h.2)])
            clear hrow h3 h4 hq
            go_wp2_with fail
            go_roundw
            case measure => have := HLT.out; simp [intOf]; omega
            case rel => exact ⟨k + 1, by go_num, HLT.out, HE, HB2⟩
        · have t2 : decide (r.col ≤ col) = false := decide_eq_false h3
          rw [t2] at HI
          have HE := Lib.hid (show hitF row col (rs.drop (k + 1)) = O by rw [← HP.out, HST.out, if_neg (fun h => by rw [HI.out] at h; cases h.2)])
          clear hrow h3 hq
          go_wp2_with fail
          go_roundw
          case measure => have := HLT.out; simp [intOf]; omega
          case rel => exact ⟨k + 1, by go_num, HLT.out, HE, HB2⟩
      · have t1 : (row == r.row) = false := by simp [hrow]
        have HE := Lib.hid (show hitF row col (rs.drop (k + 1)) = O by rw [← HP.out, HST.out, if_neg (fun h => hrow h.1.symm)])
        clear hrow hq
        go_wp2_with fail
        go_roundw
        case measure => have := HLT.out; simp [intOf]; omega
        case rel => exact ⟨k + 1, by go_num, HLT.out, HE, HB2⟩
    · obtain rfl : k = n := by omega
      have hzk : ¬ (k : Int) < k := by omega
      have HE := Lib.hid (show none = O by
        have := HP.out
        rw [List.drop_of_length_le (by rw [HN.out]; exact Nat.le_refl _)] at this
        exact this)
      clear hlt
      go_wp2_with fail
      go_ret2
      exact ⟨by rw [← HE.out]; rfl, HB.out⟩
end Go.Proofs.YtalomeialegmiaaGreatDoor.Tb
end
section
namespace Go.Proofs.YtalomeialegmiaaGreatDoor.Tb
open Go.RowKit Go.Maps
set_option linter.unusedVariables false
set_option linter.unusedSimpArgs false
set_option maxRecDepth 100000 in
theorem eqLk (a b c d : Int) (w : World) : (Op.equalIn 9999 57 (.agg #[.int .i64 a, .int .i64 b]) (.agg #[.int .i64 c, .int .i64 d])).run Tryz.prog w = .ok (a == c && b == d) w := by
  have u3 := Tryz.underlying3
  have a3 := Tryz.isAgg3
  have z3 := Tryz.sizeOf3
  rw [show (9999 : Nat) = 9998 + 1 from rfl, run_equalIn_agg w 9998 57 _ _ (by kernel_rfl) (by kernel_rfl)]
  simp only [Program.fieldsOf, Tryz.underlying57]
  go_simp
  by_cases h1 : a = c <;> by_cases h2 : b = d <;> simp [h1, h2]
set_option maxRecDepth 100000 in
theorem eqRc (x y : Rc) (w : World) : (Op.equalIn 10000 53 (.agg #[.int .i64 x.row, .int .i64 x.col, .int .i64 x.wide, .int .i64 x.link]) (.agg #[.int .i64 y.row, .int .i64 y.col, .int .i64 y.wide, .int .i64 y.link])).run Tryz.prog w = .ok (decide (x = y)) w := by
  have u3 := Tryz.underlying3
  have a3 := Tryz.isAgg3
  have z3 := Tryz.sizeOf3
  rw [show (10000 : Nat) = 9999 + 1 from rfl, run_equalIn_agg w 9999 53 _ _ (by kernel_rfl) (by kernel_rfl)]
  simp only [Program.fieldsOf, Tryz.underlying53]
  go_simp
  obtain ⟨a, b, c, d⟩ := x
  obtain ⟨a', b', c', d'⟩ := y
  by_cases h1 : a = a' <;> by_cases h2 : b = b' <;> by_cases h3 : c = c' <;> by_cases h4 : d = d' <;> simp [h1, h2, h3, h4]
set_option maxRecDepth 100000 in
theorem eqTg (x y : Int × Int) (w : World) : (Op.equalIn 10000 55 (.agg #[.int .i64 x.1, .int .i64 x.2]) (.agg #[.int .i64 y.1, .int .i64 y.2])).run Tryz.prog w = .ok (decide (x = y)) w := by
  have u3 := Tryz.underlying3
  have a3 := Tryz.isAgg3
  have z3 := Tryz.sizeOf3
  rw [show (10000 : Nat) = 9999 + 1 from rfl, run_equalIn_agg w 9999 55 _ _ (by kernel_rfl) (by kernel_rfl)]
  simp only [Program.fieldsOf, Tryz.underlying55]
  go_simp
  obtain ⟨a, b⟩ := x
  obtain ⟨a', b'⟩ := y
  by_cases h1 : a = a' <;> by_cases h2 : b = b' <;> simp [h1, h2]
theorem ba_inj {a b : ByteArray} : a.toList = b.toList ↔ a = b := by
  rw [ByteArray.toList_eq, ByteArray.toList_eq]
  obtain ⟨x⟩ := a
  obtain ⟨y⟩ := b
  constructor
  · intro h
    have h2 : x = y := Array.toList_inj.1 h
    rw [h2]
  · intro h
    cases h
    rfl
set_option maxRecDepth 100000 in
theorem eqGl (x y : Gl) (w : World) : (Op.equalIn 10000 59 (.agg #[.string x.t, .int .i64 x.wd, .int .i64 x.at_, .int .i64 x.co, .int .i64 x.lk]) (.agg #[.string y.t, .int .i64 y.wd, .int .i64 y.at_, .int .i64 y.co, .int .i64 y.lk])).run Tryz.prog w = .ok (decide (x = y)) w := by
  have u3 := Tryz.underlying3
  have a3 := Tryz.isAgg3
  have z3 := Tryz.sizeOf3
  have u9 := Tryz.underlying9
  have a9 := Tryz.isAgg9
  have z9 := Tryz.sizeOf9
  have a7 := Tryz.isAgg57
  have z7 := Tryz.sizeOf57
  have e7 := eqLk x.at_ x.co y.at_ y.co w
  rw [show (10000 : Nat) = 9999 + 1 from rfl, run_equalIn_agg w 9999 59 _ _ (by kernel_rfl) (by kernel_rfl)]
  simp only [Program.fieldsOf, Tryz.underlying59]
  go_simp
  simp only [ba_inj]
  obtain ⟨t, a, b, c, d⟩ := x
  obtain ⟨t', a', b', c', d'⟩ := y
  by_cases h0 : t = t' <;> by_cases h1 : a = a' <;> by_cases h2 : b = b' <;> by_cases h3 : c = c' <;> by_cases h4 : d = d' <;> simp [h0, h1, h2, h3, h4]
end Go.Proofs.YtalomeialegmiaaGreatDoor.Tb
end
section
namespace Go.Proofs.YtalomeialegmiaaGreatDoor.Tb
open Go.RowKit Go.Maps
set_option linter.unusedVariables false
set_option linter.unusedSimpArgs false
theorem take_ne {α : Type} {l m : List α} {k : Nat} (h1 : k < l.length) (h2 : k < m.length) (h : l[k] ≠ m[k]) : l ≠ m := fun e => by subst e; exact h rfl
theorem take_more {α : Type} {l m : List α} {k : Nat} (h1 : k < l.length) (h2 : k < m.length) (h : l.take k = m.take k) (e : l[k] = m[k]) : l.take (k + 1) = m.take (k + 1) := by
  rw [List.take_succ_eq_append_getElem h1, List.take_succ_eq_append_getElem h2, h, e]
set_option maxRecDepth 100000 in
set_option maxHeartbeats 4000000 in
theorem eqG_pro {P Q : Nat → Prop} (l m : List Gl) (v u : Value) (w : World) (h : RdG P w v l) (hm : RdG Q w u m) : Calls Tryz.prog 41 #[v, u] w (SaysL (.bool (decide (l = m))) w) := by
  obtain ⟨pa, cap, rfl, hc1, hc2⟩ := sliceG h
  obtain ⟨pb, cab, rfl, hd1, hd2⟩ := sliceG hm
  skip
  have hgd : Tryz.prog.eqGuardType Tryz.prog.depth 59 = false := by kernel_rfl
  by_cases hlen : l.length = m.length
  · have HH := Lib.hid h
    have HM := Lib.hid hm
    rw [← hlen] at HM ⊢
    obtain ⟨n, hn⟩ : ∃ n, l.length = n := ⟨_, rfl⟩
    have HN := Lib.hid hn
    have HNM := Lib.hid (hlen.symm.trans hn)
    rw [hn] at HH HM hc1 ⊢
    have n62 : n ≤ 9223372036854775807 := by omega
    have t0 : ((n : Int) != (n : Int)) = false := by simp
    obtain ⟨z, hz⟩ : ∃ z, decide (l = m) = z := ⟨_, rfl⟩
    have HZ := Lib.hid hz
    rw [hz]
    clear h hm hn hlen hd1 hz
    go_enter Tryz.func41, Tryz.ntmps41
    go_wp2_with fail
    go_loopw [13] (fun i wr => ∃ k : Nat, i = .int .i64 k ∧ k ≤ n ∧ Hid (l.take k = m.take k) ∧ Hid (Below w.heap.size w wr)) (fun i _ => n - (intOf i).toNat)
    case atStart => exact ⟨0, rfl, Nat.zero_le _, Lib.hid rfl, Lib.hid (Below.refl _ _)⟩
    case round =>
      obtain ⟨k, rfl, hk, HP, HB⟩ := hrel
      by_cases hlt : k < n
      · have hkl : k < l.length := by rw [HN.out]; exact hlt
        have hkm : k < m.length := by rw [HNM.out]; exact hlt
        have k1 : (k : Int) < n := by omega
        have HLT := Lib.hid hlt
        obtain ⟨b, off, rfl, _, d0, d1, d2, d3, d4⟩ := (HH.out.below HB.out).at_ hkl
        obtain ⟨b2, off2, rfl, _, e0, e1, e2, e3, e4⟩ := (HM.out.below HB.out).at_ hkm
        have HMO := Lib.hid (fun (e : l[k] = m[k]) => take_more hkl hkm HP.out e)
        have HNO := Lib.hid (fun (e : l[k] ≠ m[k]) => show decide (l = m) = false from decide_eq_false (take_ne hkl hkm e))
        obtain ⟨x, hx⟩ : ∃ x, l[k] = x := ⟨_, rfl⟩
        obtain ⟨y, hy⟩ : ∃ y, m[k] = y := ⟨_, rfl⟩
        rw [hx] at d0 d1 d2 d3 d4 HMO HNO
        rw [hy] at e0 e1 e2 e3 e4 HMO HNO
        by_cases hxy : x = y
        · have heq := fun w => eqGl x y w
          rw [decide_eq_true hxy] at heq
          have HT := Lib.hid (HMO.out hxy)
          clear hx hy hkl hkm hlt hxy
          go_upto_region 6 with fail
          go_quiet (fail)
          have HB2 := Lib.hid (dn_below HB.out nq)
          go_wp2_with fail
          go_roundw
          case measure => have := HLT.out; simp [intOf]; omega
          case rel => exact ⟨k + 1, by go_num, HLT.out, HT, HB2⟩
        · have heq := fun w => eqGl x y w
          rw [decide_eq_false hxy] at heq
          have HT := Lib.hid (HZ.out.symm.trans (HNO.out hxy))
          clear hx hy hkl hkm hlt hxy
          go_upto_region 6 with fail
          go_quiet (fail)
          have HB2 := Lib.hid (dn_below HB.out nq)
          go_wp2_with fail
          go_ret
          exact ⟨by rw [HT.out]; rfl, HB2.out⟩
      · obtain rfl : n = k := by omega
        have hzk : ¬ (n : Int) < n := by omega
        have HT := Lib.hid (show z = true by
          rw [← HZ.out]
          have h := HP.out
          rw [List.take_of_length_le (by rw [HN.out]; exact Nat.le_refl _), List.take_of_length_le (by rw [HNM.out]; exact Nat.le_refl _)] at h
          exact decide_eq_true h)
        clear hlt
        go_wp2_with fail
        go_ret
        exact ⟨by rw [HT.out]; rfl, HB.out⟩
  · have t0 : ((l.length : Int) != (m.length : Int)) = true := by simp; omega
    rw [decide_eq_false (fun e => hlen (by rw [e]))]
    obtain ⟨n, hn⟩ : ∃ n, l.length = n := ⟨_, rfl⟩
    obtain ⟨k, hk⟩ : ∃ k, m.length = k := ⟨_, rfl⟩
    rw [hn, hk] at t0 ⊢
    have n62 : n ≤ 9223372036854775807 := by omega
    have k62 : k ≤ 9223372036854775807 := by omega
    clear h hm hn hk hlen hc1 hd1
    go_enter Tryz.func41, Tryz.ntmps41
    go_wp2_with fail
    go_ret
    exact ⟨rfl, Below.refl _ _⟩
set_option maxRecDepth 100000 in
set_option maxHeartbeats 4000000 in
theorem eqQ_pro {P Q : Nat → Prop} (l m : List Rc) (v u : Value) (w : World) (h : RdQ P w v l) (hm : RdQ Q w u m) : Calls Tryz.prog 42 #[v, u] w (SaysL (.bool (decide (l = m))) w) := by
  obtain ⟨pa, cap, rfl, hc1, hc2⟩ := h.form
  obtain ⟨pb, cab, rfl, hd1, hd2⟩ := hm.form
  unfold maxLen at hc2 hd2
  have hgd : Tryz.prog.eqGuardType Tryz.prog.depth 53 = false := by kernel_rfl
  by_cases hlen : l.length = m.length
  · have HH := Lib.hid h
    have HM := Lib.hid hm
    rw [← hlen] at HM ⊢
    obtain ⟨n, hn⟩ : ∃ n, l.length = n := ⟨_, rfl⟩
    have HN := Lib.hid hn
    have HNM := Lib.hid (hlen.symm.trans hn)
    rw [hn] at HH HM hc1 ⊢
    have n62 : n ≤ 9223372036854775807 := by omega
    have t0 : ((n : Int) != (n : Int)) = false := by simp
    obtain ⟨z, hz⟩ : ∃ z, decide (l = m) = z := ⟨_, rfl⟩
    have HZ := Lib.hid hz
    rw [hz]
    clear h hm hn hlen hd1 hz
    go_enter Tryz.func42, Tryz.ntmps42
    go_wp2_with fail
    go_loopw [13] (fun i wr => ∃ k : Nat, i = .int .i64 k ∧ k ≤ n ∧ Hid (l.take k = m.take k) ∧ Hid (Below w.heap.size w wr)) (fun i _ => n - (intOf i).toNat)
    case atStart => exact ⟨0, rfl, Nat.zero_le _, Lib.hid rfl, Lib.hid (Below.refl _ _)⟩
    case round =>
      obtain ⟨k, rfl, hk, HP, HB⟩ := hrel
      by_cases hlt : k < n
      · have hkl : k < l.length := by rw [HN.out]; exact hlt
        have hkm : k < m.length := by rw [HNM.out]; exact hlt
        have k1 : (k : Int) < n := by omega
        have HLT := Lib.hid hlt
        obtain ⟨b, off, rfl, _, d0, d1, d2, d3⟩ := (HH.out.below HB.out).at_ hkl
        obtain ⟨b2, off2, rfl, _, e0, e1, e2, e3⟩ := (HM.out.below HB.out).at_ hkm
        have HMO := Lib.hid (fun (e : l[k] = m[k]) => take_more hkl hkm HP.out e)
        have HNO := Lib.hid (fun (e : l[k] ≠ m[k]) => show decide (l = m) = false from decide_eq_false (take_ne hkl hkm e))
        obtain ⟨x, hx⟩ : ∃ x, l[k] = x := ⟨_, rfl⟩
        obtain ⟨y, hy⟩ : ∃ y, m[k] = y := ⟨_, rfl⟩
        rw [hx] at d0 d1 d2 d3 HMO HNO
        rw [hy] at e0 e1 e2 e3 HMO HNO
        by_cases hxy : x = y
        · have heq := fun w => eqRc x y w
          rw [decide_eq_true hxy] at heq
          have HT := Lib.hid (HMO.out hxy)
          clear hx hy hkl hkm hlt hxy
          go_upto_region 6 with fail
          go_quiet (fail)
          have HB2 := Lib.hid (dn_below HB.out nq)
          go_wp2_with fail
          go_roundw
          case measure => have := HLT.out; simp [intOf]; omega
          case rel => exact ⟨k + 1, by go_num, HLT.out, HT, HB2⟩
        · have heq := fun w => eqRc x y w
          rw [decide_eq_false hxy] at heq
          have HT := Lib.hid (HZ.out.symm.trans (HNO.out hxy))
          clear hx hy hkl hkm hlt hxy
          go_upto_region 6 with fail
          go_quiet (fail)
          have HB2 := Lib.hid (dn_below HB.out nq)
          go_wp2_with fail
          go_ret
          exact ⟨by rw [HT.out]; rfl, HB2.out⟩
      · obtain rfl : n = k := by omega
        have hzk : ¬ (n : Int) < n := by omega
        have HT := Lib.hid (show z = true by
          rw [← HZ.out]
          have h := HP.out
          rw [List.take_of_length_le (by rw [HN.out]; exact Nat.le_refl _), List.take_of_length_le (by rw [HNM.out]; exact Nat.le_refl _)] at h
          exact decide_eq_true h)
        clear hlt
        go_wp2_with fail
        go_ret
        exact ⟨by rw [HT.out]; rfl, HB.out⟩
  · have t0 : ((l.length : Int) != (m.length : Int)) = true := by simp; omega
    rw [decide_eq_false (fun e => hlen (by rw [e]))]
    obtain ⟨n, hn⟩ : ∃ n, l.length = n := ⟨_, rfl⟩
    obtain ⟨k, hk⟩ : ∃ k, m.length = k := ⟨_, rfl⟩
    rw [hn, hk] at t0 ⊢
    have n62 : n ≤ 9223372036854775807 := by omega
    have k62 : k ≤ 9223372036854775807 := by omega
    clear h hm hn hk hlen hc1 hd1
    go_enter Tryz.func42, Tryz.ntmps42
    go_wp2_with fail
    go_ret
    exact ⟨rfl, Below.refl _ _⟩
set_option maxRecDepth 100000 in
set_option maxHeartbeats 4000000 in
theorem eqT_pro {P Q : Nat → Prop} (l m : List (Int × Int)) (v u : Value) (w : World) (h : RdC P w v l) (hm : RdC Q w u m) : Calls Tryz.prog 43 #[v, u] w (SaysL (.bool (decide (l = m))) w) := by
  obtain ⟨pa, cap, rfl, hc1, hc2⟩ := sliceC h
  obtain ⟨pb, cab, rfl, hd1, hd2⟩ := sliceC hm
  skip
  have hgd : Tryz.prog.eqGuardType Tryz.prog.depth 55 = false := by kernel_rfl
  by_cases hlen : l.length = m.length
  · have HH := Lib.hid h
    have HM := Lib.hid hm
    rw [← hlen] at HM ⊢
    obtain ⟨n, hn⟩ : ∃ n, l.length = n := ⟨_, rfl⟩
    have HN := Lib.hid hn
    have HNM := Lib.hid (hlen.symm.trans hn)
    rw [hn] at HH HM hc1 ⊢
    have n62 : n ≤ 9223372036854775807 := by omega
    have t0 : ((n : Int) != (n : Int)) = false := by simp
    obtain ⟨z, hz⟩ : ∃ z, decide (l = m) = z := ⟨_, rfl⟩
    have HZ := Lib.hid hz
    rw [hz]
    clear h hm hn hlen hd1 hz
    go_enter Tryz.func43, Tryz.ntmps43
    go_wp2_with fail
    go_loopw [13] (fun i wr => ∃ k : Nat, i = .int .i64 k ∧ k ≤ n ∧ Hid (l.take k = m.take k) ∧ Hid (Below w.heap.size w wr)) (fun i _ => n - (intOf i).toNat)
    case atStart => exact ⟨0, rfl, Nat.zero_le _, Lib.hid rfl, Lib.hid (Below.refl _ _)⟩
    case round =>
      obtain ⟨k, rfl, hk, HP, HB⟩ := hrel
      by_cases hlt : k < n
      · have hkl : k < l.length := by rw [HN.out]; exact hlt
        have hkm : k < m.length := by rw [HNM.out]; exact hlt
        have k1 : (k : Int) < n := by omega
        have HLT := Lib.hid hlt
        obtain ⟨b, off, rfl, _, d0, d1⟩ := (HH.out.below HB.out).cell hkl
        obtain ⟨b2, off2, rfl, _, e0, e1⟩ := (HM.out.below HB.out).cell hkm
        have HMO := Lib.hid (fun (e : l[k] = m[k]) => take_more hkl hkm HP.out e)
        have HNO := Lib.hid (fun (e : l[k] ≠ m[k]) => show decide (l = m) = false from decide_eq_false (take_ne hkl hkm e))
        obtain ⟨x, hx⟩ : ∃ x, l[k] = x := ⟨_, rfl⟩
        obtain ⟨y, hy⟩ : ∃ y, m[k] = y := ⟨_, rfl⟩
        rw [hx] at d0 d1 HMO HNO
        rw [hy] at e0 e1 HMO HNO
        by_cases hxy : x = y
        · have heq := fun w => eqTg x y w
          rw [decide_eq_true hxy] at heq
          have HT := Lib.hid (HMO.out hxy)
          clear hx hy hkl hkm hlt hxy
          go_upto_region 6 with fail
          go_quiet (fail)
          have HB2 := Lib.hid (dn_below HB.out nq)
          go_wp2_with fail
          go_roundw
          case measure => have := HLT.out; simp [intOf]; omega
          case rel => exact ⟨k + 1, by go_num, HLT.out, HT, HB2⟩
        · have heq := fun w => eqTg x y w
          rw [decide_eq_false hxy] at heq
          have HT := Lib.hid (HZ.out.symm.trans (HNO.out hxy))
          clear hx hy hkl hkm hlt hxy
          go_upto_region 6 with fail
          go_quiet (fail)
          have HB2 := Lib.hid (dn_below HB.out nq)
          go_wp2_with fail
          go_ret
          exact ⟨by rw [HT.out]; rfl, HB2.out⟩
      · obtain rfl : n = k := by omega
        have hzk : ¬ (n : Int) < n := by omega
        have HT := Lib.hid (show z = true by
          rw [← HZ.out]
          have h := HP.out
          rw [List.take_of_length_le (by rw [HN.out]; exact Nat.le_refl _), List.take_of_length_le (by rw [HNM.out]; exact Nat.le_refl _)] at h
          exact decide_eq_true h)
        clear hlt
        go_wp2_with fail
        go_ret
        exact ⟨by rw [HT.out]; rfl, HB.out⟩
  · have t0 : ((l.length : Int) != (m.length : Int)) = true := by simp; omega
    rw [decide_eq_false (fun e => hlen (by rw [e]))]
    obtain ⟨n, hn⟩ : ∃ n, l.length = n := ⟨_, rfl⟩
    obtain ⟨k, hk⟩ : ∃ k, m.length = k := ⟨_, rfl⟩
    rw [hn, hk] at t0 ⊢
    have n62 : n ≤ 9223372036854775807 := by omega
    have k62 : k ≤ 9223372036854775807 := by omega
    clear h hm hn hk hlen hc1 hd1
    go_enter Tryz.func43, Tryz.ntmps43
    go_wp2_with fail
    go_ret
    exact ⟨rfl, Below.refl _ _⟩
end Go.Proofs.YtalomeialegmiaaGreatDoor.Tb
end
