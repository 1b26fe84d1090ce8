/- The texts that the laws of layout stand on, part 35. -/
import Derived.Test.YtjohhahfpgfjdaaGreatDoorK2
import Derived.Test.YtjohhahfpgfjdaaGreatDoorK7
import Derived.Test.YtjohhahfpgfjdaaGreatDoorK9
import Derived.Test.YtjohhahfpgfjdaaGreatDoorK10
import Derived.Test.YtjohhahfpgfjdaaGreatDoorK13
import Derived.Lib.FrozenHead2
import Derived.Lib.OthersKept
import Derived.Lib.RuneBytes
import Derived.Test.YtjohhahfpgfjdaaGreatDoorRows
import Derived.Lib.LaidIn
import Derived.Lib.LaidU8T
import Derived.PinnedBridge
import Derived.LaidHandle
import Derived.LaidLaws
import Derived.Stop.LaidErr
import Derived.Shelf.Vars
section
namespace Go.Proofs.YtjohhahfpgfjdaaGreatDoor.Tb
open Go.RowKit Go.Maps

theorem sizeB : (Tryz.prog.info? 142).map (·.size) = some 2 := by kernel_rfl
theorem infoB5 : (Tryz.prog.info? 5).map (fun i => (i.zero, i.size, i.bytes)) = some (some (.int .u8 0), 1, 1) := by kernel_rfl
abbrev BAt (B b : Nat) (bs : List Value) (w : World) : Prop := Lib.BuilderAtF 142 5 B b (.pointer (some ⟨b, 0, none⟩)) bs w
abbrev BIs (B b : Nat) (bs : List Value) (w : World) : Prop := Lib.IsBuilderF 142 5 B b bs w
/-- A call has left the builder with bs, and all else but rows of bytes as it was. -/
def Built (B b : Nat) (bs : List Value) (w w' : World) : Prop := BAt B b bs w' ∧ Below B w w' ∧ Lib.OthersKept 5 (some b) w w'
def Wrote (v : Value) (B b : Nat) (bs : List Value) (w : World) (e : Ending) (w' : World) : Prop := e = .returned v ∧ Built B b bs w w'

set_option maxRecDepth 100000 in
set_option maxHeartbeats 1000000 in
theorem check_used (b : Nat) (w : World) (h0 : w.cell? ⟨b, 0, none⟩ = some (.pointer (some ⟨b, 0, none⟩))) :
    Calls Tryz.prog 105 #[.pointer (some ⟨b, 0, none⟩)] w fun e w' => e = .returned (.tuple #[]) ∧ w' = w := by
  obtain ⟨j, hj, _⟩ := Option.map_eq_some_iff.1 sizeB
  go_enter Tryz.func105, Tryz.ntmps105
  go_wp2
  rw [Lib.run_neq_ptr_same w _ Tryz.underlying139 hj]
  go_wp2
  go_end0
  exact ⟨rfl, rfl⟩

set_option maxRecDepth 100000 in
set_option maxHeartbeats 1000000 in
theorem check_fresh (b : Nat) (w : World) (h0 : w.cell? ⟨b, 0, none⟩ = some (.pointer none)) (hsh : w.shape? b = some (142, 2)) (hfz : w.frozen? ⟨b, 0, none⟩ = false) :
    Calls Tryz.prog 105 #[.pointer (some ⟨b, 0, none⟩)] w fun e w' => e = .returned (.tuple #[]) ∧ w' = w.setCell ⟨b, 0, none⟩ (.pointer (some ⟨b, 0, none⟩)) := by
  obtain ⟨j, hj, hjs⟩ := Option.map_eq_some_iff.1 sizeB
  go_enter Tryz.func105, Tryz.ntmps105
  go_wp2
  rw [Lib.run_to_unsafe w ⟨b, 0, none⟩ Tryz.underlying139 Tryz.underlying204 hj (by rw [hjs]; decide) hsh (Nat.zero_lt_succ 1)]
  simp only [Result.andThen]
  rw [Oper.upon_value]
  go_wp2
  rw [run_callFunc_extern Tryz.func127 (by kernel_rfl) (by kernel_rfl) (by kernel_rfl) (e := Extern.AbiNoEscape.same) (by kernel_rfl)]
  rw [Lib.run_noEscape]
  simp only [Result.andThen]
  rw [Oper.upon_value]
  go_wp2
  rw [Lib.run_from_unsafe w ⟨b, 0, none⟩ Tryz.underlying204 Tryz.underlying139 hj hsh Tryz.Builder_Extra_169.liesBuilder]
  simp only [Result.andThen]
  rw [Oper.upon_value]
  go_wp2
  go_end0
  exact ⟨rfl, rfl⟩

theorem check_pro (B b : Nat) (bs : List Value) (w : World) (h : BIs B b bs w) :
    Calls Tryz.prog 105 #[.pointer (some ⟨b, 0, none⟩)] w (Wrote (.tuple #[]) B b bs w) := by
  rcases h with h | h
  · refine (check_fresh b w h.cell0 h.shape h.frozen0).mono ?_
    rintro e w' ⟨rfl, rfl⟩
    exact ⟨rfl, h.used _, (Below.refl B w).setCell (p := ⟨b, 0, none⟩) h.1 _, (Lib.OthersKept.refl _ _ w).setCell ⟨b, 0, none⟩ rfl _⟩
  · refine (check_used b w h.cell0).mono ?_
    rintro e w' ⟨rfl, rfl⟩
    exact ⟨rfl, h, Below.refl B _, Lib.OthersKept.refl _ _ _⟩
/-- What the slice of a builder's bytes looks like. -/
theorem bld_form {B : Nat} {v : Value} {n : Nat} {xs : List Value} {w : World} (h : w.ownsRowF B 5 1 v n xs) : ∃ a c, v = .slice a n c := by
  rcases h.2 with ⟨hv, h0⟩ | ⟨g, cap, cur, fz, hv, _⟩
  · exact ⟨none, 0, by rw [hv, h0]⟩
  · exact ⟨_, _, hv⟩
theorem built_put0 {B b : Nat} {v v' : Value} {bs more : List Value} {w w1 w2 : World} (h1 : B ≤ b) (hbk : w1.heap[b]? = some (.cells #[.pointer (some ⟨b, 0, none⟩), v] 142 (0, 0)))
    (hown : w1.ownsRowF B 5 1 v bs.length bs) (hne : v.ownBlock ≠ some b) (hb1 : Below B w w1) (hk1 : Lib.OthersKept 5 (some b) w w1)
    (hown' : w2.ownsRowF B 5 1 v' (bs ++ more).length (bs ++ more)) (hgrow : w1.grownBy w2 v.ownBlock) :
    w2.heap[b]? = some (.cells #[.pointer (some ⟨b, 0, none⟩), v] 142 (0, 0)) ∧ Built B b (bs ++ more) w (w2.setCell ⟨b, 1, none⟩ v') := by
  have hlt : b < w1.heap.size := (Array.getElem?_eq_some_iff.1 hbk).1
  have hb2 : w2.heap[b]? = some (.cells #[.pointer (some ⟨b, 0, none⟩), v] 142 (0, 0)) := by
    rw [hgrow.block b hlt (fun e => hne e.symm)]
    exact hbk
  refine ⟨hb2, Lib.BuilderAtF.put (T := 142) (e := 5) h1 hb2 hown' (by decide), ?_, (hk1.grown hgrow (Lib.ownsRowF_kind hown)).setCell ⟨b, 1, none⟩ rfl _⟩
  exact (hb1.grown hgrow (by have := hb1.size; omega) (fun k hk => (hown.lt k hk).1)).setCell (p := ⟨b, 1, none⟩) h1 _

set_option maxRecDepth 100000 in
set_option maxHeartbeats 2000000 in
theorem str_pro (B b : Nat) (bs : List Value) (t : ByteArray) (w : World) (h : BIs B b bs w) (hlen : bs.length + t.size ≤ 140737488355328) (hBw : B ≤ w.heap.size) :
    Calls Tryz.prog 71 #[.pointer (some ⟨b, 0, none⟩), .string t] w (Wrote (.tuple #[.int .i64 t.size, .nilIface]) B b (bs ++ Lib.strCells t) w) := by
  obtain ⟨i0, hi, hz0, hz1, hz2⟩ := info_parts infoB5
  go_enter Tryz.func71, Tryz.ntmps71
  go_wp2_with fail
  refine (check_pro B b bs _ h).mono ?_
  rintro e w1 ⟨rfl, ⟨hB, v, hbk, hown, hne⟩, hb1, hk1⟩
  have c1 : w1.cell? ⟨b, 1, none⟩ = some v := by rw [Lib.cell_of_heap hbk]; rfl
  have K := Lib.hid (fun (w2 : World) (v' : Value) => built_put0 (v' := v') (more := Lib.strCells t) (w2 := w2) hB hbk hown hne hb1 hk1)
  have HO := Lib.hid hown
  have L1 := Lib.hid (show bs.length + t.size ≤ maxLen by unfold maxLen; omega)
  have L2 := Lib.hid (show (bs.length + t.size) * 1 ≤ 140737488355328 by omega)
  have L3 := Lib.hid (show B ≤ w1.heap.size by have := hb1.size; omega)
  clear hlen hBw hbk hown hne hb1 hk1 h
  go_wp2_with (at_builtin; go_loud (refine Lib.wpList_append_own_stringF _ rfl _ _ 140 9 rfl B 5 i0 Tryz.underlying140 Tryz.underlying9 hi hz0 hz1 hz2 _ _ _ rfl HO.out t rfl ?c3 ?c4 ?c5 ?_))
  case c3 => exact L1.out
  case c4 => have := L2.out; omega
  case c5 => exact L3.out
  intro v' w2 hown' hgrow _
  obtain ⟨g, cap, rfl⟩ := bld_form hown'
  obtain ⟨hb2, hbt⟩ := K.out w2 _ (by simpa [Lib.strCells_length] using hown') hgrow
  have d0 : w2.cell? ⟨b, 0, none⟩ = some (.pointer (some ⟨b, 0, none⟩)) := by rw [Lib.cell_of_heap hb2]; rfl
  have d1 : w2.cell? ⟨b, 1, none⟩ = some v := by rw [Lib.cell_of_heap hb2]; rfl
  have f1 : w2.frozen? ⟨b, 1, none⟩ = false := Lib.frozen_of_heap hb2 1
  have HT := Lib.hid hbt
  clear hbt hown' hgrow hb2
  go_wp2_with fail
  go_ret2
  exact ⟨rfl, HT.out⟩

theorem bis_below {B b : Nat} {bs : List Value} {w w' : World} (h : BIs B b bs w) (hb : Below w.heap.size w w') : BIs B b bs w' := by
  have hg : w.grownBy w' none := ⟨hb.os, hb.tape, hb.output, hb.size, fun k hk _ => hb.block k hk⟩
  have go : ∀ p, Lib.BuilderAtF 142 5 B b p bs w → Lib.BuilderAtF 142 5 B b p bs w' := by
    rintro p ⟨h1, v, hk, ho, hne⟩
    exact ⟨h1, v, (hb.block b (Array.getElem?_eq_some_iff.1 hk).1).trans hk, ho.kept hg (by cases hv : v.ownBlock <;> simp), hne⟩
  exact h.imp (go _) (go _)
end Go.Proofs.YtjohhahfpgfjdaaGreatDoor.Tb
end
section
namespace Go.Proofs.YtjohhahfpgfjdaaGreatDoor.Tb
open Go.RowKit Go.Maps
set_option linter.unusedVariables false
set_option linter.unusedSimpArgs false
def txtL : List Gl → List UInt8
  | [] => []
  | g :: l => g.t.data.toList ++ txtL l
theorem txtL_app (a b : List Gl) : txtL (a ++ b) = txtL a ++ txtL b := by
  induction a with
  | nil => rfl
  | cons g a ih => simp only [List.cons_append, txtL, ih, List.append_assoc]
theorem txtL_take {l : List Gl} {k : Nat} (h : k < l.length) : txtL (l.take (k + 1)) = txtL (l.take k) ++ l[k].t.data.toList := by
  rw [List.take_succ_eq_append_getElem h, txtL_app]
  simp [txtL]
theorem txtL_le (l : List Gl) (k : Nat) : (txtL (l.take k)).length ≤ (txtL l).length := by
  have e : l = l.take k ++ l.drop k := (List.take_append_drop _ _).symm
  have e2 : (txtL l).length = (txtL (l.take k)).length + (txtL (l.drop k)).length := by conv => lhs; rw [e, txtL_app, List.length_append]
  omega
def txtS (l : List Gl) : ByteArray := ⟨(txtL l).toArray⟩
theorem sizeT (t : ByteArray) : t.data.toList.length = t.size := by rw [Array.length_toList]; rfl
set_option maxRecDepth 100000 in
set_option maxHeartbeats 2000000 in
theorem textOf_pro {P : Nat → Prop} (l : List Gl) (v : Value) (w : World) (h : RdG P w v l) (hz : (txtL l).length ≤ 1000000000) : Calls Tryz.prog 40 #[v] w (SaysL (.string (txtS l)) w) := by
  obtain ⟨pa, cap, rfl, hc1, hc2⟩ := sliceG h
  have HH := Lib.hid h
  have HZ := Lib.hid hz
  obtain ⟨n, hn⟩ : ∃ n, l.length = n := ⟨_, rfl⟩
  have HN := Lib.hid hn
  rw [hn] at HH hc1 ⊢
  have hn62 : n ≤ 9223372036854775807 := by omega
  clear h hz hn hc1
  go_enter Tryz.func40, Tryz.ntmps40
  go_wp2_with fail
  go_loopw [8] (fun i wr => ∃ k : Nat, i = .int .i64 k ∧ k ≤ n ∧ Hid (BIs w.heap.size w.heap.size (Lib.byteCells (txtL (l.take k))) wr) ∧ Hid (Below w.heap.size w wr)) (fun i _ => n - (intOf i).toNat)
  case atStart => exact ⟨0, rfl, Nat.zero_le _, Lib.hid (Lib.IsBuilderF.of (Lib.fresh_isBuilder 142 5 w)), Lib.hid ((Below.refl _ w).alloc (Nat.le_refl _) _)⟩
  case round =>
    obtain ⟨k, rfl, hk, HBI, HB⟩ := hrel
    by_cases hlt : k < n
    · have hkl : k < l.length := by rw [HN.out]; exact hlt
      obtain ⟨b, off, rfl, _, d0, d1, d2, d3, d4⟩ := (HH.out.below HB.out).at_ hkl
      have ht := txtL_take hkl
      have hsz : (txtL (l.take k)).length + l[k].t.size ≤ 140737488355328 := by
        have h1 := txtL_le l (k + 1)
        have := HZ.out
        rw [ht, List.length_append, sizeT] at h1
        omega
      obtain ⟨x, hx⟩ : ∃ x, l[k] = x := ⟨_, rfl⟩
      rw [hx] at d0 d1 d2 d3 d4 ht hsz
      have hA := below_box wr (boxG x)
      have HB2 := Lib.hid (HB.out.trans (hA.mono HB.out.size))
      have HBI2 := Lib.hid (bis_below HBI.out hA)
      unfold boxG at HB2 HBI2
      have k1 : (k : Int) < n := by omega
      have HLT := Lib.hid hlt
      have HT := Lib.hid ht
      have HSZ := Lib.hid hsz
      clear ht hsz hx hA hlt
      go_wp2_with fail
      refine (str_pro w.heap.size w.heap.size _ x.t _ HBI2.out (by rw [Lib.byteCells_length]; exact HSZ.out) HB2.out.size).mono ?_
      rintro e w3 ⟨rfl, b3, z3, _⟩
      have HB3 := Lib.hid (HB2.out.trans z3)
      have HBI3 := Lib.hid (show BIs w.heap.size w.heap.size (Lib.byteCells (txtL (l.take (k + 1)))) w3 by rw [HT.out, Lib.byteCells_append, ← Lib.strCells_eq]; exact .inr b3)
      clear b3 z3
      go_wp2_with fail
      go_roundw
      case measure => have := HLT.out; simp [intOf]; omega
      case rel => exact ⟨k + 1, by go_num, HLT.out, HBI3, HB3⟩
    · obtain rfl : k = n := by omega
      have hz1 : ¬ (k : Int) < k := by omega
      have hbi := HBI.out
      rw [show l.take k = l by rw [← HN.out, List.take_length]] at hbi
      have HS := Lib.hid (Tryz.Builder_String_any_k w.heap.size w.heap.size (txtL l) wr hbi HB.out.size)
      clear hlt hbi
      go_wp2_with fail
      refine HS.out.mono ?_
      rintro e w2 ⟨rfl, _, hb, _⟩
      have HB2 := Lib.hid (HB.out.trans hb)
      clear hb
      go_wp2_with fail
      go_ret
      exact ⟨rfl, HB2.out⟩
end Go.Proofs.YtjohhahfpgfjdaaGreatDoor.Tb
end
section
namespace Go.Proofs.YtjohhahfpgfjdaaGreatDoor.Tb
open Go.RowKit Go.Maps
set_option linter.unusedVariables false
set_option linter.unusedSimpArgs false
def strsV (l : List ByteArray) : List Value := l.map .string
theorem strsV_snoc (l : List ByteArray) (s : ByteArray) : strsV (l ++ [s]) = strsV l ++ [.string s] := by simp [strsV]
theorem infoS : (Tryz.prog.info? 9).map (fun i => (i.zero, i.size, i.bytes)) = some (some (.string .empty), 1, 16) := by kernel_rfl
def showL (ls : List (List Gl)) : List ByteArray := ls.map txtS
def MakesS (l : List ByteArray) (w : World) (e : Ending) (w' : World) : Prop := ∃ v, e = .returned v ∧ w'.ownsRow w.heap.size 9 1 v l.length (strsV l) ∧ Below w.heap.size w w'
theorem showL_take {ls : List (List Gl)} {k : Nat} (h : k < ls.length) : showL (ls.take (k + 1)) = showL (ls.take k) ++ [txtS ls[k]] := by
  unfold showL
  rw [List.take_succ_eq_append_getElem h, List.map_append]
  rfl
set_option maxRecDepth 100000 in
set_option maxHeartbeats 4000000 in
theorem show_pro {P : Nat → Prop} (ls : List (List Gl)) (vl vr vk : Value) (mo : Bool) (w : World) (h : RdL P w vl ls) (h1 : vr.oneCell' = true) (h2 : vk.oneCell' = true) (hl : ls.length * 24 ≤ 140737488355328) (hz : ∀ l ∈ ls, (txtL l).length ≤ 1000000000) : Calls Tryz.prog 22 #[laidV vl vr vk mo] w (MakesS (showL ls) w) := by
  obtain ⟨i0, hi0, hz0, hz1, hz2⟩ := info_parts infoS
  obtain ⟨pa, cap, rfl, hc1, hc2⟩ := h.form
  unfold maxLen at hc2
  have HH := Lib.hid h
  have HL := Lib.hid hl
  have HZ := Lib.hid hz
  obtain ⟨n, hn⟩ : ∃ n, ls.length = n := ⟨_, rfl⟩
  have HN := Lib.hid hn
  rw [hn] at HH hc1 ⊢
  have n62 : n ≤ 9223372036854775807 := by omega
  unfold laidV
  have HA := Lib.hid (below_box w (.cells #[.slice pa n cap, vr, vk, .bool mo] 29))
  clear h hn hl hz
  go_enter Tryz.func22, Tryz.ntmps22
  go_wp2_with fail
  go_loopw [3, 9] (fun rv i wr => ∃ (k : Nat), i = .int .i64 k ∧ k ≤ n ∧ Hid (wr.ownsRow w.heap.size 9 1 rv k (strsV (showL (ls.take k)))) ∧ Hid (Below w.heap.size w wr)) (fun _ i _ => n - (intOf i).toNat)
  case atStart => exact ⟨0, rfl, Nat.zero_le _, Lib.hid (World.ownsRow_nil _ _ _ _), HA⟩
  case round =>
    obtain ⟨k, rfl, hk, HO, HB⟩ := hrel
    by_cases hlt : k < n
    · have hkl : k < ls.length := by rw [HN.out]; exact hlt
      have k1 : (k : Int) < n := by omega
      have HLT := Lib.hid hlt
      obtain ⟨b, off, pz, cz, rfl, _, c0, q1, q2, hln⟩ := (HH.out.below HB.out).at_ hkl
      have HSN := Lib.hid (showL_take hkl)
      have hzk := HZ.out _ (List.getElem_mem hkl)
      obtain ⟨r, hr⟩ : ∃ r, ls[k] = r := ⟨_, rfl⟩
      rw [hr] at c0 q1 hln HSN hzk
      have HR := Lib.hid hln
      have HZK := Lib.hid hzk
      have L1 := Lib.hid (show k + 1 ≤ maxLen by unfold maxLen; omega)
      have L2 := Lib.hid (show (k + 1) * 16 ≤ 140737488355328 by have := HL.out; have := HN.out; omega)
      obtain ⟨rl, hrl⟩ : ∃ rl, r.length = rl := ⟨_, rfl⟩
      rw [hrl] at c0 q1 HR
      have rl62 : rl ≤ 9223372036854775807 := by unfold maxLen at q2; omega
      obtain ⟨p3, c3, rfl⟩ := lenL HO.out
      clear hlt hkl hr hzk hln q1 q2 hrl
      go_wp2_with fail
      refine (textOf_pro r _ wr HR.out HZK.out).mono ?_
      rintro e w5 ⟨rfl, b5⟩
      obtain ⟨sv, hsv⟩ : ∃ sv, txtS r = sv := ⟨_, rfl⟩
      rw [hsv] at HSN ⊢
      have hA := below_box w5 (.cells #[.string sv] 9)
      have HO5 := Lib.hid (own_below (own_below HO.out b5) hA)
      have HB5 := Lib.hid ((HB.out.trans (b5.mono HB.out.size)).trans (hA.mono (Nat.le_trans HB.out.size b5.size)))
      have L3 := Lib.hid HB5.out.size
      have HON := Lib.hid (show ∀ u ∈ [Value.string sv], u.oneCell' = true from fun u hu => by rw [List.mem_singleton] at hu; rw [hu]; rfl)
      clear b5 hA hsv
      dsimp only
      rename_i K hK
      refine hK _ _ ?_
      clear hK K
      go_wp2_with (at_builtin; go_loud (refine wpList_append_own _ rfl _ _ 48 rfl w.heap.size 9 i0 _ 1 16 Tryz.underlying48 hi0 hz0 hz1 hz2 rfl (by decide) _ _ _ rfl HO5.out ⟨w5.heap.size, 0, none⟩ 1 1 [.string sv] rfl rfl (cells_newL _ _ _) HON.out L1.out L2.out L3.out ?_); intro v7 w7 hown7 hg7 _; have HO7 := Lib.hid hown7; have HB7 := Lib.hid (HB5.out.grown hg7 L3.out (fun c hc => (own_base HO5.out hc).1)); clear hown7 hg7)
      have HO8 := Lib.hid (show w7.ownsRow w.heap.size 9 1 v7 (k + 1) (strsV (showL (ls.take (k + 1)))) by
        rw [HSN.out, strsV_snoc]; exact HO7.out)
      go_wp2_with fail
      go_roundw
      case measure => have := HLT.out; simp [intOf]; omega
      case rel => exact ⟨k + 1, by go_num, HLT.out, HO8, HB7⟩
    · obtain rfl : k = n := by omega
      have hzk : ¬ (k : Int) < k := by omega
      have HF := Lib.hid (show ls.take k = ls by rw [← HN.out, List.take_length])
      have HSL := Lib.hid (show (showL ls).length = k by unfold showL; rw [List.length_map, HN.out])
      clear hlt
      go_wp2_with fail
      go_ret
      refine ⟨_, rfl, ?_, HB.out⟩
      have h := HO.out
      rw [HF.out] at h
      rw [HSL.out]
      exact h
end Go.Proofs.YtjohhahfpgfjdaaGreatDoor.Tb
end
section
namespace Go.Proofs.YtjohhahfpgfjdaaGreatDoor.Ly
open Go.RowKit Go.Lib Go.Shelf Go.ChangeShapes Go.Proofs.YtjohhahfpgfjdaaGreatDoor
theorem own : ownKnob Tryz.prog.godebug = none := by kernel_rfl
def lay5 : List (String × DataW Unit) := [("math/bits.deBruijn32tab", Rows.laid_math_bits_deBruijn32tab), ("math/bits.deBruijn64tab", Rows.laid_math_bits_deBruijn64tab), ("internal/strconv.uint64pow10", Rows.laid_internal_strconv_uint64pow10), ("unicode/utf8.acceptRanges", Rows.laid_unicode_utf8_acceptRanges), ("unicode/utf8.first", Rows.laid_unicode_utf8_first)]
/-- What the laid variables hold. -/
structure Tabs2 (W : World) : Prop where
  u : Tabs W
  p : S6.Tabs W
theorem Tabs2.below {w w' : World} (h : Tabs2 w) (hb : Below w.heap.size w w') : Tabs2 w' := ⟨h.u.below hb (Nat.le_refl _), h.p.below hb (Nat.le_refl _)⟩
/-- The list that every row of this seat bears. -/
theorem tabs_of {W : World} (hL : laidMetH Tryz.prog Rows.layoutFitsUptoRow.laid W) (hS : W.ShapedOpen Tryz.prog) : Tabs2 W := by
  have hL' : laidMet Tryz.prog lay5 W := hL
  have h4 : VarReads Tryz.prog W "unicode/utf8.acceptRanges" acceptData := Lib.laidMet.reads hL' (.tail _ (.tail _ (.tail _ (.head _))))
  have h3 : VarReads Tryz.prog W "unicode/utf8.first" firstData := by
    have h := Lib.laidMet.reads hL' (.tail _ (.tail _ (.tail _ (.tail _ (.head _)))))
    rw [show Rows.laid_unicode_utf8_first = firstData from Pinned.utf8First_eq] at h
    exact h
  have hp : TabIs Tryz.prog W "internal/strconv.uint64pow10" .u64 pow10Tab := by
    have h2 := hL'.tail.tail
    exact tabIs_of_head (zs := pow10Tab) (g := 2) (t := 251) (e := 233) (n := 20) S6.g_pow (by kernel_rfl) (by kernel_rfl) (by kernel_rfl) (by kernel_rfl) (by kernel_rfl) h2
  refine ⟨⟨utf8Tabs_of_readsT (U8Types.of260 Tryz.lays260) ⟨by kernel_rfl, by kernel_rfl, by kernel_rfl, by kernel_rfl, by kernel_rfl, by kernel_rfl, by kernel_rfl⟩ h3 h4, ?_⟩, ⟨hp⟩⟩
  exact cell_of_shapedOpen_int (g := 3) (zero := #[.int .i64 0]) (t := 3) hS (of_decide_eq_true (by kernel_rfl)) (by kernel_rfl) rfl (by kernel_rfl) (by kernel_rfl) Tryz.underlying3
def litOf : DataW Unit → Value
  | .lit (.int k z) => .int k z
  | .lit (.string b) => .string ⟨b.toArray⟩
  | _ => .bool false
def litsOf : DataW Unit → Array Value
  | .agg l => (l.map litOf).toArray
  | _ => #[]
/-- A world for the witness: the tables hold what the library lays. -/
noncomputable def laidWorld (os : Os) : World :=
  let w0 := World.holding Tryz.prog os ⟨#[], #[], []⟩
  let put (h : Array Obj) (g : Nat) (cs : Array Value) : Array Obj := h.modify g fun
    | .cells _ t frozen => .cells cs t frozen
    | o => o
  let h1 := put w0.heap 0 (Lib.firstTab.map fun z => Value.int .u8 z).toArray
  let h2 := put h1 1 ((List.range 16).flatMap fun i => [Value.int .u8 (Lib.accLo i), Value.int .u8 (Lib.accHi i)]).toArray
  let h3 := put h2 2 (litsOf Rows.laid_internal_strconv_uint64pow10)
  let h5 := put h3 4 (litsOf Rows.laid_math_bits_deBruijn32tab)
  let h6 := put h5 5 (litsOf Rows.laid_math_bits_deBruijn64tab)
  { w0 with heap := h6 }
theorem laid_met (os : Os) (args : Array Value) : laidMet Tryz.prog Rows.layoutFitsUptoRow.laid ((laidWorld os).forCall (fun _ _ => 0) ⟨#[], args, []⟩).memory :=
  (LaidIn.of_run (l := lay5) [4, 5, 2, 1, 0] 8 (by kernel_rfl) (by kernel_rfl) (by kernel_rfl) (by kernel_rfl)).met
end Go.Proofs.YtjohhahfpgfjdaaGreatDoor.Ly
end
