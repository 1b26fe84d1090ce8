/- Layer 10: the program's below: its iterator. -/
import Derived.Test.YtjnnkelbedmccaaToe
import Derived.Test.YtjnnkelbedmccaaRound
import Derived.RangeFuncNested
import Derived.RangeFuncBound
import Derived.RangeFuncCalls
import Derived.RangeFuncLeaves
import Derived.RangeFuncBox
import Derived.Shelf.Abstract
import Derived.Shelf.RegionOpen
import Derived.OwnWalkIn
import Derived.TacticsInMore
import Derived.LoopNIn
import Derived.LoopIn
namespace Go.Proofs.Ytjnnkelbedmccaa
open Go.RowKit Go.Shelf
set_option linter.unusedVariables false

attribute [local go_sem] Oper.semAt_some

/-- What a round keeps: what lay below a block, and the iterator's two boxes. -/
def KpR (B b1 b2 : Nat) (W W' : World) : Prop := Below B W W' ∧ (∀ v, W.cell? ⟨b1, 0, none⟩ = some v → W'.cell? ⟨b1, 0, none⟩ = some v) ∧ (∀ v, W.cell? ⟨b2, 0, none⟩ = some v → W'.cell? ⟨b2, 0, none⟩ = some v)
theorem KpR.refl (B b1 b2 : Nat) (W : World) : KpR B b1 b2 W W := ⟨Below.refl _ _, fun _ h => h, fun _ h => h⟩
theorem KpR.t {B b1 b2 : Nat} {X Y Z : World} (h : KpR B b1 b2 X Y) (k : KpR B b1 b2 Y Z) : KpR B b1 b2 X Z := ⟨h.1.trans k.1, fun v e => k.2.1 v (h.2.1 v e), fun v e => k.2.2 v (h.2.2 v e)⟩
theorem cellAt_putL {W : World} {b l : Nat} {o o' : Obj} {v : Value} (h : W.heap[l]? = some o) (hc : o.isCells = false) (e : W.cell? ⟨b, 0, none⟩ = some v) : (W.putObj l o').cell? ⟨b, 0, none⟩ = some v := by
  have hne : b ≠ l := by
    rintro rfl
    unfold World.cell? at e
    rw [h] at e
    cases o <;> simp_all [Obj.isCells]
  unfold World.cell? at e ⊢
  simp only [] at e ⊢
  rw [World.putObj_heap_other hne]
  exact e
theorem KpR.put {B b1 b2 : Nat} (W : World) (l : Nat) (o o' : Obj) (hl : B ≤ l) (h : W.heap[l]? = some o) (hc : o.isCells = false) (hw : o.isWalk = false) : KpR B b1 b2 W (W.putObj l o') :=
  ⟨(Below.refl B W).grown (grownBy_putObj' W l o') (by have := (Array.getElem?_eq_some_iff.1 h).1; omega) (fun k e => by cases e; omega), fun v e => cellAt_putL h hc e, fun v e => cellAt_putL h hc e⟩
theorem KpR.of_below {B b1 b2 : Nat} {W W' : World} (h : Below W.heap.size W W') (hB : B ≤ W.heap.size) : KpR B b1 b2 W W' :=
  ⟨h.mono hB, fun v e => (h.cell (p := ⟨b1, 0, none⟩) (cellInL e)).trans e, fun v e => (h.cell (p := ⟨b2, 0, none⟩) (cellInL e)).trans e⟩


/-- The function value over two new boxes that hold the list and the number of an entry. -/
theorem below_in (n : Nat) (pa : Option Addr) (len cap : Nat) (N : Int) (w : World) :
    CallsIn Fence.wide n Try.prog 50 #[.slice pa len cap, .int .i64 N] w fun e w' => e = .returned (.func (.func 61) #[] #[.pointer (some ⟨w.heap.size, 0, none⟩), .pointer (some ⟨w.heap.size + 1, 0, none⟩)]) ∧
      w' = (w.alloc (.cells #[.slice pa len cap] 34)).alloc (.cells #[.int .i64 N] 3) := by
  refine callsIn_of_wp Try.func50 rfl trivial ?_ rfl
  simp only [Try.ntmps50, List.size_toArray, List.length_cons, List.length_nil, Nat.reduceAdd, Nat.reduceSub, Array.replicate_succ, Array.replicate_zero, List.push_toArray, List.append_toArray, List.nil_append, List.cons_append]
  gi_wp2
  go_ret
  exact ⟨rfl, rfl⟩
structure Pl (n : Nat) where
  k : Nat
  h : k < n
def encP {n : Nat} (x : Pl n) : Value := .int .i64 (x.k : Nat)
/-- The places from s on, as many as m. -/
def plcs (n s m : Nat) : List (Pl n) := (List.range' s m).filterMap fun k => if h : k < n then some ⟨k, h⟩ else none
theorem plcs_zero (n s : Nat) : plcs n s 0 = [] := rfl
theorem plcs_succ {n s m : Nat} (h : s + m < n) : plcs n s (m + 1) = plcs n s m ++ [⟨s + m, h⟩] := by
  unfold plcs
  rw [List.range'_concat, List.filterMap_append]
  simp [h]
theorem plcs_ks {n s m : Nat} (h : s + m ≤ n) : (plcs n s m).map Pl.k = List.range' s m := by
  induction m with
  | zero => rfl
  | succ m ih =>
    rw [plcs_succ (by omega), List.map_append, ih (by omega), List.range'_concat]
    simp
theorem plcs_len {n s m : Nat} (h : s + m ≤ n) : (plcs n s m).length = m := by
  have := congrArg List.length (plcs_ks h)
  simpa using this
theorem plcs_pre {n s m k : Nat} (hk : k ≤ m) : plcs n s k <+: plcs n s m := by
  refine ⟨plcs n (s + k) (m - k), ?_⟩
  unfold plcs
  rw [← List.filterMap_append]
  congr 1
  have := List.range'_append_1 (s := s) (m := k) (n := m - k)
  rw [this]
  congr 1
  omega
/-- What stands below an entry, or the root, in order. -/
def seqB (l : List Ent) (i : Int) : List (Pl l.length) := plcs l.length (i + 1).toNat (blw l (lvI l i) (i + 1).toNat)
theorem seqB_len {l : List Ent} {i : Int} (hi : i < l.length) : (seqB l i).length = blw l (lvI l i) (i + 1).toNat := plcs_len (blw_in l _ _ (by omega))
theorem seqB_ks {l : List Ent} {i : Int} (hi : i < l.length) : (seqB l i).map Pl.k = List.range' (i + 1).toNat (blw l (lvI l i) (i + 1).toNat) := plcs_ks (blw_in l _ _ (by omega))

set_option maxRecDepth 100000 in
set_option maxHeartbeats 1000000 in
theorem below1_in (n li b1 b2 B : Nat) (v : Value) (l : List Ent) (i : Int) (hn : 3 ≤ n) (hl : l.length ≤ 1000) (hi0 : -1 ≤ i) (hi1 : i < l.length) (w0 : World) (hv : RdE w0 v l) (h0B : w0.heap.size ≤ B) (J Jx : List (Pl l.length) → World → Prop)
    (hY : ∀ pre x W, J pre W → pre.length < (seqB l i).length → YieldAt Fence.wide (n - 1) Try.prog li #[encP x] W fun e W' =>
      (e = .returned (.bool true) ∧ J (pre ++ [x]) W' ∧ KpR B b1 b2 W W') ∨ (e = .returned (.bool false) ∧ Jx (pre ++ [x]) W'))
    (W : World) (hJ : AbidesFrom W.heap.size J) (hbw : Below B w0 W) (hBW : B ≤ W.heap.size) (hb1 : W.cell? ⟨b1, 0, none⟩ = some v) (hb2 : W.cell? ⟨b2, 0, none⟩ = some (.int .i64 i)) (h0 : J [] W) :
    CallsIn Fence.wide n Try.prog 61 #[.func (.yield li) #[] #[], .pointer (some ⟨b1, 0, none⟩), .pointer (some ⟨b2, 0, none⟩)] W fun e W' => (∃ v, e = .returned v) ∧
      ((∃ ys : List (Pl l.length), ys = seqB l i ∧ J ys W') ∨ (∃ pre : List (Pl l.length), pre <+: seqB l i ∧ Jx pre W')) := by
  have hf0 : Fence.wide.fn 54 := trivial
  have h1n : 1 ≤ n := by omega
  have HLV := Lib.hid (level_pro l v i W (hv.below' hbw h0B) hi0 hi1)
  obtain ⟨pa, cap, rfl, hcl, hcm⟩ := hv.form
  refine callsIn_of_wp Try.func61 rfl trivial ?_ rfl
  simp only [Try.ntmps61, List.size_toArray, List.length_cons, List.length_nil, Nat.reduceAdd, Nat.reduceSub, Array.replicate_succ, Array.replicate_zero, List.push_toArray, List.append_toArray, List.nil_append, List.cons_append]
  obtain ⟨s, hs⟩ : ∃ s : Nat, i + 1 = (s : Int) := ⟨(i + 1).toNat, by omega⟩
  have hsn : (i + 1).toNat = s := by omega
  have hsl : s ≤ l.length := by omega
  obtain ⟨u, hu⟩ : ∃ u, lvI l i = u := ⟨_, rfl⟩
  obtain ⟨m, hm⟩ : ∃ m, blw l u s = m := ⟨_, rfl⟩
  have hq : seqB l i = plcs l.length s m := by unfold seqB; rw [hsn, hu, hm]
  have hml : s + m ≤ l.length := by rw [← hm]; exact blw_in l u s hsl
  rw [hq, plcs_len hml] at hY
  rw [hq]
  rw [hu] at HLV
  have HM := Lib.hid hm
  have HML := Lib.hid hml
  have HV := Lib.hid hv
  have HL := Lib.hid hl
  have hi1000 : i ≤ 1000 := by omega
  clear hv hcm hcl hl hu hm hml hq hi1 hsn
  gi_wp2_with (gi_at_call 54; (with_reducible refine (callsIn_wide.2 HLV.out).mono ?_); rintro e w1 ⟨rfl, rfl⟩)
  gi_loopw [5] (fun i wr => ∃ k : Nat, i = .int .i64 ((s + k : Nat)) ∧ k ≤ m ∧ J (plcs l.length s k) wr ∧ KpR B b1 b2 W wr) (fun i _ => l.length + 1 - (intOf i).toNat)
  case atStart => exact ⟨0, rfl, Nat.zero_le _, h0, KpR.refl _ _ _ _⟩
  case round =>
    obtain ⟨k, rfl, hk, hJs, hkp⟩ := hrel
    have hbr : Below B w0 wr := hbw.trans hkp.1
    have d1 := hkp.2.1 _ hb1
    by_cases hlt : k < m
    · have hin : s + k < l.length := by have := HML.out; omega
      obtain ⟨b, off, rfl, c0, c1⟩ := (HV.out.below' hbr h0B).cell hin
      have hab : u < lvN l (s + k) := blw_above (by rw [HM.out]; exact hlt)
      obtain ⟨q, hq⟩ : ∃ q, lvN l (s + k) = q := ⟨_, rfl⟩
      rw [hq] at c1 hab
      obtain ⟨z, hz⟩ : ∃ z, s + k = z := ⟨_, rfl⟩
      have hl9 := HL.out
      have HN := Lib.hid (plcs_succ (n := l.length) (s := s) (m := k) hin)
      have hy0 := hY _ ⟨s + k, hin⟩ _ hJs (by rw [plcs_len (by omega)]; exact hlt)
      obtain ⟨fn, tmps, assign, body, hy, hR⟩ := hy0
      unfold encP at hy
      have HZ := Lib.hid hz
      simp only [hz] at hy
      rw [hz] at c1 hin ⊢
      have hz1 : (z : Int) < l.length := by omega
      have HHZ := Lib.hid hin
      have HLT := Lib.hid hlt
      have HKP := Lib.hid hkp
      clear hJs hkp hbr hq hz hin hlt c0 d1
      have d1 := HKP.out.2.1 _ hb1
      gi_wp2
      refine hR.mono ?_
      rintro e W3 (⟨rfl, hJ3, hk3⟩ | ⟨rfl, hJx3⟩)
      · have HK4 := Lib.hid (KpR.t HKP.out hk3)
        clear hk3
        gi_wp2
        go_roundw
        case rel => exact ⟨k + 1, by have := HZ.out; first | (go_num; done) | (congr 1; omega), by have := HLT.out; omega, by rw [HN.out]; exact hJ3, HK4.out⟩
        case measure => have := HHZ.out; first | (simp [intOf]; done) | (simp [intOf]; omega)
      · gi_wp2
        refine bodyPost_ret (results_none rfl _ _ _) rfl ?_
        refine ⟨⟨_, rfl⟩, .inr ⟨_, ?_, hJx3⟩⟩
        have := plcs_pre (n := l.length) (s := s) (show k + 1 ≤ m from HLT.out)
        rw [HN.out] at this
        exact this
    · obtain rfl : k = m := by omega
      have HFN := Lib.hid hJs
      by_cases hend : s + k < l.length
      · obtain ⟨b, off, rfl, c0, c1⟩ := (HV.out.below' hbr h0B).cell hend
        have hab : lvN l (s + k) ≤ u := by have := blw_end (l := l) (v := u) (s := s) (by rw [HM.out]; exact hend); rwa [HM.out] at this
        obtain ⟨q, hq⟩ : ∃ q, lvN l (s + k) = q := ⟨_, rfl⟩
        rw [hq] at c1 hab
        obtain ⟨z, hz⟩ : ∃ z, s + k = z := ⟨_, rfl⟩
        rw [hz] at c1 hend ⊢
        have hab2 : ¬ u < q := by omega
        have hz1 : (z : Int) < l.length := by omega
        clear hJs hkp hbr hq hz hlt c0 hend hab
        gi_wp2
        go_end0
        exact ⟨⟨_, rfl⟩, .inl HFN.out⟩
      · obtain ⟨z, hz⟩ : ∃ z, s + k = z := ⟨_, rfl⟩
        rw [hz] at hend ⊢
        have hz1 : ¬ (z : Int) < l.length := by omega
        clear hJs hkp hbr hz hlt hend
        gi_wp2
        go_end0
        exact ⟨⟨_, rfl⟩, .inl HFN.out⟩
theorem below_stops (n : Nat) (hn : 3 ≤ n) (b1 b2 B : Nat) (v : Value) (l : List Ent) (i : Int) (hl : l.length ≤ 1000) (hi0 : -1 ≤ i) (hi1 : i < l.length) (w0 : World) (hv : RdE w0 v l) (h0B : w0.heap.size ≤ B) (w : World) (hbw : Below B w0 w) (hBw : B ≤ w.heap.size)
    (hb1 : w.cell? ⟨b1, 0, none⟩ = some v) (hb2 : w.cell? ⟨b2, 0, none⟩ = some (.int .i64 i)) :
    SeqStopsK Fence.wide n Try.prog 61 #[.pointer (some ⟨b1, 0, none⟩), .pointer (some ⟨b2, 0, none⟩)] (fun x : Pl l.length => #[encP x]) (KpR B b1 b2) (fun ys => ys = seqB l i) (fun pre => pre <+: seqB l i) (seqB l i).length w := fun li J Jx W hW hJ _ hY h0 =>
  below1_in n li b1 b2 B v l i hn hl hi0 hi1 w0 hv h0B J Jx hY W hJ (hbw.trans (hW.mono hBw)) (Nat.le_trans hBw hW.size) ((hW.cell (p := ⟨b1, 0, none⟩) (cellInL hb1)).trans hb1) ((hW.cell (p := ⟨b2, 0, none⟩) (cellInL hb2)).trans hb2) h0
end Go.Proofs.Ytjnnkelbedmccaa
