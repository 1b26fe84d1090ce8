/- The program's thatCount: its iterator. -/
import Derived.Test.YtjgcbobalmmjkaaLka
import Derived.Test.YtjgcbobalmmjkaaRound
import Derived.RangeFuncNested
import Derived.RangeFuncBound
import Derived.RangeFuncCalls
import Derived.RangeFuncLeaves
import Derived.RangeFuncBox
import Derived.Shelf.Abstract
import Derived.Shelf.RegionOpen
import Derived.OwnWalkIn
import Derived.TacticsInMore
import Derived.LoopNIn
import Derived.LoopIn
namespace Go.Proofs.Ytjgcbobalmmjkaa
open Go.RowKit Go.Shelf
set_option linter.unusedVariables false

attribute [local go_sem] Oper.semAt_some

/-- What a round keeps: what lay below a block, and the iterator's two boxes. -/
def KpR (B b1 b2 : Nat) (W W' : World) : Prop := Below B W W' ∧ (∀ v, W.cell? ⟨b1, 0, none⟩ = some v → W'.cell? ⟨b1, 0, none⟩ = some v) ∧ (∀ v, W.cell? ⟨b2, 0, none⟩ = some v → W'.cell? ⟨b2, 0, none⟩ = some v)
theorem KpR.refl (B b1 b2 : Nat) (W : World) : KpR B b1 b2 W W := ⟨Below.refl _ _, fun _ h => h, fun _ h => h⟩
theorem KpR.t {B b1 b2 : Nat} {X Y Z : World} (h : KpR B b1 b2 X Y) (k : KpR B b1 b2 Y Z) : KpR B b1 b2 X Z := ⟨h.1.trans k.1, fun v e => k.2.1 v (h.2.1 v e), fun v e => k.2.2 v (h.2.2 v e)⟩
theorem cellAt_putL {W : World} {b l : Nat} {o o' : Obj} {v : Value} (h : W.heap[l]? = some o) (hc : o.isCells = false) (e : W.cell? ⟨b, 0, none⟩ = some v) : (W.putObj l o').cell? ⟨b, 0, none⟩ = some v := by
  have hne : b ≠ l := by
    rintro rfl
    unfold World.cell? at e
    rw [h] at e
    cases o <;> simp_all [Obj.isCells]
  unfold World.cell? at e ⊢
  simp only [] at e ⊢
  rw [World.putObj_heap_other hne]
  exact e
theorem KpR.put {B b1 b2 : Nat} (W : World) (l : Nat) (o o' : Obj) (hl : B ≤ l) (h : W.heap[l]? = some o) (hc : o.isCells = false) (hw : o.isWalk = false) : KpR B b1 b2 W (W.putObj l o') :=
  ⟨(Below.refl B W).grown (grownBy_putObj' W l o') (by have := (Array.getElem?_eq_some_iff.1 h).1; omega) (fun k e => by cases e; omega), fun v e => cellAt_putL h hc e, fun v e => cellAt_putL h hc e⟩
theorem KpR.of_below {B b1 b2 : Nat} {W W' : World} (h : Below W.heap.size W W') (hB : B ≤ W.heap.size) : KpR B b1 b2 W W' :=
  ⟨h.mono hB, fun v e => (h.cell (p := ⟨b1, 0, none⟩) (cellInL e)).trans e, fun v e => (h.cell (p := ⟨b2, 0, none⟩) (cellInL e)).trans e⟩

/-- The function value over two new boxes that hold the list and the number of topics. -/
theorem that_in (n : Nat) (pa : Option Addr) (len cap : Nat) (N : Int) (w : World) :
    CallsIn Fence.wide n Try.prog 21 #[.slice pa len cap, .int .i64 N] w fun e w' => e = .returned (.func (.func 32) #[] #[.pointer (some ⟨w.heap.size, 0, none⟩), .pointer (some ⟨w.heap.size + 1, 0, none⟩)]) ∧
      w' = (w.alloc (.cells #[.slice pa len cap] 22)).alloc (.cells #[.int .i64 N] 3) := by
  refine callsIn_of_wp Try.func21 rfl trivial ?_ rfl
  simp only [Try.ntmps21, List.size_toArray, List.length_cons, List.length_nil, Nat.reduceAdd, Nat.reduceSub, Array.replicate_succ, Array.replicate_zero, List.push_toArray, List.append_toArray, List.nil_append, List.cons_append]
  gi_wp2
  go_ret
  exact ⟨rfl, rfl⟩
def encC {n : Nat} (x : Cn n) : Value := .agg #[.int .i64 (x.fr : Nat), .int .i64 (x.to : Nat), .int .i64 x.note, .string x.nam, .int .i64 x.line, .int .i64 x.col]
theorem cn1_some {n : Nat} {r : Rf} (h : (0 ≤ r.fr ∧ r.fr < n) ∧ (0 ≤ r.to ∧ r.to < n)) : ∃ x : Cn n, cn1 n r = some x ∧ (x.fr : Int) = r.fr ∧ (x.to : Int) = r.to ∧ x.note = r.note ∧ x.nam = r.nam ∧ x.line = r.line ∧ x.col = r.col := by
  unfold cn1
  rw [dif_pos h]
  exact ⟨_, rfl, by simp; omega, by simp; omega, rfl, rfl, rfl, rfl⟩
theorem cn1_none {n : Nat} {r : Rf} (h : ¬ ((0 ≤ r.fr ∧ r.fr < n) ∧ (0 ≤ r.to ∧ r.to < n))) : cn1 n r = none := by unfold cn1; rw [dif_neg h]
theorem cnt_next {n : Nat} {l : List Rf} {k : Nat} (h : k < l.length) : cnt n (l.take (k + 1)) = cnt n (l.take k) ++ (cn1 n l[k]).toList := by
  rw [List.take_succ_eq_append_getElem h, cnt_snoc]
theorem cnt_take_prefix (n : Nat) (l : List Rf) (k : Nat) : cnt n (l.take k) <+: cnt n l := by
  refine ⟨cnt n (l.drop k), ?_⟩
  unfold cnt
  rw [← List.filterMap_append, List.take_append_drop]
theorem cnt_lt {n : Nat} {l : List Rf} {k : Nat} {x : Cn n} (h : k < l.length) (e : cn1 n l[k] = some x) : (cnt n (l.take k)).length < (cnt n l).length := by
  have h1 := (cnt_take_prefix n l (k + 1)).length_le
  rw [cnt_next h, e] at h1
  simp at h1
  omega

set_option maxRecDepth 100000 in
set_option maxHeartbeats 1000000 in
theorem that1_in (n li b1 b2 B : Nat) (v : Value) (l : List Rf) (N : Nat) (hn : 3 ≤ n) (hl : l.length ≤ 1000000) (w0 : World) (hv : RdR w0 v l) (h0B : w0.heap.size ≤ B) (J Jx : List (Cn N) → World → Prop)
    (hY : ∀ pre x W, J pre W → pre.length < (cnt N l).length → YieldAt Fence.wide (n - 1) Try.prog li #[encC x] W fun e W' =>
      (e = .returned (.bool true) ∧ J (pre ++ [x]) W' ∧ KpR B b1 b2 W W') ∨ (e = .returned (.bool false) ∧ Jx (pre ++ [x]) W'))
    (W : World) (hJ : AbidesFrom W.heap.size J) (hbw : Below B w0 W) (hBW : B ≤ W.heap.size) (hb1 : W.cell? ⟨b1, 0, none⟩ = some v) (hb2 : W.cell? ⟨b2, 0, none⟩ = some (.int .i64 N)) (h0 : J [] W) :
    CallsIn Fence.wide n Try.prog 32 #[.func (.yield li) #[] #[], .pointer (some ⟨b1, 0, none⟩), .pointer (some ⟨b2, 0, none⟩)] W fun e W' => (∃ v, e = .returned v) ∧
      ((∃ ys : List (Cn N), ys = cnt N l ∧ J ys W') ∨ (∃ pre : List (Cn N), pre <+: cnt N l ∧ Jx pre W')) := by
  have hf0 : Fence.wide.fn 31 := trivial
  have h1n : 1 ≤ n := by omega
  obtain ⟨pa, cap, rfl, hcl, hcm⟩ := hv.form
  refine callsIn_of_wp Try.func32 rfl trivial ?_ rfl
  simp only [Try.ntmps32, List.size_toArray, List.length_cons, List.length_nil, Nat.reduceAdd, Nat.reduceSub, Array.replicate_succ, Array.replicate_zero, List.push_toArray, List.append_toArray, List.nil_append, List.cons_append]
  have HV := Lib.hid hv
  have HL := Lib.hid hl
  clear hv hcm hcl hl
  gi_wp2
  gi_loopw [8] (fun i wr => ∃ k : Nat, i = .int .i64 (k : Nat) ∧ k ≤ l.length ∧ J (cnt N (l.take k)) wr ∧ KpR B b1 b2 W wr) (fun i _ => l.length - (intOf i).toNat)
  case atStart => exact ⟨0, rfl, Nat.zero_le _, h0, KpR.refl _ _ _ _⟩
  case round =>
    obtain ⟨k, rfl, hk, hJs, hkp⟩ := hrel
    by_cases hlt : k < l.length
    · have hbr : Below B w0 wr := hbw.trans hkp.1
      obtain ⟨b, off, rfl, hc⟩ := (HV.out.below' hbr h0B).cell hlt
      obtain ⟨r, hr⟩ : ∃ r, l[k] = r := ⟨_, rfl⟩
      have HN := Lib.hid (cnt_next (n := N) hlt)
      have hc1 : ∀ x, cn1 N r = some x → (cnt N (l.take k)).length < (cnt N l).length := fun x hx => cnt_lt (x := x) hlt (by rw [hr]; exact hx)
      simp only [hr] at hc
      rw [hr] at HN
      have HLT := Lib.hid hlt
      have HC1' := Lib.hid hc1
      clear hc1
      have c0 := hc 0 _ rfl
      have c1 := hc 1 _ rfl
      have c2 := hc 2 _ rfl
      have c3 := hc 3 _ rfl
      have c4 := hc 4 _ rfl
      have c5 := hc 5 _ rfl
      rw [Nat.add_zero] at c0
      have hbx := hkp.2.2 _ hb2
      have hA : Below wr.heap.size wr (wr.alloc (.cells #[.int .i64 r.fr, .int .i64 r.to, .int .i64 r.note, .string r.nam, .int .i64 r.line, .int .i64 r.col] 45)) := (Below.refl _ _).alloc (Nat.le_refl _) _
      have hBr : B ≤ wr.heap.size := Nat.le_trans hBW hkp.1.size
      have HKA := Lib.hid (KpR.t hkp (KpR.of_below hA hBr))
      have hgA : wr.grownBy (wr.alloc (.cells #[.int .i64 r.fr, .int .i64 r.to, .int .i64 r.note, .string r.nam, .int .i64 r.line, .int .i64 r.col] 45)) none := World.grownBy_alloc _ _ _
      have HJA := Lib.hid (hJ _ _ _ none hJs hgA (fun r e => by cases e))
      have hbx2 := (hA.cell (p := ⟨b2, 0, none⟩) (cellInL hbx)).trans hbx
      have hne : b2 ≠ wr.heap.size := by have := cellInL hbx; simp at this; omega
      have hk1 : (k : Int) < l.length := by omega
      have hk9 : l.length ≤ 1000000 := HL.out
      by_cases hf : 0 ≤ r.fr ∧ r.fr < N
      · by_cases ht : 0 ≤ r.to ∧ r.to < N
        · obtain ⟨x, hx, e1, e2, e3, e4, e5, e6⟩ := cn1_some (n := N) ⟨hf, ht⟩
          obtain ⟨fn, tmps, assign, body, hy, hR⟩ := hY _ x _ HJA.out (HC1'.out x hx)
          rw [hx] at HN
          unfold encC at hy
          rw [e1, e2, e3, e4, e5, e6] at hy
          have hd1 : decide (0 ≤ r.fr ∧ r.fr < (N : Int)) = true := decide_eq_true hf
          have hd2 : decide (0 ≤ r.to ∧ r.to < (N : Int)) = true := decide_eq_true ht
          have q1 := fun w => is_topic r.fr N w
          have q2 := fun w => is_topic r.to N w
          rw [hd1] at q1
          rw [hd2] at q2
          have Q1 := Lib.hid q1
          have Q2 := Lib.hid q2
          clear hc hr hJs hkp hbr hA hgA hbx HC1' hx e1 e2 e3 e4 e5 e6 hd1 hd2 hf ht hlt q1 q2
          gi_wp2_with (gi_at_call 31; (with_reducible refine (callsIn_wide.2 (Q1.out _)).mono ?_); rintro e w1 ⟨rfl, rfl⟩)
          gi_wp2_with (gi_at_call 31; (with_reducible refine (callsIn_wide.2 (Q2.out _)).mono ?_); rintro e w1 ⟨rfl, rfl⟩)
          refine hR.mono ?_
          rintro e W3 (⟨rfl, hJ3, hk3⟩ | ⟨rfl, hJx3⟩)
          · have HK4 := Lib.hid (KpR.t HKA.out hk3)
            clear hk3
            gi_wp2
            go_roundw
            case rel => exact ⟨k + 1, by go_num, by have := HLT.out; omega, by rw [HN.out]; exact hJ3, HK4.out⟩
            case measure => have := HLT.out; first | (simp [intOf]; done) | (simp [intOf]; omega)
          · gi_wp2
            refine bodyPost_ret (results_none rfl _ _ _) rfl ?_
            refine ⟨⟨_, rfl⟩, .inr ⟨_, ?_, hJx3⟩⟩
            have := cnt_take_prefix N l (k + 1)
            rw [HN.out] at this
            exact this
        · have hd1 : decide (0 ≤ r.fr ∧ r.fr < (N : Int)) = true := decide_eq_true hf
          have hd2 : decide (0 ≤ r.to ∧ r.to < (N : Int)) = false := decide_eq_false ht
          rw [cn1_none (n := N) (fun h => ht h.2)] at HN
          have q1 := fun w => is_topic r.fr N w
          have q2 := fun w => is_topic r.to N w
          rw [hd1] at q1
          rw [hd2] at q2
          have Q1 := Lib.hid q1
          have Q2 := Lib.hid q2
          clear hc hr hJs hkp hbr hA hgA hbx HC1' hd1 hd2 hf ht hlt q1 q2
          gi_wp2_with (gi_at_call 31; (with_reducible refine (callsIn_wide.2 (Q1.out _)).mono ?_); rintro e w1 ⟨rfl, rfl⟩)
          gi_wp2_with (gi_at_call 31; (with_reducible refine (callsIn_wide.2 (Q2.out _)).mono ?_); rintro e w1 ⟨rfl, rfl⟩)
          refine ⟨fun f h => (by cases h), ?_⟩
          gi_wp2_with fail
          go_roundw
          case rel => exact ⟨k + 1, by go_num, by have := HLT.out; omega, by rw [HN.out, Option.toList_none, List.append_nil]; exact HJA.out, HKA.out⟩
          case measure => have := HLT.out; first | (simp [intOf]; done) | (simp [intOf]; omega)
      · have hd1 : decide (0 ≤ r.fr ∧ r.fr < (N : Int)) = false := decide_eq_false hf
        rw [cn1_none (n := N) (fun h => hf h.1)] at HN
        have q1 := fun w => is_topic r.fr N w
        rw [hd1] at q1
        have Q1 := Lib.hid q1
        clear hc hr hJs hkp hbr hA hgA hbx HC1' hd1 hf hlt q1
        gi_wp2_with (gi_at_call 31; (with_reducible refine (callsIn_wide.2 (Q1.out _)).mono ?_); rintro e w1 ⟨rfl, rfl⟩)
        refine ⟨fun f h => (by cases h), ?_⟩
        gi_wp2_with fail
        go_roundw
        case rel => exact ⟨k + 1, by go_num, by have := HLT.out; omega, by rw [HN.out, Option.toList_none, List.append_nil]; exact HJA.out, HKA.out⟩
        case measure => have := HLT.out; first | (simp [intOf]; done) | (simp [intOf]; omega)
    · obtain rfl : k = l.length := by omega
      have hkx : ¬ ((l.length : Nat) : Int) < l.length := by omega
      rw [List.take_length] at hJs
      gi_wp2
      go_end0
      first | exact ⟨⟨_, rfl⟩, .inl ⟨_, rfl, hJs⟩⟩ | exact ⟨⟨_, rfl⟩, .inl hJs⟩
theorem that_stops (n : Nat) (hn : 3 ≤ n) (b1 b2 B : Nat) (v : Value) (l : List Rf) (N : Nat) (hl : l.length ≤ 1000000) (w0 : World) (hv : RdR w0 v l) (h0B : w0.heap.size ≤ B) (w : World) (hbw : Below B w0 w) (hBw : B ≤ w.heap.size)
    (hb1 : w.cell? ⟨b1, 0, none⟩ = some v) (hb2 : w.cell? ⟨b2, 0, none⟩ = some (.int .i64 N)) :
    SeqStopsK Fence.wide n Try.prog 32 #[.pointer (some ⟨b1, 0, none⟩), .pointer (some ⟨b2, 0, none⟩)] (fun x : Cn N => #[encC x]) (KpR B b1 b2) (fun ys => ys = cnt N l) (fun pre => pre <+: cnt N l) (cnt N l).length w := fun li J Jx W hW hJ _ hY h0 =>
  that1_in n li b1 b2 B v l N hn hl w0 hv h0B J Jx hY W hJ (hbw.trans (hW.mono hBw)) (Nat.le_trans hBw hW.size) ((hW.cell (p := ⟨b1, 0, none⟩) (cellInL hb1)).trans hb1) ((hW.cell (p := ⟨b2, 0, none⟩) (cellInL hb2)).trans hb2) h0
end Go.Proofs.Ytjgcbobalmmjkaa
