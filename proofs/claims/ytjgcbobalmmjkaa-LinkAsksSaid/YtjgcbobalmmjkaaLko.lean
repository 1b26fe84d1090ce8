/- The program's Out and Into of layer 8. -/
import Derived.Test.YtjgcbobalmmjkaaLki
import Derived.Test.YtjgcbobalmmjkaaLkr
import Derived.Lib.QuietBelow
import Derived.Maps.OwnIn
import Derived.Maps.AppendAt
import Derived.Deep.Onto
namespace Go.Proofs.Ytjgcbobalmmjkaa
open Go.RowKit Go.Shelf
set_option linter.unusedVariables false

attribute [local go_sem] Oper.semAt_some

/-- A new list, and an error's number. -/
def NewL (zs : List Nat) (er : Int) (w : World) (e : Ending) (w' : World) : Prop :=
  ∃ v, e = .returned (.tuple #[v, .int .i64 er]) ∧ w'.ownsRow w.heap.size 3 1 v zs.length (numsV zs) ∧ Below w.heap.size w w'
theorem NewL.none (er : Int) (w w' : World) (h : Below w.heap.size w w') : NewL [] er w (.returned (.tuple #[.slice none 0 0, .int .i64 er])) w' := ⟨_, rfl, World.ownsRow_nil _ _ _ _, h⟩
theorem Boxed.belowL {W W' : World} {B : Nat} {t : TypeId} {v : Value} (h : Boxed W B t v) (hb : Below W.heap.size W W') : Boxed W' B t v := (hb.block B h.lt).trans h
theorem keeps_belowL {W W' : World} (h : Below W.heap.size W W') : KeepsOthers W W' := ⟨h.size, fun k o hk _ => (h.block k (Array.getElem?_eq_some_iff.1 hk).1).trans hk⟩
/-- The variable of a loop over references lies in a box. -/
def RowAt (W : World) (B : Nat) {n : Nat} (x : Cn n) : Prop := W.heap[B]? = some (.cells #[.int .i64 (x.fr : Nat), .int .i64 (x.to : Nat), .int .i64 x.note, .string x.nam, .int .i64 x.line, .int .i64 x.col] 45 (0, 0))
theorem RowAt.lt {W : World} {B n : Nat} {x : Cn n} (h : RowAt W B x) : B < W.heap.size := (Array.getElem?_eq_some_iff.1 h).1
theorem RowAt.fr {W : World} {B n : Nat} {x : Cn n} (h : RowAt W B x) : W.cell? ⟨B, 0, none⟩ = some (.int .i64 (x.fr : Nat)) := by rw [cell_of_row _ _ _ _ _ _ h]; rfl
theorem RowAt.to {W : World} {B n : Nat} {x : Cn n} (h : RowAt W B x) : W.cell? ⟨B, 1, none⟩ = some (.int .i64 (x.to : Nat)) := by rw [cell_of_row _ _ _ _ _ _ h]; rfl
theorem rowAt_own {n : Nat} (B : Nat) (x : Cn n) (D : Nat) : OwnFrom D (fun (_ : Unit) W => RowAt W B x) := fun s W W' row hs hg hr => by
  refine (hg.block B hs.lt fun e => ?_).trans hs
  obtain ⟨_, o, ho, hc⟩ := hr B e.symm
  rw [show W.heap[B]? = _ from hs] at ho
  cases ho
  cases hc
/-- What a loop that gathers numbers of references holds between two rounds. -/
def GatR (B b1 b2 : Nat) (lv : Value) (N : Int) (W0 : World) {α : Type} (g : α → List Nat) (pre : α) (W : World) : Prop :=
  (∃ v, Boxed W B 23 v ∧ W.ownsRow B 3 1 v (g pre).length (numsV (g pre)) ∧ v.ownBlock ≠ some b2) ∧ Boxed W b1 22 lv ∧ Boxed W b2 3 (.int .i64 N) ∧ Below B W0 W
theorem GatR.own {B b1 b2 : Nat} {lv : Value} {N : Int} {W0 : World} {α : Type} {g : α → List Nat} {D : Nat} (hBD : B ≤ D) (hs : B ≤ W0.heap.size) : OwnFrom D (GatR B b1 b2 lv N W0 g) :=
  OwnFrom.and (Own.from (holdsRow_own B B 23 3 1 (fun s => (g s).length) (fun s => numsV (g s)) (fun _ v => v.ownBlock ≠ some b2)) _) (OwnFrom.and (Own.from (boxed_own b1 22 (fun _ => lv)) _) (OwnFrom.and (Own.from (boxed_own b2 3 (fun _ => .int .i64 N)) _) (ownFrom_below hs hBD)))
theorem GatR.below {B b1 b2 : Nat} {lv : Value} {N : Int} {W0 : World} {α : Type} {g : α → List Nat} {pre : α} {W W' : World} (h : GatR B b1 b2 lv N W0 g pre W) (hb : Below W.heap.size W W') : GatR B b1 b2 lv N W0 g pre W' := by
  obtain ⟨⟨v, h1, h2, h5⟩, h3, h4, h6⟩ := h
  exact ⟨⟨v, Boxed.belowL h1 hb, own_stays h2 fun c e => hb.block c (own_base h2 e).2, h5⟩, Boxed.belowL h3 hb, Boxed.belowL h4 hb, h6.trans (hb.mono (Nat.le_of_lt h1.lt))⟩
/-- What a round has kept that appends to the list in a box. -/
theorem kpR_append {B b1 b2 : Nat} {W w1 : World} {lv v v' : Value} {N : Int} {k m : Nat} {xs ys : List Value} {o : Obj} (hv : Boxed W B 23 v) (h1 : Boxed W b1 22 lv) (h2 : Boxed W b2 3 (.int .i64 N)) (hne : v.ownBlock ≠ some b2) (hrow : W.ownsRow B 3 1 v k xs)
    (hBW : B ≤ W.heap.size) (hB1 : B < b1) (hB2 : B < b2) (hown' : w1.ownsRow B 3 1 v' m ys) (hgrow : (W.alloc o).grownBy w1 v.ownBlock) (hat : v'.ownBlock = v.ownBlock ∨ v'.ownBlock = some (W.alloc o).heap.size) :
    KpR B b1 b2 W (w1.setCell ⟨B, 0, none⟩ v') ∧ Boxed (w1.setCell ⟨B, 0, none⟩ v') b1 22 lv ∧ Boxed (w1.setCell ⟨B, 0, none⟩ v') b2 3 (.int .i64 N) ∧ v'.ownBlock ≠ some b2 := by
  obtain ⟨_, _, _, _, h5⟩ := hv.appended (by decide) hrow hBW (Nat.le_refl _) hown' hgrow
  have g1 : Boxed (w1.setCell ⟨B, 0, none⟩ v') b1 22 lv := (Below.heap_setCell _ _ _ _ (by show b1 ≠ B; omega)).trans ((h1.alloc o).kept hgrow (h1.not_row (by decide) hrow))
  have g2 : Boxed (w1.setCell ⟨B, 0, none⟩ v') b2 3 (.int .i64 N) := (Below.heap_setCell _ _ _ _ (by show b2 ≠ B; omega)).trans ((h2.alloc o).kept hgrow hne.symm)
  refine ⟨⟨h5, fun u hu => ?_, fun u hu => ?_⟩, g1, g2, ?_⟩
  · rw [h1.cell] at hu; cases hu; exact g1.cell
  · rw [h2.cell] at hu; cases hu; exact g2.cell
  · rcases hat with h | h
    · rw [h]; exact hne
    · rw [h]
      intro e
      have := h2.lt
      injection e with e
      simp at e
      omega
theorem look_ok {len : Nat} {n i : Int} (h : lookE len n [i] = 0) : len ≤ 65536 ∧ ∃ N I : Nat, n = N ∧ i = I ∧ N ≤ 1000 ∧ I < N := by
  unfold lookE at h
  split at h
  · omega
  · split at h
    · omega
    · split at h
      · rename_i h1 h2 h3
        have h4 : isT i n.toNat = true := by simpa using h3
        unfold isT at h4
        have h5 := of_decide_eq_true h4
        exact ⟨by omega, n.toNat, i.toNat, by omega, by omega, by omega, by omega⟩
      · omega
theorem rdZ_one (w : World) (b : Nat) (i : Int) (h : w.cell? ⟨b, 0, none⟩ = some (.int .i64 i)) (c : Nat) : RdZ w (.slice (some ⟨b, 0, none⟩) 1 c) [i] :=
  ⟨_, c, rfl, fun j hj => by
    have : j = 0 := by simpa using hj
    subst this
    exact ⟨b, 0, rfl, h⟩⟩

set_option maxRecDepth 100000 in
set_option maxHeartbeats 4000000 in
theorem out_yes (l : List Rf) (v : Value) (N i : Nat) (w : World) (hv : RdR w v l) (hl : l.length ≤ 65536) (hN : N ≤ 1000) (hlook : lookE l.length N [(i : Int)] = 0) :
    CallsIn Fence.wide 12 Try.prog 6 #[v, .int .i64 N, .int .i64 i] w (NewL (outM l N i) 0 w) := by
  have hf0 : Fence.wide.fn 20 := trivial
  have hf1 : Fence.wide.fn 21 := trivial
  have hf2 : Fence.wide.fn 32 := trivial
  have hf3 : Fence.wide.fn 22 := trivial
  obtain ⟨pa, cap, rfl, hcl, hcm⟩ := hv.form
  have HV := Lib.hid hv
  have HL := Lib.hid hl
  have HM := Lib.hid (rsg_outs (n := N) l i)
  have h0 := look_pro ((w.alloc (.cells #[.int .i64 i] 3)).alloc (.cells #[.int .i64 i] 3)) pa l.length cap N (.slice (some ⟨w.heap.size + 1, 0, none⟩) 1 1) [(i : Int)] (rdZ_one _ _ _ (by
    have h := Boxed.new (w.alloc (.cells #[.int .i64 i] 3)) 3 (.int .i64 i)
    rw [World.size_alloc] at h
    exact h.cell) _) (by simp) (by omega)
  rw [hlook] at h0
  have HQ := Lib.hid h0
  clear hv h0 hlook hcl hcm hl
  refine callsIn_of_wp_marks Try.func6 rfl trivial ?_ rfl
  simp only [Try.ntmps6, List.size_toArray, List.length_cons, List.length_nil, Nat.reduceAdd, Nat.reduceSub, Array.replicate_succ, Array.replicate_zero, List.push_toArray, List.append_toArray, List.nil_append, List.cons_append]
  gi_wp2_with (gi_at_call 20; (with_reducible refine (callsIn_wide.2 HQ.out).mono ?_); rintro e w1 ⟨rfl, rfl⟩)
  refine (that_in 11 _ _ _ _ _).mono ?_
  rintro e w3 ⟨rfl, rfl⟩
  gi_wp2_with fail
  have bI0 := (Boxed.new w 3 (.int .i64 i)).alloc (.cells #[.int .i64 i] 3)
  obtain ⟨w2, hw2⟩ : ∃ w2, (w.alloc (.cells #[.int .i64 i] 3)).alloc (.cells #[.int .i64 i] 3) = w2 := ⟨_, rfl⟩
  have hz2 : w2.heap.size = w.heap.size + 2 := by rw [← hw2]; simp
  have hB2 : Below w.heap.size w w2 := by rw [← hw2]; exact ((Below.refl _ w).alloc (Nat.le_refl _) _).alloc (by simp) _
  rw [hw2] at bI0 ⊢
  have bO := ((Boxed.new w2 23 (.slice none 0 0)).alloc (.cells #[.slice pa l.length cap] 22)).alloc (.cells #[.int .i64 N] 3)
  have bL := (Boxed.new (w2.alloc (.cells #[.slice none 0 0] 23)) 22 (.slice pa l.length cap)).alloc (.cells #[.int .i64 N] 3)
  have bN := Boxed.new ((w2.alloc (.cells #[.slice none 0 0] 23)).alloc (.cells #[.slice pa l.length cap] 22)) 3 (.int .i64 N)
  have bI := ((bI0.alloc (.cells #[.slice none 0 0] 23)).alloc (.cells #[.slice pa l.length cap] 22)).alloc (.cells #[.int .i64 N] 3)
  simp only [World.size_alloc, hz2] at bO bL bN
  have hA : Below w2.heap.size w2 (((w2.alloc (.cells #[.slice none 0 0] 23)).alloc (.cells #[.slice pa l.length cap] 22)).alloc (.cells #[.int .i64 N] 3)) := (((Below.refl _ w2).alloc (Nat.le_refl _) _).alloc (by simp) _).alloc (by simp; omega) _
  have hsz : (((w2.alloc (.cells #[.slice none 0 0] 23)).alloc (.cells #[.slice pa l.length cap] 22)).alloc (.cells #[.int .i64 N] 3)).heap.size = w.heap.size + 5 := by simp [hz2]
  obtain ⟨W0, hW0⟩ : ∃ W0, ((w2.alloc (.cells #[.slice none 0 0] 23)).alloc (.cells #[.slice pa l.length cap] 22)).alloc (.cells #[.int .i64 N] 3) = W0 := ⟨_, rfl⟩
  rw [hW0] at bO bL bN bI hA hsz ⊢
  rw [hz2] at hA
  have HA0 := Lib.hid (hB2.trans (hA.mono (by omega)))
  have HA := Lib.hid hA
  have HV2 := Lib.hid (HV.out.below hB2)
  have hz2' : w2.heap.size ≤ w.heap.size + 2 := by omega
  try simp only [hz2]
  clear hW0 hw2 hB2 bI0 hz2
  obtain ⟨i0, hi0, hz0, hz1, hz2⟩ := info_parts infoI
  refine wpIn_rangeFunc_ownH rfl (by omega) (gf := 32) (lb := #[.pointer (some ⟨w.heap.size + 3, 0, none⟩), .pointer (some ⟨w.heap.size + 4, 0, none⟩)]) rfl trivial (enters_of Try.func32 (by kernel_rfl) rfl)
    (that_stops (12 - 1) (by omega) (w.heap.size + 3) (w.heap.size + 4) (w.heap.size + 2) (.slice pa l.length cap) l N (by have := HL.out; omega) w2 HV2.out hz2' W0 HA.out (by omega) bL.cell bN.cell) KpR.t (fun W l o o' hl h hc hw => KpR.put W l o o' (by omega) h hc hw) (Below.refl _ _) (fun _ => rfl)
    (GatR (w.heap.size + 2) (w.heap.size + 3) (w.heap.size + 4) (.slice pa l.length cap) N W0 (fun pre : List (Cn N) => outs i pre))
    (fun _ _ _ => False)
    (GatR.own (by omega) (by omega))
    (fun _ _ _ _ _ hs _ _ => hs)
    ⟨⟨_, bO, World.ownsRow_nil _ _ _ _, by simp [Value.ownBlock]⟩, bL, bN, Below.refl _ _⟩
    (fun x a' W => ∃ Bx, w.heap.size + 4 < Bx ∧ RowAt W Bx x ∧ a' = { tmps := #[.slice pa l.length cap, .int .i64 N, .int .i64 i, undef, undef, .pointer (some ⟨w.heap.size, 0, none⟩), .slice none 0 0, .int .i64 0, .int .i64 0, .pointer (some ⟨w.heap.size + 2, 0, none⟩), .pointer (some ⟨Bx, 0, none⟩), .slice pa l.length cap, .int .i64 N, .int .i64 i, .slice (some ⟨w.heap.size + 1, 0, none⟩) 1 1, .int .i64 0, .int .i64 0, .bool false, undef, .slice pa l.length cap, .int .i64 N, .func (.func 32) #[] #[.pointer (some ⟨w.heap.size + 3, 0, none⟩), .pointer (some ⟨w.heap.size + 4, 0, none⟩)], encC x, undef, undef, undef, undef, undef, undef, undef, undef, undef, undef, undef], defers := [] })
    (fun x a' s X Y row hs hg hr => by
      obtain ⟨Bx, h1, h2, h3⟩ := hs
      exact ⟨Bx, h1, rowAt_own Bx x _ () X Y row h2 hg hr, h3⟩)
    ?assign ?body ?done ?stop
  case assign =>
    rintro l' pre x W K hI hK
    have hWs := hI.2.2.1.lt
    have hAl : Below W.heap.size W (W.alloc (.cells #[.int .i64 (x.fr : Nat), .int .i64 (x.to : Nat), .int .i64 x.note, .string x.nam, .int .i64 x.line, .int .i64 x.col] 45)) := (Below.refl _ W).alloc (Nat.le_refl _) _
    have HK := Lib.hid (hK (a' := _) _ ((keeps_belowL hAl).from _) (KpR.of_below hAl (by omega)) (hI.below hAl) ⟨W.heap.size, by omega, World.alloc_heap_new W _, rfl⟩)
    clear hK hI hAl
    unfold encC
    gi_wp2
    exact HK.out
  case body =>
    rintro l' pre x a' W hl ⟨r, hr⟩ hI ⟨Bx, hBx, hx, rfl⟩ hlt
    have d0 := hx.fr
    have d1 := hx.to
    have dI := (hI.2.2.2.cell (p := ⟨w.heap.size, 0, none⟩) (by show w.heap.size < _; omega)).trans bI.cell
    have HSN := Lib.hid (outs_snoc i pre x)
    by_cases he : x.fr = i
    · have t1 : ((x.fr : Int) == (i : Int)) = true := by simp [he]
      have hbe : (x.fr == i) = true := by simp [he]
      obtain ⟨⟨v, bV1, hr1, hne⟩, bL1, bN1, hB1⟩ := hI
      have cV := bV1.cell
      have fV := bV1.frozen
      have hpl := outs_len i pre
      have hcl := cnt_len N l
      have B1 : (outs i pre).length + 1 ≤ maxLen := by have := HL.out; unfold maxLen; omega
      have B2 : ((outs i pre).length + 1) * 8 ≤ 140737488355328 := by have := HL.out; omega
      have B3 : w.heap.size + 2 ≤ (W.alloc (.cells #[.int .i64 (x.to : Nat)] 3)).heap.size := by have := bV1.lt; simp; omega
      have M1 := Lib.hid B1
      have M2 := Lib.hid B2
      have M3 := Lib.hid B3
      have HR := Lib.hid hr1
      have HB := Lib.hid hB1
      have HBV := Lib.hid bV1
      have HBL := Lib.hid bL1
      have HBN := Lib.hid bN1
      have HNE := Lib.hid hne
      have HBE := Lib.hid hbe
      have hWs := bN1.lt
      clear B1 B2 B3 hr1 hB1 hpl bV1 bL1 bN1 hne hbe he hcl hx hlt hr
      gi_wp2_with (gi_at_builtin; go_loud (refine wpListIn_append_own_at _ rfl _ _ 23 rfl (w.heap.size + 2) 3 i0 (.int .i64 0) 1 8 Try.underlying23 hi0 hz0 hz1 hz2 rfl (by decide) _ _ _ rfl (HR.out.alloc _) ⟨W.heap.size, 0, none⟩ 1 1 [.int .i64 (x.to : Nat)] rfl rfl (cells_newL _ _ _) (numsV_one [x.to]) M1.out M2.out M3.out ?_); intro v' w1 hown' hgrow _ hat; obtain ⟨g', cap', rfl⟩ := ownsRow_succ hown'; have hE := kpR_append HBV.out HBL.out HBN.out HNE.out HR.out (by omega) (by omega) (by omega) hown' hgrow hat; obtain ⟨hv1, hv2, hr2, hk2, hb2⟩ := HBV.out.appended (by decide) HR.out (by omega) (Nat.le_refl _) hown' hgrow; have hc1 := hv1.cell; have hf1 := hv1.frozen; have HE := Lib.hid hE; have HV2' := Lib.hid hv2; have HR2 := Lib.hid hr2; have HK2 := Lib.hid hk2; have HB2' := Lib.hid hb2; clear hE hv2 hr2 hk2 hb2 hown' hgrow hat)
      refine ⟨HK2.out.from _, HE.out.1, ⟨_, HV2'.out, ?_, HE.out.2.2.2⟩, HE.out.2.1, HE.out.2.2.1, HB.out.trans HB2'.out⟩
      have h9 := HR2.out
      dsimp only
      rw [HSN.out, if_pos HBE.out, List.length_append, numsV_app]
      exact h9
    · have t1 : ((x.fr : Int) == (i : Int)) = false := by simp; omega
      have HBE := Lib.hid (show (x.fr == i) = false by simpa using he)
      have HI := Lib.hid hI
      clear he hI hx hlt hr
      gi_wp2
      refine ⟨(KeepsOthers.refl _).from _, KpR.refl _ _ _ _, ?_⟩
      have h9 := HI.out
      unfold GatR at h9 ⊢
      dsimp only at h9 ⊢
      rw [HSN.out, if_neg (by rw [HBE.out]; simp)]
      exact h9
  case done =>
    rintro D ys W hD rfl ⟨⟨v, bV1, hr1, hne⟩, bL1, bN1, hB1⟩ hK
    have cV := bV1.cell
    have hlo := outs_len i (cnt N l)
    have hcl := cnt_len N l
    have cR := rising_pro (w.heap.size + 2) v (outs i (cnt N l)) W hr1 (by have := HL.out; omega)
    have HR := Lib.hid cR
    have HBx := Lib.hid (HA0.out.trans (hB1.mono (show w.heap.size ≤ w.heap.size + 2 by omega)))
    have HRO := Lib.hid hr1
    have HKK := Lib.hid hK
    obtain ⟨pv, cv, rfl⟩ := lenL hr1
    clear hr1 hB1 hlo hcl cR hne
    gi_wp2_with (gi_at_call 22; (with_reducible refine (callsIn_wide.2 HR.out).mono ?_); rintro e w5 ⟨v5, rfl, hown5, hob5, hg5⟩; have HO5 := Lib.hid hown5; have HG5 := Lib.hid hg5; clear hown5 hg5 hob5)
    have hKw : w5.heap[D]? = some (.deferred (some [])) := (HG5.out.block D (Array.getElem?_eq_some_iff.1 HKK.out).1 (fun e => own_not HRO.out HKK.out (fun cur fr e => by cases e) e.symm)).trans HKK.out
    refine ⟨by simp, .inl ⟨_, _, rfl, run_takeDeferred hKw, ?_⟩⟩
    refine ⟨_, results_tmp2 rfl _ _ _, v5, rfl, ?_, ?_⟩
    · rw [← HM.out]
      exact World.ownsRow.mono (ownsRow_putObj HO5.out _ hKw rfl) (show w.heap.size ≤ w.heap.size + 2 by omega)
    · have hb5 : Below w.heap.size W w5 := (Below.refl w.heap.size W).grown HG5.out (by have := HBx.out.size; omega) (fun k e => by have := (own_base HRO.out e).1; omega)
      exact (HBx.out.trans hb5).trans (belowK_b (w := w) (Nat.le_refl _) w5 D _ _ (by omega) hKw rfl rfl)
  case stop =>
    rintro D c pre W _ _ h _
    exact h.elim

set_option maxRecDepth 100000 in
set_option maxHeartbeats 1000000 in
theorem out_pro (l : List Rf) (v : Value) (n i : Int) (w : World) (hv : RdR w v l) (hl : l.length ≤ 140737488355328) :
    Calls Try.prog 6 #[v, .int .i64 n, .int .i64 i] w (NewL (if lookE l.length n [i] = 0 then outM l n.toNat i.toNat else []) (lookE l.length n [i]) w) := by
  by_cases h0 : lookE l.length n [i] = 0
  · rw [if_pos h0, h0]
    obtain ⟨h1, N, I, rfl, rfl, h2, h3⟩ := look_ok h0
    exact callsIn_wide.1 (out_yes l v N I w hv h1 h2 h0)
  · rw [if_neg h0]
    obtain ⟨pa, cap, rfl, hcl, hcm⟩ := hv.form
    have hq := look_pro ((w.alloc (.cells #[.int .i64 i] 3)).alloc (.cells #[.int .i64 i] 3)) pa l.length cap n (.slice (some ⟨w.heap.size + 1, 0, none⟩) 1 1) [i] (rdZ_one _ _ _ (by
      have h := Boxed.new (w.alloc (.cells #[.int .i64 i] 3)) 3 (.int .i64 i)
      rw [World.size_alloc] at h
      exact h.cell) _) (by simp) hl
    obtain ⟨er, her⟩ : ∃ er, lookE l.length n [i] = er := ⟨_, rfl⟩
    rw [her] at h0 hq ⊢
    have HQ := Lib.hid hq
    have t1 : (er != 0) = true := by simpa using h0
    clear hv hl hq h0 her hcl hcm
    go_enter Try.func6, Try.ntmps6
    go_wp2_with fail
    refine HQ.out.mono ?_
    rintro e w1 ⟨rfl, rfl⟩
    go_wp2_with fail
    go_ret2
    exact NewL.none _ _ _ (((Below.refl _ w).alloc (Nat.le_refl _) _).alloc (by simp) _)

set_option maxRecDepth 100000 in
set_option maxHeartbeats 4000000 in
theorem into_yes (l : List Rf) (v : Value) (N i : Nat) (w : World) (hv : RdR w v l) (hl : l.length ≤ 65536) (hN : N ≤ 1000) (hlook : lookE l.length N [(i : Int)] = 0) :
    CallsIn Fence.wide 12 Try.prog 11 #[v, .int .i64 N, .int .i64 i] w (NewL (intoM l N i) 0 w) := by
  have hf0 : Fence.wide.fn 20 := trivial
  have hf1 : Fence.wide.fn 21 := trivial
  have hf2 : Fence.wide.fn 32 := trivial
  have hf3 : Fence.wide.fn 22 := trivial
  obtain ⟨pa, cap, rfl, hcl, hcm⟩ := hv.form
  have HV := Lib.hid hv
  have HL := Lib.hid hl
  have HM := Lib.hid (rsg_intos (n := N) l i)
  have h0 := look_pro ((w.alloc (.cells #[.int .i64 i] 3)).alloc (.cells #[.int .i64 i] 3)) pa l.length cap N (.slice (some ⟨w.heap.size + 1, 0, none⟩) 1 1) [(i : Int)] (rdZ_one _ _ _ (by
    have h := Boxed.new (w.alloc (.cells #[.int .i64 i] 3)) 3 (.int .i64 i)
    rw [World.size_alloc] at h
    exact h.cell) _) (by simp) (by omega)
  rw [hlook] at h0
  have HQ := Lib.hid h0
  clear hv h0 hlook hcl hcm hl
  refine callsIn_of_wp_marks Try.func11 rfl trivial ?_ rfl
  simp only [Try.ntmps11, List.size_toArray, List.length_cons, List.length_nil, Nat.reduceAdd, Nat.reduceSub, Array.replicate_succ, Array.replicate_zero, List.push_toArray, List.append_toArray, List.nil_append, List.cons_append]
  gi_wp2_with (gi_at_call 20; (with_reducible refine (callsIn_wide.2 HQ.out).mono ?_); rintro e w1 ⟨rfl, rfl⟩)
  refine (that_in 11 _ _ _ _ _).mono ?_
  rintro e w3 ⟨rfl, rfl⟩
  gi_wp2_with fail
  have bI0 := (Boxed.new w 3 (.int .i64 i)).alloc (.cells #[.int .i64 i] 3)
  obtain ⟨w2, hw2⟩ : ∃ w2, (w.alloc (.cells #[.int .i64 i] 3)).alloc (.cells #[.int .i64 i] 3) = w2 := ⟨_, rfl⟩
  have hz2 : w2.heap.size = w.heap.size + 2 := by rw [← hw2]; simp
  have hB2 : Below w.heap.size w w2 := by rw [← hw2]; exact ((Below.refl _ w).alloc (Nat.le_refl _) _).alloc (by simp) _
  rw [hw2] at bI0 ⊢
  have bO := ((Boxed.new w2 23 (.slice none 0 0)).alloc (.cells #[.slice pa l.length cap] 22)).alloc (.cells #[.int .i64 N] 3)
  have bL := (Boxed.new (w2.alloc (.cells #[.slice none 0 0] 23)) 22 (.slice pa l.length cap)).alloc (.cells #[.int .i64 N] 3)
  have bN := Boxed.new ((w2.alloc (.cells #[.slice none 0 0] 23)).alloc (.cells #[.slice pa l.length cap] 22)) 3 (.int .i64 N)
  have bI := ((bI0.alloc (.cells #[.slice none 0 0] 23)).alloc (.cells #[.slice pa l.length cap] 22)).alloc (.cells #[.int .i64 N] 3)
  simp only [World.size_alloc, hz2] at bO bL bN
  have hA : Below w2.heap.size w2 (((w2.alloc (.cells #[.slice none 0 0] 23)).alloc (.cells #[.slice pa l.length cap] 22)).alloc (.cells #[.int .i64 N] 3)) := (((Below.refl _ w2).alloc (Nat.le_refl _) _).alloc (by simp) _).alloc (by simp; omega) _
  have hsz : (((w2.alloc (.cells #[.slice none 0 0] 23)).alloc (.cells #[.slice pa l.length cap] 22)).alloc (.cells #[.int .i64 N] 3)).heap.size = w.heap.size + 5 := by simp [hz2]
  obtain ⟨W0, hW0⟩ : ∃ W0, ((w2.alloc (.cells #[.slice none 0 0] 23)).alloc (.cells #[.slice pa l.length cap] 22)).alloc (.cells #[.int .i64 N] 3) = W0 := ⟨_, rfl⟩
  rw [hW0] at bO bL bN bI hA hsz ⊢
  rw [hz2] at hA
  have HA0 := Lib.hid (hB2.trans (hA.mono (by omega)))
  have HA := Lib.hid hA
  have HV2 := Lib.hid (HV.out.below hB2)
  have hz2' : w2.heap.size ≤ w.heap.size + 2 := by omega
  try simp only [hz2]
  clear hW0 hw2 hB2 bI0 hz2
  obtain ⟨i0, hi0, hz0, hz1, hz2⟩ := info_parts infoI
  refine wpIn_rangeFunc_ownH rfl (by omega) (gf := 32) (lb := #[.pointer (some ⟨w.heap.size + 3, 0, none⟩), .pointer (some ⟨w.heap.size + 4, 0, none⟩)]) rfl trivial (enters_of Try.func32 (by kernel_rfl) rfl)
    (that_stops (12 - 1) (by omega) (w.heap.size + 3) (w.heap.size + 4) (w.heap.size + 2) (.slice pa l.length cap) l N (by have := HL.out; omega) w2 HV2.out hz2' W0 HA.out (by omega) bL.cell bN.cell) KpR.t (fun W l o o' hl h hc hw => KpR.put W l o o' (by omega) h hc hw) (Below.refl _ _) (fun _ => rfl)
    (GatR (w.heap.size + 2) (w.heap.size + 3) (w.heap.size + 4) (.slice pa l.length cap) N W0 (fun pre : List (Cn N) => intos i pre))
    (fun _ _ _ => False)
    (GatR.own (by omega) (by omega))
    (fun _ _ _ _ _ hs _ _ => hs)
    ⟨⟨_, bO, World.ownsRow_nil _ _ _ _, by simp [Value.ownBlock]⟩, bL, bN, Below.refl _ _⟩
    (fun x a' W => ∃ Bx, w.heap.size + 4 < Bx ∧ RowAt W Bx x ∧ a' = { tmps := #[.slice pa l.length cap, .int .i64 N, .int .i64 i, undef, undef, .pointer (some ⟨w.heap.size, 0, none⟩), .slice none 0 0, .int .i64 0, .int .i64 0, .pointer (some ⟨w.heap.size + 2, 0, none⟩), .pointer (some ⟨Bx, 0, none⟩), .slice pa l.length cap, .int .i64 N, .int .i64 i, .slice (some ⟨w.heap.size + 1, 0, none⟩) 1 1, .int .i64 0, .int .i64 0, .bool false, undef, .slice pa l.length cap, .int .i64 N, .func (.func 32) #[] #[.pointer (some ⟨w.heap.size + 3, 0, none⟩), .pointer (some ⟨w.heap.size + 4, 0, none⟩)], encC x, undef, undef, undef, undef, undef, undef, undef, undef, undef, undef, undef], defers := [] })
    (fun x a' s X Y row hs hg hr => by
      obtain ⟨Bx, h1, h2, h3⟩ := hs
      exact ⟨Bx, h1, rowAt_own Bx x _ () X Y row h2 hg hr, h3⟩)
    ?assign ?body ?done ?stop
  case assign =>
    rintro l' pre x W K hI hK
    have hWs := hI.2.2.1.lt
    have hAl : Below W.heap.size W (W.alloc (.cells #[.int .i64 (x.fr : Nat), .int .i64 (x.to : Nat), .int .i64 x.note, .string x.nam, .int .i64 x.line, .int .i64 x.col] 45)) := (Below.refl _ W).alloc (Nat.le_refl _) _
    have HK := Lib.hid (hK (a' := _) _ ((keeps_belowL hAl).from _) (KpR.of_below hAl (by omega)) (hI.below hAl) ⟨W.heap.size, by omega, World.alloc_heap_new W _, rfl⟩)
    clear hK hI hAl
    unfold encC
    gi_wp2
    exact HK.out
  case body =>
    rintro l' pre x a' W hl ⟨r, hr⟩ hI ⟨Bx, hBx, hx, rfl⟩ hlt
    have d0 := hx.fr
    have d1 := hx.to
    have dI := (hI.2.2.2.cell (p := ⟨w.heap.size, 0, none⟩) (by show w.heap.size < _; omega)).trans bI.cell
    have HSN := Lib.hid (intos_snoc i pre x)
    by_cases he : x.to = i
    · have t1 : ((x.to : Int) == (i : Int)) = true := by simp [he]
      have hbe : (x.to == i) = true := by simp [he]
      obtain ⟨⟨v, bV1, hr1, hne⟩, bL1, bN1, hB1⟩ := hI
      have cV := bV1.cell
      have fV := bV1.frozen
      have hpl := intos_len i pre
      have hcl := cnt_len N l
      have B1 : (intos i pre).length + 1 ≤ maxLen := by have := HL.out; unfold maxLen; omega
      have B2 : ((intos i pre).length + 1) * 8 ≤ 140737488355328 := by have := HL.out; omega
      have B3 : w.heap.size + 2 ≤ (W.alloc (.cells #[.int .i64 (x.fr : Nat)] 3)).heap.size := by have := bV1.lt; simp; omega
      have M1 := Lib.hid B1
      have M2 := Lib.hid B2
      have M3 := Lib.hid B3
      have HR := Lib.hid hr1
      have HB := Lib.hid hB1
      have HBV := Lib.hid bV1
      have HBL := Lib.hid bL1
      have HBN := Lib.hid bN1
      have HNE := Lib.hid hne
      have HBE := Lib.hid hbe
      have hWs := bN1.lt
      clear B1 B2 B3 hr1 hB1 hpl bV1 bL1 bN1 hne hbe he hcl hx hlt hr
      gi_wp2_with (gi_at_builtin; go_loud (refine wpListIn_append_own_at _ rfl _ _ 23 rfl (w.heap.size + 2) 3 i0 (.int .i64 0) 1 8 Try.underlying23 hi0 hz0 hz1 hz2 rfl (by decide) _ _ _ rfl (HR.out.alloc _) ⟨W.heap.size, 0, none⟩ 1 1 [.int .i64 (x.fr : Nat)] rfl rfl (cells_newL _ _ _) (numsV_one [x.fr]) M1.out M2.out M3.out ?_); intro v' w1 hown' hgrow _ hat; obtain ⟨g', cap', rfl⟩ := ownsRow_succ hown'; have hE := kpR_append HBV.out HBL.out HBN.out HNE.out HR.out (by omega) (by omega) (by omega) hown' hgrow hat; obtain ⟨hv1, hv2, hr2, hk2, hb2⟩ := HBV.out.appended (by decide) HR.out (by omega) (Nat.le_refl _) hown' hgrow; have hc1 := hv1.cell; have hf1 := hv1.frozen; have HE := Lib.hid hE; have HV2' := Lib.hid hv2; have HR2 := Lib.hid hr2; have HK2 := Lib.hid hk2; have HB2' := Lib.hid hb2; clear hE hv2 hr2 hk2 hb2 hown' hgrow hat)
      refine ⟨HK2.out.from _, HE.out.1, ⟨_, HV2'.out, ?_, HE.out.2.2.2⟩, HE.out.2.1, HE.out.2.2.1, HB.out.trans HB2'.out⟩
      have h9 := HR2.out
      dsimp only
      rw [HSN.out, if_pos HBE.out, List.length_append, numsV_app]
      exact h9
    · have t1 : ((x.to : Int) == (i : Int)) = false := by simp; omega
      have HBE := Lib.hid (show (x.to == i) = false by simpa using he)
      have HI := Lib.hid hI
      clear he hI hx hlt hr
      gi_wp2
      refine ⟨(KeepsOthers.refl _).from _, KpR.refl _ _ _ _, ?_⟩
      have h9 := HI.out
      unfold GatR at h9 ⊢
      dsimp only at h9 ⊢
      rw [HSN.out, if_neg (by rw [HBE.out]; simp)]
      exact h9
  case done =>
    rintro D ys W hD rfl ⟨⟨v, bV1, hr1, hne⟩, bL1, bN1, hB1⟩ hK
    have cV := bV1.cell
    have hlo := intos_len i (cnt N l)
    have hcl := cnt_len N l
    have cR := rising_pro (w.heap.size + 2) v (intos i (cnt N l)) W hr1 (by have := HL.out; omega)
    have HR := Lib.hid cR
    have HBx := Lib.hid (HA0.out.trans (hB1.mono (show w.heap.size ≤ w.heap.size + 2 by omega)))
    have HRO := Lib.hid hr1
    have HKK := Lib.hid hK
    obtain ⟨pv, cv, rfl⟩ := lenL hr1
    clear hr1 hB1 hlo hcl cR hne
    gi_wp2_with (gi_at_call 22; (with_reducible refine (callsIn_wide.2 HR.out).mono ?_); rintro e w5 ⟨v5, rfl, hown5, hob5, hg5⟩; have HO5 := Lib.hid hown5; have HG5 := Lib.hid hg5; clear hown5 hg5 hob5)
    have hKw : w5.heap[D]? = some (.deferred (some [])) := (HG5.out.block D (Array.getElem?_eq_some_iff.1 HKK.out).1 (fun e => own_not HRO.out HKK.out (fun cur fr e => by cases e) e.symm)).trans HKK.out
    refine ⟨by simp, .inl ⟨_, _, rfl, run_takeDeferred hKw, ?_⟩⟩
    refine ⟨_, results_tmp2 rfl _ _ _, v5, rfl, ?_, ?_⟩
    · rw [← HM.out]
      exact World.ownsRow.mono (ownsRow_putObj HO5.out _ hKw rfl) (show w.heap.size ≤ w.heap.size + 2 by omega)
    · have hb5 : Below w.heap.size W w5 := (Below.refl w.heap.size W).grown HG5.out (by have := HBx.out.size; omega) (fun k e => by have := (own_base HRO.out e).1; omega)
      exact (HBx.out.trans hb5).trans (belowK_b (w := w) (Nat.le_refl _) w5 D _ _ (by omega) hKw rfl rfl)
  case stop =>
    rintro D c pre W _ _ h _
    exact h.elim

set_option maxRecDepth 100000 in
set_option maxHeartbeats 1000000 in
theorem into_pro (l : List Rf) (v : Value) (n i : Int) (w : World) (hv : RdR w v l) (hl : l.length ≤ 140737488355328) :
    Calls Try.prog 11 #[v, .int .i64 n, .int .i64 i] w (NewL (if lookE l.length n [i] = 0 then intoM l n.toNat i.toNat else []) (lookE l.length n [i]) w) := by
  by_cases h0 : lookE l.length n [i] = 0
  · rw [if_pos h0, h0]
    obtain ⟨h1, N, I, rfl, rfl, h2, h3⟩ := look_ok h0
    exact callsIn_wide.1 (into_yes l v N I w hv h1 h2 h0)
  · rw [if_neg h0]
    obtain ⟨pa, cap, rfl, hcl, hcm⟩ := hv.form
    have hq := look_pro ((w.alloc (.cells #[.int .i64 i] 3)).alloc (.cells #[.int .i64 i] 3)) pa l.length cap n (.slice (some ⟨w.heap.size + 1, 0, none⟩) 1 1) [i] (rdZ_one _ _ _ (by
      have h := Boxed.new (w.alloc (.cells #[.int .i64 i] 3)) 3 (.int .i64 i)
      rw [World.size_alloc] at h
      exact h.cell) _) (by simp) hl
    obtain ⟨er, her⟩ : ∃ er, lookE l.length n [i] = er := ⟨_, rfl⟩
    rw [her] at h0 hq ⊢
    have HQ := Lib.hid hq
    have t1 : (er != 0) = true := by simpa using h0
    clear hv hl hq h0 her hcl hcm
    go_enter Try.func11, Try.ntmps11
    go_wp2_with fail
    refine HQ.out.mono ?_
    rintro e w1 ⟨rfl, rfl⟩
    go_wp2_with fail
    go_ret2
    exact NewL.none _ _ _ (((Below.refl _ w).alloc (Nat.le_refl _) _).alloc (by simp) _)
end Go.Proofs.Ytjgcbobalmmjkaa
