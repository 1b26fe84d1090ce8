/- What is proved: NamesNone holds of any text and any number: a table that nobody made, or that is nil, has no names. Its condition: what comes in is of bulk at most 1048576 (the statement's second form). -/
import Derived.Test.YtaikecdafcmdaaaDoorNk
import Derived.Test.YtaikecdafcmdaaaDoorNlf
import Derived.Test.YtaikecdafcmdaaaDoorPost
import Derived.Test.YtaikecdafcmdaaaDoorCards
import Derived.Test.YtaikecdafcmdaaaDoorTie
import Derived.ProofKit
import Derived.OpenShut
import Derived.Deep.DeepHandedRow
namespace Go.Proofs.YtaikecdafcmdaaaDoor.namesNone
open Go.ChangeShapes Go.WideShapes Go.ChangeAt Go.RowKit Go.Maps Go.Shelf
open Go.ChangeMaps (open_string shut_string)
set_option linter.unusedVariables false
attribute [local go_sem] Oper.semAt_some

theorem seq_func : ∃ a b c, Tryd.prog.underlying 37 = some (.func a b c) := by
  have h : (match Tryd.prog.underlying 37 with | some (.func _ _ _) => true | _ => false) = true := by kernel_rfl
  generalize Tryd.prog.underlying 37 = o at h ⊢
  split at h
  · exact ⟨_, _, _, rfl⟩
  · cases h
theorem seq_some (w : World) (f : Fn) (l c : Array Value) : (binOp .eql 37 (.func f l c) .nilFunc).run Tryd.prog w = .ok (.bool false) w := by
  obtain ⟨x, y, z, hu⟩ := seq_func
  obtain ⟨d, hd⟩ : ∃ d, Op.maxDepth = d + 1 := ⟨_, rfl⟩
  simp only [binOp, Op.equal, hd]
  simp [Op.equalIn, run_underlying hu]
theorem srt_nil : srt [] = [] := List.eq_nil_of_length_eq_zero (by rw [srt_len]; rfl)
theorem near_nil (s : ByteArray) : nearN [] s = [] := by
  unfold nearN
  rw [srt_nil]
  split <;> rfl
theorem prefix_nil (s : ByteArray) : prefixN [] s = [] := by
  unfold prefixN
  rw [srt_nil]
  split <;> rfl
theorem find_nil (s : ByteArray) : findN [] s = none := by
  unfold findN
  split <;> rfl
/-- What a call of Each's iterator does where there is no name. -/
theorem no_name (x : NmI ([] : List ByteArray).length) : False := absurd x.lt (by simp)
theorem tp_zero {W : World} {b : Nat} (h : W.heap[b]? = some (.cells #[.slice none 0 0, .slice none 0 0, .map none, .slice none 0 0] 29 (0, 0))) : TP W (.pointer (some ⟨b, 0, none⟩)) [] :=
  .inr ⟨b, _, _, _, _, rfl, h, ⟨none, 0, rfl, Nat.le_refl _, by decide, fun j hj => absurd hj (by simp)⟩, ⟨none, 0, rfl, Nat.le_refl _, by decide, fun j hj => absurd hj (by simp)⟩, .inr ⟨rfl, rfl⟩,
    by rw [srt_nil]; exact ⟨none, 0, rfl, Nat.le_refl _, by decide, fun j hj => absurd hj (by simp)⟩⟩

set_option maxRecDepth 100000 in
set_option maxHeartbeats 8000000 in
theorem walkIn (s : ByteArray) (at' : Int) (w : World) (hs : s.size ≤ 1048576) (hT : Tabs w) :
    CallsIn Fence.wide 12 Tryd.prog 3 #[.string s, .int .i64 at'] w fun e w' => e = .returned (.bool true) ∧ Below w.heap.size w w' := by
  have hf0 : Fence.wide.fn 9 := trivial
  have hf1 : Fence.wide.fn 10 := trivial
  have hf2 : Fence.wide.fn 11 := trivial
  have hf3 : Fence.wide.fn 12 := trivial
  have hf4 : Fence.wide.fn 13 := trivial
  have hf5 : Fence.wide.fn 14 := trivial
  have hf6 : Fence.wide.fn 15 := trivial
  have hf7 : Fence.wide.fn 16 := trivial
  have hnf := seq_some
  have HS := Lib.hid (show s.size ≤ 16777216 by omega)
  have HT := Lib.hid hT
  clear hs hT
  refine callsIn_of_wp_marks Tryd.func3 rfl trivial ?_ rfl
  simp only [Tryd.ntmps3, List.size_toArray, List.length_cons, List.length_nil, Nat.reduceAdd, Nat.reduceSub, Array.replicate_succ, Array.replicate_zero, List.push_toArray, List.append_toArray, List.nil_append, List.cons_append]
  have hb0 : Below w.heap.size w (w.alloc (.cells #[.bool false] 4)) := (Below.refl _ w).alloc (Nat.le_refl _) _
  have HB0 := Lib.hid hb0
  have HX0 := Lib.hid (Boxed.new w 4 (.bool false))
  have HQ := Lib.hid (awake_law _ (HT.out.below hb0 (Nat.le_refl _)))
  clear hb0
  gi_wp2_with (gi_at_call 9; refine (callsIn_wide.2 HQ.out).mono ?_; rintro e w1 ⟨rfl, hb1⟩; have HB1 := Lib.hid (HB0.out.trans (hb1.mono HB0.out.size)); have HX1 := Lib.hid (Boxed.below HX0.out hb1); clear hb1)
  obtain ⟨w3, hw3⟩ : ∃ w3, (w1.alloc (.cells #[.slice none 0 0, .slice none 0 0, .map none, .slice none 0 0] 29)).alloc (.cells #[.pointer none, .pointer (some ⟨w1.heap.size, 0, none⟩)] 23) = w3 := ⟨_, rfl⟩
  have e0 : w3.heap[w1.heap.size]? = some (.cells #[.slice none 0 0, .slice none 0 0, .map none, .slice none 0 0] 29 (0, 0)) := by
    rw [← hw3]
    exact (Below.heap_alloc _ _ _ (by simp)).trans (World.alloc_heap_new w1 _)
  have e1 : w3.heap[w1.heap.size + 1]? = some (.cells #[.pointer none, .pointer (some ⟨w1.heap.size, 0, none⟩)] 23 (0, 0)) := by
    have := World.alloc_heap_new (w1.alloc (.cells #[.slice none 0 0, .slice none 0 0, .map none, .slice none 0 0] 29)) (.cells #[.pointer none, .pointer (some ⟨w1.heap.size, 0, none⟩)] 23)
    rw [World.size_alloc, hw3] at this
    exact this
  have HW3 := Lib.hid (show Below w1.heap.size w1 w3 by rw [← hw3]; exact ((Below.refl _ w1).alloc (Nat.le_refl _) _).alloc (by simp) _)
  have HB0' := Lib.hid (HB1.out.trans (HW3.out.mono HB1.out.size))
  have HX3 := Lib.hid (Boxed.below HX1.out HW3.out)
  have c0 : w3.cell? ⟨w1.heap.size + 1, 0, none⟩ = some (.pointer none) := by simp [World.cell?, e1]
  have c1 : w3.cell? ⟨w1.heap.size + 1, 1, none⟩ = some (.pointer (some ⟨w1.heap.size, 0, none⟩)) := by simp [World.cell?, e1]
  have HP0 := Lib.hid (show TP w3 (.pointer none) [] from .inl ⟨rfl, rfl⟩)
  have HPz := Lib.hid (tp_zero e0)
  have HT0 := Lib.hid (HT.out.below HB0'.out (Nat.le_refl _))
  clear HB0 HB1 HX0 HX1 HQ
  have HB0 := HB0'
  clear HB0'
  rw [hw3]
  clear hw3 e0 e1
  refine wpIn_loop_rounds 3 ?_
  -- round 0
  rw [roundsIn_succ]
  gi_wp2_with fail
  refine (callsIn_wide.2 (name_pro [] _ at' _ HP0.out)).mono ?_
  rintro e x1 ⟨rfl, ⟨_, _, hlt, _⟩ | ⟨_, rfl⟩⟩
  · exact absurd hlt (by simp)
  gi_wp2_with fail
  refine (callsIn_wide.2 (find_pro [] _ s _ HP0.out (fun j hj => absurd hj (by simp)) HT0.out)).mono ?_
  rintro e y0 ⟨he, hb⟩
  rw [find_nil] at he
  subst he
  have HBa0 := Lib.hid (HB0.out.trans (hb.mono HB0.out.size))
  have HC0 := Lib.hid hb
  have HPa0 := Lib.hid (HP0.out.below hb)
  clear hb
  simp only [Option.getD_none, Option.isSome_none]
  gi_wp2_with fail
  refine (each_in 11 _ _ ⟨_, rfl⟩).mono ?_
  rintro e z1 ⟨rfl, rfl⟩
  gi_wp2_with fail
  have bT0 := Boxed.new y0 23 (.pointer none)
  have HV0 := Lib.hid (show Below y0.heap.size y0 (y0.alloc (.cells #[(.pointer none)] 23)) from (Below.refl _ _).alloc (Nat.le_refl _) _)
  have hPV0 := HPa0.out.below HV0.out
  obtain ⟨V0, hV0⟩ : ∃ V, y0.alloc (.cells #[(.pointer none)] 23) = V := ⟨_, rfl⟩
  rw [hV0] at bT0 HV0 hPV0 ⊢
  have HPV0 := Lib.hid hPV0
  clear hV0 hPV0
  refine wpIn_rangeFunc_ownH rfl (by omega) (gf := 24) (lb := #[.pointer (some ⟨y0.heap.size, 0, none⟩)]) rfl trivial (enters_of Tryd.func24 (by kernel_rfl) rfl)
    (each_stops (12 - 1) (by omega) y0.heap.size V0.heap.size y0.heap.size (.pointer none) [] (by decide) V0 HPV0.out (Nat.le_refl _) V0 (Below.refl _ _) (Nat.le_refl _) bT0.cell _ bT0.cell (fun c e => by cases e)) KpE.t (fun W l o o' hl h hc hw => KpE.put W l o o' hl h hc hw) (Below.refl _ _) (fun x => (no_name x).elim)
    (fun _ W => Below V0.heap.size V0 W) (fun _ _ _ => False) (ownFrom_below (Nat.le_refl _) (Nat.le_refl _)) (fun _ _ _ _ _ hs _ _ => hs) (Below.refl _ _)
    (fun _ _ _ => True) (fun _ _ _ _ _ _ _ _ _ => trivial) ?assign0 ?body0 ?done0 ?stop0
  case assign0 => intro _ _ x; exact (no_name x).elim
  case body0 => intro _ _ x; exact (no_name x).elim
  case stop0 =>
    rintro D c pre W _ _ h _
    exact h.elim
  rintro D0 ys0 d0 hD0 hys0 hBd0 hK0
  have HK0 := Lib.hid hK0
  have HD0 := Lib.hid hD0
  have HE0 := Lib.hid ((HC0.out.trans (HV0.out.mono HC0.out.size)).trans (hBd0.mono (HC0.out.trans (HV0.out.mono HC0.out.size)).size))
  have HTd0 := Lib.hid (HT0.out.below HE0.out (Nat.le_refl _))
  have HPd0 := Lib.hid (HPV0.out.below hBd0)
  clear hK0 hD0 hys0 hBd0
  gi_wp2_with fail
  refine (callsIn_wide.2 (len_pro [] _ _ HPd0.out)).mono ?_
  rintro e x1 ⟨rfl, rfl⟩
  gi_wp2_with fail
  refine (callsIn_wide.2 (sorted_pro [] _ _ HPd0.out (by decide))).mono ?_
  rintro e f0 ⟨v, rfl, ho, hb⟩
  rw [srt_nil] at ho
  obtain ⟨pn, cn, rfl⟩ := lenOf ho
  have HEf0 := Lib.hid (HE0.out.trans (hb.mono HE0.out.size))
  have HKf0 := Lib.hid hb
  have HPf0 := Lib.hid (HPd0.out.below hb)
  have HTf0 := Lib.hid (HTd0.out.below hb (Nat.le_refl _))
  clear ho hb
  gi_wp2_with fail
  refine (callsIn_wide.2 (prefix_pro [] _ s _ HPf0.out (by decide) HS.out HTf0.out)).mono ?_
  rintro e g0 ⟨v, rfl, ho, hb⟩
  rw [prefix_nil] at ho
  obtain ⟨pn2, cn2, rfl⟩ := lenOf ho
  have HEg0 := Lib.hid (HEf0.out.trans (hb.mono HEf0.out.size))
  have HKg0 := Lib.hid (HKf0.out.trans (hb.mono HKf0.out.size))
  have HPg0 := Lib.hid (HPf0.out.below hb)
  have HTg0 := Lib.hid (HTf0.out.below hb (Nat.le_refl _))
  clear ho hb
  gi_wp2_with fail
  refine (callsIn_wide.2 (near_pro [] _ s _ HPg0.out (by decide) HTg0.out)).mono ?_
  rintro e h0 ⟨v, rfl, ho, hb⟩
  rw [near_nil] at ho
  obtain ⟨pn3, cn3, rfl⟩ := lenOf ho
  have HEh0 := Lib.hid (HEg0.out.trans (hb.mono HEg0.out.size))
  have HKh0 := Lib.hid (HKg0.out.trans (hb.mono HKg0.out.size))
  have HTh0 := Lib.hid (HTg0.out.below hb (Nat.le_refl _))
  clear ho hb
  gi_wp2_with fail
  have HB1 := Lib.hid (HB0.out.trans (HEh0.out.mono HB0.out.size))
  have HX1 := Lib.hid (Boxed.below HX3.out HEh0.out)
  have HP1 := Lib.hid (HPz.out.below HEh0.out)
  have HT1 := HTh0
  have c1' := (HEh0.out.cell (p := ⟨w1.heap.size + 1, 1, none⟩) (cellIn c1)).trans c1
  clear c0 c1
  -- round 1
  rw [roundsIn_succ]
  gi_wp2_with fail
  refine (callsIn_wide.2 (name_pro [] _ at' _ HP1.out)).mono ?_
  rintro e x1 ⟨rfl, ⟨_, _, hlt, _⟩ | ⟨_, rfl⟩⟩
  · exact absurd hlt (by simp)
  gi_wp2_with fail
  refine (callsIn_wide.2 (find_pro [] _ s _ HP1.out (fun j hj => absurd hj (by simp)) HT1.out)).mono ?_
  rintro e y1 ⟨he, hb⟩
  rw [find_nil] at he
  subst he
  have HBa1 := Lib.hid (HB1.out.trans (hb.mono HB1.out.size))
  have HC1 := Lib.hid hb
  have HPa1 := Lib.hid (HP1.out.below hb)
  clear hb
  simp only [Option.getD_none, Option.isSome_none]
  gi_wp2_with fail
  refine (each_in 11 _ _ ⟨_, rfl⟩).mono ?_
  rintro e z1 ⟨rfl, rfl⟩
  gi_wp2_with fail
  have bT1 := Boxed.new y1 23 (.pointer (some ⟨w1.heap.size, 0, none⟩))
  have HV1 := Lib.hid (show Below y1.heap.size y1 (y1.alloc (.cells #[(.pointer (some ⟨w1.heap.size, 0, none⟩))] 23)) from (Below.refl _ _).alloc (Nat.le_refl _) _)
  have hPV1 := HPa1.out.below HV1.out
  obtain ⟨V1, hV1⟩ : ∃ V, y1.alloc (.cells #[(.pointer (some ⟨w1.heap.size, 0, none⟩))] 23) = V := ⟨_, rfl⟩
  rw [hV1] at bT1 HV1 hPV1 ⊢
  have HPV1 := Lib.hid hPV1
  clear hV1 hPV1
  refine wpIn_rangeFunc_ownH rfl (by omega) (gf := 24) (lb := #[.pointer (some ⟨y1.heap.size, 0, none⟩)]) rfl trivial (enters_of Tryd.func24 (by kernel_rfl) rfl)
    (each_stops (12 - 1) (by omega) y1.heap.size V1.heap.size y1.heap.size (.pointer (some ⟨w1.heap.size, 0, none⟩)) [] (by decide) V1 HPV1.out (Nat.le_refl _) V1 (Below.refl _ _) (Nat.le_refl _) bT1.cell _ bT1.cell (fun c e => by cases e)) KpE.t (fun W l o o' hl h hc hw => KpE.put W l o o' hl h hc hw) (Below.refl _ _) (fun x => (no_name x).elim)
    (fun _ W => Below V1.heap.size V1 W) (fun _ _ _ => False) (ownFrom_below (Nat.le_refl _) (Nat.le_refl _)) (fun _ _ _ _ _ hs _ _ => hs) (Below.refl _ _)
    (fun _ _ _ => True) (fun _ _ _ _ _ _ _ _ _ => trivial) ?assign1 ?body1 ?done1 ?stop1
  case assign1 => intro _ _ x; exact (no_name x).elim
  case body1 => intro _ _ x; exact (no_name x).elim
  case stop1 =>
    rintro D c pre W _ _ h _
    exact h.elim
  rintro D1 ys1 d1 hD1 hys1 hBd1 hK1
  have HK1 := Lib.hid hK1
  have HD1 := Lib.hid hD1
  have HE1 := Lib.hid ((HC1.out.trans (HV1.out.mono HC1.out.size)).trans (hBd1.mono (HC1.out.trans (HV1.out.mono HC1.out.size)).size))
  have HTd1 := Lib.hid (HT1.out.below HE1.out (Nat.le_refl _))
  have HPd1 := Lib.hid (HPV1.out.below hBd1)
  clear hK1 hD1 hys1 hBd1
  gi_wp2_with fail
  refine (callsIn_wide.2 (len_pro [] _ _ HPd1.out)).mono ?_
  rintro e x1 ⟨rfl, rfl⟩
  gi_wp2_with fail
  refine (callsIn_wide.2 (sorted_pro [] _ _ HPd1.out (by decide))).mono ?_
  rintro e f1 ⟨v, rfl, ho, hb⟩
  rw [srt_nil] at ho
  obtain ⟨pn, cn, rfl⟩ := lenOf ho
  have HEf1 := Lib.hid (HE1.out.trans (hb.mono HE1.out.size))
  have HKf1 := Lib.hid hb
  have HPf1 := Lib.hid (HPd1.out.below hb)
  have HTf1 := Lib.hid (HTd1.out.below hb (Nat.le_refl _))
  clear ho hb
  gi_wp2_with fail
  refine (callsIn_wide.2 (prefix_pro [] _ s _ HPf1.out (by decide) HS.out HTf1.out)).mono ?_
  rintro e g1 ⟨v, rfl, ho, hb⟩
  rw [prefix_nil] at ho
  obtain ⟨pn2, cn2, rfl⟩ := lenOf ho
  have HEg1 := Lib.hid (HEf1.out.trans (hb.mono HEf1.out.size))
  have HKg1 := Lib.hid (HKf1.out.trans (hb.mono HKf1.out.size))
  have HPg1 := Lib.hid (HPf1.out.below hb)
  have HTg1 := Lib.hid (HTf1.out.below hb (Nat.le_refl _))
  clear ho hb
  gi_wp2_with fail
  refine (callsIn_wide.2 (near_pro [] _ s _ HPg1.out (by decide) HTg1.out)).mono ?_
  rintro e h1 ⟨v, rfl, ho, hb⟩
  rw [near_nil] at ho
  obtain ⟨pn3, cn3, rfl⟩ := lenOf ho
  have HEh1 := Lib.hid (HEg1.out.trans (hb.mono HEg1.out.size))
  have HKh1 := Lib.hid (HKg1.out.trans (hb.mono HKg1.out.size))
  have HTh1 := Lib.hid (HTg1.out.below hb (Nat.le_refl _))
  clear ho hb
  gi_wp2_with fail
  rw [roundsIn_succ]
  have HX2 := Lib.hid (Boxed.below HX1.out HEh1.out)
  have cR := HX2.out.cell
  have fR := HX2.out.frozen
  gi_wp2_with fail
  have k0 := HK0.out
  have k1 := HK1.out
  have l0 := (Array.getElem?_eq_some_iff.1 k0).1
  have l1 := (Array.getElem?_eq_some_iff.1 k1).1
  have s0 := HKh0.out.size
  have s1 := HC1.out.size
  have s2 := HV1.out.size
  have s3 := HD1.out
  have s4 := HD0.out
  have s5 := HX3.out.lt
  have s6 := HC0.out.size
  have s7 := HV0.out.size
  have m0 : h1.heap[D0]? = some (.deferred (some [])) := (HEh1.out.block D0 (by omega)).trans ((HKh0.out.block D0 l0).trans k0)
  have m1 : h1.heap[D1]? = some (.deferred (some [])) := (HKh1.out.block D1 l1).trans k1
  have n0 : (h1.setCell ⟨w.heap.size, 0, none⟩ (.bool true)).heap[D0]? = some (.deferred (some [])) := (Below.heap_setCell _ _ _ _ (by show D0 ≠ w.heap.size; omega)).trans m0
  have n1 : (h1.setCell ⟨w.heap.size, 0, none⟩ (.bool true)).heap[D1]? = some (.deferred (some [])) := (Below.heap_setCell _ _ _ _ (by show D1 ≠ w.heap.size; omega)).trans m1
  have cX : (h1.setCell ⟨w.heap.size, 0, none⟩ (.bool true)).cell? ⟨w.heap.size, 0, none⟩ = some (.bool true) := (Boxed.set (.bool true) HX2.out).cell
  have HBX := Lib.hid (((HB1.out.trans (HEh1.out.mono HB1.out.size)).setCell (p := ⟨w.heap.size, 0, none⟩) (Nat.le_refl _) (.bool true)))
  obtain ⟨X, hX⟩ : ∃ X, h1.setCell ⟨w.heap.size, 0, none⟩ (.bool true) = X := ⟨_, rfl⟩
  rw [hX] at n0 n1 cX HBX ⊢
  have o0 : (X.putObj D1 (.deferred none)).heap[D0]? = some (.deferred (some [])) := by rw [World.putObj_heap_other (show D0 ≠ D1 by omega)]; exact n0
  have cY := cellAt_put (o' := .deferred none) n1 rfl cX
  have cZ := cellAt_put (o' := .deferred none) o0 rfl cY
  have HBY := Lib.hid (HBX.out.trans (belowK_b (w := w) (Nat.le_refl _) X D1 _ (.deferred none) (by omega) n1 rfl rfl))
  have HBZ := Lib.hid (HBY.out.trans (belowK_b (w := w) (Nat.le_refl _) (X.putObj D1 (.deferred none)) D0 _ (.deferred none) (by omega) o0 rfl rfl))
  refine ⟨by simp, .inl ⟨_, _, rfl, run_takeDeferred n1, by simp, .inl ⟨_, _, rfl, run_takeDeferred o0, ?_⟩⟩⟩
  refine ⟨.bool true, ?_, rfl, HBZ.out⟩
  simp [results, Tryd.f3, go_sem, cZ]

theorem walk (s : ByteArray) (at' : Int) (W : World) (hs : s.size ≤ 1048576) (ha : (Lit.int .i64 at').wf = true) (hT : Tabs W) :
    Calls Tryd.prog 3 #[.string s, .int .i64 at'] W fun e w' => e = .returned (.bool true) ∧ Below W.heap.size W w' := callsIn_wide.1 (walkIn s at' W hs hT)

set_option maxRecDepth 100000 in
theorem contract (H : Type) (enc : TypeId × Value → H) (W : World) (base : Nat) (args : Array Value) (ds gs : List (DataW H)) (before : List MemPlace)
    (hval : ∀ (j : Nat) t v, Tryd.f3.params[j]? = some t → args[j]? = some v → Value.okWide Tryd.prog W .any base t v)
    (hW : DataW.Whole enc Tryd.prog Tryd.f3.params.toList Rows.namesNoneSpec.vars false W args.toList ds gs before) (hk : Rows.uptoSmall H (ds ++ gs) = true) (hT : Tabs W) :
    Calls Tryd.prog 3 args W fun e W' => ∃ v, e = .returned v ∧ Rows.namesNoneSpec.post enc Tryd.prog Tryd.f3 false true false false W args v W' := by
  have hW' := hW
  obtain ⟨p, q, hA0, hV, rfl, hfz, hnd⟩ := hW
  have hA : DataW.TrodAll enc Tryd.prog W 0 (fun _ => true) true Tryd.f3.params.toList args.toList ds p := hA0
  rw [Tryd.params3] at hA hval
  obtain ⟨v0, vs0, d0, ds0, p0, q0, hargs, rfl, rfl, h0, r0⟩ := trodAll_cons hA
  obtain ⟨v1, vs1, d1, ds1, p1, q1, rfl, rfl, rfl, h1, r1⟩ := trodAll_cons r0
  obtain ⟨rfl, rfl, rfl⟩ := trodAll_nil r1
  obtain rfl : args = #[v0, v1] := by cases args; simp_all
  obtain ⟨rfl, rfl⟩ := trodVars_none hV
  obtain ⟨s0, rfl, rfl, rfl, hm0⟩ := open_string Tryd.underlying9 (hval 0 9 v0 rfl rfl) h0
  obtain ⟨a1, rfl, rfl, rfl, w1⟩ := open_int Tryd.underlying3 (hval 1 3 v1 rfl rfl) h1
  clear hA0
  simp only [List.append_nil] at hk
  have hb0 := of_decide_eq_true hk
  simp only [Rows.uptoBulkAll, Rows.uptoBulk] at hb0
  have size0 : s0.size ≤ 1048576 := by
    have e : s0.data.toList.length = s0.size := by rw [Array.length_toList]; rfl
    omega
  refine (walk s0 a1 W size0 w1 hT).mono fun e W' ⟨he, hg⟩ => ?_
  subst he
  have hlt := hW'.lt
  exact ⟨_, rfl, post_of_below (pa := ([] ++ ([] ++ []))) (pv := []) hW' (fun _ _ _ => trodAll_cons_mk (shut_bool Tryd.underlying4 _) trodAll_mk0) (fun sp hsp => (trodAll_cons_mk (shut_string Tryd.underlying9 hm0) (trodAll_cons_mk (shut_int Tryd.underlying3 w1) trodAll_mk0))) (fun _ _ => rfl) rfl hg (ok_one (by kernel_rfl) rfl (okWide_bool_mk Tryd.underlying4 _))⟩

theorem witness_row (os : Os) {H : Type} (enc : TypeId × Value → H) :
    (Rows.OpenSpec.upto Rows.namesNoneSpec).preRow enc Tryd.prog Tryd.f3 Rows.namesNoneUptoRow.domain false Rows.namesNoneUptoRow.laid ((laidWorld os).forCall (fun _ _ => 0) ⟨#[], #[.string .empty, .int .i64 0], []⟩).memory #[.string .empty, .int .i64 0] := by
  have hw : (DataW.whole enc Tryd.prog ((laidWorld os).forCall (fun _ _ => 0) ⟨#[], #[.string .empty, .int .i64 0], []⟩).memory Tryd.f3.params.toList Rows.namesNoneSpec.vars false (#[.string .empty, .int .i64 0] : Array Value).toList 8).map (fun x => (x.1, x.2.1)) =
      some ([.lit (.string []), .lit (.int .i64 0)], []) := by kernel_rfl
  obtain ⟨⟨x1, x2, x3⟩, hx, hx1⟩ := Option.map_eq_some_iff.1 hw
  simp only [Prod.mk.injEq] at hx1
  obtain ⟨rfl, rfl⟩ := hx1
  exact OpenSpec.preRow_of_cond 8 hx (by kernel_rfl) (fun k hk => by cases hk; kernel_rfl) (by kernel_rfl) (laid_met os _)

set_option maxRecDepth 100000 in
theorem lifted (os : Os) (started : os.Started) (H : Type) (enc : TypeId × Value → H) (F : Stop.Interp) :
    ReturnsInHanded {} Tryd.checked os 3 .any ((Rows.OpenSpec.upto Rows.namesNoneSpec).preRow enc Tryd.prog Tryd.f3 Rows.namesNoneUptoRow.domain false Rows.namesNoneUptoRow.laid) (((Rows.OpenSpec.upto Rows.namesNoneSpec).at F).post enc Tryd.prog Tryd.f3 false true false false) := by
  refine returnsInHanded_of_row (C := Tryd.checked) (s := (Rows.OpenSpec.upto Rows.namesNoneSpec)) own started (by kernel_rfl) Tryd.func3
    (witness_row_at (enc := enc) (C := Tryd.checked) false (laidWorld os) #[.string .empty, .int .i64 0] rfl (by kernel_rfl) (by kernel_rfl) (by kernel_rfl) (witness_row os enc)) ?_
  intro W base args ds gs before hval hW _ hcond hsz hL hS _
  exact contract H enc W base args ds gs before hval hW (hcond _ rfl) (tabs_of hL hS)

set_option maxHeartbeats 16000000 in
theorem closed : joinedFacts Tryd.pinned.checked.prog 3 Tryd.f3 ((Rows.OpenSpec.upto Rows.namesNoneSpec)).bare Rows.namesNoneUptoRow = true := by
  unfold joinedFacts
  repeat' (with_reducible refine Bool.and_eq_true_iff.2 ⟨?_, ?_⟩)
  all_goals (as_aux_lemma => kernel_rfl)
theorem named : Tryd.pinned.checked.prog.funcNamed Rows.namesNoneUptoRow.func = some 3 := by kernel_rfl
theorem inst : (Tryd.f3).isInstance Tryd.pinned.checked.prog Rows.namesNoneUptoRow.origin Rows.namesNoneUptoRow.targs := of_decide_eq_true (by kernel_rfl)
theorem wrap : (Tryd.f3).isWrapper Tryd.pinned.checked.prog Rows.namesNoneUptoRow.wrapper Rows.namesNoneUptoRow.mainSum := by
  unfold Func.isWrapper
  first | (rw [if_pos (by decide +kernel)]; kernel_rfl) | (rw [if_neg (by decide +kernel)]; exact ⟨rfl, rfl⟩)
theorem row : Rows.NamesNoneUptoSaid :=
  OpenClaim.holds_of_cond 3 Tryd.f3 rfl rfl rfl rfl rfl rfl rfl ⟨rfl, rfl, rfl, rfl, rfl⟩ rfl rfl rfl rfl rfl named Tryd.func3 closed inst wrap
    (fun os started H enc _ F => by rw [OpenClaim.pre_eq_preRow]; exact lifted os started H enc F)

theorem plain (f : FuncId) (fn : Func) (hf : Tryd.pinned.checked.prog.funcNamed Rows.namesNoneUptoRow.func = some f) (hfn : Tryd.pinned.checked.prog.funcs[f]? = some fn) :
    false = Tryd.pinned.checked.prog.looks [] ∧ ∀ (j : Nat) t, fn.params[j]? = some t → Tryd.pinned.checked.prog.wantsStandIn t = false := by
  obtain rfl : f = 3 := Option.some.inj ((show Tryd.prog.funcNamed Rows.namesNoneUptoRow.func = some 3 by kernel_rfl).symm.trans hf) |>.symm
  obtain rfl : fn = Tryd.f3 := (Option.some.inj (Tryd.func3.symm.trans hfn)).symm
  refine ⟨by kernel_rfl, fun j t ht => ?_⟩
  rw [Tryd.params3] at ht
  have hm : t ∈ [9, 3] := by simpa using Array.mem_of_getElem? ht
  simp only [List.mem_cons, List.mem_nil_iff, or_false] at hm
  rcases hm with rfl | rfl
  · exact (show Tryd.prog.wantsStandIn 9 = false by kernel_rfl)
  · exact (show Tryd.prog.wantsStandIn 3 = false by kernel_rfl)

theorem proved : Rows.NamesNoneUptoCardSaid :=
  Claim7.holds_tied_plain_at .later [] _ _ _ _ row (fun _ h => by cases h) (by kernel_rfl) (fun _ h => by cases h) namesNoneUpto_row_tie rfl ⟨rfl, rfl⟩ (by kernel_rfl) rfl plain (by kernel_rfl)
end Go.Proofs.YtaikecdafcmdaaaDoor.namesNone
