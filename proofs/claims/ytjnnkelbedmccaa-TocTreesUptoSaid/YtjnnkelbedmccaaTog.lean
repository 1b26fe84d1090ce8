/- Layer 10: the program's End. -/
import Derived.Test.YtjnnkelbedmccaaTof
namespace Go.Proofs.Ytjnnkelbedmccaa
open Go.RowKit Go.Shelf
set_option linter.unusedVariables false

attribute [local go_sem] Oper.semAt_some

theorem Boxed.belowL {W W' : World} {B : Nat} {t : TypeId} {v : Value} (h : Boxed W B t v) (hb : Below W.heap.size W W') : Boxed W' B t v := (hb.block B h.lt).trans h
theorem KpR.set {B b1 b2 : Nat} {W : World} {p : Addr} (v : Value) (hB : B ≤ p.block) (h1 : b1 ≠ p.block) (h2 : b2 ≠ p.block) : KpR B b1 b2 W (W.setCell p v) :=
  ⟨(Below.refl B W).setCell hB v, fun u e => (World.cell?_of_block (a := ⟨b1, 0, none⟩) (Below.heap_setCell W p v b1 h1)).trans e, fun u e => (World.cell?_of_block (a := ⟨b2, 0, none⟩) (Below.heap_setCell W p v b2 h2)).trans e⟩
theorem look_ok {l : List Ent} {i : Int} (h : lookE l i = 0) : Gd l ∧ gdE l = 0 ∧ ∃ k : Nat, i = k ∧ k < l.length := by
  unfold lookE at h
  by_cases h1 : gdE l ≠ 0
  · rw [if_pos h1] at h; exact absurd h h1
  rw [if_neg h1] at h
  have h1 : gdE l = 0 := by omega
  by_cases h2 : 0 ≤ i ∧ i < l.length
  · exact ⟨gd_of h1, h1, i.toNat, by omega, by omega⟩
  · rw [if_neg h2] at h; cases h
/-- What the loop that counts holds between two rounds. -/
def EndI (S i n : Nat) (lv : Value) (W0 : World) (pre : List (Pl n)) (W : World) : Prop :=
  Boxed W S 3 (.int .i64 ((i + 1 + pre.length : Nat))) ∧ Boxed W (S + 1) 34 lv ∧ Boxed W (S + 2) 3 (.int .i64 (i : Nat)) ∧ Below S W0 W
theorem EndI.own {S i n : Nat} {lv : Value} {W0 : World} {D : Nat} (hBD : S ≤ D) (hs : S ≤ W0.heap.size) : OwnFrom D (EndI S i n lv W0) :=
  OwnFrom.and (Own.from (boxed_own S 3 (fun (pre : List (Pl n)) => .int .i64 ((i + 1 + pre.length : Nat)))) _) (OwnFrom.and (Own.from (boxed_own (S + 1) 34 (fun _ => lv)) _) (OwnFrom.and (Own.from (boxed_own (S + 2) 3 (fun _ => .int .i64 (i : Nat))) _) (ownFrom_below hs hBD)))
set_option maxRecDepth 100000 in
set_option maxHeartbeats 4000000 in
theorem end_yes (l : List Ent) (v : Value) (i : Nat) (w : World) (hv : RdE w v l) (g : Gd l) (hi : i < l.length) (hlook : lookE l i = 0) :
    CallsIn Fence.wide 12 Try.prog 21 #[v, .int .i64 i] w (SaysL (.tuple #[.int .i64 (endM l i), .int .i64 0]) w) := by
  have hf0 : Fence.wide.fn 47 := trivial
  have hf1 : Fence.wide.fn 50 := trivial
  have hf2 : Fence.wide.fn 61 := trivial
  have hq := look_pro l v i w hv
  obtain ⟨pa, cap, rfl, hcl, hcm⟩ := hv.form
  have HV := Lib.hid hv
  have HG := Lib.hid g
  have HI := Lib.hid hi
  rw [hlook] at hq
  have HQ := Lib.hid hq
  have hi9 : i ≤ 1000 := by have := g.len; omega
  clear hv hq hlook hcl hcm g hi
  refine callsIn_of_wp_marks Try.func21 rfl trivial ?_ rfl
  simp only [Try.ntmps21, List.size_toArray, List.length_cons, List.length_nil, Nat.reduceAdd, Nat.reduceSub, Array.replicate_succ, Array.replicate_zero, List.push_toArray, List.append_toArray, List.nil_append, List.cons_append]
  gi_wp2_with (gi_at_call 47; (with_reducible refine (callsIn_wide.2 HQ.out).mono ?_); rintro e w1 ⟨rfl, hb1⟩; have HB1 := Lib.hid hb1; clear hb1)
  refine (below_in 11 _ _ _ _ _).mono ?_
  rintro e w3 ⟨rfl, rfl⟩
  gi_wp2_with fail
  have hS1 := HB1.out.size
  have bE := ((Boxed.new w1 3 (.int .i64 ((i : Int) + 1))).alloc (.cells #[.slice pa l.length cap] 34)).alloc (.cells #[.int .i64 (i : Nat)] 3)
  have bL := (Boxed.new (w1.alloc (.cells #[.int .i64 ((i : Int) + 1)] 3)) 34 (.slice pa l.length cap)).alloc (.cells #[.int .i64 (i : Nat)] 3)
  have bN := Boxed.new ((w1.alloc (.cells #[.int .i64 ((i : Int) + 1)] 3)).alloc (.cells #[.slice pa l.length cap] 34)) 3 (.int .i64 (i : Nat))
  simp only [World.size_alloc] at bE bL bN
  have hA : Below w1.heap.size w1 (((w1.alloc (.cells #[.int .i64 ((i : Int) + 1)] 3)).alloc (.cells #[.slice pa l.length cap] 34)).alloc (.cells #[.int .i64 (i : Nat)] 3)) := (((Below.refl _ w1).alloc (Nat.le_refl _) _).alloc (by simp) _).alloc (by simp; omega) _
  have hsz : (((w1.alloc (.cells #[.int .i64 ((i : Int) + 1)] 3)).alloc (.cells #[.slice pa l.length cap] 34)).alloc (.cells #[.int .i64 (i : Nat)] 3)).heap.size = w1.heap.size + 3 := by simp
  obtain ⟨W0, hW0⟩ : ∃ W0, ((w1.alloc (.cells #[.int .i64 ((i : Int) + 1)] 3)).alloc (.cells #[.slice pa l.length cap] 34)).alloc (.cells #[.int .i64 (i : Nat)] 3) = W0 := ⟨_, rfl⟩
  rw [hW0] at bE bL bN hA hsz ⊢
  have HA := Lib.hid hA
  have HV1 := Lib.hid (HV.out.below HB1.out)
  clear hW0 hA
  obtain ⟨S, hS⟩ : ∃ S, w1.heap.size = S := ⟨_, rfl⟩
  have HS := Lib.hid hS
  rw [hS] at bE bL bN hsz HA hS1 ⊢
  clear hS
  have bN' : Boxed W0 (S + 2) 3 (.int .i64 (i : Nat)) := bN
  refine wpIn_rangeFunc_ownH rfl (by omega) (gf := 61) (lb := #[.pointer (some ⟨S + 1, 0, none⟩), .pointer (some ⟨S + 1 + 1, 0, none⟩)]) rfl trivial (enters_of Try.func61 (by kernel_rfl) rfl)
    (below_stops (12 - 1) (by omega) (S + 1) (S + 2) S (.slice pa l.length cap) l i HG.out.len (by omega) (by have := HI.out; omega) w1 HV1.out (by rw [HS.out]; exact Nat.le_refl _) W0 HA.out (by omega) bL.cell bN'.cell) KpR.t (fun W l o o' hl h hc hw => KpR.put W l o o' (by omega) h hc hw) (Below.refl _ _) (fun _ => rfl)
    (EndI S i l.length (.slice pa l.length cap) W0)
    (fun _ _ _ => False)
    (EndI.own (by omega) (by omega))
    (fun _ _ _ _ _ hs _ _ => hs)
    ⟨by rw [show ((i + 1 + ([] : List (Pl l.length)).length : Nat) : Int) = (i : Int) + 1 by simp]; exact bE, bL, bN', Below.refl _ _⟩
    (fun x a' W => a' = { tmps := #[.slice pa l.length cap, .int .i64 (i : Nat), undef, undef, .int .i64 0, .int .i64 0, .int .i64 0, .pointer (some ⟨S, 0, none⟩), .slice pa l.length cap, .int .i64 (i : Nat), .int .i64 0, .int .i64 0, .bool false, undef, .int .i64 (i : Nat), .int .i64 ((i : Int) + 1), .slice pa l.length cap, .int .i64 (i : Nat), .func (.func 61) #[] #[.pointer (some ⟨S + 1, 0, none⟩), .pointer (some ⟨S + 1 + 1, 0, none⟩)], encP x, undef, undef, undef], defers := [] })
    (fun x a' s X Y row hs hg hr => hs)
    ?assign ?body ?done ?stop
  case assign =>
    rintro l' pre x W K hI hK
    have HK := Lib.hid (hK (a' := _) _ ((KeepsOthers.refl _).from _) (KpR.refl _ _ _ _) hI rfl)
    clear hK hI
    gi_wp2
    first | exact HK.out | (simp only [Array.zip, Array.zipWith, Array.foldl]; exact HK.out) | (simp; exact HK.out)
  case body =>
    rintro l' pre x a' W hl ⟨r, hr⟩ hI rfl hlt
    have cE := hI.1.cell
    have fE := frozen_of_row W S 0 _ _ hI.1
    have HI2 := Lib.hid hI
    have hbl := blw_in l (lvI l (i : Nat)) ((i : Int) + 1).toNat (by have := HI.out; omega)
    have hsl := seqB_len (l := l) (i := (i : Nat)) (by have := HI.out; omega)
    have hpl : pre.length ≤ 1000 := by have := HG.out.len; omega
    obtain ⟨q, hq⟩ : ∃ q, i + 1 + pre.length = q := ⟨_, rfl⟩
    rw [hq] at cE
    have hq9 : q ≤ 5000 := by omega
    have HQ2 := Lib.hid hq
    clear hI hlt hr hbl hsl hpl hq
    gi_wp2
    refine ⟨(KeepsOthers.setCell _ _ _).from _, KpR.set _ (Nat.le_refl _) (by show S + 1 ≠ S; omega) (by show S + 2 ≠ S; omega), ?_⟩
    have h9 := HI2.out
    refine ⟨?_, ?_, ?_, h9.2.2.2.setCell (p := ⟨S, 0, none⟩) (Nat.le_refl _) _⟩
    · have h8 := h9.1.set (.int .i64 ((q : Int) + 1))
      rw [show ((i + 1 + (pre ++ [x]).length : Nat) : Int) = (q : Int) + 1 by have := HQ2.out; simp; omega]
      exact h8
    · exact (Below.heap_setCell _ _ _ _ (by show S + 1 ≠ S; omega)).trans h9.2.1
    · exact (Below.heap_setCell _ _ _ _ (by show S + 2 ≠ S; omega)).trans h9.2.2.1
  case done =>
    rintro D ys W hD rfl ⟨bE1, bO, bL, hB⟩ hK
    have cE := bE1.cell
    have hsl := seqB_len (l := l) (i := (i : Nat)) (by have := HI.out; omega)
    have he : i + 1 + (seqB l (i : Nat)).length = endM l i := by
      rw [hsl, lvI_nat, show ((i : Int) + 1).toNat = i + 1 by omega]; rfl
    rw [he] at cE
    have HBx := Lib.hid (HA.out.trans hB)
    have HKK := Lib.hid hK
    obtain ⟨q, hq⟩ : ∃ q, endM l i = q := ⟨_, rfl⟩
    rw [hq] at cE
    clear hB hK hsl he bE1 bO bL
    gi_wp2
    refine ⟨by simp, .inl ⟨_, _, rfl, run_takeDeferred HKK.out, ?_⟩⟩
    refine ⟨_, results_tmp2 rfl _ _ _, by rw [hq]; rfl, ?_⟩
    have hb5 : Below w.heap.size w W := HB1.out.trans (HBx.out.mono (by have := HS.out; omega))
    exact hb5.trans (KpR.put (B := w.heap.size) (b1 := 0) (b2 := 0) W D _ _ (by omega) HKK.out rfl rfl).1
  case stop =>
    rintro D c pre W _ _ h _
    exact h.elim
end Go.Proofs.Ytjnnkelbedmccaa
