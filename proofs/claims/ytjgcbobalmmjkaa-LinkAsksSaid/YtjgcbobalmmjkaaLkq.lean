/- The program's Orphans of layer 8. -/
import Derived.Test.YtjgcbobalmmjkaaLko
namespace Go.Proofs.Ytjgcbobalmmjkaa
open Go.RowKit Go.Shelf
set_option linter.unusedVariables false

attribute [local go_sem] Oper.semAt_some

/-- Block S is a row of n numbers. -/
def Cnts (W : World) (S n : Nat) (f : Nat → Nat) : Prop := ∃ cur : Array Value, W.heap[S]? = some (.cells cur 3 (0, 0)) ∧ cur.size = n ∧ ∀ k, k < n → cur[k]? = some (.int .i64 (f k : Nat))
theorem Cnts.cell {W : World} {S n : Nat} {f : Nat → Nat} (h : Cnts W S n f) {k : Nat} (hk : k < n) : W.cell? ⟨S, k, none⟩ = some (.int .i64 (f k : Nat)) := by
  obtain ⟨cur, h1, h2, h3⟩ := h
  rw [cell_of_row _ _ _ _ _ _ h1]
  exact h3 k hk
theorem Cnts.free {W : World} {S n : Nat} {f : Nat → Nat} (h : Cnts W S n f) (k : Nat) : W.frozen? ⟨S, k, none⟩ = false := by
  obtain ⟨cur, h1, _⟩ := h
  exact frozen_of_row W S k _ _ h1
theorem Cnts.lt {W : World} {S n : Nat} {f : Nat → Nat} (h : Cnts W S n f) : S < W.heap.size := by
  obtain ⟨cur, h1, _⟩ := h
  exact (Array.getElem?_eq_some_iff.1 h1).1
theorem Cnts.block {W W' : World} {S n : Nat} {f : Nat → Nat} (h : Cnts W S n f) (e : W'.heap[S]? = W.heap[S]?) : Cnts W' S n f := by
  obtain ⟨cur, h1, h2⟩ := h
  exact ⟨cur, e.trans h1, h2⟩
theorem Cnts.below {W W' : World} {S n : Nat} {f : Nat → Nat} (h : Cnts W S n f) (hb : Below W.heap.size W W') : Cnts W' S n f := h.block (hb.block S h.lt)
theorem Cnts.congr {W : World} {S n : Nat} {f g : Nat → Nat} (h : Cnts W S n f) (e : ∀ k, k < n → f k = g k) : Cnts W S n g := by
  obtain ⟨cur, h1, h2, h3⟩ := h
  exact ⟨cur, h1, h2, fun k hk => by rw [h3 k hk, e k hk]⟩
theorem Cnts.set {W : World} {S n : Nat} {f : Nat → Nat} (h : Cnts W S n f) (i z : Nat) : Cnts (W.setCell ⟨S, i, none⟩ (.int .i64 z)) S n (fun k => if k = i then z else f k) := by
  obtain ⟨cur, h1, h2, h3⟩ := h
  refine ⟨_, heap_setCell_same W S i _ _ _ h1, by simpa using h2, fun k hk => ?_⟩
  by_cases e : k = i
  · subst e
    rw [Array.getElem?_setIfInBounds_self_of_lt (by omega)]
    simp
  · rw [Array.getElem?_setIfInBounds_ne (fun h => e h.symm), h3 k hk]
    simp [e]
theorem Cnts.start (W : World) (n : Nat) : Cnts (W.alloc (.cells (madeCells #[.int .i64 0] n) 3)) W.heap.size n (fun _ => 0) := by
  refine ⟨madeCells #[.int .i64 0] n, World.alloc_heap_new W _, by simp [size_madeCells], fun j hj => ?_⟩
  unfold madeCells
  simp [hj, Nat.mod_one]
theorem cnts_own {α : Type} (S n : Nat) (f : α → Nat → Nat) (D : Nat) : OwnFrom D (fun s W => Cnts W S n (f s)) := fun s W W' row hs hg hr => by
  obtain ⟨cur, h1, h2⟩ := hs
  refine ⟨cur, (hg.block S (Array.getElem?_eq_some_iff.1 h1).1 fun e => ?_).trans h1, h2⟩
  obtain ⟨_, o, ho, hc⟩ := hr S e.symm
  rw [h1] at ho
  cases ho
  cases hc
theorem KpR.set {B b1 b2 : Nat} {W : World} {p : Addr} (v : Value) (hB : B ≤ p.block) (h1 : b1 ≠ p.block) (h2 : b2 ≠ p.block) : KpR B b1 b2 W (W.setCell p v) :=
  ⟨(Below.refl B W).setCell hB v, fun u e => (World.cell?_of_block (a := ⟨b1, 0, none⟩) (Below.heap_setCell W p v b1 h1)).trans e, fun u e => (World.cell?_of_block (a := ⟨b2, 0, none⟩) (Below.heap_setCell W p v b2 h2)).trans e⟩
/-- What the loop that counts holds between two rounds. -/
def CntI (S n : Nat) (lv : Value) (W0 : World) (pre : List (Cn n)) (W : World) : Prop :=
  Cnts W S n (fun k => others k pre) ∧ Boxed W (S + 1) 23 (.slice (some ⟨S, 0, none⟩) n n) ∧ Boxed W (S + 2) 22 lv ∧ Boxed W (S + 3) 3 (.int .i64 n) ∧ Below S W0 W
theorem CntI.own {S n : Nat} {lv : Value} {W0 : World} {D : Nat} (hBD : S ≤ D) (hs : S ≤ W0.heap.size) : OwnFrom D (CntI S n lv W0) :=
  OwnFrom.and (cnts_own S n (fun (pre : List (Cn n)) k => others k pre) D) (OwnFrom.and (Own.from (boxed_own (S + 1) 23 (fun _ => .slice (some ⟨S, 0, none⟩) n n)) _) (OwnFrom.and (Own.from (boxed_own (S + 2) 22 (fun _ => lv)) _) (OwnFrom.and (Own.from (boxed_own (S + 3) 3 (fun _ => .int .i64 n)) _) (ownFrom_below hs hBD))))
theorem CntI.below {S n : Nat} {lv : Value} {W0 W W' : World} {pre : List (Cn n)} (h : CntI S n lv W0 pre W) (hb : Below W.heap.size W W') : CntI S n lv W0 pre W' :=
  ⟨h.1.below hb, Boxed.belowL h.2.1 hb, Boxed.belowL h.2.2.1 hb, Boxed.belowL h.2.2.2.1 hb, h.2.2.2.2.trans (hb.mono (Nat.le_of_lt h.1.lt))⟩
theorem range_filter_succ (p : Nat → Bool) (k : Nat) : (List.range (k + 1)).filter p = if p k then (List.range k).filter p ++ [k] else (List.range k).filter p := by
  rw [List.range_succ, List.filter_append]
  by_cases h : p k = true <;> simp [h]
theorem lookE_nil {len : Nat} {n : Int} (h : lookE len n [] = 0) : len ≤ 65536 ∧ ∃ N : Nat, n = N ∧ N ≤ 1000 := by
  unfold lookE at h
  split at h
  · omega
  · split at h
    · omega
    · exact ⟨by omega, n.toNat, by omega, by omega⟩
theorem rdZ_nil (w : World) : RdZ w (.slice none 0 0) [] := ⟨none, 0, rfl, fun j hj => absurd hj (by simp)⟩

set_option maxRecDepth 100000 in
set_option maxHeartbeats 4000000 in
theorem alone_yes (l : List Rf) (v : Value) (N : Nat) (w : World) (hv : RdR w v l) (hl : l.length ≤ 65536) (hN : N ≤ 1000) (hlook : lookE l.length N [] = 0) :
    CallsIn Fence.wide 12 Try.prog 13 #[v, .int .i64 N] w (NewL (aloneM l N) 0 w) := by
  have hf0 : Fence.wide.fn 20 := trivial
  have hf1 : Fence.wide.fn 21 := trivial
  have hf2 : Fence.wide.fn 32 := trivial
  obtain ⟨pa, cap, rfl, hcl, hcm⟩ := hv.form
  have HV := Lib.hid hv
  have HL := Lib.hid hl
  have h0 := look_pro w pa l.length cap N (.slice none 0 0) [] (rdZ_nil w) (by simp) (by omega)
  rw [hlook] at h0
  have HQ := Lib.hid h0
  obtain ⟨i0, hi0, hz0, hz1, hz2⟩ := info_parts infoI
  have hmk : ∀ w : World, (Instr.makeSlice 23 (.int .i64 (N : Int)) (.int .i64 (N : Int))).run Try.prog w = .ok (.slice (some ⟨w.heap.size, 0, none⟩) N N) (w.alloc (.cells (madeCells #[.int .i64 0] N) 3)) := by
    intro w
    have h := run_make (P := Try.prog) w 23 3 i0 (.int .i64 0) Try.underlying23 hi0 hz0 .i64 .i64 (N : Int) (N : Int) (by omega) (by omega) (by rw [hz2]; omega) (by omega)
    rw [hz1, Nat.mul_one, show (N : Int).toNat = N by omega] at h
    exact h
  clear hv h0 hlook hcl hcm hl
  refine callsIn_of_wp_marks Try.func13 rfl trivial ?_ rfl
  simp only [Try.ntmps13, List.size_toArray, List.length_cons, List.length_nil, Nat.reduceAdd, Nat.reduceSub, Array.replicate_succ, Array.replicate_zero, List.push_toArray, List.append_toArray, List.nil_append, List.cons_append]
  gi_wp2_with (gi_at_call 20; (with_reducible refine (callsIn_wide.2 HQ.out).mono ?_); rintro e w1 ⟨rfl, rfl⟩)
  refine (that_in 11 _ _ _ _ _).mono ?_
  rintro e w3 ⟨rfl, rfl⟩
  gi_wp2_with fail
  have bS := (((Cnts.start w N).below ((Below.refl _ _).alloc (Nat.le_refl _) (.cells #[.slice (some ⟨w.heap.size, 0, none⟩) N N] 23))).below ((Below.refl _ _).alloc (Nat.le_refl _) (.cells #[.slice pa l.length cap] 22))).below ((Below.refl _ _).alloc (Nat.le_refl _) (.cells #[.int .i64 N] 3))
  have bO := ((Boxed.new (w.alloc (.cells (madeCells #[.int .i64 0] N) 3)) 23 (.slice (some ⟨w.heap.size, 0, none⟩) N N)).alloc (.cells #[.slice pa l.length cap] 22)).alloc (.cells #[.int .i64 N] 3)
  have bL := (Boxed.new ((w.alloc (.cells (madeCells #[.int .i64 0] N) 3)).alloc (.cells #[.slice (some ⟨w.heap.size, 0, none⟩) N N] 23)) 22 (.slice pa l.length cap)).alloc (.cells #[.int .i64 N] 3)
  have bN := Boxed.new (((w.alloc (.cells (madeCells #[.int .i64 0] N) 3)).alloc (.cells #[.slice (some ⟨w.heap.size, 0, none⟩) N N] 23)).alloc (.cells #[.slice pa l.length cap] 22)) 3 (.int .i64 N)
  simp only [World.size_alloc] at bO bL bN
  have hA : Below w.heap.size w ((((w.alloc (.cells (madeCells #[.int .i64 0] N) 3)).alloc (.cells #[.slice (some ⟨w.heap.size, 0, none⟩) N N] 23)).alloc (.cells #[.slice pa l.length cap] 22)).alloc (.cells #[.int .i64 N] 3)) := ((((Below.refl _ w).alloc (Nat.le_refl _) _).alloc (by simp) _).alloc (by simp; omega) _).alloc (by simp; omega) _
  have hsz : ((((w.alloc (.cells (madeCells #[.int .i64 0] N) 3)).alloc (.cells #[.slice (some ⟨w.heap.size, 0, none⟩) N N] 23)).alloc (.cells #[.slice pa l.length cap] 22)).alloc (.cells #[.int .i64 N] 3)).heap.size = w.heap.size + 4 := by simp
  obtain ⟨W0, hW0⟩ : ∃ W0, (((w.alloc (.cells (madeCells #[.int .i64 0] N) 3)).alloc (.cells #[.slice (some ⟨w.heap.size, 0, none⟩) N N] 23)).alloc (.cells #[.slice pa l.length cap] 22)).alloc (.cells #[.int .i64 N] 3) = W0 := ⟨_, rfl⟩
  rw [hW0] at bS bO bL bN hA hsz ⊢
  have HA := Lib.hid hA
  clear hW0 hA hmk
  refine wpIn_rangeFunc_ownH rfl (by omega) (gf := 32) (lb := #[.pointer (some ⟨w.heap.size + 2, 0, none⟩), .pointer (some ⟨w.heap.size + 3, 0, none⟩)]) rfl trivial (enters_of Try.func32 (by kernel_rfl) rfl)
    (that_stops (12 - 1) (by omega) (w.heap.size + 2) (w.heap.size + 3) w.heap.size (.slice pa l.length cap) l N (by have := HL.out; omega) w HV.out (Nat.le_refl _) W0 HA.out (by omega) bL.cell bN.cell) KpR.t (fun W l o o' hl h hc hw => KpR.put W l o o' (by omega) h hc hw) (Below.refl _ _) (fun _ => rfl)
    (CntI w.heap.size N (.slice pa l.length cap) W0)
    (fun _ _ _ => False)
    (CntI.own (by omega) (by omega))
    (fun _ _ _ _ _ hs _ _ => hs)
    ⟨bS, bO, bL, bN, Below.refl _ _⟩
    (fun x a' W => ∃ Bx, w.heap.size + 3 < Bx ∧ RowAt W Bx x ∧ a' = { tmps := #[.slice pa l.length cap, .int .i64 N, undef, undef, .slice none 0 0, .int .i64 0, .int .i64 0, .pointer (some ⟨w.heap.size + 1, 0, none⟩), .pointer (some ⟨Bx, 0, none⟩), undef, undef, undef, .slice pa l.length cap, .int .i64 N, .int .i64 0, .int .i64 0, .bool false, undef, .int .i64 N, .slice (some ⟨w.heap.size, 0, none⟩) N N, .slice pa l.length cap, .int .i64 N, .func (.func 32) #[] #[.pointer (some ⟨w.heap.size + 2, 0, none⟩), .pointer (some ⟨w.heap.size + 3, 0, none⟩)], encC x, undef, undef, undef, undef, undef, undef, undef, undef, undef, undef, undef, undef, undef, undef, undef, undef, undef, undef, undef, undef, undef, undef, undef, undef, undef, undef, undef], defers := [] })
    (fun x a' s X Y row hs hg hr => by
      obtain ⟨Bx, h1, h2, h3⟩ := hs
      exact ⟨Bx, h1, rowAt_own Bx x _ () X Y row h2 hg hr, h3⟩)
    ?assign ?body ?done ?stop
  case assign =>
    rintro l' pre x W K hI hK
    have hWs := hI.2.2.2.1.lt
    have hAl : Below W.heap.size W (W.alloc (.cells #[.int .i64 (x.fr : Nat), .int .i64 (x.to : Nat), .int .i64 x.note, .string x.nam, .int .i64 x.line, .int .i64 x.col] 45)) := (Below.refl _ W).alloc (Nat.le_refl _) _
    have HK := Lib.hid (hK (a' := _) _ ((keeps_belowL hAl).from _) (KpR.of_below hAl (by omega)) (hI.below hAl) ⟨W.heap.size, by omega, World.alloc_heap_new W _, rfl⟩)
    clear hK hI hAl
    unfold encC
    gi_wp2
    exact HK.out
  case body =>
    rintro l' pre x a' W hl ⟨r, hr⟩ hI ⟨Bx, hBx, hx, rfl⟩ hlt
    have d0 := hx.fr
    have d1 := hx.to
    have hto := x.ht
    have HSN := Lib.hid (fun k => others_snoc k pre x)
    by_cases he : x.fr = x.to
    · have t1 : ((x.fr : Int) != (x.to : Int)) = false := by simp [he]
      have HI := Lib.hid hI
      have HE := Lib.hid he
      clear he hI hx hlt hr
      gi_wp2
      refine ⟨(KeepsOthers.refl _).from _, KpR.refl _ _ _ _, ?_⟩
      have h9 := HI.out
      exact ⟨h9.1.congr fun k _ => by rw [HSN.out, if_neg (by have := HE.out; omega)], h9.2⟩
    · have t1 : ((x.fr : Int) != (x.to : Int)) = true := by simpa using fun h : (x.fr : Int) = x.to => he (by omega)
      have cO := hI.2.1.cell
      have cS := hI.1.cell hto
      have fS := hI.1.free x.to
      have hle := others_len x.to pre
      have hcl := cnt_len N l
      have hq : others x.to pre ≤ 65536 := by have := HL.out; omega
      have HI := Lib.hid hI
      have HE := Lib.hid he
      have htz : (x.to : Int) < N := by omega
      obtain ⟨q, hqq⟩ : ∃ q, others x.to pre = q := ⟨_, rfl⟩
      rw [hqq] at cS hq
      have HQQ := Lib.hid hqq
      have HTO := Lib.hid hto
      clear he hI hx hlt hr hle hcl hqq hto
      gi_wp2
      refine ⟨(KeepsOthers.setCell _ _ _).from _, KpR.set _ (Nat.le_refl _) (by show w.heap.size + 2 ≠ w.heap.size; omega) (by show w.heap.size + 3 ≠ w.heap.size; omega), ?_⟩
      have h9 := HI.out
      refine ⟨(h9.1.set x.to (q + 1)).congr fun k _ => ?_, ?_, ?_, ?_, h9.2.2.2.2.setCell (p := ⟨w.heap.size, x.to, none⟩) (Nat.le_refl _) _⟩
      · rw [HSN.out]
        by_cases hk : k = x.to
        · rw [if_pos hk, if_pos ⟨hk.symm, HE.out⟩, hk, HQQ.out]
        · rw [if_neg hk, if_neg (by omega)]
      · exact (Below.heap_setCell _ _ _ _ (by show w.heap.size + 1 ≠ w.heap.size; omega)).trans h9.2.1
      · exact (Below.heap_setCell _ _ _ _ (by show w.heap.size + 2 ≠ w.heap.size; omega)).trans h9.2.2.1
      · exact (Below.heap_setCell _ _ _ _ (by show w.heap.size + 3 ≠ w.heap.size; omega)).trans h9.2.2.2.1
  case done =>
    rintro D ys W hD rfl ⟨hS, bO, bL, bN, hB⟩ hK
    have cO := bO.cell
    have HBx := Lib.hid (HA.out.trans hB)
    have HKK := Lib.hid hK
    have HS := Lib.hid hS
    clear hB hS
    gi_wp2
    gi_loopw [9, 38] (fun av i wr => ∃ k : Nat, i = .int .i64 (k : Nat) ∧ k ≤ N ∧ wr.ownsRow W.heap.size 3 1 av ((List.range k).filter fun i => aloneB l N i).length (numsV ((List.range k).filter fun i => aloneB l N i)) ∧ Below W.heap.size W wr) (fun _ i _ => N - (intOf i).toNat)
    case atStart => exact ⟨0, rfl, Nat.zero_le _, World.ownsRow_nil _ _ _ _, Below.refl _ _⟩
    case round =>
      obtain ⟨k, rfl, hk, hr, hb⟩ := hrel
      by_cases hlt : k < N
      · have cS := (HS.out.below hb).cell hlt
        have hs := range_filter_succ (fun i => aloneB l N i) k
        have hfl : ((List.range k).filter fun i => aloneB l N i).length ≤ k := Nat.le_trans (List.length_filter_le _ _) (by simp)
        have hkz : (k : Int) < N := by omega
        have hal : aloneB l N k = (others k (cnt N l) == 0) := rfl
        obtain ⟨q, hq⟩ : ∃ q, others k (cnt N l) = q := ⟨_, rfl⟩
        rw [hq] at cS hal
        obtain ⟨zs, hzs⟩ : ∃ zs, ((List.range k).filter fun i => aloneB l N i) = zs := ⟨_, rfl⟩
        rw [hzs] at hr hs hfl
        by_cases h0 : q = 0
        · subst h0
          rw [if_pos (by rw [hal]; rfl)] at hs
          have HSS := Lib.hid hs
          have M1 := Lib.hid (show zs.length + 1 ≤ maxLen by unfold maxLen; omega)
          have M2 := Lib.hid (show (zs.length + 1) * 8 ≤ 140737488355328 by omega)
          have M3 := Lib.hid (show W.heap.size ≤ (wr.alloc (.cells #[.int .i64 (k : Nat)] 3)).heap.size by have := hb.size; simp; omega)
          have HR := Lib.hid hr
          have HB := Lib.hid hb
          have HLT := Lib.hid hlt
          clear hs hr hb hlt hal hq hzs hfl
          gi_wp2_with (gi_at_builtin; go_loud (refine wpListIn_append_own_at _ rfl _ _ 23 rfl W.heap.size 3 i0 (.int .i64 0) 1 8 Try.underlying23 hi0 hz0 hz1 hz2 rfl (by decide) _ _ _ rfl (HR.out.alloc _) ⟨wr.heap.size, 0, none⟩ 1 1 [.int .i64 (k : Nat)] rfl rfl (cells_newL _ _ _) (numsV_one [k]) M1.out M2.out M3.out ?_); intro v' w1 hown' hgrow _ hat; obtain ⟨g', cap', rfl⟩ := ownsRow_succ hown'; have HO := Lib.hid hown'; have HG := Lib.hid hgrow; clear hown' hgrow hat)
          go_roundw
          case measure => have := HLT.out; first | (simp [intOf]; done) | (simp [intOf]; omega)
          case rel =>
            refine ⟨k + 1, by go_num, by have := HLT.out; omega, ?_, ?_⟩
            · rw [HSS.out, List.length_append, numsV_app]; exact HO.out
            · exact ((HB.out.alloc HB.out.size _).grown HG.out (by have := HB.out.size; simp; omega) (fun r e => (own_base HR.out e).1))
        · rw [if_neg (by rw [hal]; simpa using h0)] at hs
          have t1 : ((q : Int) == 0) = false := by simp; omega
          have HSS := Lib.hid hs
          have HR := Lib.hid hr
          have HB := Lib.hid hb
          have HLT := Lib.hid hlt
          clear hs hr hb hlt hal hq hzs hfl h0
          gi_wp2
          go_roundw
          case measure => have := HLT.out; first | (simp [intOf]; done) | (simp [intOf]; omega)
          case rel => exact ⟨k + 1, by go_num, by have := HLT.out; omega, by rw [HSS.out]; exact HR.out, HB.out⟩
      · obtain rfl : k = N := by omega
        have hlz : ¬ ((k : Int) < k) := by omega
        have HR := Lib.hid hr
        have HB := Lib.hid hb
        obtain ⟨pv, cv, rfl⟩ := lenL hr
        clear hr hb hlt
        gi_wp2
        have hKw : wr.heap[D]? = some (.deferred (some [])) := (HB.out.block D (Array.getElem?_eq_some_iff.1 HKK.out).1).trans HKK.out
        refine ⟨by simp, .inl ⟨_, _, rfl, run_takeDeferred hKw, ?_⟩⟩
        refine ⟨_, results_tmp2 rfl _ _ _, _, rfl, ?_, ?_⟩
        · exact World.ownsRow.mono (ownsRow_putObj HR.out _ hKw rfl) HBx.out.size
        · have hb5 : Below w.heap.size w wr := HBx.out.trans (HB.out.mono HBx.out.size)
          exact hb5.trans (belowK_b (w := w) (Nat.le_refl _) wr D _ _ (by omega) hKw rfl rfl)
  case stop =>
    rintro D c pre W _ _ h _
    exact h.elim

set_option maxRecDepth 100000 in
set_option maxHeartbeats 1000000 in
theorem alone_pro (l : List Rf) (v : Value) (n : Int) (w : World) (hv : RdR w v l) (hl : l.length ≤ 140737488355328) :
    Calls Try.prog 13 #[v, .int .i64 n] w (NewL (if lookE l.length n [] = 0 then aloneM l n.toNat else []) (lookE l.length n []) w) := by
  by_cases h0 : lookE l.length n [] = 0
  · rw [if_pos h0, h0]
    obtain ⟨h1, N, rfl, h2⟩ := lookE_nil h0
    exact callsIn_wide.1 (alone_yes l v N w hv h1 h2 h0)
  · rw [if_neg h0]
    obtain ⟨pa, cap, rfl, hcl, hcm⟩ := hv.form
    have hq := look_pro w pa l.length cap n (.slice none 0 0) [] (rdZ_nil w) (by simp) hl
    obtain ⟨er, her⟩ : ∃ er, lookE l.length n [] = er := ⟨_, rfl⟩
    rw [her] at h0 hq ⊢
    have HQ := Lib.hid hq
    have t1 : (er != 0) = true := by simpa using h0
    clear hv hl hq h0 her hcl hcm
    go_enter Try.func13, Try.ntmps13
    go_wp2_with fail
    refine HQ.out.mono ?_
    rintro e w1 ⟨rfl, rfl⟩
    go_wp2_with fail
    go_ret2
    exact NewL.none _ _ _ (Below.refl _ w)
end Go.Proofs.Ytjgcbobalmmjkaa
