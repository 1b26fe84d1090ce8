/- Layer 10: the program's Kids. -/
import Derived.Test.YtjnnkelbedmccaaTog
import Derived.Lib.QuietBelow
import Derived.Maps.OwnIn
import Derived.Maps.AppendAt
import Derived.Deep.Onto
namespace Go.Proofs.Ytjnnkelbedmccaa
open Go.RowKit Go.Shelf
set_option linter.unusedVariables false

attribute [local go_sem] Oper.semAt_some

/-- A new list, and an error's number. -/
def NewZ (zs : List Int) (er : Int) (w : World) (e : Ending) (w' : World) : Prop :=
  ∃ v, e = .returned (.tuple #[v, .int .i64 er]) ∧ w'.ownsRow w.heap.size 3 1 v zs.length (numsZ zs) ∧ Below w.heap.size w w'
theorem NewZ.none (er : Int) (w w' : World) (h : Below w.heap.size w w') : NewZ [] er w (.returned (.tuple #[.slice none 0 0, .int .i64 er])) w' := ⟨_, rfl, World.ownsRow_nil _ _ _ _, h⟩
theorem keeps_belowL {W W' : World} (h : Below W.heap.size W W') : KeepsOthers W W' := ⟨h.size, fun k o hk _ => (h.block k (Array.getElem?_eq_some_iff.1 hk).1).trans hk⟩
/-- What a loop that gathers numbers of entries holds between two rounds. -/
def GatR (B b1 b2 : Nat) (lv : Value) (N : Int) (W0 : World) {α : Type} (g : α → List Int) (pre : α) (W : World) : Prop :=
  (∃ v, Boxed W B 28 v ∧ W.ownsRow B 3 1 v (g pre).length (numsZ (g pre)) ∧ v.ownBlock ≠ some b2) ∧ Boxed W b1 34 lv ∧ Boxed W b2 3 (.int .i64 N) ∧ Below B W0 W
theorem GatR.own {B b1 b2 : Nat} {lv : Value} {N : Int} {W0 : World} {α : Type} {g : α → List Int} {D : Nat} (hBD : B ≤ D) (hs : B ≤ W0.heap.size) : OwnFrom D (GatR B b1 b2 lv N W0 g) :=
  OwnFrom.and (Own.from (holdsRow_own B B 28 3 1 (fun s => (g s).length) (fun s => numsZ (g s)) (fun _ v => v.ownBlock ≠ some b2)) _) (OwnFrom.and (Own.from (boxed_own b1 34 (fun _ => lv)) _) (OwnFrom.and (Own.from (boxed_own b2 3 (fun _ => .int .i64 N)) _) (ownFrom_below hs hBD)))
theorem GatR.below {B b1 b2 : Nat} {lv : Value} {N : Int} {W0 : World} {α : Type} {g : α → List Int} {pre : α} {W W' : World} (h : GatR B b1 b2 lv N W0 g pre W) (hb : Below W.heap.size W W') : GatR B b1 b2 lv N W0 g pre W' := by
  obtain ⟨⟨v, h1, h2, h5⟩, h3, h4, h6⟩ := h
  exact ⟨⟨v, Boxed.belowL h1 hb, own_stays h2 fun c e => hb.block c (own_base h2 e).2, h5⟩, Boxed.belowL h3 hb, Boxed.belowL h4 hb, h6.trans (hb.mono (Nat.le_of_lt h1.lt))⟩
/-- What a round has kept that appends to the list in a box. -/
theorem kpR_append {B b1 b2 : Nat} {W w1 : World} {lv v v' : Value} {N : Int} {k m : Nat} {xs ys : List Value} {o : Obj} (hv : Boxed W B 28 v) (h1 : Boxed W b1 34 lv) (h2 : Boxed W b2 3 (.int .i64 N)) (hne : v.ownBlock ≠ some b2) (hrow : W.ownsRow B 3 1 v k xs)
    (hBW : B ≤ W.heap.size) (hB1 : B < b1) (hB2 : B < b2) (hown' : w1.ownsRow B 3 1 v' m ys) (hgrow : (W.alloc o).grownBy w1 v.ownBlock) (hat : v'.ownBlock = v.ownBlock ∨ v'.ownBlock = some (W.alloc o).heap.size) :
    KpR B b1 b2 W (w1.setCell ⟨B, 0, none⟩ v') ∧ Boxed (w1.setCell ⟨B, 0, none⟩ v') b1 34 lv ∧ Boxed (w1.setCell ⟨B, 0, none⟩ v') b2 3 (.int .i64 N) ∧ v'.ownBlock ≠ some b2 := by
  obtain ⟨_, _, _, _, h5⟩ := hv.appended (by decide) hrow hBW (Nat.le_refl _) hown' hgrow
  have g1 : Boxed (w1.setCell ⟨B, 0, none⟩ v') b1 34 lv := (Below.heap_setCell _ _ _ _ (by show b1 ≠ B; omega)).trans ((h1.alloc o).kept hgrow (h1.not_row (by decide) hrow))
  have g2 : Boxed (w1.setCell ⟨B, 0, none⟩ v') b2 3 (.int .i64 N) := (Below.heap_setCell _ _ _ _ (by show b2 ≠ B; omega)).trans ((h2.alloc o).kept hgrow hne.symm)
  refine ⟨⟨h5, fun u hu => ?_, fun u hu => ?_⟩, g1, g2, ?_⟩
  · rw [h1.cell] at hu; cases hu; exact g1.cell
  · rw [h2.cell] at hu; cases hu; exact g2.cell
  · rcases hat with h | h
    · rw [h]; exact hne
    · rw [h]
      intro e
      have := h2.lt
      injection e with e
      simp at e
      omega
/-- A region that draws its order, in a round of a loop over an iterator, whose calls lay new blocks alone. -/
theorem region_inRound_below {P : Program} {Q : Exit → Act → World → Prop} {l n id : Nat} {l0 : List Oper} {a : Act} {w : World} (hm : P.follows .mixedOrders = true) (hd : (l0.all fun o => match o.op with | .defer _ => false | _ => true) = true)
    (hB : Region.lexB .any l0.toArray = true)
    (h : wpQuiet P l0.toArray (fun w' => ∃ p : Regrown, w' = Sort.grow (redrawn w p.d) p.os) (fun a' => ∀ w', (∃ p : Regrown, w' = Sort.grow (redrawn w p.d) p.os) → Q .normal a' w') l0 a) :
    (Code.region id l0.toArray true).wpIn (Fence.wide.inRound l) n P Q a w := by
  refine region_inRound hm hd ?_
  simp only [Region.lexB, Bool.and_eq_true] at hB
  refine wpAny_of_quiet (C := fun w' => ∃ p : Regrown, w' = Sort.grow (redrawn w p.d) p.os) (Q := fun a' => ∀ w', (∃ p : Regrown, w' = Sort.grow (redrawn w p.d) p.os) → Q .normal a' w') (Q' := Just Q) (fun _ w' hw' h => h w' hw') _ _ _ _ (show ∃ p : Regrown, w.drew = Sort.grow (redrawn w p.d) p.os from ⟨⟨w.drawn + 1, #[]⟩, (Sort.grow_empty _).symm⟩) ?_
  have := wpAnyQ_lex (C := fun w' => ∃ p : Regrown, w' = Sort.grow (redrawn w p.d) p.os) (md := .any) hB.1 l0 0 (Array.replicate l0.toArray.size false) a (by simp) (by simpa using hB.2) (by simpa using h)
  simpa using this
/-- The kids among some places. -/
def kidF (l : List Ent) (u : Int) {n : Nat} (pre : List (Pl n)) : List Int := natZ ((pre.map Pl.k).filter fun k => decide (lvN l k = u + 1))
theorem kidF_snoc (l : List Ent) (u : Int) {n : Nat} (pre : List (Pl n)) (x : Pl n) : kidF l u (pre ++ [x]) = if decide (lvN l x.k = u + 1) = true then kidF l u pre ++ [(x.k : Int)] else kidF l u pre := by
  unfold kidF
  rw [List.map_append, List.filter_append]
  by_cases h : lvN l x.k = u + 1 <;> simp [h, natZ]
theorem kidF_len (l : List Ent) (u : Int) {n : Nat} (pre : List (Pl n)) : (kidF l u pre).length ≤ pre.length := by
  unfold kidF
  rw [natZ_len]
  exact Nat.le_trans (List.length_filter_le _ _) (by simp)
theorem kidF_all {l : List Ent} (g : Gd l) {i : Int} (h0 : -1 ≤ i) (hi : i < l.length) : kidF l (lvI l i) (seqB l i) = natZ (kidsM l i) := by
  unfold kidF kidsM
  rw [seqB_ks hi]
  congr 1
  have hin := blw_in l (lvI l i) (i + 1).toNat (by omega)
  obtain ⟨s, hs⟩ : ∃ s, (i + 1).toNat = s := ⟨_, rfl⟩
  obtain ⟨m, hm⟩ : ∃ m, blw l (lvI l i) s = m := ⟨_, rfl⟩
  rw [hs] at hin ⊢
  rw [hm] at hin ⊢
  have e1 : List.range l.length = List.range' 0 s ++ (List.range' s m ++ List.range' (s + m) (l.length - (s + m))) := by
    have h1 := List.range'_append_1 (s := s) (m := m) (n := l.length - (s + m))
    have h2 := List.range'_append_1 (s := 0) (m := s) (n := m + (l.length - (s + m)))
    rw [h1, List.range_eq_range']
    rw [Nat.zero_add] at h2
    rw [h2]
    congr 1
    omega
  have hk : ∀ k, k < l.length → (abv l k = i ↔ (s ≤ k ∧ k < s + m) ∧ lvN l k = lvI l i + 1) := fun k hk => by
    rw [kid_iff g h0 hi hk, under_blw h0 hi hk, hs, hm]
    constructor
    · rintro ⟨⟨h1, h2⟩, h3⟩; exact ⟨⟨by omega, h2⟩, h3⟩
    · rintro ⟨⟨h1, h2⟩, h3⟩; exact ⟨⟨by omega, h2⟩, h3⟩
  rw [e1, List.filter_append, List.filter_append]
  have f1 : (List.range' 0 s).filter (fun k => decide (abv l k = i)) = [] := List.filter_eq_nil_iff.2 fun k hkm => by
    have := List.mem_range'_1.1 hkm
    simp only [decide_eq_true_eq, hk k (by omega)]
    omega
  have f3 : (List.range' (s + m) (l.length - (s + m))).filter (fun k => decide (abv l k = i)) = [] := List.filter_eq_nil_iff.2 fun k hkm => by
    have := List.mem_range'_1.1 hkm
    simp only [decide_eq_true_eq, hk k (by omega)]
    omega
  rw [f1, f3, List.nil_append, List.append_nil]
  refine List.filter_congr fun k hkm => ?_
  have := List.mem_range'_1.1 hkm
  have h2 := hk k (by omega)
  by_cases e : lvN l k = lvI l i + 1
  · rw [decide_eq_true e, decide_eq_true (h2.2 ⟨by omega, e⟩)]
  · rw [decide_eq_false e, decide_eq_false (fun h => e (h2.1 h).2)]
set_option maxRecDepth 100000 in
set_option maxHeartbeats 4000000 in
theorem kids_yes (l : List Ent) (v : Value) (i : Int) (w : World) (hv : RdE w v l) (g : Gd l) (hg : gdE l = 0) (hi0 : -1 ≤ i) (hi : i < l.length) :
    CallsIn Fence.wide 12 Try.prog 23 #[v, .int .i64 i] w (NewZ (natZ (kidsM l i)) 0 w) := by
  have hf0 : Fence.wide.fn 52 := trivial
  have hf1 : Fence.wide.fn 50 := trivial
  have hf2 : Fence.wide.fn 61 := trivial
  have hf3 : Fence.wide.fn 53 := trivial
  obtain ⟨i0, ei0, hz0, hz1, hz2⟩ := info_parts infoI
  have hA0 : Below w.heap.size w ((w.alloc (.cells #[v] 34)).alloc (.cells #[.int .i64 i] 3)) := ((Below.refl _ w).alloc (Nat.le_refl _) _).alloc (by simp) _
  have hq := may_pro l v _ (hv.below hA0)
  obtain ⟨pa, cap, rfl, hcl, hcm⟩ := hv.form
  have HV := Lib.hid hv
  have HG := Lib.hid g
  have HI := Lib.hid hi
  have HI0 := Lib.hid hi0
  have HL := Lib.hid g.len
  rw [hg] at hq
  have HQ := Lib.hid hq
  have bT := (Boxed.new w 34 (.slice pa l.length cap)).alloc (.cells #[.int .i64 i] 3)
  have bI := Boxed.new (w.alloc (.cells #[.slice pa l.length cap] 34)) 3 (.int .i64 i)
  simp only [World.size_alloc] at bI
  have HT0 := Lib.hid bT
  have HI1 := Lib.hid bI
  have HA0 := Lib.hid hA0
  have HEN := Lib.hid (show i ≠ -1 → ∀ w', Calls Try.prog 53 #[.slice pa l.length cap, .int .i64 i] w' fun e w'' => e = .returned (.bool true) ∧ w' = w'' from fun h w' => by
    have := entry_pro pa l.length cap i w'
    rw [decide_eq_true (show 0 ≤ i ∧ i < (l.length : Int) by omega)] at this
    exact this)
  have hrem : i = -1 ∨ ¬ i = -1 := by omega
  clear hv hq hcl hcm g hg bT bI hA0 hi hi0
  rcases hrem with rfl | hne
  · skip
    refine callsIn_of_wp_marks Try.func23 rfl trivial ?_ rfl
    simp only [Try.ntmps23, List.size_toArray, List.length_cons, List.length_nil, Nat.reduceAdd, Nat.reduceSub, Array.replicate_succ, Array.replicate_zero, List.push_toArray, List.append_toArray, List.nil_append, List.cons_append]
    gi_wp2_with (first | (gi_at_call 52; (with_reducible refine (callsIn_wide.2 HQ.out).mono ?_); rintro e w1 ⟨rfl, hb1⟩; have HB1 := Lib.hid hb1; have cT := (hb1.cell (p := ⟨w.heap.size, 0, none⟩) (by simp; omega)).trans HT0.out.cell; have cI := (hb1.cell (p := ⟨w.heap.size + 1, 0, none⟩) (by simp)).trans HI1.out.cell; have hwl : w.heap.size + 1 < w1.heap.size := cellInL cI; have hwl0 : w.heap.size < w1.heap.size := cellInL cT; clear hb1))
    refine (below_in 11 _ _ _ _ _).mono ?_
    rintro e w3 ⟨rfl, rfl⟩
    gi_wp2_with fail
    have hS1 := HB1.out.size
    have bE := ((Boxed.new w1 28 (.slice none 0 0)).alloc (.cells #[.slice pa l.length cap] 34)).alloc (.cells #[.int .i64 (-1)] 3)
    have bL := (Boxed.new (w1.alloc (.cells #[.slice none 0 0] 28)) 34 (.slice pa l.length cap)).alloc (.cells #[.int .i64 (-1)] 3)
    have bN := Boxed.new ((w1.alloc (.cells #[.slice none 0 0] 28)).alloc (.cells #[.slice pa l.length cap] 34)) 3 (.int .i64 (-1))
    simp only [World.size_alloc] at bE bL bN
    have hA : Below w1.heap.size w1 (((w1.alloc (.cells #[.slice none 0 0] 28)).alloc (.cells #[.slice pa l.length cap] 34)).alloc (.cells #[.int .i64 (-1)] 3)) := (((Below.refl _ w1).alloc (Nat.le_refl _) _).alloc (by simp) _).alloc (by simp; omega) _
    have hsz : (((w1.alloc (.cells #[.slice none 0 0] 28)).alloc (.cells #[.slice pa l.length cap] 34)).alloc (.cells #[.int .i64 (-1)] 3)).heap.size = w1.heap.size + 3 := by simp
    obtain ⟨W0, hW0⟩ : ∃ W0, ((w1.alloc (.cells #[.slice none 0 0] 28)).alloc (.cells #[.slice pa l.length cap] 34)).alloc (.cells #[.int .i64 (-1)] 3) = W0 := ⟨_, rfl⟩
    rw [hW0] at bE bL bN hA hsz ⊢
    have HA := Lib.hid hA
    have HBw := Lib.hid (HA0.out.trans (HB1.out.mono HA0.out.size))
    have HV1 := Lib.hid (HV.out.below HBw.out)
    have HCT := Lib.hid cT
    have HCI := Lib.hid cI
    clear hW0 hA cT cI
    obtain ⟨S, hS⟩ : ∃ S, w1.heap.size = S := ⟨_, rfl⟩
    have HS := Lib.hid hS
    rw [hS] at bE bL bN hsz HA hS1 hwl hwl0 ⊢
    have hS2 : w.heap.size ≤ S := by omega
    clear hS
    have bN' : Boxed W0 (S + 2) 3 (.int .i64 (-1)) := bN
    refine wpIn_rangeFunc_ownH rfl (by omega) (gf := 61) (lb := #[.pointer (some ⟨S + 1, 0, none⟩), .pointer (some ⟨S + 1 + 1, 0, none⟩)]) rfl trivial (enters_of Try.func61 (by kernel_rfl) rfl)
      (below_stops (12 - 1) (by omega) (S + 1) (S + 2) S (.slice pa l.length cap) l (-1) HG.out.len HI0.out HI.out w1 HV1.out (by rw [HS.out]; exact Nat.le_refl _) W0 HA.out (by omega) bL.cell bN'.cell) KpR.t (fun W l o o' hl h hc hw => KpR.put W l o o' (by omega) h hc hw) (Below.refl _ _) (fun _ => rfl)
      (GatR S (S + 1) (S + 2) (.slice pa l.length cap) (-1) W0 (fun pre : List (Pl l.length) => kidF l (lvI l (-1)) pre))
      (fun _ _ _ => False)
      (GatR.own (by omega) (by omega))
      (fun _ _ _ _ _ hs _ _ => hs)
      ⟨⟨_, bE, World.ownsRow_nil _ _ _ _, by simp [Value.ownBlock]⟩, bL, bN', Below.refl _ _⟩
      (fun x a' W => a' = { tmps := #[.slice pa l.length cap, .int .i64 (-1), .pointer (some ⟨w.heap.size, 0, none⟩), .pointer (some ⟨w.heap.size + 1, 0, none⟩), .slice none 0 0, .int .i64 0, .int .i64 0, .pointer (some ⟨S, 0, none⟩), encP x, .slice pa l.length cap, .int .i64 0, .int .i64 0, .bool false, undef, .int .i64 (-1), .bool false, .bool false, undef, undef, undef, undef, .bool false, .slice pa l.length cap, .int .i64 (-1), .func (.func 61) #[] #[.pointer (some ⟨S + 1, 0, none⟩), .pointer (some ⟨S + 1 + 1, 0, none⟩)], encP x, undef, undef, undef, undef, undef, undef, undef, undef, undef, undef, undef, undef, undef, undef, undef], defers := [] })
      (fun x a' s X Y row hs hg hr => hs)
      ?assign ?body ?done ?stop
    case assign =>
      rintro l' pre x W K hI hK
      have HK := Lib.hid (hK (a' := _) _ ((KeepsOthers.refl _).from _) (KpR.refl _ _ _ _) hI rfl)
      clear hK hI
      gi_wp2
      first | exact HK.out | (simp; exact HK.out)
    case body =>
      rintro l' pre x a' W hl ⟨r, hr⟩ hI rfl hlt
      obtain ⟨xk, hxk⟩ := x
      have hBW : Below S w1 W := HA.out.trans hI.2.2.2
      have d0 := (hBW.cell (p := ⟨w.heap.size, 0, none⟩) (by show w.heap.size < _; omega)).trans HCT.out
      have d1 := (hBW.cell (p := ⟨w.heap.size + 1, 0, none⟩) (by show w.heap.size + 1 < _; omega)).trans HCI.out
      have hRW := HV1.out.below' hBW (by rw [HS.out]; exact Nat.le_refl _)
      obtain ⟨b, off, hpa, c0, c1⟩ := hRW.cell (j := xk) hxk
      have HKS := Lib.hid (kidF_snoc l (lvI l (-1)) pre ⟨xk, hxk⟩)
      obtain ⟨u, hu⟩ : ∃ u, lvI l (-1) = u := ⟨_, rfl⟩
      obtain ⟨q, hq⟩ : ∃ q, lvN l xk = q := ⟨_, rfl⟩
      have hu8 : 0 ≤ u ∧ u ≤ 8 := by
        rw [← hu]
        unfold lvI
        split
        · omega
        · have := HG.out.lv ((-1) : Int).toNat (by have := HI.out; omega); omega
      have cQ : ∀ d os, Calls Try.prog 54 #[.slice pa l.length cap, .int .i64 (-1)] (Sort.grow (redrawn W d) os) fun e w'' => e = .returned (.int .i64 u) ∧ ∃ p : Regrown, w'' = Sort.grow (redrawn W p.d) p.os :=
        fun d os => Calls.regrown_of ((level_pro l _ (-1) _ (hRW.below (below_regrown W d os)) HI0.out HI.out).mono fun _ _ ⟨h1, h2⟩ => ⟨by rw [h1, hu], by rw [← h2]; exact Below.refl _ _⟩)
      rw [hu] at HKS
      rw [hq] at c1
      simp only [hq] at HKS
      have k0 := cell_regrown d0
      have k1 := cell_regrown d1
      have k2 := cell_regrown c1
      have hxz : (xk : Int) < l.length := by omega
      have hl9 := HL.out
      have hbl := blw_in l (lvI l (-1)) (((-1) : Int) + 1).toNat (by have := HI.out; omega)
      have hsl := seqB_len (l := l) (i := (-1)) HI.out
      have hkl := kidF_len l u pre
      have hfl : (kidF l u pre).length ≤ 1000 := by omega
      have HFL := Lib.hid hfl
      have HIH := Lib.hid hI
      have HU := Lib.hid hu
      subst hpa
      clear hI hBW d0 d1 hRW c0 c1 hr hlt hbl hsl hkl hfl hu hq
      unfold encP
      gi_wp2
      refine region_inRound_below (by kernel_rfl) (by kernel_rfl) (by kernel_rfl) ?_
      repeat (quiet_step (first | exact cQ _ _))
      refine wpQuiet_nil ?_
      intro _ hw'
      obtain ⟨⟨dq, osq⟩, hw''⟩ := hw'
      subst hw''
      clear k0 k1 k2 cQ
      have hWq := below_regrown W dq osq
      obtain ⟨Wq, hWe⟩ : ∃ Wq, Sort.grow (redrawn W dq) osq = Wq := ⟨_, rfl⟩
      rw [hWe] at hWq ⊢
      have HWQ := Lib.hid hWq
      have HIQ := Lib.hid (HIH.out.below hWq)
      clear hWe hWq
      have hSW : S + 3 ≤ W.heap.size := by have := HIH.out.2.2.2.size; omega
      have hwr : IntKind.i64.wrap (u + 1) = u + 1 := IntWalk.i64_in _ (by omega)
      by_cases he : q = u + 1
      · have t1 : (q == u + 1) = true := by simp [he]
        have t2 : (q == IntKind.i64.wrap (u + 1)) = true := by rw [hwr]; exact t1
        have HKS2 := Lib.hid (show kidF l u (pre ++ [⟨xk, hxk⟩]) = kidF l u pre ++ [(xk : Int)] by rw [HKS.out, if_pos (by simp [he])])
        obtain ⟨⟨v, bV1, hr1, hne⟩, bL1, bN1, hB1⟩ := HIQ.out
        dsimp only at hr1
        rw [HU.out] at hr1
        have cV := bV1.cell
        have fV := bV1.frozen
        have M1 := Lib.hid (show (kidF l u pre).length + 1 ≤ maxLen by have := HFL.out; unfold maxLen; omega)
        have M2 := Lib.hid (show ((kidF l u pre).length + 1) * 8 ≤ 140737488355328 by have := HFL.out; omega)
        have M3 := Lib.hid (show S ≤ (Wq.alloc (.cells #[.int .i64 (xk : Nat)] 3)).heap.size by have := bV1.lt; simp; omega)
        have HR := Lib.hid hr1
        have HB := Lib.hid hB1
        have HBV := Lib.hid bV1
        have HBL := Lib.hid bL1
        have HBN := Lib.hid bN1
        have HNE := Lib.hid hne
        have hWq3 : S + 2 < Wq.heap.size := bN1.lt
        clear he hwr hr1 hB1 bV1 bL1 bN1 hne
        gi_wp2_with (gi_at_builtin; go_loud (refine wpListIn_append_own_at _ rfl _ _ 28 rfl S 3 i0 (.int .i64 0) 1 8 Try.underlying28 ei0 hz0 hz1 hz2 rfl (by decide) _ _ _ rfl (HR.out.alloc _) ⟨Wq.heap.size, 0, none⟩ 1 1 [.int .i64 (xk : Nat)] rfl rfl (cells_newL _ _ _) (numsZ_one [(xk : Int)]) M1.out M2.out M3.out ?_); intro v' w1x hown' hgrow _ hat; obtain ⟨g', cap', rfl⟩ := ownsRow_succ hown'; have hE := kpR_append HBV.out HBL.out HBN.out HNE.out HR.out (by omega) (by omega) (by omega) hown' hgrow hat; obtain ⟨hv1, hv2, hr2, hk2, hb2⟩ := HBV.out.appended (by decide) HR.out (by omega) (Nat.le_refl _) hown' hgrow; have hc1 := hv1.cell; have hf1 := hv1.frozen; have HE := Lib.hid hE; have HV2' := Lib.hid hv2; have HR2 := Lib.hid hr2; have HK2 := Lib.hid hk2; have HB2' := Lib.hid hb2; clear hE hv2 hr2 hk2 hb2 hown' hgrow hat)
        refine ⟨((keeps_belowL HWQ.out).trans HK2.out).from _, KpR.t (KpR.of_below HWQ.out (by omega)) HE.out.1, ⟨_, HV2'.out, ?_, HE.out.2.2.2⟩, HE.out.2.1, HE.out.2.2.1, HB.out.trans HB2'.out⟩
        have h9 := HR2.out
        dsimp only
        rw [HU.out, HKS2.out, List.length_append, numsZ_app]
        exact h9
      · have t1 : (q == u + 1) = false := by simpa using he
        have t2 : (q == IntKind.i64.wrap (u + 1)) = false := by rw [hwr]; exact t1
        have HKS2 := Lib.hid (show kidF l u (pre ++ [⟨xk, hxk⟩]) = kidF l u pre by rw [HKS.out, if_neg (by simp [he])])
        clear he hwr
        gi_wp2
        refine ⟨(keeps_belowL HWQ.out).from _, KpR.of_below HWQ.out (by omega), ?_⟩
        have h9 := HIQ.out
        unfold GatR at h9 ⊢
        dsimp only at h9 ⊢
        rw [HU.out] at h9 ⊢
        rw [HKS2.out]
        exact h9
    case done =>
      rintro D ys W hD rfl ⟨⟨v, bV1, hr1, hne⟩, bL1, bN1, hB1⟩ hK
      have cV := bV1.cell
      dsimp only at hr1
      rw [kidF_all HG.out HI0.out HI.out] at hr1
      have HR := Lib.hid hr1
      have HBx := Lib.hid (HBw.out.trans ((HA.out.trans hB1).mono (by have := HBw.out.size; omega)))
      have HKK := Lib.hid hK
      clear hr1 hB1 hne hK bL1 bN1
      gi_wp2
      refine ⟨by simp, .inl ⟨_, _, rfl, run_takeDeferred HKK.out, ?_⟩⟩
      exact ⟨_, results_tmp2 rfl _ _ _, v, rfl, World.ownsRow.mono (ownsRow_putObj HR.out _ HKK.out rfl) hS2, HBx.out.trans (belowK_b (w := w) (Nat.le_refl _) W D _ _ (by omega) HKK.out rfl rfl)⟩
    case stop =>
      rintro D c pre W _ _ h _
      exact h.elim
  · skip
    refine callsIn_of_wp_marks Try.func23 rfl trivial ?_ rfl
    simp only [Try.ntmps23, List.size_toArray, List.length_cons, List.length_nil, Nat.reduceAdd, Nat.reduceSub, Array.replicate_succ, Array.replicate_zero, List.push_toArray, List.append_toArray, List.nil_append, List.cons_append]
    gi_wp2_with (first | (gi_at_call 52; (with_reducible refine (callsIn_wide.2 HQ.out).mono ?_); rintro e w1 ⟨rfl, hb1⟩; have HB1 := Lib.hid hb1; have cT := (hb1.cell (p := ⟨w.heap.size, 0, none⟩) (by simp; omega)).trans HT0.out.cell; have cI := (hb1.cell (p := ⟨w.heap.size + 1, 0, none⟩) (by simp)).trans HI1.out.cell; have hwl : w.heap.size + 1 < w1.heap.size := cellInL cI; have hwl0 : w.heap.size < w1.heap.size := cellInL cT; clear hb1) | (gi_at_call 53; (with_reducible refine (callsIn_wide.2 (HEN.out hne _)).mono ?_); rintro e w2 ⟨rfl, rfl⟩))
    refine (below_in 11 _ _ _ _ _).mono ?_
    rintro e w3 ⟨rfl, rfl⟩
    gi_wp2_with fail
    have hS1 := HB1.out.size
    have bE := ((Boxed.new w1 28 (.slice none 0 0)).alloc (.cells #[.slice pa l.length cap] 34)).alloc (.cells #[.int .i64 i] 3)
    have bL := (Boxed.new (w1.alloc (.cells #[.slice none 0 0] 28)) 34 (.slice pa l.length cap)).alloc (.cells #[.int .i64 i] 3)
    have bN := Boxed.new ((w1.alloc (.cells #[.slice none 0 0] 28)).alloc (.cells #[.slice pa l.length cap] 34)) 3 (.int .i64 i)
    simp only [World.size_alloc] at bE bL bN
    have hA : Below w1.heap.size w1 (((w1.alloc (.cells #[.slice none 0 0] 28)).alloc (.cells #[.slice pa l.length cap] 34)).alloc (.cells #[.int .i64 i] 3)) := (((Below.refl _ w1).alloc (Nat.le_refl _) _).alloc (by simp) _).alloc (by simp; omega) _
    have hsz : (((w1.alloc (.cells #[.slice none 0 0] 28)).alloc (.cells #[.slice pa l.length cap] 34)).alloc (.cells #[.int .i64 i] 3)).heap.size = w1.heap.size + 3 := by simp
    obtain ⟨W0, hW0⟩ : ∃ W0, ((w1.alloc (.cells #[.slice none 0 0] 28)).alloc (.cells #[.slice pa l.length cap] 34)).alloc (.cells #[.int .i64 i] 3) = W0 := ⟨_, rfl⟩
    rw [hW0] at bE bL bN hA hsz ⊢
    have HA := Lib.hid hA
    have HBw := Lib.hid (HA0.out.trans (HB1.out.mono HA0.out.size))
    have HV1 := Lib.hid (HV.out.below HBw.out)
    have HCT := Lib.hid cT
    have HCI := Lib.hid cI
    clear hW0 hA cT cI
    obtain ⟨S, hS⟩ : ∃ S, w1.heap.size = S := ⟨_, rfl⟩
    have HS := Lib.hid hS
    rw [hS] at bE bL bN hsz HA hS1 hwl hwl0 ⊢
    have hS2 : w.heap.size ≤ S := by omega
    clear hS
    have bN' : Boxed W0 (S + 2) 3 (.int .i64 i) := bN
    refine wpIn_rangeFunc_ownH rfl (by omega) (gf := 61) (lb := #[.pointer (some ⟨S + 1, 0, none⟩), .pointer (some ⟨S + 1 + 1, 0, none⟩)]) rfl trivial (enters_of Try.func61 (by kernel_rfl) rfl)
      (below_stops (12 - 1) (by omega) (S + 1) (S + 2) S (.slice pa l.length cap) l i HG.out.len HI0.out HI.out w1 HV1.out (by rw [HS.out]; exact Nat.le_refl _) W0 HA.out (by omega) bL.cell bN'.cell) KpR.t (fun W l o o' hl h hc hw => KpR.put W l o o' (by omega) h hc hw) (Below.refl _ _) (fun _ => rfl)
      (GatR S (S + 1) (S + 2) (.slice pa l.length cap) i W0 (fun pre : List (Pl l.length) => kidF l (lvI l i) pre))
      (fun _ _ _ => False)
      (GatR.own (by omega) (by omega))
      (fun _ _ _ _ _ hs _ _ => hs)
      ⟨⟨_, bE, World.ownsRow_nil _ _ _ _, by simp [Value.ownBlock]⟩, bL, bN', Below.refl _ _⟩
      (fun x a' W => a' = { tmps := #[.slice pa l.length cap, .int .i64 i, .pointer (some ⟨w.heap.size, 0, none⟩), .pointer (some ⟨w.heap.size + 1, 0, none⟩), .slice none 0 0, .int .i64 0, .int .i64 0, .pointer (some ⟨S, 0, none⟩), encP x, .slice pa l.length cap, .int .i64 0, .int .i64 0, .bool false, undef, .int .i64 i, .bool (i != -1), .bool (i != -1), .slice pa l.length cap, .int .i64 i, .bool true, .bool false, .bool false, .slice pa l.length cap, .int .i64 i, .func (.func 61) #[] #[.pointer (some ⟨S + 1, 0, none⟩), .pointer (some ⟨S + 1 + 1, 0, none⟩)], encP x, undef, undef, undef, undef, undef, undef, undef, undef, undef, undef, undef, undef, undef, undef, undef], defers := [] })
      (fun x a' s X Y row hs hg hr => hs)
      ?assign ?body ?done ?stop
    case assign =>
      rintro l' pre x W K hI hK
      have HK := Lib.hid (hK (a' := _) _ ((KeepsOthers.refl _).from _) (KpR.refl _ _ _ _) hI rfl)
      clear hK hI
      gi_wp2
      first | exact HK.out | (simp; exact HK.out)
    case body =>
      rintro l' pre x a' W hl ⟨r, hr⟩ hI rfl hlt
      obtain ⟨xk, hxk⟩ := x
      have hBW : Below S w1 W := HA.out.trans hI.2.2.2
      have d0 := (hBW.cell (p := ⟨w.heap.size, 0, none⟩) (by show w.heap.size < _; omega)).trans HCT.out
      have d1 := (hBW.cell (p := ⟨w.heap.size + 1, 0, none⟩) (by show w.heap.size + 1 < _; omega)).trans HCI.out
      have hRW := HV1.out.below' hBW (by rw [HS.out]; exact Nat.le_refl _)
      obtain ⟨b, off, hpa, c0, c1⟩ := hRW.cell (j := xk) hxk
      have HKS := Lib.hid (kidF_snoc l (lvI l i) pre ⟨xk, hxk⟩)
      obtain ⟨u, hu⟩ : ∃ u, lvI l i = u := ⟨_, rfl⟩
      obtain ⟨q, hq⟩ : ∃ q, lvN l xk = q := ⟨_, rfl⟩
      have hu8 : 0 ≤ u ∧ u ≤ 8 := by
        rw [← hu]
        unfold lvI
        split
        · omega
        · have := HG.out.lv (i : Int).toNat (by have := HI.out; omega); omega
      have cQ : ∀ d os, Calls Try.prog 54 #[.slice pa l.length cap, .int .i64 i] (Sort.grow (redrawn W d) os) fun e w'' => e = .returned (.int .i64 u) ∧ ∃ p : Regrown, w'' = Sort.grow (redrawn W p.d) p.os :=
        fun d os => Calls.regrown_of ((level_pro l _ i _ (hRW.below (below_regrown W d os)) HI0.out HI.out).mono fun _ _ ⟨h1, h2⟩ => ⟨by rw [h1, hu], by rw [← h2]; exact Below.refl _ _⟩)
      rw [hu] at HKS
      rw [hq] at c1
      simp only [hq] at HKS
      have k0 := cell_regrown d0
      have k1 := cell_regrown d1
      have k2 := cell_regrown c1
      have hxz : (xk : Int) < l.length := by omega
      have hl9 := HL.out
      have hbl := blw_in l (lvI l i) ((i : Int) + 1).toNat (by have := HI.out; omega)
      have hsl := seqB_len (l := l) (i := i) HI.out
      have hkl := kidF_len l u pre
      have hfl : (kidF l u pre).length ≤ 1000 := by omega
      have HFL := Lib.hid hfl
      have HIH := Lib.hid hI
      have HU := Lib.hid hu
      subst hpa
      clear hI hBW d0 d1 hRW c0 c1 hr hlt hbl hsl hkl hfl hu hq
      unfold encP
      gi_wp2
      refine region_inRound_below (by kernel_rfl) (by kernel_rfl) (by kernel_rfl) ?_
      repeat (quiet_step (first | exact cQ _ _))
      refine wpQuiet_nil ?_
      intro _ hw'
      obtain ⟨⟨dq, osq⟩, hw''⟩ := hw'
      subst hw''
      clear k0 k1 k2 cQ
      have hWq := below_regrown W dq osq
      obtain ⟨Wq, hWe⟩ : ∃ Wq, Sort.grow (redrawn W dq) osq = Wq := ⟨_, rfl⟩
      rw [hWe] at hWq ⊢
      have HWQ := Lib.hid hWq
      have HIQ := Lib.hid (HIH.out.below hWq)
      clear hWe hWq
      have hSW : S + 3 ≤ W.heap.size := by have := HIH.out.2.2.2.size; omega
      have hwr : IntKind.i64.wrap (u + 1) = u + 1 := IntWalk.i64_in _ (by omega)
      by_cases he : q = u + 1
      · have t1 : (q == u + 1) = true := by simp [he]
        have t2 : (q == IntKind.i64.wrap (u + 1)) = true := by rw [hwr]; exact t1
        have HKS2 := Lib.hid (show kidF l u (pre ++ [⟨xk, hxk⟩]) = kidF l u pre ++ [(xk : Int)] by rw [HKS.out, if_pos (by simp [he])])
        obtain ⟨⟨v, bV1, hr1, hne⟩, bL1, bN1, hB1⟩ := HIQ.out
        dsimp only at hr1
        rw [HU.out] at hr1
        have cV := bV1.cell
        have fV := bV1.frozen
        have M1 := Lib.hid (show (kidF l u pre).length + 1 ≤ maxLen by have := HFL.out; unfold maxLen; omega)
        have M2 := Lib.hid (show ((kidF l u pre).length + 1) * 8 ≤ 140737488355328 by have := HFL.out; omega)
        have M3 := Lib.hid (show S ≤ (Wq.alloc (.cells #[.int .i64 (xk : Nat)] 3)).heap.size by have := bV1.lt; simp; omega)
        have HR := Lib.hid hr1
        have HB := Lib.hid hB1
        have HBV := Lib.hid bV1
        have HBL := Lib.hid bL1
        have HBN := Lib.hid bN1
        have HNE := Lib.hid hne
        have hWq3 : S + 2 < Wq.heap.size := bN1.lt
        clear he hwr hr1 hB1 bV1 bL1 bN1 hne
        gi_wp2_with (gi_at_builtin; go_loud (refine wpListIn_append_own_at _ rfl _ _ 28 rfl S 3 i0 (.int .i64 0) 1 8 Try.underlying28 ei0 hz0 hz1 hz2 rfl (by decide) _ _ _ rfl (HR.out.alloc _) ⟨Wq.heap.size, 0, none⟩ 1 1 [.int .i64 (xk : Nat)] rfl rfl (cells_newL _ _ _) (numsZ_one [(xk : Int)]) M1.out M2.out M3.out ?_); intro v' w1x hown' hgrow _ hat; obtain ⟨g', cap', rfl⟩ := ownsRow_succ hown'; have hE := kpR_append HBV.out HBL.out HBN.out HNE.out HR.out (by omega) (by omega) (by omega) hown' hgrow hat; obtain ⟨hv1, hv2, hr2, hk2, hb2⟩ := HBV.out.appended (by decide) HR.out (by omega) (Nat.le_refl _) hown' hgrow; have hc1 := hv1.cell; have hf1 := hv1.frozen; have HE := Lib.hid hE; have HV2' := Lib.hid hv2; have HR2 := Lib.hid hr2; have HK2 := Lib.hid hk2; have HB2' := Lib.hid hb2; clear hE hv2 hr2 hk2 hb2 hown' hgrow hat)
        refine ⟨((keeps_belowL HWQ.out).trans HK2.out).from _, KpR.t (KpR.of_below HWQ.out (by omega)) HE.out.1, ⟨_, HV2'.out, ?_, HE.out.2.2.2⟩, HE.out.2.1, HE.out.2.2.1, HB.out.trans HB2'.out⟩
        have h9 := HR2.out
        dsimp only
        rw [HU.out, HKS2.out, List.length_append, numsZ_app]
        exact h9
      · have t1 : (q == u + 1) = false := by simpa using he
        have t2 : (q == IntKind.i64.wrap (u + 1)) = false := by rw [hwr]; exact t1
        have HKS2 := Lib.hid (show kidF l u (pre ++ [⟨xk, hxk⟩]) = kidF l u pre by rw [HKS.out, if_neg (by simp [he])])
        clear he hwr
        gi_wp2
        refine ⟨(keeps_belowL HWQ.out).from _, KpR.of_below HWQ.out (by omega), ?_⟩
        have h9 := HIQ.out
        unfold GatR at h9 ⊢
        dsimp only at h9 ⊢
        rw [HU.out] at h9 ⊢
        rw [HKS2.out]
        exact h9
    case done =>
      rintro D ys W hD rfl ⟨⟨v, bV1, hr1, hne⟩, bL1, bN1, hB1⟩ hK
      have cV := bV1.cell
      dsimp only at hr1
      rw [kidF_all HG.out HI0.out HI.out] at hr1
      have HR := Lib.hid hr1
      have HBx := Lib.hid (HBw.out.trans ((HA.out.trans hB1).mono (by have := HBw.out.size; omega)))
      have HKK := Lib.hid hK
      clear hr1 hB1 hne hK bL1 bN1
      gi_wp2
      refine ⟨by simp, .inl ⟨_, _, rfl, run_takeDeferred HKK.out, ?_⟩⟩
      exact ⟨_, results_tmp2 rfl _ _ _, v, rfl, World.ownsRow.mono (ownsRow_putObj HR.out _ HKK.out rfl) hS2, HBx.out.trans (belowK_b (w := w) (Nat.le_refl _) W D _ _ (by omega) HKK.out rfl rfl)⟩
    case stop =>
      rintro D c pre W _ _ h _
      exact h.elim
set_option maxRecDepth 100000 in
theorem kids_bad (l : List Ent) (v : Value) (i : Int) (w : World) (hv : RdE w v l) (hg : gdE l ≠ 0) : Calls Try.prog 23 #[v, .int .i64 i] w (NewZ [] (gdE l) w) := by
  have hA0 : Below w.heap.size w ((w.alloc (.cells #[v] 34)).alloc (.cells #[.int .i64 i] 3)) := ((Below.refl _ w).alloc (Nat.le_refl _) _).alloc (by simp) _
  have hq := may_pro l v _ (hv.below hA0)
  obtain ⟨pa, cap, rfl, hcl, hcm⟩ := hv.form
  obtain ⟨g, hgg⟩ : ∃ g, gdE l = g := ⟨_, rfl⟩
  rw [hgg] at hq hg ⊢
  have HQ := Lib.hid hq
  have HA0 := Lib.hid hA0
  have t1 : (g != 0) = true := by simpa using hg
  clear hv hq hcl hcm hgg hA0 hg
  go_enter Try.func23, Try.ntmps23
  go_wp2_with fail
  refine HQ.out.mono ?_
  rintro e w1 ⟨rfl, hb1⟩
  have HB := Lib.hid (HA0.out.trans (hb1.mono HA0.out.size))
  clear hb1
  go_wp2_with fail
  go_ret2
  exact NewZ.none _ _ _ HB.out
set_option maxRecDepth 100000 in
theorem kids_out (l : List Ent) (v : Value) (i : Int) (w : World) (hv : RdE w v l) (hg : gdE l = 0) (hi : ¬ (-1 ≤ i ∧ i < l.length)) : Calls Try.prog 23 #[v, .int .i64 i] w (NewZ [] 1 w) := by
  have hA0 : Below w.heap.size w ((w.alloc (.cells #[v] 34)).alloc (.cells #[.int .i64 i] 3)) := ((Below.refl _ w).alloc (Nat.le_refl _) _).alloc (by simp) _
  have hq := may_pro l v _ (hv.below hA0)
  obtain ⟨pa, cap, rfl, hcl, hcm⟩ := hv.form
  have HQE := Lib.hid (show ∀ w', Calls Try.prog 53 #[.slice pa l.length cap, .int .i64 i] w' fun e w'' => e = .returned (.bool false) ∧ w' = w'' from fun w' => by
    have := entry_pro pa l.length cap i w'
    rw [decide_eq_false (show ¬ (0 ≤ i ∧ i < (l.length : Int)) by omega)] at this
    exact this)
  rw [hg] at hq
  have HQ := Lib.hid hq
  have HA0 := Lib.hid hA0
  have bT := (Boxed.new w 34 (.slice pa l.length cap)).alloc (.cells #[.int .i64 i] 3)
  have bI := Boxed.new (w.alloc (.cells #[.slice pa l.length cap] 34)) 3 (.int .i64 i)
  simp only [World.size_alloc] at bI
  have HT0 := Lib.hid bT
  have HI1 := Lib.hid bI
  have hne : ¬ i = -1 := by omega
  clear hv hq hcl hcm hA0 hg hi bT bI
  go_enter Try.func23, Try.ntmps23
  go_wp2_with fail
  refine HQ.out.mono ?_
  rintro e w1 ⟨rfl, hb1⟩
  have HB := Lib.hid (HA0.out.trans (hb1.mono HA0.out.size))
  have cT := (hb1.cell (p := ⟨w.heap.size, 0, none⟩) (by simp; omega)).trans HT0.out.cell
  have cI := (hb1.cell (p := ⟨w.heap.size + 1, 0, none⟩) (by simp)).trans HI1.out.cell
  clear hb1
  go_wp2_with ((with_reducible refine (HQE.out _).mono ?_); rintro e w2 ⟨rfl, rfl⟩)
  go_ret2
  exact NewZ.none _ _ _ HB.out
def kidE (l : List Ent) (i : Int) : Int := if gdE l ≠ 0 then gdE l else if -1 ≤ i ∧ i < l.length then 0 else 1
theorem kids_pro (l : List Ent) (v : Value) (i : Int) (w : World) (hv : RdE w v l) : Calls Try.prog 23 #[v, .int .i64 i] w (NewZ (if kidE l i = 0 then natZ (kidsM l i) else []) (kidE l i) w) := by
  unfold kidE
  by_cases h1 : gdE l ≠ 0
  · rw [if_pos h1, if_neg h1]; exact kids_bad l v i w hv h1
  · have h1' : gdE l = 0 := by omega
    rw [if_neg h1]
    by_cases h2 : -1 ≤ i ∧ i < l.length
    · rw [if_pos h2, if_pos rfl]; exact callsIn_wide.1 (kids_yes l v i w hv (gd_of h1') h1' h2.1 h2.2)
    · rw [if_neg h2, if_neg (by decide)]; exact kids_out l v i w hv h1' h2
end Go.Proofs.Ytjnnkelbedmccaa
