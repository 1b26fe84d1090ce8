/- Layer 10: the program's Shown. -/
import Derived.Test.YtjnnkelbedmccaaToh
import Derived.OrdersHeld
namespace Go.Proofs.Ytjnnkelbedmccaa
open Go.RowKit Go.Shelf Go.Maps
set_option linter.unusedVariables false

attribute [local go_sem] Oper.semAt_some

/-- What a walk over places shows, and how deep the next one may be. -/
def shF (l : List Ent) (op : Int → Bool) (ks : List Nat) : List Int × Int :=
  ks.foldl (fun s k => if lvN l k ≤ s.2 then (s.1 ++ [(k : Int)], if op (tpN l k) then lvN l k + 1 else lvN l k) else s) ([], 1)
theorem shF_snoc (l : List Ent) (op : Int → Bool) (ks : List Nat) (k : Nat) : shF l op (ks ++ [k]) = if lvN l k ≤ (shF l op ks).2 then ((shF l op ks).1 ++ [(k : Int)], if op (tpN l k) then lvN l k + 1 else lvN l k) else shF l op ks := by
  unfold shF; rw [List.foldl_append]; rfl
theorem shF_range {l : List Ent} (g : Gd l) (op : Int → Bool) : ∀ n, n ≤ l.length → (shF l op (List.range n)).1 = natZ ((List.range n).filter fun k => see l op k) ∧ Deep l op n (shF l op (List.range n)).2
  | 0, _ => ⟨rfl, deep_start l op⟩
  | n + 1, hn => by
    have ih := shF_range g op n (by omega)
    have hs := deep_see g ih.2 (show n < l.length by omega)
    have hd := deep_next g ih.2 (show n < l.length by omega)
    rw [List.range_succ, shF_snoc, List.filter_append]
    by_cases h : lvN l n ≤ (shF l op (List.range n)).2
    · rw [if_pos h] at hd ⊢
      refine ⟨?_, hd⟩
      rw [decide_eq_true h] at hs
      simp only [ih.1]
      rw [List.filter_cons, hs]
      simp [natZ]
    · rw [if_neg h] at hd ⊢
      refine ⟨?_, hd⟩
      rw [decide_eq_false h] at hs
      rw [ih.1, List.filter_cons, hs]
      simp
theorem seq_root {l : List Ent} (g : Gd l) : (seqB l (-1)).map Pl.k = List.range l.length := by
  rw [seqB_ks (by omega), show ((-1 : Int) + 1).toNat = 0 by rfl, lvI_root]
  have : blw l 0 0 = l.length := blw_eq (by omega) (fun j hj => by have := (g.lv j hj).1; rw [Nat.zero_add]; omega) (fun h => by omega)
  rw [this, List.range_eq_range']
theorem shown_all {l : List Ent} (g : Gd l) (op : Int → Bool) : (shF l op ((seqB l (-1)).map Pl.k)).1 = natZ (shownM l op) := by
  rw [seq_root g]; exact (shF_range g op l.length (Nat.le_refl _)).1
def shStep (l : List Ent) (op : Int → Bool) (s : List Int × Int) (k : Nat) : List Int × Int := if lvN l k ≤ s.2 then (s.1 ++ [(k : Int)], if op (tpN l k) then lvN l k + 1 else lvN l k) else s
theorem shF_eq (l : List Ent) (op : Int → Bool) (ks : List Nat) : shF l op ks = ks.foldl (shStep l op) ([], 1) := rfl
theorem shFold_len (l : List Ent) (op : Int → Bool) : ∀ (ks : List Nat) (s : List Int × Int), (ks.foldl (shStep l op) s).1.length ≤ s.1.length + ks.length
  | [], s => by simp
  | k :: ks, s => by
    have h := shFold_len l op ks (shStep l op s k)
    have h2 : (shStep l op s k).1.length ≤ s.1.length + 1 := by unfold shStep; split <;> simp
    simp only [List.foldl_cons, List.length_cons]
    omega
theorem shF_len (l : List Ent) (op : Int → Bool) (ks : List Nat) : (shF l op ks).1.length ≤ ks.length := by
  have := shFold_len l op ks ([], 1)
  rw [shF_eq]
  simpa using this
theorem shFold_deep {l : List Ent} (g : Gd l) (op : Int → Bool) : ∀ (ks : List Nat) (s : List Int × Int), (∀ k ∈ ks, k < l.length) → (1 ≤ s.2 ∧ s.2 ≤ 9) → 1 ≤ (ks.foldl (shStep l op) s).2 ∧ (ks.foldl (shStep l op) s).2 ≤ 9
  | [], s, _, h => h
  | k :: ks, s, hk, h => by
    refine shFold_deep g op ks (shStep l op s k) (fun q hq => hk q (by simp [hq])) ?_
    have h2 := g.lv k (hk k (by simp))
    unfold shStep
    split
    · dsimp only; split <;> omega
    · exact h
theorem shF_deep {l : List Ent} (g : Gd l) (op : Int → Bool) (ks : List Nat) (h : ∀ k ∈ ks, k < l.length) : 1 ≤ (shF l op ks).2 ∧ (shF l op ks).2 ≤ 9 := by
  rw [shF_eq]; exact shFold_deep g op ks _ h (by simp)
/-- What the loop of Shown holds between two rounds: what is shown, and how deep the next one may be. -/
def ShJ (X : Nat) (lv : Value) (W0 : World) (p : List Int × Int) (W : World) : Prop :=
  (∃ v, Boxed W X 28 v ∧ W.ownsRow X 3 1 v p.1.length (numsZ p.1) ∧ (v.ownBlock ≠ some (X + 1) ∧ v.ownBlock ≠ some (X + 3))) ∧
    Boxed W (X + 1) 3 (.int .i64 p.2) ∧ Boxed W (X + 2) 34 lv ∧ Boxed W (X + 3) 3 (.int .i64 (-1)) ∧ Below X W0 W
theorem ShJ.own {β : Type} {X : Nat} {lv : Value} {W0 : World} {D : Nat} (f : β → List Int × Int) (hBD : X ≤ D) (hs : X ≤ W0.heap.size) : OwnFrom D (fun s => ShJ X lv W0 (f s)) :=
  OwnFrom.and (Own.from (holdsRow_own X X 28 3 1 (fun s => (f s).1.length) (fun s => numsZ (f s).1) (fun _ v => v.ownBlock ≠ some (X + 1) ∧ v.ownBlock ≠ some (X + 3))) _)
    (OwnFrom.and (Own.from (boxed_own (X + 1) 3 (fun s => .int .i64 (f s).2)) _) (OwnFrom.and (Own.from (boxed_own (X + 2) 34 (fun _ => lv)) _) (OwnFrom.and (Own.from (boxed_own (X + 3) 3 (fun _ => .int .i64 (-1))) _) (ownFrom_below hs hBD))))
theorem ShJ.below {X : Nat} {lv : Value} {W0 W W' : World} {p : List Int × Int} (h : ShJ X lv W0 p W) (hb : Below W.heap.size W W') : ShJ X lv W0 p W' := by
  obtain ⟨⟨v, h1, h2, h5⟩, h3, h4, h7, h6⟩ := h
  exact ⟨⟨v, Boxed.belowL h1 hb, own_stays h2 fun c e => hb.block c (own_base h2 e).2, h5⟩, Boxed.belowL h3 hb, Boxed.belowL h4 hb, Boxed.belowL h7 hb, h6.trans (hb.mono (Nat.le_of_lt h1.lt))⟩
theorem ShJ.setD {X : Nat} {lv : Value} {W0 W : World} {zs : List Int} {d : Int} (h : ShJ X lv W0 (zs, d) W) (d' : Int) : ShJ X lv W0 (zs, d') (W.setCell ⟨X + 1, 0, none⟩ (.int .i64 d')) := by
  obtain ⟨⟨v, h1, h2, h5⟩, h3, h4, h7, h6⟩ := h
  exact ⟨⟨v, (Below.heap_setCell _ _ _ _ (by show X ≠ X + 1; omega)).trans h1, own_stays h2 fun c e => Below.heap_setCell _ _ _ _ (fun e2 => h5.1 (by rw [e]; exact congrArg some e2)), h5⟩,
    h3.set _, (Below.heap_setCell _ _ _ _ (by show X + 2 ≠ X + 1; omega)).trans h4, (Below.heap_setCell _ _ _ _ (by show X + 3 ≠ X + 1; omega)).trans h7, h6.setCell (p := ⟨X + 1, 0, none⟩) (by show X ≤ X + 1; omega) _⟩
theorem ShJ.size {X : Nat} {lv : Value} {W0 W : World} {p : List Int × Int} (h : ShJ X lv W0 p W) : X + 3 < W.heap.size := h.2.2.2.1.lt
/-- What a round has kept that appends to the list in a box. -/
theorem kpS_append {B : Nat} {W w1 : World} {lv v v' d : Value} {N : Int} {k m : Nat} {xs ys : List Value} {o : Obj} (hv : Boxed W B 28 v) (hd : Boxed W (B + 1) 3 d) (h1 : Boxed W (B + 2) 34 lv) (h2 : Boxed W (B + 3) 3 (.int .i64 N)) (hne : v.ownBlock ≠ some (B + 1) ∧ v.ownBlock ≠ some (B + 3)) (hrow : W.ownsRow B 3 1 v k xs)
    (hBW : B ≤ W.heap.size) (hown' : w1.ownsRow B 3 1 v' m ys) (hgrow : (W.alloc o).grownBy w1 v.ownBlock) (hat : v'.ownBlock = v.ownBlock ∨ v'.ownBlock = some (W.alloc o).heap.size) :
    KpR B (B + 2) (B + 3) W (w1.setCell ⟨B, 0, none⟩ v') ∧ Boxed (w1.setCell ⟨B, 0, none⟩ v') (B + 1) 3 d ∧ Boxed (w1.setCell ⟨B, 0, none⟩ v') (B + 2) 34 lv ∧ Boxed (w1.setCell ⟨B, 0, none⟩ v') (B + 3) 3 (.int .i64 N) ∧ (v'.ownBlock ≠ some (B + 1) ∧ v'.ownBlock ≠ some (B + 3)) := by
  obtain ⟨_, _, _, _, h5⟩ := hv.appended (by decide) hrow hBW (Nat.le_refl _) hown' hgrow
  have g0 : Boxed (w1.setCell ⟨B, 0, none⟩ v') (B + 1) 3 d := (Below.heap_setCell _ _ _ _ (by show B + 1 ≠ B; omega)).trans ((hd.alloc o).kept hgrow hne.1.symm)
  have g1 : Boxed (w1.setCell ⟨B, 0, none⟩ v') (B + 2) 34 lv := (Below.heap_setCell _ _ _ _ (by show B + 2 ≠ B; omega)).trans ((h1.alloc o).kept hgrow (h1.not_row (by decide) hrow))
  have g2 : Boxed (w1.setCell ⟨B, 0, none⟩ v') (B + 3) 3 (.int .i64 N) := (Below.heap_setCell _ _ _ _ (by show B + 3 ≠ B; omega)).trans ((h2.alloc o).kept hgrow hne.2.symm)
  refine ⟨⟨h5, fun u hu => ?_, fun u hu => ?_⟩, g0, g1, g2, ?_⟩
  · rw [h1.cell] at hu; cases hu; exact g1.cell
  · rw [h2.cell] at hu; cases hu; exact g2.cell
  · rcases hat with h | h
    · rw [h]; exact hne
    · rw [h]
      have hlt := h2.lt
      constructor <;> intro e <;> injection e with e <;> simp at e <;> omega
set_option maxRecDepth 100000 in
set_option maxHeartbeats 4000000 in
theorem shown_yes (l : List Ent) (v vo : Value) (os : List Int) (w : World) (hv : RdE w v l) (ho : RdZ w vo os) (hos : ∀ x ∈ os, (Lit.int .i64 x).wf = true) (g : Gd l) (hg : gdE l = 0) :
    CallsIn Fence.wide 12 Try.prog 34 #[v, vo] w (NewZ (natZ (shownM l (fun x => decide (x ∈ os)))) 0 w) := by
  have hf0 : Fence.wide.fn 52 := trivial
  have hf1 : Fence.wide.fn 50 := trivial
  have hf2 : Fence.wide.fn 61 := trivial
  have hmm := @run_makeMap Try.prog
  obtain ⟨i0, ei0, hz0, hz1, hz2⟩ := info_parts infoI
  have hA0 : Below w.heap.size w (w.alloc (.cells #[v] 34)) := (Below.refl _ w).alloc (Nat.le_refl _) _
  have hq := may_pro l v _ (hv.below hA0)
  obtain ⟨pa, cap, rfl, hcl, hcm⟩ := hv.form
  obtain ⟨po, co, rfl, hol, hom⟩ := ho.form
  have HV := Lib.hid hv
  have HO := Lib.hid ho
  have HOS := Lib.hid hos
  have HG := Lib.hid g
  have HL := Lib.hid g.len
  rw [hg] at hq
  have HQ := Lib.hid hq
  have bT := (Boxed.new w 34 (.slice pa l.length cap))
  have HT0 := Lib.hid bT
  have HA0 := Lib.hid hA0
  have hol9 : os.length ≤ 9223372036854775807 := Nat.le_trans hol hom
  clear hv ho hos hq hcl hcm g hg bT hA0 hol hom
  refine callsIn_of_wp_marks Try.func34 rfl trivial ?_ rfl
  simp only [Try.ntmps34, List.size_toArray, List.length_cons, List.length_nil, Nat.reduceAdd, Nat.reduceSub, Array.replicate_succ, Array.replicate_zero, List.push_toArray, List.append_toArray, List.nil_append, List.cons_append]
  gi_wp2_with (gi_at_call 52; (with_reducible refine (callsIn_wide.2 HQ.out).mono ?_); rintro e w1 ⟨rfl, hb1⟩; have HB1 := Lib.hid hb1; have cT := (hb1.cell (p := ⟨w.heap.size, 0, none⟩) (by simp)).trans HT0.out.cell; have hwl0 : w.heap.size < w1.heap.size := cellInL cT; clear hb1)
  clear hmm
  have HBw := Lib.hid (HA0.out.trans (HB1.out.mono HA0.out.size))
  have HO1 := Lib.hid (HO.out.below HBw.out)
  have HV1 := Lib.hid (HV.out.below HBw.out)
  have HCT := Lib.hid cT
  have hA2 : Below w1.heap.size w1 ((w1.alloc (.map #[] 0)).alloc (.cells #[.map (some w1.heap.size)] 80)) := ((Below.refl _ w1).alloc (Nat.le_refl _) _).alloc (by simp) _
  have HA2 := Lib.hid hA2
  have HS0 := Lib.hid ((SetAt.made w1).below ((Below.refl _ (w1.alloc (.map #[] 0))).alloc (Nat.le_refl _) (.cells #[.map (some w1.heap.size)] 80)))
  have HBM := Lib.hid (show Boxed ((w1.alloc (.map #[] 0)).alloc (.cells #[.map (some w1.heap.size)] 80)) (w1.heap.size + 1) 80 (.map (some w1.heap.size)) by
    have := Boxed.new (w1.alloc (.map #[] 0)) 80 (.map (some w1.heap.size))
    simpa using this)
  gi_loopw [23] (fun i wr => ∃ k : Nat, i = .int .i64 (k : Nat) ∧ k ≤ os.length ∧ Hid (SetAt wr w1.heap.size (os.take k)) ∧ Hid (Boxed wr (w1.heap.size + 1) 80 (.map (some w1.heap.size))) ∧ Hid (Below w1.heap.size w1 wr)) (fun i _ => os.length - (intOf i).toNat)
  case atStart => exact ⟨0, rfl, Nat.zero_le _, HS0, HBM, HA2⟩
  case round =>
    obtain ⟨k, rfl, hk, HS, HBX, HB⟩ := hrel
    have cU := HBX.out.cell
    by_cases hlt : k < os.length
    · obtain ⟨b, off, rfl, c0⟩ := (HO1.out.below HB.out).cell hlt
      have HTK := Lib.hid (show os.take (k + 1) = os.take k ++ [os[k]] from List.take_succ_eq_append_getElem hlt)
      have hwf := HOS.out os[k] (List.getElem_mem hlt)
      obtain ⟨x, hx⟩ : ∃ x, os[k] = x := ⟨_, rfl⟩
      rw [hx] at c0 HTK hwf
      have WF := Lib.hid hwf
      obtain ⟨D, hown, hmp⟩ := HS.out
      have HOW := Lib.hid hown
      have HP := Lib.hid (hmp.put x)
      have HLT := Lib.hid hlt
      have hk1 : (k : Int) < os.length := by omega
      have hkm : (os.take k).length < maxLen := by rw [List.length_take]; unfold maxLen; omega
      have HKM := Lib.hid hkm
      clear hwf hx hown hmp hlt hkm
      gi_wp2_with (gi_at_mapUpdate; go_loud (refine wpListIn_mapUpdate_own _ rfl _ _ _ 80 rfl 3 81 lawI Try.underlying80 unitElem w1.heap.size (os.take k).length D rfl HOW.out HKM.out _ _ _ rfl rfl (keyOf_int_mk Try.underlying3 WF.out) _ [] unitElem_mk ?_); intro w2 hown2 hgrow2; have HO2 := Lib.hid hown2; have HG2 := Lib.hid hgrow2; clear hown2 hgrow2)
      go_roundw
      case measure => have := HLT.out; first | (simp [intOf]; done) | (simp [intOf]; omega)
      case rel =>
        refine ⟨k + 1, by go_num, by have := HLT.out; omega, Lib.hid ⟨_, by rw [HTK.out, List.length_append]; exact HO2.out, by rw [HTK.out]; exact HP.out⟩, Lib.hid ?_, Lib.hid (HB.out.grown HG2.out HB.out.size (fun r e => by cases e; exact Nat.le_refl _))⟩
        exact HBX.out.kept HG2.out (by intro e; injection e with e; omega)
    · obtain rfl : k = os.length := by omega
      have hkx : ¬ ((os.length : Nat) : Int) < os.length := by omega
      have hss := HS.out
      rw [List.take_length] at hss
      have HSS := Lib.hid hss
      have cT2 := (HB.out.cell (p := ⟨w.heap.size, 0, none⟩) (by show w.heap.size < _; omega)).trans HCT.out
      have hwr : w.heap.size < wr.heap.size := cellInL cT2
      clear hlt hk hss
      gi_wp2_with fail
      refine (below_in 11 _ _ _ _ _).mono ?_
      rintro e w3 ⟨rfl, rfl⟩
      gi_wp2_with fail
      have b0 := (((Boxed.new wr 28 (.slice none 0 0)).alloc (.cells #[.int .i64 1] 3)).alloc (.cells #[.slice pa l.length cap] 34)).alloc (.cells #[.int .i64 (-1)] 3)
      have b1 := ((Boxed.new (wr.alloc (.cells #[.slice none 0 0] 28)) 3 (.int .i64 1)).alloc (.cells #[.slice pa l.length cap] 34)).alloc (.cells #[.int .i64 (-1)] 3)
      have b2 := (Boxed.new ((wr.alloc (.cells #[.slice none 0 0] 28)).alloc (.cells #[.int .i64 1] 3)) 34 (.slice pa l.length cap)).alloc (.cells #[.int .i64 (-1)] 3)
      have b3 := Boxed.new (((wr.alloc (.cells #[.slice none 0 0] 28)).alloc (.cells #[.int .i64 1] 3)).alloc (.cells #[.slice pa l.length cap] 34)) 3 (.int .i64 (-1))
      simp only [World.size_alloc] at b0 b1 b2 b3
      have hA : Below wr.heap.size wr ((((wr.alloc (.cells #[.slice none 0 0] 28)).alloc (.cells #[.int .i64 1] 3)).alloc (.cells #[.slice pa l.length cap] 34)).alloc (.cells #[.int .i64 (-1)] 3)) := ((((Below.refl _ wr).alloc (Nat.le_refl _) _).alloc (by simp) _).alloc (by simp; omega) _).alloc (by simp; omega) _
      have hsz : ((((wr.alloc (.cells #[.slice none 0 0] 28)).alloc (.cells #[.int .i64 1] 3)).alloc (.cells #[.slice pa l.length cap] 34)).alloc (.cells #[.int .i64 (-1)] 3)).heap.size = wr.heap.size + 4 := by simp
      obtain ⟨W0, hW0⟩ : ∃ W0, ((((wr.alloc (.cells #[.slice none 0 0] 28)).alloc (.cells #[.int .i64 1] 3)).alloc (.cells #[.slice pa l.length cap] 34)).alloc (.cells #[.int .i64 (-1)] 3)) = W0 := ⟨_, rfl⟩
      rw [hW0] at b0 b1 b2 b3 hA hsz ⊢
      have HA := Lib.hid hA
      have HBr := Lib.hid (HBw.out.trans (HB.out.mono HBw.out.size))
      have HVr := Lib.hid (HV.out.below HBr.out)
      clear hW0 hA
      obtain ⟨X, hX⟩ : ∃ X, wr.heap.size = X := ⟨_, rfl⟩
      have HX := Lib.hid hX
      obtain ⟨U, hU⟩ : ∃ U, w1.heap.size = U := ⟨_, rfl⟩
      have hUX : U + 1 < X := by rw [← hX, ← hU]; exact HBX.out.lt
      have hwU : w.heap.size < U := by rw [← hU]; exact hwl0
      rw [hX] at b0 b1 b2 b3 hsz HA ⊢
      rw [hU] at HSS HBX HB ⊢
      have HU := Lib.hid hU
      have b3' : Boxed W0 (X + 3) 3 (.int .i64 (-1)) := b3
      have b2' : Boxed W0 (X + 2) 34 (.slice pa l.length cap) := b2
      have HCT2 := Lib.hid cT2
      clear hX hU cU cT2 hwl0 hwr cT
      simp only [Nat.add_assoc, Nat.reduceAdd]
      refine wpIn_rangeFunc_ownH rfl (by omega) (gf := 61) (lb := #[.pointer (some ⟨X + 2, 0, none⟩), .pointer (some ⟨X + 3, 0, none⟩)]) rfl trivial (enters_of Try.func61 (by kernel_rfl) rfl)
        (below_stops (12 - 1) (by omega) (X + 2) (X + 3) X (.slice pa l.length cap) l (-1) HG.out.len (by omega) (by omega) wr HVr.out (by rw [HX.out]; exact Nat.le_refl _) W0 HA.out (by omega) b2'.cell b3'.cell) KpR.t (fun W l o o' hl h hc hw => KpR.put W l o o' (by omega) h hc hw) (Below.refl _ _) (fun _ => rfl)
        (fun pre : List (Pl l.length) => ShJ X (.slice pa l.length cap) W0 (shF l (fun x => decide (x ∈ os)) (pre.map Pl.k)))
        (fun _ _ _ => False)
        (ShJ.own _ (by omega) (by omega))
        (fun _ _ _ _ _ hs _ _ => hs)
        ⟨⟨_, b0, World.ownsRow_nil _ _ _ _, by simp [Value.ownBlock]⟩, b1, b2', b3', Below.refl _ _⟩
        (fun x a' W => a' = { tmps := #[.slice pa l.length cap, .slice po os.length co, .pointer (some ⟨w.heap.size, 0, none⟩), undef, .slice none 0 0, .int .i64 0, .int .i64 0, .pointer (some ⟨U + 1, 0, none⟩), undef, u9, .pointer (some ⟨X, 0, none⟩), .pointer (some ⟨X + 1, 0, none⟩), encP x, undef, undef, .slice pa l.length cap, .int .i64 0, .int .i64 0, .bool false, undef, .map (some U), .slice po os.length co, .int .i64 os.length, .int .i64 os.length, .bool false, u25, u26, u27, u28, u29, u30, .slice pa l.length cap, .func (.func 61) #[] #[.pointer (some ⟨X + 2, 0, none⟩), .pointer (some ⟨X + 3, 0, none⟩)], encP x, undef, undef, undef, undef, undef, undef, undef, undef, undef, undef, undef, undef, undef, undef, undef, undef, undef, undef, undef, undef, undef, undef, undef, undef, undef, undef, undef, undef, undef, undef], defers := [] })
        (fun x a' s X Y row hs hg hr => hs)
        ?assign ?body ?done ?stop
      case assign =>
        rintro l' pre x W K hI hK
        have HK := Lib.hid (hK (a' := _) _ ((KeepsOthers.refl _).from _) (KpR.refl _ _ _ _) hI rfl)
        clear hK hI
        gi_wp2
        first | exact HK.out | (simp; exact HK.out)
      case body =>
        rintro l' pre x a' W hl ⟨r, hr⟩ hI rfl hlt
        obtain ⟨xk, hxk⟩ := x
        have hBW : Below X wr W := HA.out.trans hI.2.2.2.2
        have d0 := (hBW.cell (p := ⟨w.heap.size, 0, none⟩) (by show w.heap.size < X; omega)).trans HCT2.out
        have hRW := HVr.out.below' hBW (by rw [HX.out]; exact Nat.le_refl _)
        have dU := (hBW.cell (p := ⟨U + 1, 0, none⟩) (by show U + 1 < X; omega)).trans HBX.out.cell
        have hSW := HSS.out.block (hBW.block U (by omega))
        obtain ⟨b, off, hpa, c0, c1⟩ := hRW.cell (j := xk) hxk
        have HSF := Lib.hid (shF_snoc l (fun x => decide (x ∈ os)) (pre.map Pl.k) xk)
        have hdp := shF_deep HG.out (fun x => decide (x ∈ os)) (pre.map Pl.k) (fun k hk => by obtain ⟨y, _, rfl⟩ := List.mem_map.1 hk; exact y.h)
        have hfl := shF_len l (fun x => decide (x ∈ os)) (pre.map Pl.k)
        rw [List.length_map] at hfl
        have hbl := blw_in l (lvI l (-1)) ((-1 : Int) + 1).toNat (by omega)
        have hsl := seqB_len (l := l) (i := -1) (by omega)
        have hfl9 : (shF l (fun x => decide (x ∈ os)) (pre.map Pl.k)).1.length ≤ 1000 := by have := HL.out; omega
        have hfit := HV.out.fit hxk
        have hfw : (Lit.int .i64 (tpN l xk)).wf = true := by rw [tpN_at hxk]; exact hfit.1
        have hlv := HG.out.lv xk hxk
        obtain ⟨q, hq⟩ : ∃ q, lvN l xk = q := ⟨_, rfl⟩
        obtain ⟨tz, htz⟩ : ∃ tz, tpN l xk = tz := ⟨_, rfl⟩
        obtain ⟨⟨zs, d⟩, hp⟩ : ∃ p, shF l (fun x => decide (x ∈ os)) (pre.map Pl.k) = p := ⟨_, rfl⟩
        rw [hp] at hI HSF hdp hfl9
        rw [hq] at c1 HSF hlv
        rw [htz] at c0 HSF hfw
        dsimp only at HSF hdp hfl9
        have WF := Lib.hid hfw
        have k0 := cell_regrown d0
        have k2 := cell_regrown c1
        have k1 := cell_regrown hI.2.1.cell
        have hxz : (xk : Int) < l.length := by omega
        have hl9 := HL.out
        have HFL := Lib.hid hfl9
        have HIH := Lib.hid hI
        have hX3 := hI.size
        have HC0 := Lib.hid c0
        have HC1 := Lib.hid c1
        have HD0 := Lib.hid d0
        have HDU := Lib.hid dU
        have HSW := Lib.hid hSW
        have HHX := Lib.hid hxk
        subst hpa
        clear hI hBW d0 hRW c0 c1 hr hlt hbl hsl hfl hfl9 hfw hfit hp hq htz dU hSW
        unfold encP
        gi_wp2
        refine region_inRound_below (by kernel_rfl) (by kernel_rfl) (by kernel_rfl) ?_
        repeat (quiet_step (fail))
        refine wpQuiet_nil ?_
        intro _ hw'
        obtain ⟨⟨dq, osq⟩, hw''⟩ := hw'
        subst hw''
        clear k0 k1 k2
        have hWq := below_regrown W dq osq
        obtain ⟨Wq, hWe⟩ : ∃ Wq, Sort.grow (redrawn W dq) osq = Wq := ⟨_, rfl⟩
        rw [hWe] at hWq ⊢
        have HWQ := Lib.hid hWq
        have HIQ := Lib.hid (HIH.out.below hWq)
        clear hWe hWq
        by_cases hle : q ≤ d
        · have t1 : ¬ d < q := by omega
          have HSF2 := Lib.hid (show shF l (fun x => decide (x ∈ os)) (pre.map Pl.k ++ [xk]) = (zs ++ [(xk : Int)], if decide (tz ∈ os) = true then q + 1 else q) by rw [HSF.out, if_pos hle])
          obtain ⟨⟨v, bV1, hr1, hne⟩, bD1, bL1, bN1, hB1⟩ := HIQ.out
          dsimp only at hr1 bD1
          have cV := bV1.cell
          have fV := bV1.frozen
          have M1 := Lib.hid (show zs.length + 1 ≤ maxLen by have := HFL.out; unfold maxLen; omega)
          have M2 := Lib.hid (show (zs.length + 1) * 8 ≤ 140737488355328 by have := HFL.out; omega)
          have M3 := Lib.hid (show X ≤ (Wq.alloc (.cells #[.int .i64 (xk : Nat)] 3)).heap.size by have := bV1.lt; simp; omega)
          have HR := Lib.hid hr1
          have HB9 := Lib.hid hB1
          have HBV := Lib.hid bV1
          have HBD := Lib.hid bD1
          have HBL := Lib.hid bL1
          have HBN := Lib.hid bN1
          have HNE := Lib.hid hne
          have hWq3 : X + 3 < Wq.heap.size := bN1.lt
          have HY := Lib.hid (show ∀ Y : World, Below X Wq Y → Y.cell? ⟨w.heap.size, 0, none⟩ = some (.slice (some ⟨b, off, none⟩) l.length cap) ∧ Y.cell? ⟨b, off + xk * 2, none⟩ = some (.int .i64 tz) ∧ Y.cell? ⟨b, off + xk * 2 + 1, none⟩ = some (.int .i64 q) ∧ Y.cell? ⟨U + 1, 0, none⟩ = some (.map (some U)) ∧ SetAt Y U os from fun Y hY => by
            have hWX : Below X W Y := (HWQ.out.mono (by omega)).trans hY
            have hrX : Below X wr Y := (HA.out.trans HIH.out.2.2.2.2).trans hWX
            obtain ⟨b9, o9, e9, g0, g1⟩ := (HVr.out.below' hrX (by rw [HX.out]; exact Nat.le_refl _)).cell (j := xk) HHX.out
            cases e9
            have hbX : b < X := by
              obtain ⟨b8, o8, e8, g8, _⟩ := HVr.out.cell (j := xk) HHX.out
              cases e8
              have := cellInL g8
              rw [HX.out] at this
              exact this
            exact ⟨(hWX.cell (p := ⟨w.heap.size, 0, none⟩) (by show w.heap.size < X; omega)).trans HD0.out, (hWX.cell (p := ⟨b, off + xk * 2, none⟩) hbX).trans HC0.out, (hWX.cell (p := ⟨b, off + xk * 2 + 1, none⟩) hbX).trans HC1.out, (hWX.cell (p := ⟨U + 1, 0, none⟩) (by show U + 1 < X; omega)).trans HDU.out, HSW.out.block (hWX.block U (by omega))⟩)
          clear hle hr1 hB1 bV1 bD1 bL1 bN1 hne
          gi_wp2_with (gi_at_builtin; go_loud (refine wpListIn_append_own_at _ rfl _ _ 28 rfl X 3 i0 (.int .i64 0) 1 8 Try.underlying28 ei0 hz0 hz1 hz2 rfl (by decide) _ _ _ rfl (HR.out.alloc _) ⟨Wq.heap.size, 0, none⟩ 1 1 [.int .i64 (xk : Nat)] rfl rfl (cells_newL _ _ _) (numsZ_one [(xk : Int)]) M1.out M2.out M3.out ?_); intro v' w1x hown' hgrow _ hat; obtain ⟨g', cap', rfl⟩ := ownsRow_succ hown'; have hE := kpS_append HBV.out HBD.out HBL.out HBN.out HNE.out HR.out (by omega) hown' hgrow hat; obtain ⟨hv1, hv2, hr2, hk2, hb2⟩ := HBV.out.appended (by decide) HR.out (by omega) (Nat.le_refl _) hown' hgrow; have hc1 := hv1.cell; have hf1 := hv1.frozen; have hy := HY.out _ hE.1.1; have y0 := hy.1; have y1 := hy.2.2.1; have y2 := hE.2.1.cell; have y3 := hE.2.1.frozen; have HE := Lib.hid hE; have HV2' := Lib.hid hv2; have HR2 := Lib.hid hr2; have HK2 := Lib.hid hk2; have HB2' := Lib.hid hb2; clear hE hv2 hr2 hk2 hb2 hown' hgrow hat hy)
          have HJ := Lib.hid (show ShJ X (.slice (some ⟨b, off, none⟩) l.length cap) W0 (zs ++ [(xk : Int)], d) (w1x.setCell ⟨X, 0, none⟩ (.slice (some ⟨g', 0, none⟩) (zs.length + 1) cap')) from ⟨⟨_, HV2'.out, by dsimp only; rw [List.length_append, numsZ_app]; exact HR2.out, HE.out.2.2.2.2⟩, HE.out.2.1, HE.out.2.2.1, HE.out.2.2.2.1, HB9.out.trans HB2'.out⟩)
          have HJ2 := Lib.hid (HJ.out.setD q)
          have HK5 := Lib.hid (KpR.t HE.out.1 (KpR.set (b1 := X + 2) (b2 := X + 3) (B := X) (p := ⟨X + 1, 0, none⟩) (.int .i64 q) (by show X ≤ X + 1; omega) (by show X + 2 ≠ X + 1; omega) (by show X + 3 ≠ X + 1; omega)))
          have HO5 := Lib.hid (((keeps_belowL HWQ.out).trans HK2.out).trans (KeepsOthers.setCell _ ⟨X + 1, 0, none⟩ (.int .i64 q)))
          obtain ⟨W5, hW5⟩ : ∃ W5, (w1x.setCell ⟨X, 0, none⟩ (.slice (some ⟨g', 0, none⟩) (zs.length + 1) cap')).setCell ⟨X + 1, 0, none⟩ (.int .i64 q) = W5 := ⟨_, rfl⟩
          rw [hW5] at HJ2 HK5 HO5 ⊢
          have hy := HY.out _ HK5.out.1
          obtain ⟨Dm, hown, hmp⟩ := hy.2.2.2.2
          have hS0 : W5.drew.cell? ⟨U + 1, 0, none⟩ = some (.map (some U)) ∧ W5.drew.cell? ⟨w.heap.size, 0, none⟩ = some (.slice (some ⟨b, off, none⟩) l.length cap) ∧ W5.drew.cell? ⟨b, off + xk * 2, none⟩ = some (.int .i64 tz) ∧ W5.drew.ownsMap Try.prog 3 unitElem U os.length Dm := ⟨hy.2.2.2.1, hy.1, hy.2.1, hown⟩
          have hA5 : Below W5.heap.size W5 (W5.drew.alloc (.cells #[] 81)) := ((Below.refl _ W5).drew).alloc (Nat.le_refl _) _
          have HJ6 := Lib.hid (HJ2.out.below hA5)
          have HA5 := Lib.hid hA5
          have h53 := HJ2.out.size
          have hmt := hmp.has tz
          clear hy hown y0 y1 y2 y3 hc1 hf1 hv1 cV fV
          refine region_inRound (by kernel_rfl) (by kernel_rfl) ?_
          refine wpAny_of_held (S := fun w' => w'.cell? ⟨U + 1, 0, none⟩ = some (.map (some U)) ∧ w'.cell? ⟨w.heap.size, 0, none⟩ = some (.slice (some ⟨b, off, none⟩) l.length cap) ∧ w'.cell? ⟨b, off + xk * 2, none⟩ = some (.int .i64 tz) ∧ w'.ownsMap Try.prog 3 unitElem U os.length Dm) _ _ _ _ ?_
          refine wpAnyH_take (i := 0) (v := .map (some U)) rfl (by kernel_rfl) (by kernel_rfl) (by kernel_rfl) (fun _ _ _ h => h) (.inl ⟨by rfl, fun w' hS => by obtain ⟨h1, h2, h3, h4⟩ := hS; go_simp⟩) hS0 ?_
          refine wpAnyH_take (i := 1) (v := .slice (some ⟨b, off, none⟩) l.length cap) rfl (by kernel_rfl) (by kernel_rfl) (by kernel_rfl) (fun _ _ _ h => h) (.inl ⟨by rfl, fun w' hS => by obtain ⟨h1, h2, h3, h4⟩ := hS; go_simp⟩) hS0 ?_
          refine wpAnyH_take (i := 2) (v := .int .i64 (xk : Nat)) rfl (by kernel_rfl) (by kernel_rfl) (by kernel_rfl) (fun _ _ _ h => h) (.inl ⟨by rfl, fun w' hS => by obtain ⟨h1, h2, h3, h4⟩ := hS; go_simp⟩) hS0 ?_
          refine wpAnyH_take (i := 3) (v := .pointer (some ⟨b, off + xk * 2, none⟩)) rfl (by kernel_rfl) (by kernel_rfl) (by kernel_rfl) (fun _ _ _ h => h) (.inl ⟨by rfl, fun w' hS => by obtain ⟨h1, h2, h3, h4⟩ := hS; go_simp⟩) hS0 ?_
          refine wpAnyH_take (i := 4) (v := .pointer (some ⟨b, off + xk * 2, none⟩)) rfl (by kernel_rfl) (by kernel_rfl) (by kernel_rfl) (fun _ _ _ h => h) (.inl ⟨by rfl, fun w' hS => by obtain ⟨h1, h2, h3, h4⟩ := hS; go_simp⟩) hS0 ?_
          refine wpAnyH_take (i := 5) (v := .int .i64 tz) rfl (by kernel_rfl) (by kernel_rfl) (by kernel_rfl) (fun _ _ _ h => h) (.inl ⟨by rfl, fun w' hS => by obtain ⟨h1, h2, h3, h4⟩ := hS; go_simp⟩) hS0 ?_
          refine wpAnyH_take (i := 6) (v := .tuple #[.agg #[], .bool (Maps.has Dm (.int .i64 tz))]) rfl (by kernel_rfl) (by kernel_rfl) (by kernel_rfl) (fun _ _ _ h => h) (.inl ⟨by rfl, fun w' hS => by obtain ⟨h1, h2, h3, h4⟩ := hS; obtain ⟨v9, ps9, hr9, hv9⟩ := h4.look_ok lawI Try.underlying80 (zeroUL w') unitElem_mk (keyOf_int_mk Try.underlying3 WF.out); obtain ⟨rfl, _⟩ := unitElem_inv hv9; go_simp⟩) hS0 ?_
          refine wpAnyH_take (i := 7) (v := .tuple #[.agg #[], .bool (Maps.has Dm (.int .i64 tz))]) rfl (by kernel_rfl) (by kernel_rfl) (by kernel_rfl) (fun _ _ _ h => h) (.inl ⟨by rfl, fun w' hS => by obtain ⟨h1, h2, h3, h4⟩ := hS; go_simp⟩) hS0 ?_
          refine wpAnyH_take (i := 8) (v := .agg #[]) rfl (by kernel_rfl) (by kernel_rfl) (by kernel_rfl) (fun _ _ _ h => h) (.inl ⟨by rfl, fun w' hS => by obtain ⟨h1, h2, h3, h4⟩ := hS; go_simp⟩) hS0 ?_
          refine wpAnyH_take (i := 9) (v := .bool (Maps.has Dm (.int .i64 tz))) rfl (by kernel_rfl) (by kernel_rfl) (by kernel_rfl) (fun _ _ _ h => h) (.inl ⟨by rfl, fun w' hS => by obtain ⟨h1, h2, h3, h4⟩ := hS; go_simp⟩) hS0 ?_
          have hA6 : Below W5.drew.heap.size W5.drew (W5.drew.alloc (.cells #[] 81)) := (Below.refl _ _).alloc (Nat.le_refl _) _
          have hS1 : (W5.drew.alloc (.cells #[] 81)).cell? ⟨U + 1, 0, none⟩ = some (.map (some U)) ∧ (W5.drew.alloc (.cells #[] 81)).cell? ⟨w.heap.size, 0, none⟩ = some (.slice (some ⟨b, off, none⟩) l.length cap) ∧ (W5.drew.alloc (.cells #[] 81)).cell? ⟨b, off + xk * 2, none⟩ = some (.int .i64 tz) ∧ (W5.drew.alloc (.cells #[] 81)).ownsMap Try.prog 3 unitElem U os.length Dm :=
            ⟨(hA6.cell (p := ⟨U + 1, 0, none⟩) (cellInL hS0.1)).trans hS0.1, (hA6.cell (p := ⟨w.heap.size, 0, none⟩) (cellInL hS0.2.1)).trans hS0.2.1, (hA6.cell (p := ⟨b, off + xk * 2, none⟩) (cellInL hS0.2.2.1)).trans hS0.2.2.1, by
              obtain ⟨es, ck, q1, q2⟩ := hS0.2.2.2
              exact ⟨es, ck, (hA6.block U (Array.getElem?_eq_some_iff.1 q1).1).trans q1, q2⟩⟩
          have HS1 := Lib.hid hS1
          clear hS0 hS1 hA6
          refine wpAnyH_all (rs := [10]) (by kernel_rfl) (by simp) ?_
          intro i' hi'
          obtain rfl : i' = 10 := by simpa using hi'
          refine op_via rfl (by rfl) (fun K hK => ?_)
          go_simp
          refine hK _ _ ⟨HS1.out, ?_⟩
          clear hK K
          refine wpAnyH_all (rs := [11]) (by kernel_rfl) (by simp) ?_
          intro i' hi'
          obtain rfl : i' = 11 := by simpa using hi'
          refine op_via rfl (by rfl) (fun K hK => ?_)
          go_simp
          refine hK _ _ ⟨HS1.out, ?_⟩
          clear hK K
          refine wpAnyH_all (rs := [12]) (by kernel_rfl) (by simp) ?_
          intro i' hi'
          obtain rfl : i' = 12 := by simpa using hi'
          refine op_via rfl (by rfl) (fun K hK => ?_)
          go_simp
          refine hK _ _ ⟨HS1.out, ?_⟩
          clear hK K
          refine wpAnyH_done (by kernel_rfl) ?_ _
          simp only [Just]
          clear HS1
          by_cases hin : tz ∈ os
          · skip
            have t2 : Maps.has Dm (.int .i64 tz) = true := (hmp.has tz).2 hin
            have HSF3 := Lib.hid (show shF l (fun x => decide (x ∈ os)) (pre.map Pl.k ++ [xk]) = (zs ++ [(xk : Int)], q + 1) by rw [HSF2.out, if_pos (decide_eq_true hin)])
            have cD := HJ2.out.2.1.cell
            have fD := HJ2.out.2.1.frozen
            dsimp only at cD
            have cD5 : (W5.alloc (.cells #[] 81)).cell? ⟨X + 1, 0, none⟩ = some (.int .i64 q) := HJ6.out.2.1.cell
            have fD5 : (W5.alloc (.cells #[] 81)).frozen? ⟨X + 1, 0, none⟩ = false := HJ6.out.2.1.frozen
            have cD6 : (W5.alloc (.cells #[] 81)).drew.cell? ⟨X + 1, 0, none⟩ = some (.int .i64 q) := HJ6.out.2.1.cell
            have hX5 : X + 1 < W5.heap.size := by omega
            have HJ7 := Lib.hid (HJ6.out.setD (q + 1))
            have HKF := Lib.hid (KpR.t (KpR.t (KpR.of_below HWQ.out (by omega)) HK5.out) (KpR.t (KpR.of_below HA5.out (by omega)) (KpR.set (b1 := X + 2) (b2 := X + 3) (B := X) (p := ⟨X + 1, 0, none⟩) (.int .i64 (q + 1)) (by show X ≤ X + 1; omega) (by show X + 2 ≠ X + 1; omega) (by show X + 3 ≠ X + 1; omega))))
            have HOF := Lib.hid ((HO5.out.trans (keeps_belowL HA5.out)).trans (KeepsOthers.setCell _ ⟨X + 1, 0, none⟩ (.int .i64 (q + 1))))
            have HEQ : (W5.drew.alloc (.cells #[] 81)).setCell ⟨X + 1, 0, none⟩ (.int .i64 (q + 1)) = ((W5.setCell ⟨X + 1, 0, none⟩ (.int .i64 (q + 1))).alloc (.cells #[] 81)).drew :=
              (World.setCell_alloc_past (w := W5.drew) _ (X + 1) 0 _ hX5).trans rfl
            rw [HEQ] at HJ7 HKF HOF
            clear HEQ
            clear hin hmt
            rw [t2]
            clear t2
            gi_wp2
            refine ⟨HOF.out.from _, HKF.out, ?_⟩
            dsimp only
            rw [List.map_append, List.map_cons, List.map_nil, HSF3.out]
            exact HJ7.out
          · skip
            have t2 : Maps.has Dm (.int .i64 tz) = false := hmp.no hin
            have HSF3 := Lib.hid (show shF l (fun x => decide (x ∈ os)) (pre.map Pl.k ++ [xk]) = (zs ++ [(xk : Int)], q) by rw [HSF2.out, if_neg (by simpa using hin)])
            have HKF := Lib.hid (KpR.t (KpR.t (KpR.of_below HWQ.out (by omega)) HK5.out) (KpR.of_below HA5.out (by omega)))
            have HOF := Lib.hid (HO5.out.trans (keeps_belowL HA5.out))
            clear hin hmt
            rw [t2]
            clear t2
            gi_wp2
            refine ⟨HOF.out.from _, HKF.out, ?_⟩
            dsimp only
            rw [List.map_append, List.map_cons, List.map_nil, HSF3.out]
            exact HJ6.out
        · have t1 : d < q := by omega
          have HSF2 := Lib.hid (show shF l (fun x => decide (x ∈ os)) (pre.map Pl.k ++ [xk]) = (zs, d) by rw [HSF.out, if_neg hle])
          clear hle
          gi_wp2
          refine ⟨(keeps_belowL HWQ.out).from _, KpR.of_below HWQ.out (by omega), ?_⟩
          dsimp only
          rw [List.map_append, List.map_cons, List.map_nil, HSF2.out]
          exact HIQ.out
      case done =>
        rintro D ys W hD rfl ⟨⟨v, bV1, hr1, hne⟩, bD1, bL1, bN1, hB1⟩ hK
        have cV := bV1.cell
        rw [shown_all HG.out] at hr1
        have HR := Lib.hid hr1
        have HBx := Lib.hid (HBr.out.trans ((HA.out.trans hB1).mono (by have := HBr.out.size; have := HX.out; omega)))
        have HKK := Lib.hid hK
        clear hr1 hB1 hne hK bL1 bN1 bD1
        gi_wp2
        refine ⟨by simp, .inl ⟨_, _, rfl, run_takeDeferred HKK.out, ?_⟩⟩
        exact ⟨_, results_tmp2 rfl _ _ _, v, rfl, World.ownsRow.mono (ownsRow_putObj HR.out _ HKK.out rfl) (show w.heap.size ≤ X by omega), HBx.out.trans (belowK_b (w := w) (Nat.le_refl _) W D _ _ (by omega) HKK.out rfl rfl)⟩
      case stop =>
        rintro D c pre W _ _ h _
        exact h.elim
set_option maxRecDepth 100000 in
theorem shown_bad (l : List Ent) (v vo : Value) (w : World) (hv : RdE w v l) (hg : gdE l ≠ 0) : Calls Try.prog 34 #[v, vo] w (NewZ [] (gdE l) w) := by
  have hA0 : Below w.heap.size w (w.alloc (.cells #[v] 34)) := (Below.refl _ w).alloc (Nat.le_refl _) _
  have hq := may_pro l v _ (hv.below hA0)
  obtain ⟨pa, cap, rfl, hcl, hcm⟩ := hv.form
  obtain ⟨g, hgg⟩ : ∃ g, gdE l = g := ⟨_, rfl⟩
  rw [hgg] at hq hg ⊢
  have HQ := Lib.hid hq
  have HA0 := Lib.hid hA0
  have t1 : (g != 0) = true := by simpa using hg
  clear hv hq hcl hcm hgg hA0 hg
  go_enter Try.func34, Try.ntmps34
  go_wp2_with fail
  refine HQ.out.mono ?_
  rintro e w1 ⟨rfl, hb1⟩
  have HB := Lib.hid (HA0.out.trans (hb1.mono HA0.out.size))
  clear hb1
  go_wp2_with fail
  go_ret2
  exact NewZ.none _ _ _ HB.out
theorem shown_pro (l : List Ent) (v vo : Value) (os : List Int) (w : World) (hv : RdE w v l) (ho : RdZ w vo os) (hos : ∀ x ∈ os, (Lit.int .i64 x).wf = true) :
    Calls Try.prog 34 #[v, vo] w (NewZ (if gdE l = 0 then natZ (shownM l (fun x => decide (x ∈ os))) else []) (gdE l) w) := by
  by_cases h1 : gdE l = 0
  · rw [if_pos h1, h1]; exact callsIn_wide.1 (shown_yes l v vo os w hv ho hos (gd_of h1) h1)
  · rw [if_neg h1]; exact shown_bad l v vo w hv h1
end Go.Proofs.Ytjnnkelbedmccaa
