/- What is proved: TocTrees holds of any levels, any line and any name: the program's Tree answers what the document's does. Its condition: what comes in is of bulk at most 1048576 (the statement's second form; the first is false by size). -/
import Derived.Test.YtjnnkelbedmccaaTr5
import Derived.Test.YtjnnkelbedmccaaTop
import Derived.Test.YtjnnkelbedmccaaPost
import Derived.ProofKit
import Derived.OpenShut
import Derived.Deep.DeepHandedRow
namespace Go.Proofs.Ytjnnkelbedmccaa
open Go.ChangeShapes Go.WideShapes Go.ChangeAt Go.RowKit
open Go.ChangeMaps (open_string shut_string)
set_option linter.unusedVariables false
namespace tocTrees
theorem outT_len (ll : List (List Int)) : (outT ll).length ≤ 1000 := by
  unfold outT
  split
  · simp
  · rename_i h
    split
    · rename_i o t e
      have := (trT_ok e).len
      unfold cntL at h
      omega
    · simp
set_option maxRecDepth 100000 in
set_option maxHeartbeats 16000000 in
theorem walk (v : Value) (ll : List (List Int)) (ln : Int) (nm : ByteArray) (W : World) (hs : RdLs W v ll) (hsz : cntL ll ≤ 1048576 ∧ ll.length ≤ 1048576) (hln : (Lit.int .i64 ln).wf = true) (hnm : nm.size ≤ 1048576) :
    Calls Try.prog 3 #[v, .int .i64 ln, .string nm] W fun e W' => e = .returned (.bool true) ∧ Below W.heap.size W W' := by
  have mixed : Try.prog.follows .mixedOrders = true := by kernel_rfl
  obtain ⟨i0, hi0, hz0, hz1, hz2⟩ := info_parts infoTo
  obtain ⟨i1, hj0, hy0, hy1, hy2⟩ := info_parts infoSo
  obtain ⟨pa, cap, rfl⟩ := hs.form
  have HR := Lib.hid hs
  have HSZ := Lib.hid hsz
  obtain ⟨n, hn⟩ : ∃ n, ll.length = n := ⟨_, rfl⟩
  have HN := Lib.hid hn
  have hn9 : n ≤ 1048576 := by have := hsz.2; omega
  rw [hn] at HR ⊢
  clear hs hsz hn hln hnm
  go_enter Try.func3, Try.ntmps3
  go_wp2_with fail
  go_loopw [7, 8] (fun s7 s8 wr => ∃ (i : Nat) (tvs : List Value), s8 = .int .i64 (i : Nat) ∧ i ≤ n ∧ Hid (LO ln nm W.heap.size wr s7 (ll.take i) tvs) ∧ Hid (Below W.heap.size W wr)) (fun _ s _ => n - (intOf s).toNat)
  case atStart => exact ⟨0, [], rfl, Nat.zero_le _, Lib.hid ⟨rfl, World.ownsRow_nil _ _ _ _, fun j hj => absurd hj (by simp)⟩, Lib.hid (Below.refl _ _)⟩
  case round =>
    obtain ⟨i, tvs, rfl, hi, HO, HB⟩ := hrel
    have hti : (ll.take i).length = i := by rw [List.length_take, HN.out]; omega
    obtain ⟨pv, cv, hvv⟩ := lenL HO.out.row
    subst hvv
    rw [hti] at HO ⊢
    by_cases hlt : i < n
    · have hil : i < ll.length := by rw [HN.out]; exact hlt
      obtain ⟨b, off, pz, cz, rfl, c1, hz⟩ := HR.out.cell hil
      obtain ⟨zs, hzs⟩ : ∃ zs, ll[i] = zs := ⟨_, rfl⟩
      have HTK := Lib.hid (show ll.take (i + 1) = ll.take i ++ [zs] by rw [List.take_succ_eq_append_getElem hil, hzs])
      have hml : zs.length ≤ 1048576 := by rw [← hzs]; have := flT_in hil (Nat.le_refl _); have := HSZ.out.1; omega
      rw [hzs] at c1 hz
      have HZ := Lib.hid hz
      have HC := Lib.hid c1
      obtain ⟨m, hm⟩ : ∃ m, zs.length = m := ⟨_, rfl⟩
      have HM := Lib.hid hm
      rw [hm] at HZ HC hml
      have hi1 : (i : Int) < n := by omega
      have HLT := Lib.hid hlt
      have HTI := Lib.hid hti
      obtain ⟨wo, rfl⟩ : ∃ wo : World, wo = wr := ⟨_, rfl⟩
      have HX0 := Lib.hid (World.alloc_heap_new wo (.cells #[.slice none 0 0, .slice none 0 0] 27))
      have HB0 := Lib.hid ((Below.refl wo.heap.size wo).alloc (Nat.le_refl _) (.cells #[.slice none 0 0, .slice none 0 0] 27))
      clear hil hzs hm hlt c1 hz hti
      go_wp2_with fail
      obtain ⟨X, hX⟩ : ∃ X, wo.heap.size = X := ⟨_, rfl⟩
      have HXE := Lib.hid hX
      rw [hX] at HX0 HB0 ⊢
      clear hX
      go_loopw [10] (fun s10 wi => ∃ (k : Nat) (tv : Value), s10 = .int .i64 (k : Nat) ∧ k ≤ m ∧ Hid (wi.heap[X]? = some (.cells #[.slice none 0 0, tv] 27 (0, 0))) ∧ Hid (wi.ownsRow (X + 1) 33 8 tv k (rowsT ln nm (zs.take k))) ∧ Hid (Below X wo wi)) (fun s _ => m - (intOf s).toNat)
      case atStart => exact ⟨0, .slice none 0 0, rfl, Nat.zero_le _, HX0, Lib.hid (World.ownsRow_nil _ _ _ _), HB0⟩
      case round =>
        clear HX0 HB0
        obtain ⟨k, tv, rfl, hk, HX, HT, HBi⟩ := hrel
        obtain ⟨pt, ct, hvt⟩ := lenL HT.out
        subst hvt
        have hbt := HB.out.trans (HBi.out.mono (by have := HXE.out; have := HB.out.size; omega))
        have c1 := (hbt.cell (p := ⟨b, off + i, none⟩) (cellInL HC.out)).trans HC.out
        have HZi := Lib.hid (HZ.out.below hbt)
        have hi9 : i ≤ 1048576 := by have := HLT.out; omega
        have hk9 : k ≤ 1048576 := by omega
        clear hbt
        by_cases hlt : k < m
        · have hkz : k < zs.length := by rw [HM.out]; exact hlt
          obtain ⟨b2, off2, rfl, c2⟩ := HZi.out.cell hkz
          have HTK2 := Lib.hid (show zs.take (k + 1) = zs.take k ++ [zs[k]] from List.take_succ_eq_append_getElem hkz)
          obtain ⟨z, hz⟩ : ∃ z, zs[k] = z := ⟨_, rfl⟩
          rw [hz] at c2 HTK2
          have hk1 : (k : Int) < m := by omega
          have HLTK := Lib.hid hlt
          obtain ⟨wi, rfl⟩ : ∃ wi : World, wi = wr := ⟨_, rfl⟩
          have d1 : wi.cell? ⟨X, 1, none⟩ = some (.slice pt k ct) := by rw [cell_of_row _ _ _ _ _ _ HX.out]; rfl
          have f1 : wi.frozen? ⟨X, 1, none⟩ = false := frozen_of_row wi X 1 _ _ HX.out
          have hXl : X < wi.heap.size := (Array.getElem?_eq_some_iff.1 HX.out).1
          have M1 := Lib.hid (show k + 1 ≤ maxLen by unfold maxLen; omega)
          have M2 := Lib.hid (show (k + 1) * 128 ≤ 140737488355328 by omega)
          have M3 := Lib.hid (show X + 1 ≤ (wi.drew.alloc (.cells #[.int .i64 0, .string nm, .string ⟨#[]⟩, .int .i64 z, .slice none 0 0, .slice none 0 0, .slice none 0 0, .int .i64 ln] 33)).heap.size by simp; omega)
          clear hkz hz hlt
          go_wp2_with fail
          go_region_law (refine step_append_lies _ rfl (.tmp 31) (.tmp 42) 25 rfl (X + 1) 33 i0 (.agg #[.int .i64 0, .string ⟨#[]⟩, .string ⟨#[]⟩, .int .i64 0, .slice none 0 0, .slice none 0 0, .slice none 0 0, .int .i64 0]) 8 128 Try.underlying25 hi0 hz0 hz1 hz2 rfl (by decide) _ k _ (by simp [Act.eval]) ((show wi.drew.ownsRow _ _ _ _ _ _ from HT.out).alloc _) ⟨wi.heap.size, 0, none⟩ 1 1 (tRow ln nm z) (by simp [Act.eval]) rfl (cells_newL _ _ _) (tRow_one ln nm z) (by decide) M1.out M2.out M3.out _ rfl ?_; intro g cap3 w3 hown' hgrow _ _; have HO1 := Lib.hid hown'; have HG1 := Lib.hid hgrow; have hX3 : w3.heap[X]? = some (.cells #[.slice none 0 0, .slice pt k ct] 27 (0, 0)) := (HG1.out.block X (by simp; omega) (fun e => by have := (own_base HT.out e.symm).1; omega)).trans ((Below.heap_alloc wi.drew _ X hXl).trans HX.out); have d3 : w3.cell? ⟨X, 1, none⟩ = some (.slice pt k ct) := (by rw [cell_of_row _ _ _ _ _ _ hX3]; rfl); have f3 : w3.frozen? ⟨X, 1, none⟩ = false := frozen_of_row w3 X 1 _ _ hX3; have HX3 := Lib.hid hX3; clear hown' hgrow hX3)
          all_goals
            go_wp2_with fail
            go_roundw
          all_goals first
            | (refine ⟨k + 1, .slice (some ⟨g, 0, none⟩) (k + 1) cap3, by go_num, HLTK.out, Lib.hid (heap_setCell_same w3 X 1 _ _ _ HX3.out), Lib.hid (own_stays ?_ fun c e => Below.heap_setCell _ _ _ _ (by have := (own_base HO1.out e).1; simp; omega)), Lib.hid (((HBi.out.drew.alloc (Nat.le_of_lt hXl) _).grown HG1.out (by simp; omega) (fun r e => by have := (own_base HT.out e).1; omega)).setCell (p := ⟨X, 1, none⟩) (Nat.le_refl _) _)⟩; rw [HTK2.out, rowsT_snoc]; exact HO1.out)
            | (have := HLTK.out; simp [intOf]; done)
            | (have := HLTK.out; simp [intOf]; omega)
        · obtain rfl : k = m := by omega
          have hlz : ¬ ((k : Int) < k) := by omega
          obtain ⟨wi, rfl⟩ : ∃ wi : World, wi = wr := ⟨_, rfl⟩
          have d0 : wi.cell? ⟨X, 0, none⟩ = some (.slice none 0 0) := by rw [cell_of_row _ _ _ _ _ _ HX.out]; rfl
          have d1 : wi.cell? ⟨X, 1, none⟩ = some (.slice pt k ct) := by rw [cell_of_row _ _ _ _ _ _ HX.out]; rfl
          have hXl : X < wi.heap.size := (Array.getElem?_eq_some_iff.1 HX.out).1
          have hWX : W.heap.size ≤ X := by have := HB.out.size; have := HXE.out; omega
          have HOi := Lib.hid (HO.out.below (by rw [HXE.out]; exact HBi.out))
          have hrow := HOi.out.row
          rw [HTI.out] at hrow
          have HROW := Lib.hid hrow
          have hti := HT.out
          rw [← HM.out, List.take_length] at hti
          have HTI2 := Lib.hid (hti.mono (base' := W.heap.size) (by omega))
          have HBB := Lib.hid (HB.out.trans (HBi.out.mono hWX))
          have M1 := Lib.hid (show i + 1 ≤ maxLen by unfold maxLen; have := HLT.out; omega)
          have M2 := Lib.hid (show (i + 1) * 48 ≤ 140737488355328 by have := HLT.out; omega)
          have M3 := Lib.hid (show W.heap.size ≤ (wi.alloc (.cells #[.slice none 0 0, .slice pt k ct] 27)).heap.size by simp; omega)
          clear hlt hrow hti hXl hWX
          go_wp2_with (at_builtin; go_loud (refine wpList_append_own_at _ rfl _ _ 23 rfl W.heap.size 27 i1 (.agg #[.slice none 0 0, .slice none 0 0]) 2 48 Try.underlying23 hj0 hy0 hy1 hy2 rfl (by decide) _ _ _ rfl (HROW.out.alloc _) ⟨wi.heap.size, 0, none⟩ 1 1 (sRow (.slice pt k ct)) rfl rfl (cells_newL _ _ _) (by intro u hu; simp [sRow] at hu; rcases hu with rfl | rfl <;> rfl) M1.out M2.out M3.out ?_); intro v' w3 hown' hgrow _ hat; have HO1 := Lib.hid hown'; have HG1 := Lib.hid hgrow; clear hown' hgrow hat)
          go_roundw
          case measure => have := HLT.out; first | (simp [intOf]; done) | (simp [intOf]; omega)
          case rel =>
            refine ⟨i + 1, tvs ++ [.slice pt k ct], by go_num, HLT.out, ?_, Lib.hid ((HBB.out.alloc HBB.out.size _).grown HG1.out M3.out (fun r e => (own_base HROW.out e).1))⟩
            rw [HTK.out]
            refine Lib.hid (HOi.out.push (by rw [HM.out] at HTI2 ⊢; exact HTI2.out) HG1.out ?_)
            rw [HTI.out]
            exact HO1.out
    · obtain rfl : i = n := by omega
      have hlz : ¬ ((i : Int) < i) := by omega
      have hrd := HO.out.read
      rw [← HN.out, List.take_length, HN.out] at hrd
      have HQ := Lib.hid (tree_pro ln nm ll _ wr hrd HSZ.out.1 HSZ.out.2)
      have HRD := Lib.hid hrd
      clear hlt hrd hti
      go_wp2_with fail
      refine HQ.out.mono ?_
      rintro e w1 ⟨va, ev, rfl, hra, herr, hb⟩
      have HRA := Lib.hid hra
      have HER := Lib.hid herr
      have HQ2 := Lib.hid (dtree_ref ln nm ll _ w1 (HRD.out.below hb) HSZ.out.1 HSZ.out.2)
      have HB1 := Lib.hid (HB.out.trans (hb.mono HB.out.size))
      clear hra herr hb
      go_wp2_with fail
      refine HQ2.out.mono ?_
      rintro e w2 ⟨vb, rfl, hrb, hb⟩
      have HRA2 := Lib.hid (HRA.out.below hb)
      have HER2 := Lib.hid (show ErrOf (wrT ln nm ll) w2 ev from by
        rcases HER.out with ⟨h1, h2⟩ | ⟨h1, g, h2, h3⟩
        · exact .inl ⟨h1, h2⟩
        · exact .inr ⟨h1, g, h2, h3.below hb⟩)
      have HRB := Lib.hid hrb
      have HB2 := Lib.hid (HB1.out.trans (hb.mono HB1.out.size))
      clear hrb hb HRA HER HQ HQ2 HRD HB1
      obtain ⟨f, hf⟩ : ∃ f, wrT ln nm ll = f := ⟨_, rfl⟩
      rw [hf] at HER2 ⊢
      clear hf
      have hA : Below w2.heap.size w2 (w2.alloc (.cells #[.int .i64 f.code, .int .i64 f.source, .int .i64 f.line, .int .i64 f.col, .string f.word] 40)) := (Below.refl _ _).alloc (Nat.le_refl _) _
      have HX := Lib.hid (World.alloc_heap_new w2 (.cells #[.int .i64 f.code, .int .i64 f.source, .int .i64 f.line, .int .i64 f.col, .string f.word] 40))
      have HQ3 := Lib.hid (entries_law (outT ll) va vb _ (HRA2.out.below hA) (HRB.out.below hA) (outT_len ll))
      have HER3 := Lib.hid (show ErrOf f (w2.alloc (.cells #[.int .i64 f.code, .int .i64 f.source, .int .i64 f.line, .int .i64 f.col, .string f.word] 40)) ev from by
        rcases HER2.out with ⟨h1, h2⟩ | ⟨h1, g, h2, h3⟩
        · exact .inl ⟨h1, h2⟩
        · exact .inr ⟨h1, g, h2, h3.below hA⟩)
      have HB3 := Lib.hid (HB2.out.trans (hA.mono HB2.out.size))
      have HSX := Lib.hid (show w2.heap.size < (w2.alloc (.cells #[.int .i64 f.code, .int .i64 f.source, .int .i64 f.line, .int .i64 f.col, .string f.word] 40)).heap.size by simp)
      unfold wrV
      clear hA HRA2 HRB HER2 HB2
      go_wp2_with fail
      refine HQ3.out.mono ?_
      rintro e w4 ⟨rfl, hb⟩
      have HX4 := Lib.hid ((hb.block w2.heap.size HSX.out).trans HX.out)
      have HTD := Lib.hid (told_law f ev w4 (by
        rcases HER3.out with ⟨h1, h2⟩ | ⟨h1, g, h2, h3⟩
        · exact .inl ⟨h1, h2⟩
        · exact .inr ⟨h1, g, h2, h3.below hb⟩))
      have HB4 := Lib.hid (HB3.out.trans (hb.mono HB3.out.size))
      clear hb HQ3 HER3 HX HB3
      have cx : ∀ k u, (#[.int .i64 f.code, .int .i64 f.source, .int .i64 f.line, .int .i64 f.col, .string f.word] : Array Value)[k]? = some u → w4.cell? ⟨w2.heap.size, k, none⟩ = some u := fun k u hu => by rw [cell_of_row _ _ _ _ _ _ HX4.out, hu]
      have c0 := cx 0 _ rfl
      have c1 := cx 1 _ rfl
      have c2 := cx 2 _ rfl
      have c3 := cx 3 _ rfl
      have c4 := cx 4 _ rfl
      clear cx
      unfold wrV at HTD
      go_wp2_with fail
      refine HTD.out.mono ?_
      rintro e w5 ⟨rfl, hb⟩
      have HB5 := Lib.hid (HB4.out.trans (hb.mono HB4.out.size))
      clear hb HTD HB4 c0 c1 c2 c3 c4 HX4
      go_wp2_with fail
      refine (awake_law _).mono ?_
      rintro e w6 ⟨rfl, hb⟩
      have HB6 := Lib.hid (HB5.out.trans (hb.mono HB5.out.size))
      clear hb HB5
      go_wp2_with fail
      go_ret
      exact ⟨rfl, HB6.out⟩

set_option maxRecDepth 100000 in
theorem contract (H : Type) (enc : TypeId × Value → H) (W : World) (base : Nat) (args : Array Value) (ds gs : List (DataW H)) (before : List MemPlace)
    (hval : ∀ (j : Nat) t v, Try.f3.params[j]? = some t → args[j]? = some v → Value.okWide Try.prog W .any base t v)
    (hW : DataW.Whole enc Try.prog Try.f3.params.toList Rows.tocTreesSpec.vars false W args.toList ds gs before) (hk : Rows.uptoSmall H (ds ++ gs) = true) :
    Calls Try.prog 3 args W fun e W' => ∃ v, e = .returned v ∧ Rows.tocTreesSpec.post enc Try.prog Try.f3 false true false false W args v W' := by
  have hW' := hW
  obtain ⟨p, q, hA0, hV, rfl, hfz, hnd⟩ := hW
  have hA : DataW.TrodAll enc Try.prog W 0 (fun _ => true) true Try.f3.params.toList args.toList ds p := hA0
  rw [Try.params3] at hA hval
  obtain ⟨v0, vs0, d0, ds0, p0, q0, hargs, rfl, rfl, h0, r0⟩ := trodAll_cons hA
  obtain ⟨v1, vs1, d1, ds1, p1, q1, rfl, rfl, rfl, h1, r1⟩ := trodAll_cons r0
  obtain ⟨v2, vs2, d2, ds2, p2, q2, rfl, rfl, rfl, h2, r2⟩ := trodAll_cons r1
  obtain ⟨rfl, rfl, rfl⟩ := trodAll_nil r2
  obtain rfl : args = #[v0, v1, v2] := by cases args; simp_all
  obtain ⟨rfl, rfl⟩ := trodVars_none hV
  have hk0 := h0
  obtain ⟨l0, hR0, hD0⟩ := lists_read h0 (okWide_slice Try.underlying22 (hval 0 22 v0 rfl rfl))
  obtain ⟨a1, rfl, rfl, rfl, w1⟩ := open_int Try.underlying3 (hval 1 3 v1 rfl rfl) h1
  obtain ⟨s2, rfl, rfl, rfl, hm2⟩ := open_string Try.underlying9 (hval 2 9 v2 rfl rfl) h2
  clear hA0
  simp only [List.append_nil] at hk
  have hb0 := of_decide_eq_true hk
  simp only [Rows.uptoBulkAll, Rows.uptoBulk] at hb0
  have size0 := lists_bulk hD0 (n := 1048576) (by omega)
  have size2 : s2.size ≤ 1048576 := by
    have e : s2.data.toList.length = s2.size := by rw [Array.length_toList]; rfl
    omega
  refine (walk v0 l0 a1 s2 W hR0 size0 w1 size2).mono fun e W' ⟨he, hg⟩ => ?_
  subst he
  have hlt := hW'.lt
  exact ⟨_, rfl, post_of_below (pa := (p0 ++ ([] ++ ([] ++ [])))) (pv := []) hW' (fun _ _ _ => trodAll_cons_mk (shut_bool Try.underlying4 _) trodAll_mk0) (fun sp hsp => (trodAll_cons_mk (Go.WideElems.Trod_stays (by kernel_rfl) (by kernel_rfl) (of_decide_eq_true (by kernel_rfl)) hk0 (fun p hp => hg.same (hlt p (by simp [hp]))) (fun p hp => hsp p (by simp [hp]))) (trodAll_cons_mk (shut_int Try.underlying3 w1) (trodAll_cons_mk (shut_string Try.underlying9 hm2) trodAll_mk0)))) (fun _ _ => rfl) rfl hg (ok_one (by kernel_rfl) rfl (okWide_bool_mk Try.underlying4 _))⟩

theorem witness_row (os : Os) {H : Type} (enc : TypeId × Value → H) :
    (Rows.OpenSpec.upto Rows.tocTreesSpec).preRow enc Try.prog Try.f3 Rows.tocTreesUptoRow.domain false Rows.tocTreesUptoRow.laid ((laidWorld os).forCall (fun _ _ => 0) ⟨#[], #[.slice none 0 0, .int .i64 0, .string .empty], []⟩).memory #[.slice none 0 0, .int .i64 0, .string .empty] := by
  have hw : (DataW.whole enc Try.prog ((laidWorld os).forCall (fun _ _ => 0) ⟨#[], #[.slice none 0 0, .int .i64 0, .string .empty], []⟩).memory Try.f3.params.toList Rows.tocTreesSpec.vars false (#[.slice none 0 0, .int .i64 0, .string .empty] : Array Value).toList 8).map (fun x => (x.1, x.2.1)) =
      some ([.nil, .lit (.int .i64 0), .lit (.string [])], []) := by kernel_rfl
  obtain ⟨⟨x1, x2, x3⟩, hx, hx1⟩ := Option.map_eq_some_iff.1 hw
  simp only [Prod.mk.injEq] at hx1
  obtain ⟨rfl, rfl⟩ := hx1
  exact OpenSpec.preRow_of_cond 8 hx (by kernel_rfl) (fun k hk => by cases hk; kernel_rfl) (by kernel_rfl) (laid_met _)

set_option maxRecDepth 100000 in
theorem lifted (os : Os) (started : os.Started) (H : Type) (enc : TypeId × Value → H) (F : Stop.Interp) :
    ReturnsInHanded {} Try.checked os 3 .any ((Rows.OpenSpec.upto Rows.tocTreesSpec).preRow enc Try.prog Try.f3 Rows.tocTreesUptoRow.domain false Rows.tocTreesUptoRow.laid) (((Rows.OpenSpec.upto Rows.tocTreesSpec).at F).post enc Try.prog Try.f3 false true false false) := by
  refine returnsInHanded_of_row (C := Try.checked) (s := (Rows.OpenSpec.upto Rows.tocTreesSpec)) own started (by kernel_rfl) Try.func3
    (witness_row_at (enc := enc) (C := Try.checked) false (laidWorld os) #[.slice none 0 0, .int .i64 0, .string .empty] rfl (by kernel_rfl) (by kernel_rfl) (by kernel_rfl) (witness_row os enc)) ?_
  intro W base args ds gs before hval hW _ hcond hsz hL hS _
  exact contract H enc W base args ds gs before hval hW (hcond _ rfl)

set_option maxHeartbeats 16000000 in
theorem closed : joinedFacts Try.pinned.checked.prog 3 Try.f3 ((Rows.OpenSpec.upto Rows.tocTreesSpec)).bare Rows.tocTreesUptoRow = true := by
  unfold joinedFacts
  repeat' (with_reducible refine Bool.and_eq_true_iff.2 ⟨?_, ?_⟩)
  all_goals (as_aux_lemma => kernel_rfl)
theorem named : Try.pinned.checked.prog.funcNamed Rows.tocTreesUptoRow.func = some 3 := by kernel_rfl
theorem inst : (Try.f3).isInstance Try.pinned.checked.prog Rows.tocTreesUptoRow.origin Rows.tocTreesUptoRow.targs := of_decide_eq_true (by kernel_rfl)
theorem wrap : (Try.f3).isWrapper Try.pinned.checked.prog Rows.tocTreesUptoRow.wrapper Rows.tocTreesUptoRow.mainSum := by
  unfold Func.isWrapper
  first | (rw [if_pos (by decide +kernel)]; kernel_rfl) | (rw [if_neg (by decide +kernel)]; exact ⟨rfl, rfl⟩)
theorem row : Rows.TocTreesUptoSaid :=
  OpenClaim.holds_of_cond 3 Try.f3 rfl rfl rfl rfl rfl rfl rfl ⟨rfl, rfl, rfl, rfl, rfl⟩ rfl rfl rfl rfl rfl named Try.func3 closed inst wrap
    (fun os started H enc _ F => by rw [OpenClaim.pre_eq_preRow]; exact lifted os started H enc F)

theorem proved : Rows.TocTreesUptoSaid := row
end Go.Proofs.Ytjnnkelbedmccaa.tocTrees
