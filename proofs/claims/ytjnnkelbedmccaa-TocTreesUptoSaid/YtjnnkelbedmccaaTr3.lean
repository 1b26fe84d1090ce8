/- Layer 10: the document's Tree. -/
import Derived.Test.YtjnnkelbedmccaaTr2
import Derived.Test.YtjnnkelbedmccaaRound
import Derived.Laws.Rows
namespace Go.Proofs.Ytjnnkelbedmccaa
open Go.RowKit Go.Maps Go.Sort
set_option linter.unusedVariables false
def resW : Obj := .cells #[.int .i64 0, .int .i64 0, .int .i64 0, .int .i64 0, .string ⟨#[]⟩] 40
def wrV (f : Flt) : Value := .agg #[.int .i64 f.code, .int .i64 f.source, .int .i64 f.line, .int .i64 f.col, .string f.word]
def DTreeIs (ln : Int) (nm : ByteArray) (ll : List (List Int)) (w : World) (e : Ending) (w' : World) : Prop :=
  ∃ v, e = .returned (.tuple #[v, wrV (wrT ln nm ll)]) ∧ RdE w' v (outT ll) ∧ Below w.heap.size w w'
theorem told5 (w : World) (g : Nat) (a0 a1 a2 a3 a4 v0 v1 v2 v3 v4 : Value) (t : TypeId) (h : w.heap[g]? = some (.cells #[a0, a1, a2, a3, a4] t (0, 0))) :
    (((((w.setCell ⟨g, 0, none⟩ v0).setCell ⟨g, 1, none⟩ v1).setCell ⟨g, 2, none⟩ v2).setCell ⟨g, 3, none⟩ v3).setCell ⟨g, 4, none⟩ v4).heap[g]? = some (.cells #[v0, v1, v2, v3, v4] t (0, 0)) :=
  heap_setCell_same _ g 4 _ t v4 (heap_setCell_same _ g 3 _ t v3 (heap_setCell_same _ g 2 _ t v2 (heap_setCell_same _ g 1 _ t v1 (heap_setCell_same _ g 0 _ t v0 h))))
theorem set5_below (w1 : World) (g : Nat) (v0 v1 v2 v3 v4 : Value) {B : Nat} (hB : B ≤ g) {w : World} (h : Below B w w1) :
    Below B w (((((w1.setCell ⟨g, 0, none⟩ v0).setCell ⟨g, 1, none⟩ v1).setCell ⟨g, 2, none⟩ v2).setCell ⟨g, 3, none⟩ v3).setCell ⟨g, 4, none⟩ v4) :=
  ((((h.setCell (p := ⟨g, 0, none⟩) hB _).setCell (p := ⟨g, 1, none⟩) hB _).setCell (p := ⟨g, 2, none⟩) hB _).setCell (p := ⟨g, 3, none⟩) hB _).setCell (p := ⟨g, 4, none⟩) hB _
theorem set5_heap (W : World) (g : Nat) (v0 v1 v2 v3 v4 : Value) {c : Nat} (hc : c ≠ g) : (((((W.setCell ⟨g, 0, none⟩ v0).setCell ⟨g, 1, none⟩ v1).setCell ⟨g, 2, none⟩ v2).setCell ⟨g, 3, none⟩ v3).setCell ⟨g, 4, none⟩ v4).heap[c]? = W.heap[c]? := by
  iterate 5 (rw [Below.heap_setCell _ _ _ _ hc])
theorem resW_cells {W : World} {g : Nat} (h : W.heap[g]? = some resW) : (W.cell? ⟨g, 0, none⟩ = some (.int .i64 0) ∧ W.cell? ⟨g, 1, none⟩ = some (.int .i64 0) ∧ W.cell? ⟨g, 2, none⟩ = some (.int .i64 0) ∧ W.cell? ⟨g, 3, none⟩ = some (.int .i64 0) ∧ W.cell? ⟨g, 4, none⟩ = some (.string .empty)) ∧ ∀ i, W.frozen? ⟨g, i, none⟩ = false := by
  unfold resW at h
  refine ⟨⟨?_, ?_, ?_, ?_, ?_⟩, fun i => frozen_of_row W g i _ _ h⟩ <;> (rw [cell_of_row _ g _ _ _ _ h]; rfl)
/-- What stands while the document goes through sources. -/
structure DT (w : World) (l : List Ent) (dv : Value) (W : World) : Prop where
  own : W.ownsRow w.heap.size 67 2 dv l.length (rowsE l)
  bl : Below w.heap.size w W
  res : W.heap[w.heap.size]? = some resW
theorem DT.below {w W W' : World} {l : List Ent} {dv : Value} (h : DT w l dv W) (hb : Below W.heap.size W W') : DT w l dv W' :=
  ⟨own_stays h.own fun c e => hb.block c (own_base h.own e).2, h.bl.trans (hb.mono h.bl.size), (hb.block _ (Array.getElem?_eq_some_iff.1 h.res).1).trans h.res⟩
theorem DT.not {w W : World} {l : List Ent} {dv : Value} (h : DT w l dv W) : dv.ownBlock ≠ some w.heap.size := by
  intro e
  rcases h.own.2 with ⟨rfl, _⟩ | ⟨g, cap, cur, rfl, hb, hg, _⟩
  · cases e
  · injection e with e
    subst e
    rw [h.res] at hg
    unfold resW at hg
    injection hg with hg
    injection hg with _ h2 _
    exact absurd h2 (by decide)
theorem DT.push {w W W' : World} {l : List Ent} {x : Ent} {dv dv' : Value} {o : Obj} (h : DT w l dv W) (hg : (W.alloc o).grownBy W' dv.ownBlock) (hown : W'.ownsRow w.heap.size 67 2 dv' (l.length + 1) (rowsE l ++ entRow x)) : DT w (l ++ [x]) dv' W' := by
  have hA : Below W.heap.size W (W.alloc o) := (Below.refl _ W).alloc (Nat.le_refl _) _
  have hlt := (Array.getElem?_eq_some_iff.1 h.res).1
  refine ⟨by rw [List.length_append, rowsE_snoc]; exact hown, ?_, ((hg.block _ (by simp; omega) (fun e => h.not e.symm)).trans (hA.block _ hlt)).trans h.res⟩
  exact (h.bl.alloc h.bl.size o).grown hg (by have := h.bl.size; simp; omega) (fun r e => (own_base h.own e).1)
set_option maxRecDepth 100000 in
set_option maxHeartbeats 8000000 in
theorem dtree_ref (ln : Int) (nm : ByteArray) (ll : List (List Int)) (v : Value) (w : World) (h : RdSs ln nm w v ll) (hm : cntL ll ≤ 1048576) (hl : ll.length ≤ 1048576) :
    Calls Try.prog 10 #[v] w (DTreeIs ln nm ll w) := by
  obtain ⟨i0, hi0, hz0, hz1, hz2⟩ := info_parts infoE
  obtain ⟨pa, cap, rfl⟩ := h.form
  have HR := Lib.hid h
  have HL := Lib.hid hl
  obtain ⟨n, hn⟩ : ∃ n, ll.length = n := ⟨_, rfl⟩
  have HN := Lib.hid hn
  obtain ⟨c, hc⟩ : ∃ c, cntL ll = c := ⟨_, rfl⟩
  have HC := Lib.hid hc
  have HM := Lib.hid (show c ≤ 1048576 by omega)
  rw [hn] at HR HL ⊢
  have HA0 := Lib.hid ((Below.refl w.heap.size w).alloc (Nat.le_refl _) resW)
  have HX0 := Lib.hid (World.alloc_heap_new w resW)
  clear h hl hm hn hc
  go_enter Try.func10, Try.ntmps10
  go_wp2_with fail
  have HD0 := Lib.hid (show DT w [] (.slice none 0 0) (w.alloc resW) from ⟨World.ownsRow_nil _ _ _ _, HA0.out, HX0.out⟩)
  unfold resW at HD0
  go_loopw [4, 5] (fun nv i wr => ∃ k : Nat, i = .int .i64 k ∧ k ≤ n ∧ nv = .int .i64 ((flT ll k).length : Nat) ∧ Hid (DT w [] (.slice none 0 0) wr)) (fun _ i _ => n - (intOf i).toNat)
  case atStart => exact ⟨0, rfl, Nat.zero_le _, rfl, HD0⟩
  case round =>
    clear HD0 HA0 HX0
    obtain ⟨k, rfl, hk, rfl, HS⟩ := hrel
    have h1 := flT_cnt ll k
    have h2 := HM.out
    rw [HC.out] at h1
    obtain ⟨c1, hc1⟩ : ∃ c1, (flT ll k).length = c1 := ⟨_, rfl⟩
    have HCC := Lib.hid hc1
    rw [hc1] at h1 ⊢
    clear hc1
    by_cases hlt : k < n
    · have hkl : k < ll.length := by rw [HN.out]; exact hlt
      obtain ⟨b, off, pt, ct, rfl, d1, d2, ht⟩ := HR.out.cell hkl
      replace d2 := (HS.out.bl.cell (p := ⟨b, off + k * 2 + 1, none⟩) (cellInL d2)).trans d2
      have hcs := flT_succ hkl
      have h3 := flT_in hkl (Nat.le_refl _)
      rw [HCC.out, HC.out] at h3
      obtain ⟨m, hm⟩ : ∃ m, ll[k].length = m := ⟨_, rfl⟩
      have HX := Lib.hid (show (flT ll (k + 1)).length = c1 + m by rw [hcs, List.length_append, HCC.out, hm])
      rw [hm] at d2 h3
      have v1 : IntKind.i64.wrap ((c1 : Int) + m) = c1 + m := IntWalk.i64_in _ (by omega)
      have hk9 : k ≤ 1048576 := by have := HL.out; omega
      have hk1 : (k : Int) < n := by omega
      have HLT := Lib.hid hlt
      clear ht hcs h3 hm hkl hlt d1
      go_wp2_with fail
      go_roundw
      case measure => have := HLT.out; simp [intOf]; omega
      case rel => exact ⟨k + 1, by go_num, HLT.out, by rw [HX.out]; go_num, HS⟩
    · obtain rfl : k = n := by omega
      have hlz : ¬ ((k : Int) < k) := by omega
      have HE := Lib.hid (show c = c1 by rw [← HC.out, ← HCC.out, ← HN.out, flT_all]; rfl)
      clear hlt h1 h2 hk
      by_cases hlong : 1000 < c1
      · have hp : (1000 : Int) < c1 := by omega
        have HT := Lib.hid (tree_long (ll := ll) (by rw [HC.out, HE.out]; exact hlong) ln nm)
        obtain ⟨⟨z0, z1, z2, z3, z4⟩, zf⟩ := resW_cells HS.out.res
        have fz0 := zf 0
        have fz1 := zf 1
        have fz2 := zf 2
        have fz3 := zf 3
        have fz4 := zf 4
        obtain ⟨w1, rfl⟩ : ∃ w1 : World, w1 = wr := ⟨_, rfl⟩
        have X0 := Lib.hid (told5 w1 w.heap.size _ _ _ _ _ (.int .i64 2) (.int .i64 0) (.int .i64 0) (.int .i64 0) (.string ⟨#[]⟩) _ HS.out.res)
        have XB := Lib.hid (set5_below w1 w.heap.size (.int .i64 2) (.int .i64 0) (.int .i64 0) (.int .i64 0) (.string ⟨#[]⟩) (B := w.heap.size) (Nat.le_refl _) HS.out.bl)
        clear zf hlong
        go_wp2_with fail
        have X1 := X0.out
        have X2 := XB.out
        generalize ((((w1.setCell ⟨w.heap.size, 0, none⟩ (.int .i64 2)).setCell ⟨w.heap.size, 1, none⟩ (.int .i64 0)).setCell ⟨w.heap.size, 2, none⟩ (.int .i64 0)).setCell ⟨w.heap.size, 3, none⟩ (.int .i64 0)).setCell ⟨w.heap.size, 4, none⟩ (.string ⟨#[]⟩) = w9 at X1 X2 ⊢
        have y0 : w9.cell? ⟨w.heap.size, 0, none⟩ = some (.int .i64 2) := by rw [cell_of_row w9 w.heap.size _ _ _ _ X1]; rfl
        have y1 : w9.cell? ⟨w.heap.size, 1, none⟩ = some (.int .i64 0) := by rw [cell_of_row w9 w.heap.size _ _ _ _ X1]; rfl
        have y2 : w9.cell? ⟨w.heap.size, 2, none⟩ = some (.int .i64 0) := by rw [cell_of_row w9 w.heap.size _ _ _ _ X1]; rfl
        have y3 : w9.cell? ⟨w.heap.size, 3, none⟩ = some (.int .i64 0) := by rw [cell_of_row w9 w.heap.size _ _ _ _ X1]; rfl
        have y4 : w9.cell? ⟨w.heap.size, 4, none⟩ = some (.string ⟨#[]⟩) := by rw [cell_of_row w9 w.heap.size _ _ _ _ X1]; rfl
        exact bodyPost_ret (v := .tuple #[.slice none 0 0, .agg #[.int .i64 2, .int .i64 0, .int .i64 0, .int .i64 0, .string ⟨#[]⟩]]) (by simp [results, Try.f10, go_sem, y0, y1, y2, y3, y4]) rfl ⟨_, by rw [HT.out.1]; rfl, by rw [HT.out.2]; exact rdE_nil _, X2⟩
      · have hp : ¬ ((1000 : Int) < c1) := by omega
        have HSM := Lib.hid (show cntL ll ≤ 1000 by rw [HC.out, HE.out]; omega)
        clear hlong
        go_wp2_with fail
        go_loopw [4, 6, 7] (fun s4 s6 s7 wr => ∃ (i t : Nat) (o : List Ent), s7 = .int .i64 (i : Nat) ∧ i ≤ k ∧ s4 = .int .i64 (t : Nat) ∧ Hid (trT (flT ll i) = some (o, t)) ∧ Hid (DT w o s6 wr)) (fun _ _ s _ => k - (intOf s).toNat)
        case atStart => exact ⟨0, 0, [], rfl, Nat.zero_le _, rfl, Lib.hid rfl, HS⟩
        case round =>
          clear HS
          obtain ⟨i, t, o, rfl, hi, rfl, HT, HS⟩ := hrel
          obtain ⟨pv, cv, hvv⟩ := lenL HS.out.own
          subst hvv
          have hl9 := HL.out
          by_cases hlt : i < k
          · have hil : i < ll.length := by rw [HN.out]; exact hlt
            obtain ⟨b, off, pt, ct, rfl, d1, d2, ht⟩ := HR.out.cell hil
            obtain ⟨zs, hzs⟩ : ∃ zs, ll[i] = zs := ⟨_, rfl⟩
            rw [hzs] at d2 ht
            have HFS := Lib.hid (show flT ll (i + 1) = flT ll i ++ zs by rw [flT_succ hil, hzs])
            have HIN := Lib.hid (show ∀ k, k ≤ zs.length → (flT ll i).length + k ≤ 1000 from fun k hk => Nat.le_trans (flT_in hil (by rw [hzs]; exact hk)) HSM.out)
            have HTS := Lib.hid ht
            obtain ⟨m, hm⟩ : ∃ m, zs.length = m := ⟨_, rfl⟩
            have HM2 := Lib.hid hm
            rw [hm] at d2 HTS HIN
            have hm9 : m ≤ 1000 := by have := HIN.out m (Nat.le_refl _); omega
            have hi1 : (i : Int) < k := by omega
            have hi9 : i ≤ 1048576 := by omega
            have HLT := Lib.hid hlt
            have HIL := Lib.hid hil
            have HD2 := Lib.hid d2
            obtain ⟨wo, rfl⟩ : ∃ wo : World, wo = wr := ⟨_, rfl⟩
            clear hlt hil hzs hm ht d1 d2
            go_wp2_with fail
            go_loopw [4, 6, 8] (fun s4 s6 s8 wr => ∃ (k t : Nat) (o : List Ent), s8 = .int .i64 (k : Nat) ∧ k ≤ m ∧ s4 = .int .i64 (t : Nat) ∧ Hid (trT (flT ll i ++ zs.take k) = some (o, t)) ∧ Hid (DT w o s6 wr)) (fun _ _ s _ => m - (intOf s).toNat)
            case atStart => exact ⟨0, t, o, rfl, Nat.zero_le _, rfl, Lib.hid (by rw [List.take_zero, List.append_nil]; exact HT.out), HS⟩
            case round =>
              clear HT HS
              obtain ⟨j, t, o, rfl, hj, rfl, HT, HS⟩ := hrel
              obtain ⟨pv, cv, hvv⟩ := lenL HS.out.own
              subst hvv
              have hok := trT_ok HT.out
              have d2 := (HS.out.bl.cell (p := ⟨b, off + i * 2 + 1, none⟩) (cellInL HD2.out)).trans HD2.out
              have hfl := hok.len
              have hnum := hok.num
              have hin := HIN.out j hj
              have hlf : (flT ll i ++ zs.take j).length = (flT ll i).length + j := by rw [List.length_append, List.length_take, HM2.out, Nat.min_eq_left hj]
              have hfit := hok.fit (by omega)
              have hlo := hok.lo
              have hhi := hok.hi
              rw [hlf] at hfl hnum
              have hqt : o.length ≤ t := by omega
              have ht9 : t ≤ 1000 := by omega
              have HRD := Lib.hid (RdE.own HS.out.own hfit)
              have HMAY := Lib.hid (fun (u : Int) (W : World) (hb : Below wr.heap.size wr W) => may_ref o (.slice pv o.length cv) u W (HRD.out.below hb) hlo hhi (by omega))
              obtain ⟨q, hq⟩ : ∃ q, o.length = q := ⟨_, rfl⟩
              have HOL := Lib.hid hq
              have hq9 : q ≤ 1000 := by omega
              have hj9 : j ≤ 1000 := by omega
              rw [hq] at HMAY HS HRD ⊢
              clear hq hok hfl hnum hin hlf hqt hfit hlo hhi
              by_cases hlt : j < m
              · have hkz : j < zs.length := by rw [HM2.out]; exact hlt
                obtain ⟨b2, off2, rfl, e0, e1, e2, e3, e4, e5, e6, e7⟩ := (HTS.out.below HS.out.bl).cell hkz
                have HTK := Lib.hid (show trT (flT ll i ++ zs.take (j + 1)) = stepT (some (o, t)) zs[j] by rw [List.take_succ_eq_append_getElem hkz, ← List.append_assoc, trT_snoc, HT.out])
                obtain ⟨z, hz⟩ : ∃ z, zs[j] = z := ⟨_, rfl⟩
                rw [hz] at e3 HTK
                have hj1 : (j : Int) < m := by omega
                have HLTK := Lib.hid hlt
                obtain ⟨wp, rfl⟩ : ∃ wp : World, wp = wr := ⟨_, rfl⟩
                have hal : Below wp.heap.size wp (wp.alloc (.cells #[.int .i64 0, .string nm, .string .empty, .int .i64 z, .slice none 0 0, .slice none 0 0, .slice none 0 0, .int .i64 ln] 33)) := (Below.refl _ _).alloc (Nat.le_refl _) _
                have HS3 := Lib.hid (HS.out.below hal)
                have HF := Lib.hid (HMAY.out z _ hal)
                clear hkz hz hlt hal
                clear HMAY
                by_cases hzz : z = 0
                · have t1 : (z != 0) = false := by rw [hzz]; rfl
                  have HST := Lib.hid (show trT (flT ll i ++ zs.take (j + 1)) = some (o, t + 1) by rw [HTK.out]; unfold stepT; simp only; rw [if_pos hzz])
                  clear hzz
                  go_wp2_with fail
                  go_roundw
                  case measure => have := HLTK.out; first | (simp [intOf]; done) | (simp [intOf]; omega)
                  case rel => exact ⟨j + 1, t + 1, o, by go_num, HLTK.out, by go_num, HST, HS3⟩
                · have t1 : (z != 0) = true := by simpa using hzz
                  cases hmay : mayB (ahd o q) z with
                  | false =>
                    rw [hmay] at HF
                    have HRES := Lib.hid (show wrT ln nm ll = ⟨100, (i : Nat), ln, 1, nm⟩ ∧ outT ll = [] by
                      have h9 : trT (flT ll i ++ zs.take (j + 1)) = none := by rw [HTK.out]; unfold stepT; simp only; rw [if_neg hzz, HOL.out, hmay]; rfl
                      obtain ⟨s', h8⟩ := trT_pre HT.out
                      refine tree_bad HSM.out HIL.out h8 ?_ ln nm
                      rw [HFS.out, ← List.take_append_drop (j + 1) zs, ← List.append_assoc]
                      exact trT_bad _ h9)
                    clear hzz hmay
                    go_wp2_with fail
                    refine HF.out.mono ?_
                    rintro e w2 ⟨rfl, rfl⟩
                    have hS4 := HS3.out
                    have cx : ∀ k u, (tRow ln nm z)[k]? = some u → (wp.alloc (.cells #[.int .i64 0, .string nm, .string .empty, .int .i64 z, .slice none 0 0, .slice none 0 0, .slice none 0 0, .int .i64 ln] 33)).cell? ⟨wp.heap.size, k, none⟩ = some u := fun k u hu => by
                      rw [cell_of_row _ _ _ _ _ _ (World.alloc_heap_new wp _), ← hu, ← Array.getElem?_toList]
                      rfl
                    have c1 := cx 1 _ rfl
                    have c7 := cx 7 _ rfl
                    obtain ⟨wB, hwB⟩ : ∃ wB, wp.alloc (.cells #[.int .i64 0, .string nm, .string .empty, .int .i64 z, .slice none 0 0, .slice none 0 0, .slice none 0 0, .int .i64 ln] 33) = wB := ⟨_, rfl⟩
                    rw [hwB] at hS4 c1 c7 ⊢
                    obtain ⟨⟨z0, z1, z2, z3, z4⟩, zf⟩ := resW_cells hS4.res
                    have fz0 := zf 0
                    have fz1 := zf 1
                    have fz2 := zf 2
                    have fz3 := zf 3
                    have fz4 := zf 4
                    have X0 := Lib.hid (show ((((((wB.setCell ⟨w.heap.size, 0, none⟩ (.int .i64 100)).setCell ⟨w.heap.size, 1, none⟩ (.int .i64 (i : Nat))).setCell ⟨w.heap.size, 2, none⟩ (.int .i64 ln)).setCell ⟨w.heap.size, 3, none⟩ (.int .i64 1)).setCell ⟨w.heap.size, 4, none⟩ (.string nm)).drew).heap[w.heap.size]? = some (.cells #[.int .i64 100, .int .i64 (i : Nat), .int .i64 ln, .int .i64 1, .string nm] 40 (0, 0)) from told5 wB w.heap.size _ _ _ _ _ (.int .i64 100) (.int .i64 (i : Nat)) (.int .i64 ln) (.int .i64 1) (.string nm) _ hS4.res)
                    have XB := Lib.hid (set5_below wB w.heap.size (.int .i64 100) (.int .i64 (i : Nat)) (.int .i64 ln) (.int .i64 1) (.string nm) (B := w.heap.size) (Nat.le_refl _) hS4.bl).drew
                    clear zf cx hwB hS4 HS3 HF e0 e1 e2 e3 e4 e5 e6 e7 d2 HS HRD
                    obtain ⟨X, hX⟩ : ∃ X, wp.heap.size = X := ⟨_, rfl⟩
                    rw [hX] at c1 c7 ⊢
                    clear hX
                    go_wp2_with fail
                    go_region
                    go_wp2_with fail
                    have X1 := X0.out
                    have X2 := XB.out
                    clear X0 XB z0 z1 z2 z3 z4 fz0 fz1 fz2 fz3 fz4 c1 c7
                    generalize (((((wB.setCell ⟨w.heap.size, 0, none⟩ (.int .i64 100)).setCell ⟨w.heap.size, 1, none⟩ (.int .i64 (i : Nat))).setCell ⟨w.heap.size, 2, none⟩ (.int .i64 ln)).setCell ⟨w.heap.size, 3, none⟩ (.int .i64 1)).setCell ⟨w.heap.size, 4, none⟩ (.string nm)).drew = w9 at X1 X2 ⊢
                    have y0 : w9.cell? ⟨w.heap.size, 0, none⟩ = some (.int .i64 100) := by rw [cell_of_row w9 w.heap.size _ _ _ _ X1]; rfl
                    have y1 : w9.cell? ⟨w.heap.size, 1, none⟩ = some (.int .i64 (i : Nat)) := by rw [cell_of_row w9 w.heap.size _ _ _ _ X1]; rfl
                    have y2 : w9.cell? ⟨w.heap.size, 2, none⟩ = some (.int .i64 ln) := by rw [cell_of_row w9 w.heap.size _ _ _ _ X1]; rfl
                    have y3 : w9.cell? ⟨w.heap.size, 3, none⟩ = some (.int .i64 1) := by rw [cell_of_row w9 w.heap.size _ _ _ _ X1]; rfl
                    have y4 : w9.cell? ⟨w.heap.size, 4, none⟩ = some (.string nm) := by rw [cell_of_row w9 w.heap.size _ _ _ _ X1]; rfl
                    exact bodyPost_ret (v := .tuple #[.slice none 0 0, .agg #[.int .i64 100, .int .i64 (i : Nat), .int .i64 ln, .int .i64 1, .string nm]]) (by simp [results, Try.f10, go_sem, y0, y1, y2, y3, y4]) rfl ⟨_, by rw [HRES.out.1]; rfl, by rw [HRES.out.2]; exact rdE_nil _, X2⟩
                  | true =>
                    rw [hmay] at HF
                    have HST := Lib.hid (show trT (flT ll i ++ zs.take (j + 1)) = some (o ++ [⟨(t : Int), z⟩], t + 1) by rw [HTK.out]; unfold stepT; simp only; rw [if_neg hzz, HOL.out, if_pos hmay])
                    clear hzz hmay
                    go_wp2_with fail
                    refine HF.out.mono ?_
                    rintro e w2 ⟨rfl, rfl⟩
                    have hbx : (wp.alloc (.cells #[.int .i64 0, .string nm, .string .empty, .int .i64 z, .slice none 0 0, .slice none 0 0, .slice none 0 0, .int .i64 ln] 33)).heap[wp.heap.size]? = some (.cells #[.int .i64 0, .string nm, .string .empty, .int .i64 z, .slice none 0 0, .slice none 0 0, .slice none 0 0, .int .i64 ln] 33 (0, 0)) := World.alloc_heap_new _ _
                    have hSB := HS3.out.bl.size
                    obtain ⟨wB, hwB⟩ : ∃ wB, wp.alloc (.cells #[.int .i64 0, .string nm, .string .empty, .int .i64 z, .slice none 0 0, .slice none 0 0, .slice none 0 0, .int .i64 ln] 33) = wB := ⟨_, rfl⟩
                    rw [hwB] at hbx HS3 HF hSB ⊢
                    have cB3 : wB.cell? ⟨wp.heap.size, 3, none⟩ = some (.int .i64 z) := by rw [cell_of_row _ _ _ _ _ _ hbx]; rfl
                    have M1 := Lib.hid (show q + 1 ≤ maxLen by unfold maxLen; omega)
                    have M2 := Lib.hid (show (q + 1) * 16 ≤ 140737488355328 by omega)
                    have M3 := Lib.hid (show w.heap.size ≤ (wB.alloc (.cells #[.int .i64 (t : Nat), .int .i64 z] 67)).heap.size by simp; omega)
                    have HOW := Lib.hid HS3.out.own
                    rw [HOL.out] at HOW
                    clear hwB hbx e0 e1 e2 e3 e4 e5 e6 e7 d2 HS HRD hSB
                    obtain ⟨X, hX⟩ : ∃ X, wp.heap.size = X := ⟨_, rfl⟩
                    rw [hX] at cB3 ⊢
                    clear hX
                    go_wp2_with (at_builtin; go_loud (refine wpList_append_own_at _ rfl _ _ 34 rfl w.heap.size 67 i0 (.agg #[.int .i64 0, .int .i64 0]) 2 16 Try.underlying34 hi0 hz0 hz1 hz2 rfl (by decide) _ _ _ rfl (HOW.out.alloc _) ⟨wB.heap.size, 0, none⟩ 1 1 [.int .i64 (t : Nat), .int .i64 z] rfl rfl (cells_newL _ _ _) (by intro u hu; simp at hu; rcases hu with rfl | rfl <;> rfl) M1.out M2.out M3.out ?_); intro v' w3 hown' hgrow _ hat; have HO1 := Lib.hid hown'; have HG1 := Lib.hid hgrow; clear hown' hgrow hat cB3 HF)
                    go_roundw
                    case measure => have := HLTK.out; first | (simp [intOf]; done) | (simp [intOf]; omega)
                    case rel =>
                      refine ⟨j + 1, t + 1, o ++ [⟨(t : Int), z⟩], by go_num, HLTK.out, by go_num, HST, Lib.hid (HS3.out.push HG1.out ?_)⟩
                      rw [HOL.out]
                      exact HO1.out
              · obtain rfl : j = m := by omega
                have hlz : ¬ ((j : Int) < j) := by omega
                have HTN := Lib.hid (show trT (flT ll (i + 1)) = some (o, t) by rw [HFS.out, ← HT.out, ← HM2.out, List.take_length])
                clear hlt
                go_wp2_with fail
                go_roundw
                case measure => have := HLT.out; first | (simp [intOf]; done) | (simp [intOf]; omega)
                case rel => exact ⟨i + 1, t, o, by go_num, HLT.out, rfl, HTN, HS⟩
          · obtain rfl : i = k := by omega
            have hlz : ¬ ((i : Int) < i) := by omega
            have hok := trT_ok HT.out
            have h9 := HT.out
            rw [← HN.out, flT_all] at h9
            have HRES := Lib.hid (tree_good HSM.out h9 ln nm)
            have hfit := hok.fit (by have h8 := flT_cnt ll i; have := HSM.out; omega)
            have hrd := RdE.own HS.out.own hfit
            obtain ⟨⟨z0, z1, z2, z3, z4⟩, zf⟩ := resW_cells HS.out.res
            have fz0 := zf 0
            have fz1 := zf 1
            have fz2 := zf 2
            have fz3 := zf 3
            have fz4 := zf 4
            obtain ⟨w1, rfl⟩ : ∃ w1 : World, w1 = wr := ⟨_, rfl⟩
            have X0 := Lib.hid (told5 w1 w.heap.size _ _ _ _ _ (.int .i64 0) (.int .i64 0) (.int .i64 0) (.int .i64 0) (.string ⟨#[]⟩) _ HS.out.res)
            have XB := Lib.hid (set5_below w1 w.heap.size (.int .i64 0) (.int .i64 0) (.int .i64 0) (.int .i64 0) (.string ⟨#[]⟩) (B := w.heap.size) (Nat.le_refl _) HS.out.bl)
            have HRD2 := Lib.hid (show RdE (((((w1.setCell ⟨w.heap.size, 0, none⟩ (.int .i64 0)).setCell ⟨w.heap.size, 1, none⟩ (.int .i64 0)).setCell ⟨w.heap.size, 2, none⟩ (.int .i64 0)).setCell ⟨w.heap.size, 3, none⟩ (.int .i64 0)).setCell ⟨w.heap.size, 4, none⟩ (.string ⟨#[]⟩)) (.slice pv o.length cv) o from
              RdE.own (own_stays HS.out.own fun c e => set5_heap w1 w.heap.size _ _ _ _ _ (fun e2 => HS.out.not (by rw [e, e2]))) hfit)
            clear zf hlt hok h9 hfit hrd
            go_wp2_with fail
            have X1 := X0.out
            have X2 := XB.out
            have X3 := HRD2.out
            clear X0 XB HRD2 z0 z1 z2 z3 z4 fz0 fz1 fz2 fz3 fz4
            generalize ((((w1.setCell ⟨w.heap.size, 0, none⟩ (.int .i64 0)).setCell ⟨w.heap.size, 1, none⟩ (.int .i64 0)).setCell ⟨w.heap.size, 2, none⟩ (.int .i64 0)).setCell ⟨w.heap.size, 3, none⟩ (.int .i64 0)).setCell ⟨w.heap.size, 4, none⟩ (.string ⟨#[]⟩) = w9 at X1 X2 X3 ⊢
            have y0 : w9.cell? ⟨w.heap.size, 0, none⟩ = some (.int .i64 0) := by rw [cell_of_row w9 w.heap.size _ _ _ _ X1]; rfl
            have y1 : w9.cell? ⟨w.heap.size, 1, none⟩ = some (.int .i64 0) := by rw [cell_of_row w9 w.heap.size _ _ _ _ X1]; rfl
            have y2 : w9.cell? ⟨w.heap.size, 2, none⟩ = some (.int .i64 0) := by rw [cell_of_row w9 w.heap.size _ _ _ _ X1]; rfl
            have y3 : w9.cell? ⟨w.heap.size, 3, none⟩ = some (.int .i64 0) := by rw [cell_of_row w9 w.heap.size _ _ _ _ X1]; rfl
            have y4 : w9.cell? ⟨w.heap.size, 4, none⟩ = some (.string ⟨#[]⟩) := by rw [cell_of_row w9 w.heap.size _ _ _ _ X1]; rfl
            exact bodyPost_ret (v := .tuple #[.slice pv o.length cv, .agg #[.int .i64 0, .int .i64 0, .int .i64 0, .int .i64 0, .string ⟨#[]⟩]]) (by simp [results, Try.f10, go_sem, y0, y1, y2, y3, y4]) rfl ⟨_, by rw [HRES.out.1]; rfl, by rw [HRES.out.2]; exact X3, X2⟩
end Go.Proofs.Ytjnnkelbedmccaa
