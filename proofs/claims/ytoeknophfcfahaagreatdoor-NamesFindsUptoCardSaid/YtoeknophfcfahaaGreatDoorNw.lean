/- The program's New of layer 7. -/
import Derived.Test.YtoeknophfcfahaaGreatDoorNst2
import Derived.Deep.RegionLaw
import Derived.Deep.CutRange
namespace Go.Proofs.YtoeknophfcfahaaGreatDoor
open Go.RowKit Go.Maps Go.Sort
set_option linter.unusedVariables false

namespace NS
variable {w1 : World} {v : Value} {ks ts : List ByteArray} {ns : List Nat} {gv sv : Value} {W W3 : World} {o : Obj}
theorem others (h : NS w1 v ks ts ns gv sv W) {row : Option Nat} (hg : (W.alloc o).grownBy W3 row) {c : Nat} (hc : c < W.heap.size) (hne : row ≠ some c) : W3.heap[c]? = W.heap[c]? :=
  (hg.block c (by simp; omega) (fun e => hne e.symm)).trans (Below.heap_alloc _ _ _ hc)
theorem pushT (h : NS w1 v ks ts ns gv sv W) (hg : (W.alloc o).grownBy W3 gv.ownBlock) {x : ByteArray} {g' c' : Nat}
    (hown : W3.ownsRow w1.heap.size 9 1 (.slice (some ⟨g', 0, none⟩) (ts.length + 1) c') (ts.length + 1) (textsV ts ++ [.string x])) :
    W3.heap[w1.heap.size + 1]? = some (.cells #[v, gv, .map (some w1.heap.size), sv] 65 (0, 0)) ∧ W3.heap[w1.heap.size + 1 + 1]? = some (.cells #[.pointer (some ⟨w1.heap.size + 1, 0, none⟩)] 24 (0, 0)) ∧
    NS w1 v ks (ts ++ [x]) ns (.slice (some ⟨g', 0, none⟩) (ts.length + 1) c') sv (W3.setCell ⟨w1.heap.size + 1, 1, none⟩ (.slice (some ⟨g', 0, none⟩) (ts.length + 1) c')) := by
  have hz := h.size
  have hB := (h.others hg (by omega) (own_not h.og h.cB (fun cur fr e => by cases e))).trans h.cB
  have hTb := (h.others hg (by omega) (own_not h.og h.cT (fun cur fr e => by cases e))).trans h.cT
  have set : ∀ c, c ≠ w1.heap.size + 1 → (W3.setCell ⟨w1.heap.size + 1, 1, none⟩ (.slice (some ⟨g', 0, none⟩) (ts.length + 1) c')).heap[c]? = W3.heap[c]? := fun c hc => Below.heap_setCell _ _ _ _ hc
  refine ⟨hB, hTb, ⟨?_, (set _ (by omega)).trans hTb, ?_, ?_, ?_, ?_⟩⟩
  · have := setCell_row hB 1 (.slice (some ⟨g', 0, none⟩) (ts.length + 1) c')
    simpa using this
  · rw [List.length_append, textsV_app]
    exact own_stays hown fun c e => set c (by
      rintro rfl
      exact own_not hown hB (fun cur fr e => by cases e) e)
  · refine own_stays h.os fun c e => (set c ?_).trans (h.others hg (own_base h.os e).2 ?_)
    · rintro rfl
      exact own_not h.os h.cB (fun cur fr e => by cases e) e
    · intro e2
      rcases h.og.2 with ⟨rfl, _⟩ | ⟨g, cap, cur, rfl, _, hgb, _⟩
      · simp [Value.ownBlock] at e2
      · obtain rfl : g = c := by simpa [Value.ownBlock] using e2
        exact own_not h.os hgb (fun cur fr e => by cases e) e
  · obtain ⟨es, ck, hM⟩ := h.mapNot
    exact h.mp.block ((set _ (by omega)).trans (h.others hg (by omega) (own_not h.og hM (fun cur fr e => by cases e))))
  · exact ((h.bl.alloc (by omega) o).grown hg (by simp; omega) (fun r e => (own_base h.og e).1)).setCell (p := ⟨w1.heap.size + 1, 1, none⟩) (by simp) _
theorem pushI (h : NS w1 v ks ts ns gv sv W) (hg : (W.alloc o).grownBy W3 sv.ownBlock) {x g' c' : Nat}
    (hown : W3.ownsRow w1.heap.size 3 1 (.slice (some ⟨g', 0, none⟩) (ns.length + 1) c') (ns.length + 1) (numsV ns ++ [.int .i64 (x : Nat)])) :
    W3.heap[w1.heap.size + 1]? = some (.cells #[v, gv, .map (some w1.heap.size), sv] 65 (0, 0)) ∧ W3.heap[w1.heap.size + 1 + 1]? = some (.cells #[.pointer (some ⟨w1.heap.size + 1, 0, none⟩)] 24 (0, 0)) ∧
    NS w1 v ks ts (ns ++ [x]) gv (.slice (some ⟨g', 0, none⟩) (ns.length + 1) c') (W3.setCell ⟨w1.heap.size + 1, 3, none⟩ (.slice (some ⟨g', 0, none⟩) (ns.length + 1) c')) := by
  have hz := h.size
  have hB := (h.others hg (by omega) (own_not h.os h.cB (fun cur fr e => by cases e))).trans h.cB
  have hTb := (h.others hg (by omega) (own_not h.os h.cT (fun cur fr e => by cases e))).trans h.cT
  have set : ∀ c, c ≠ w1.heap.size + 1 → (W3.setCell ⟨w1.heap.size + 1, 3, none⟩ (.slice (some ⟨g', 0, none⟩) (ns.length + 1) c')).heap[c]? = W3.heap[c]? := fun c hc => Below.heap_setCell _ _ _ _ hc
  refine ⟨hB, hTb, ⟨?_, (set _ (by omega)).trans hTb, ?_, ?_, ?_, ?_⟩⟩
  · have := setCell_row hB 3 (.slice (some ⟨g', 0, none⟩) (ns.length + 1) c')
    simpa using this
  · refine own_stays h.og fun c e => (set c ?_).trans (h.others hg (own_base h.og e).2 ?_)
    · rintro rfl
      exact own_not h.og h.cB (fun cur fr e => by cases e) e
    · intro e2
      rcases h.os.2 with ⟨rfl, _⟩ | ⟨g, cap, cur, rfl, _, hgb, _⟩
      · simp [Value.ownBlock] at e2
      · obtain rfl : g = c := by simpa [Value.ownBlock] using e2
        exact own_not h.og hgb (fun cur fr e => by cases e) e
  · rw [List.length_append, numsV_app]
    exact own_stays hown fun c e => set c (by
      rintro rfl
      exact own_not hown hB (fun cur fr e => by cases e) e)
  · obtain ⟨es, ck, hM⟩ := h.mapNot
    exact h.mp.block ((set _ (by omega)).trans (h.others hg (by omega) (own_not h.os hM (fun cur fr e => by cases e))))
  · exact ((h.bl.alloc (by omega) o).grown hg (by simp; omega) (fun r e => (own_base h.os e).1)).setCell (p := ⟨w1.heap.size + 1, 3, none⟩) (by simp) _
end NS

theorem ns_start (w1 : World) (v : Value) : NS w1 v [] [] [] (.slice none 0 0) (.slice none 0 0) (((w1.alloc (.map #[] 0)).alloc (.cells #[v, .slice none 0 0, .map (some w1.heap.size), .slice none 0 0] 65)).alloc (.cells #[.pointer (some ⟨w1.heap.size + 1, 0, none⟩)] 24)) := by
  have hm : MapIs (w1.alloc (.map #[] 0)) w1.heap.size [] := ⟨.map [], World.ownsMap_made _ _ _ _, Num.nil⟩
  have h2 : ((w1.alloc (.map #[] 0)).alloc (.cells #[v, .slice none 0 0, .map (some w1.heap.size), .slice none 0 0] 65)).heap[w1.heap.size + 1]? = some (.cells #[v, .slice none 0 0, .map (some w1.heap.size), .slice none 0 0] 65 (0, 0)) := by
    have h := World.alloc_heap_new (w1.alloc (.map #[] 0)) (.cells #[v, .slice none 0 0, .map (some w1.heap.size), .slice none 0 0] 65)
    rwa [World.size_alloc] at h
  have h3 := World.alloc_heap_new ((w1.alloc (.map #[] 0)).alloc (.cells #[v, .slice none 0 0, .map (some w1.heap.size), .slice none 0 0] 65)) (.cells #[.pointer (some ⟨w1.heap.size + 1, 0, none⟩)] 24)
  rw [World.size_alloc, World.size_alloc] at h3
  refine ⟨(Below.heap_alloc _ _ _ (by simp)).trans h2, h3, World.ownsRow_nil _ _ _ _, World.ownsRow_nil _ _ _ _, ?_, (((Below.refl _ w1).alloc (Nat.le_refl _) _).alloc (by simp) _).alloc (by simp; omega) _⟩
  exact (hm.block (Below.heap_alloc _ _ _ (by simp))).block (Below.heap_alloc _ _ _ (by simp; omega))
/-- The map of a table: one that tells the names' numbers, or none, where there is no name. -/
def MapV (W : World) (mv : Value) (ks : List ByteArray) : Prop := (∃ M, mv = .map (some M) ∧ MapIs W M ks) ∨ (mv = .map none ∧ ks = [])
theorem MapV.below {W W' : World} {mv : Value} {ks : List ByteArray} (h : MapV W mv ks) (hb : Below W.heap.size W W') : MapV W' mv ks := by
  rcases h with ⟨M, e, h⟩ | h
  · exact .inl ⟨M, e, h.below hb⟩
  · exact .inr h
/-- A table of names in memory. -/
structure Tbl (b : Nat) (l : List ByteArray) (nv gv mv sv : Value) (W : World) : Prop where
  cB : W.heap[b]? = some (.cells #[nv, gv, mv, sv] 65 (0, 0))
  nn : RdT W nv l
  gg : RdT W gv (l.map nm)
  mp : MapV W mv (l.map nm)
  ss : RdI W sv (srt l)
theorem Tbl.below {b : Nat} {l : List ByteArray} {nv gv mv sv : Value} {W W' : World} (h : Tbl b l nv gv mv sv W) (hb : Below W.heap.size W W') : Tbl b l nv gv mv sv W' :=
  ⟨(hb.block b (Array.getElem?_eq_some_iff.1 h.cB).1).trans h.cB, h.nn.below hb, h.gg.below hb, h.mp.below hb, h.ss.below hb⟩
/-- What New answers. -/
def NewIs (l : List ByteArray) (w : World) (e : Ending) (w' : World) : Prop := Below w.heap.size w w' ∧
  ((1000 < l.length ∧ e = .returned (.tuple #[.pointer none, .int .i64 0, .int .i64 2])) ∨
   (l.length ≤ 1000 ∧ ∃ k : Nat, k < l.length ∧ GoodTo l k ∧ errAt l k ≠ 0 ∧ e = .returned (.tuple #[.pointer none, .int .i64 k, .int .i64 (errAt l k)])) ∨
   (l.length ≤ 1000 ∧ GoodTo l l.length ∧ ∃ b nv gv mv sv, w.heap.size ≤ b ∧ Tbl b l nv gv mv sv w' ∧ e = .returned (.tuple #[.pointer (some ⟨b, 0, none⟩), .int .i64 0, .int .i64 0])))
theorem RdT.below' {w w' : World} {v : Value} {xs : List ByteArray} (h : RdT w v xs) {B : Nat} (hb : Below B w w') (hB : w.heap.size ≤ B) : RdT w' v xs := h.below (hb.mono hB)
theorem take_map {l : List ByteArray} {k : Nat} (h : k < l.length) : (l.take (k + 1)).map nm = (l.take k).map nm ++ [nm l[k]] := by
  rw [List.take_succ_eq_append_getElem h, List.map_append]; rfl

set_option maxRecDepth 100000 in
set_option maxHeartbeats 4000000 in
theorem new_pro (l : List ByteArray) (v : Value) (w : World) (h : RdT w v l) (hT : Tabs w) : Calls Tryz.prog 6 #[v] w (NewIs l w) := by
  obtain ⟨pa, cap, rfl, h1, h2⟩ := h.form
  by_cases hl : 1000 < l.length
  · have hlz : (1000 : Int) < l.length := by omega
    go_enter Tryz.func6, Tryz.ntmps6
    go_wp2_with fail
    exact bodyPost_ret (v := .tuple #[.pointer none, .int .i64 0, .int .i64 2]) (by simp [results, Tryz.f6, go_sem]) rfl ⟨Below.refl _ _, .inl ⟨hl, rfl⟩⟩
  · have hlz : ¬ (1000 : Int) < l.length := by omega
    have HL := Lib.hid (show l.length ≤ 1000 by omega)
    have HR := Lib.hid h
    have HT := Lib.hid hT
    have HC := Lib.hid (cloneT_pro l _ w h (by omega))
    obtain ⟨i0, hi, hz0, hz1, hz2⟩ := info_parts infoS
    obtain ⟨j0, hj, hy0, hy1, hy2⟩ := info_parts infoI
    have hmm := @run_makeMap Tryz.prog
    clear h hT h1 h2 hl
    go_enter Tryz.func6, Tryz.ntmps6
    go_wp2_with fail
    refine HC.out.mono ?_
    rintro e w1 ⟨nv, rfl, hown, hb⟩
    obtain ⟨pn, cn, rfl⟩ := lenOf hown
    have HRN := Lib.hid (RdT.own hown rfl)
    have HB := Lib.hid hb
    have HT1 := Lib.hid (HT.out.below hb (Nat.le_refl _))
    clear hown hb
    go_wp2_with fail
    go_loopw [23] (fun i wr => ∃ (k : Nat) (gv sv : Value), i = .int .i64 k ∧ k ≤ l.length ∧ GoodTo l k ∧ NS w1 (.slice pn l.length cn) ((l.take k).map nm) ((l.take k).map nm) (List.range k) gv sv wr) (fun i _ => l.length - (intOf i).toNat)
    case atStart => exact ⟨0, _, _, rfl, Nat.zero_le _, fun j hj => absurd hj (Nat.not_lt_zero _), ns_start w1 _⟩
    case round =>
      obtain ⟨k, gv, sv, rfl, hk, hG, hN⟩ := hrel
      have HG := Lib.hid hG
      have HN := Lib.hid hN
      have c0 := hN.c0
      have c2 := hN.c2
      have cT := hN.cT0
      have hT2 := HT1.out.below hN.bl (Nat.le_refl _)
      have HT2 := Lib.hid hT2
      by_cases hlt : k < l.length
      · obtain ⟨b, off, e, hc⟩ := (HRN.out.below' hN.bl (Nat.le_refl _)).cell hlt
        subst e
        obtain ⟨x, hx⟩ : ∃ x, l[k] = x := ⟨_, rfl⟩
        have HX := Lib.hid hx
        rw [hx] at hc
        have HE := Lib.hid (show errAt l k = errOn ((l.take k).map nm) x by unfold errAt; rw [getD_get hlt, hx])
        have HA := Lib.hid (add_pro ((l.take k).map nm) w1.heap.size x wr hT2 hN.mp (by have := HL.out; simp; omega))
        clear hN hG hT2 hx
        go_wp2_with fail
        refine HA.out.mono ?_
        rintro e w2 (⟨h0, rfl, hm, hb⟩ | ⟨h0, rfl, hm, hg⟩)
        · obtain ⟨er, her⟩ : ∃ er, errOn ((l.take k).map nm) x = er := ⟨_, rfl⟩
          rw [her] at h0 HE ⊢
          have t1 : (er != 0) = true := by simpa using h0
          have H0 := Lib.hid h0
          have HB2 := Lib.hid ((HN.out.below hb).bl)
          clear h0 hm hb her
          go_wp2_with fail
          refine bodyPost_ret (v := .tuple #[.pointer none, .int .i64 k, .int .i64 er]) (by simp [results, Tryz.f6, go_sem]) rfl ⟨HB.out.trans (HB2.out.mono HB.out.size), .inr (.inl ⟨HL.out, k, hlt, HG.out, by rw [HE.out]; exact H0.out, by rw [HE.out]⟩)⟩
        · have HN2 := Lib.hid (HN.out.mapped hg hm)
          have HG2 := Lib.hid (HG.out.succ (HE.out.trans h0))
          clear h0 hm hg
          have c1 := HN2.out.c1
          have cT := HN2.out.cT0
          obtain ⟨ts, hts⟩ : ∃ ts, (l.take k).map nm = ts := ⟨_, rfl⟩
          have htl : ts.length = k := by rw [← hts]; simp; omega
          rw [hts] at HN2
          have HTS := Lib.hid hts
          have HTL := Lib.hid htl
          have HHL := Lib.hid hlt
          obtain ⟨y, hy⟩ : ∃ y, nm x = y := ⟨_, rfl⟩
          rw [hy] at HN2 ⊢
          have HY := Lib.hid hy
          have M1 := Lib.hid (show ts.length + 1 ≤ maxLen by have := HL.out; unfold maxLen; omega)
          have M2 := Lib.hid (show (ts.length + 1) * 16 ≤ 140737488355328 by have := HL.out; omega)
          have M3 := Lib.hid (show w1.heap.size ≤ (w2.drew.alloc (.cells #[.string y] 9)).heap.size by have := HN2.out.size; simp; omega)
          have HO := Lib.hid (HN2.out.drew.og.alloc (.cells #[.string y] 9))
          have HND := Lib.hid HN2.out.drew
          have cA := (HN2.out.below ((Below.refl _ w2).alloc (Nat.le_refl _) (.cells #[.string y] 9))).c1
          have cTA := (HN2.out.below ((Below.refl _ w2).alloc (Nat.le_refl _) (.cells #[.string y] 9))).cT0
          clear hts htl hy HA
          go_upto_region 10 with fail
          go_cut [] from 24 to 61 (fun wx => ∃ gv', NS w1 (.slice (some ⟨b, off, none⟩) l.length cn) (ts ++ [y]) (ts ++ [y]) (List.range k) gv' sv wx)
          case first =>
            go_region_law (refine step_append_lies _ rfl (.tmp 45) (.tmp 47) 22 rfl w1.heap.size 9 i0 (.string .empty) 1 16 Tryz.underlying22 hi hz0 hz1 hz2 rfl (by decide) gv ts.length (textsV ts) (by simp [Act.eval]) HO.out ⟨w2.heap.size, 0, none⟩ 1 1 [.string y] (by simp [Act.eval]) rfl (cells_new _ _ _) (textsV_one [y]) (by decide) M1.out M2.out M3.out _ rfl ?_; intro g3 c3 w3 hown3 hgrow3 _ _; obtain ⟨hB3, hT3, hN3⟩ := HND.out.pushT hgrow3 hown3; have q1 : w3.cell? ⟨w1.heap.size + 1, 1, none⟩ = some gv := (by simp [World.cell?, hB3]); have q2 : w3.frozen? ⟨w1.heap.size + 1, 1, none⟩ = false := (by simp [World.frozen?, hB3]); have q3 : w3.cell? ⟨w1.heap.size + 1 + 1, 0, none⟩ = some (.pointer (some ⟨w1.heap.size + 1, 0, none⟩)) := (by simp [World.cell?, hT3]); have HN3 := Lib.hid hN3; clear hown3 hgrow3 hB3 hT3 hN3)
            all_goals
              go_wp2_with fail
              go_meet
              exact ⟨_, HN3.out⟩
          case rest =>
            obtain ⟨gv5, hN5⟩ := hcut
            obtain ⟨w5, hw5⟩ : ∃ w5, wc = w5 := ⟨_, rfl⟩
            rw [hw5] at hN5 ⊢
            clear hw5
            have HN5 := Lib.hid hN5
            have M4 := Lib.hid (show (List.range k).length + 1 ≤ maxLen by have := HL.out; simp; unfold maxLen; omega)
            have M5 := Lib.hid (show ((List.range k).length + 1) * 8 ≤ 140737488355328 by have := HL.out; simp; omega)
            have M6 := Lib.hid (show w1.heap.size ≤ (w5.drew.alloc (.cells #[.int .i64 k] 3)).heap.size by have := HN5.out.size; simp; omega)
            have HO5 := Lib.hid (HN5.out.drew.os.alloc (.cells #[.int .i64 k] 3))
            have HND5 := Lib.hid HN5.out.drew
            have c3 := hN5.c3
            have cT5 := hN5.cT0
            have cA5 := (HN5.out.below ((Below.refl _ w5).alloc (Nat.le_refl _) (.cells #[.int .i64 k] 3))).c3
            have cTA5 := (HN5.out.below ((Below.refl _ w5).alloc (Nat.le_refl _) (.cells #[.int .i64 k] 3))).cT0
            clear hN5
            go_upto_region 11 with fail
            go_region_law (refine step_append_lies _ rfl (.tmp 55) (.tmp 57) 36 rfl w1.heap.size 3 j0 (.int .i64 0) 1 8 Tryz.underlying36 hj hy0 hy1 hy2 rfl (by decide) sv (List.range k).length (numsV (List.range k)) (by simp [Act.eval]) HO5.out ⟨w5.heap.size, 0, none⟩ 1 1 [.int .i64 k] (by simp [Act.eval]) rfl (cells_new _ _ _) (numsV_one [k]) (by decide) M4.out M5.out M6.out _ rfl ?_; intro g3 c3 w3 hown3 hgrow3 _ _; obtain ⟨hB3, hT3, hN3⟩ := HND5.out.pushI hgrow3 hown3; have q1 : w3.cell? ⟨w1.heap.size + 1, 3, none⟩ = some sv := (by simp [World.cell?, hB3]); have q2 : w3.frozen? ⟨w1.heap.size + 1, 3, none⟩ = false := (by simp [World.frozen?, hB3]); have q3 : w3.cell? ⟨w1.heap.size + 1 + 1, 0, none⟩ = some (.pointer (some ⟨w1.heap.size + 1, 0, none⟩)) := (by simp [World.cell?, hT3]); have HN3 := Lib.hid hN3; clear hown3 hgrow3 hB3 hT3 hN3)
            all_goals
              go_wp2_with fail
              go_roundw
            all_goals first
              | (simp [intOf]; done)
              | (simp [intOf]; omega)
              | skip
            all_goals
              exact ⟨k + 1, _, _, by go_num, by omega, HG2.out, by
                rw [take_map HHL.out, HTS.out, HX.out, HY.out, List.range_succ]
                have h9 := HN3.out
                rw [List.length_range] at h9
                exact h9⟩
      · obtain rfl : k = l.length := by omega
        have hlz : ¬ (l.length : Int) < l.length := by omega
        rw [List.take_length] at hN
        have HS := Lib.hid (sort_pro hN (HRN.out) hG HT1.out HL.out)
        have c3 := hN.c3
        clear hN hG hT2 hlt
        go_wp2_with (go_at_call 30; refine HS.out.mono ?_; rintro e w3 ⟨rfl, hN3⟩; have HN3 := Lib.hid hN3; have cT3 := hN3.cT0; clear hN3)
        refine bodyPost_ret (v := .tuple #[.pointer (some ⟨w1.heap.size + 1, 0, none⟩), .int .i64 0, .int .i64 0]) (by simp [results, Tryz.f6, go_sem]) rfl ⟨HB.out.trans (HN3.out.bl.mono HB.out.size), .inr (.inr ⟨HL.out, HG.out, w1.heap.size + 1, _, _, _, _, by have := HB.out.size; omega, ⟨HN3.out.cB, HRN.out.below' HN3.out.bl (Nat.le_refl _), RdT.own HN3.out.og rfl, .inl ⟨_, rfl, HN3.out.mp⟩, RdI.own HN3.out.os rfl⟩, rfl⟩)⟩
end Go.Proofs.YtoeknophfcfahaaGreatDoor
