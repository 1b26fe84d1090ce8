/- The texts that the laws of layout stand on, part 7. -/
import Derived.Test.YtjohhahfpgfjdaaGreatDoorK2
import Derived.Test.YtjohhahfpgfjdaaGreatDoorK5
import Derived.BigRegion
import Derived.Deep.CutRange
import Derived.Laws.StructEq
import Derived.BigQuiet
section
namespace Go.Proofs.YtjohhahfpgfjdaaGreatDoor.Tb
open Go.RowKit Go.Maps
set_option linter.unusedVariables false
set_option linter.unusedSimpArgs false
structure Rc where
  row : Int
  col : Int
  wide : Int
  link : Int
  deriving DecidableEq
def rcRow (r : Rc) : List Value := [.int .i64 r.row, .int .i64 r.col, .int .i64 r.wide, .int .i64 r.link]
def rowsQ (l : List Rc) : List Value := l.flatMap rcRow
theorem rowsQ_len : ∀ l : List Rc, (rowsQ l).length = l.length * 4
  | [] => rfl
  | r :: l => by
    have := rowsQ_len l
    unfold rowsQ at this ⊢
    rw [List.flatMap_cons, List.length_append, this, List.length_cons]
    simp [rcRow]
    omega
theorem rowsQ_at : ∀ (l : List Rc) (j k : Nat) (hj : j < l.length), k < 4 → (rowsQ l)[j * 4 + k]? = (rcRow l[j])[k]?
  | [], j, k, hj, _ => absurd hj (by simp)
  | r :: l, 0, k, _, hk => by
    unfold rowsQ
    rw [List.flatMap_cons, Nat.zero_mul, Nat.zero_add, List.getElem?_append_left (by simp [rcRow]; exact hk)]
    rfl
  | r :: l, j + 1, k, hj, hk => by
    have h := rowsQ_at l j k (by simpa using hj) hk
    unfold rowsQ at h ⊢
    rw [List.flatMap_cons, List.getElem?_append_right (by simp [rcRow]; omega), show (rcRow r).length = 4 from rfl, show (j + 1) * 4 + k - 4 = j * 4 + k by omega, h]
    simp
theorem rowsQ_snoc (l : List Rc) (r : Rc) : rowsQ (l ++ [r]) = rowsQ l ++ rcRow r := by simp [rowsQ]
theorem rowsQ_app (a b : List Rc) : rowsQ (a ++ b) = rowsQ a ++ rowsQ b := by simp [rowsQ]
theorem rcRow_one (r : Rc) : ∀ u ∈ rcRow r, u.oneCell' = true := by
  intro u hr
  simp only [rcRow, List.mem_cons, List.not_mem_nil, or_false] at hr
  rcases hr with rfl | rfl | rfl | rfl <;> rfl
theorem rowsQ_one (l : List Rc) : ∀ u ∈ rowsQ l, u.oneCell' = true := by
  intro u hu
  obtain ⟨r, _, hr⟩ := List.mem_flatMap.1 hu
  exact rcRow_one r u hr
theorem rowsQ_last (l : List Rc) (r : Rc) (z : Int) : (rowsQ (l ++ [r])).set (l.length * 4 + 2) (.int .i64 z) = rowsQ (l ++ [⟨r.row, r.col, z, r.link⟩]) := by
  rw [rowsQ_snoc, rowsQ_snoc, List.set_append_right _ _ (by rw [rowsQ_len]; omega), rowsQ_len, show l.length * 4 + 2 - l.length * 4 = 2 by omega]
  rfl
def RcIs (W : World) (b o : Nat) (r : Rc) : Prop :=
  W.cell? ⟨b, o, none⟩ = some (.int .i64 r.row) ∧ W.cell? ⟨b, o + 1, none⟩ = some (.int .i64 r.col) ∧ W.cell? ⟨b, o + 2, none⟩ = some (.int .i64 r.wide) ∧ W.cell? ⟨b, o + 3, none⟩ = some (.int .i64 r.link)
/-- Rects in memory, in blocks that P holds of. -/
def RdQ (P : Nat → Prop) (w : World) (v : Value) (l : List Rc) : Prop :=
  ∃ (pa : Option Addr) (cap : Nat), v = .slice pa l.length cap ∧ l.length ≤ cap ∧ cap ≤ maxLen ∧ ∀ j (hj : j < l.length), ∃ b off, pa = some ⟨b, off, none⟩ ∧ P b ∧ RcIs w b (off + j * 4) l[j]
section
variable {P Q : Nat → Prop} {w w' : World} {v : Value} {l : List Rc}
theorem RcIs.keep {b o : Nat} {x : Rc} (h : RcIs w b o x) (hk : ∀ a : Addr, a.block = b → w'.cell? a = w.cell? a) : RcIs w' b o x :=
  ⟨(hk ⟨b, o, none⟩ rfl).trans h.1, (hk ⟨b, o + 1, none⟩ rfl).trans h.2.1, (hk ⟨b, o + 2, none⟩ rfl).trans h.2.2.1, (hk ⟨b, o + 3, none⟩ rfl).trans h.2.2.2⟩
theorem RdQ.keep (h : RdQ P w v l) (hk : ∀ a : Addr, P a.block → a.block < w.heap.size → w'.cell? a = w.cell? a) : RdQ P w' v l := by
  obtain ⟨pa, cap, e, h1, h2, h4⟩ := h
  refine ⟨pa, cap, e, h1, h2, fun j hj => ?_⟩
  obtain ⟨b, off, e, hp, hc⟩ := h4 j hj
  exact ⟨b, off, e, hp, hc.keep fun a ha => hk a (by rw [ha]; exact hp) (by rw [ha]; exact cellInL hc.1)⟩
theorem RdQ.below (h : RdQ P w v l) (hb : Below w.heap.size w w') : RdQ P w' v l := h.keep fun _ _ ha => hb.cell ha
theorem RdQ.imp (h : RdQ P w v l) (hq : ∀ b, b < w.heap.size → P b → Q b) : RdQ Q w v l := by
  obtain ⟨pa, cap, e, h1, h2, h4⟩ := h
  refine ⟨pa, cap, e, h1, h2, fun j hj => ?_⟩
  obtain ⟨b, off, e, hp, hc⟩ := h4 j hj
  exact ⟨b, off, e, hq b (cellInL hc.1) hp, hc⟩
theorem RdQ.form (h : RdQ P w v l) : ∃ (pa : Option Addr) (cap : Nat), v = .slice pa l.length cap ∧ l.length ≤ cap ∧ cap ≤ maxLen := by
  obtain ⟨pa, cap, e, h1, h2, _⟩ := h
  exact ⟨pa, cap, e, h1, h2⟩
theorem RdQ.at_ {pa : Option Addr} {n cap : Nat} (h : RdQ P w (.slice pa n cap) l) {j : Nat} (hj : j < l.length) : ∃ b off, pa = some ⟨b, off, none⟩ ∧ P b ∧ RcIs w b (off + j * 4) l[j] := by
  obtain ⟨pa', cap', e, _, _, h4⟩ := h
  cases e
  exact h4 j hj
theorem RdQ.own {base n : Nat} (h : w.ownsRow base 37 4 v n (rowsQ l)) (hn : n = l.length) : RdQ (base ≤ ·) w v l := by
  subst hn
  rcases h.2 with ⟨rfl, h0⟩ | ⟨g, cap, cur, rfl, hb, hg, h1, h2, h3, h4⟩
  · have : l = [] := List.eq_nil_of_length_eq_zero h0
    subst this
    exact ⟨none, 0, rfl, Nat.le_refl _, Nat.zero_le _, fun i hi => absurd hi (by simp)⟩
  · refine ⟨_, cap, rfl, h1, h2, fun j hj => ⟨g, 0, rfl, hb, ?_⟩⟩
    have c : ∀ k, k < 4 → w.cell? ⟨g, j * 4 + k, none⟩ = (rcRow l[j])[k]? := fun k hk => by
      rw [World.ownsRow.cellAt h (j * 4 + k) (by omega), rowsQ_at l j k hj hk]
    rw [Nat.zero_add]
    exact ⟨c 0 (by omega), c 1 (by omega), c 2 (by omega), c 3 (by omega)⟩
end
/-- The last rect of a row of the call's own. -/
theorem own_lastQ {W : World} {B n : Nat} {v : Value} {l : List Rc} {r : Rc} (h : W.ownsRow B 37 4 v n (rowsQ (l ++ [r]))) (hn : n = l.length + 1) : ∃ g cap, v = .slice (some ⟨g, 0, none⟩) n cap ∧ B ≤ g ∧ g < W.heap.size ∧ n ≤ cap ∧ W.frozen? ⟨g, l.length * 4 + 2, none⟩ = false ∧ W.cell? ⟨g, l.length * 4 + 2, none⟩ = some (.int .i64 r.wide) ∧
    ∀ z, (W.setCell ⟨g, l.length * 4 + 2, none⟩ (.int .i64 z)).ownsRow B 37 4 v n (rowsQ (l ++ [⟨r.row, r.col, z, r.link⟩])) := by
  rcases h.2 with ⟨rfl, h1⟩ | ⟨g, cap, cur, rfl, hb, hg, h1, h2, h3, h4⟩
  · omega
  · refine ⟨g, cap, rfl, hb, (Array.getElem?_eq_some_iff.1 hg).1, h1, World.ownsRow.frozenAt h _, ?_, fun z => ?_⟩
    · have := World.ownsRow.cellAt h (l.length * 4 + 2) (by omega)
      rw [this, rowsQ_at (l ++ [r]) l.length 2 (by simp) (by omega)]
      simp [rcRow]
    · rw [← rowsQ_last]
      exact (h.stored (l.length * 4 + 2) (.int .i64 z)).1
theorem infoQ : (Tryz.prog.info? 37).map (fun i => (i.zero, i.size, i.bytes)) = some (some (.agg #[.int .i64 0, .int .i64 0, .int .i64 0, .int .i64 0]), 4, 32) := by kernel_rfl
/-- The last one wider. -/
def addW (rs : List Rc) (d : Int) : List Rc := match rs.getLast? with
  | some l => rs.dropLast ++ [⟨l.row, l.col, wrap64 (l.wide + d), l.link⟩]
  | none => rs
theorem addW_snoc (rs : List Rc) (l : Rc) (d : Int) : addW (rs ++ [l]) d = rs ++ [⟨l.row, l.col, wrap64 (l.wide + d), l.link⟩] := by
  simp [addW]
/-- Where links stand in a line: the rects so far, the cell, the link ahead. -/
structure Qs where
  rs : List Rc
  col : Int
  ah : Int
def qStep (row : Int) (s : Qs) (g : Gl) : Qs :=
  ⟨if g.lk = 0 then s.rs else if g.lk = s.ah then addW s.rs g.wd else s.rs ++ [⟨row, s.col, wrap64 g.wd, g.lk⟩], wrap64 (s.col + g.wd), g.lk⟩
def qRun (row : Int) (l : List Gl) : Qs := l.foldl (qStep row) ⟨[], 0, 0⟩
def rectsM (row : Int) (l : List Gl) : List Rc := (qRun row l).rs
theorem qRun_snoc (row : Int) (l : List Gl) (g : Gl) : qRun row (l ++ [g]) = qStep row (qRun row l) g := by simp [qRun]
def QsOk (s : Qs) (n : Nat) : Prop := (s.ah ≠ 0 → s.rs ≠ []) ∧ s.rs.length ≤ n ∧ (-9223372036854775808 ≤ s.col ∧ s.col ≤ 9223372036854775807)
theorem addW_len (rs : List Rc) (d : Int) : (addW rs d).length = rs.length := by
  unfold addW
  split
  · rename_i l h
    have : rs ≠ [] := fun e => by rw [e] at h; cases h
    have := List.length_pos_iff.2 this
    simp; omega
  · rfl
theorem wrap_in (z : Int) : -9223372036854775808 ≤ wrap64 z ∧ wrap64 z ≤ 9223372036854775807 := by
  unfold wrap64; omega
theorem qStep_ok (row : Int) {s : Qs} {n : Nat} (h : QsOk s n) (g : Gl) : QsOk (qStep row s g) (n + 1) := by
  obtain ⟨h1, h2, h3⟩ := h
  refine ⟨fun h0 => ?_, ?_, wrap_in _⟩
  · simp only [qStep] at h0 ⊢
    rw [if_neg h0]
    split
    · rename_i he
      intro e
      have := addW_len s.rs g.wd
      rw [e] at this
      exact h1 (by rw [← he]; exact h0) (List.eq_nil_of_length_eq_zero this.symm)
    · simp
  · simp only [qStep]
    split
    · omega
    · split
      · rw [addW_len]; omega
      · simp; omega
theorem qRun_ok (row : Int) (l : List Gl) : QsOk (qRun row l) l.length := by
  have : ∀ (l : List Gl) (s : Qs) (n : Nat), QsOk s n → QsOk (l.foldl (qStep row) s) (n + l.length) := fun l => by
    induction l with
    | nil => intro s n h; exact h
    | cons g l ih =>
      intro s n h
      have := ih _ _ (qStep_ok row h g)
      rw [List.foldl_cons, List.length_cons, show n + (l.length + 1) = n + 1 + l.length by omega]
      exact this
  have := this l ⟨[], 0, 0⟩ 0 ⟨fun h => absurd rfl h, Nat.le_refl _, ⟨by show (-9223372036854775808 : Int) ≤ 0; omega, by show (0 : Int) ≤ 9223372036854775807; omega⟩⟩
  rw [Nat.zero_add] at this
  exact this
def MakesQ (l : List Rc) (w : World) (e : Ending) (w' : World) : Prop := ∃ v, e = .returned v ∧ w'.ownsRow w.heap.size 37 4 v l.length (rowsQ l) ∧ Below w.heap.size w w'
end Go.Proofs.YtjohhahfpgfjdaaGreatDoor.Tb
end
section
namespace Go.Proofs.YtjohhahfpgfjdaaGreatDoor.Tb
open Go.RowKit Go.Maps
set_option linter.unusedVariables false
set_option linter.unusedSimpArgs false
set_option maxRecDepth 100000 in
set_option maxHeartbeats 4000000 in
theorem rectsOf_pro {P : Nat → Prop} (row : Int) (l : List Gl) (v : Value) (w : World) (h : RdG P w v l) (hl : l.length * 32 ≤ 140737488355328) : Calls Tryz.prog 41 #[.int .i64 row, v] w (MakesQ (rectsM row l) w) := by
  obtain ⟨i0, hi0, hz0, hz1, hz2⟩ := info_parts infoQ
  obtain ⟨pa, cap, rfl, h1, h2⟩ := sliceG h
  have HH := Lib.hid h
  have HL := Lib.hid hl
  obtain ⟨n, hn⟩ : ∃ n, l.length = n := ⟨_, rfl⟩
  have HN := Lib.hid hn
  rw [hn] at HH h1 ⊢
  have n62 : n ≤ 9223372036854775807 := by omega
  clear h hn hl
  go_enter Tryz.func41, Tryz.ntmps41
  go_wp2_with fail
  go_loopw [5, 6, 7, 12] (fun rv c a i wr => ∃ (k : Nat), i = .int .i64 k ∧ k ≤ n ∧ c = .int .i64 (qRun row (l.take k)).col ∧ a = .int .i64 (qRun row (l.take k)).ah ∧ Hid (wr.ownsRow w.heap.size 37 4 rv (qRun row (l.take k)).rs.length (rowsQ (qRun row (l.take k)).rs)) ∧ Hid (Below w.heap.size w wr)) (fun _ _ _ i _ => n - (intOf i).toNat)
  case atStart => exact ⟨0, rfl, Nat.zero_le _, rfl, rfl, Lib.hid (World.ownsRow_nil _ _ _ _), Lib.hid (Below.refl _ _)⟩
  case round =>
    obtain ⟨k, rfl, hk, rfl, rfl, HO, HB⟩ := hrel
    by_cases hlt : k < n
    · have hkl : k < l.length := by rw [HN.out]; exact hlt
      have k1 : (k : Int) < n := by omega
      have HLT := Lib.hid hlt
      obtain ⟨b, off, rfl, _, hg⟩ := (HH.out.below HB.out).at_ hkl
      have hst : qRun row (l.take (k + 1)) = qStep row (qRun row (l.take k)) l[k] := by rw [List.take_succ_eq_append_getElem hkl, qRun_snoc]
      have hok := qRun_ok row (l.take k)
      rw [List.length_take, Nat.min_eq_left (by omega)] at hok
      obtain ⟨x, hx⟩ : ∃ x, l[k] = x := ⟨_, rfl⟩
      rw [hx] at hg hst
      obtain ⟨d0, d1, d2, d3, d4⟩ := hg
      obtain ⟨s, hs⟩ : ∃ s, qRun row (l.take k) = s := ⟨_, rfl⟩
      rw [hs] at hst hok HO ⊢
      obtain ⟨rs, col, ah⟩ := s
      obtain ⟨o1, o2, o3⟩ := hok
      dsimp only at o1 o2 o3 HO ⊢
      have HST := Lib.hid hst
      obtain ⟨m, hm⟩ : ∃ m, rs.length = m := ⟨_, rfl⟩
      rw [hm] at HO o2
      have HM := Lib.hid hm
      have HO1 := Lib.hid o1
      have HOW := HO
      have HBX := Lib.hid (heap_alloc_new wr (boxG x))
      unfold boxG at HBX
      obtain ⟨p3, c3, rfl⟩ := lenL HO.out
      have hA := below_box wr (boxG x)
      have HO2 := Lib.hid (own_below HO.out hA)
      have HB2 := Lib.hid (HB.out.trans (hA.mono HB.out.size))
      have L0 := Lib.hid HB2.out.size
      unfold boxG at HO2 HB2 L0
      clear hx hs hst hA hm o1 o3 hkl hlt
      by_cases hz : x.lk = 0
      · have z1 : (x.lk != 0) = false := by simp [hz]
        have HNX := Lib.hid (show qRun row (l.take (k + 1)) = ⟨rs, wrap64 (col + x.wd), x.lk⟩ by rw [HST.out]; simp only [qStep]; rw [if_pos hz])
        have HO8 := Lib.hid (show (wr.alloc (.cells #[.string x.t, .int .i64 x.wd, .int .i64 x.at_, .int .i64 x.co, .int .i64 x.lk] 44)).ownsRow w.heap.size 37 4 (.slice p3 m c3) (qRun row (l.take (k + 1))).rs.length (rowsQ (qRun row (l.take (k + 1))).rs) by rw [HNX.out]; dsimp only; rw [HM.out]; exact HO2.out)
        clear hz
        go_wp2_with fail
        go_roundw
        case measure => have := HLT.out; simp [intOf]; omega
        case rel => exact ⟨k + 1, by go_num, HLT.out, by rw [HNX.out], by rw [HNX.out], HO8, HB2⟩
      · have z1 : (x.lk != 0) = true := by simp [hz]
        by_cases he : x.lk = ah
        · have z2 : (x.lk != ah) = false := by simp [he]
          obtain ⟨rs0, r, hrs⟩ : ∃ rs0 r, rs = rs0 ++ [r] := by
            have := HO1.out (by rw [← he]; exact hz)
            exact ⟨rs.dropLast, rs.getLast this, (List.dropLast_concat_getLast this).symm⟩
          have hm2 : m = rs0.length + 1 := by rw [← HM.out, hrs]; simp
          have HNX := Lib.hid (show qRun row (l.take (k + 1)) = ⟨rs0 ++ [⟨r.row, r.col, wrap64 (r.wide + x.wd), r.link⟩], wrap64 (col + x.wd), x.lk⟩ by rw [HST.out]; simp only [qStep]; rw [if_neg hz, if_pos he, hrs, addW_snoc])
          have hlast := own_lastQ (l := rs0) (r := r) (by have h := HO2.out; rw [hrs] at h; exact h) hm2
          obtain ⟨g, cap3, hp3, hB, hg, _, hfz, hcl, hset⟩ := hlast
          cases hp3
          have hN := Lib.hid (hset (wrap64 (r.wide + x.wd)))
          have hmi : wrap64 ((m : Int) - 1) = (rs0.length : Int) := by rw [IntWalk.wrap64_in _ (by omega)]; omega
          have hmi2 : IntKind.i64.wrap ((m : Int) - 1) = (rs0.length : Int) := by rw [IntWalk.i64_in _ (by omega)]; omega
          obtain ⟨m0, hm0⟩ : ∃ m0, rs0.length = m0 := ⟨_, rfl⟩
          rw [hm0] at hfz hcl hN hmi hmi2 hm2
          have m0m : m0 < m := by omega
          have m0mi : (m0 : Int) < m := by omega
          have HM0 := Lib.hid hm0
          have HM2 := Lib.hid hm2
          obtain ⟨rw0, hrw⟩ : ∃ rw0, r.wide = rw0 := ⟨_, rfl⟩
          rw [hrw] at hcl hN HNX
          clear hz he hrs hm2 hset hm0 hrw
          go_upto_region 9 with fail
          go_region
          have hgw : g < wr.heap.size := (own_base HOW.out (c := g) rfl).2
          obtain ⟨W9, hW9⟩ : ∃ W9, ((wr.alloc (.cells #[.string x.t, .int .i64 x.wd, .int .i64 x.at_, .int .i64 x.co, .int .i64 x.lk] 44)).setCell ⟨g, m0 * 4 + 2, none⟩ (.int .i64 (wrap64 (rw0 + x.wd)))).drew = W9 := ⟨_, rfl⟩
          have hb9 : W9.heap[wr.heap.size]? = some (.cells #[.string x.t, .int .i64 x.wd, .int .i64 x.at_, .int .i64 x.co, .int .i64 x.lk] 44) := by
            rw [← hW9]
            exact (Below.heap_setCell _ _ _ _ (show wr.heap.size ≠ g by omega)).trans HBX.out
          have e1 : W9.cell? ⟨wr.heap.size, 1, none⟩ = some (.int .i64 x.wd) := by rw [cell_of_row _ _ _ _ _ _ hb9]; rfl
          have e4 : W9.cell? ⟨wr.heap.size, 4, none⟩ = some (.int .i64 x.lk) := by rw [cell_of_row _ _ _ _ _ _ hb9]; rfl
          have HO9 := Lib.hid (show W9.ownsRow w.heap.size 37 4 (.slice (some ⟨g, 0, none⟩) m c3) (qRun row (l.take (k + 1))).rs.length (rowsQ (qRun row (l.take (k + 1))).rs) by
            rw [HNX.out, ← hW9]
            dsimp only
            rw [List.length_append, HM0.out, show m0 + [(_ : Rc)].length = m from HM2.out.symm]
            exact own_stays hN.out fun c _ => rfl)
          have HB9 := Lib.hid (show Below w.heap.size w W9 by rw [← hW9]; exact (HB2.out.setCell (p := ⟨g, m0 * 4 + 2, none⟩) hB _).drew)
          rw [hW9]
          clear hW9 hb9 hfz hcl hgw
          go_wp2_with fail
          go_roundw
          case measure => have := HLT.out; simp [intOf]; omega
          case rel => exact ⟨k + 1, by go_num, HLT.out, by rw [HNX.out], by rw [HNX.out], HO9, HB9⟩
        · have z2 : (x.lk != ah) = true := by simp [he]
          have HNX := Lib.hid (show qRun row (l.take (k + 1)) = ⟨rs ++ [⟨row, col, wrap64 x.wd, x.lk⟩], wrap64 (col + x.wd), x.lk⟩ by rw [HST.out]; simp only [qStep]; rw [if_neg hz, if_neg he])
          have hA3 := below_box (wr.alloc (.cells #[.string x.t, .int .i64 x.wd, .int .i64 x.at_, .int .i64 x.co, .int .i64 x.lk] 44)) (.cells #[.int .i64 row, .int .i64 col, .int .i64 0, .int .i64 x.lk] 37)
          have HO3 := Lib.hid (own_below HO2.out hA3)
          have HB3 := Lib.hid (HB2.out.trans (hA3.mono HB2.out.size))
          have L1 := Lib.hid (show m + 1 ≤ maxLen by have := HL.out; have := HN.out; unfold maxLen; omega)
          have L2 := Lib.hid (show (m + 1) * 32 ≤ 140737488355328 by have := HL.out; have := HN.out; have := HLT.out; omega)
          have L3 := Lib.hid HB3.out.size
          have HBX3 := Lib.hid ((hA3.block wr.heap.size (by simp)).trans HBX.out)
          have HNE := Lib.hid (fun c (hc : (Value.slice p3 m c3).ownBlock = some c) => (own_base HOW.out hc).2)
          have HNC := Lib.hid (fun (j : Nat) (u : Value) (hu : (rcRow ⟨row, col, 0, x.lk⟩)[j]? = some u) => (show ((wr.alloc (.cells #[.string x.t, .int .i64 x.wd, .int .i64 x.at_, .int .i64 x.co, .int .i64 x.lk] 44)).alloc (.cells #[.int .i64 row, .int .i64 col, .int .i64 0, .int .i64 x.lk] 37)).cell? ((⟨wr.heap.size + 1, 0, none⟩ : Addr).add j) = some u by
            have h := cells_newL (wr.alloc (.cells #[.string x.t, .int .i64 x.wd, .int .i64 x.at_, .int .i64 x.co, .int .i64 x.lk] 44)) #[.int .i64 row, .int .i64 col, .int .i64 0, .int .i64 x.lk] 37 j u hu
            rw [show (wr.alloc (.cells #[.string x.t, .int .i64 x.wd, .int .i64 x.at_, .int .i64 x.co, .int .i64 x.lk] 44)).heap.size = wr.heap.size + 1 by simp] at h
            exact h))
          clear hz he hA3
          go_upto_region 9 with (at_builtin; go_loud (refine wpList_append_own _ rfl _ _ 26 rfl w.heap.size 37 i0 _ 4 32 Tryz.underlying26 hi0 hz0 hz1 hz2 rfl (by decide) _ _ _ rfl HO3.out ⟨wr.heap.size + 1, 0, none⟩ 1 1 (rcRow ⟨row, col, 0, x.lk⟩) rfl rfl HNC.out (rcRow_one _) L1.out L2.out L3.out ?_); intro v7 w7 hown7 hg7 _; have HO7 := Lib.hid hown7; have HB7 := Lib.hid (HB3.out.grown hg7 L3.out (fun c hc => (own_base HO3.out hc).1)); have hb7 := (hg7.block wr.heap.size (by simp; omega) (fun e => absurd (HNE.out _ e.symm) (by omega))).trans HBX3.out; have e4 : w7.cell? ⟨wr.heap.size, 4, none⟩ = some (.int .i64 x.lk) := (by rw [cell_of_row _ _ _ _ _ _ hb7]; rfl); have HB8 := Lib.hid hb7; clear hown7 hg7 hb7)
          have hlast := own_lastQ (B := w.heap.size) (W := w7) (v := v7) (n := m + 1) (l := rs) (r := ⟨row, col, 0, x.lk⟩) (by rw [rowsQ_snoc]; exact HO7.out) (by rw [HM.out])
          obtain ⟨g, cap3, hp3, hB, hg, _, hfz, hcl, hset⟩ := hlast
          subst hp3
          have hgw : g ≠ wr.heap.size := fun e => by
            have h := HO7.out
            rcases h.2 with ⟨e2, _⟩ | ⟨g2, _, _, e2, _, h2, _⟩
            · cases e2
            · cases e2
              rw [e, HB8.out] at h2
              injection h2 with h2
              injection h2 with _ h2
              exact absurd h2 (by decide)
          have hN := Lib.hid (hset (wrap64 x.wd))
          have hmi : wrap64 (((m + 1 : Nat) : Int) - 1) = (m : Int) := by rw [IntWalk.wrap64_in _ (by have := HL.out; have := HN.out; omega)]; omega
          rw [HM.out] at hfz hcl hN
          dsimp only at hcl
          have m0m : m < m + 1 := by omega
          have m0mi : (m : Int) < ((m + 1 : Nat) : Int) := by omega
          have m2 : m ≤ 4398046511104 := by have := HL.out; have := HN.out; omega
          have e1 : w7.cell? ⟨wr.heap.size, 1, none⟩ = some (.int .i64 x.wd) := by rw [cell_of_row _ _ _ _ _ _ HB8.out]; rfl
          clear hset hg
          go_region
          obtain ⟨W9, hW9⟩ : ∃ W9, (w7.setCell ⟨g, m * 4 + 2, none⟩ (.int .i64 (wrap64 x.wd))).drew = W9 := ⟨_, rfl⟩
          have hb9 : W9.heap[wr.heap.size]? = some (.cells #[.string x.t, .int .i64 x.wd, .int .i64 x.at_, .int .i64 x.co, .int .i64 x.lk] 44) := by
            rw [← hW9]
            exact (Below.heap_setCell _ _ _ _ (show wr.heap.size ≠ g from fun e => hgw e.symm)).trans HB8.out
          have e1 : W9.cell? ⟨wr.heap.size, 1, none⟩ = some (.int .i64 x.wd) := by rw [cell_of_row _ _ _ _ _ _ hb9]; rfl
          have e4 : W9.cell? ⟨wr.heap.size, 4, none⟩ = some (.int .i64 x.lk) := by rw [cell_of_row _ _ _ _ _ _ hb9]; rfl
          have HO9 := Lib.hid (show W9.ownsRow w.heap.size 37 4 (.slice (some ⟨g, 0, none⟩) (m + 1) cap3) (qRun row (l.take (k + 1))).rs.length (rowsQ (qRun row (l.take (k + 1))).rs) by
            rw [HNX.out, ← hW9]
            dsimp only
            rw [List.length_append, HM.out]
            exact own_stays hN.out fun c _ => rfl)
          have HB9 := Lib.hid (show Below w.heap.size w W9 by rw [← hW9]; exact (HB7.out.setCell (p := ⟨g, m * 4 + 2, none⟩) hB _).drew)
          rw [hW9]
          clear hW9 hb9 hfz hcl hgw
          go_wp2_with fail
          go_roundw
          case measure => have := HLT.out; simp [intOf]; omega
          case rel => exact ⟨k + 1, by go_num, HLT.out, by rw [HNX.out], by rw [HNX.out], HO9, HB9⟩
    · obtain rfl : k = n := by omega
      have hzk : ¬ (k : Int) < k := by omega
      have HF := Lib.hid (show l.take k = l by rw [← HN.out, List.take_length])
      obtain ⟨s, hs⟩ : ∃ s, qRun row (l.take k) = s := ⟨_, rfl⟩
      have HS := Lib.hid hs
      rw [hs] at HO ⊢
      clear hlt hs
      go_wp2_with fail
      go_ret
      refine ⟨_, rfl, ?_, HB.out⟩
      have h := HO.out
      rw [← HS.out, HF.out] at h
      exact h
end Go.Proofs.YtjohhahfpgfjdaaGreatDoor.Tb
end
section
namespace Go.Proofs.YtjohhahfpgfjdaaGreatDoor.Tb
open Go.RowKit Go.Maps
set_option linter.unusedVariables false
set_option linter.unusedSimpArgs false
theorem rowsQ_cell : ∀ (l : List Rc) (j : Nat) (u : Value), (rowsQ l)[j]? = some u → ∃ i k, ∃ hi : i < l.length, j = i * 4 + k ∧ (rcRow l[i])[k]? = some u
  | [], j, u, h => by simp [rowsQ] at h
  | a :: l, j, u, h => by
    have e : rowsQ (a :: l) = rcRow a ++ rowsQ l := by simp [rowsQ]
    have hl : (rcRow a).length = 4 := rfl
    rw [e] at h
    rcases Nat.lt_or_ge j 4 with h5 | h5
    · rw [List.getElem?_append_left (by omega)] at h
      exact ⟨0, j, by simp, by omega, h⟩
    · rw [List.getElem?_append_right (by omega), hl] at h
      obtain ⟨i, k, hi, h1, h2⟩ := rowsQ_cell l (j - 4) u h
      exact ⟨i + 1, k, by simpa using hi, by omega, by simpa using h2⟩
theorem RcIs.cells {W : World} {b o : Nat} {x : Rc} (h : RcIs W b o x) (k : Nat) (u : Value) (hu : (rcRow x)[k]? = some u) : W.cell? ⟨b, o + k, none⟩ = some u := by
  obtain ⟨h0, h1, h2, h3⟩ := h
  match k with
  | 0 => simp [rcRow] at hu; rw [← hu]; exact h0
  | 1 => simp [rcRow] at hu; rw [← hu]; exact h1
  | 2 => simp [rcRow] at hu; rw [← hu]; exact h2
  | 3 => simp [rcRow] at hu; rw [← hu]; exact h3
  | k + 4 => simp [rcRow] at hu
theorem RdQ.lies {P : Nat → Prop} {w : World} {v : Value} {l : List Rc} (h : RdQ P w v l) : Lies w 4 v l.length (rowsQ l) := by
  obtain ⟨pa, cap, rfl, _, _, h4⟩ := h
  refine ⟨rowsQ_len l, rowsQ_one l, ?_⟩
  cases pa with
  | none =>
    left
    have : l.length = 0 := by
      rcases Nat.eq_zero_or_pos l.length with h | h
      · exact h
      · obtain ⟨b, off, e, _⟩ := h4 0 h; cases e
    exact ⟨cap, by rw [this], this⟩
  | some a =>
    right
    refine ⟨a, cap, rfl, fun j u hj => ?_⟩
    obtain ⟨i, k, hi, rfl, hk⟩ := rowsQ_cell l j u hj
    obtain ⟨b, off, e, _, hc⟩ := h4 i hi
    cases e
    have := hc.cells k u hk
    rw [Addr.add_lit, ← Nat.add_assoc]
    exact this
/-- Where links stand in lines, from a row on. -/
def rectsA : Int → List (List Gl) → List Rc
  | _, [] => []
  | row, l :: ls => rectsM row l ++ rectsA (row + 1) ls
def rectsL (ls : List (List Gl)) : List Rc := rectsA 0 ls
theorem rectsA_snoc : ∀ (ls : List (List Gl)) (row : Int) (l : List Gl), rectsA row (ls ++ [l]) = rectsA row ls ++ rectsM (row + ls.length) l
  | [], row, l => by simp [rectsA]
  | a :: ls, row, l => by
    simp only [List.cons_append, rectsA, rectsA_snoc ls, List.append_assoc, List.length_cons]
    rw [show row + 1 + (ls.length : Int) = row + ((ls.length + 1 : Nat) : Int) by omega]
theorem rectsM_len (row : Int) (l : List Gl) : (rectsM row l).length ≤ l.length := (qRun_ok row l).2.1
theorem rectsA_len : ∀ (ls : List (List Gl)) (row : Int), (rectsA row ls).length ≤ ls.flatten.length
  | [], row => Nat.le_refl _
  | l :: ls, row => by
    have := rectsM_len row l
    have := rectsA_len ls (row + 1)
    simp only [rectsA, List.length_append, List.flatten_cons]
    omega
set_option maxRecDepth 100000 in
set_option maxHeartbeats 4000000 in
theorem rects_pro {P : Nat → Prop} (ls : List (List Gl)) (v : Value) (w : World) (h : RdL P w v ls) (hl : ls.flatten.length * 32 ≤ 140737488355328) : Calls Tryz.prog 23 #[v] w (MakesQ (rectsL ls) w) := by
  obtain ⟨i0, hi0, hz0, hz1, hz2⟩ := info_parts infoQ
  obtain ⟨pa, cap, rfl, h1, h2⟩ := h.form
  unfold maxLen at h2
  have HH := Lib.hid h
  have HL := Lib.hid hl
  obtain ⟨n, hn⟩ : ∃ n, ls.length = n := ⟨_, rfl⟩
  have HN := Lib.hid hn
  rw [hn] at HH h1 ⊢
  have n62 : n ≤ 9223372036854775807 := by omega
  clear h hn hl
  go_enter Tryz.func23, Tryz.ntmps23
  go_wp2_with fail
  go_loopw [3, 8] (fun rv i wr => ∃ (k : Nat), i = .int .i64 k ∧ k ≤ n ∧ Hid (wr.ownsRow w.heap.size 37 4 rv (rectsL (ls.take k)).length (rowsQ (rectsL (ls.take k)))) ∧ Hid (Below w.heap.size w wr)) (fun _ i _ => n - (intOf i).toNat)
  case atStart => exact ⟨0, rfl, Nat.zero_le _, Lib.hid (World.ownsRow_nil _ _ _ _), Lib.hid (Below.refl _ _)⟩
  case round =>
    obtain ⟨k, rfl, hk, HO, HB⟩ := hrel
    by_cases hlt : k < n
    · have hkl : k < ls.length := by rw [HN.out]; exact hlt
      have k1 : (k : Int) < n := by omega
      have HLT := Lib.hid hlt
      obtain ⟨b, off, pz, cz, rfl, _, c0, q1, q2, hln⟩ := (HH.out.below HB.out).at_ hkl
      have HSN := Lib.hid (show rectsL (ls.take (k + 1)) = rectsL (ls.take k) ++ rectsM (k : Int) ls[k] by
        unfold rectsL
        rw [List.take_succ_eq_append_getElem hkl, rectsA_snoc, List.length_take, Nat.min_eq_left (by omega), Int.zero_add])
      have hfl : (ls.take (k + 1)).flatten.length ≤ ls.flatten.length := by
        have e : ls = ls.take (k + 1) ++ ls.drop (k + 1) := (List.take_append_drop _ _).symm
        have e2 : ls.flatten.length = (ls.take (k + 1)).flatten.length + (ls.drop (k + 1)).flatten.length := by conv => lhs; rw [e, List.flatten_append, List.length_append]
        omega
      have hr1 := rectsA_len (ls.take (k + 1)) 0
      have hr2 : ls[k].length ≤ (ls.take (k + 1)).flatten.length := by
        rw [List.take_succ_eq_append_getElem hkl, List.flatten_append, List.length_append]; simp
      obtain ⟨r, hr⟩ : ∃ r, ls[k] = r := ⟨_, rfl⟩
      rw [hr] at c0 q1 hln HSN hr2
      have HR := Lib.hid hln
      have hsl : (rectsL (ls.take (k + 1))).length = (rectsL (ls.take k)).length + (rectsM (k : Int) r).length := by rw [HSN.out, List.length_append]
      have L1 := Lib.hid (show (rectsL (ls.take k)).length + (rectsM (k : Int) r).length ≤ maxLen by rw [← hsl]; have := HL.out; unfold rectsL; unfold maxLen; omega)
      have L2 := Lib.hid (show ((rectsL (ls.take k)).length + (rectsM (k : Int) r).length) * 32 ≤ 140737488355328 by rw [← hsl]; have := HL.out; unfold rectsL; omega)
      have HRL := Lib.hid (show r.length * 32 ≤ 140737488355328 by have := HL.out; omega)
      obtain ⟨Q, hQ⟩ : ∃ Q, rectsL (ls.take k) = Q := ⟨_, rfl⟩
      rw [hQ] at HO HSN L1 L2
      obtain ⟨m, hm⟩ : ∃ m, Q.length = m := ⟨_, rfl⟩
      rw [hm] at HO L1 L2
      have HM := Lib.hid hm
      obtain ⟨p3, c3, rfl⟩ := lenL HO.out
      obtain ⟨rl, hrl⟩ : ∃ rl, r.length = rl := ⟨_, rfl⟩
      rw [hrl] at c0 q1 HR
      have rl62 : rl ≤ 9223372036854775807 := by unfold maxLen at q2; omega
      clear hlt hkl hr hfl hr1 hr2 hsl hQ hm hln q1 q2 hrl
      go_wp2_with fail
      refine (rectsOf_pro (k : Int) r _ wr HR.out HRL.out).mono ?_
      rintro e w5 ⟨v5, rfl, o5, b5⟩
      have HX := Lib.hid (RdQ.own o5 rfl).lies
      have HO5 := Lib.hid (own_below HO.out b5)
      have HB5 := Lib.hid (HB.out.trans (b5.mono HB.out.size))
      have L3 := Lib.hid HB5.out.size
      clear o5 b5
      dsimp only
      rename_i K hK
      refine hK _ _ ?_
      clear hK K
      go_wp2_with (at_builtin; go_loud (refine wpList_append_lies' rfl _ _ 26 rfl w.heap.size 37 i0 _ 4 32 Tryz.underlying26 hi0 hz0 hz1 hz2 rfl (by decide) _ _ _ rfl HO5.out v5 _ _ rfl HX.out L1.out L2.out L3.out ?_); intro v7 w7 hown7 hg7; have HO7 := Lib.hid hown7; have HB7 := Lib.hid (HB5.out.grown hg7 L3.out (fun c hc => (own_base HO5.out hc).1)); clear hown7 hg7)
      have HO8 := Lib.hid (show w7.ownsRow w.heap.size 37 4 v7 (rectsL (ls.take (k + 1))).length (rowsQ (rectsL (ls.take (k + 1)))) by
        rw [HSN.out, List.length_append, HM.out, rowsQ_app]; exact HO7.out)
      go_wp2_with fail
      go_roundw
      case measure => have := HLT.out; simp [intOf]; omega
      case rel => exact ⟨k + 1, by go_num, HLT.out, HO8, HB7⟩
    · obtain rfl : k = n := by omega
      have hzk : ¬ (k : Int) < k := by omega
      have HF := Lib.hid (show ls.take k = ls by rw [← HN.out, List.take_length])
      clear hlt
      go_wp2_with fail
      go_ret
      refine ⟨_, rfl, ?_, HB.out⟩
      have h := HO.out
      rw [HF.out] at h
      exact h
end Go.Proofs.YtjohhahfpgfjdaaGreatDoor.Tb
end
section
namespace Go.Proofs.YtjohhahfpgfjdaaGreatDoor.Tb
open Go.RowKit Go.Maps
set_option linter.unusedVariables false
set_option linter.unusedSimpArgs false
/-- Whether a cell is one of so many from the first on. -/
def inB (cell first wide : Int) : Bool := decide (first ≤ cell) && (decide (0 < wide) && decide (IntKind.u64.wrap (IntKind.u64.wrap cell - IntKind.u64.wrap first) < IntKind.u64.wrap wide))
def hitF (row col : Int) : List Rc → Option Int
  | [] => none
  | r :: l => if r.row = row ∧ inB col r.col r.wide = true then some r.link else hitF row col l
def hitV (o : Option Int) : Value := match o with
  | some z => .tuple #[.int .i64 z, .bool true]
  | none => .tuple #[.int .i64 0, .bool false]
theorem hit_step {row col : Int} {l : List Rc} {k : Nat} (h : k < l.length) : hitF row col (l.drop k) = if l[k].row = row ∧ inB col l[k].col l[k].wide = true then some l[k].link else hitF row col (l.drop (k + 1)) := by
  rw [← List.getElem_cons_drop (h := h)]
  rfl
set_option maxRecDepth 100000 in
theorem lwithin_pro (a b c : Int) (w : World) : Calls Tryz.prog 29 #[.int .i64 a, .int .i64 b, .int .i64 c] w fun e w' => e = .returned (.bool (inB a b c)) ∧ w = w' := by
  obtain ⟨q, hq⟩ : ∃ q, decide (IntKind.u64.wrap (IntKind.u64.wrap a - IntKind.u64.wrap b) < IntKind.u64.wrap c) = q := ⟨_, rfl⟩
  have HE := Lib.hid (show inB a b c = (decide (b ≤ a) && (decide (0 < c) && q)) by unfold inB; rw [hq])
  by_cases h1 : b ≤ a
  · have t1 : decide (b ≤ a) = true := decide_eq_true h1
    rw [t1] at HE
    by_cases h2 : 0 < c
    · have t2 : decide (0 < c) = true := decide_eq_true h2
      rw [t2] at HE
      clear h1 h2
      go_enter Tryz.func29, Tryz.ntmps29
      go_wp2_with fail
      go_ret
      exact ⟨by rw [HE.out]; rfl, rfl⟩
    · have t2 : decide (0 < c) = false := decide_eq_false h2
      rw [t2] at HE
      clear h1 h2 hq
      go_enter Tryz.func29, Tryz.ntmps29
      go_wp2_with fail
      go_ret
      exact ⟨by rw [HE.out]; rfl, rfl⟩
  · have t1 : decide (b ≤ a) = false := decide_eq_false h1
    rw [t1] at HE
    clear h1 hq
    go_enter Tryz.func29, Tryz.ntmps29
    go_wp2_with fail
    go_ret
    exact ⟨by rw [HE.out]; rfl, rfl⟩
/-- A layout by value. -/
def laidV (vl vr vk : Value) (mo : Bool) : Value := .agg #[vl, vr, vk, .bool mo]
set_option maxRecDepth 100000 in
set_option maxHeartbeats 4000000 in
theorem hit_pro {P : Nat → Prop} (rs : List Rc) (vl vr vk : Value) (mo : Bool) (row col : Int) (w : World) (h : RdQ P w vr rs) (h1 : vl.oneCell' = true) (h2 : vk.oneCell' = true) : Calls Tryz.prog 13 #[laidV vl vr vk mo, .int .i64 row, .int .i64 col] w fun e w' => e = .returned (hitV (hitF row col rs)) ∧ Below w.heap.size w w' := by
  obtain ⟨pa, cap, rfl, hc1, hc2⟩ := h.form
  unfold maxLen at hc2
  have HH := Lib.hid h
  obtain ⟨n, hn⟩ : ∃ n, rs.length = n := ⟨_, rfl⟩
  have HN := Lib.hid hn
  rw [hn] at HH hc1 ⊢
  have n62 : n ≤ 9223372036854775807 := by omega
  obtain ⟨O, hO⟩ : ∃ O, hitF row col rs = O := ⟨_, rfl⟩
  have HO := Lib.hid (show hitF row col (rs.drop 0) = O from hO)
  rw [hO]
  unfold laidV
  have HA := Lib.hid (below_box w (.cells #[vl, .slice pa n cap, vk, .bool mo] 29))
  clear h hn hO
  go_enter Tryz.func13, Tryz.ntmps13
  go_wp2_with fail
  go_loopw [13] (fun i wr => ∃ k : Nat, i = .int .i64 k ∧ k ≤ n ∧ Hid (hitF row col (rs.drop k) = O) ∧ Hid (Below w.heap.size w wr)) (fun i _ => n - (intOf i).toNat)
  case atStart => exact ⟨0, rfl, Nat.zero_le _, HO, HA⟩
  case round =>
    obtain ⟨k, rfl, hk, HP, HB⟩ := hrel
    by_cases hlt : k < n
    · have hkl : k < rs.length := by rw [HN.out]; exact hlt
      have k1 : (k : Int) < n := by omega
      have HLT := Lib.hid hlt
      obtain ⟨b, off, rfl, _, d0, d1, d2, d3⟩ := (HH.out.below HB.out).at_ hkl
      have hst := hit_step (row := row) (col := col) hkl
      obtain ⟨r, hr⟩ : ∃ r, rs[k] = r := ⟨_, rfl⟩
      rw [hr] at d0 d1 d2 d3 hst
      have HST := Lib.hid hst
      have hA := below_box wr (.cells #[.int .i64 r.row, .int .i64 r.col, .int .i64 r.wide, .int .i64 r.link] 37)
      have HB2 := Lib.hid (HB.out.trans (hA.mono HB.out.size))
      have HW := Lib.hid (lwithin_pro col r.col r.wide (wr.alloc (.cells #[.int .i64 r.row, .int .i64 r.col, .int .i64 r.wide, .int .i64 r.link] 37)))
      clear hlt hkl hr hst hA
      by_cases hrow : r.row = row
      · have t1 : (r.row == row) = true := by simp [hrow]
        cases hi : inB col r.col r.wide with
        | true =>
          rw [hi] at HW
          have HE := Lib.hid (show some r.link = O by rw [← HP.out, HST.out, if_pos ⟨hrow, hi⟩])
          clear hrow hi
          go_wp2_with fail
          refine HW.out.mono ?_
          rintro e w5 ⟨rfl, rfl⟩
          go_wp2_with fail
          go_ret2
          exact ⟨by rw [← HE.out]; rfl, HB2.out⟩
        | false =>
          rw [hi] at HW
          have HE := Lib.hid (show hitF row col (rs.drop (k + 1)) = O by rw [← HP.out, HST.out, if_neg (fun h => by rw [hi] at h; cases h.2)])
          clear hrow hi
          go_wp2_with fail
          refine HW.out.mono ?_
          rintro e w5 ⟨rfl, rfl⟩
          go_wp2_with fail
          go_roundw
          case measure => have := HLT.out; simp [intOf]; omega
          case rel => exact ⟨k + 1, by go_num, HLT.out, HE, HB2⟩
      · have t1 : (r.row == row) = false := by simp [hrow]
        have HE := Lib.hid (show hitF row col (rs.drop (k + 1)) = O by rw [← HP.out, HST.out, if_neg (fun h => hrow h.1)])
        clear hrow
        go_wp2_with fail
        go_roundw
        case measure => have := HLT.out; simp [intOf]; omega
        case rel => exact ⟨k + 1, by go_num, HLT.out, HE, HB2⟩
    · obtain rfl : k = n := by omega
      have hzk : ¬ (k : Int) < k := by omega
      have HE := Lib.hid (show none = O by
        have := HP.out
        rw [List.drop_of_length_le (by rw [HN.out]; exact Nat.le_refl _)] at this
        exact this)
      clear hlt
      go_wp2_with fail
      go_ret2
      exact ⟨by rw [← HE.out]; rfl, HB.out⟩
end Go.Proofs.YtjohhahfpgfjdaaGreatDoor.Tb
end
section
namespace Go.Proofs.YtjohhahfpgfjdaaGreatDoor.Tb
open Go.RowKit Go.Maps
set_option linter.unusedVariables false
set_option linter.unusedSimpArgs false
set_option maxRecDepth 100000 in
theorem eqLk (a b c d : Int) (w : World) : (Op.equalIn 9999 42 (.agg #[.int .i64 a, .int .i64 b]) (.agg #[.int .i64 c, .int .i64 d])).run Tryz.prog w = .ok (a == c && b == d) w := by
  have u3 := Tryz.underlying3
  have a3 := Tryz.isAgg3
  have z3 := Tryz.sizeOf3
  rw [show (9999 : Nat) = 9998 + 1 from rfl, run_equalIn_agg w 9998 42 _ _ (by kernel_rfl) (by kernel_rfl)]
  simp only [Program.fieldsOf, Tryz.underlying42]
  go_simp
  by_cases h1 : a = c <;> by_cases h2 : b = d <;> simp [h1, h2]
set_option maxRecDepth 100000 in
theorem eqRc (x y : Rc) (w : World) : (Op.equalIn 10000 37 (.agg #[.int .i64 x.row, .int .i64 x.col, .int .i64 x.wide, .int .i64 x.link]) (.agg #[.int .i64 y.row, .int .i64 y.col, .int .i64 y.wide, .int .i64 y.link])).run Tryz.prog w = .ok (decide (x = y)) w := by
  have u3 := Tryz.underlying3
  have a3 := Tryz.isAgg3
  have z3 := Tryz.sizeOf3
  rw [show (10000 : Nat) = 9999 + 1 from rfl, run_equalIn_agg w 9999 37 _ _ (by kernel_rfl) (by kernel_rfl)]
  simp only [Program.fieldsOf, Tryz.underlying37]
  go_simp
  obtain ⟨a, b, c, d⟩ := x
  obtain ⟨a', b', c', d'⟩ := y
  by_cases h1 : a = a' <;> by_cases h2 : b = b' <;> by_cases h3 : c = c' <;> by_cases h4 : d = d' <;> simp [h1, h2, h3, h4]
set_option maxRecDepth 100000 in
theorem eqTg (x y : Int × Int) (w : World) : (Op.equalIn 10000 39 (.agg #[.int .i64 x.1, .int .i64 x.2]) (.agg #[.int .i64 y.1, .int .i64 y.2])).run Tryz.prog w = .ok (decide (x = y)) w := by
  have u3 := Tryz.underlying3
  have a3 := Tryz.isAgg3
  have z3 := Tryz.sizeOf3
  rw [show (10000 : Nat) = 9999 + 1 from rfl, run_equalIn_agg w 9999 39 _ _ (by kernel_rfl) (by kernel_rfl)]
  simp only [Program.fieldsOf, Tryz.underlying39]
  go_simp
  obtain ⟨a, b⟩ := x
  obtain ⟨a', b'⟩ := y
  by_cases h1 : a = a' <;> by_cases h2 : b = b' <;> simp [h1, h2]
theorem ba_inj {a b : ByteArray} : a.toList = b.toList ↔ a = b := by
  rw [ByteArray.toList_eq, ByteArray.toList_eq]
  obtain ⟨x⟩ := a
  obtain ⟨y⟩ := b
  constructor
  · intro h
    have h2 : x = y := Array.toList_inj.1 h
    rw [h2]
  · intro h
    cases h
    rfl
set_option maxRecDepth 100000 in
theorem eqGl (x y : Gl) (w : World) : (Op.equalIn 10000 44 (.agg #[.string x.t, .int .i64 x.wd, .int .i64 x.at_, .int .i64 x.co, .int .i64 x.lk]) (.agg #[.string y.t, .int .i64 y.wd, .int .i64 y.at_, .int .i64 y.co, .int .i64 y.lk])).run Tryz.prog w = .ok (decide (x = y)) w := by
  have u3 := Tryz.underlying3
  have a3 := Tryz.isAgg3
  have z3 := Tryz.sizeOf3
  have u9 := Tryz.underlying9
  have a9 := Tryz.isAgg9
  have z9 := Tryz.sizeOf9
  have a7 := Tryz.isAgg42
  have z7 := Tryz.sizeOf42
  have e7 := eqLk x.at_ x.co y.at_ y.co w
  rw [show (10000 : Nat) = 9999 + 1 from rfl, run_equalIn_agg w 9999 44 _ _ (by kernel_rfl) (by kernel_rfl)]
  simp only [Program.fieldsOf, Tryz.underlying44]
  go_simp
  simp only [ba_inj]
  obtain ⟨t, a, b, c, d⟩ := x
  obtain ⟨t', a', b', c', d'⟩ := y
  by_cases h0 : t = t' <;> by_cases h1 : a = a' <;> by_cases h2 : b = b' <;> by_cases h3 : c = c' <;> by_cases h4 : d = d' <;> simp [h0, h1, h2, h3, h4]
end Go.Proofs.YtjohhahfpgfjdaaGreatDoor.Tb
end
section
namespace Go.Proofs.YtjohhahfpgfjdaaGreatDoor.Tb
open Go.RowKit Go.Maps
set_option linter.unusedVariables false
set_option linter.unusedSimpArgs false
theorem take_ne {α : Type} {l m : List α} {k : Nat} (h1 : k < l.length) (h2 : k < m.length) (h : l[k] ≠ m[k]) : l ≠ m := fun e => by subst e; exact h rfl
theorem take_more {α : Type} {l m : List α} {k : Nat} (h1 : k < l.length) (h2 : k < m.length) (h : l.take k = m.take k) (e : l[k] = m[k]) : l.take (k + 1) = m.take (k + 1) := by
  rw [List.take_succ_eq_append_getElem h1, List.take_succ_eq_append_getElem h2, h, e]
set_option maxRecDepth 100000 in
set_option maxHeartbeats 4000000 in
theorem eqG_pro {P Q : Nat → Prop} (l m : List Gl) (v u : Value) (w : World) (h : RdG P w v l) (hm : RdG Q w u m) : Calls Tryz.prog 43 #[v, u] w (SaysL (.bool (decide (l = m))) w) := by
  obtain ⟨pa, cap, rfl, hc1, hc2⟩ := sliceG h
  obtain ⟨pb, cab, rfl, hd1, hd2⟩ := sliceG hm
  skip
  have hgd : Tryz.prog.eqGuardType Tryz.prog.depth 44 = false := by kernel_rfl
  by_cases hlen : l.length = m.length
  · have HH := Lib.hid h
    have HM := Lib.hid hm
    rw [← hlen] at HM ⊢
    obtain ⟨n, hn⟩ : ∃ n, l.length = n := ⟨_, rfl⟩
    have HN := Lib.hid hn
    have HNM := Lib.hid (hlen.symm.trans hn)
    rw [hn] at HH HM hc1 ⊢
    have n62 : n ≤ 9223372036854775807 := by omega
    have t0 : ((n : Int) != (n : Int)) = false := by simp
    obtain ⟨z, hz⟩ : ∃ z, decide (l = m) = z := ⟨_, rfl⟩
    have HZ := Lib.hid hz
    rw [hz]
    clear h hm hn hlen hd1 hz
    go_enter Tryz.func43, Tryz.ntmps43
    go_wp2_with fail
    go_loopw [13] (fun i wr => ∃ k : Nat, i = .int .i64 k ∧ k ≤ n ∧ Hid (l.take k = m.take k) ∧ Hid (Below w.heap.size w wr)) (fun i _ => n - (intOf i).toNat)
    case atStart => exact ⟨0, rfl, Nat.zero_le _, Lib.hid rfl, Lib.hid (Below.refl _ _)⟩
    case round =>
      obtain ⟨k, rfl, hk, HP, HB⟩ := hrel
      by_cases hlt : k < n
      · have hkl : k < l.length := by rw [HN.out]; exact hlt
        have hkm : k < m.length := by rw [HNM.out]; exact hlt
        have k1 : (k : Int) < n := by omega
        have HLT := Lib.hid hlt
        obtain ⟨b, off, rfl, _, d0, d1, d2, d3, d4⟩ := (HH.out.below HB.out).at_ hkl
        obtain ⟨b2, off2, rfl, _, e0, e1, e2, e3, e4⟩ := (HM.out.below HB.out).at_ hkm
        have HMO := Lib.hid (fun (e : l[k] = m[k]) => take_more hkl hkm HP.out e)
        have HNO := Lib.hid (fun (e : l[k] ≠ m[k]) => show decide (l = m) = false from decide_eq_false (take_ne hkl hkm e))
        obtain ⟨x, hx⟩ : ∃ x, l[k] = x := ⟨_, rfl⟩
        obtain ⟨y, hy⟩ : ∃ y, m[k] = y := ⟨_, rfl⟩
        rw [hx] at d0 d1 d2 d3 d4 HMO HNO
        rw [hy] at e0 e1 e2 e3 e4 HMO HNO
        by_cases hxy : x = y
        · have heq := fun w => eqGl x y w
          rw [decide_eq_true hxy] at heq
          have HT := Lib.hid (HMO.out hxy)
          clear hx hy hkl hkm hlt hxy
          go_upto_region 6 with fail
          go_quiet (fail)
          have HB2 := Lib.hid (dn_below HB.out nq)
          go_wp2_with fail
          go_roundw
          case measure => have := HLT.out; simp [intOf]; omega
          case rel => exact ⟨k + 1, by go_num, HLT.out, HT, HB2⟩
        · have heq := fun w => eqGl x y w
          rw [decide_eq_false hxy] at heq
          have HT := Lib.hid (HZ.out.symm.trans (HNO.out hxy))
          clear hx hy hkl hkm hlt hxy
          go_upto_region 6 with fail
          go_quiet (fail)
          have HB2 := Lib.hid (dn_below HB.out nq)
          go_wp2_with fail
          go_ret
          exact ⟨by rw [HT.out]; rfl, HB2.out⟩
      · obtain rfl : n = k := by omega
        have hzk : ¬ (n : Int) < n := by omega
        have HT := Lib.hid (show z = true by
          rw [← HZ.out]
          have h := HP.out
          rw [List.take_of_length_le (by rw [HN.out]; exact Nat.le_refl _), List.take_of_length_le (by rw [HNM.out]; exact Nat.le_refl _)] at h
          exact decide_eq_true h)
        clear hlt
        go_wp2_with fail
        go_ret
        exact ⟨by rw [HT.out]; rfl, HB.out⟩
  · have t0 : ((l.length : Int) != (m.length : Int)) = true := by simp; omega
    rw [decide_eq_false (fun e => hlen (by rw [e]))]
    obtain ⟨n, hn⟩ : ∃ n, l.length = n := ⟨_, rfl⟩
    obtain ⟨k, hk⟩ : ∃ k, m.length = k := ⟨_, rfl⟩
    rw [hn, hk] at t0 ⊢
    have n62 : n ≤ 9223372036854775807 := by omega
    have k62 : k ≤ 9223372036854775807 := by omega
    clear h hm hn hk hlen hc1 hd1
    go_enter Tryz.func43, Tryz.ntmps43
    go_wp2_with fail
    go_ret
    exact ⟨rfl, Below.refl _ _⟩
set_option maxRecDepth 100000 in
set_option maxHeartbeats 4000000 in
theorem eqQ_pro {P Q : Nat → Prop} (l m : List Rc) (v u : Value) (w : World) (h : RdQ P w v l) (hm : RdQ Q w u m) : Calls Tryz.prog 44 #[v, u] w (SaysL (.bool (decide (l = m))) w) := by
  obtain ⟨pa, cap, rfl, hc1, hc2⟩ := h.form
  obtain ⟨pb, cab, rfl, hd1, hd2⟩ := hm.form
  unfold maxLen at hc2 hd2
  have hgd : Tryz.prog.eqGuardType Tryz.prog.depth 37 = false := by kernel_rfl
  by_cases hlen : l.length = m.length
  · have HH := Lib.hid h
    have HM := Lib.hid hm
    rw [← hlen] at HM ⊢
    obtain ⟨n, hn⟩ : ∃ n, l.length = n := ⟨_, rfl⟩
    have HN := Lib.hid hn
    have HNM := Lib.hid (hlen.symm.trans hn)
    rw [hn] at HH HM hc1 ⊢
    have n62 : n ≤ 9223372036854775807 := by omega
    have t0 : ((n : Int) != (n : Int)) = false := by simp
    obtain ⟨z, hz⟩ : ∃ z, decide (l = m) = z := ⟨_, rfl⟩
    have HZ := Lib.hid hz
    rw [hz]
    clear h hm hn hlen hd1 hz
    go_enter Tryz.func44, Tryz.ntmps44
    go_wp2_with fail
    go_loopw [13] (fun i wr => ∃ k : Nat, i = .int .i64 k ∧ k ≤ n ∧ Hid (l.take k = m.take k) ∧ Hid (Below w.heap.size w wr)) (fun i _ => n - (intOf i).toNat)
    case atStart => exact ⟨0, rfl, Nat.zero_le _, Lib.hid rfl, Lib.hid (Below.refl _ _)⟩
    case round =>
      obtain ⟨k, rfl, hk, HP, HB⟩ := hrel
      by_cases hlt : k < n
      · have hkl : k < l.length := by rw [HN.out]; exact hlt
        have hkm : k < m.length := by rw [HNM.out]; exact hlt
        have k1 : (k : Int) < n := by omega
        have HLT := Lib.hid hlt
        obtain ⟨b, off, rfl, _, d0, d1, d2, d3⟩ := (HH.out.below HB.out).at_ hkl
        obtain ⟨b2, off2, rfl, _, e0, e1, e2, e3⟩ := (HM.out.below HB.out).at_ hkm
        have HMO := Lib.hid (fun (e : l[k] = m[k]) => take_more hkl hkm HP.out e)
        have HNO := Lib.hid (fun (e : l[k] ≠ m[k]) => show decide (l = m) = false from decide_eq_false (take_ne hkl hkm e))
        obtain ⟨x, hx⟩ : ∃ x, l[k] = x := ⟨_, rfl⟩
        obtain ⟨y, hy⟩ : ∃ y, m[k] = y := ⟨_, rfl⟩
        rw [hx] at d0 d1 d2 d3 HMO HNO
        rw [hy] at e0 e1 e2 e3 HMO HNO
        by_cases hxy : x = y
        · have heq := fun w => eqRc x y w
          rw [decide_eq_true hxy] at heq
          have HT := Lib.hid (HMO.out hxy)
          clear hx hy hkl hkm hlt hxy
          go_upto_region 6 with fail
          go_quiet (fail)
          have HB2 := Lib.hid (dn_below HB.out nq)
          go_wp2_with fail
          go_roundw
          case measure => have := HLT.out; simp [intOf]; omega
          case rel => exact ⟨k + 1, by go_num, HLT.out, HT, HB2⟩
        · have heq := fun w => eqRc x y w
          rw [decide_eq_false hxy] at heq
          have HT := Lib.hid (HZ.out.symm.trans (HNO.out hxy))
          clear hx hy hkl hkm hlt hxy
          go_upto_region 6 with fail
          go_quiet (fail)
          have HB2 := Lib.hid (dn_below HB.out nq)
          go_wp2_with fail
          go_ret
          exact ⟨by rw [HT.out]; rfl, HB2.out⟩
      · obtain rfl : n = k := by omega
        have hzk : ¬ (n : Int) < n := by omega
        have HT := Lib.hid (show z = true by
          rw [← HZ.out]
          have h := HP.out
          rw [List.take_of_length_le (by rw [HN.out]; exact Nat.le_refl _), List.take_of_length_le (by rw [HNM.out]; exact Nat.le_refl _)] at h
          exact decide_eq_true h)
        clear hlt
        go_wp2_with fail
        go_ret
        exact ⟨by rw [HT.out]; rfl, HB.out⟩
  · have t0 : ((l.length : Int) != (m.length : Int)) = true := by simp; omega
    rw [decide_eq_false (fun e => hlen (by rw [e]))]
    obtain ⟨n, hn⟩ : ∃ n, l.length = n := ⟨_, rfl⟩
    obtain ⟨k, hk⟩ : ∃ k, m.length = k := ⟨_, rfl⟩
    rw [hn, hk] at t0 ⊢
    have n62 : n ≤ 9223372036854775807 := by omega
    have k62 : k ≤ 9223372036854775807 := by omega
    clear h hm hn hk hlen hc1 hd1
    go_enter Tryz.func44, Tryz.ntmps44
    go_wp2_with fail
    go_ret
    exact ⟨rfl, Below.refl _ _⟩
set_option maxRecDepth 100000 in
set_option maxHeartbeats 4000000 in
theorem eqT_pro {P Q : Nat → Prop} (l m : List (Int × Int)) (v u : Value) (w : World) (h : RdC P w v l) (hm : RdC Q w u m) : Calls Tryz.prog 45 #[v, u] w (SaysL (.bool (decide (l = m))) w) := by
  obtain ⟨pa, cap, rfl, hc1, hc2⟩ := sliceC h
  obtain ⟨pb, cab, rfl, hd1, hd2⟩ := sliceC hm
  skip
  have hgd : Tryz.prog.eqGuardType Tryz.prog.depth 39 = false := by kernel_rfl
  by_cases hlen : l.length = m.length
  · have HH := Lib.hid h
    have HM := Lib.hid hm
    rw [← hlen] at HM ⊢
    obtain ⟨n, hn⟩ : ∃ n, l.length = n := ⟨_, rfl⟩
    have HN := Lib.hid hn
    have HNM := Lib.hid (hlen.symm.trans hn)
    rw [hn] at HH HM hc1 ⊢
    have n62 : n ≤ 9223372036854775807 := by omega
    have t0 : ((n : Int) != (n : Int)) = false := by simp
    obtain ⟨z, hz⟩ : ∃ z, decide (l = m) = z := ⟨_, rfl⟩
    have HZ := Lib.hid hz
    rw [hz]
    clear h hm hn hlen hd1 hz
    go_enter Tryz.func45, Tryz.ntmps45
    go_wp2_with fail
    go_loopw [13] (fun i wr => ∃ k : Nat, i = .int .i64 k ∧ k ≤ n ∧ Hid (l.take k = m.take k) ∧ Hid (Below w.heap.size w wr)) (fun i _ => n - (intOf i).toNat)
    case atStart => exact ⟨0, rfl, Nat.zero_le _, Lib.hid rfl, Lib.hid (Below.refl _ _)⟩
    case round =>
      obtain ⟨k, rfl, hk, HP, HB⟩ := hrel
      by_cases hlt : k < n
      · have hkl : k < l.length := by rw [HN.out]; exact hlt
        have hkm : k < m.length := by rw [HNM.out]; exact hlt
        have k1 : (k : Int) < n := by omega
        have HLT := Lib.hid hlt
        obtain ⟨b, off, rfl, _, d0, d1⟩ := (HH.out.below HB.out).cell hkl
        obtain ⟨b2, off2, rfl, _, e0, e1⟩ := (HM.out.below HB.out).cell hkm
        have HMO := Lib.hid (fun (e : l[k] = m[k]) => take_more hkl hkm HP.out e)
        have HNO := Lib.hid (fun (e : l[k] ≠ m[k]) => show decide (l = m) = false from decide_eq_false (take_ne hkl hkm e))
        obtain ⟨x, hx⟩ : ∃ x, l[k] = x := ⟨_, rfl⟩
        obtain ⟨y, hy⟩ : ∃ y, m[k] = y := ⟨_, rfl⟩
        rw [hx] at d0 d1 HMO HNO
        rw [hy] at e0 e1 HMO HNO
        by_cases hxy : x = y
        · have heq := fun w => eqTg x y w
          rw [decide_eq_true hxy] at heq
          have HT := Lib.hid (HMO.out hxy)
          clear hx hy hkl hkm hlt hxy
          go_upto_region 6 with fail
          go_quiet (fail)
          have HB2 := Lib.hid (dn_below HB.out nq)
          go_wp2_with fail
          go_roundw
          case measure => have := HLT.out; simp [intOf]; omega
          case rel => exact ⟨k + 1, by go_num, HLT.out, HT, HB2⟩
        · have heq := fun w => eqTg x y w
          rw [decide_eq_false hxy] at heq
          have HT := Lib.hid (HZ.out.symm.trans (HNO.out hxy))
          clear hx hy hkl hkm hlt hxy
          go_upto_region 6 with fail
          go_quiet (fail)
          have HB2 := Lib.hid (dn_below HB.out nq)
          go_wp2_with fail
          go_ret
          exact ⟨by rw [HT.out]; rfl, HB2.out⟩
      · obtain rfl : n = k := by omega
        have hzk : ¬ (n : Int) < n := by omega
        have HT := Lib.hid (show z = true by
          rw [← HZ.out]
          have h := HP.out
          rw [List.take_of_length_le (by rw [HN.out]; exact Nat.le_refl _), List.take_of_length_le (by rw [HNM.out]; exact Nat.le_refl _)] at h
          exact decide_eq_true h)
        clear hlt
        go_wp2_with fail
        go_ret
        exact ⟨by rw [HT.out]; rfl, HB.out⟩
  · have t0 : ((l.length : Int) != (m.length : Int)) = true := by simp; omega
    rw [decide_eq_false (fun e => hlen (by rw [e]))]
    obtain ⟨n, hn⟩ : ∃ n, l.length = n := ⟨_, rfl⟩
    obtain ⟨k, hk⟩ : ∃ k, m.length = k := ⟨_, rfl⟩
    rw [hn, hk] at t0 ⊢
    have n62 : n ≤ 9223372036854775807 := by omega
    have k62 : k ≤ 9223372036854775807 := by omega
    clear h hm hn hk hlen hc1 hd1
    go_enter Tryz.func45, Tryz.ntmps45
    go_wp2_with fail
    go_ret
    exact ⟨rfl, Below.refl _ _⟩
end Go.Proofs.YtjohhahfpgfjdaaGreatDoor.Tb
end
section
namespace Go.Proofs.YtjohhahfpgfjdaaGreatDoor.Tb
open Go.RowKit Go.Maps
set_option linter.unusedVariables false
set_option linter.unusedSimpArgs false
theorem enters_eqG : Enters 43 := enters Tryz.func43 (by kernel_rfl) (by kernel_rfl)
set_option maxRecDepth 100000 in
set_option maxHeartbeats 4000000 in
theorem eqLs_pro {P Q : Nat → Prop} (l m : List (List Gl)) (v u : Value) (w : World) (h : RdL P w v l) (hm : RdL Q w u m) : Calls Tryz.prog 42 #[v, u, .func (.func 43) #[] #[]] w (SaysL (.bool (decide (l = m))) w) := by
  obtain ⟨pa, cap, rfl, hc1, hc2⟩ := h.form
  obtain ⟨pb, cab, rfl, hd1, hd2⟩ := hm.form
  unfold maxLen at hc2 hd2
  by_cases hlen : l.length = m.length
  · have HH := Lib.hid h
    have HM := Lib.hid hm
    rw [← hlen] at HM ⊢
    obtain ⟨n, hn⟩ : ∃ n, l.length = n := ⟨_, rfl⟩
    have HN := Lib.hid hn
    have HNM := Lib.hid (hlen.symm.trans hn)
    rw [hn] at HH HM hc1 ⊢
    have n62 : n ≤ 9223372036854775807 := by omega
    have t0 : ((n : Int) != (n : Int)) = false := by simp
    obtain ⟨z, hz⟩ : ∃ z, decide (l = m) = z := ⟨_, rfl⟩
    have HZ := Lib.hid hz
    rw [hz]
    clear h hm hn hlen hd1 hz
    go_enter Tryz.func42, Tryz.ntmps42
    go_wp2_with fail
    go_loopw [17] (fun i wr => ∃ k : Nat, i = .int .i64 k ∧ k ≤ n ∧ Hid (l.take k = m.take k) ∧ Hid (Below w.heap.size w wr)) (fun i _ => n - (intOf i).toNat)
    case atStart => exact ⟨0, rfl, Nat.zero_le _, Lib.hid rfl, Lib.hid (Below.refl _ _)⟩
    case round =>
      obtain ⟨k, rfl, hk, HP, HB⟩ := hrel
      by_cases hlt : k < n
      · have hkl : k < l.length := by rw [HN.out]; exact hlt
        have hkm : k < m.length := by rw [HNM.out]; exact hlt
        have k1 : (k : Int) < n := by omega
        have HLT := Lib.hid hlt
        obtain ⟨b, off, pz, cz, rfl, _, c0, q1, q2, hx1⟩ := (HH.out.below HB.out).at_ hkl
        obtain ⟨b2, off2, py, cy, rfl, _, e0, s1, s2, hy1⟩ := (HM.out.below HB.out).at_ hkm
        have HMO := Lib.hid (fun (e : l[k] = m[k]) => take_more hkl hkm HP.out e)
        have HNO := Lib.hid (fun (e : l[k] ≠ m[k]) => show decide (l = m) = false from decide_eq_false (take_ne hkl hkm e))
        obtain ⟨x, hx⟩ : ∃ x, l[k] = x := ⟨_, rfl⟩
        obtain ⟨y, hy⟩ : ∃ y, m[k] = y := ⟨_, rfl⟩
        rw [hx] at c0 q1 hx1 HMO HNO
        rw [hy] at e0 s1 hy1 HMO HNO
        have HC := Lib.hid (eqG_pro x y _ _ wr hx1 hy1)
        have hE := enters_eqG #[.slice pz x.length cz, .slice py y.length cy] wr
        obtain ⟨xl, hxl⟩ : ∃ xl, x.length = xl := ⟨_, rfl⟩
        obtain ⟨yl, hyl⟩ : ∃ yl, y.length = yl := ⟨_, rfl⟩
        rw [hxl] at c0 HC hE
        rw [hyl] at e0 HC hE
        by_cases hxy : x = y
        · rw [decide_eq_true hxy] at HC
          have HT := Lib.hid (HMO.out hxy)
          clear hx hy hkl hkm hlt hxy hx1 hy1 q1 q2 s1 s2 hxl hyl
          go_wp2_with fail
          refine HC.out.mono ?_
          rintro e w5 ⟨rfl, b5⟩
          have HB2 := Lib.hid (HB.out.trans (b5.mono HB.out.size))
          clear b5
          go_wp2_with fail
          go_roundw
          case measure => have := HLT.out; simp [intOf]; omega
          case rel => exact ⟨k + 1, by go_num, HLT.out, HT, HB2⟩
        · rw [decide_eq_false hxy] at HC
          have HT := Lib.hid (HZ.out.symm.trans (HNO.out hxy))
          clear hx hy hkl hkm hlt hxy hx1 hy1 q1 q2 s1 s2 hxl hyl
          go_wp2_with fail
          refine HC.out.mono ?_
          rintro e w5 ⟨rfl, b5⟩
          have HB2 := Lib.hid (HB.out.trans (b5.mono HB.out.size))
          clear b5
          go_wp2_with fail
          go_ret
          exact ⟨by rw [HT.out]; rfl, HB2.out⟩
      · obtain rfl : n = k := by omega
        have hzk : ¬ (n : Int) < n := by omega
        have HT := Lib.hid (show z = true by
          rw [← HZ.out]
          have h := HP.out
          rw [List.take_of_length_le (by rw [HN.out]; exact Nat.le_refl _), List.take_of_length_le (by rw [HNM.out]; exact Nat.le_refl _)] at h
          exact decide_eq_true h)
        clear hlt
        go_wp2_with fail
        go_ret
        exact ⟨by rw [HT.out]; rfl, HB.out⟩
  · have t0 : ((l.length : Int) != (m.length : Int)) = true := by simp; omega
    rw [decide_eq_false (fun e => hlen (by rw [e]))]
    obtain ⟨n, hn⟩ : ∃ n, l.length = n := ⟨_, rfl⟩
    obtain ⟨k, hk⟩ : ∃ k, m.length = k := ⟨_, rfl⟩
    rw [hn, hk] at t0 ⊢
    have n62 : n ≤ 9223372036854775807 := by omega
    have k62 : k ≤ 9223372036854775807 := by omega
    clear h hm hn hk hlen hc1 hd1
    go_enter Tryz.func42, Tryz.ntmps42
    go_wp2_with fail
    go_ret
    exact ⟨rfl, Below.refl _ _⟩
/-- A layout, plain. -/
structure Ld where
  lines : List (List Gl)
  rects : List Rc
  links : List (Int × Int)
  more : Bool
  deriving DecidableEq
/-- A layout by value, read. -/
structure LdIs (P : Nat → Prop) (w : World) (vl vr vk : Value) (d : Ld) : Prop where
  lines : RdL P w vl d.lines
  rects : RdQ P w vr d.rects
  links : RdC P w vk d.links
theorem LdIs.below {P : Nat → Prop} {w w' : World} {vl vr vk : Value} {d : Ld} (h : LdIs P w vl vr vk d) (hb : Below w.heap.size w w') : LdIs P w' vl vr vk d := ⟨h.lines.below hb, h.rects.below hb, h.links.below hb⟩
set_option maxRecDepth 100000 in
set_option maxHeartbeats 4000000 in
theorem lsame_pro {P Q : Nat → Prop} (a b : Ld) (vl vr vk ul ur uk : Value) (w : World) (ha : LdIs P w vl vr vk a) (hb : LdIs Q w ul ur uk b) : Calls Tryz.prog 24 #[laidV vl vr vk a.more, laidV ul ur uk b.more] w (SaysL (.bool (decide (a = b))) w) := by
  obtain ⟨la, ra, ka, ma⟩ := a
  obtain ⟨lb, rb, kb, mb⟩ := b
  obtain ⟨a1, a2, a3⟩ := ha
  obtain ⟨b1, b2, b3⟩ := hb
  dsimp only at a1 a2 a3 b1 b2 b3 ⊢
  have HD := Lib.hid (show decide (Ld.mk la ra ka ma = Ld.mk lb rb kb mb) = (decide (la = lb) && (decide (ra = rb) && (decide (ka = kb) && (ma == mb)))) by
    by_cases h1 : la = lb <;> by_cases h2 : ra = rb <;> by_cases h3 : ka = kb <;> by_cases h4 : ma = mb <;> simp [h1, h2, h3, h4])
  obtain ⟨p1, c1, rfl, _, _⟩ := a1.form
  obtain ⟨p2, c2, rfl, _, _⟩ := a2.form
  obtain ⟨p3, c3, rfl, _, _⟩ := sliceC a3
  obtain ⟨p4, c4, rfl, _, _⟩ := b1.form
  obtain ⟨p5, c5, rfl, _, _⟩ := b2.form
  obtain ⟨p6, c6, rfl, _, _⟩ := sliceC b3
  obtain ⟨n1, h1⟩ : ∃ n, la.length = n := ⟨_, rfl⟩
  obtain ⟨n2, h2⟩ : ∃ n, ra.length = n := ⟨_, rfl⟩
  obtain ⟨n3, h3⟩ : ∃ n, ka.length = n := ⟨_, rfl⟩
  obtain ⟨n4, h4⟩ : ∃ n, lb.length = n := ⟨_, rfl⟩
  obtain ⟨n5, h5⟩ : ∃ n, rb.length = n := ⟨_, rfl⟩
  obtain ⟨n6, h6⟩ : ∃ n, kb.length = n := ⟨_, rfl⟩
  rw [h1] at a1 ⊢
  rw [h2] at a2 ⊢
  rw [h3] at a3 ⊢
  rw [h4] at b1 ⊢
  rw [h5] at b2 ⊢
  rw [h6] at b3 ⊢
  have A1 := Lib.hid a1
  have A2 := Lib.hid a2
  have A3 := Lib.hid a3
  have B1 := Lib.hid b1
  have B2 := Lib.hid b2
  have B3 := Lib.hid b3
  unfold laidV
  have hA := (below_box w (.cells #[.slice p1 n1 c1, .slice p2 n2 c2, .slice p3 n3 c3, .bool ma] 29)).trans ((below_box (w.alloc (.cells #[.slice p1 n1 c1, .slice p2 n2 c2, .slice p3 n3 c3, .bool ma] 29)) (.cells #[.slice p4 n4 c4, .slice p5 n5 c5, .slice p6 n6 c6, .bool mb] 29)).mono (by simp))
  have HA := Lib.hid hA
  obtain ⟨W1, hW1⟩ : ∃ W1, (w.alloc (.cells #[.slice p1 n1 c1, .slice p2 n2 c2, .slice p3 n3 c3, .bool ma] 29)).alloc (.cells #[.slice p4 n4 c4, .slice p5 n5 c5, .slice p6 n6 c6, .bool mb] 29) = W1 := ⟨_, rfl⟩
  have hx1 : W1.heap[w.heap.size]? = some (.cells #[.slice p1 n1 c1, .slice p2 n2 c2, .slice p3 n3 c3, .bool ma] 29) := by
    rw [← hW1]
    exact ((below_box (w.alloc (.cells #[.slice p1 n1 c1, .slice p2 n2 c2, .slice p3 n3 c3, .bool ma] 29)) _).block w.heap.size (by simp)).trans (heap_alloc_new w _)
  have hx2 : W1.heap[w.heap.size + 1]? = some (.cells #[.slice p4 n4 c4, .slice p5 n5 c5, .slice p6 n6 c6, .bool mb] 29) := by
    rw [← hW1]
    have h := heap_alloc_new (w.alloc (.cells #[.slice p1 n1 c1, .slice p2 n2 c2, .slice p3 n3 c3, .bool ma] 29)) (.cells #[.slice p4 n4 c4, .slice p5 n5 c5, .slice p6 n6 c6, .bool mb] 29)
    rw [show (w.alloc (.cells #[.slice p1 n1 c1, .slice p2 n2 c2, .slice p3 n3 c3, .bool ma] 29)).heap.size = w.heap.size + 1 by simp] at h
    exact h
  have HX1 := Lib.hid hx1
  have HX2 := Lib.hid hx2
  rw [hW1] at HA
  have HW1 := Lib.hid hW1
  clear a1 a2 a3 b1 b2 b3 h1 h2 h3 h4 h5 h6 hA hx1 hx2 hW1
  have hcell : ∀ (W' : World) (hb : Below W1.heap.size W1 W') (j : Nat), W'.cell? ⟨w.heap.size, j, none⟩ = (#[Value.slice p1 n1 c1, .slice p2 n2 c2, .slice p3 n3 c3, .bool ma] : Array Value)[j]? ∧ W'.cell? ⟨w.heap.size + 1, j, none⟩ = (#[Value.slice p4 n4 c4, .slice p5 n5 c5, .slice p6 n6 c6, .bool mb] : Array Value)[j]? := fun W' hb j => by
    constructor
    · rw [cell_of_row _ _ _ _ _ _ ((hb.block _ (Array.getElem?_eq_some_iff.1 HX1.out).1).trans HX1.out)]
    · rw [cell_of_row _ _ _ _ _ _ ((hb.block _ (Array.getElem?_eq_some_iff.1 HX2.out).1).trans HX2.out)]
  have HCL := Lib.hid hcell
  clear hcell
  go_enter Tryz.func24, Tryz.ntmps24
  go_wp2_with fail
  rw [HW1.out]
  refine (eqLs_pro la lb _ _ W1 (A1.out.below HA.out) (B1.out.below HA.out)).mono ?_
  rintro e w2 ⟨rfl, b2⟩
  have BB2 := Lib.hid b2
  obtain ⟨f1, f2⟩ := HCL.out w2 b2 1
  have HB2 := Lib.hid (HA.out.trans (b2.mono HA.out.size))
  obtain ⟨t1, ht1⟩ : ∃ t, decide (la = lb) = t := ⟨_, rfl⟩
  rw [ht1] at HD ⊢
  simp at f1 f2
  clear b2 ht1
  cases t1 with
  | false =>
    go_wp2_with fail
    go_ret
    exact ⟨by rw [HD.out]; rfl, HB2.out⟩
  | true =>
    go_wp2_with fail
    refine (eqQ_pro ra rb _ _ w2 (A2.out.below HB2.out) (B2.out.below HB2.out)).mono ?_
    rintro e w3 ⟨rfl, b3⟩
    have BB3 := Lib.hid (BB2.out.trans (b3.mono BB2.out.size))
    obtain ⟨g1, g2⟩ := HCL.out w3 BB3.out 2
    have HB3 := Lib.hid (HA.out.trans (BB3.out.mono HA.out.size))
    obtain ⟨t2, ht2⟩ : ∃ t, decide (ra = rb) = t := ⟨_, rfl⟩
    rw [ht2] at HD ⊢
    simp at g1 g2
    clear b3 ht2 f1 f2
    cases t2 with
    | false =>
      go_wp2_with fail
      go_ret
      exact ⟨by rw [HD.out]; rfl, HB3.out⟩
    | true =>
      go_wp2_with fail
      refine (eqT_pro ka kb _ _ w3 (A3.out.below HB3.out) (B3.out.below HB3.out)).mono ?_
      rintro e w4 ⟨rfl, b4⟩
      have BB4 := Lib.hid (BB3.out.trans (b4.mono BB3.out.size))
      obtain ⟨g3, g4⟩ := HCL.out w4 BB4.out 3
      have HB4 := Lib.hid (HA.out.trans (BB4.out.mono HA.out.size))
      obtain ⟨t3, ht3⟩ : ∃ t, decide (ka = kb) = t := ⟨_, rfl⟩
      rw [ht3] at HD ⊢
      simp at g3 g4
      clear b4 ht3 g1 g2
      cases t3 with
      | false =>
        go_wp2_with fail
        go_ret
        exact ⟨by rw [HD.out]; rfl, HB4.out⟩
      | true =>
        obtain ⟨t4, ht4⟩ : ∃ t, (ma == mb) = t := ⟨_, rfl⟩
        rw [ht4] at HD
        have HT4 := Lib.hid ht4
        go_wp2_with fail
        go_ret
        exact ⟨by rw [HD.out]; rfl, HB4.out⟩
end Go.Proofs.YtjohhahfpgfjdaaGreatDoor.Tb
end
