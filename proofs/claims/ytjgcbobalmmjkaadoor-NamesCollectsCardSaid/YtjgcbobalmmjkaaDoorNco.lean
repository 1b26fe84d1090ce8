/- The program's Collect of layer 7. -/
import Derived.Test.YtjgcbobalmmjkaaDoorNsm
namespace Go.Proofs.YtjgcbobalmmjkaaDoor
open Go.RowKit Go.Maps Go.Sort
set_option linter.unusedVariables false

/-- A topic with its place: its source's number, its own number in it. -/
structure En where
  src : Nat
  at_ : Nat
  tp : Tpc
def enRow (e : En) : List Value := [.string e.tp.nam, .string (nm e.tp.nam), .int .i64 e.src, .int .i64 e.at_, .int .i64 e.tp.kind, .int .i64 e.tp.line]
theorem enRow_len (e : En) : (enRow e).length = 6 := rfl
def rowsN (l : List En) : List Value := l.flatMap enRow
theorem rowsN_len : ∀ l : List En, (rowsN l).length = l.length * 6
  | [] => rfl
  | e :: l => by
    have := rowsN_len l
    unfold rowsN at this ⊢
    rw [List.flatMap_cons, List.length_append, this, enRow_len, List.length_cons]
    omega
theorem rowsN_snoc (l : List En) (e : En) : rowsN (l ++ [e]) = rowsN l ++ enRow e := by unfold rowsN; rw [List.flatMap_append]; simp
theorem rowsN_at : ∀ (l : List En) (j k : Nat) (hj : j < l.length), k < 6 → (rowsN l)[j * 6 + k]? = (enRow l[j])[k]?
  | e :: l, 0, k, hj, hk => by
    unfold rowsN
    rw [List.flatMap_cons, List.getElem?_append_left (by rw [enRow_len]; omega), Nat.zero_mul, Nat.zero_add]
    rfl
  | e :: l, j + 1, k, hj, hk => by
    have ih := rowsN_at l j k (by simpa using hj) hk
    unfold rowsN at ih ⊢
    rw [List.flatMap_cons, List.getElem?_append_right (by rw [enRow_len]; omega), enRow_len, show (j + 1) * 6 + k - 6 = j * 6 + k by omega, ih]
    rfl
theorem enRow_one (e : En) : ∀ u ∈ enRow e, u.oneCell' = true := by
  intro u hu
  simp only [enRow, List.mem_cons, List.not_mem_nil, or_false] at hu
  rcases hu with rfl | rfl | rfl | rfl | rfl | rfl <;> rfl
/-- A directory in memory. -/
def RdN (w : World) (v : Value) (l : List En) : Prop :=
  ∃ (pa : Option Addr) (cap : Nat), v = .slice pa l.length cap ∧ ∀ j (hj : j < l.length), ∃ b off, pa = some ⟨b, off, none⟩ ∧ ∀ k u, (enRow l[j])[k]? = some u → w.cell? ⟨b, off + j * 6 + k, none⟩ = some u
theorem RdN.below {w w' : World} {v : Value} {l : List En} (h : RdN w v l) (hb : Below w.heap.size w w') : RdN w' v l := by
  obtain ⟨pa, cap, e, h4⟩ := h
  refine ⟨pa, cap, e, fun j hj => ?_⟩
  obtain ⟨b, off, e, hc⟩ := h4 j hj
  exact ⟨b, off, e, fun k u hu => (hb.cell (p := ⟨b, off + j * 6 + k, none⟩) (cellIn (hc k u hu))).trans (hc k u hu)⟩
theorem RdN.form {w : World} {v : Value} {l : List En} (h : RdN w v l) : ∃ (pa : Option Addr) (cap : Nat), v = .slice pa l.length cap := by
  obtain ⟨pa, cap, e, _⟩ := h
  exact ⟨pa, cap, e⟩
theorem RdN.cell {w : World} {pa : Option Addr} {n cap : Nat} {l : List En} (h : RdN w (.slice pa n cap) l) {j : Nat} (hj : j < l.length) : ∃ b off, pa = some ⟨b, off, none⟩ ∧ ∀ k u, (enRow l[j])[k]? = some u → w.cell? ⟨b, off + j * 6 + k, none⟩ = some u := by
  obtain ⟨pa', cap', e, h4⟩ := h
  cases e
  exact h4 j hj
theorem RdN.own {W : World} {base : Nat} {v : Value} {l : List En} (h : W.ownsRow base 40 6 v l.length (rowsN l)) : RdN W v l := by
  rcases h.2 with ⟨rfl, h0⟩ | ⟨g, cap, cur, rfl, hb, hg, h1, h2, h3, h4⟩
  · have : l = [] := List.eq_nil_of_length_eq_zero h0
    subst this
    exact ⟨none, 0, rfl, fun i hi => absurd hi (by simp)⟩
  · refine ⟨_, cap, rfl, fun j hj => ⟨g, 0, rfl, fun k u hu => ?_⟩⟩
    have hk : k < 6 := by have := (List.getElem?_eq_some_iff.1 hu).1; rwa [enRow_len] at this
    rw [Nat.zero_add, World.ownsRow.cellAt h (j * 6 + k) (by omega), rowsN_at l j k hj hk]
    exact hu
theorem infoN : (Tryd.prog.info? 40).map (fun i => (i.zero, i.size, i.bytes)) = some (some (.agg #[.string .empty, .string .empty, .int .i64 0, .int .i64 0, .int .i64 0, .int .i64 0]), 6, 64) := by kernel_rfl

/-- The first so many topics of a source; those of the first so many sources. -/
def tpz : Tpc := ⟨0, .empty, .empty, 0, none, 0, 0, none, 0, 0, none, 0, 0, 0⟩
def srz : Srm := ⟨.slice none 0 0, .slice none 0 0, []⟩
def entsT (i : Nat) (ts : List Tpc) (j : Nat) : List En := (List.range j).map fun k => ⟨i, k, ts.getD k tpz⟩
def entsS (ss : List Srm) (k : Nat) : List En := (List.range k).flatMap fun i => entsT i (ss.getD i srz).ts (ss.getD i srz).ts.length
theorem entsT_len (i : Nat) (ts : List Tpc) (j : Nat) : (entsT i ts j).length = j := by simp [entsT]
theorem entsT_succ {i : Nat} {ts : List Tpc} {j : Nat} (h : j < ts.length) : entsT i ts (j + 1) = entsT i ts j ++ [⟨i, j, ts[j]⟩] := by
  unfold entsT
  rw [List.range_succ, List.map_append]
  simp [h]
theorem entsS_succ {ss : List Srm} {k : Nat} (h : k < ss.length) : entsS ss (k + 1) = entsS ss k ++ entsT k ss[k].ts ss[k].ts.length := by
  unfold entsS
  rw [List.range_succ, List.flatMap_append]
  simp [h]
theorem entsS_len (ss : List Srm) : ∀ k, k ≤ ss.length → (entsS ss k).length = cntT ss k
  | 0, _ => by simp [entsS, cntT]
  | k + 1, h => by
    rw [entsS_succ (by omega), List.length_append, entsT_len, cntT_succ (by omega), entsS_len ss k (by omega)]
theorem cntT_mono (ss : List Srm) {j k : Nat} (h : j ≤ k) (hk : k ≤ ss.length) : cntT ss j ≤ cntT ss k := by
  induction k with
  | zero => rw [show j = 0 by omega]; exact Nat.le_refl _
  | succ k ih =>
    rcases Nat.lt_or_ge j (k + 1) with h1 | h1
    · have := ih (by omega) (by omega)
      rw [cntT_succ (by omega)]
      omega
    · rw [show j = k + 1 by omega]; exact Nat.le_refl _
def normsE (l : List En) : List ByteArray := l.map fun e => nm e.tp.nam
theorem normsE_len (l : List En) : (normsE l).length = l.length := by simp [normsE]
theorem normsE_snoc (l : List En) (e : En) : normsE (l ++ [e]) = normsE l ++ [nm e.tp.nam] := by simp [normsE]
/-- Each may stand behind those ahead of it. -/
def Fine (l : List En) : Prop := ∀ k (h : k < l.length), errOn (normsE (l.take k)) l[k].tp.nam = 0
theorem Fine.nil : Fine [] := fun k h => absurd h (by simp)
theorem Fine.snoc {l : List En} {e : En} (h : Fine l) (he : errOn (normsE l) e.tp.nam = 0) : Fine (l ++ [e]) := by
  intro k hk
  by_cases hl : k < l.length
  · rw [List.getElem_append_left hl, List.take_append_of_le_length (by omega)]
    exact h k hl
  · obtain rfl : k = l.length := by simp at hk; omega
    rw [List.take_left]
    simpa using he
/-- What stands while sources are gone through: the directory, the map of the Norms. -/
structure CSt (w : World) (M : Nat) (l : List En) (dv : Value) (W : World) : Prop where
  own : W.ownsRow w.heap.size 40 6 dv l.length (rowsN l)
  mp : MapIs W M (normsE l)
  bl : Below w.heap.size w W
  fine : Fine l
  low : w.heap.size ≤ M
theorem CSt.below {w W W' : World} {M : Nat} {l : List En} {dv : Value} (h : CSt w M l dv W) (hb : Below W.heap.size W W') : CSt w M l dv W' :=
  ⟨own_stays h.own fun c e => hb.block c (own_base h.own e).2, h.mp.below hb, h.bl.trans (hb.mono h.bl.size), h.fine, h.low⟩
theorem CSt.mapNot {w W : World} {M : Nat} {l : List En} {dv : Value} (h : CSt w M l dv W) : dv.ownBlock ≠ some M := by
  obtain ⟨D, ⟨es, ck, h1, h2⟩, h3⟩ := h.mp
  exact own_not h.own h1 (fun cur fr e => by cases e)
/-- Behind add: the map has one more. -/
structure CMid (w : World) (M : Nat) (l : List En) (x : En) (dv : Value) (W : World) : Prop where
  own : W.ownsRow w.heap.size 40 6 dv l.length (rowsN l)
  mp : MapIs W M (normsE (l ++ [x]))
  bl : Below w.heap.size w W
  fine : Fine (l ++ [x])
  low : w.heap.size ≤ M
theorem CSt.add {w W W' : World} {M : Nat} {l : List En} {dv : Value} (h : CSt w M l dv W) {x : En} (he : errOn (normsE l) x.tp.nam = 0) (hm : MapIs W' M (normsE l ++ [nm x.tp.nam])) (hg : W.grownBy W' (some M)) : CMid w M l x dv W' :=
  ⟨own_stays h.own fun c e => hg.block c (own_base h.own e).2 (fun e2 => h.mapNot (e.trans e2)), by rw [normsE_snoc]; exact hm,
   h.bl.grown hg h.bl.size (fun r e => by cases e; exact h.low), h.fine.snoc he, h.low⟩
theorem CMid.push {w W W' : World} {M : Nat} {l : List En} {x : En} {dv dv' : Value} {o : Obj} (h : CMid w M l x dv W) (hg : (W.alloc o).grownBy W' dv.ownBlock) (hown : W'.ownsRow w.heap.size 40 6 dv' (l.length + 1) (rowsN l ++ enRow x)) : CSt w M (l ++ [x]) dv' W' := by
  have hA : Below W.heap.size W (W.alloc o) := (Below.refl _ W).alloc (Nat.le_refl _) _
  have hn : dv.ownBlock ≠ some M := by
    obtain ⟨D, ⟨es, ck, h1, h2⟩, h3⟩ := h.mp
    exact own_not h.own h1 (fun cur fr e => by cases e)
  refine ⟨by rw [List.length_append, rowsN_snoc]; exact hown, h.mp.block ((hg.block M (by have := h.mp.lt; simp; omega) (fun e => hn e.symm)).trans (hA.block M h.mp.lt)), ?_, h.fine, h.low⟩
  exact (h.bl.alloc h.bl.size o).grown hg (by have := h.bl.size; simp; omega) (fun r e => (own_base h.own e).1)
theorem cst_start {w w1 : World} (hb : Below w.heap.size w w1) : CSt w w1.heap.size [] (.slice none 0 0) (w1.alloc (.map #[] 0)) :=
  ⟨World.ownsRow_nil _ _ _ _, ⟨.map [], World.ownsMap_made _ _ _ _, Num.nil⟩, hb.alloc hb.size _, Fine.nil, hb.size⟩
theorem RdTp.cell {W : World} {pa : Option Addr} {n cap : Nat} {ts : List Tpc} (h : RdTp W (.slice pa n cap) ts) {j : Nat} (hj : j < ts.length) : ∃ b off, pa = some ⟨b, off, none⟩ ∧ ∀ k u, (tpcRow ts[j])[k]? = some u → W.cell? ⟨b, off + j * 8 + k, none⟩ = some u := by
  obtain ⟨pa', cap', e, h4⟩ := h
  cases e
  exact h4 j hj
def boxT (t : Tpc) : Obj := .cells #[.int .i64 t.kind, .string t.nam, .string t.title, .int .i64 t.level, .slice t.kp t.kn t.kc, .slice t.sp t.sn t.sc, .slice t.bp t.bn t.bc, .int .i64 t.line] 38
theorem box_cells {W : World} {g : Nat} {t : Tpc} (h : W.heap[g]? = some (boxT t)) : W.cell? ⟨g, 0, none⟩ = some (.int .i64 t.kind) ∧ W.cell? ⟨g, 1, none⟩ = some (.string t.nam) ∧ W.cell? ⟨g, 7, none⟩ = some (.int .i64 t.line) := by
  unfold boxT at h
  refine ⟨?_, ?_, ?_⟩ <;> (rw [cell_of_row _ g _ _ _ _ h]; rfl)
/-- What Collect answers. -/
def CollIs (ss : List Srm) (w : World) (e : Ending) (w' : World) : Prop := Below w.heap.size w w' ∧
  ((∃ g f, e = .returned (.tuple #[.slice none 0 0, errV g]) ∧ Erd w' g f ∧
      ((64 < ss.length ∨ 1000 < cntT ss ss.length) ∧ f = ⟨2, 0, 0, 0, .empty⟩ ∨
       ss.length ≤ 64 ∧ cntT ss ss.length ≤ 1000 ∧ ∃ k j, ∃ (hk : k < ss.length) (hj : j < ss[k].ts.length), Fine (entsS ss k ++ entsT k ss[k].ts j) ∧ errOn (normsE (entsS ss k ++ entsT k ss[k].ts j)) ss[k].ts[j].nam ≠ 0 ∧
         f = ⟨errOn (normsE (entsS ss k ++ entsT k ss[k].ts j)) ss[k].ts[j].nam, k, ss[k].ts[j].line, 0, ss[k].ts[j].nam⟩)) ∨
   (ss.length ≤ 64 ∧ cntT ss ss.length ≤ 1000 ∧ Fine (entsS ss ss.length) ∧ ∃ dv, e = .returned (.tuple #[dv, .nilIface]) ∧ RdN w' dv (entsS ss ss.length)))

set_option maxRecDepth 100000 in
set_option maxHeartbeats 4000000 in
theorem collect_pro (ss : List Srm) (v : Value) (w : World) (h : RdSr w v ss) (hT : Tabs w) (hl : ss.length ≤ 4611686018427387904) (hm : ∀ s ∈ ss, s.ts.length ≤ 140737488355328) :
    Calls Tryd.prog 6 #[v] w (CollIs ss w) := by
  obtain ⟨pa, cap, rfl⟩ := h.form
  have HR := Lib.hid h
  have HT := Lib.hid hT
  by_cases hlen : 64 < ss.length
  · have hlz : (64 : Int) < ss.length := by omega
    have HL := Lib.hid hlen
    clear h hT hm hlen
    go_enter Tryd.func6, Tryd.ntmps6
    go_wp2_with fail
    refine (fault_code 2 (by decide) _).mono ?_
    rintro e w1 ⟨⟨g, hg, rfl, hE⟩, hb⟩
    have HB := Lib.hid hb
    have HE := Lib.hid hE
    clear hb hE hg
    unfold errV
    go_wp2_with fail
    go_ret2
    exact ⟨HB.out, .inl ⟨g, _, rfl, HE.out, .inl ⟨.inl HL.out, rfl⟩⟩⟩
  · have hlz : ¬ (64 : Int) < ss.length := by omega
    have HL := Lib.hid (show ss.length ≤ 64 by omega)
    have HC := Lib.hid (count_pro ss _ w h HL.out hm)
    have HM := Lib.hid hm
    obtain ⟨c, hc⟩ : ∃ c, cntT ss ss.length = c := ⟨_, rfl⟩
    rw [hc] at HC
    have HCC := Lib.hid hc
    clear h hT hm hlen hc
    by_cases hbig : 1000 < c
    · have hbz : (1000 : Int) < c := by omega
      have HBG := Lib.hid hbig
      clear hbig
      go_enter Tryd.func6, Tryd.ntmps6
      go_wp2_with fail
      refine HC.out.mono ?_
      rintro e w1 ⟨rfl, hb1⟩
      have HB1 := Lib.hid hb1
      clear hb1
      go_wp2_with fail
      refine (fault_code 2 (by decide) _).mono ?_
      rintro e w2 ⟨⟨g, hg, rfl, hE⟩, hb⟩
      have HB := Lib.hid (HB1.out.trans (hb.mono HB1.out.size))
      have HE := Lib.hid hE
      clear hb hE hg
      unfold errV
      go_wp2_with fail
      go_ret2
      exact ⟨HB.out, .inl ⟨g, _, rfl, HE.out, .inl ⟨.inr (by rw [HCC.out]; exact HBG.out), rfl⟩⟩⟩
    · have hbz : ¬ (1000 : Int) < c := by omega
      have HBG := Lib.hid (show cntT ss ss.length ≤ 1000 by rw [HCC.out]; omega)
      obtain ⟨i0, hi0, hz0, hz1, hz2⟩ := info_parts infoN
      have hmm := @run_makeMap Tryd.prog
      clear hbig
      go_enter Tryd.func6, Tryd.ntmps6
      go_wp2_with fail
      refine HC.out.mono ?_
      rintro e w1 ⟨rfl, hb1⟩
      have HB1 := Lib.hid hb1
      clear hb1
      go_wp2_with fail
      go_loopw [4, 24] (fun dv i wr => ∃ k : Nat, i = .int .i64 k ∧ k ≤ ss.length ∧ Hid (CSt w w1.heap.size (entsS ss k) dv wr)) (fun _ i _ => ss.length - (intOf i).toNat)
      case atStart => exact ⟨0, rfl, Nat.zero_le _, Lib.hid (cst_start HB1.out)⟩
      case round =>
        rename_i dv _
        obtain ⟨k, rfl, hk, HS⟩ := hrel
        by_cases hlt : k < ss.length
        · obtain ⟨b, off, rfl, ⟨sp, sn, sc, hst⟩, d1, d2, ht⟩ := HR.out.cell hlt
          have c1 := (HS.out.bl.cell (p := ⟨b, off + k * 2, none⟩) (cellIn d1)).trans d1
          have c2 := (HS.out.bl.cell (p := ⟨b, off + k * 2 + 1, none⟩) (cellIn d2)).trans d2
          have HSUC := Lib.hid (entsS_succ hlt)
          have HCT := Lib.hid (show (entsS ss k).length + ss[k].ts.length ≤ 1000 by
            have h1 := cntT_mono ss (show k + 1 ≤ ss.length by omega) (Nat.le_refl _)
            have h2 := HBG.out
            rw [cntT_succ hlt] at h1
            rw [entsS_len ss k hk]
            omega)
          obtain ⟨ts, hts, HERR⟩ : ∃ ts, ss[k].ts = ts ∧ Hid (∀ j, (hj : j < ts.length) → Fine (entsS ss k ++ entsT k ts j) → errOn (normsE (entsS ss k ++ entsT k ts j)) ts[j].nam ≠ 0 → ∀ g W, Erd W g ⟨errOn (normsE (entsS ss k ++ entsT k ts j)) ts[j].nam, k, ts[j].line, 0, ts[j].nam⟩ → Below w.heap.size w W → CollIs ss w (.returned (.tuple #[.slice none 0 0, errV g])) W) :=
            ⟨_, rfl, Lib.hid fun j hj hf he g W hE hB => ⟨hB, .inl ⟨g, _, rfl, hE, .inr ⟨HL.out, HBG.out, k, j, hlt, hj, hf, he, rfl⟩⟩⟩⟩
          rw [hts] at HSUC HCT ht
          obtain ⟨pt, ct, htv, hrest⟩ := ht
          have HTP := Lib.hid (show RdTp w (.slice pt ts.length ct) ts from ⟨pt, ct, rfl, hrest⟩)
          rw [hst] at c1
          rw [htv] at c2
          obtain ⟨nt, hnt⟩ : ∃ nt, ts.length = nt := ⟨_, rfl⟩
          rw [hnt] at c2 HSUC HCT HTP
          have HNT := Lib.hid hnt
          have hk1 : (k : Int) < ss.length := by omega
          have HLT := Lib.hid hlt
          have HS0 := Lib.hid (HS.out.below ((Below.refl _ wr).alloc (Nat.le_refl _) (.cells #[.slice sp sn sc, .slice pt nt ct] 33)))
          have HNB := Lib.hid (show nt ≤ 1000 by have := HCT.out; omega)
          clear d1 d2 hst htv hrest hts hnt hlt HS
          obtain ⟨wo, rfl⟩ : ∃ wo : World, wo = wr := ⟨_, rfl⟩
          go_wp2_with fail
          go_loopw [4, 32] (fun dv i wr => ∃ j : Nat, i = .int .i64 j ∧ j ≤ nt ∧ Hid (CSt w w1.heap.size (entsS ss k ++ entsT k ts j) dv wr)) (fun _ i _ => nt - (intOf i).toNat)
          case atStart => exact ⟨0, rfl, Nat.zero_le _, Lib.hid (by simpa [entsT] using HS0.out)⟩
          case round =>
            rename_i dv2 _
            obtain ⟨j, rfl, hj, HS2⟩ := hrel
            by_cases hjt : j < nt
            · have hjl : j < ts.length := by rw [HNT.out]; exact hjt
              obtain ⟨b2, off2, rfl, hc⟩ := HTP.out.cell hjl
              have qq : ∀ i u, (tpcRow ts[j])[i]? = some u → wr.cell? ⟨b2, off2 + j * 8 + i, none⟩ = some u := fun i u hu => (HS2.out.bl.cell (p := ⟨b2, off2 + j * 8 + i, none⟩) (cellIn (hc i u hu))).trans (hc i u hu)
              have HES := Lib.hid (entsT_succ (i := k) hjl)
              have HER2 := Lib.hid (HERR.out j hjl)
              obtain ⟨t, ht⟩ : ∃ t, ts[j] = t := ⟨_, rfl⟩
              rw [ht] at qq HES HER2
              have q0 : wr.cell? ⟨b2, off2 + j * 8, none⟩ = some (.int .i64 t.kind) := qq 0 _ rfl
              have q1 : wr.cell? ⟨b2, off2 + j * 8 + 1, none⟩ = some (.string t.nam) := qq 1 _ rfl
              have q2 : wr.cell? ⟨b2, off2 + j * 8 + 2, none⟩ = some (.string t.title) := qq 2 _ rfl
              have q3 : wr.cell? ⟨b2, off2 + j * 8 + 3, none⟩ = some (.int .i64 t.level) := qq 3 _ rfl
              have q4 : wr.cell? ⟨b2, off2 + j * 8 + 4, none⟩ = some (.slice t.kp t.kn t.kc) := qq 4 _ rfl
              have q5 : wr.cell? ⟨b2, off2 + j * 8 + 5, none⟩ = some (.slice t.sp t.sn t.sc) := qq 5 _ rfl
              have q6 : wr.cell? ⟨b2, off2 + j * 8 + 6, none⟩ = some (.slice t.bp t.bn t.bc) := qq 6 _ rfl
              have q7 : wr.cell? ⟨b2, off2 + j * 8 + 7, none⟩ = some (.int .i64 t.line) := qq 7 _ rfl
              obtain ⟨L, hL⟩ : ∃ L, entsS ss k ++ entsT k ts j = L := ⟨_, rfl⟩
              rw [hL] at HS2 HER2
              have HLL := Lib.hid (show L.length + 1 ≤ 1000 by rw [← hL, List.length_append, entsT_len]; have := HCT.out; omega)
              have HL2 := Lib.hid (show entsS ss k ++ entsT k ts (j + 1) = L ++ [⟨k, j, t⟩] by rw [HES.out, ← List.append_assoc, hL])
              have hA : Below wr.heap.size wr (wr.alloc (boxT t)) := (Below.refl _ wr).alloc (Nat.le_refl _) _
              have HS3 := Lib.hid (HS2.out.below hA)
              have HT3 := Lib.hid (HT.out.below HS3.out.bl (Nat.le_refl _))
              have HBX := Lib.hid (show (wr.alloc (boxT t)).heap[wr.heap.size]? = some (boxT t) from World.alloc_heap_new _ _)
              have HGM := Lib.hid (show w1.heap.size < wr.heap.size from HS2.out.mp.lt)
              have HAD := Lib.hid (add_pro (normsE L) w1.heap.size t.nam _ HT3.out HS3.out.mp (by rw [normsE_len]; have := HLL.out; omega))
              unfold boxT at HAD
              have hj1 : (j : Int) < nt := by omega
              have HJT := Lib.hid hjt
              have hnb := HNB.out
              obtain ⟨pd, cd, rfl⟩ := lenOf HS2.out.own
              clear hc qq ht hL hA hjl hjt
              go_wp2_with fail
              refine HAD.out.mono ?_
              rintro e w2 (⟨h0, rfl, hm, hb⟩ | ⟨h0, rfl, hm, hg⟩)
              · obtain ⟨x0, x1, x7⟩ := box_cells ((hb.block _ (by simp)).trans HBX.out)
                have HB2 := Lib.hid ((HS3.out.below hb).bl)
                have HF2 := Lib.hid HS3.out.fine
                obtain ⟨er, her⟩ : ∃ er, errOn (normsE L) t.nam = er := ⟨_, rfl⟩
                have HER := Lib.hid her
                rw [her] at h0 HER2 ⊢
                have t1 : (er != 0) = true := by simpa using h0
                have H0 := Lib.hid h0
                clear h0 hm hb her
                go_wp2_with fail
                refine (fault_new er k t.line 0 t.nam H0.out _).mono ?_
                rintro e w3 ⟨⟨g, hg, rfl, hE⟩, hb3⟩
                have HE3 := Lib.hid hE
                have HB3 := Lib.hid (HB2.out.trans (hb3.mono HB2.out.size))
                clear hg hE hb3
                unfold errV
                go_wp2_with fail
                go_ret2
                exact HER2.out HF2.out H0.out g _ HE3.out HB3.out
              · obtain ⟨x0, x1, x7⟩ := box_cells ((hg.block _ (by simp) (fun e => by have := HGM.out; simp at e; omega)).trans HBX.out)
                have HMD := Lib.hid (HS3.out.add (x := ⟨k, j, t⟩) h0 hm hg)
                have HSZ := Lib.hid HMD.out.bl.size
                clear h0 hm hg
                obtain ⟨x, hx⟩ : ∃ x, nm t.nam = x := ⟨_, rfl⟩
                have HX := Lib.hid hx
                have HRW := Lib.hid (show enRow ⟨k, j, t⟩ = [.string t.nam, .string x, .int .i64 k, .int .i64 j, .int .i64 t.kind, .int .i64 t.line] by unfold enRow; rw [hx])
                have M1 := Lib.hid (show L.length + 1 ≤ maxLen by have := HLL.out; unfold maxLen; omega)
                have M2 := Lib.hid (show (L.length + 1) * 64 ≤ 140737488355328 by have := HLL.out; omega)
                rw [hx]
                clear hx
                have M3 := Lib.hid (show w.heap.size ≤ (w2.alloc (.cells #[.string t.nam, .string x, .int .i64 k, .int .i64 j, .int .i64 t.kind, .int .i64 t.line] 40)).heap.size by have := HSZ.out; simp; omega)
                have HO8 := Lib.hid (HMD.out.own.alloc (.cells #[.string t.nam, .string x, .int .i64 k, .int .i64 j, .int .i64 t.kind, .int .i64 t.line] 40))
                have H1 := Lib.hid (show ∀ u ∈ [Value.string t.nam, .string x, .int .i64 k, .int .i64 j, .int .i64 t.kind, .int .i64 t.line], u.oneCell' = true by rw [← HRW.out]; exact enRow_one _)
                go_wp2_with (at_builtin; go_loud (refine wpList_append_lies _ rfl _ _ 24 rfl w.heap.size 40 i0 (.agg #[.string .empty, .string .empty, .int .i64 0, .int .i64 0, .int .i64 0, .int .i64 0]) 6 64 Tryd.underlying24 hi0 hz0 hz1 hz2 rfl (by decide) _ L.length (rowsN L) rfl HO8.out ⟨w2.heap.size, 0, none⟩ 1 1 [.string t.nam, .string x, .int .i64 k, .int .i64 j, .int .i64 t.kind, .int .i64 t.line] rfl rfl (cells_new _ _ _) H1.out (by decide) M1.out M2.out M3.out _ rfl ?_); intro g9 c9 w9 hown9 hgrow9 _ _; rw [← HRW.out] at hown9; have HS9 := Lib.hid (HMD.out.push hgrow9 hown9); clear hown9 hgrow9)
                go_roundw
                case measure => have := HJT.out; simp [intOf]; omega
                case rel => exact ⟨j + 1, by go_num, HJT.out, Lib.hid (by rw [HL2.out]; exact HS9.out)⟩
            · obtain rfl : j = nt := by omega
              have hlz : ¬ ((j : Int) < j) := by omega
              clear hjt
              go_wp2_with fail
              go_roundw
              case measure => have := HLT.out; simp [intOf]; omega
              case rel => exact ⟨k + 1, by go_num, HLT.out, Lib.hid (by rw [HSUC.out]; exact HS2.out)⟩
        · obtain rfl : k = ss.length := by omega
          have hlz : ¬ ((ss.length : Int) < ss.length) := by omega
          obtain ⟨pd, cd, rfl⟩ := lenOf HS.out.own
          clear hlt
          go_wp2_with fail
          go_ret2
          exact ⟨HS.out.bl, .inr ⟨HL.out, HBG.out, HS.out.fine, _, rfl, RdN.own HS.out.own⟩⟩
end Go.Proofs.YtjgcbobalmmjkaaDoor
