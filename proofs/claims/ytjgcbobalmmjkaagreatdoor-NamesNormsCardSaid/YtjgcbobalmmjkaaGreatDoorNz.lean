/- The program's fault.New and Code of layer 1, as far as layer 7 asks: an error that is not nil, in a new block. Sources in memory, as layer 7 reads them; how many topics they have. The program's Collect of layer 7. What came in: sources. The document's Norm, Index, At of layer 7; Same of faults; same of directories. The document's Collect of layer 7; which fault a list of sources has. -/
import Derived.Test.YtjgcbobalmmjkaaGreatDoorNw
import Derived.Test.YtjgcbobalmmjkaaGreatDoorFm
import Derived.Test.YtjgcbobalmmjkaaGreatDoorNrg
import Derived.Test.YtjgcbobalmmjkaaGreatDoorGoodn
import Derived.Lib.QuietBelow
namespace Go.Proofs.YtjgcbobalmmjkaaGreatDoor
section
open Go.RowKit Go.Maps
set_option linter.unusedVariables false
/-- A new error that is this fault. -/
def ErrIs (f : Flt) (w : World) (e : Ending) (w' : World) : Prop := (∃ g, w.heap.size ≤ g ∧ e = .returned (errV g) ∧ Erd w' g f) ∧ Below w.heap.size w w'
set_option maxRecDepth 100000 in
set_option maxHeartbeats 1000000 in
theorem fault_new (c n m k : Int) (s : ByteArray) (hc : c ≠ 0) (w : World) : Calls Tryz.prog 42 #[.int .i64 c, .int .i64 n, .int .i64 m, .int .i64 k, .string s] w (ErrIs ⟨c, n, m, k, s⟩ w) := by
  have t1 : (c == 0) = false := by simpa using hc
  have HC := Lib.hid hc
  clear hc
  go_enter Tryz.func42, Tryz.ntmps42
  go_wp2_with fail
  go_ret
  exact ⟨⟨_, Nat.le_refl _, rfl, World.alloc_heap_new _ _, HC.out⟩, (Below.refl _ w).alloc (Nat.le_refl _) _⟩
set_option maxRecDepth 100000 in
set_option maxHeartbeats 1000000 in
theorem fault_code (c : Int) (hc : c ≠ 0) (w : World) : Calls Tryz.prog 40 #[.int .i64 c] w (ErrIs ⟨c, 0, 0, 0, .empty⟩ w) := by
  have HC := Lib.hid hc
  clear hc
  go_enter Tryz.func40, Tryz.ntmps40
  go_wp2_with fail
  refine (fault_new c 0 0 0 _ HC.out _).mono ?_
  rintro e w1 ⟨⟨g, hg, rfl, hE⟩, hb⟩
  have HB := Lib.hid hb
  have HE := Lib.hid hE
  have HG := Lib.hid hg
  clear hb hE hg
  unfold errV
  go_wp2_with fail
  go_ret
  exact ⟨⟨_, HG.out, rfl, HE.out⟩, HB.out⟩
end
section
open Go.RowKit Go.Maps
set_option linter.unusedVariables false

/-- A topic: what layer 7 reads of it, and what else lies in its row. -/
structure Tpc where
  kind : Int
  nam : ByteArray
  title : ByteArray
  level : Int
  kp : Option Addr
  kn : Nat
  kc : Nat
  sp : Option Addr
  sn : Nat
  sc : Nat
  bp : Option Addr
  bn : Nat
  bc : Nat
  line : Int
def tpcRow (t : Tpc) : List Value := [.int .i64 t.kind, .string t.nam, .string t.title, .int .i64 t.level, .slice t.kp t.kn t.kc, .slice t.sp t.sn t.sc, .slice t.bp t.bn t.bc, .int .i64 t.line]
/-- A source: its styles, its list of topics, the topics. -/
structure Srm where
  st : Value
  tv : Value
  ts : List Tpc
def RdTp (W : World) (v : Value) (ts : List Tpc) : Prop :=
  ∃ (pa : Option Addr) (cap : Nat), v = .slice pa ts.length cap ∧ ∀ j (hj : j < ts.length), ∃ b off, pa = some ⟨b, off, none⟩ ∧ ∀ k u, (tpcRow ts[j])[k]? = some u → W.cell? ⟨b, off + j * 8 + k, none⟩ = some u
theorem RdTp.below {W W' : World} {v : Value} {ts : List Tpc} (h : RdTp W v ts) (hb : Below W.heap.size W W') : RdTp W' v ts := by
  obtain ⟨pa, cap, e, h4⟩ := h
  refine ⟨pa, cap, e, fun j hj => ?_⟩
  obtain ⟨b, off, e, hc⟩ := h4 j hj
  exact ⟨b, off, e, fun k u hu => (hb.cell (p := ⟨b, off + j * 8 + k, none⟩) (cellIn (hc k u hu))).trans (hc k u hu)⟩
def RdSr (W : World) (v : Value) (ss : List Srm) : Prop :=
  ∃ (pa : Option Addr) (cap : Nat), v = .slice pa ss.length cap ∧ ∀ j (hj : j < ss.length), ∃ b off, pa = some ⟨b, off, none⟩ ∧
    (∃ sp sn sc, ss[j].st = .slice sp sn sc) ∧ W.cell? ⟨b, off + j * 2, none⟩ = some ss[j].st ∧ W.cell? ⟨b, off + j * 2 + 1, none⟩ = some ss[j].tv ∧ RdTp W ss[j].tv ss[j].ts
theorem RdSr.below {W W' : World} {v : Value} {ss : List Srm} (h : RdSr W v ss) (hb : Below W.heap.size W W') : RdSr W' v ss := by
  obtain ⟨pa, cap, e, h4⟩ := h
  refine ⟨pa, cap, e, fun j hj => ?_⟩
  obtain ⟨b, off, e, h1, c1, c2, h2⟩ := h4 j hj
  exact ⟨b, off, e, h1, (hb.cell (p := ⟨b, off + j * 2, none⟩) (cellIn c1)).trans c1, (hb.cell (p := ⟨b, off + j * 2 + 1, none⟩) (cellIn c2)).trans c2, h2.below hb⟩
theorem RdSr.form {W : World} {v : Value} {ss : List Srm} (h : RdSr W v ss) : ∃ (pa : Option Addr) (cap : Nat), v = .slice pa ss.length cap := by
  obtain ⟨pa, cap, e, _⟩ := h
  exact ⟨pa, cap, e⟩
theorem RdSr.cell {W : World} {pa : Option Addr} {n cap : Nat} {ss : List Srm} (h : RdSr W (.slice pa n cap) ss) {j : Nat} (hj : j < ss.length) : ∃ b off, pa = some ⟨b, off, none⟩ ∧
    (∃ sp sn sc, ss[j].st = .slice sp sn sc) ∧ W.cell? ⟨b, off + j * 2, none⟩ = some ss[j].st ∧ W.cell? ⟨b, off + j * 2 + 1, none⟩ = some ss[j].tv ∧ RdTp W ss[j].tv ss[j].ts := by
  obtain ⟨pa', cap', e, h4⟩ := h
  cases e
  exact h4 j hj
/-- How many topics the first so many sources have. -/
def cntT (ss : List Srm) (k : Nat) : Nat := ((ss.take k).map fun s => s.ts.length).sum
theorem cntT_succ {ss : List Srm} {k : Nat} (h : k < ss.length) : cntT ss (k + 1) = cntT ss k + ss[k].ts.length := by
  unfold cntT
  rw [List.take_succ_eq_append_getElem h, List.map_append, List.sum_append]
  simp
theorem cntT_le {ss : List Srm} {m : Nat} (h : ∀ s ∈ ss, s.ts.length ≤ m) : ∀ k, cntT ss k ≤ k * m
  | 0 => by simp [cntT]
  | k + 1 => by
    have ih := cntT_le h k
    by_cases hk : k < ss.length
    · rw [cntT_succ hk, Nat.add_mul]
      have := h ss[k] (List.getElem_mem hk)
      omega
    · have : cntT ss (k + 1) = cntT ss k := by
        unfold cntT
        rw [List.take_of_length_le (by omega), List.take_of_length_le (by omega)]
      rw [this, Nat.add_mul]
      omega

set_option maxRecDepth 100000 in
set_option maxHeartbeats 2000000 in
theorem count_pro (ss : List Srm) (v : Value) (w : World) (h : RdSr w v ss) (hl : ss.length ≤ 64) (hm : ∀ s ∈ ss, s.ts.length ≤ 140737488355328) :
    Calls Tryz.prog 39 #[v] w (Says (.int .i64 (cntT ss ss.length : Nat)) w) := by
  obtain ⟨pa, cap, rfl⟩ := h.form
  have HR := Lib.hid h
  have HM := Lib.hid hm
  have HL := Lib.hid hl
  clear h hm hl
  go_enter Tryz.func39, Tryz.ntmps39
  go_wp2_with fail
  go_loopw [8, 3] (fun i nv wr => ∃ k : Nat, i = .int .i64 k ∧ k ≤ ss.length ∧ nv = .int .i64 (cntT ss k : Nat) ∧ Below w.heap.size w wr) (fun i _ _ => ss.length - (intOf i).toNat)
  case atStart => exact ⟨0, rfl, Nat.zero_le _, rfl, Below.refl _ _⟩
  case round =>
    obtain ⟨k, rfl, hk, rfl, hB⟩ := hrel
    have HB := Lib.hid hB
    by_cases hlt : k < ss.length
    · obtain ⟨b, off, rfl, ⟨sp, sn, sc, hst⟩, c1, c2, ht⟩ := (HR.out.below hB).cell hlt
      obtain ⟨pt, ct, htv, hrest⟩ := ht
      clear hrest
      rw [hst] at c1
      rw [htv] at c2
      have hcs := cntT_succ hlt
      have h1 := cntT_le HM.out k
      have h2 := HM.out _ (List.getElem_mem hlt)
      have hl64 := HL.out
      obtain ⟨n, hn⟩ : ∃ n, ss[k].ts.length = n := ⟨_, rfl⟩
      obtain ⟨c, hc⟩ : ∃ c, cntT ss k = c := ⟨_, rfl⟩
      rw [hn] at c2 hcs h2
      rw [hc] at hcs h1 ⊢
      have h3 : c ≤ 64 * 140737488355328 := Nat.le_trans h1 (Nat.mul_le_mul_right _ (by omega))
      have v1 : IntKind.i64.wrap ((c : Int) + n) = c + n := IntWalk.i64_in _ (by omega)
      have hk1 : (k : Int) < ss.length := by omega
      have HLT := Lib.hid hlt
      have HCS := Lib.hid hcs
      have HA := Lib.hid (hB.alloc hB.size (.cells #[.slice sp sn sc, .slice pt n ct] 82))
      clear hB hst htv hn hc hcs h1 h2 h3 hlt
      go_wp2_with fail
      go_roundw
      case measure => have := HLT.out; simp [intOf]; omega
      case rel => exact ⟨k + 1, by go_num, HLT.out, by rw [HCS.out]; go_num, HA.out⟩
    · obtain rfl : k = ss.length := by omega
      have hlz : ¬ ((ss.length : Int) < ss.length) := by omega
      clear hB hlt
      go_wp2_with fail
      go_ret
      exact ⟨rfl, HB.out⟩
end
section
open Go.RowKit Go.Maps Go.Sort
set_option linter.unusedVariables false

/-- A topic with its place: its source's number, its own number in it. -/
structure En where
  src : Nat
  at_ : Nat
  tp : Tpc
def enRow (e : En) : List Value := [.string e.tp.nam, .string (nm e.tp.nam), .int .i64 e.src, .int .i64 e.at_, .int .i64 e.tp.kind, .int .i64 e.tp.line]
theorem enRow_len (e : En) : (enRow e).length = 6 := rfl
def rowsN (l : List En) : List Value := l.flatMap enRow
theorem rowsN_len : ∀ l : List En, (rowsN l).length = l.length * 6
  | [] => rfl
  | e :: l => by
    have := rowsN_len l
    unfold rowsN at this ⊢
    rw [List.flatMap_cons, List.length_append, this, enRow_len, List.length_cons]
    omega
theorem rowsN_snoc (l : List En) (e : En) : rowsN (l ++ [e]) = rowsN l ++ enRow e := by unfold rowsN; rw [List.flatMap_append]; simp
theorem rowsN_at : ∀ (l : List En) (j k : Nat) (hj : j < l.length), k < 6 → (rowsN l)[j * 6 + k]? = (enRow l[j])[k]?
  | e :: l, 0, k, hj, hk => by
    unfold rowsN
    rw [List.flatMap_cons, List.getElem?_append_left (by rw [enRow_len]; omega), Nat.zero_mul, Nat.zero_add]
    rfl
  | e :: l, j + 1, k, hj, hk => by
    have ih := rowsN_at l j k (by simpa using hj) hk
    unfold rowsN at ih ⊢
    rw [List.flatMap_cons, List.getElem?_append_right (by rw [enRow_len]; omega), enRow_len, show (j + 1) * 6 + k - 6 = j * 6 + k by omega, ih]
    rfl
theorem enRow_one (e : En) : ∀ u ∈ enRow e, u.oneCell' = true := by
  intro u hu
  simp only [enRow, List.mem_cons, List.not_mem_nil, or_false] at hu
  rcases hu with rfl | rfl | rfl | rfl | rfl | rfl <;> rfl
/-- A directory in memory. -/
def RdN (w : World) (v : Value) (l : List En) : Prop :=
  ∃ (pa : Option Addr) (cap : Nat), v = .slice pa l.length cap ∧ ∀ j (hj : j < l.length), ∃ b off, pa = some ⟨b, off, none⟩ ∧ ∀ k u, (enRow l[j])[k]? = some u → w.cell? ⟨b, off + j * 6 + k, none⟩ = some u
theorem RdN.below {w w' : World} {v : Value} {l : List En} (h : RdN w v l) (hb : Below w.heap.size w w') : RdN w' v l := by
  obtain ⟨pa, cap, e, h4⟩ := h
  refine ⟨pa, cap, e, fun j hj => ?_⟩
  obtain ⟨b, off, e, hc⟩ := h4 j hj
  exact ⟨b, off, e, fun k u hu => (hb.cell (p := ⟨b, off + j * 6 + k, none⟩) (cellIn (hc k u hu))).trans (hc k u hu)⟩
theorem RdN.form {w : World} {v : Value} {l : List En} (h : RdN w v l) : ∃ (pa : Option Addr) (cap : Nat), v = .slice pa l.length cap := by
  obtain ⟨pa, cap, e, _⟩ := h
  exact ⟨pa, cap, e⟩
theorem RdN.cell {w : World} {pa : Option Addr} {n cap : Nat} {l : List En} (h : RdN w (.slice pa n cap) l) {j : Nat} (hj : j < l.length) : ∃ b off, pa = some ⟨b, off, none⟩ ∧ ∀ k u, (enRow l[j])[k]? = some u → w.cell? ⟨b, off + j * 6 + k, none⟩ = some u := by
  obtain ⟨pa', cap', e, h4⟩ := h
  cases e
  exact h4 j hj
theorem RdN.own {W : World} {base : Nat} {v : Value} {l : List En} (h : W.ownsRow base 90 6 v l.length (rowsN l)) : RdN W v l := by
  rcases h.2 with ⟨rfl, h0⟩ | ⟨g, cap, cur, rfl, hb, hg, h1, h2, h3, h4⟩
  · have : l = [] := List.eq_nil_of_length_eq_zero h0
    subst this
    exact ⟨none, 0, rfl, fun i hi => absurd hi (by simp)⟩
  · refine ⟨_, cap, rfl, fun j hj => ⟨g, 0, rfl, fun k u hu => ?_⟩⟩
    have hk : k < 6 := by have := (List.getElem?_eq_some_iff.1 hu).1; rwa [enRow_len] at this
    rw [Nat.zero_add, World.ownsRow.cellAt h (j * 6 + k) (by omega), rowsN_at l j k hj hk]
    exact hu
theorem infoN : (Tryz.prog.info? 90).map (fun i => (i.zero, i.size, i.bytes)) = some (some (.agg #[.string .empty, .string .empty, .int .i64 0, .int .i64 0, .int .i64 0, .int .i64 0]), 6, 64) := by kernel_rfl

/-- The first so many topics of a source; those of the first so many sources. -/
def tpz : Tpc := ⟨0, .empty, .empty, 0, none, 0, 0, none, 0, 0, none, 0, 0, 0⟩
def srz : Srm := ⟨.slice none 0 0, .slice none 0 0, []⟩
def entsT (i : Nat) (ts : List Tpc) (j : Nat) : List En := (List.range j).map fun k => ⟨i, k, ts.getD k tpz⟩
def entsS (ss : List Srm) (k : Nat) : List En := (List.range k).flatMap fun i => entsT i (ss.getD i srz).ts (ss.getD i srz).ts.length
theorem entsT_len (i : Nat) (ts : List Tpc) (j : Nat) : (entsT i ts j).length = j := by simp [entsT]
theorem entsT_succ {i : Nat} {ts : List Tpc} {j : Nat} (h : j < ts.length) : entsT i ts (j + 1) = entsT i ts j ++ [⟨i, j, ts[j]⟩] := by
  unfold entsT
  rw [List.range_succ, List.map_append]
  simp [h]
theorem entsS_succ {ss : List Srm} {k : Nat} (h : k < ss.length) : entsS ss (k + 1) = entsS ss k ++ entsT k ss[k].ts ss[k].ts.length := by
  unfold entsS
  rw [List.range_succ, List.flatMap_append]
  simp [h]
theorem entsS_len (ss : List Srm) : ∀ k, k ≤ ss.length → (entsS ss k).length = cntT ss k
  | 0, _ => by simp [entsS, cntT]
  | k + 1, h => by
    rw [entsS_succ (by omega), List.length_append, entsT_len, cntT_succ (by omega), entsS_len ss k (by omega)]
theorem cntT_mono (ss : List Srm) {j k : Nat} (h : j ≤ k) (hk : k ≤ ss.length) : cntT ss j ≤ cntT ss k := by
  induction k with
  | zero => rw [show j = 0 by omega]; exact Nat.le_refl _
  | succ k ih =>
    rcases Nat.lt_or_ge j (k + 1) with h1 | h1
    · have := ih (by omega) (by omega)
      rw [cntT_succ (by omega)]
      omega
    · rw [show j = k + 1 by omega]; exact Nat.le_refl _
def normsE (l : List En) : List ByteArray := l.map fun e => nm e.tp.nam
theorem normsE_len (l : List En) : (normsE l).length = l.length := by simp [normsE]
theorem normsE_snoc (l : List En) (e : En) : normsE (l ++ [e]) = normsE l ++ [nm e.tp.nam] := by simp [normsE]
/-- Each may stand behind those ahead of it. -/
def Fine (l : List En) : Prop := ∀ k (h : k < l.length), errOn (normsE (l.take k)) l[k].tp.nam = 0
theorem Fine.nil : Fine [] := fun k h => absurd h (by simp)
theorem Fine.snoc {l : List En} {e : En} (h : Fine l) (he : errOn (normsE l) e.tp.nam = 0) : Fine (l ++ [e]) := by
  intro k hk
  by_cases hl : k < l.length
  · rw [List.getElem_append_left hl, List.take_append_of_le_length (by omega)]
    exact h k hl
  · obtain rfl : k = l.length := by simp at hk; omega
    rw [List.take_left]
    simpa using he
/-- What stands while sources are gone through: the directory, the map of the Norms. -/
structure CSt (w : World) (M : Nat) (l : List En) (dv : Value) (W : World) : Prop where
  own : W.ownsRow w.heap.size 90 6 dv l.length (rowsN l)
  mp : MapIs W M (normsE l)
  bl : Below w.heap.size w W
  fine : Fine l
  low : w.heap.size ≤ M
theorem CSt.below {w W W' : World} {M : Nat} {l : List En} {dv : Value} (h : CSt w M l dv W) (hb : Below W.heap.size W W') : CSt w M l dv W' :=
  ⟨own_stays h.own fun c e => hb.block c (own_base h.own e).2, h.mp.below hb, h.bl.trans (hb.mono h.bl.size), h.fine, h.low⟩
theorem CSt.mapNot {w W : World} {M : Nat} {l : List En} {dv : Value} (h : CSt w M l dv W) : dv.ownBlock ≠ some M := by
  obtain ⟨D, ⟨es, ck, h1, h2⟩, h3⟩ := h.mp
  exact own_not h.own h1 (fun cur fr e => by cases e)
/-- Behind add: the map has one more. -/
structure CMid (w : World) (M : Nat) (l : List En) (x : En) (dv : Value) (W : World) : Prop where
  own : W.ownsRow w.heap.size 90 6 dv l.length (rowsN l)
  mp : MapIs W M (normsE (l ++ [x]))
  bl : Below w.heap.size w W
  fine : Fine (l ++ [x])
  low : w.heap.size ≤ M
theorem CSt.add {w W W' : World} {M : Nat} {l : List En} {dv : Value} (h : CSt w M l dv W) {x : En} (he : errOn (normsE l) x.tp.nam = 0) (hm : MapIs W' M (normsE l ++ [nm x.tp.nam])) (hg : W.grownBy W' (some M)) : CMid w M l x dv W' :=
  ⟨own_stays h.own fun c e => hg.block c (own_base h.own e).2 (fun e2 => h.mapNot (e.trans e2)), by rw [normsE_snoc]; exact hm,
   h.bl.grown hg h.bl.size (fun r e => by cases e; exact h.low), h.fine.snoc he, h.low⟩
theorem CMid.push {w W W' : World} {M : Nat} {l : List En} {x : En} {dv dv' : Value} {o : Obj} (h : CMid w M l x dv W) (hg : (W.alloc o).grownBy W' dv.ownBlock) (hown : W'.ownsRow w.heap.size 90 6 dv' (l.length + 1) (rowsN l ++ enRow x)) : CSt w M (l ++ [x]) dv' W' := by
  have hA : Below W.heap.size W (W.alloc o) := (Below.refl _ W).alloc (Nat.le_refl _) _
  have hn : dv.ownBlock ≠ some M := by
    obtain ⟨D, ⟨es, ck, h1, h2⟩, h3⟩ := h.mp
    exact own_not h.own h1 (fun cur fr e => by cases e)
  refine ⟨by rw [List.length_append, rowsN_snoc]; exact hown, h.mp.block ((hg.block M (by have := h.mp.lt; simp; omega) (fun e => hn e.symm)).trans (hA.block M h.mp.lt)), ?_, h.fine, h.low⟩
  exact (h.bl.alloc h.bl.size o).grown hg (by have := h.bl.size; simp; omega) (fun r e => (own_base h.own e).1)
theorem cst_start {w w1 : World} (hb : Below w.heap.size w w1) : CSt w w1.heap.size [] (.slice none 0 0) (w1.alloc (.map #[] 0)) :=
  ⟨World.ownsRow_nil _ _ _ _, ⟨.map [], World.ownsMap_made _ _ _ _, Num.nil⟩, hb.alloc hb.size _, Fine.nil, hb.size⟩
theorem RdTp.cell {W : World} {pa : Option Addr} {n cap : Nat} {ts : List Tpc} (h : RdTp W (.slice pa n cap) ts) {j : Nat} (hj : j < ts.length) : ∃ b off, pa = some ⟨b, off, none⟩ ∧ ∀ k u, (tpcRow ts[j])[k]? = some u → W.cell? ⟨b, off + j * 8 + k, none⟩ = some u := by
  obtain ⟨pa', cap', e, h4⟩ := h
  cases e
  exact h4 j hj
def boxT (t : Tpc) : Obj := .cells #[.int .i64 t.kind, .string t.nam, .string t.title, .int .i64 t.level, .slice t.kp t.kn t.kc, .slice t.sp t.sn t.sc, .slice t.bp t.bn t.bc, .int .i64 t.line] 87
theorem box_cells {W : World} {g : Nat} {t : Tpc} (h : W.heap[g]? = some (boxT t)) : W.cell? ⟨g, 0, none⟩ = some (.int .i64 t.kind) ∧ W.cell? ⟨g, 1, none⟩ = some (.string t.nam) ∧ W.cell? ⟨g, 7, none⟩ = some (.int .i64 t.line) := by
  unfold boxT at h
  refine ⟨?_, ?_, ?_⟩ <;> (rw [cell_of_row _ g _ _ _ _ h]; rfl)
/-- What Collect answers. -/
def CollIs (ss : List Srm) (w : World) (e : Ending) (w' : World) : Prop := Below w.heap.size w w' ∧
  ((∃ g f, e = .returned (.tuple #[.slice none 0 0, errV g]) ∧ Erd w' g f ∧
      ((64 < ss.length ∨ 1000 < cntT ss ss.length) ∧ f = ⟨2, 0, 0, 0, .empty⟩ ∨
       ss.length ≤ 64 ∧ cntT ss ss.length ≤ 1000 ∧ ∃ k j, ∃ (hk : k < ss.length) (hj : j < ss[k].ts.length), Fine (entsS ss k ++ entsT k ss[k].ts j) ∧ errOn (normsE (entsS ss k ++ entsT k ss[k].ts j)) ss[k].ts[j].nam ≠ 0 ∧
         f = ⟨errOn (normsE (entsS ss k ++ entsT k ss[k].ts j)) ss[k].ts[j].nam, k, ss[k].ts[j].line, 0, ss[k].ts[j].nam⟩)) ∨
   (ss.length ≤ 64 ∧ cntT ss ss.length ≤ 1000 ∧ Fine (entsS ss ss.length) ∧ ∃ dv, e = .returned (.tuple #[dv, .nilIface]) ∧ RdN w' dv (entsS ss ss.length)))

set_option maxRecDepth 100000 in
set_option maxHeartbeats 4000000 in
theorem collect_pro (ss : List Srm) (v : Value) (w : World) (h : RdSr w v ss) (hT : Tabs w) (hl : ss.length ≤ 4611686018427387904) (hm : ∀ s ∈ ss, s.ts.length ≤ 140737488355328) :
    Calls Tryz.prog 9 #[v] w (CollIs ss w) := by
  obtain ⟨pa, cap, rfl⟩ := h.form
  have HR := Lib.hid h
  have HT := Lib.hid hT
  by_cases hlen : 64 < ss.length
  · have hlz : (64 : Int) < ss.length := by omega
    have HL := Lib.hid hlen
    clear h hT hm hlen
    go_enter Tryz.func9, Tryz.ntmps9
    go_wp2_with fail
    refine (fault_code 2 (by decide) _).mono ?_
    rintro e w1 ⟨⟨g, hg, rfl, hE⟩, hb⟩
    have HB := Lib.hid hb
    have HE := Lib.hid hE
    clear hb hE hg
    unfold errV
    go_wp2_with fail
    go_ret2
    exact ⟨HB.out, .inl ⟨g, _, rfl, HE.out, .inl ⟨.inl HL.out, rfl⟩⟩⟩
  · have hlz : ¬ (64 : Int) < ss.length := by omega
    have HL := Lib.hid (show ss.length ≤ 64 by omega)
    have HC := Lib.hid (count_pro ss _ w h HL.out hm)
    have HM := Lib.hid hm
    obtain ⟨c, hc⟩ : ∃ c, cntT ss ss.length = c := ⟨_, rfl⟩
    rw [hc] at HC
    have HCC := Lib.hid hc
    clear h hT hm hlen hc
    by_cases hbig : 1000 < c
    · have hbz : (1000 : Int) < c := by omega
      have HBG := Lib.hid hbig
      clear hbig
      go_enter Tryz.func9, Tryz.ntmps9
      go_wp2_with fail
      refine HC.out.mono ?_
      rintro e w1 ⟨rfl, hb1⟩
      have HB1 := Lib.hid hb1
      clear hb1
      go_wp2_with fail
      refine (fault_code 2 (by decide) _).mono ?_
      rintro e w2 ⟨⟨g, hg, rfl, hE⟩, hb⟩
      have HB := Lib.hid (HB1.out.trans (hb.mono HB1.out.size))
      have HE := Lib.hid hE
      clear hb hE hg
      unfold errV
      go_wp2_with fail
      go_ret2
      exact ⟨HB.out, .inl ⟨g, _, rfl, HE.out, .inl ⟨.inr (by rw [HCC.out]; exact HBG.out), rfl⟩⟩⟩
    · have hbz : ¬ (1000 : Int) < c := by omega
      have HBG := Lib.hid (show cntT ss ss.length ≤ 1000 by rw [HCC.out]; omega)
      obtain ⟨i0, hi0, hz0, hz1, hz2⟩ := info_parts infoN
      have hmm := @run_makeMap Tryz.prog
      clear hbig
      go_enter Tryz.func9, Tryz.ntmps9
      go_wp2_with fail
      refine HC.out.mono ?_
      rintro e w1 ⟨rfl, hb1⟩
      have HB1 := Lib.hid hb1
      clear hb1
      go_wp2_with fail
      go_loopw [4, 24] (fun dv i wr => ∃ k : Nat, i = .int .i64 k ∧ k ≤ ss.length ∧ Hid (CSt w w1.heap.size (entsS ss k) dv wr)) (fun _ i _ => ss.length - (intOf i).toNat)
      case atStart => exact ⟨0, rfl, Nat.zero_le _, Lib.hid (cst_start HB1.out)⟩
      case round =>
        rename_i dv _
        obtain ⟨k, rfl, hk, HS⟩ := hrel
        by_cases hlt : k < ss.length
        · obtain ⟨b, off, rfl, ⟨sp, sn, sc, hst⟩, d1, d2, ht⟩ := HR.out.cell hlt
          have c1 := (HS.out.bl.cell (p := ⟨b, off + k * 2, none⟩) (cellIn d1)).trans d1
          have c2 := (HS.out.bl.cell (p := ⟨b, off + k * 2 + 1, none⟩) (cellIn d2)).trans d2
          have HSUC := Lib.hid (entsS_succ hlt)
          have HCT := Lib.hid (show (entsS ss k).length + ss[k].ts.length ≤ 1000 by
            have h1 := cntT_mono ss (show k + 1 ≤ ss.length by omega) (Nat.le_refl _)
            have h2 := HBG.out
            rw [cntT_succ hlt] at h1
            rw [entsS_len ss k hk]
            omega)
          obtain ⟨ts, hts, HERR⟩ : ∃ ts, ss[k].ts = ts ∧ Hid (∀ j, (hj : j < ts.length) → Fine (entsS ss k ++ entsT k ts j) → errOn (normsE (entsS ss k ++ entsT k ts j)) ts[j].nam ≠ 0 → ∀ g W, Erd W g ⟨errOn (normsE (entsS ss k ++ entsT k ts j)) ts[j].nam, k, ts[j].line, 0, ts[j].nam⟩ → Below w.heap.size w W → CollIs ss w (.returned (.tuple #[.slice none 0 0, errV g])) W) :=
            ⟨_, rfl, Lib.hid fun j hj hf he g W hE hB => ⟨hB, .inl ⟨g, _, rfl, hE, .inr ⟨HL.out, HBG.out, k, j, hlt, hj, hf, he, rfl⟩⟩⟩⟩
          rw [hts] at HSUC HCT ht
          obtain ⟨pt, ct, htv, hrest⟩ := ht
          have HTP := Lib.hid (show RdTp w (.slice pt ts.length ct) ts from ⟨pt, ct, rfl, hrest⟩)
          rw [hst] at c1
          rw [htv] at c2
          obtain ⟨nt, hnt⟩ : ∃ nt, ts.length = nt := ⟨_, rfl⟩
          rw [hnt] at c2 HSUC HCT HTP
          have HNT := Lib.hid hnt
          have hk1 : (k : Int) < ss.length := by omega
          have HLT := Lib.hid hlt
          have HS0 := Lib.hid (HS.out.below ((Below.refl _ wr).alloc (Nat.le_refl _) (.cells #[.slice sp sn sc, .slice pt nt ct] 82)))
          have HNB := Lib.hid (show nt ≤ 1000 by have := HCT.out; omega)
          clear d1 d2 hst htv hrest hts hnt hlt HS
          obtain ⟨wo, rfl⟩ : ∃ wo : World, wo = wr := ⟨_, rfl⟩
          go_wp2_with fail
          go_loopw [4, 32] (fun dv i wr => ∃ j : Nat, i = .int .i64 j ∧ j ≤ nt ∧ Hid (CSt w w1.heap.size (entsS ss k ++ entsT k ts j) dv wr)) (fun _ i _ => nt - (intOf i).toNat)
          case atStart => exact ⟨0, rfl, Nat.zero_le _, Lib.hid (by simpa [entsT] using HS0.out)⟩
          case round =>
            rename_i dv2 _
            obtain ⟨j, rfl, hj, HS2⟩ := hrel
            by_cases hjt : j < nt
            · have hjl : j < ts.length := by rw [HNT.out]; exact hjt
              obtain ⟨b2, off2, rfl, hc⟩ := HTP.out.cell hjl
              have qq : ∀ i u, (tpcRow ts[j])[i]? = some u → wr.cell? ⟨b2, off2 + j * 8 + i, none⟩ = some u := fun i u hu => (HS2.out.bl.cell (p := ⟨b2, off2 + j * 8 + i, none⟩) (cellIn (hc i u hu))).trans (hc i u hu)
              have HES := Lib.hid (entsT_succ (i := k) hjl)
              have HER2 := Lib.hid (HERR.out j hjl)
              obtain ⟨t, ht⟩ : ∃ t, ts[j] = t := ⟨_, rfl⟩
              rw [ht] at qq HES HER2
              have q0 : wr.cell? ⟨b2, off2 + j * 8, none⟩ = some (.int .i64 t.kind) := qq 0 _ rfl
              have q1 : wr.cell? ⟨b2, off2 + j * 8 + 1, none⟩ = some (.string t.nam) := qq 1 _ rfl
              have q2 : wr.cell? ⟨b2, off2 + j * 8 + 2, none⟩ = some (.string t.title) := qq 2 _ rfl
              have q3 : wr.cell? ⟨b2, off2 + j * 8 + 3, none⟩ = some (.int .i64 t.level) := qq 3 _ rfl
              have q4 : wr.cell? ⟨b2, off2 + j * 8 + 4, none⟩ = some (.slice t.kp t.kn t.kc) := qq 4 _ rfl
              have q5 : wr.cell? ⟨b2, off2 + j * 8 + 5, none⟩ = some (.slice t.sp t.sn t.sc) := qq 5 _ rfl
              have q6 : wr.cell? ⟨b2, off2 + j * 8 + 6, none⟩ = some (.slice t.bp t.bn t.bc) := qq 6 _ rfl
              have q7 : wr.cell? ⟨b2, off2 + j * 8 + 7, none⟩ = some (.int .i64 t.line) := qq 7 _ rfl
              obtain ⟨L, hL⟩ : ∃ L, entsS ss k ++ entsT k ts j = L := ⟨_, rfl⟩
              rw [hL] at HS2 HER2
              have HLL := Lib.hid (show L.length + 1 ≤ 1000 by rw [← hL, List.length_append, entsT_len]; have := HCT.out; omega)
              have HL2 := Lib.hid (show entsS ss k ++ entsT k ts (j + 1) = L ++ [⟨k, j, t⟩] by rw [HES.out, ← List.append_assoc, hL])
              have hA : Below wr.heap.size wr (wr.alloc (boxT t)) := (Below.refl _ wr).alloc (Nat.le_refl _) _
              have HS3 := Lib.hid (HS2.out.below hA)
              have HT3 := Lib.hid (HT.out.below HS3.out.bl (Nat.le_refl _))
              have HBX := Lib.hid (show (wr.alloc (boxT t)).heap[wr.heap.size]? = some (boxT t) from World.alloc_heap_new _ _)
              have HGM := Lib.hid (show w1.heap.size < wr.heap.size from HS2.out.mp.lt)
              have HAD := Lib.hid (add_pro (normsE L) w1.heap.size t.nam _ HT3.out HS3.out.mp (by rw [normsE_len]; have := HLL.out; omega))
              unfold boxT at HAD
              have hj1 : (j : Int) < nt := by omega
              have HJT := Lib.hid hjt
              have hnb := HNB.out
              obtain ⟨pd, cd, rfl⟩ := lenOf HS2.out.own
              clear hc qq ht hL hA hjl hjt
              go_wp2_with fail
              refine HAD.out.mono ?_
              rintro e w2 (⟨h0, rfl, hm, hb⟩ | ⟨h0, rfl, hm, hg⟩)
              · obtain ⟨x0, x1, x7⟩ := box_cells ((hb.block _ (by simp)).trans HBX.out)
                have HB2 := Lib.hid ((HS3.out.below hb).bl)
                have HF2 := Lib.hid HS3.out.fine
                obtain ⟨er, her⟩ : ∃ er, errOn (normsE L) t.nam = er := ⟨_, rfl⟩
                have HER := Lib.hid her
                rw [her] at h0 HER2 ⊢
                have t1 : (er != 0) = true := by simpa using h0
                have H0 := Lib.hid h0
                clear h0 hm hb her
                go_wp2_with fail
                refine (fault_new er k t.line 0 t.nam H0.out _).mono ?_
                rintro e w3 ⟨⟨g, hg, rfl, hE⟩, hb3⟩
                have HE3 := Lib.hid hE
                have HB3 := Lib.hid (HB2.out.trans (hb3.mono HB2.out.size))
                clear hg hE hb3
                unfold errV
                go_wp2_with fail
                go_ret2
                exact HER2.out HF2.out H0.out g _ HE3.out HB3.out
              · obtain ⟨x0, x1, x7⟩ := box_cells ((hg.block _ (by simp) (fun e => by have := HGM.out; simp at e; omega)).trans HBX.out)
                have HMD := Lib.hid (HS3.out.add (x := ⟨k, j, t⟩) h0 hm hg)
                have HSZ := Lib.hid HMD.out.bl.size
                clear h0 hm hg
                obtain ⟨x, hx⟩ : ∃ x, nm t.nam = x := ⟨_, rfl⟩
                have HX := Lib.hid hx
                have HRW := Lib.hid (show enRow ⟨k, j, t⟩ = [.string t.nam, .string x, .int .i64 k, .int .i64 j, .int .i64 t.kind, .int .i64 t.line] by unfold enRow; rw [hx])
                have M1 := Lib.hid (show L.length + 1 ≤ maxLen by have := HLL.out; unfold maxLen; omega)
                have M2 := Lib.hid (show (L.length + 1) * 64 ≤ 140737488355328 by have := HLL.out; omega)
                rw [hx]
                clear hx
                have M3 := Lib.hid (show w.heap.size ≤ (w2.alloc (.cells #[.string t.nam, .string x, .int .i64 k, .int .i64 j, .int .i64 t.kind, .int .i64 t.line] 90)).heap.size by have := HSZ.out; simp; omega)
                have HO8 := Lib.hid (HMD.out.own.alloc (.cells #[.string t.nam, .string x, .int .i64 k, .int .i64 j, .int .i64 t.kind, .int .i64 t.line] 90))
                have H1 := Lib.hid (show ∀ u ∈ [Value.string t.nam, .string x, .int .i64 k, .int .i64 j, .int .i64 t.kind, .int .i64 t.line], u.oneCell' = true by rw [← HRW.out]; exact enRow_one _)
                go_wp2_with (at_builtin; go_loud (refine wpList_append_lies _ rfl _ _ 29 rfl w.heap.size 90 i0 (.agg #[.string .empty, .string .empty, .int .i64 0, .int .i64 0, .int .i64 0, .int .i64 0]) 6 64 Tryz.underlying29 hi0 hz0 hz1 hz2 rfl (by decide) _ L.length (rowsN L) rfl HO8.out ⟨w2.heap.size, 0, none⟩ 1 1 [.string t.nam, .string x, .int .i64 k, .int .i64 j, .int .i64 t.kind, .int .i64 t.line] rfl rfl (cells_new _ _ _) H1.out (by decide) M1.out M2.out M3.out _ rfl ?_); intro g9 c9 w9 hown9 hgrow9 _ _; rw [← HRW.out] at hown9; have HS9 := Lib.hid (HMD.out.push hgrow9 hown9); clear hown9 hgrow9)
                go_roundw
                case measure => have := HJT.out; simp [intOf]; omega
                case rel => exact ⟨j + 1, by go_num, HJT.out, Lib.hid (by rw [HL2.out]; exact HS9.out)⟩
            · obtain rfl : j = nt := by omega
              have hlz : ¬ ((j : Int) < j) := by omega
              clear hjt
              go_wp2_with fail
              go_roundw
              case measure => have := HLT.out; simp [intOf]; omega
              case rel => exact ⟨k + 1, by go_num, HLT.out, Lib.hid (by rw [HSUC.out]; exact HS2.out)⟩
        · obtain rfl : k = ss.length := by omega
          have hlz : ¬ ((ss.length : Int) < ss.length) := by omega
          obtain ⟨pd, cd, rfl⟩ := lenOf HS.out.own
          clear hlt
          go_wp2_with fail
          go_ret2
          exact ⟨HS.out.bl, .inr ⟨HL.out, HBG.out, HS.out.fine, _, rfl, RdN.own HS.out.own⟩⟩
end
section
open Go.Deep Go.ChangeShapes Go.WideShapes Go.RowKit
set_option linter.unusedVariables false
set_option maxRecDepth 100000
section
variable {H : Type}
theorem wAll_mem {P : Program} {e : TypeId} {q : Nat → Bool} : ∀ {l : List (DataW H)}, (DataW.weightsAll P e l).all q = true → ∀ d ∈ l, (d.weights P e).all q = true
  | [], _, d, hd => absurd hd (by simp)
  | x :: l, h, d, hd => by
    rw [DataW.weightsAll, List.all_append, Bool.and_eq_true] at h
    rcases List.mem_cons.1 hd with rfl | hd
    · exact h.1
    · exact wAll_mem h.2 d hd
theorem wEach_at {P : Program} {q : Nat → Bool} : ∀ {ts : List TypeId} {ds : List (DataW H)} {j : Nat} {t : TypeId} {d : DataW H}, (DataW.weightsEach P ts ds).all q = true → ts[j]? = some t → ds[j]? = some d → (d.weights P t).all q = true
  | [], _, j, _, _, _, ht, _ => by simp at ht
  | _ :: _, [], j, _, _, _, _, hd => by simp at hd
  | t0 :: ts, d0 :: ds, 0, t, d, h, ht, hd => by
    rw [DataW.weightsEach, List.all_append, Bool.and_eq_true] at h
    simp at ht hd
    subst ht hd
    exact h.1
  | t0 :: ts, d0 :: ds, j + 1, t, d, h, ht, hd => by
    rw [DataW.weightsEach, List.all_append, Bool.and_eq_true] at h
    exact wEach_at h.2 (by simpa using ht) (by simpa using hd)
theorem w_slice {P : Program} {t e : TypeId} {q : Nat → Bool} {els sp : List (DataW H)} (ht : P.underlying t = some (.slice e)) (h : ((DataW.slice els sp).weights P t).all q = true) :
    q ((els.length + sp.length) * P.bytesOf e) = true ∧ ∀ d ∈ els, (d.weights P e).all q = true := by
  simp only [DataW.weights, ht, List.all_cons, List.all_append, Bool.and_eq_true] at h
  exact ⟨h.1, wAll_mem h.2.1⟩
theorem w_struct {P : Program} {t : TypeId} {fs : Array Field} {q : Nat → Bool} {parts : List (DataW H)} (ht : P.underlying t = some (.struct fs)) (h : ((DataW.agg parts).weights P t).all q = true) :
    (DataW.weightsEach P (fs.toList.map (·.type)) parts).all q = true := by
  simpa only [DataW.weights, ht] using h
end
theorem kI : Tryz.prog.cellsOf 3 = 1 := by kernel_rfl
theorem kS : Tryz.prog.cellsOf 9 = 1 := by kernel_rfl
theorem kK : Tryz.prog.cellsOf 83 = 1 := by kernel_rfl
theorem kE : Tryz.prog.cellsOf 84 = 1 := by kernel_rfl
theorem kB : Tryz.prog.cellsOf 85 = 1 := by kernel_rfl
theorem kD : Tryz.prog.cellsOf 79 = 1 := by kernel_rfl
theorem kL : Tryz.prog.cellsOf 80 = 1 := by kernel_rfl
theorem kT : Tryz.prog.cellsOf 87 = 8 := by kernel_rfl
theorem kO : Tryz.prog.cellsOf 82 = 2 := by kernel_rfl
section
variable {H : Type} {enc : TypeId × Value → H} {W : World}
theorem slice_cell {t e : TypeId} {n : Nat} {c : Value} {x : DataW H × List MemPlace} (ht : Tryz.prog.underlying t = some (.slice e)) (h : DataW.trod enc Tryz.prog W 0 (fun _ => true) true n t [c] = some x) : ∃ p l k, c = .slice p l k := by
  rcases open_slice ht h with ⟨h3, _⟩ | ⟨a, l, c', m, n', D, Pl, h3, _⟩
  · simp at h3; exact ⟨_, _, _, h3⟩
  · simp at h3; exact ⟨_, _, _, h3⟩
theorem tpc_cells {n : Nat} {cs : List Value} {x : DataW H × List MemPlace} (h : DataW.trod enc Tryz.prog W 0 (fun _ => true) true n 87 cs = some x) : ∃ t : Tpc, cs = tpcRow t := by
  obtain ⟨xs, m, _, rfl, hl, hlen, hf⟩ := DataW.trod_struct Tryz.underlying87 h
  have hl8 : cs.length = 8 := hl.trans kT
  have hl9 : xs.length = 8 := hlen
  match cs, hl8, xs, hl9 with
  | [c0, c1, c2, c3, c4, c5, c6, c7], _, [y0, y1, y2, y3, y4, y5, y6, y7], _ =>
    have h0 := hf 0 _ rfl
    have h1 := hf 1 _ rfl
    have h2 := hf 2 _ rfl
    have h3 := hf 3 _ rfl
    have h4 := hf 4 _ rfl
    have h5 := hf 5 _ rfl
    have h6 := hf 6 _ rfl
    have h7 := hf 7 _ rfl
    simp [kI, kS, kK, kE, kB] at h0 h1 h2 h3 h4 h5 h6 h7
    obtain ⟨z0, e0, _⟩ := DataW.trod_int Tryz.underlying3 h0
    obtain ⟨s1, e1, _⟩ := DataW.trod_string Tryz.underlying9 h1
    obtain ⟨s2, e2, _⟩ := DataW.trod_string Tryz.underlying9 h2
    obtain ⟨z3, e3, _⟩ := DataW.trod_int Tryz.underlying3 h3
    obtain ⟨p4, l4, k4, e4⟩ := slice_cell Tryz.underlying83 h4
    obtain ⟨p5, l5, k5, e5⟩ := slice_cell Tryz.underlying84 h5
    obtain ⟨p6, l6, k6, e6⟩ := slice_cell Tryz.underlying85 h6
    obtain ⟨z7, e7, _⟩ := DataW.trod_int Tryz.underlying3 h7
    simp at e0 e1 e2 e3 e7
    subst e0 e1 e2 e3 e4 e5 e6 e7
    exact ⟨⟨z0, s1, s2, z3, p4, l4, k4, p5, l5, k5, p6, l6, k6, z7⟩, rfl⟩
/-- A slice of rows of some cells each. -/
theorem rows_read {α : Type} {t e : TypeId} {c : Nat} {v : Value} {n : Nat} {x : DataW H × List MemPlace} (ht : Tryz.prog.underlying t = some (.slice e)) (hc : Tryz.prog.cellsOf e = c) (hc0 : 0 < c) (z : α) (row : α → List Value) (R : α → DataW H → Prop)
    (hr : ∀ {n : Nat} {cs : List Value} {x : DataW H × List MemPlace}, DataW.trod enc Tryz.prog W 0 (fun _ => true) true n e cs = some x → ∃ a, cs = row a ∧ R a x.1) (hlen : ∀ a, (row a).length = c)
    (hn : DataW.trod enc Tryz.prog W 0 (fun _ => true) true n t [v] = some x) :
    ∃ (pa : Option Addr) (cap : Nat) (l : List α), v = .slice pa l.length cap ∧ (∀ j (hj : j < l.length), ∃ b off, pa = some ⟨b, off, none⟩ ∧ ∀ k u, (row l[j])[k]? = some u → W.cell? ⟨b, off + j * c + k, none⟩ = some u) ∧
      ((x.1 = .nil ∧ l = []) ∨ ∃ es sp, x.1 = .slice es sp ∧ es.length = l.length ∧ ∀ a ∈ l, ∃ d ∈ es, R a d) := by
  rcases open_slice ht hn with ⟨h3, h4⟩ | ⟨a, len, cap, m, n', D, Pl, h3, _, hlc, hcm, hm, hx, hall⟩
  · simp at h3
    subst h3 h4
    exact ⟨none, 0, [], rfl, fun j hj => absurd hj (by simp), .inl ⟨rfl, rfl⟩⟩
  · simp at h3
    subst h3
    have hmc : m = cap := by simpa using hm
    subst hmc
    subst hx
    obtain ⟨b, off, spot⟩ := a
    have hspot : 0 < len → spot = none := fun h0 => by
      obtain ⟨cs0, h01, h02⟩ := hall 0 (Nat.lt_of_lt_of_le h0 hlc)
      obtain ⟨s0, rfl, _⟩ := hr h02
      rw [hc] at h01
      obtain ⟨_, hl1, hc0'⟩ := World.cells?_some h01
      have := hc0' 0 hc0
      have hz : (row s0)[0]? = some (row s0)[0] := List.getElem?_eq_getElem (by rw [hlen]; exact hc0)
      rw [hz] at this
      simpa [Addr.add] using World.cell?_spot this
    obtain ⟨f, hf⟩ := choose_n (R := fun i (s : α) => R s (D i) ∧ ∀ k u, (row s)[k]? = some u → W.cell? ⟨b, off + i * c + k, none⟩ = some u) z (fun i hi => by
      obtain ⟨cs', h1, h2⟩ := hall i (show i < m from Nat.lt_of_lt_of_le (show i < len from hi) hlc)
      obtain ⟨s, rfl, hs⟩ := hr h2
      rw [hc] at h1
      obtain ⟨_, _, hcell⟩ := World.cells?_some h1
      have hsp := hspot (by omega)
      subst hsp
      refine ⟨s, hs, fun k u hk => ?_⟩
      have hk5 : k < c := by
        rcases Nat.lt_or_ge k c with h | h
        · exact h
        · rw [List.getElem?_eq_none (by rw [hlen]; exact h)] at hk; cases hk
      have := hcell k hk5
      rw [add_add, add_plain] at this
      rw [← hk, ← this, Nat.add_assoc])
    refine ⟨some ⟨b, off, spot⟩, m, (List.range len).map f, by simp, fun j hj => ?_, .inr ⟨_, _, rfl, by simp, fun s hs => ?_⟩⟩
    · have hj' : j < len := by simpa using hj
      have hsp := hspot (by omega)
      subst hsp
      refine ⟨b, off, rfl, ?_⟩
      simp only [List.getElem_map, List.getElem_range]
      exact (hf j hj').2
    · obtain ⟨i, hi, rfl⟩ := List.mem_map.1 hs
      exact ⟨D i, List.mem_map.2 ⟨i, hi, rfl⟩, (hf i (by simpa using hi)).1⟩
def srmRow (s : Srm) : List Value := [s.st, s.tv]
/-- What a source's reading tells of it. -/
def SrmR (W : World) (s : Srm) (d : DataW H) : Prop :=
  (∃ sp sn sc, s.st = .slice sp sn sc) ∧ RdTp W s.tv s.ts ∧ ∃ d0 d1, d = .agg [d0, d1] ∧ ((d1 = .nil ∧ s.ts = []) ∨ ∃ es sp, d1 = .slice es sp ∧ es.length = s.ts.length)
theorem srm_cells {n : Nat} {cs : List Value} {x : DataW H × List MemPlace} (h : DataW.trod enc Tryz.prog W 0 (fun _ => true) true n 82 cs = some x) : ∃ s : Srm, cs = srmRow s ∧ SrmR W s x.1 := by
  obtain ⟨y0, y1, m, rfl, hl, h0, h1⟩ := trod_struct2 Tryz.underlying82 h
  have hl2 : cs.length = 2 := hl.trans kO
  match cs, hl2 with
  | [c0, c1], _ =>
    simp [kD, kL] at h0 h1
    obtain ⟨p0, l0, k0, e0⟩ := slice_cell Tryz.underlying79 h0
    obtain ⟨pa, cap, ts, e1, hc, hd⟩ := rows_read Tryz.underlying80 kT (by decide) tpz tpcRow (fun _ _ => True) (fun h => by obtain ⟨t, ht⟩ := tpc_cells h; exact ⟨t, ht, trivial⟩) (fun _ => rfl) h1
    refine ⟨⟨c0, c1, ts⟩, rfl, ⟨_, _, _, e0⟩, ⟨pa, cap, e1, hc⟩, _, _, rfl, ?_⟩
    rcases hd with ⟨e, h2⟩ | ⟨es, sp, e, h2, _⟩
    · exact .inl ⟨e, h2⟩
    · exact .inr ⟨es, sp, e, h2⟩
/-- What the sources' reading tells of their lengths. -/
def SrD (d : DataW H) (l : List Srm) : Prop :=
  (d = .nil ∧ l = []) ∨ ∃ es sp, d = .slice es sp ∧ es.length = l.length ∧ ∀ s ∈ l, ∃ d ∈ es, ∃ d0 d1, d = .agg [d0, d1] ∧ ((d1 = .nil ∧ s.ts = []) ∨ ∃ es sp, d1 = .slice es sp ∧ es.length = s.ts.length)
theorem srcs_read {v : Value} {d : DataW H} {p : List MemPlace} (h : DataW.Trod enc Tryz.prog W 0 (fun _ => true) true 22 v d p) (hv : ∃ pa len cap, v = .slice pa len cap) :
    ∃ l : List Srm, RdSr W v l ∧ SrD d l := by
  obtain ⟨pa, len, cap, rfl⟩ := hv
  obtain ⟨n, hn⟩ := h
  have hn' : DataW.trod enc Tryz.prog W 0 (fun _ => true) true n 22 [.slice pa len cap] = some (d, p) := hn
  obtain ⟨pa', cap', l, e, hc, hd⟩ := rows_read Tryz.underlying22 kO (by decide) srz srmRow (fun s d => SrmR W s d) srm_cells (fun _ => rfl) hn'
  refine ⟨l, ⟨pa', cap', e, fun j hj => ?_⟩, ?_⟩
  · obtain ⟨b, off, e2, hc2⟩ := hc j hj
    have hm : l[j] ∈ l := List.getElem_mem hj
    have hR : ∃ d : DataW H, SrmR W l[j] d := by
      rcases hd with ⟨_, h2⟩ | ⟨es, sp, _, _, h3⟩
      · simp [h2] at hj
      · obtain ⟨d', _, h4⟩ := h3 _ hm
        exact ⟨d', h4⟩
    obtain ⟨d', h1, h2, _⟩ := hR
    exact ⟨b, off, e2, h1, hc2 0 _ rfl, hc2 1 _ rfl, h2⟩
  · rcases hd with ⟨e1, h2⟩ | ⟨es, sp, e1, h2, h3⟩
    · exact .inl ⟨e1, h2⟩
    · refine .inr ⟨es, sp, e1, h2, fun s hs => ?_⟩
      obtain ⟨d', hd', _, _, h4⟩ := h3 s hs
      exact ⟨d', hd', h4⟩
end
theorem srcs_reach {H : Type} {d : DataW H} {l : List Srm} {ts : List TypeId} {ds : List (DataW H)} {j : Nat} (h : (DataW.weightsEach Tryz.prog ts ds).all (· ≤ reachBytes) = true) (ht : ts[j]? = some 22) (hd : ds[j]? = some d)
    (hl : SrD d l) : l.length ≤ 4611686018427387904 ∧ ∀ s ∈ l, s.ts.length ≤ 140737488355328 := by
  have hw := wEach_at h ht hd
  rcases hl with ⟨_, rfl⟩ | ⟨es, sp, rfl, he, hs⟩
  · exact ⟨by simp, fun s hs => absurd hs (by simp)⟩
  · obtain ⟨h1, h2⟩ := w_slice Tryz.underlying22 hw
    rw [show Tryz.prog.bytesOf 82 = 48 by kernel_rfl] at h1
    have h1' : (es.length + sp.length) * 48 ≤ 140737488351232 := of_decide_eq_true h1
    refine ⟨by omega, fun s hsm => ?_⟩
    obtain ⟨d', hd', d0, d1, rfl, h3⟩ := hs s hsm
    rcases h3 with ⟨_, e⟩ | ⟨es2, sp2, rfl, e⟩
    · rw [e]; simp
    · have h4 := wEach_at (j := 1) (w_struct Tryz.underlying82 (h2 _ hd')) rfl rfl
      obtain ⟨h5, _⟩ := w_slice Tryz.underlying80 h4
      rw [show Tryz.prog.bytesOf 87 = 128 by kernel_rfl] at h5
      have h5' : (es2.length + sp2.length) * 128 ≤ 140737488351232 := of_decide_eq_true h5
      omega
end
section
open Go.RowKit Go.Maps Go.Sort
set_option linter.unusedVariables false

set_option maxRecDepth 100000 in
set_option maxHeartbeats 1000000 in
theorem norm_ref (s : ByteArray) (w : World) : Calls Tryz.prog 8 #[.string s] w (NormIs s w) := by
  by_cases h1 : 64 < s.size
  · have hn : nrm s = (ByteArray.empty, 2) := by unfold nrm; rw [if_pos h1]
    have HN := Lib.hid hn
    have h1z : (64 : Int) < s.size := by omega
    clear hn h1
    go_enter Tryz.func8, Tryz.ntmps8
    go_wp2_with fail
    go_ret2
    unfold NormIs
    rw [HN.out]
    exact ⟨rfl, Below.refl _ _⟩
  · have h1z : ¬ (64 : Int) < s.size := by omega
    have HS := Lib.hid (show s.size ≤ 16777216 by omega)
    obtain ⟨f, hf⟩ : ∃ f, fold s = f := ⟨_, rfl⟩
    obtain ⟨p, hp⟩ : ∃ p, ((chars s).find? unplain).isNone = p := ⟨_, rfl⟩
    have hn : nrm s = if p = false ∨ f.size = 0 then (ByteArray.empty, 70) else (f, 0) := by unfold nrm; rw [if_neg h1, hp, hf]
    have HN := Lib.hid hn
    have HF := Lib.hid hf
    have HP := Lib.hid hp
    clear h1 hn hf hp
    cases p with
    | false =>
      go_enter Tryz.func8, Tryz.ntmps8
      go_wp2_with fail
      refine (plain_ref s _ HS.out).mono ?_
      rintro e w1 ⟨he, hb1⟩
      rw [HP.out] at he
      subst he
      have HB1 := Lib.hid hb1
      clear hb1
      go_wp2_with fail
      refine (fold_ref s _ HS.out).mono ?_
      rw [HF.out]
      rintro e w2 ⟨rfl, hb2⟩
      have HB2 := Lib.hid (HB1.out.trans (hb2.mono HB1.out.size))
      clear hb2
      go_wp2_with fail
      go_ret2
      unfold NormIs
      rw [HN.out, if_pos (.inl (by simp))]
      exact ⟨rfl, HB2.out⟩
    | true =>
      by_cases hz : f.size = 0
      · have n1 := isNil hz
        have HZ := Lib.hid hz
        clear hz
        go_enter Tryz.func8, Tryz.ntmps8
        go_wp2_with fail
        refine (plain_ref s _ HS.out).mono ?_
        rintro e w1 ⟨he, hb1⟩
        rw [HP.out] at he
        subst he
        have HB1 := Lib.hid hb1
        clear hb1
        go_wp2_with fail
        refine (fold_ref s _ HS.out).mono ?_
        rw [HF.out]
        rintro e w2 ⟨rfl, hb2⟩
        have HB2 := Lib.hid (HB1.out.trans (hb2.mono HB1.out.size))
        clear hb2
        go_wp2_with fail
        go_ret2
        unfold NormIs
        rw [HN.out, if_pos (.inr HZ.out)]
        exact ⟨rfl, HB2.out⟩
      · have n1 := notEmpty (s := f) (by omega)
        have HZ := Lib.hid (show ¬ (true = false ∨ f.size = 0) by rintro (h | h); cases h; exact hz h)
        clear hz
        go_enter Tryz.func8, Tryz.ntmps8
        go_wp2_with fail
        refine (plain_ref s _ HS.out).mono ?_
        rintro e w1 ⟨he, hb1⟩
        rw [HP.out] at he
        subst he
        have HB1 := Lib.hid hb1
        clear hb1
        go_wp2_with fail
        refine (fold_ref s _ HS.out).mono ?_
        rw [HF.out]
        rintro e w2 ⟨rfl, hb2⟩
        have HB2 := Lib.hid (HB1.out.trans (hb2.mono HB1.out.size))
        clear hb2
        go_wp2_with fail
        go_ret2
        unfold NormIs
        rw [HN.out, if_neg HZ.out]
        exact ⟨rfl, HB2.out⟩

/-- What Index answers: not less than 0 just if there is one. -/
def IndexIs (l : List En) (x : ByteArray) (w : World) (e : Ending) (w' : World) : Prop := ∃ z : Int, e = .returned (.int .i64 z) ∧ (0 ≤ z ↔ x ∈ normsE l) ∧ Below w.heap.size w w'
set_option maxRecDepth 100000 in
set_option maxHeartbeats 2000000 in
theorem index_ref (l : List En) (v : Value) (x : ByteArray) (w : World) (h : RdN w v l) (hl : l.length ≤ 1000) : Calls Tryz.prog 44 #[v, .string x] w (IndexIs l x w) := by
  obtain ⟨pa, cap, rfl⟩ := h.form
  have HR := Lib.hid h
  clear h
  go_enter Tryz.func44, Tryz.ntmps44
  go_wp2_with fail
  go_loopw [8] (fun i wr => ∃ k : Nat, i = .int .i64 k ∧ k ≤ l.length ∧ Hid (x ∉ (normsE l).take k) ∧ Hid (Below w.heap.size w wr)) (fun i _ => l.length - (intOf i).toNat)
  case atStart => exact ⟨0, rfl, Nat.zero_le _, Lib.hid (by simp), Lib.hid (Below.refl _ _)⟩
  case round =>
    obtain ⟨k, rfl, hk, HN, HB⟩ := hrel
    by_cases hlt : k < l.length
    · obtain ⟨b, off, rfl, hc⟩ := HR.out.cell hlt
      have c1 : wr.cell? ⟨b, off + k * 6 + 1, none⟩ = some (.string (nm l[k].tp.nam)) := (HB.out.cell (p := ⟨b, off + k * 6 + 1, none⟩) (cellIn (hc 1 _ rfl))).trans (hc 1 _ rfl)
      have HTK := Lib.hid (show (normsE l).take (k + 1) = (normsE l).take k ++ [nm l[k].tp.nam] by
        rw [List.take_succ_eq_append_getElem (by rw [normsE_len]; exact hlt)]
        simp [normsE])
      have HMEM := Lib.hid (show nm l[k].tp.nam ∈ normsE l from List.mem_map.2 ⟨l[k], List.getElem_mem hlt, rfl⟩)
      obtain ⟨y, hy⟩ : ∃ y, nm l[k].tp.nam = y := ⟨_, rfl⟩
      rw [hy] at c1 HTK HMEM
      have hk1 : (k : Int) < l.length := by omega
      have HLT := Lib.hid hlt
      clear hc hy hlt
      by_cases hyx : y = x
      · subst hyx
        go_wp2_with fail
        go_ret
        exact ⟨_, rfl, ⟨fun _ => HMEM.out, fun _ => by omega⟩, HB.out⟩
      · have t1 : (y.toList == x.toList) = false := by
          rw [beq_eq_false_iff_ne]
          intro e
          rw [ByteArray.toList_eq, ByteArray.toList_eq] at e
          apply hyx
          cases x; cases y
          simpa using e
        have HNE := Lib.hid hyx
        clear hyx
        go_wp2_with fail
        go_roundw
        case measure => have := HLT.out; simp [intOf]; omega
        case rel => exact ⟨k + 1, by go_num, HLT.out, Lib.hid (by rw [HTK.out]; intro h; exact (List.mem_append.1 h).elim HN.out (fun h2 => HNE.out (List.mem_singleton.1 h2).symm)), HB⟩
    · obtain rfl : k = l.length := by omega
      have hlz : ¬ ((l.length : Int) < l.length) := by omega
      clear hlt
      go_wp2_with fail
      go_ret
      refine ⟨_, rfl, ⟨fun h => absurd h (by decide), fun h => ?_⟩, HB.out⟩
      have := HN.out
      rw [List.take_of_length_le (by rw [normsE_len]; exact Nat.le_refl _)] at this
      exact absurd h this
set_option maxRecDepth 100000 in
set_option maxHeartbeats 1000000 in
theorem at_ref (f : Flt) (w : World) : Calls Tryz.prog 43 #[.int .i64 f.code, .int .i64 f.source, .int .i64 f.line, .int .i64 f.col, .string f.word] w fun e w' => e = .returned f.val ∧ Below w.heap.size w w' := by
  go_enter Tryz.func43, Tryz.ntmps43
  go_wp2_with fail
  exact bodyPost_ret (v := f.val) (by simp [results, Tryz.f43, go_sem, Flt.val]) rfl ⟨rfl, (Below.refl _ _).alloc (Nat.le_refl _) _⟩
set_option maxRecDepth 100000 in
set_option maxHeartbeats 2000000 in
theorem same_ref (f : Flt) (w : World) : Calls Tryz.prog 11 #[f.val, f.val] w fun e w' => e = .returned (.bool true) ∧ Below w.heap.size w w' := by
  unfold Flt.val
  go_enter Tryz.func11, Tryz.ntmps11
  go_wp2_with fail
  go_loopw [51] (fun i wr => i = .int .i64 0 ∧ Hid (Below w.heap.size w wr)) (fun _ _ => 0)
  case atStart => exact ⟨rfl, Lib.hid (((Below.refl _ _).alloc (Nat.le_refl _) _).alloc (by simp) _)⟩
  case round =>
    obtain ⟨rfl, HB⟩ := hrel
    go_wp2_with fail
    go_ret
    exact ⟨rfl, HB.out⟩
set_option maxRecDepth 100000 in
set_option maxHeartbeats 4000000 in
theorem same_law (l : List En) (v u : Value) (w : World) (h : RdN w v l) (g : RdN w u l) (hl : l.length ≤ 1000) : Calls Tryz.prog 13 #[v, u] w fun e w' => e = .returned (.bool true) ∧ Below w.heap.size w w' := by
  obtain ⟨pa, cap, rfl⟩ := h.form
  obtain ⟨pb, cbp, rfl⟩ := g.form
  have HR := Lib.hid h
  have HG := Lib.hid g
  clear h g
  go_enter Tryz.func13, Tryz.ntmps13
  go_wp2_with fail
  go_loopw [13] (fun i wr => ∃ k : Nat, i = .int .i64 k ∧ k ≤ l.length ∧ Hid (Below w.heap.size w wr)) (fun i _ => l.length - (intOf i).toNat)
  case atStart => exact ⟨0, rfl, Nat.zero_le _, Lib.hid (Below.refl _ _)⟩
  case round =>
    obtain ⟨k, rfl, hk, HB⟩ := hrel
    by_cases hlt : k < l.length
    · obtain ⟨b, off, rfl, hc⟩ := HR.out.cell hlt
      obtain ⟨b', off', rfl, hd⟩ := HG.out.cell hlt
      have hc' : ∀ i u, (enRow l[k])[i]? = some u → wr.cell? ⟨b, off + k * 6 + i, none⟩ = some u := fun i u hu => (HB.out.cell (p := ⟨b, off + k * 6 + i, none⟩) (cellIn (hc i u hu))).trans (hc i u hu)
      have hd' : ∀ i u, (enRow l[k])[i]? = some u → wr.cell? ⟨b', off' + k * 6 + i, none⟩ = some u := fun i u hu => (HB.out.cell (p := ⟨b', off' + k * 6 + i, none⟩) (cellIn (hd i u hu))).trans (hd i u hu)
      obtain ⟨x, hx⟩ : ∃ x, l[k] = x := ⟨_, rfl⟩
      rw [hx] at hc' hd'
      have c0 := cell_regrown (show wr.cell? ⟨b, off + k * 6, none⟩ = some (.string x.tp.nam) from hc' 0 _ rfl)
      have c1 := cell_regrown (show wr.cell? ⟨b, off + k * 6 + 1, none⟩ = some (.string (nm x.tp.nam)) from hc' 1 _ rfl)
      have c2 := cell_regrown (show wr.cell? ⟨b, off + k * 6 + 2, none⟩ = some (.int .i64 x.src) from hc' 2 _ rfl)
      have c3 := cell_regrown (show wr.cell? ⟨b, off + k * 6 + 3, none⟩ = some (.int .i64 x.at_) from hc' 3 _ rfl)
      have c4 := cell_regrown (show wr.cell? ⟨b, off + k * 6 + 4, none⟩ = some (.int .i64 x.tp.kind) from hc' 4 _ rfl)
      have c5 := cell_regrown (show wr.cell? ⟨b, off + k * 6 + 5, none⟩ = some (.int .i64 x.tp.line) from hc' 5 _ rfl)
      have d0 := cell_regrown (show wr.cell? ⟨b', off' + k * 6, none⟩ = some (.string x.tp.nam) from hd' 0 _ rfl)
      have d1 := cell_regrown (show wr.cell? ⟨b', off' + k * 6 + 1, none⟩ = some (.string (nm x.tp.nam)) from hd' 1 _ rfl)
      have d2 := cell_regrown (show wr.cell? ⟨b', off' + k * 6 + 2, none⟩ = some (.int .i64 x.src) from hd' 2 _ rfl)
      have d3 := cell_regrown (show wr.cell? ⟨b', off' + k * 6 + 3, none⟩ = some (.int .i64 x.at_) from hd' 3 _ rfl)
      have d4 := cell_regrown (show wr.cell? ⟨b', off' + k * 6 + 4, none⟩ = some (.int .i64 x.tp.kind) from hd' 4 _ rfl)
      have d5 := cell_regrown (show wr.cell? ⟨b', off' + k * 6 + 5, none⟩ = some (.int .i64 x.tp.line) from hd' 5 _ rfl)
      have hk1 : (k : Int) < l.length := by omega
      have HLT := Lib.hid hlt
      have mixed : Tryz.prog.follows .mixedOrders = true := by kernel_rfl
      clear hc hd hc' hd' hx hlt
      go_wp2_with fail
      refine wp_region_quiet_below (by assumption) (by kernel_rfl) ?_
      repeat (quiet_step (fail))
      refine wpQuiet_nil ?_
      intro _ hw'
      obtain ⟨⟨dq, osq⟩, hw''⟩ := hw'
      subst hw''
      have HB6 := Lib.hid (HB.out.trans ((below_regrown wr dq osq).mono HB.out.size))
      clear c0 c1 c2 c3 c4 c5 d0 d1 d2 d3 d4 d5
      go_wp2_with fail
      go_roundw
      case measure => have := HLT.out; simp [intOf]; omega
      case rel => exact ⟨k + 1, by go_num, HLT.out, HB6⟩
    · obtain rfl : k = l.length := by omega
      have hlz : ¬ ((l.length : Int) < l.length) := by omega
      clear hlt
      go_wp2_with fail
      go_ret
      exact ⟨rfl, HB.out⟩
end
section
open Go.RowKit Go.Maps Go.Sort
set_option linter.unusedVariables false

/-- The first that may not stand behind those ahead of it, as a fault. -/
def scan : List ByteArray → List En → Option Flt
  | _, [] => none
  | ks, e :: r => if errOn ks e.tp.nam ≠ 0 then some ⟨errOn ks e.tp.nam, e.src, e.tp.line, 0, e.tp.nam⟩ else scan (ks ++ [nm e.tp.nam]) r
theorem scan_run : ∀ (l : List En) (ks : List ByteArray) (r : List En), (∀ k (h : k < l.length), errOn (ks ++ normsE (l.take k)) l[k].tp.nam = 0) → scan ks (l ++ r) = scan (ks ++ normsE l) r
  | [], ks, r, _ => by simp [normsE]
  | e :: l, ks, r, h => by
    have h0 := h 0 (by simp)
    simp [normsE] at h0
    rw [List.cons_append, scan, if_neg (by simp [h0]), scan_run l (ks ++ [nm e.tp.nam]) r]
    · simp [normsE]
    · intro k hk
      have := h (k + 1) (by simpa using hk)
      simpa [normsE] using this
theorem scan_bad {l r : List En} {x : En} (h : Fine l) (he : errOn (normsE l) x.tp.nam ≠ 0) : scan [] (l ++ x :: r) = some ⟨errOn (normsE l) x.tp.nam, x.src, x.tp.line, 0, x.tp.nam⟩ := by
  rw [scan_run l [] (x :: r) (fun k hk => by simpa using h k hk), List.nil_append, scan, if_pos he]
theorem scan_fine {l : List En} (h : Fine l) : scan [] l = none := by
  have := scan_run l [] [] (fun k hk => by simpa using h k hk)
  rw [List.append_nil] at this
  rw [this]
  rfl
/-- The fault that a list of sources has, if any. -/
def collF (ss : List Srm) : Option Flt := if 64 < ss.length ∨ 1000 < cntT ss ss.length then some ⟨2, 0, 0, 0, .empty⟩ else scan [] (entsS ss ss.length)
/-- Each topic stands where it is gone through. -/
theorem ents_mid (ss : List Srm) {k j : Nat} (hk : k < ss.length) (hj : j < ss[k].ts.length) : ∃ r, entsS ss ss.length = (entsS ss k ++ entsT k ss[k].ts j) ++ ⟨k, j, ss[k].ts[j]⟩ :: r := by
  have h1 : ∀ m, j + 1 ≤ m → m ≤ ss[k].ts.length → ∃ r, entsT k ss[k].ts m = entsT k ss[k].ts j ++ ⟨k, j, ss[k].ts[j]⟩ :: r := by
    intro m
    induction m with
    | zero => intro h; omega
    | succ m ih =>
      intro ha hb
      rcases Nat.lt_or_ge j m with h | h
      · obtain ⟨r, hr⟩ := ih (by omega) (by omega)
        exact ⟨r ++ [⟨k, m, ss[k].ts[m]⟩], by rw [entsT_succ (by omega), hr]; simp⟩
      · obtain rfl : j = m := by omega
        exact ⟨[], entsT_succ hj⟩
  have h2 : ∀ m, k + 1 ≤ m → m ≤ ss.length → ∃ r, entsS ss m = entsS ss (k + 1) ++ r := by
    intro m
    induction m with
    | zero => intro h; omega
    | succ m ih =>
      intro ha hb
      rcases Nat.lt_or_ge k m with h | h
      · obtain ⟨r, hr⟩ := ih (by omega) (by omega)
        exact ⟨r ++ entsT m ss[m].ts ss[m].ts.length, by rw [entsS_succ (by omega), hr]; simp⟩
      · obtain rfl : k = m := by omega
        exact ⟨[], by simp⟩
  obtain ⟨r1, e1⟩ := h1 _ hj (Nat.le_refl _)
  obtain ⟨r2, e2⟩ := h2 _ hk (Nat.le_refl _)
  exact ⟨r1 ++ r2, by rw [e2, entsS_succ hk, e1]; simp⟩
theorem collF_bad {ss : List Srm} (h1 : ss.length ≤ 64) (h2 : cntT ss ss.length ≤ 1000) {k j : Nat} (hk : k < ss.length) (hj : j < ss[k].ts.length) (hf : Fine (entsS ss k ++ entsT k ss[k].ts j)) (he : errOn (normsE (entsS ss k ++ entsT k ss[k].ts j)) ss[k].ts[j].nam ≠ 0) :
    collF ss = some ⟨errOn (normsE (entsS ss k ++ entsT k ss[k].ts j)) ss[k].ts[j].nam, k, ss[k].ts[j].line, 0, ss[k].ts[j].nam⟩ := by
  obtain ⟨r, hr⟩ := ents_mid ss hk hj
  unfold collF
  rw [if_neg (by omega), hr]
  exact scan_bad hf he
theorem collF_fine {ss : List Srm} (h1 : ss.length ≤ 64) (h2 : cntT ss ss.length ≤ 1000) (hf : Fine (entsS ss ss.length)) : collF ss = none := by
  unfold collF
  rw [if_neg (by omega)]
  exact scan_fine hf
/-- What the program's Collect answers, told by that fault. -/
theorem CollIs.told {ss : List Srm} {w : World} {e : Ending} {w' : World} (h : CollIs ss w e w') : Below w.heap.size w w' ∧
    ((∃ g f, collF ss = some f ∧ e = .returned (.tuple #[.slice none 0 0, errV g]) ∧ Erd w' g f) ∨
     (collF ss = none ∧ (entsS ss ss.length).length ≤ 1000 ∧ ∃ dv, e = .returned (.tuple #[dv, .nilIface]) ∧ RdN w' dv (entsS ss ss.length))) := by
  obtain ⟨hb, h⟩ := h
  refine ⟨hb, ?_⟩
  rcases h with ⟨g, f, rfl, hE, ⟨h1, rfl⟩ | ⟨h1, h2, k, j, hk, hj, hf, he, rfl⟩⟩ | ⟨h1, h2, hf, dv, rfl, hR⟩
  · exact .inl ⟨g, _, by unfold collF; rw [if_pos h1], rfl, hE⟩
  · exact .inl ⟨g, _, collF_bad h1 h2 hk hj hf he, rfl, hE⟩
  · exact .inr ⟨collF_fine h1 h2 hf, by rw [entsS_len ss _ (Nat.le_refl _)]; exact h2, dv, rfl, hR⟩
def Flt0 : Flt := ⟨0, 0, 0, 0, .empty⟩
theorem set6_heap (W : World) (g : Nat) (v0 v1 v2 v3 v4 v5 : Value) {c : Nat} (hc : c ≠ g) : ((((((W.setCell ⟨g, 0, none⟩ v0).setCell ⟨g, 1, none⟩ v1).setCell ⟨g, 2, none⟩ v2).setCell ⟨g, 3, none⟩ v3).setCell ⟨g, 4, none⟩ v4).setCell ⟨g, 5, none⟩ v5).heap[c]? = W.heap[c]? := by
  iterate 6 (rw [Below.heap_setCell _ _ _ _ hc])
/-- What the document's Collect answers. -/
def DCollIs (ss : List Srm) (w : World) (e : Ending) (w' : World) : Prop := Below w.heap.size w w' ∧
  ((∃ f, collF ss = some f ∧ f.code ≠ 0 ∧ e = .returned (.tuple #[.slice none 0 0, f.val])) ∨
   (collF ss = none ∧ ∃ dv, e = .returned (.tuple #[dv, Flt0.val]) ∧ RdN w' dv (entsS ss ss.length)))
def resO : Obj := .cells #[.int .i64 0, .int .i64 0, .int .i64 0, .int .i64 0, .string ⟨#[]⟩, .slice none 0 0] 36
/-- What stands while the document goes through sources. -/
structure DSt (w : World) (l : List En) (dv : Value) (W : World) : Prop where
  own : W.ownsRow w.heap.size 90 6 dv l.length (rowsN l)
  bl : Below w.heap.size w W
  fine : Fine l
  res : W.heap[w.heap.size]? = some resO
theorem DSt.below {w W W' : World} {l : List En} {dv : Value} (h : DSt w l dv W) (hb : Below W.heap.size W W') : DSt w l dv W' :=
  ⟨own_stays h.own fun c e => hb.block c (own_base h.own e).2, h.bl.trans (hb.mono h.bl.size), h.fine, (hb.block _ (Array.getElem?_eq_some_iff.1 h.res).1).trans h.res⟩
theorem DSt.push {w W W' : World} {l : List En} {x : En} {dv dv' : Value} {o : Obj} (h : DSt w l dv W) (he : errOn (normsE l) x.tp.nam = 0) (hg : (W.alloc o).grownBy W' dv.ownBlock) (hown : W'.ownsRow w.heap.size 90 6 dv' (l.length + 1) (rowsN l ++ enRow x)) : DSt w (l ++ [x]) dv' W' := by
  have hA : Below W.heap.size W (W.alloc o) := (Below.refl _ W).alloc (Nat.le_refl _) _
  have hlt := (Array.getElem?_eq_some_iff.1 h.res).1
  have hn : dv.ownBlock ≠ some w.heap.size := own_not h.own h.res (fun cur fr e => by unfold resO at e; cases e)
  refine ⟨by rw [List.length_append, rowsN_snoc]; exact hown, ?_, h.fine.snoc he, ((hg.block _ (by simp; omega) (fun e => hn e.symm)).trans (hA.block _ hlt)).trans h.res⟩
  exact (h.bl.alloc h.bl.size o).grown hg (by have := h.bl.size; simp; omega) (fun r e => (own_base h.own e).1)
theorem errOn_er {ks : List ByteArray} {s : ByteArray} (h : (nrm s).2 ≠ 0) : errOn ks s = (nrm s).2 := by unfold errOn; rw [if_pos h]
theorem errOn_in {ks : List ByteArray} {s : ByteArray} (h : (nrm s).2 = 0) (hi : nm s ∈ ks) : errOn ks s = 71 := by unfold errOn; rw [if_neg (by simp [h]), if_pos (inL_iff.2 hi)]
theorem errOn_out {ks : List ByteArray} {s : ByteArray} (h : (nrm s).2 = 0) (hi : nm s ∉ ks) : errOn ks s = 0 := by unfold errOn; rw [if_neg (by simp [h]), if_neg (fun e => hi (inL_iff.1 e))]
theorem res_cells {W : World} {g : Nat} (h : W.heap[g]? = some resO) : (W.cell? ⟨g, 0, none⟩ = some (.int .i64 0) ∧ W.cell? ⟨g, 1, none⟩ = some (.int .i64 0) ∧ W.cell? ⟨g, 2, none⟩ = some (.int .i64 0) ∧ W.cell? ⟨g, 3, none⟩ = some (.int .i64 0) ∧ W.cell? ⟨g, 4, none⟩ = some (.string .empty) ∧ W.cell? ⟨g, 5, none⟩ = some (.slice none 0 0)) ∧ ∀ i, W.frozen? ⟨g, i, none⟩ = false := by
  unfold resO at h
  refine ⟨⟨?_, ?_, ?_, ?_, ?_, ?_⟩, fun i => frozen_of_row W g i _ _ h⟩ <;> (rw [cell_of_row _ g _ _ _ _ h]; rfl)

/-- How many topics there are, where there are at most 64 sources; any number, if there are more. -/
def Many (ss : List Srm) (k : Nat) (v : Value) : Prop := ∃ z : Int, v = .int .i64 z ∧ (ss.length ≤ 64 → z = cntT ss k)
set_option maxRecDepth 100000 in
set_option maxHeartbeats 8000000 in
theorem collect_ref (ss : List Srm) (v : Value) (w : World) (h : RdSr w v ss) (hl : ss.length ≤ 4611686018427387904) (hm : ∀ s ∈ ss, s.ts.length ≤ 140737488355328) :
    Calls Tryz.prog 10 #[v] w (DCollIs ss w) := by
  obtain ⟨pa, cap, rfl⟩ := h.form
  have HR := Lib.hid h
  have HM := Lib.hid hm
  have HA0 := Lib.hid ((Below.refl w.heap.size w).alloc (Nat.le_refl _) resO)
  have HX0 := Lib.hid (World.alloc_heap_new w resO)
  clear h hm
  go_enter Tryz.func10, Tryz.ntmps10
  go_wp2_with fail
  have HD0 := Lib.hid (show DSt w [] (.slice none 0 0) (w.alloc resO) from ⟨World.ownsRow_nil _ _ _ _, HA0.out, Fine.nil, HX0.out⟩)
  unfold resO at HD0
  go_loopw [4, 16] (fun nv i wr => ∃ k : Nat, i = .int .i64 k ∧ k ≤ ss.length ∧ Hid (Many ss k nv) ∧ Hid (DSt w [] (.slice none 0 0) wr)) (fun _ i _ => ss.length - (intOf i).toNat)
  case atStart => exact ⟨0, rfl, Nat.zero_le _, Lib.hid ⟨0, rfl, fun _ => rfl⟩, HD0⟩
  case round =>
    obtain ⟨k, rfl, hk, HMN, HS⟩ := hrel
    by_cases hlt : k < ss.length
    · obtain ⟨b, off, rfl, ⟨sp, sn, sc, hst⟩, d1, d2, ht⟩ := HR.out.cell hlt
      have c1 := (HS.out.bl.cell (p := ⟨b, off + k * 2, none⟩) (cellIn d1)).trans d1
      have c2 := (HS.out.bl.cell (p := ⟨b, off + k * 2 + 1, none⟩) (cellIn d2)).trans d2
      obtain ⟨pt, ct, htv, hrest⟩ := ht
      rw [hst] at c1
      rw [htv] at c2
      have hcs := cntT_succ hlt
      have h2 := HM.out _ (List.getElem_mem hlt)
      have HLE := Lib.hid (fun h64 : ss.length ≤ 64 => Nat.le_trans (cntT_le HM.out k) (Nat.mul_le_mul_right 140737488355328 (Nat.le_trans hk h64)))
      obtain ⟨nt, hnt⟩ : ∃ nt, ss[k].ts.length = nt := ⟨_, rfl⟩
      rw [hnt] at c2 hcs h2
      obtain ⟨z, rfl, hz⟩ := HMN.out
      have HZ := Lib.hid hz
      have HCS := Lib.hid hcs
      have HNT := Lib.hid h2
      have hk1 : (k : Int) < ss.length := by omega
      have HLT := Lib.hid hlt
      have HA := Lib.hid (HS.out.below ((Below.refl _ wr).alloc (Nat.le_refl _) (.cells #[.slice sp sn sc, .slice pt nt ct] 82)))
      clear d1 d2 hst htv hrest hnt hlt HS hz hcs h2 HMN
      go_wp2_with fail
      go_roundw
      case measure => have := HLT.out; simp [intOf]; omega
      case rel => exact ⟨k + 1, by go_num, HLT.out, Lib.hid ⟨_, rfl, fun h => by rw [HZ.out h, HCS.out, IntWalk.wrap64_in _ (by have := HLE.out h; have := HNT.out; constructor <;> omega)]; omega⟩, HA⟩
    · obtain rfl : k = ss.length := by omega
      have hlz : ¬ ((ss.length : Int) < ss.length) := by omega
      obtain ⟨z, rfl, hz⟩ := HMN.out
      have HZ := Lib.hid hz
      clear hlt hz HMN
      by_cases hlen : 64 < ss.length
      · have h64 : (64 : Int) < ss.length := by omega
        have HL := Lib.hid hlen
        clear hlen
        go_wp2_with fail
        refine (at_ref ⟨2, 0, 0, 0, .empty⟩ _).mono ?_
        rintro e w1 ⟨rfl, hb1⟩
        have HS1 := Lib.hid (HS.out.below hb1)
        clear hb1
        unfold Flt.val
        obtain ⟨⟨z0, z1, z2, z3, z4, z5⟩, zf⟩ := res_cells HS1.out.res
        have fz0 := zf 0
        have fz1 := zf 1
        have fz2 := zf 2
        have fz3 := zf 3
        have fz4 := zf 4
        have fz5 := zf 5
        have X0 := Lib.hid (told6 w1 w.heap.size _ _ _ _ _ _ (.int .i64 2) (.int .i64 0) (.int .i64 0) (.int .i64 0) (.string .empty) (.slice none 0 0) _ HS1.out.res)
        have XB := Lib.hid (set6_below w1 w.heap.size (.int .i64 2) (.int .i64 0) (.int .i64 0) (.int .i64 0) (.string .empty) (.slice none 0 0) (B := w.heap.size) (Nat.le_refl _) HS1.out.bl)
        clear zf
        go_wp2_with fail
        have X1 := X0.out
        have X2 := XB.out
        generalize (((((w1.setCell ⟨w.heap.size, 0, none⟩ (.int .i64 2)).setCell ⟨w.heap.size, 1, none⟩ (.int .i64 0)).setCell ⟨w.heap.size, 2, none⟩ (.int .i64 0)).setCell ⟨w.heap.size, 3, none⟩ (.int .i64 0)).setCell ⟨w.heap.size, 4, none⟩ (.string .empty)).setCell ⟨w.heap.size, 5, none⟩ (.slice none 0 0) = w9 at X1 X2 ⊢
        have y0 : w9.cell? ⟨w.heap.size, 0, none⟩ = some (.int .i64 2) := by rw [cell_of_row w9 w.heap.size _ _ _ _ X1]; rfl
        have y1 : w9.cell? ⟨w.heap.size, 1, none⟩ = some (.int .i64 0) := by rw [cell_of_row w9 w.heap.size _ _ _ _ X1]; rfl
        have y2 : w9.cell? ⟨w.heap.size, 2, none⟩ = some (.int .i64 0) := by rw [cell_of_row w9 w.heap.size _ _ _ _ X1]; rfl
        have y3 : w9.cell? ⟨w.heap.size, 3, none⟩ = some (.int .i64 0) := by rw [cell_of_row w9 w.heap.size _ _ _ _ X1]; rfl
        have y4 : w9.cell? ⟨w.heap.size, 4, none⟩ = some (.string .empty) := by rw [cell_of_row w9 w.heap.size _ _ _ _ X1]; rfl
        have y5 : w9.cell? ⟨w.heap.size, 5, none⟩ = some (.slice none 0 0) := by rw [cell_of_row w9 w.heap.size _ _ _ _ X1]; rfl
        exact bodyPost_ret (v := .tuple #[.slice none 0 0, .agg #[.int .i64 2, .int .i64 0, .int .i64 0, .int .i64 0, .string .empty, .slice none 0 0]]) (by simp [results, Tryz.f10, go_sem, y0, y1, y2, y3, y4, y5]) rfl ⟨X2, .inl ⟨⟨2, 0, 0, 0, .empty⟩, by unfold collF; rw [if_pos (.inl HL.out)], by decide, rfl⟩⟩
      · have h64 : ¬ (64 : Int) < ss.length := by omega
        have HL := Lib.hid (show ss.length ≤ 64 by omega)
        obtain ⟨c, hc⟩ : ∃ c, cntT ss ss.length = c := ⟨_, rfl⟩
        have hzc : z = c := by rw [HZ.out HL.out, hc]
        subst hzc
        have HCC := Lib.hid hc
        clear hlen hc
        by_cases hbig : 1000 < c
        · have hbz : (1000 : Int) < c := by omega
          have HBG := Lib.hid hbig
          clear hbig
          go_wp2_with fail
          refine (at_ref ⟨2, 0, 0, 0, .empty⟩ _).mono ?_
          rintro e w1 ⟨rfl, hb1⟩
          have HS1 := Lib.hid (HS.out.below hb1)
          clear hb1
          unfold Flt.val
          obtain ⟨⟨z0, z1, z2, z3, z4, z5⟩, zf⟩ := res_cells HS1.out.res
          have fz0 := zf 0
          have fz1 := zf 1
          have fz2 := zf 2
          have fz3 := zf 3
          have fz4 := zf 4
          have fz5 := zf 5
          have X0 := Lib.hid (told6 w1 w.heap.size _ _ _ _ _ _ (.int .i64 2) (.int .i64 0) (.int .i64 0) (.int .i64 0) (.string .empty) (.slice none 0 0) _ HS1.out.res)
          have XB := Lib.hid (set6_below w1 w.heap.size (.int .i64 2) (.int .i64 0) (.int .i64 0) (.int .i64 0) (.string .empty) (.slice none 0 0) (B := w.heap.size) (Nat.le_refl _) HS1.out.bl)
          clear zf
          go_wp2_with fail
          have X1 := X0.out
          have X2 := XB.out
          generalize (((((w1.setCell ⟨w.heap.size, 0, none⟩ (.int .i64 2)).setCell ⟨w.heap.size, 1, none⟩ (.int .i64 0)).setCell ⟨w.heap.size, 2, none⟩ (.int .i64 0)).setCell ⟨w.heap.size, 3, none⟩ (.int .i64 0)).setCell ⟨w.heap.size, 4, none⟩ (.string .empty)).setCell ⟨w.heap.size, 5, none⟩ (.slice none 0 0) = w9 at X1 X2 ⊢
          have y0 : w9.cell? ⟨w.heap.size, 0, none⟩ = some (.int .i64 2) := by rw [cell_of_row w9 w.heap.size _ _ _ _ X1]; rfl
          have y1 : w9.cell? ⟨w.heap.size, 1, none⟩ = some (.int .i64 0) := by rw [cell_of_row w9 w.heap.size _ _ _ _ X1]; rfl
          have y2 : w9.cell? ⟨w.heap.size, 2, none⟩ = some (.int .i64 0) := by rw [cell_of_row w9 w.heap.size _ _ _ _ X1]; rfl
          have y3 : w9.cell? ⟨w.heap.size, 3, none⟩ = some (.int .i64 0) := by rw [cell_of_row w9 w.heap.size _ _ _ _ X1]; rfl
          have y4 : w9.cell? ⟨w.heap.size, 4, none⟩ = some (.string .empty) := by rw [cell_of_row w9 w.heap.size _ _ _ _ X1]; rfl
          have y5 : w9.cell? ⟨w.heap.size, 5, none⟩ = some (.slice none 0 0) := by rw [cell_of_row w9 w.heap.size _ _ _ _ X1]; rfl
          exact bodyPost_ret (v := .tuple #[.slice none 0 0, .agg #[.int .i64 2, .int .i64 0, .int .i64 0, .int .i64 0, .string .empty, .slice none 0 0]]) (by simp [results, Tryz.f10, go_sem, y0, y1, y2, y3, y4, y5]) rfl ⟨X2, .inl ⟨⟨2, 0, 0, 0, .empty⟩, by unfold collF; rw [if_pos (.inr (by rw [HCC.out]; exact HBG.out))], by decide, rfl⟩⟩
        · have hbz : ¬ (1000 : Int) < c := by omega
          have HBG := Lib.hid (show cntT ss ss.length ≤ 1000 by rw [HCC.out]; omega)
          obtain ⟨i0, hi0, hz0, hz1, hz2⟩ := info_parts infoN
          clear hbig
          go_wp2_with fail
          go_loopw [7, 36] (fun dv i wr => ∃ k : Nat, i = .int .i64 k ∧ k ≤ ss.length ∧ Hid (DSt w (entsS ss k) dv wr)) (fun _ i _ => ss.length - (intOf i).toNat)
          case atStart => exact ⟨0, rfl, Nat.zero_le _, HS⟩
          case round =>
            clear HS
            obtain ⟨k, rfl, hk, HS⟩ := hrel
            by_cases hlt : k < ss.length
            · obtain ⟨b, off, rfl, ⟨sp, sn, sc, hst⟩, d1, d2, ht⟩ := HR.out.cell hlt
              have c1 := (HS.out.bl.cell (p := ⟨b, off + k * 2, none⟩) (cellIn d1)).trans d1
              have c2 := (HS.out.bl.cell (p := ⟨b, off + k * 2 + 1, none⟩) (cellIn d2)).trans d2
              have HSUC := Lib.hid (entsS_succ hlt)
              have HCT := Lib.hid (show (entsS ss k).length + ss[k].ts.length ≤ 1000 by
                have h1 := cntT_mono ss (show k + 1 ≤ ss.length by omega) (Nat.le_refl _)
                have h2 := HBG.out
                rw [cntT_succ hlt] at h1
                rw [entsS_len ss k hk]
                omega)
              obtain ⟨ts, hts, HERR⟩ : ∃ ts, ss[k].ts = ts ∧ Hid (∀ j, (hj : j < ts.length) → Fine (entsS ss k ++ entsT k ts j) → errOn (normsE (entsS ss k ++ entsT k ts j)) ts[j].nam ≠ 0 → collF ss = some ⟨errOn (normsE (entsS ss k ++ entsT k ts j)) ts[j].nam, k, ts[j].line, 0, ts[j].nam⟩) :=
                ⟨_, rfl, Lib.hid fun j hj hf he => collF_bad HL.out HBG.out hlt hj hf he⟩
              rw [hts] at HSUC HCT ht
              obtain ⟨pt, ct, htv, hrest⟩ := ht
              have HTP := Lib.hid (show RdTp w (.slice pt ts.length ct) ts from ⟨pt, ct, rfl, hrest⟩)
              rw [hst] at c1
              rw [htv] at c2
              obtain ⟨nt, hnt⟩ : ∃ nt, ts.length = nt := ⟨_, rfl⟩
              rw [hnt] at c2 HSUC HCT HTP
              have HNT := Lib.hid hnt
              have hk1 : (k : Int) < ss.length := by omega
              have HLT := Lib.hid hlt
              have HS0 := Lib.hid (HS.out.below ((Below.refl _ wr).alloc (Nat.le_refl _) (.cells #[.slice sp sn sc, .slice pt nt ct] 82)))
              have HNB := Lib.hid (show nt ≤ 1000 by have := HCT.out; omega)
              clear d1 d2 hst htv hrest hts hnt hlt HS
              obtain ⟨wo, rfl⟩ : ∃ wo : World, wo = wr := ⟨_, rfl⟩
              go_wp2_with fail
              go_loopw [7, 44] (fun dv i wr => ∃ j : Nat, i = .int .i64 j ∧ j ≤ nt ∧ Hid (DSt w (entsS ss k ++ entsT k ts j) dv wr)) (fun _ i _ => nt - (intOf i).toNat)
              case atStart => exact ⟨0, rfl, Nat.zero_le _, Lib.hid (by simpa [entsT] using HS0.out)⟩
              case round =>
                obtain ⟨j, rfl, hj, HS2⟩ := hrel
                by_cases hjt : j < nt
                · have hjl : j < ts.length := by rw [HNT.out]; exact hjt
                  obtain ⟨b2, off2, rfl, hc⟩ := HTP.out.cell hjl
                  have qq : ∀ i u, (tpcRow ts[j])[i]? = some u → wr.cell? ⟨b2, off2 + j * 8 + i, none⟩ = some u := fun i u hu => (HS2.out.bl.cell (p := ⟨b2, off2 + j * 8 + i, none⟩) (cellIn (hc i u hu))).trans (hc i u hu)
                  have HES := Lib.hid (entsT_succ (i := k) hjl)
                  have HER2 := Lib.hid (HERR.out j hjl)
                  obtain ⟨t, ht⟩ : ∃ t, ts[j] = t := ⟨_, rfl⟩
                  rw [ht] at qq HES HER2
                  have q0 : wr.cell? ⟨b2, off2 + j * 8, none⟩ = some (.int .i64 t.kind) := qq 0 _ rfl
                  have q1 : wr.cell? ⟨b2, off2 + j * 8 + 1, none⟩ = some (.string t.nam) := qq 1 _ rfl
                  have q2 : wr.cell? ⟨b2, off2 + j * 8 + 2, none⟩ = some (.string t.title) := qq 2 _ rfl
                  have q3 : wr.cell? ⟨b2, off2 + j * 8 + 3, none⟩ = some (.int .i64 t.level) := qq 3 _ rfl
                  have q4 : wr.cell? ⟨b2, off2 + j * 8 + 4, none⟩ = some (.slice t.kp t.kn t.kc) := qq 4 _ rfl
                  have q5 : wr.cell? ⟨b2, off2 + j * 8 + 5, none⟩ = some (.slice t.sp t.sn t.sc) := qq 5 _ rfl
                  have q6 : wr.cell? ⟨b2, off2 + j * 8 + 6, none⟩ = some (.slice t.bp t.bn t.bc) := qq 6 _ rfl
                  have q7 : wr.cell? ⟨b2, off2 + j * 8 + 7, none⟩ = some (.int .i64 t.line) := qq 7 _ rfl
                  obtain ⟨L, hL⟩ : ∃ L, entsS ss k ++ entsT k ts j = L := ⟨_, rfl⟩
                  rw [hL] at HS2 HER2
                  have HLL := Lib.hid (show L.length + 1 ≤ 1000 by rw [← hL, List.length_append, entsT_len]; have := HCT.out; omega)
                  have HL2 := Lib.hid (show entsS ss k ++ entsT k ts (j + 1) = L ++ [⟨k, j, t⟩] by rw [HES.out, ← List.append_assoc, hL])
                  have hA : Below wr.heap.size wr (wr.alloc (boxT t)) := (Below.refl _ wr).alloc (Nat.le_refl _) _
                  have HS3 := Lib.hid (HS2.out.below hA)
                  have HBX := Lib.hid (show (wr.alloc (boxT t)).heap[wr.heap.size]? = some (boxT t) from World.alloc_heap_new _ _)
                  have hj1 : (j : Int) < nt := by omega
                  have HJT := Lib.hid hjt
                  have hnb := HNB.out
                  obtain ⟨pd, cd, rfl⟩ := lenOf HS2.out.own
                  have HD3 := Lib.hid (RdN.own HS3.out.own)
                  obtain ⟨er, her⟩ : ∃ er, (nrm t.nam).2 = er := ⟨_, rfl⟩
                  obtain ⟨x, hx⟩ : ∃ x, nm t.nam = x := ⟨_, rfl⟩
                  have HER := Lib.hid her
                  have HX := Lib.hid hx
                  clear hc qq ht hL hA hjl hjt her hx
                  by_cases her0 : er = 0
                  · subst her0
                    by_cases hin : x ∈ normsE L
                    · have HEQ := Lib.hid (errOn_in (ks := normsE L) HER.out (by rw [HX.out]; exact hin))
                      have HIN := Lib.hid hin
                      clear hin
                      go_wp2_with fail
                      refine (norm_ref t.nam _).mono ?_
                      rintro e w2 ⟨he, hb2⟩
                      rw [HER.out, show (nrm t.nam).1 = x from HX.out] at he
                      subst he
                      have HS4' := Lib.hid (HS3.out.below hb2)
                      have HD4 := Lib.hid (HD3.out.below hb2)
                      have HBX2 := Lib.hid ((hb2.block _ (by simp)).trans HBX.out)
                      clear hb2
                      go_wp2_with fail
                      refine (index_ref L _ x _ HD4.out (by have := HLL.out; omega)).mono ?_
                      rintro e w3 ⟨z3, rfl, hz3, hb3⟩
                      have hz4 : (0 : Int) ≤ z3 := hz3.2 HIN.out
                      have HS5 := Lib.hid (HS4'.out.below hb3)
                      obtain ⟨x0, x1, x7⟩ := box_cells ((hb3.block _ (Array.getElem?_eq_some_iff.1 HBX2.out).1).trans HBX2.out)
                      clear hz3 hb3
                      go_wp2_with fail
                      refine (at_ref ⟨71, k, t.line, 0, t.nam⟩ _).mono ?_
                      rintro e w4 ⟨rfl, hb4⟩
                      have HS4 := Lib.hid (HS5.out.below hb4)
                      have HBAD := Lib.hid (show collF ss = some ⟨71, k, t.line, 0, t.nam⟩ by have := HER2.out HS4.out.fine (by rw [HEQ.out]; decide); rw [HEQ.out] at this; exact this)
                      have HNZ := Lib.hid (show (71 : Int) ≠ 0 by decide)
                      clear hb4
                      unfold Flt.val
                      obtain ⟨⟨z0, z1, z2, z3, z4, z5⟩, zf⟩ := res_cells HS4.out.res
                      have fz0 := zf 0
                      have fz1 := zf 1
                      have fz2 := zf 2
                      have fz3 := zf 3
                      have fz4 := zf 4
                      have fz5 := zf 5
                      have X0 := Lib.hid (told6 w4 w.heap.size _ _ _ _ _ _ (.int .i64 71) (.int .i64 k) (.int .i64 t.line) (.int .i64 0) (.string t.nam) (.slice none 0 0) _ HS4.out.res)
                      have XB := Lib.hid (set6_below w4 w.heap.size (.int .i64 71) (.int .i64 k) (.int .i64 t.line) (.int .i64 0) (.string t.nam) (.slice none 0 0) (B := w.heap.size) (Nat.le_refl _) HS4.out.bl)
                      clear zf
                      go_wp2_with fail
                      have X1 := X0.out
                      have X2 := XB.out
                      generalize (((((w4.setCell ⟨w.heap.size, 0, none⟩ (.int .i64 71)).setCell ⟨w.heap.size, 1, none⟩ (.int .i64 k)).setCell ⟨w.heap.size, 2, none⟩ (.int .i64 t.line)).setCell ⟨w.heap.size, 3, none⟩ (.int .i64 0)).setCell ⟨w.heap.size, 4, none⟩ (.string t.nam)).setCell ⟨w.heap.size, 5, none⟩ (.slice none 0 0) = w9 at X1 X2 ⊢
                      have y0 : w9.cell? ⟨w.heap.size, 0, none⟩ = some (.int .i64 71) := by rw [cell_of_row w9 w.heap.size _ _ _ _ X1]; rfl
                      have y1 : w9.cell? ⟨w.heap.size, 1, none⟩ = some (.int .i64 k) := by rw [cell_of_row w9 w.heap.size _ _ _ _ X1]; rfl
                      have y2 : w9.cell? ⟨w.heap.size, 2, none⟩ = some (.int .i64 t.line) := by rw [cell_of_row w9 w.heap.size _ _ _ _ X1]; rfl
                      have y3 : w9.cell? ⟨w.heap.size, 3, none⟩ = some (.int .i64 0) := by rw [cell_of_row w9 w.heap.size _ _ _ _ X1]; rfl
                      have y4 : w9.cell? ⟨w.heap.size, 4, none⟩ = some (.string t.nam) := by rw [cell_of_row w9 w.heap.size _ _ _ _ X1]; rfl
                      have y5 : w9.cell? ⟨w.heap.size, 5, none⟩ = some (.slice none 0 0) := by rw [cell_of_row w9 w.heap.size _ _ _ _ X1]; rfl
                      exact bodyPost_ret (v := .tuple #[.slice none 0 0, .agg #[.int .i64 71, .int .i64 k, .int .i64 t.line, .int .i64 0, .string t.nam, .slice none 0 0]]) (by simp [results, Tryz.f10, go_sem, y0, y1, y2, y3, y4, y5]) rfl ⟨X2, .inl ⟨⟨71, k, t.line, 0, t.nam⟩, HBAD.out, HNZ.out, rfl⟩⟩
                    · have HEQ := Lib.hid (errOn_out (ks := normsE L) HER.out (by rw [HX.out]; exact hin))
                      have HIN := Lib.hid hin
                      clear hin
                      go_wp2_with fail
                      refine (norm_ref t.nam _).mono ?_
                      rintro e w2 ⟨he, hb2⟩
                      rw [HER.out, show (nrm t.nam).1 = x from HX.out] at he
                      subst he
                      have HS4' := Lib.hid (HS3.out.below hb2)
                      have HD4 := Lib.hid (HD3.out.below hb2)
                      have HBX2 := Lib.hid ((hb2.block _ (by simp)).trans HBX.out)
                      clear hb2
                      go_wp2_with fail
                      refine (index_ref L _ x _ HD4.out (by have := HLL.out; omega)).mono ?_
                      rintro e w3 ⟨z3, rfl, hz3, hb3⟩
                      have hz4 : ¬ (0 : Int) ≤ z3 := fun h => HIN.out (hz3.1 h)
                      have hz5 : z3 < 0 := by omega
                      have HS5 := Lib.hid (HS4'.out.below hb3)
                      obtain ⟨x0, x1, x7⟩ := box_cells ((hb3.block _ (Array.getElem?_eq_some_iff.1 HBX2.out).1).trans HBX2.out)
                      have HRW := Lib.hid (show enRow ⟨k, j, t⟩ = [.string t.nam, .string x, .int .i64 k, .int .i64 j, .int .i64 t.kind, .int .i64 t.line] by unfold enRow; rw [HX.out])
                      have M1 := Lib.hid (show L.length + 1 ≤ maxLen by have := HLL.out; unfold maxLen; omega)
                      have M2 := Lib.hid (show (L.length + 1) * 64 ≤ 140737488355328 by have := HLL.out; omega)
                      have M3 := Lib.hid (show w.heap.size ≤ (w3.alloc (.cells #[.string t.nam, .string x, .int .i64 k, .int .i64 j, .int .i64 t.kind, .int .i64 t.line] 90)).heap.size by have := HS5.out.bl.size; simp; omega)
                      have HO8 := Lib.hid (HS5.out.own.alloc (.cells #[.string t.nam, .string x, .int .i64 k, .int .i64 j, .int .i64 t.kind, .int .i64 t.line] 90))
                      have H1 := Lib.hid (show ∀ u ∈ [Value.string t.nam, .string x, .int .i64 k, .int .i64 j, .int .i64 t.kind, .int .i64 t.line], u.oneCell' = true by rw [← HRW.out]; exact enRow_one _)
                      clear hz3 hb3
                      go_wp2_with (at_builtin; go_loud (refine wpList_append_lies _ rfl _ _ 29 rfl w.heap.size 90 i0 (.agg #[.string .empty, .string .empty, .int .i64 0, .int .i64 0, .int .i64 0, .int .i64 0]) 6 64 Tryz.underlying29 hi0 hz0 hz1 hz2 rfl (by decide) _ L.length (rowsN L) rfl HO8.out ⟨w3.heap.size, 0, none⟩ 1 1 [.string t.nam, .string x, .int .i64 k, .int .i64 j, .int .i64 t.kind, .int .i64 t.line] rfl rfl (cells_new _ _ _) H1.out (by decide) M1.out M2.out M3.out _ rfl ?_); intro g9 c9 w9 hown9 hgrow9 _ _; rw [← HRW.out] at hown9; have HS9 := Lib.hid (HS5.out.push (x := ⟨k, j, t⟩) HEQ.out hgrow9 hown9); clear hown9 hgrow9)
                      go_roundw
                      case measure => have := HJT.out; simp [intOf]; omega
                      case rel => exact ⟨j + 1, by go_num, HJT.out, Lib.hid (by rw [HL2.out]; exact HS9.out)⟩
                  · have HEQ := Lib.hid (show errOn (normsE L) t.nam = er from (errOn_er (by rw [HER.out]; exact her0)).trans HER.out)
                    have t1 : (er == 0) = false := by simpa using her0
                    have t2 : (er != 0) = true := by simpa using her0
                    have HNZ := Lib.hid her0
                    clear her0
                    go_wp2_with fail
                    refine (norm_ref t.nam _).mono ?_
                    rintro e w2 ⟨he, hb2⟩
                    rw [HER.out, show (nrm t.nam).1 = x from HX.out] at he
                    subst he
                    have HS5 := Lib.hid (HS3.out.below hb2)
                    obtain ⟨x0, x1, x7⟩ := box_cells ((hb2.block _ (by simp)).trans HBX.out)
                    clear hb2
                    go_wp2_with fail
                    refine (at_ref ⟨er, k, t.line, 0, t.nam⟩ _).mono ?_
                    rintro e w4 ⟨rfl, hb4⟩
                    have HS4 := Lib.hid (HS5.out.below hb4)
                    have HBAD := Lib.hid (show collF ss = some ⟨er, k, t.line, 0, t.nam⟩ by have := HER2.out HS4.out.fine (by rw [HEQ.out]; exact HNZ.out); rw [HEQ.out] at this; exact this)
                    clear hb4
                    unfold Flt.val
                    obtain ⟨⟨z0, z1, z2, z3, z4, z5⟩, zf⟩ := res_cells HS4.out.res
                    have fz0 := zf 0
                    have fz1 := zf 1
                    have fz2 := zf 2
                    have fz3 := zf 3
                    have fz4 := zf 4
                    have fz5 := zf 5
                    have X0 := Lib.hid (told6 w4 w.heap.size _ _ _ _ _ _ (.int .i64 er) (.int .i64 k) (.int .i64 t.line) (.int .i64 0) (.string t.nam) (.slice none 0 0) _ HS4.out.res)
                    have XB := Lib.hid (set6_below w4 w.heap.size (.int .i64 er) (.int .i64 k) (.int .i64 t.line) (.int .i64 0) (.string t.nam) (.slice none 0 0) (B := w.heap.size) (Nat.le_refl _) HS4.out.bl)
                    clear zf
                    go_wp2_with fail
                    have X1 := X0.out
                    have X2 := XB.out
                    generalize (((((w4.setCell ⟨w.heap.size, 0, none⟩ (.int .i64 er)).setCell ⟨w.heap.size, 1, none⟩ (.int .i64 k)).setCell ⟨w.heap.size, 2, none⟩ (.int .i64 t.line)).setCell ⟨w.heap.size, 3, none⟩ (.int .i64 0)).setCell ⟨w.heap.size, 4, none⟩ (.string t.nam)).setCell ⟨w.heap.size, 5, none⟩ (.slice none 0 0) = w9 at X1 X2 ⊢
                    have y0 : w9.cell? ⟨w.heap.size, 0, none⟩ = some (.int .i64 er) := by rw [cell_of_row w9 w.heap.size _ _ _ _ X1]; rfl
                    have y1 : w9.cell? ⟨w.heap.size, 1, none⟩ = some (.int .i64 k) := by rw [cell_of_row w9 w.heap.size _ _ _ _ X1]; rfl
                    have y2 : w9.cell? ⟨w.heap.size, 2, none⟩ = some (.int .i64 t.line) := by rw [cell_of_row w9 w.heap.size _ _ _ _ X1]; rfl
                    have y3 : w9.cell? ⟨w.heap.size, 3, none⟩ = some (.int .i64 0) := by rw [cell_of_row w9 w.heap.size _ _ _ _ X1]; rfl
                    have y4 : w9.cell? ⟨w.heap.size, 4, none⟩ = some (.string t.nam) := by rw [cell_of_row w9 w.heap.size _ _ _ _ X1]; rfl
                    have y5 : w9.cell? ⟨w.heap.size, 5, none⟩ = some (.slice none 0 0) := by rw [cell_of_row w9 w.heap.size _ _ _ _ X1]; rfl
                    exact bodyPost_ret (v := .tuple #[.slice none 0 0, .agg #[.int .i64 er, .int .i64 k, .int .i64 t.line, .int .i64 0, .string t.nam, .slice none 0 0]]) (by simp [results, Tryz.f10, go_sem, y0, y1, y2, y3, y4, y5]) rfl ⟨X2, .inl ⟨⟨er, k, t.line, 0, t.nam⟩, HBAD.out, HNZ.out, rfl⟩⟩
                · obtain rfl : j = nt := by omega
                  have hlz : ¬ ((j : Int) < j) := by omega
                  clear hjt
                  go_wp2_with fail
                  go_roundw
                  case measure => have := HLT.out; simp [intOf]; omega
                  case rel => exact ⟨k + 1, by go_num, HLT.out, Lib.hid (by rw [HSUC.out]; exact HS2.out)⟩
            · obtain rfl : k = ss.length := by omega
              have hlz : ¬ ((ss.length : Int) < ss.length) := by omega
              obtain ⟨pd, cd, rfl⟩ := lenOf HS.out.own
              have HOK := Lib.hid (collF_fine HL.out HBG.out HS.out.fine)
              have HRD := Lib.hid (RdN.own HS.out.own)
              clear hlt
              obtain ⟨⟨z0, z1, z2, z3, z4, z5⟩, zf⟩ := res_cells HS.out.res
              have fz0 := zf 0
              have fz1 := zf 1
              have fz2 := zf 2
              have fz3 := zf 3
              have fz4 := zf 4
              have fz5 := zf 5
              have X0 := Lib.hid (told6 wr w.heap.size _ _ _ _ _ _ (.int .i64 0) (.int .i64 0) (.int .i64 0) (.int .i64 0) (.string ⟨#[]⟩) (.slice none 0 0) _ HS.out.res)
              have XB := Lib.hid (set6_below wr w.heap.size (.int .i64 0) (.int .i64 0) (.int .i64 0) (.int .i64 0) (.string ⟨#[]⟩) (.slice none 0 0) (B := w.heap.size) (Nat.le_refl _) HS.out.bl)
              clear zf
              have hfin : ∀ W9, W9 = (((((wr.setCell ⟨w.heap.size, 0, none⟩ (.int .i64 0)).setCell ⟨w.heap.size, 1, none⟩ (.int .i64 0)).setCell ⟨w.heap.size, 2, none⟩ (.int .i64 0)).setCell ⟨w.heap.size, 3, none⟩ (.int .i64 0)).setCell ⟨w.heap.size, 4, none⟩ (.string ⟨#[]⟩)).setCell ⟨w.heap.size, 5, none⟩ (.slice none 0 0) → RdN W9 (.slice pd (entsS ss ss.length).length cd) (entsS ss ss.length) := fun W9 e => by
                have hn : (Value.slice pd (entsS ss ss.length).length cd).ownBlock ≠ some w.heap.size := own_not HS.out.own HS.out.res (fun cur fr e => by unfold resO at e; cases e)
                exact RdN.own (own_stays HS.out.own fun c hc => by subst e; exact set6_heap _ _ _ _ _ _ _ _ (fun e2 => hn (e2 ▸ hc)))
              have HFIN := Lib.hid hfin
              clear hfin
              go_wp2_with fail
              have X1 := X0.out
              have X2 := XB.out
              generalize hw9 : (((((wr.setCell ⟨w.heap.size, 0, none⟩ (.int .i64 0)).setCell ⟨w.heap.size, 1, none⟩ (.int .i64 0)).setCell ⟨w.heap.size, 2, none⟩ (.int .i64 0)).setCell ⟨w.heap.size, 3, none⟩ (.int .i64 0)).setCell ⟨w.heap.size, 4, none⟩ (.string ⟨#[]⟩)).setCell ⟨w.heap.size, 5, none⟩ (.slice none 0 0) = w9 at X1 X2 ⊢
              have HWQ := Lib.hid hw9.symm
              clear hw9
              have y0 : w9.cell? ⟨w.heap.size, 0, none⟩ = some (.int .i64 0) := by rw [cell_of_row w9 w.heap.size _ _ _ _ X1]; rfl
              have y1 : w9.cell? ⟨w.heap.size, 1, none⟩ = some (.int .i64 0) := by rw [cell_of_row w9 w.heap.size _ _ _ _ X1]; rfl
              have y2 : w9.cell? ⟨w.heap.size, 2, none⟩ = some (.int .i64 0) := by rw [cell_of_row w9 w.heap.size _ _ _ _ X1]; rfl
              have y3 : w9.cell? ⟨w.heap.size, 3, none⟩ = some (.int .i64 0) := by rw [cell_of_row w9 w.heap.size _ _ _ _ X1]; rfl
              have y4 : w9.cell? ⟨w.heap.size, 4, none⟩ = some (.string ⟨#[]⟩) := by rw [cell_of_row w9 w.heap.size _ _ _ _ X1]; rfl
              have y5 : w9.cell? ⟨w.heap.size, 5, none⟩ = some (.slice none 0 0) := by rw [cell_of_row w9 w.heap.size _ _ _ _ X1]; rfl
              clear fz0 fz1 fz2 fz3 fz4 fz5 z0 z1 z2 z3 z4 z5
              have HRD2 := Lib.hid (HFIN.out _ HWQ.out)
              exact bodyPost_ret (v := .tuple #[.slice pd (entsS ss ss.length).length cd, .agg #[.int .i64 0, .int .i64 0, .int .i64 0, .int .i64 0, .string ⟨#[]⟩, .slice none 0 0]]) (by simp [results, Tryz.f10, go_sem, y0, y1, y2, y3, y4, y5]) rfl ⟨X2, .inr ⟨HOK.out, _, rfl, HRD2.out⟩⟩
end
end Go.Proofs.YtjgcbobalmmjkaaGreatDoor
