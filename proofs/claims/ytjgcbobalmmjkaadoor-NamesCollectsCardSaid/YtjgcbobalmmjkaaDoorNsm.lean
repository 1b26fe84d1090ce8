/- Sources in memory, as layer 7 reads them; how many topics they have. -/
import Derived.Test.YtjgcbobalmmjkaaDoorNfl
namespace Go.Proofs.YtjgcbobalmmjkaaDoor
open Go.RowKit Go.Maps
set_option linter.unusedVariables false

/-- A topic: what layer 7 reads of it, and what else lies in its row. -/
structure Tpc where
  kind : Int
  nam : ByteArray
  title : ByteArray
  level : Int
  kp : Option Addr
  kn : Nat
  kc : Nat
  sp : Option Addr
  sn : Nat
  sc : Nat
  bp : Option Addr
  bn : Nat
  bc : Nat
  line : Int
def tpcRow (t : Tpc) : List Value := [.int .i64 t.kind, .string t.nam, .string t.title, .int .i64 t.level, .slice t.kp t.kn t.kc, .slice t.sp t.sn t.sc, .slice t.bp t.bn t.bc, .int .i64 t.line]
/-- A source: its styles, its list of topics, the topics. -/
structure Srm where
  st : Value
  tv : Value
  ts : List Tpc
def RdTp (W : World) (v : Value) (ts : List Tpc) : Prop :=
  ∃ (pa : Option Addr) (cap : Nat), v = .slice pa ts.length cap ∧ ∀ j (hj : j < ts.length), ∃ b off, pa = some ⟨b, off, none⟩ ∧ ∀ k u, (tpcRow ts[j])[k]? = some u → W.cell? ⟨b, off + j * 8 + k, none⟩ = some u
theorem RdTp.below {W W' : World} {v : Value} {ts : List Tpc} (h : RdTp W v ts) (hb : Below W.heap.size W W') : RdTp W' v ts := by
  obtain ⟨pa, cap, e, h4⟩ := h
  refine ⟨pa, cap, e, fun j hj => ?_⟩
  obtain ⟨b, off, e, hc⟩ := h4 j hj
  exact ⟨b, off, e, fun k u hu => (hb.cell (p := ⟨b, off + j * 8 + k, none⟩) (cellIn (hc k u hu))).trans (hc k u hu)⟩
def RdSr (W : World) (v : Value) (ss : List Srm) : Prop :=
  ∃ (pa : Option Addr) (cap : Nat), v = .slice pa ss.length cap ∧ ∀ j (hj : j < ss.length), ∃ b off, pa = some ⟨b, off, none⟩ ∧
    (∃ sp sn sc, ss[j].st = .slice sp sn sc) ∧ W.cell? ⟨b, off + j * 2, none⟩ = some ss[j].st ∧ W.cell? ⟨b, off + j * 2 + 1, none⟩ = some ss[j].tv ∧ RdTp W ss[j].tv ss[j].ts
theorem RdSr.below {W W' : World} {v : Value} {ss : List Srm} (h : RdSr W v ss) (hb : Below W.heap.size W W') : RdSr W' v ss := by
  obtain ⟨pa, cap, e, h4⟩ := h
  refine ⟨pa, cap, e, fun j hj => ?_⟩
  obtain ⟨b, off, e, h1, c1, c2, h2⟩ := h4 j hj
  exact ⟨b, off, e, h1, (hb.cell (p := ⟨b, off + j * 2, none⟩) (cellIn c1)).trans c1, (hb.cell (p := ⟨b, off + j * 2 + 1, none⟩) (cellIn c2)).trans c2, h2.below hb⟩
theorem RdSr.form {W : World} {v : Value} {ss : List Srm} (h : RdSr W v ss) : ∃ (pa : Option Addr) (cap : Nat), v = .slice pa ss.length cap := by
  obtain ⟨pa, cap, e, _⟩ := h
  exact ⟨pa, cap, e⟩
theorem RdSr.cell {W : World} {pa : Option Addr} {n cap : Nat} {ss : List Srm} (h : RdSr W (.slice pa n cap) ss) {j : Nat} (hj : j < ss.length) : ∃ b off, pa = some ⟨b, off, none⟩ ∧
    (∃ sp sn sc, ss[j].st = .slice sp sn sc) ∧ W.cell? ⟨b, off + j * 2, none⟩ = some ss[j].st ∧ W.cell? ⟨b, off + j * 2 + 1, none⟩ = some ss[j].tv ∧ RdTp W ss[j].tv ss[j].ts := by
  obtain ⟨pa', cap', e, h4⟩ := h
  cases e
  exact h4 j hj
/-- How many topics the first so many sources have. -/
def cntT (ss : List Srm) (k : Nat) : Nat := ((ss.take k).map fun s => s.ts.length).sum
theorem cntT_succ {ss : List Srm} {k : Nat} (h : k < ss.length) : cntT ss (k + 1) = cntT ss k + ss[k].ts.length := by
  unfold cntT
  rw [List.take_succ_eq_append_getElem h, List.map_append, List.sum_append]
  simp
theorem cntT_le {ss : List Srm} {m : Nat} (h : ∀ s ∈ ss, s.ts.length ≤ m) : ∀ k, cntT ss k ≤ k * m
  | 0 => by simp [cntT]
  | k + 1 => by
    have ih := cntT_le h k
    by_cases hk : k < ss.length
    · rw [cntT_succ hk, Nat.add_mul]
      have := h ss[k] (List.getElem_mem hk)
      omega
    · have : cntT ss (k + 1) = cntT ss k := by
        unfold cntT
        rw [List.take_of_length_le (by omega), List.take_of_length_le (by omega)]
      rw [this, Nat.add_mul]
      omega

set_option maxRecDepth 100000 in
set_option maxHeartbeats 2000000 in
theorem count_pro (ss : List Srm) (v : Value) (w : World) (h : RdSr w v ss) (hl : ss.length ≤ 64) (hm : ∀ s ∈ ss, s.ts.length ≤ 140737488355328) :
    Calls Tryd.prog 18 #[v] w (Says (.int .i64 (cntT ss ss.length : Nat)) w) := by
  obtain ⟨pa, cap, rfl⟩ := h.form
  have HR := Lib.hid h
  have HM := Lib.hid hm
  have HL := Lib.hid hl
  clear h hm hl
  go_enter Tryd.func18, Tryd.ntmps18
  go_wp2_with fail
  go_loopw [8, 3] (fun i nv wr => ∃ k : Nat, i = .int .i64 k ∧ k ≤ ss.length ∧ nv = .int .i64 (cntT ss k : Nat) ∧ Below w.heap.size w wr) (fun i _ _ => ss.length - (intOf i).toNat)
  case atStart => exact ⟨0, rfl, Nat.zero_le _, rfl, Below.refl _ _⟩
  case round =>
    obtain ⟨k, rfl, hk, rfl, hB⟩ := hrel
    have HB := Lib.hid hB
    by_cases hlt : k < ss.length
    · obtain ⟨b, off, rfl, ⟨sp, sn, sc, hst⟩, c1, c2, ht⟩ := (HR.out.below hB).cell hlt
      obtain ⟨pt, ct, htv, hrest⟩ := ht
      clear hrest
      rw [hst] at c1
      rw [htv] at c2
      have hcs := cntT_succ hlt
      have h1 := cntT_le HM.out k
      have h2 := HM.out _ (List.getElem_mem hlt)
      have hl64 := HL.out
      obtain ⟨n, hn⟩ : ∃ n, ss[k].ts.length = n := ⟨_, rfl⟩
      obtain ⟨c, hc⟩ : ∃ c, cntT ss k = c := ⟨_, rfl⟩
      rw [hn] at c2 hcs h2
      rw [hc] at hcs h1 ⊢
      have h3 : c ≤ 64 * 140737488355328 := Nat.le_trans h1 (Nat.mul_le_mul_right _ (by omega))
      have v1 : IntKind.i64.wrap ((c : Int) + n) = c + n := IntWalk.i64_in _ (by omega)
      have hk1 : (k : Int) < ss.length := by omega
      have HLT := Lib.hid hlt
      have HCS := Lib.hid hcs
      have HA := Lib.hid (hB.alloc hB.size (.cells #[.slice sp sn sc, .slice pt n ct] 33))
      clear hB hst htv hn hc hcs h1 h2 h3 hlt
      go_wp2_with fail
      go_roundw
      case measure => have := HLT.out; simp [intOf]; omega
      case rel => exact ⟨k + 1, by go_num, HLT.out, by rw [HCS.out]; go_num, HA.out⟩
    · obtain rfl : k = ss.length := by omega
      have hlz : ¬ ((ss.length : Int) < ss.length) := by omega
      clear hB hlt
      go_wp2_with fail
      go_ret
      exact ⟨rfl, HB.out⟩
end Go.Proofs.YtjgcbobalmmjkaaDoor
