/- Layer 8: references and lists of numbers in memory; isTopic, mayLook. -/
import Derived.Test.YtjgcbobalmmjkaaProg
import Derived.Test.YtjgcbobalmmjkaaLkp
import Derived.WalkKit
import Derived.Lib.Hide
import Derived.IntWalk
import Derived.Lib.UnsafeStr
import Derived.Laws.OwnMore
import Derived.Deep.AppendLies
import Derived.Laws.IdiomStrings
import Derived.Below
import Derived.BigQuiet
import Derived.Deep.QuietTactic
namespace Go.Proofs.Ytjgcbobalmmjkaa
open Go.RowKit
set_option linter.unusedVariables false

def SaysL (v : Value) (w : World) (e : Ending) (w' : World) : Prop := e = .returned v ∧ Below w.heap.size w w'
theorem cellInL {w : World} {a : Addr} {v : Value} (h : w.cell? a = some v) : a.block < w.heap.size := World.block_lt_of_cell? w _ h
def rfRow (r : Rf) : List Value := [.int .i64 r.fr, .int .i64 r.to, .int .i64 r.note, .string r.nam, .int .i64 r.line, .int .i64 r.col]
/-- A list of references in memory. -/
def RdR (w : World) (v : Value) (l : List Rf) : Prop :=
  ∃ (pa : Option Addr) (cap : Nat), v = .slice pa l.length cap ∧ l.length ≤ cap ∧ cap ≤ maxLen ∧ ∀ j (hj : j < l.length), ∃ b off, pa = some ⟨b, off, none⟩ ∧ ∀ k u, (rfRow l[j])[k]? = some u → w.cell? ⟨b, off + j * 6 + k, none⟩ = some u
theorem RdR.keep {w w' : World} {v : Value} {l : List Rf} (h : RdR w v l) (hk : ∀ a : Addr, a.block < w.heap.size → w'.cell? a = w.cell? a) : RdR w' v l := by
  obtain ⟨pa, cap, e, h1, h2, h4⟩ := h
  refine ⟨pa, cap, e, h1, h2, fun j hj => ?_⟩
  obtain ⟨b, off, e, hc⟩ := h4 j hj
  exact ⟨b, off, e, fun k u hu => (hk ⟨b, off + j * 6 + k, none⟩ (cellInL (hc k u hu))).trans (hc k u hu)⟩
theorem RdR.below {w w' : World} {v : Value} {l : List Rf} (h : RdR w v l) (hb : Below w.heap.size w w') : RdR w' v l := h.keep fun _ ha => hb.cell ha
theorem RdR.below' {w w' : World} {v : Value} {l : List Rf} {B : Nat} (h : RdR w v l) (hb : Below B w w') (hB : w.heap.size ≤ B) : RdR w' v l := h.below (hb.mono hB)
theorem RdR.form {w : World} {v : Value} {l : List Rf} (h : RdR w v l) : ∃ (pa : Option Addr) (cap : Nat), v = .slice pa l.length cap ∧ l.length ≤ cap ∧ cap ≤ maxLen := by
  obtain ⟨pa, cap, e, h1, h2, _⟩ := h
  exact ⟨pa, cap, e, h1, h2⟩
theorem RdR.cell {w : World} {pa : Option Addr} {n cap : Nat} {l : List Rf} (h : RdR w (.slice pa n cap) l) {j : Nat} (hj : j < l.length) : ∃ b off, pa = some ⟨b, off, none⟩ ∧ ∀ k u, (rfRow l[j])[k]? = some u → w.cell? ⟨b, off + j * 6 + k, none⟩ = some u := by
  obtain ⟨pa', cap', e, _, _, h4⟩ := h
  cases e
  exact h4 j hj
/-- A list of numbers in memory. -/
def RdI (w : World) (v : Value) (zs : List Nat) : Prop :=
  ∃ (pa : Option Addr) (cap : Nat), v = .slice pa zs.length cap ∧ zs.length ≤ cap ∧ cap ≤ maxLen ∧ ∀ j (hj : j < zs.length), ∃ b off, pa = some ⟨b, off, none⟩ ∧ w.cell? ⟨b, off + j, none⟩ = some (.int .i64 (zs[j] : Nat))
theorem RdI.keep {w w' : World} {v : Value} {xs : List Nat} (h : RdI w v xs) (hk : ∀ a : Addr, a.block < w.heap.size → w'.cell? a = w.cell? a) : RdI w' v xs := by
  obtain ⟨pa, cap, e, h1, h2, h4⟩ := h
  refine ⟨pa, cap, e, h1, h2, fun j hj => ?_⟩
  obtain ⟨b, off, e, hc⟩ := h4 j hj
  exact ⟨b, off, e, (hk ⟨b, off + j, none⟩ (cellInL hc)).trans hc⟩
theorem RdI.below {w w' : World} {v : Value} {xs : List Nat} (h : RdI w v xs) (hb : Below w.heap.size w w') : RdI w' v xs := h.keep fun _ ha => hb.cell ha
theorem RdI.below' {w w' : World} {v : Value} {xs : List Nat} {B : Nat} (h : RdI w v xs) (hb : Below B w w') (hB : w.heap.size ≤ B) : RdI w' v xs := h.below (hb.mono hB)
theorem RdI.form {w : World} {v : Value} {xs : List Nat} (h : RdI w v xs) : ∃ (pa : Option Addr) (cap : Nat), v = .slice pa xs.length cap := by
  obtain ⟨pa, cap, e, _⟩ := h
  exact ⟨pa, cap, e⟩
theorem RdI.cell {w : World} {pa : Option Addr} {n cap : Nat} {xs : List Nat} (h : RdI w (.slice pa n cap) xs) {j : Nat} (hj : j < xs.length) : ∃ b off, pa = some ⟨b, off, none⟩ ∧ w.cell? ⟨b, off + j, none⟩ = some (.int .i64 (xs[j] : Nat)) := by
  obtain ⟨pa', cap', e, _, _, h4⟩ := h
  cases e
  exact h4 j hj
def numsV (zs : List Nat) : List Value := zs.map fun (z : Nat) => Value.int .i64 z
theorem numsV_len (xs : List Nat) : (numsV xs).length = xs.length := by simp [numsV]
theorem numsV_app (a b : List Nat) : numsV (a ++ b) = numsV a ++ numsV b := by simp [numsV]
theorem numsV_one (a : List Nat) : ∀ u ∈ numsV a, u.oneCell' = true := by
  intro u hu
  obtain ⟨x, _, rfl⟩ := List.mem_map.1 hu
  rfl
theorem numsV_ints (l : List Nat) : (intsL l).map (Value.int .i64) = numsV l := by simp [intsL, numsV]
theorem RdI.own {w : World} {base n : Nat} {v : Value} {xs : List Nat} (h : w.ownsRow base 3 1 v n (numsV xs)) (hn : n = xs.length) : RdI w v xs := by
  subst hn
  rcases h.2 with ⟨rfl, h0⟩ | ⟨g, cap, cur, rfl, hb, hg, h1, h2, h3, h4⟩
  · have : xs = [] := List.eq_nil_of_length_eq_zero h0
    subst this
    exact ⟨none, 0, rfl, Nat.le_refl _, Nat.zero_le _, fun i hi => absurd hi (by simp)⟩
  · refine ⟨_, cap, rfl, h1, h2, fun j hj => ⟨g, 0, rfl, ?_⟩⟩
    rw [Nat.zero_add]
    have := World.ownsRow.cellAt h j (by omega)
    rw [this]
    simp [numsV, hj]
theorem infoI : (Try.prog.info? 3).map (fun i => (i.zero, i.size, i.bytes)) = some (some (.int .i64 0), 1, 8) := by kernel_rfl
theorem infoR : (Try.prog.info? 45).map (fun i => (i.zero, i.size, i.bytes)) = some (some (.agg #[.int .i64 0, .int .i64 0, .int .i64 0, .string .empty, .int .i64 0, .int .i64 0]), 6, 56) := by kernel_rfl
theorem own_not {W : World} {base : Nat} {e : TypeId} {size : Nat} {v : Value} {n : Nat} {xs : List Value} (h : W.ownsRow base e size v n xs) {c : Nat} {o : Obj} (hc : W.heap[c]? = some o) (ho : ∀ cur fr, o ≠ .cells cur e fr) : v.ownBlock ≠ some c := by
  rcases h.2 with ⟨rfl, _⟩ | ⟨g, cap, cur, rfl, _, hg, _⟩
  · simp [Value.ownBlock]
  · intro e
    obtain rfl : g = c := by simpa [Value.ownBlock] using e
    rw [hg] at hc
    cases hc
    exact ho _ _ rfl
theorem own_base {W : World} {base : Nat} {e : TypeId} {size : Nat} {v : Value} {n : Nat} {xs : List Value} (h : W.ownsRow base e size v n xs) {c : Nat} (hc : v.ownBlock = some c) : base ≤ c ∧ c < W.heap.size := h.lt c hc
theorem own_stays {W W' : World} {base : Nat} {e : TypeId} {size : Nat} {v : Value} {n : Nat} {xs : List Value} (h : W.ownsRow base e size v n xs) (hk : ∀ c, v.ownBlock = some c → W'.heap[c]? = W.heap[c]?) : W'.ownsRow base e size v n xs := by
  refine ⟨h.1, ?_⟩
  rcases h.2 with h0 | ⟨g, cap, cur, h1, h2, h3, h4⟩
  · exact .inl h0
  · exact .inr ⟨g, cap, cur, h1, h2, (hk g (by rw [h1]; rfl)).trans h3, h4⟩
theorem lenL {w : World} {base : Nat} {e : TypeId} {size : Nat} {v : Value} {n : Nat} {xs : List Value} (h : w.ownsRow base e size v n xs) : ∃ (p : Option Addr) (c : Nat), v = .slice p n c := by
  rcases h.2 with ⟨rfl, h0⟩ | ⟨g, cap, cur, rfl, _⟩
  · exact ⟨none, 0, by rw [h0]⟩
  · exact ⟨_, _, rfl⟩
theorem cells_newL (w : World) (cs : Array Value) (t : TypeId) (j : Nat) (u : Value) (h : cs.toList[j]? = some u) : (w.alloc (.cells cs t)).cell? ((⟨w.heap.size, 0, none⟩ : Addr).add j) = some u := by
  rw [Addr.add_lit, Nat.zero_add, cell_of_row _ _ _ _ _ _ (heap_alloc_new w _)]
  rw [← Array.getElem?_toList]
  exact h

set_option maxRecDepth 100000 in
theorem is_topic (x n : Int) (w : World) : Calls Try.prog 31 #[.int .i64 x, .int .i64 n] w fun e w' => e = .returned (.bool (decide (0 ≤ x ∧ x < n))) ∧ w = w' := by
  by_cases h1 : 0 ≤ x
  · by_cases h2 : x < n
    · rw [show decide (0 ≤ x ∧ x < n) = true from decide_eq_true ⟨h1, h2⟩]
      go_enter Try.func31, Try.ntmps31
      go_wp2_with fail
      go_ret
      exact ⟨rfl, rfl⟩
    · rw [show decide (0 ≤ x ∧ x < n) = false from decide_eq_false (by omega)]
      have h2' : n ≤ x := by omega
      go_enter Try.func31, Try.ntmps31
      go_wp2_with fail
      go_ret
      exact ⟨rfl, rfl⟩
  · rw [show decide (0 ≤ x ∧ x < n) = false from decide_eq_false (by omega)]
    have h1' : x < 0 := by omega
    go_enter Try.func31, Try.ntmps31
    go_wp2_with fail
    go_ret
    exact ⟨rfl, rfl⟩

/-- A list of asked numbers in memory. -/
def RdZ (w : World) (v : Value) (zs : List Int) : Prop :=
  ∃ (pa : Option Addr) (cap : Nat), v = .slice pa zs.length cap ∧ ∀ j (hj : j < zs.length), ∃ b off, pa = some ⟨b, off, none⟩ ∧ w.cell? ⟨b, off + j, none⟩ = some (.int .i64 zs[j])
theorem all_take {zs : List Int} {n k : Nat} (h : k < zs.length) : (zs.take (k + 1)).all (fun x => isT x n) = ((zs.take k).all (fun x => isT x n) && isT zs[k] n) := by
  rw [List.take_succ_eq_append_getElem h, List.all_append]; simp
theorem lookE_long {len : Nat} {n : Int} {asked : List Int} (h : 65536 < len) : lookE len n asked = 2 := by unfold lookE; rw [if_pos h]
theorem lookE_range {len : Nat} {n : Int} {asked : List Int} (h : ¬ 65536 < len) (h2 : n < 0 ∨ 1000 < n) : lookE len n asked = 1 := by unfold lookE; rw [if_neg h, if_pos h2]
theorem lookE_all {len : Nat} {n : Int} {asked : List Int} (h : ¬ 65536 < len) (h2 : ¬ (n < 0 ∨ 1000 < n)) : lookE len n asked = if asked.all (fun x => isT x n.toNat) then 0 else 1 := by unfold lookE; rw [if_neg h, if_neg h2]

set_option maxRecDepth 100000 in
set_option maxHeartbeats 1000000 in
theorem look_pro (w : World) (pa : Option Addr) (len cap : Nat) (n : Int) (va : Value) (zs : List Int) (hz : RdZ w va zs) (hz2 : zs.length ≤ 2) (hl : len ≤ 140737488355328) :
    Calls Try.prog 20 #[.slice pa len cap, .int .i64 n, va] w fun e w' => e = .returned (.int .i64 (lookE len n zs)) ∧ w = w' := by
  obtain ⟨pz, cz, rfl, hc⟩ := hz
  by_cases h1 : 65536 < len
  · rw [lookE_long h1]
    have h1' : (65536 : Int) < len := by omega
    clear hc
    go_enter Try.func20, Try.ntmps20
    go_wp2_with fail
    go_ret
    exact ⟨rfl, rfl⟩
  · have h1' : ¬ (65536 : Int) < len := by omega
    by_cases h2 : n < 0
    · rw [lookE_range h1 (.inl h2)]
      clear hc h1
      go_enter Try.func20, Try.ntmps20
      go_wp2_with fail
      go_ret
      exact ⟨rfl, rfl⟩
    · by_cases h3 : 1000 < n
      · rw [lookE_range h1 (.inr h3)]
        have h2' : 0 ≤ n := by omega
        clear hc h1
        go_enter Try.func20, Try.ntmps20
        go_wp2_with fail
        go_ret
        exact ⟨rfl, rfl⟩
      · have HE := Lib.hid (lookE_all (asked := zs) h1 (show ¬ (n < 0 ∨ 1000 < n) by omega))
        have HC := Lib.hid hc
        obtain ⟨er, her⟩ : ∃ er, lookE len n zs = er := ⟨_, rfl⟩
        rw [her] at HE ⊢
        have h2' : 0 ≤ n := by omega
        have h3' : n ≤ 1000 := by omega
        obtain ⟨N, rfl⟩ : ∃ N : Nat, n = N := ⟨n.toNat, by omega⟩
        clear hc h1 h2 h3 her
        go_enter Try.func20, Try.ntmps20
        go_wp2_with fail
        go_loop [20] (fun i => ∃ k : Nat, i = .int .i64 k ∧ k ≤ zs.length ∧ Hid ((zs.take k).all (fun x => isT x N) = true)) (fun i => zs.length - (intOf i).toNat)
        case atStart => exact ⟨0, rfl, Nat.zero_le _, by show _ = _; simp⟩
        case round =>
          obtain ⟨k, rfl, hk, HA⟩ := hrel
          by_cases hlt : k < zs.length
          · obtain ⟨b, off, rfl, hcc⟩ := HC.out k hlt
            obtain ⟨x, hx⟩ : ∃ x, zs[k] = x := ⟨_, rfl⟩
            have HT := Lib.hid (all_take (n := N) hlt)
            rw [hx] at hcc HT
            have hk1 : (k : Int) < zs.length := by omega
            by_cases ht : 0 ≤ x ∧ x < N
            · have hd : decide (0 ≤ x ∧ x < (N : Int)) = true := decide_eq_true ht
              have HN := Lib.hid (show (zs.take (k + 1)).all (fun x => isT x N) = true by rw [HT.out, HA.out]; exact hd)
              have cT := is_topic x N w
              rw [hd] at cT
              have HCT := Lib.hid cT
              clear hd ht cT hx
              go_wp2_with (refine HCT.out.mono ?_; rintro e w1 ⟨rfl, rfl⟩)
              go_round
              case rel => exact ⟨k + 1, by go_num, by omega, HN⟩
              case measure => simp [intOf]; omega
            · have hd : decide (0 ≤ x ∧ x < (N : Int)) = false := decide_eq_false ht
              have HN := Lib.hid (show zs.all (fun x => isT x N) = false by
                cases e : zs.all (fun x => isT x N) with
                | false => rfl
                | true =>
                  have h5 := List.all_eq_true.1 e x (by rw [← hx]; exact List.getElem_mem _)
                  unfold isT at h5
                  rw [hd] at h5
                  cases h5)
              have cT := is_topic x N w
              rw [hd] at cT
              have HCT := Lib.hid cT
              clear hd ht cT hx
              go_wp2_with (refine HCT.out.mono ?_; rintro e w1 ⟨rfl, rfl⟩)
              go_ret
              exact ⟨by rw [HE.out]; simp [HN.out], rfl⟩
          · obtain rfl : k = zs.length := by omega
            have hlz : ¬ (zs.length : Int) < zs.length := by omega
            clear hlt
            go_wp2_with fail
            go_ret
            have h6 := HA.out
            rw [List.take_length] at h6
            exact ⟨by rw [HE.out]; simp [h6], rfl⟩
end Go.Proofs.Ytjgcbobalmmjkaa
