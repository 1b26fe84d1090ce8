/- Layer 12: numbers and columns in memory; the program's narrow. -/
import Derived.Test.YtadecjjbpoaooaaUr
import Derived.Test.YtadecjjbpoaooaaUd
namespace Go.Proofs.Ytadecjjbpoaooaa.Tb
open Go.RowKit Go.Maps
set_option linter.unusedVariables false
set_option linter.unusedSimpArgs false
def numsZ (zs : List Int) : List Value := zs.map (Value.int .i64)
theorem numsZ_len (xs : List Int) : (numsZ xs).length = xs.length := by simp [numsZ]
theorem numsZ_app (a b : List Int) : numsZ (a ++ b) = numsZ a ++ numsZ b := by simp [numsZ]
theorem numsZ_one (a : List Int) : ∀ u ∈ numsZ a, u.oneCell' = true := by
  intro u hu
  obtain ⟨x, _, rfl⟩ := List.mem_map.1 hu
  rfl
theorem numsZ_set (l : List Int) (i : Nat) (v : Int) : (numsZ l).set i (.int .i64 v) = numsZ (l.set i v) := by simp [numsZ, List.map_set]
/-- A list of numbers in memory, in blocks that P holds of. -/
def RdZ (P : Nat → Prop) (w : World) (v : Value) (zs : List Int) : Prop :=
  ∃ (pa : Option Addr) (cap : Nat), v = .slice pa zs.length cap ∧ zs.length ≤ cap ∧ cap ≤ maxLen ∧ ∀ j (hj : j < zs.length), ∃ b off, pa = some ⟨b, off, none⟩ ∧ P b ∧ w.cell? ⟨b, off + j, none⟩ = some (.int .i64 zs[j])
section
variable {P Q : Nat → Prop} {w w' : World} {v : Value} {zs : List Int}
theorem RdZ.keep (h : RdZ P w v zs) (hk : ∀ a : Addr, P a.block → a.block < w.heap.size → w'.cell? a = w.cell? a) : RdZ P w' v zs := by
  obtain ⟨pa, cap, e, h1, h2, h4⟩ := h
  refine ⟨pa, cap, e, h1, h2, fun j hj => ?_⟩
  obtain ⟨b, off, e, hp, hc⟩ := h4 j hj
  exact ⟨b, off, e, hp, (hk ⟨b, off + j, none⟩ hp (cellInL hc)).trans hc⟩
theorem RdZ.below (h : RdZ P w v zs) (hb : Below w.heap.size w w') : RdZ P w' v zs := h.keep fun _ _ ha => hb.cell ha
theorem RdZ.imp (h : RdZ P w v zs) (hq : ∀ b, b < w.heap.size → P b → Q b) : RdZ Q w v zs := by
  obtain ⟨pa, cap, e, h1, h2, h4⟩ := h
  refine ⟨pa, cap, e, h1, h2, fun j hj => ?_⟩
  obtain ⟨b, off, e, hp, hc⟩ := h4 j hj
  exact ⟨b, off, e, hq b (cellInL hc) hp, hc⟩
theorem RdZ.form (h : RdZ P w v zs) : ∃ (pa : Option Addr) (cap : Nat), v = .slice pa zs.length cap ∧ zs.length ≤ cap ∧ cap ≤ maxLen := by
  obtain ⟨pa, cap, e, h1, h2, _⟩ := h
  exact ⟨pa, cap, e, h1, h2⟩
theorem RdZ.cell {pa : Option Addr} {n cap : Nat} (h : RdZ P w (.slice pa n cap) zs) {j : Nat} (hj : j < zs.length) : ∃ b off, pa = some ⟨b, off, none⟩ ∧ w.cell? ⟨b, off + j, none⟩ = some (.int .i64 zs[j]) := by
  obtain ⟨pa', cap', e, _, _, h4⟩ := h
  cases e
  obtain ⟨b, off, e, _, hc⟩ := h4 j hj
  exact ⟨b, off, e, hc⟩
theorem RdZ.own {base n : Nat} (h : w.ownsRow base 3 1 v n (numsZ zs)) (hn : n = zs.length) : RdZ (base ≤ ·) w v zs := by
  subst hn
  rcases h.2 with ⟨rfl, h0⟩ | ⟨g, cap, cur, rfl, hb, hg, h1, h2, h3, h4⟩
  · have : zs = [] := List.eq_nil_of_length_eq_zero h0
    subst this
    exact ⟨none, 0, rfl, Nat.le_refl _, Nat.zero_le _, fun i hi => absurd hi (by simp)⟩
  · refine ⟨_, cap, rfl, h1, h2, fun j hj => ⟨g, 0, rfl, hb, ?_⟩⟩
    rw [Nat.zero_add]
    have := World.ownsRow.cellAt h j (by omega)
    rw [this]
    simp [numsZ, hj]
end
theorem sliceZ {P : Nat → Prop} {w : World} {v : Value} {l : List Int} (h : RdZ P w v l) : ∃ (pa : Option Addr) (cap : Nat), v = .slice pa l.length cap ∧ l.length ≤ cap ∧ cap ≤ 9223372036854775807 := by
  obtain ⟨pa, cap, e, h1, h2⟩ := h.form
  exact ⟨pa, cap, e, h1, by unfold maxLen at h2; omega⟩
/-- Columns in memory. -/
def colRow (c : Int × Int) : List Value := [.int .i64 c.1, .int .i64 c.2]
def rowsC (l : List (Int × Int)) : List Value := l.flatMap colRow
theorem rowsC_len : ∀ l : List (Int × Int), (rowsC l).length = l.length * 2
  | [] => rfl
  | r :: l => by
    have := rowsC_len l
    unfold rowsC at this ⊢
    rw [List.flatMap_cons, List.length_append, this, List.length_cons]
    simp [colRow]
    omega
theorem rowsC_at : ∀ (l : List (Int × Int)) (j k : Nat) (hj : j < l.length), k < 2 → (rowsC l)[j * 2 + k]? = (colRow l[j])[k]?
  | [], j, k, hj, _ => absurd hj (by simp)
  | r :: l, 0, k, _, hk => by
    unfold rowsC
    rw [List.flatMap_cons, Nat.zero_mul, Nat.zero_add, List.getElem?_append_left (by simp [colRow]; exact hk)]
    rfl
  | r :: l, j + 1, k, hj, hk => by
    have h := rowsC_at l j k (by simpa using hj) hk
    unfold rowsC at h ⊢
    rw [List.flatMap_cons, List.getElem?_append_right (by simp [colRow]; omega), show (colRow r).length = 2 from rfl, show (j + 1) * 2 + k - 2 = j * 2 + k by omega, h]
    simp
theorem rowsC_snoc (l : List (Int × Int)) (r : Int × Int) : rowsC (l ++ [r]) = rowsC l ++ colRow r := by simp [rowsC]
theorem rowsC_one (l : List (Int × Int)) : ∀ u ∈ rowsC l, u.oneCell' = true := by
  intro u hu
  obtain ⟨r, _, hr⟩ := List.mem_flatMap.1 hu
  simp only [colRow, List.mem_cons, List.not_mem_nil, or_false] at hr
  rcases hr with rfl | rfl <;> rfl
def RdC (P : Nat → Prop) (w : World) (v : Value) (cs : List (Int × Int)) : Prop :=
  ∃ (pa : Option Addr) (cap : Nat), v = .slice pa cs.length cap ∧ cs.length ≤ cap ∧ cap ≤ maxLen ∧ ∀ j (hj : j < cs.length), ∃ b off, pa = some ⟨b, off, none⟩ ∧ P b ∧ w.cell? ⟨b, off + j * 2, none⟩ = some (.int .i64 cs[j].1) ∧ w.cell? ⟨b, off + j * 2 + 1, none⟩ = some (.int .i64 cs[j].2)
section
variable {P Q : Nat → Prop} {w w' : World} {v : Value} {cs : List (Int × Int)}
theorem RdC.keep (h : RdC P w v cs) (hk : ∀ a : Addr, P a.block → a.block < w.heap.size → w'.cell? a = w.cell? a) : RdC P w' v cs := by
  obtain ⟨pa, cap, e, h1, h2, h4⟩ := h
  refine ⟨pa, cap, e, h1, h2, fun j hj => ?_⟩
  obtain ⟨b, off, e, hp, hc, hd⟩ := h4 j hj
  exact ⟨b, off, e, hp, (hk ⟨b, off + j * 2, none⟩ hp (cellInL hc)).trans hc, (hk ⟨b, off + j * 2 + 1, none⟩ hp (cellInL hd)).trans hd⟩
theorem RdC.below (h : RdC P w v cs) (hb : Below w.heap.size w w') : RdC P w' v cs := h.keep fun _ _ ha => hb.cell ha
theorem RdC.imp (h : RdC P w v cs) (hq : ∀ b, b < w.heap.size → P b → Q b) : RdC Q w v cs := by
  obtain ⟨pa, cap, e, h1, h2, h4⟩ := h
  refine ⟨pa, cap, e, h1, h2, fun j hj => ?_⟩
  obtain ⟨b, off, e, hp, hc⟩ := h4 j hj
  exact ⟨b, off, e, hq b (cellInL hc.1) hp, hc⟩
theorem sliceC (h : RdC P w v cs) : ∃ (pa : Option Addr) (cap : Nat), v = .slice pa cs.length cap ∧ cs.length ≤ cap ∧ cap ≤ 9223372036854775807 := by
  obtain ⟨pa, cap, e, h1, h2, _⟩ := h
  exact ⟨pa, cap, e, h1, by unfold maxLen at h2; omega⟩
theorem RdC.cell {pa : Option Addr} {n cap : Nat} (h : RdC P w (.slice pa n cap) cs) {j : Nat} (hj : j < cs.length) : ∃ b off, pa = some ⟨b, off, none⟩ ∧ P b ∧ w.cell? ⟨b, off + j * 2, none⟩ = some (.int .i64 cs[j].1) ∧ w.cell? ⟨b, off + j * 2 + 1, none⟩ = some (.int .i64 cs[j].2) := by
  obtain ⟨pa', cap', e, _, _, h4⟩ := h
  cases e
  exact h4 j hj
theorem RdC.own {base n : Nat} (h : w.ownsRow base 53 2 v n (rowsC cs)) (hn : n = cs.length) : RdC (base ≤ ·) w v cs := by
  subst hn
  rcases h.2 with ⟨rfl, h0⟩ | ⟨g, cap, cur, rfl, hb, hg, h1, h2, h3, h4⟩
  · have : cs = [] := List.eq_nil_of_length_eq_zero h0
    subst this
    exact ⟨none, 0, rfl, Nat.le_refl _, Nat.zero_le _, fun i hi => absurd hi (by simp)⟩
  · refine ⟨_, cap, rfl, h1, h2, fun j hj => ⟨g, 0, rfl, hb, ?_, ?_⟩⟩
    · have := World.ownsRow.cellAt h (j * 2 + 0) (by omega)
      rw [rowsC_at cs j 0 hj (by omega)] at this
      rw [Nat.zero_add]
      exact this
    · have := World.ownsRow.cellAt h (j * 2 + 1) (by omega)
      rw [rowsC_at cs j 1 hj (by omega)] at this
      rw [Nat.zero_add]
      exact this
end
theorem narrowN_bd {lo hi : Int} : ∀ (n : Nat) (l : List Int) (d : Nat), (∀ x ∈ l, lo - d ≤ x ∧ x ≤ hi) → ∀ x ∈ narrowN n l, lo - (d + n : Nat) ≤ x ∧ x ≤ hi
  | 0, l, d, h => h
  | n + 1, l, d, h => by
    have h1 : ∀ x ∈ narrow1 l, lo - (d + 1 : Nat) ≤ x ∧ x ≤ hi := fun x hx => by
      unfold narrow1 at hx
      rcases Nat.eq_zero_or_pos l.length with h0 | h0
      · rw [List.eq_nil_of_length_eq_zero h0] at hx
        simp at hx
      · have hw := widF_lt l l.length h0 (Nat.le_refl _)
        rcases List.mem_or_eq_of_mem_set hx with hx | hx
        · have := h x hx; omega
        · rw [List.getD_eq_getElem?_getD, List.getElem?_eq_getElem hw] at hx
          simp only [Option.getD_some] at hx
          have := h _ (List.getElem_mem hw)
          omega
    have := narrowN_bd n (narrow1 l) (d + 1) h1
    intro x hx
    have h2 := this x hx
    omega
theorem own_at {W : World} {B n : Nat} {v : Value} {l : List Int} (h : W.ownsRow B 3 1 v n (numsZ l)) (hn : n = l.length) (h0 : 0 < n) : ∃ g cap, v = .slice (some ⟨g, 0, none⟩) n cap ∧ B ≤ g ∧ g < W.heap.size ∧ n ≤ cap ∧ (∀ j, W.frozen? ⟨g, j, none⟩ = false) ∧ ∀ j, j < n → W.cell? ⟨g, j, none⟩ = some (.int .i64 (l.getD j 0)) := by
  rcases h.2 with ⟨rfl, h1⟩ | ⟨g, cap, cur, rfl, hb, hg, h1, h2, h3, h4⟩
  · omega
  · refine ⟨g, cap, rfl, hb, (Array.getElem?_eq_some_iff.1 hg).1, h1, fun j => World.ownsRow.frozenAt h _, fun j hj => ?_⟩
    rw [World.ownsRow.cellAt h j (by omega)]
    simp [numsZ, List.getD_eq_getElem?_getD, show j < l.length by omega]
def RowP (B n : Nat) (v : Value) (l : List Int) (w : World) (e : Ending) (w' : World) : Prop := e = .returned (.tuple #[]) ∧ w'.ownsRow B 3 1 v n (numsZ l) ∧ Below B w w'
set_option maxRecDepth 100000 in
set_option maxHeartbeats 2000000 in
theorem narrow_pro {B : Nat} (l : List Int) (v : Value) (cells : Nat) (w : World) (h : w.ownsRow B 3 1 v l.length (numsZ l)) (h0 : 0 < l.length) (hc : cells ≤ 1000000) (hl : ∀ x ∈ l, -1000000 ≤ x ∧ x ≤ 1000000) :
    Calls Try.prog 36 #[v, .int .i64 cells] w (RowP B l.length v (narrowN cells l) w) := by
  obtain ⟨g, cap, rfl, hB, hg, hcap, _, _⟩ := own_at h rfl h0
  have HO := Lib.hid h
  have HLB := Lib.hid hl
  obtain ⟨n, hn⟩ : ∃ n, l.length = n := ⟨_, rfl⟩
  have HN := Lib.hid hn
  rw [hn] at HO h0 ⊢
  have n62 : n ≤ 9223372036854775807 := by
    have h1 := HO.out.2
    rcases h1 with ⟨e, _⟩ | ⟨_, cap', _, e, _, _, h2, h3, _⟩
    · cases e
    · cases e; unfold maxLen at h3; omega
  clear h hl hn hg hcap
  go_enter Try.func36, Try.ntmps36
  go_wp2_with fail
  go_loopw [8] (fun i wr => ∃ k : Nat, i = .int .i64 k ∧ k ≤ cells ∧ Hid (wr.ownsRow B 3 1 (.slice (some ⟨g, 0, none⟩) n cap) n (numsZ (narrowN k l))) ∧ Hid (Below B w wr)) (fun i _ => cells - (intOf i).toNat)
  case atStart => exact ⟨0, rfl, Nat.zero_le _, HO, Lib.hid (Below.refl _ _)⟩
  case round =>
    obtain ⟨wo, rfl⟩ : ∃ wo : World, wo = wr := ⟨_, rfl⟩
    obtain ⟨k, rfl, hk, HOk, HB⟩ := hrel
    by_cases hlt : k < cells
    · have k1 : (k : Int) < cells := by omega
      have HLT := Lib.hid hlt
      obtain ⟨z, hz⟩ : ∃ z, narrowN k l = z := ⟨_, rfl⟩
      have hzl : z.length = n := by rw [← hz, narrowN_len]; exact HN.out
      have HZ := Lib.hid hz
      have hbd : ∀ x ∈ z, -2000000 ≤ x ∧ x ≤ 1000000 := fun x hx => by
        have := narrowN_bd (lo := -1000000) (hi := 1000000) k l 0 (fun x hx => by have := HLB.out x hx; omega) x (by rw [hz]; exact hx)
        omega
      rw [hz] at HOk
      have HZL := Lib.hid hzl
      have HBD := Lib.hid hbd
      clear hz hzl hbd hlt
      go_wp2_with fail
      go_loop [4, 12] (fun a i => ∃ m : Nat, i = .int .i64 m ∧ m ≤ n ∧ a = .int .i64 (widF z m : Nat)) (fun _ i => n - (intOf i).toNat)
      case atStart => exact ⟨0, rfl, Nat.zero_le _, rfl⟩
      case round =>
        obtain ⟨m, rfl, hm, rfl⟩ := hrel
        obtain ⟨g', cap', e, _, _, _, hfz, hcl⟩ := own_at HOk.out HZL.out.symm h0
        cases e
        have hwl := widF_lt z m (by rw [HZL.out]; exact h0) (by rw [HZL.out]; exact hm)
        rw [HZL.out] at hwl
        obtain ⟨a, ha⟩ : ∃ a, widF z m = a := ⟨_, rfl⟩
        rw [ha] at hwl ⊢
        by_cases hlt : m < n
        · have m1 : (m : Int) < n := by omega
          have a1 : (a : Int) < n := by omega
          have c1 := hcl m hlt
          have c2 := hcl a hwl
          have HLM := Lib.hid hlt
          have HWS := Lib.hid (show widF z (m + 1) = if z.getD a 0 ≤ z.getD m 0 then m else a by unfold widF; rw [ha])
          obtain ⟨x, hx⟩ : ∃ x, z.getD m 0 = x := ⟨_, rfl⟩
          obtain ⟨y, hy⟩ : ∃ y, z.getD a 0 = y := ⟨_, rfl⟩
          rw [hx] at c1 HWS
          rw [hy] at c2 HWS
          clear hfz hcl hlt hx hy ha
          by_cases hle : y ≤ x
          · have HW2 := Lib.hid (show widF z (m + 1) = m by rw [HWS.out, if_pos hle])
            go_wp2_with fail
            go_round
            case measure => have := HLM.out; simp [intOf]; omega
            case rel => exact ⟨m + 1, by go_num, HLM.out, by rw [HW2.out]⟩
          · have HW2 := Lib.hid (show widF z (m + 1) = a by rw [HWS.out, if_neg hle])
            go_wp2_with fail
            go_round
            case measure => have := HLM.out; simp [intOf]; omega
            case rel => exact ⟨m + 1, by go_num, HLM.out, by rw [HW2.out]⟩
        · obtain rfl : m = n := by omega
          have hzk : ¬ (m : Int) < m := by omega
          have a1 : (a : Int) < m := by omega
          have c2 := hcl a hwl
          have f2 := hfz a
          have HNX := Lib.hid (show narrowN (k + 1) l = z.set a (z.getD a 0 - 1) by rw [narrowN_snoc, HZ.out]; unfold narrow1; rw [HZL.out, ha])
          have hyb := HBD.out (z.getD a 0) (by rw [List.getD_eq_getElem?_getD, List.getElem?_eq_getElem (by rw [HZL.out]; exact hwl)]; exact List.getElem_mem _)
          have hst := (HOk.out.stored a (.int .i64 (z.getD a 0 - 1))).1
          have HST := Lib.hid (show (wo.setCell ⟨g, a, none⟩ (.int .i64 (z.getD a 0 - 1))).ownsRow B 3 1 (.slice (some ⟨g, 0, none⟩) m cap) m (numsZ (z.set a (z.getD a 0 - 1))) from by rw [← numsZ_set]; exact hst)
          have HBS := Lib.hid (HB.out.setCell (p := ⟨g, a, none⟩) hB (.int .i64 (z.getD a 0 - 1)))
          obtain ⟨y, hy⟩ : ∃ y, z.getD a 0 = y := ⟨_, rfl⟩
          rw [hy] at c2 HNX hyb HST HBS
          have y1 := hyb.1
          have y2 := hyb.2
          clear hst hfz hcl hlt hy ha hyb
          go_wp2_with fail
          go_roundw
          case measure => have := HLT.out; simp [intOf]; omega
          case rel => exact ⟨k + 1, by go_num, HLT.out, by rw [HNX.out]; exact HST, HBS⟩
    · obtain rfl : k = cells := by omega
      have hzk : ¬ (k : Int) < k := by omega
      clear hlt
      go_wp2_with fail
      go_end0
      exact ⟨rfl, HOk.out, HB.out⟩
end Go.Proofs.Ytadecjjbpoaooaa.Tb
