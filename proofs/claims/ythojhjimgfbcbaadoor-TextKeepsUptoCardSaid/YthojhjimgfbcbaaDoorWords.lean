/- Words of the document's answer for layer 2. -/
import Derived.Test.YthojhjimgfbcbaaDoorWide
import Derived.Deep.RegionLaw
import Derived.Deep.AppendLies
namespace Go.Proofs.YthojhjimgfbcbaaDoor
open Go.RowKit Go.Maps

/-- The words from place i on, one having begun at 'from'. -/
def wrds (s : ByteArray) : Nat → Nat → Nat → List (Nat × Nat)
  | 0, _, _ => []
  | fuel + 1, i, b =>
    if h : i < s.size then (if s[i] = 32 then (if b < i then [(b, i)] else []) ++ wrds s fuel (i + 1) (i + 1) else wrds s fuel (i + 1) b)
    else (if b < i then [(b, i)] else [])
def words (s : ByteArray) : List (Nat × Nat) := wrds s (s.size + 1) 0 0
def wrdV (s : ByteArray) (y : Nat × Nat) : List Value := [.string (s.extract y.1 y.2), .int .i64 y.1, .int .i64 (wide (s.extract y.1 y.2))]
def wrdsV (s : ByteArray) (l : List (Nat × Nat)) : List Value := l.flatMap (wrdV s)
theorem wrdsV_len (s : ByteArray) (l : List (Nat × Nat)) : (wrdsV s l).length = l.length * 3 := by
  induction l with
  | nil => rfl
  | cons a l ih => simp [wrdsV, wrdV] at ih ⊢; omega
theorem wrdsV_snoc (s : ByteArray) (l : List (Nat × Nat)) (y : Nat × Nat) : wrdsV s (l ++ [y]) = wrdsV s l ++ wrdV s y := by simp [wrdsV]
theorem wrdV_one (s : ByteArray) (y : Nat × Nat) : ∀ u ∈ wrdV s y, u.oneCell' = true := by
  intro u hu; simp [wrdV] at hu; rcases hu with rfl | rfl | rfl <;> rfl
theorem wrdsV_get (s : ByteArray) : ∀ (l : List (Nat × Nat)) (i : Nat) (y : Nat × Nat), l[i]? = some y →
    (wrdsV s l)[i * 3]? = some (.string (s.extract y.1 y.2)) ∧ (wrdsV s l)[i * 3 + 1]? = some (.int .i64 y.1) ∧ (wrdsV s l)[i * 3 + 2]? = some (.int .i64 (wide (s.extract y.1 y.2)))
  | [], i, y, h => by simp at h
  | a :: l, 0, y, h => by simp at h; subst h; simp [wrdsV, wrdV]
  | a :: l, i + 1, y, h => by
    have ih := wrdsV_get s l i y (by simpa using h)
    have e : wrdsV s (a :: l) = wrdV s a ++ wrdsV s l := by simp [wrdsV]
    have hl : (wrdV s a).length = 3 := rfl
    rw [e, List.getElem?_append_right (by omega), List.getElem?_append_right (by omega), List.getElem?_append_right (by omega), hl, show (i + 1) * 3 - 3 = i * 3 by omega, show (i + 1) * 3 + 1 - 3 = i * 3 + 1 by omega, show (i + 1) * 3 + 2 - 3 = i * 3 + 2 by omega]
    exact ih
theorem wrds_len (s : ByteArray) : ∀ (fuel i b : Nat), b ≤ i → i ≤ s.size + 1 → (wrds s fuel i b).length + b ≤ s.size + 1
  | 0, i, b, h, h2 => by simp [wrds]; omega
  | fuel + 1, i, b, h, h2 => by
    by_cases hi : i < s.size
    · by_cases hsp : s[i] = 32
      · have ih := wrds_len s fuel (i + 1) (i + 1) (by omega) (by omega)
        by_cases hb : b < i
        · simp [wrds, hi, hsp, hb]; omega
        · simp [wrds, hi, hsp, hb]; omega
      · have ih := wrds_len s fuel (i + 1) b (by omega) (by omega)
        simp [wrds, hi, hsp]; omega
    · by_cases hb : b < i
      · simp [wrds, hi, hb]; omega
      · simp [wrds, hi, hb]; omega
theorem words_len (s : ByteArray) : (words s).length ≤ s.size + 1 := wrds_len s _ 0 0 (by omega) (by omega)
theorem infoWord : (Tryd.prog.info? 43).map (fun i => (i.zero, i.size, i.bytes)) = some (some (.agg #[.string .empty, .int .i64 0, .int .i64 0]), 3, 32) := by kernel_rfl
/-- What Words answers: a new list that holds the text's words. -/
def IsWords (s : ByteArray) (w : World) (e : Ending) (w' : World) : Prop :=
  ∃ v : Value, e = .returned v ∧ w'.ownsRow w.heap.size 43 3 v (words s).length (wrdsV s (words s)) ∧ Below w.heap.size w w'

theorem wrds_part {s : ByteArray} {k : Nat} (h : k = s.size ∨ ∃ h : k < s.size, s[k] = 32) (f d : Nat) (hf : k = s.size → f = 0) : wrds s (f + 1) k d = (if d < k then [(d, k)] else []) ++ wrds s f (k + 1) (k + 1) := by
  rcases h with h | ⟨h, h2⟩
  · subst h
    obtain rfl : f = 0 := hf rfl
    simp [wrds]
  · simp [wrds, h, h2]
theorem wrds_more {s : ByteArray} {k : Nat} (h : k < s.size) (h2 : ¬ s[k] = 32) (f d : Nat) : wrds s (f + 1) k d = wrds s f (k + 1) d := by
  simp [wrds, h, h2]
theorem size_after {w wr w2 : World} (hB : Below w.heap.size w wr) (hb : Below wr.drew.heap.size wr.drew w2) (o : Obj) : w.heap.size ≤ (w2.alloc o).heap.size := by
  have h1 := hb.size
  have h2 := hB.size
  have h3 : wr.drew.heap.size = wr.heap.size := rfl
  simp
  omega
theorem rel_word {s : ByteArray} {w wr w2 w3 : World} {u v' : Value} {k d f : Nat} {acc : List (Nat × Nat)} {o : Obj} {x : Int} (hd : d < k) (hk : k ≤ s.size) (hf : k + (f + 1) = s.size + 1) (hal : acc.length ≤ d)
    (hq : (acc ++ [(d, k)]) ++ wrds s f (k + 1) (k + 1) = words s) (ho : wr.ownsRow w.heap.size 43 3 u acc.length (wrdsV s acc)) (hB : Below w.heap.size w wr) (hb : Below wr.drew.heap.size wr.drew w2)
    (hown : w3.ownsRow w.heap.size 43 3 v' (acc.length + 1) (wrdsV s acc ++ wrdV s (d, k))) (hg : (w2.alloc o).grownBy w3 u.ownBlock) (hx : x = (k : Int) + 1) :
    ∃ (k' d' fuel : Nat) (acc' : List (Nat × Nat)), Value.int .i64 x = .int .i64 k' ∧ Value.int .i64 x = .int .i64 d' ∧ d' ≤ k' ∧ k' ≤ s.size + 1 ∧ (k' = s.size + 1 → d' = k') ∧ k' + fuel = s.size + 1 ∧ acc'.length ≤ d' ∧ acc' ++ wrds s fuel k' d' = words s ∧
      w3.ownsRow w.heap.size 43 3 v' acc'.length (wrdsV s acc') ∧ Below w.heap.size w w3 := by
  subst hx
  refine ⟨k + 1, k + 1, f, acc ++ [(d, k)], by simp, by simp, Nat.le_refl _, by omega, fun _ => rfl, by omega, by simp; omega, hq, ?_, ?_⟩
  · rw [wrdsV_snoc, List.length_append]; exact hown
  · have h2 : Below w.heap.size w w2 := (below_drewN hB 1).trans (hb.mono hB.size)
    exact (h2.alloc h2.size o).grown hg (by have := h2.size; simp; omega) (fun j hj => (ho.lt j hj).1)

set_option maxRecDepth 100000 in
set_option maxHeartbeats 1000000 in
theorem words_ref (s : ByteArray) (w : World) (hs : s.size ≤ 16777216) :
    Calls Tryd.prog 29 #[.string s] w (IsWords s w) := by
  obtain ⟨i0, hi, hz0, hz1, hz2⟩ := info_parts infoWord
  go_enter Tryd.func29, Tryd.ntmps29
  go_wp2_with fail
  go_loopw [3, 4, 5] (fun u b i wr => ∃ (k d fuel : Nat) (acc : List (Nat × Nat)), i = .int .i64 k ∧ b = .int .i64 d ∧ d ≤ k ∧ k ≤ s.size + 1 ∧ (k = s.size + 1 → d = k) ∧ k + fuel = s.size + 1 ∧ acc.length ≤ d ∧ acc ++ wrds s fuel k d = words s ∧ wr.ownsRow w.heap.size 43 3 u acc.length (wrdsV s acc) ∧ Below w.heap.size w wr) (fun _ _ i _ => s.size + 1 - (intOf i).toNat)
  case atStart => exact ⟨0, 0, s.size + 1, [], rfl, rfl, by omega, by omega, by omega, by omega, by simp, rfl, World.ownsRow_nil _ _ _ _, Below.refl _ _⟩
  case round =>
    obtain ⟨k, d, fuel, acc, rfl, rfl, hdk, hk, hkd, hf, hal, hacc, hown, hbw⟩ := hrel
    have HA := Lib.hid hacc
    have HW := Lib.hid hown
    have HB := Lib.hid hbw
    clear hacc hown hbw
    by_cases hle : k ≤ s.size
    · obtain ⟨f, rfl⟩ : ∃ f, fuel = f + 1 := ⟨fuel - 1, by omega⟩
      have HF := Lib.hid hf
      have HK := Lib.hid hkd
      clear hkd hf
      by_cases hwd : ∃ h : k < s.size, ¬ s[k] = 32
      · obtain ⟨hlt, hsp⟩ := hwd
        have HN := Lib.hid (HA.out.symm.trans (congrArg (acc ++ ·) (wrds_more hlt hsp f d)))
        have hsp2 : ¬ ((s[k].toNat : Int) = 32) := by intro h; exact hsp (UInt8.toNat_inj.1 (by simpa using (by omega : s[k].toNat = 32)))
        clear hsp
        go_wp2_with fail
        go_roundw
        case rel => exact ⟨k + 1, d, f, acc, by go_num, rfl, by omega, by omega, fun h => absurd h (by omega), by have := HF.out; omega, hal, HN.out.symm, HW.out, HB.out⟩
        case measure => simp [intOf]; omega
      · have hpart : k = s.size ∨ ∃ h : k < s.size, s[k] = 32 := by
          rcases Nat.lt_or_ge k s.size with h | h
          · exact .inr ⟨h, Classical.byContradiction fun h2 => hwd ⟨h, h2⟩⟩
          · exact .inl (by omega)
        have HP := Lib.hid (HA.out.symm.trans (congrArg (acc ++ ·) (wrds_part hpart f d (by intro h; have := HF.out; omega))))
        clear hwd
        by_cases hd : d < k
        · have HQ := Lib.hid (show (acc ++ [(d, k)]) ++ wrds s f (k + 1) (k + 1) = words s by have := HP.out; rw [if_pos hd] at this; simpa using this.symm)
          have hsz : (s.extract d k).size ≤ 16777216 := by rw [ByteArray.size_extract]; omega
          have HZ := Lib.hid hsz
          have B1 := Lib.hid (show acc.length + 1 ≤ maxLen by unfold maxLen; omega)
          have B2 := Lib.hid (show (acc.length + 1) * 32 ≤ 140737488355328 by omega)
          clear hsz
          rcases hpart with rfl | ⟨hlt, hsp⟩
          all_goals
            go_wp2_with fail
            go_region_law (first
              | (go_simp; go_at_call 27; refine (wide_ref _ _ HZ.out).mono ?_; rintro e w2 ⟨rfl, hb⟩; have hb2 := Lib.hid hb; have ho2 := Lib.hid (own_below (show wr.drew.ownsRow _ _ _ _ _ _ from HW.out) hb); clear hb)
              | (refine step_append_lies _ rfl (.tmp 25) (.tmp 37) 40 rfl w.heap.size 43 i0 (.agg #[.string .empty, .int .i64 0, .int .i64 0]) 3 32 Tryd.underlying40 hi hz0 hz1 hz2 rfl (by decide) u3 acc.length (wrdsV s acc) (by simp [Act.eval]) (ho2.out.alloc _) ⟨w2.heap.size, 0, none⟩ 1 1 (wrdV s (d, _)) (by simp [Act.eval]) rfl (cells_new _ _ _) (wrdV_one s _) (by decide) B1.out B2.out (size_after HB.out hb2.out _) _ rfl ?_; intro g cap w3 hown' hgrow _ _; have HO' := Lib.hid hown'; have HG' := Lib.hid hgrow; clear hown' hgrow))
            go_wp2_with fail
            go_roundw
          all_goals first | exact rel_word hd hle HF.out hal HQ.out HW.out HB.out hb2.out HO'.out HG'.out rfl | (simp [intOf]; done) | (simp [intOf]; omega)
        · have HQ := Lib.hid (show acc ++ wrds s f (k + 1) (k + 1) = words s by have := HP.out; rw [if_neg hd] at this; simpa using this.symm)
          rcases hpart with rfl | ⟨hlt, hsp⟩
          all_goals
            go_wp2_with fail
            go_roundw
          all_goals first | exact ⟨_, _, f, acc, by go_num, by go_num, by omega, by omega, fun _ => rfl, by have := HF.out; omega, by omega, HQ.out, HW.out, HB.out⟩ | (simp [intOf]; done) | (simp [intOf]; omega)
    · obtain rfl : k = s.size + 1 := by omega
      obtain rfl : fuel = 0 := by omega
      have HF := Lib.hid (show acc = words s by have := HA.out; simpa [wrds] using this)
      clear hf hkd
      go_wp2_with fail
      go_ret
      exact ⟨_, rfl, HF.out ▸ HW.out, HB.out⟩
end Go.Proofs.YthojhjimgfbcbaaDoor
