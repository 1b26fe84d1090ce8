/- The program's Words of layer 2. -/
import Derived.Test.YtceanagnkcejgaaGreatDoorTab
import Derived.Test.YtceanagnkcejgaaGreatDoorPwids
import Derived.Test.YtceanagnkcejgaaGreatDoorWordss
namespace Go.Proofs.YtceanagnkcejgaaGreatDoor
open Go.RowKit Go.Maps

theorem list_get (a : ByteArray) (k : Nat) (h : k < a.size) : a.data.toList[k]? = some a[k] := by
  have h' : k < a.data.size := h
  rw [List.getElem?_eq_getElem (by simpa using h')]
  rfl
theorem wrap_u8 (x : UInt8) : IntKind.i64.wrap (x.toNat : Int) = x.toNat := IntWalk.i64_in _ (by have := x.toNat_lt; omega)
theorem list_len (a : ByteArray) : a.data.toList.length = a.size := by simp
theorem wide_pro (s : ByteArray) (w : World) (hs : s.size ≤ 16777216) : Calls Tryz.prog 59 #[.string s] w (Says (.int .i64 (wide s)) w) := callsIn_wide.1 (wide_in s w hs)
/-- The longest beginning without a blank. -/
def unb (l : List UInt8) : List UInt8 := l.takeWhile fun x => !(x == 32)
theorem cut_unb : ∀ l : List UInt8, (Lib.cut l [32]).1 = unb l := by
  have key : ∀ l : List UInt8, (if 0 ≤ Lib.indexByte l 32 then l.take (Lib.indexByte l 32).toNat else l) = unb l := by
    intro l
    induction l with
    | nil => simp [Lib.indexByte, unb]
    | cons b l ih =>
      have hg := Lib.indexByte_ge l 32
      by_cases hb : b = 32
      · simp [Lib.indexByte, unb, hb]
      · have hb2 : (b == 32) = false := by simpa using hb
        by_cases h : Lib.indexByte l 32 = -1
        · rw [h] at ih
          simp only [Lib.indexByte, hb2, h, unb, List.takeWhile_cons] at ih ⊢
          simp at ih ⊢
          exact ih
        · have h0 : 0 ≤ Lib.indexByte l 32 := by omega
          rw [if_pos h0] at ih
          have h1 : (Lib.indexByte l 32 == -1) = false := by simpa using h
          simp only [Lib.indexByte, hb2, h1, unb, List.takeWhile_cons]
          simp only [Bool.false_eq_true, if_false, Bool.not_false, if_true]
          rw [if_pos (by omega), show (Lib.indexByte l 32 + 1).toNat = (Lib.indexByte l 32).toNat + 1 by omega, List.take_succ_cons, ih]
          rfl
  intro l
  rw [← key l]
  unfold Lib.cut
  rw [Lib.index_one]
  split <;> rfl
theorem unb_take (l : List UInt8) : unb l = l.take (unb l).length := by
  have h := List.takeWhile_prefix (fun x : UInt8 => !(x == 32)) (l := l)
  exact (List.prefix_iff_eq_take.1 h)
theorem unb_in : ∀ (l : List UInt8) (t : Nat), t < (unb l).length → ∃ b, l[t]? = some b ∧ ¬ b = 32
  | [], t, h => by simp [unb] at h
  | b :: l, t, h => by
    by_cases hb : b = 32
    · simp [unb, hb] at h
    · have e : unb (b :: l) = b :: unb l := by simp [unb, hb]
      rw [e] at h
      cases t with
      | zero => exact ⟨b, rfl, hb⟩
      | succ t => simpa using unb_in l t (by simpa using h)
theorem unb_end : ∀ (l : List UInt8), (unb l).length = l.length ∨ l[(unb l).length]? = some 32
  | [] => .inl rfl
  | b :: l => by
    by_cases hb : b = 32
    · right; simp [unb, hb]
    · have e : unb (b :: l) = b :: unb l := by simp [unb, hb]
      rw [e]
      rcases unb_end l with h | h
      · left; simp [h]
      · right; simpa using h
theorem unb_le (l : List UInt8) : (unb l).length ≤ l.length := by
  have := congrArg List.length (unb_take l)
  simp at this; omega
/-- How many bytes stand from a place on up to the next blank. -/
def run (s : ByteArray) (k : Nat) : Nat := (unb (s.data.toList.drop k)).length
theorem run_le (s : ByteArray) (k : Nat) (h : k ≤ s.size) : k + run s k ≤ s.size := by
  have := unb_le (s.data.toList.drop k)
  rw [List.length_drop, list_len] at this
  unfold run; omega
theorem run_within (s : ByteArray) (k t : Nat) (h1 : k ≤ t) (h2 : t < k + run s k) (h3 : t < s.size) : ¬ s[t] = 32 := by
  obtain ⟨b, hb, hn⟩ := unb_in (s.data.toList.drop k) (t - k) (by unfold run at h2; omega)
  rw [List.getElem?_drop, show k + (t - k) = t by omega, list_get s t h3] at hb
  rw [Option.some.inj hb]; exact hn
theorem run_end (s : ByteArray) (k : Nat) (h : k ≤ s.size) : k + run s k = s.size ∨ ∃ h : k + run s k < s.size, s[k + run s k] = 32 := by
  have hle := run_le s k h
  rcases unb_end (s.data.toList.drop k) with h1 | h1
  · left; rw [List.length_drop, list_len] at h1; unfold run; omega
  · right
    have hlt : k + run s k < s.size := by
      have := (List.getElem?_eq_some_iff.1 h1).1
      rw [List.length_drop, list_len] at this
      unfold run; omega
    refine ⟨hlt, ?_⟩
    rw [List.getElem?_drop] at h1
    have := list_get s _ hlt
    unfold run at this ⊢
    rw [h1] at this
    exact (Option.some.inj this).symm
theorem word_is (s : ByteArray) (k : Nat) (h : k ≤ s.size) : (ByteArray.mk (Lib.cut (s.extract k s.size).data.toList [32]).1.toArray) = s.extract k (k + run s k) := by
  have hle := run_le s k h
  have e1 : (s.extract k s.size).data.toList = s.data.toList.drop k := by
    rw [Lib.extract_data, List.take_of_length_le (by rw [List.length_drop, list_len]; exact Nat.le_refl _)]
  have e2 : (s.extract k (k + run s k)).data.toList = (s.data.toList.drop k).take (run s k) := by
    rw [Lib.extract_data]; congr 1; omega
  rw [cut_unb, e1]
  apply ByteArray.ext
  apply Array.ext'
  rw [e2]
  show unb (s.data.toList.drop k) = _
  rw [unb_take]
  rfl
theorem wrds_skip (s : ByteArray) : ∀ (n f k b : Nat), (∀ t, k ≤ t → t < k + n → ∃ h : t < s.size, ¬ s[t] = 32) → wrds s (f + n) k b = wrds s f (k + n) b
  | 0, f, k, b, _ => rfl
  | n + 1, f, k, b, h => by
    obtain ⟨h1, h2⟩ := h k (Nat.le_refl _) (by omega)
    rw [show f + (n + 1) = (f + n) + 1 by omega, wrds_more h1 h2, wrds_skip s n f (k + 1) b (fun t ht ht2 => h t (by omega) (by omega))]
    congr 1
    omega
/-- One step of the program is a word, if there is one, and the blank behind it. -/
theorem wrds_step (s : ByteArray) (k fuel : Nat) (hk : k ≤ s.size) (hf : k + fuel = s.size + 1) :
    wrds s fuel k k = (if 0 < run s k then [(k, k + run s k)] else []) ++ wrds s (s.size - (k + run s k)) (k + run s k + 1) (k + run s k + 1) := by
  have hle := run_le s k hk
  have e : fuel = (s.size - (k + run s k) + 1) + run s k := by omega
  rw [e, wrds_skip s (run s k) _ k k (fun t h1 h2 => ⟨by omega, run_within s k t h1 h2 (by omega)⟩), wrds_part (run_end s k hk) _ k (by intro h; omega)]
  by_cases h : 0 < run s k
  · rw [if_pos h, if_pos (by omega)]
  · rw [if_neg h, if_neg (by omega)]

theorem infoWrdP : (Tryz.prog.info? 78).map (fun i => (i.zero, i.size, i.bytes)) = some (some (.agg #[.string .empty, .int .i64 0, .int .i64 0]), 3, 32) := by kernel_rfl
theorem cut_pro1 (s : ByteArray) (k : Nat) (w : World) (hk : k ≤ s.size) (hs : s.size ≤ 16777216) (hT : Tabs w) :
    Calls Tryz.prog 58 #[.string (s.extract k s.size), .string ⟨#[32]⟩] w fun e w' => (∃ u v, e = .returned (.tuple #[.string (s.extract k (k + run s k)), u, v])) ∧ ∃ n, w' = w.drewN n := by
  obtain ⟨m, hm⟩ := hT.len
  refine (Tryz.strings_Cut _ _ m w (by rw [ByteArray.size_extract]; omega) hm).mono ?_
  rintro e w' ⟨rfl, n, rfl⟩
  exact ⟨⟨.string ⟨(Lib.cut (s.extract k s.size).data.toList [32]).2.1.toArray⟩, .bool (Lib.cut (s.extract k s.size).data.toList [32]).2.2, by rw [← word_is s k hk]⟩, n, rfl⟩

set_option maxRecDepth 100000 in
set_option maxHeartbeats 2000000 in
theorem words_pro (s : ByteArray) (w : World) (hs : s.size ≤ 16777216) (hT : Tabs w) :
    Calls Tryz.prog 39 #[.string s] w (RowIs 78 3 (words s).length (wrdsV s (words s)) w) := by
  obtain ⟨i0, hi, hz0, hz1, hz2⟩ := info_parts infoWrdP
  have HS := Lib.hid hs
  have HTW := Lib.hid hT
  clear hs hT
  go_enter Tryz.func39, Tryz.ntmps39
  go_wp2_with fail
  go_loopw [3, 4] (fun u i wr => ∃ (k fuel : Nat) (acc : List (Nat × Nat)), i = .int .i64 k ∧ k ≤ s.size + 1 ∧ k + fuel = s.size + 1 ∧ acc.length ≤ k ∧ acc ++ wrds s fuel k k = words s ∧ wr.ownsRow w.heap.size 78 3 u acc.length (wrdsV s acc) ∧ Below w.heap.size w wr) (fun _ i _ => s.size + 1 - (intOf i).toNat)
  case atStart => exact ⟨0, s.size + 1, [], rfl, by omega, by omega, by simp, rfl, World.ownsRow_nil _ _ _ _, Below.refl _ _⟩
  case round =>
    obtain ⟨k, fuel, acc, rfl, hk, hf, hal, hacc, hown, hbw⟩ := hrel
    by_cases hlt : k < s.size
    · rw [wrds_step s k fuel (by omega) hf] at hacc
      have hle := run_le s k (by omega)
      have HT := Lib.hid (HTW.out.below hbw (Nat.le_refl _))
      have HA := Lib.hid hacc
      have HO := Lib.hid hown
      have HB := Lib.hid hbw
      have HF := Lib.hid hf
      have hS := HS.out
      have b1 : (0 : Int) ≤ k := by omega
      have b2 : (k : Int) ≤ s.size := by omega
      have b3 : (s.size : Int) ≤ 16777216 := by omega
      have hsz : (s.extract k (k + run s k)).size = run s k := by rw [ByteArray.size_extract]; omega
      have c1 : (0 : Int) ≤ (s.extract k (k + run s k)).size := by omega
      have c2 : ((s.extract k (k + run s k)).size : Int) ≤ 16777216 := by omega
      have HZ := Lib.hid hsz
      have HL := Lib.hid hle
      have HK := Lib.hid hlt
      clear hacc hown hbw hf hS hle hlt
      by_cases h0 : 0 < run s k
      · have t1 := notEmpty (s := s.extract k (k + run s k)) (by omega)
        have B1 := Lib.hid (show acc.length + 1 ≤ maxLen by unfold maxLen; have := HS.out; omega)
        have B2 := Lib.hid (show (acc.length + 1) * 32 ≤ 140737488355328 by have := HS.out; omega)
        have HZ2 := Lib.hid (show (s.extract k (k + run s k)).size ≤ 16777216 by omega)
        have H0 := Lib.hid h0
        clear hsz h0
        go_wp2_with fail
        refine (cut_pro1 s k _ (Nat.le_of_lt HK.out) HS.out HT.out).mono ?_
        rintro e w1 ⟨⟨u, v, rfl⟩, nq, rfl⟩
        go_wp2_with fail
        refine (wide_pro _ _ HZ2.out).mono ?_
        rintro e w2 ⟨rfl, hb⟩
        have HO2 := Lib.hid (own_below (own_drewN HO.out nq) hb)
        have HB2 := Lib.hid ((below_drewN HB.out nq).trans (hb.mono HB.out.size))
        clear hb
        go_wp2_with (at_builtin; go_loud (refine wpList_append_own _ rfl _ _ 73 rfl w.heap.size 78 i0 (.agg #[.string .empty, .int .i64 0, .int .i64 0]) 3 32 Tryz.underlying73 hi hz0 hz1 hz2 rfl (by decide) _ _ _ rfl (HO2.out.alloc _) ⟨w2.heap.size, 0, none⟩ 1 1 (wrdV s (k, k + run s k)) rfl rfl (cells_new _ _ _) (wrdV_one s _) B1.out B2.out (by simpa using Nat.le_succ_of_le HB2.out.size) ?_); intro v' w3 hown' hgrow _)
        go_roundw
        case rel =>
          have hz := HZ.out
          have ha := HA.out
          rw [if_pos H0.out] at ha
          have hf2 := HF.out
          have hl2 := HL.out
          refine ⟨k + run s k + 1, s.size - (k + run s k), acc ++ [(k, k + run s k)], by rw [show min (k + run s k) s.size - k = run s k by omega]; go_num, by omega, by omega, by simp; omega, by rw [List.append_assoc]; exact ha, ?_, ?_⟩
          · rw [wrdsV_snoc, List.length_append]; exact hown'
          · exact (HB2.out.alloc HB2.out.size _).grown hgrow (by simpa using Nat.le_succ_of_le HB2.out.size) (fun j hj => (HO2.out.lt j hj).1)
        case measure => have := HZ.out; have := HK.out; simp [intOf]; omega
      · have t1 : (s.extract k (k + run s k)).toList = [] := by rw [ByteArray.toList_eq]; exact List.eq_nil_of_length_eq_zero (by rw [list_len]; omega)
        have H0 := Lib.hid h0
        clear hsz h0
        go_wp2_with fail
        refine (cut_pro1 s k _ (Nat.le_of_lt HK.out) HS.out HT.out).mono ?_
        rintro e w1 ⟨⟨u, v, rfl⟩, nq, rfl⟩
        go_wp2_with fail
        go_roundw
        case rel =>
          have hz := HZ.out
          have ha := HA.out
          rw [if_neg H0.out] at ha
          have hf2 := HF.out
          have hl2 := HL.out
          exact ⟨k + run s k + 1, s.size - (k + run s k), acc, by rw [show min (k + run s k) s.size - k = run s k by omega]; go_num, by omega, by omega, by omega, ha, own_drewN HO.out nq, below_drewN HB.out nq⟩
        case measure => have := HZ.out; have := HK.out; simp [intOf]; omega
    · have hw : acc = words s := by
        rw [← hacc]
        by_cases e : k = s.size
        · obtain rfl : fuel = 1 := by omega
          simp [wrds, e]
        · obtain rfl : fuel = 0 := by omega
          simp [wrds]
      have HW := Lib.hid hw
      have HO := Lib.hid hown
      have HB := Lib.hid hbw
      clear hw hacc hown hbw
      go_wp2_with fail
      go_ret
      exact ⟨_, rfl, HW.out ▸ HO.out, HB.out⟩
end Go.Proofs.YtceanagnkcejgaaGreatDoor
