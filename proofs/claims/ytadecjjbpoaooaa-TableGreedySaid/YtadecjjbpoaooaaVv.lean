/- Layer 12: the law's trimmed, piece, parts. -/
import Derived.Test.YtadecjjbpoaooaaVs
import Derived.Test.YtadecjjbpoaooaaVt
import Derived.Test.YtadecjjbpoaooaaVk
import Derived.Test.YtadecjjbpoaooaaVn
namespace Go.Proofs.Ytadecjjbpoaooaa.Tb
open Go.RowKit Go.Maps
set_option linter.unusedVariables false
set_option linter.unusedSimpArgs false
/-- Taking blanks away from the end, one by one. -/
theorem trim_blank {l : List Gl} {k : Nat} (h : k < l.length) (hb : isB l[k] = true) : trimM (l.take (k + 1)) = trimM (l.take k) := by
  rw [List.take_succ_eq_append_getElem h]
  exact trim_blanks _ _ (fun g hg => by rw [List.mem_singleton] at hg; rw [hg]; exact hb)
theorem trim_sign {l : List Gl} {k : Nat} (h : k < l.length) (hb : isB l[k] = false) : trimM (l.take (k + 1)) = l.take (k + 1) := by
  rw [List.take_succ_eq_append_getElem h]
  unfold trimM
  rw [List.reverse_append]
  simp [List.dropWhile_cons, hb]
def SaysG (P : Nat → Prop) (l : List Gl) (w : World) (e : Ending) (w' : World) : Prop := ∃ v, e = .returned v ∧ RdG P w' v l ∧ Below w.heap.size w w'
set_option maxRecDepth 100000 in
set_option maxHeartbeats 4000000 in
theorem trimmed_law {P : Nat → Prop} (l : List Gl) (v : Value) (w : World) (h : RdG P w v l) : Calls Try.prog 21 #[v] w (SaysG P (trimM l) w) := by
  obtain ⟨pa, cap, rfl, h1, h2⟩ := h.form
  unfold maxLen at h2
  have HH := Lib.hid h
  obtain ⟨n, hn⟩ : ∃ n, l.length = n := ⟨_, rfl⟩
  have HN := Lib.hid hn
  rw [hn] at HH h1 ⊢
  have n62 : n ≤ 9223372036854775807 := by omega
  have HS := Lib.hid (show RdG P w (.slice pa n cap) (l.take n) by rw [← hn, List.take_length]; rw [← hn] at HH; exact HH.out)
  have HT := Lib.hid (show trimM (l.take n) = trimM l by rw [← hn, List.take_length])
  clear h hn
  go_enter Try.func21, Try.ntmps21
  go_wp2_with fail
  go_loopw [0] (fun s wr => ∃ (k : Nat), s = .slice pa k cap ∧ k ≤ n ∧ Hid (RdG P w (.slice pa k cap) (l.take k)) ∧ Hid (trimM (l.take k) = trimM l) ∧ Hid (Below w.heap.size w wr)) (fun s _ => match s with | .slice _ k _ => k | _ => 0)
  case atStart => exact ⟨n, rfl, Nat.le_refl _, HS, HT, Lib.hid (Below.refl _ _)⟩
  case round =>
    obtain ⟨k, rfl, hk, HR, HTR, HB⟩ := hrel
    rcases Nat.eq_zero_or_pos k with h0 | h0
    · subst h0
      have d0 : decide ((0 : Int) < ((0 : Nat) : Int)) = false := by simp
      go_wp2_with fail
      go_ret
      have h := HTR.out
      exact ⟨_, rfl, by rw [← h]; exact HR.out.below HB.out, HB.out⟩
    · obtain ⟨k1, hk1⟩ : ∃ k1, k = k1 + 1 := ⟨k - 1, by omega⟩
      have hkl : k1 < l.length := by rw [HN.out]; omega
      have hkt : k1 < (l.take k).length := by rw [List.length_take]; omega
      obtain ⟨b, off, rfl, _, c0, c1, c2, c3, c4⟩ := (HR.out.below HB.out).at_ hkt
      rw [List.getElem_take] at c0
      have HB1 := Lib.hid (fun (hb : isB l[k1] = true) => (show trimM (l.take k1) = trimM l by rw [← trim_blank hkl hb, ← hk1]; exact HTR.out))
      have HB2 := Lib.hid (fun (hb : isB l[k1] = false) => (show l.take k = trimM l by rw [← HTR.out, hk1, trim_sign hkl hb]))
      have hr2 := HR.out.take k1 (by omega)
      rw [List.take_take, Nat.min_eq_left (by omega)] at hr2
      have HR2 := Lib.hid hr2
      obtain ⟨x, hx⟩ : ∃ x, l[k1] = x := ⟨_, rfl⟩
      rw [hx] at c0 HB1 HB2
      have d0 : decide ((0 : Int) < (k : Int)) = true := decide_eq_true (by omega)
      have d1 : 0 < k := h0
      have d1i : (0 : Int) < k := by omega
      have w1 : wrap64 ((k : Int) - 1) = (k1 : Int) := by rw [IntWalk.wrap64_in _ (by omega)]; omega
      have w2 : IntKind.i64.wrap ((k : Int) - 1) = (k1 : Int) := by rw [IntWalk.i64_in _ (by omega)]; omega
      have w3 : (k : Int) - 1 = (k1 : Int) := by omega
      have n1 : (k1 : Int) < k := by omega
      have n2 : k1 < k := by omega
      have n3 : k1 ≤ cap := by omega
      have n4 : (k1 : Int) ≤ cap := by omega
      have HK1 := Lib.hid (show k1 ≤ n by omega)
      have HK2 := Lib.hid (show k1 < k by omega)
      cases hb : isB x with
      | true =>
        have t1 : (x.t.toList == [32]) = true := hb
        have HTN := Lib.hid (HB1.out hb)
        clear c1 c2 c3 c4 hkt hkl hr2 hx hk1 hb
        go_wp2_with fail
        go_roundw
        case measure => have := HK2.out; omega
        case rel => exact ⟨k1, rfl, HK1.out, HR2, HTN, HB⟩
      | false =>
        have t1 : (x.t.toList == [32]) = false := hb
        have HTN := Lib.hid (HB2.out hb)
        clear c1 c2 c3 c4 hkt hkl hr2 hx hk1 hb
        go_wp2_with fail
        go_ret
        have h := HTN.out
        exact ⟨_, rfl, by rw [← h]; exact HR.out.below HB.out, HB.out⟩
theorem cutP_snoc {l : List Gl} {k : Nat} (h : k < l.length) (a b : Int) : cutP a b 0 (l.take (k + 1)) = cutP a b 0 (l.take k) ++ if a ≤ wid (l.take k) ∧ wid (l.take k) < a + b then [l[k]] else [] := by
  rw [List.take_succ_eq_append_getElem h, cutP_app, Int.zero_add]
  congr 1
theorem cutP_len (a b : Int) : ∀ (x : List Gl) (c : Int), (cutP a b c x).length ≤ x.length
  | [], c => Nat.le_refl _
  | g :: x, c => by
    have := cutP_len a b x (c + g.wd)
    unfold cutP
    split
    · simp only [List.length_cons]; omega
    · simp only [List.length_cons]; omega
set_option maxRecDepth 100000 in
set_option maxHeartbeats 4000000 in
theorem piece_law {P : Nat → Prop} (l : List Gl) (v : Value) (a b : Int) (w : World) (h : RdG P w v l) (hl : l.length ≤ 1000000) (hs : SmallW l) (ha : 0 ≤ a ∧ a ≤ 100000) (hb : 0 ≤ b ∧ b ≤ 100000) :
    Calls Try.prog 22 #[v, .int .i64 a, .int .i64 b] w (SaysG (w.heap.size ≤ ·) (trimM (cutP a b 0 l)) w) := by
  obtain ⟨i0, hi0, hz0, hz1, hz2⟩ := info_parts infoG
  obtain ⟨pa, cap, rfl, h1, h2⟩ := sliceG h
  have HH := Lib.hid h
  have HS := Lib.hid hs
  obtain ⟨n, hn⟩ : ∃ n, l.length = n := ⟨_, rfl⟩
  have HN := Lib.hid hn
  rw [hn] at HH h1 ⊢
  have n62 : n ≤ 9223372036854775807 := by omega
  have hn2 : n ≤ 1000000 := by omega
  have a1 := ha.1
  have a2 := ha.2
  have b1 := hb.1
  have b2 := hb.2
  clear h hn hs hl h1 ha hb
  go_enter Try.func22, Try.ntmps22
  go_wp2_with fail
  go_loopw [7, 8, 9] (fun ov c i wr => ∃ (k : Nat), i = .int .i64 k ∧ k ≤ n ∧ c = .int .i64 (wid (l.take k)) ∧ Hid (wr.ownsRow w.heap.size 40 5 ov (cutP a b 0 (l.take k)).length (rowsG (cutP a b 0 (l.take k)))) ∧ Hid (Below w.heap.size w wr)) (fun _ _ i _ => n - (intOf i).toNat)
  case atStart => exact ⟨0, rfl, Nat.zero_le _, rfl, Lib.hid (World.ownsRow_nil _ _ _ _), Lib.hid (Below.refl _ _)⟩
  case round =>
    obtain ⟨k, rfl, hk, rfl, HO, HB⟩ := hrel
    by_cases hlt : k < n
    · have hkl : k < l.length := by rw [HN.out]; exact hlt
      have k1 : (k : Int) < n := by omega
      have HLT := Lib.hid hlt
      obtain ⟨bb, off, rfl, _, hg⟩ := (HH.out.below HB.out).at_ hkl
      have hT := Lib.hid (wid_take l k hkl)
      have HC := Lib.hid (cutP_snoc hkl a b)
      have hsm := wid_small (l := l.take k) fun g hg => HS.out g (List.mem_of_mem_take hg)
      have hkk : (l.take k).length ≤ k := List.length_take_le _ _
      have hcl := cutP_len a b (l.take k) 0
      have hx1 := HS.out _ (List.getElem_mem hkl)
      obtain ⟨x, hx⟩ : ∃ x, l[k] = x := ⟨_, rfl⟩
      rw [hx] at hg hT hx1 HC
      obtain ⟨d0, d1, d2, d3, d4⟩ := hg
      obtain ⟨s, hs⟩ : ∃ s, wid (l.take k) = s := ⟨_, rfl⟩
      rw [hs] at hT hsm HC ⊢
      have s1 : 0 ≤ s := hsm.1
      have s2 : s ≤ 200 * 1000000 := by omega
      have x1 := hx1.1
      have x2 := hx1.2
      obtain ⟨Q, hQ⟩ : ∃ Q, cutP a b 0 (l.take k) = Q := ⟨_, rfl⟩
      rw [hQ] at HO HC hcl
      obtain ⟨m, hm⟩ : ∃ m, Q.length = m := ⟨_, rfl⟩
      rw [hm] at HO hcl
      have HM := Lib.hid hm
      have hm2 : m ≤ 1000000 := by omega
      obtain ⟨p3, c3, rfl⟩ := lenL HO.out
      by_cases hin : a ≤ s ∧ s < a + b
      · have HC2 := Lib.hid (show cutP a b 0 (l.take (k + 1)) = Q ++ [x] by rw [HC.out, if_pos hin])
        have t1 : decide (a ≤ s) = true := decide_eq_true hin.1
        have t2 : decide (s < a + b) = true := decide_eq_true hin.2
        have L1 := Lib.hid (show m + 1 ≤ maxLen by unfold maxLen; omega)
        have L2 := Lib.hid (show (m + 1) * 48 ≤ 140737488355328 by omega)
        have hA := below_box wr (boxG x)
        have HO2 := Lib.hid (own_below HO.out hA)
        have HB2 := Lib.hid (HB.out.trans (hA.mono HB.out.size))
        have L3 := Lib.hid HB2.out.size
        unfold boxG at HO2 HB2 L3
        have HXX := Lib.hid hx
        clear hx hs hlt hsm hx1 hkk hcl hQ hm hA hin
        go_wp2_with (at_builtin; go_loud (refine wpList_append_own _ rfl _ _ 32 rfl w.heap.size 40 i0 _ 5 48 Try.underlying32 hi0 hz0 hz1 hz2 rfl (by decide) _ _ _ rfl HO2.out ⟨wr.heap.size, 0, none⟩ 1 1 (glRow x) rfl rfl (cells_newL _ _ _) (glRow_one x) L1.out L2.out L3.out ?_); intro v7 w7 hown7 hg7 _; have HO7 := Lib.hid hown7; have HB7 := Lib.hid (HB2.out.grown hg7 L3.out (fun c hc => (own_base HO2.out hc).1)); clear hown7 hg7; obtain ⟨_, _, hpe, _, _, q1, _⟩ := (HH.out.below HB7.out).at_ hkl; cases hpe; rw [HXX.out] at q1)
        have HO8 := Lib.hid (show w7.ownsRow w.heap.size 40 5 v7 (cutP a b 0 (l.take (k + 1))).length (rowsG (cutP a b 0 (l.take (k + 1)))) by
          rw [HC2.out, List.length_append, HM.out, rowsG_snoc]; exact HO7.out)
        go_wp2_with fail
        go_roundw
        case measure => have := HLT.out; simp [intOf]; omega
        case rel => exact ⟨k + 1, by go_num, HLT.out, by rw [hT.out], HO8, HB7⟩
      · have HC2 := Lib.hid (show cutP a b 0 (l.take (k + 1)) = Q by rw [HC.out, if_neg hin, List.append_nil])
        have HO8 := Lib.hid (show wr.ownsRow w.heap.size 40 5 (.slice p3 m c3) (cutP a b 0 (l.take (k + 1))).length (rowsG (cutP a b 0 (l.take (k + 1)))) by
          rw [HC2.out, HM.out]; exact HO.out)
        by_cases h3 : a ≤ s
        · have t1 : decide (a ≤ s) = true := decide_eq_true h3
          have t2 : decide (s < a + b) = false := decide_eq_false fun h => hin ⟨h3, h⟩
          clear hx hs hlt hsm hx1 hkk hcl hQ hm hin h3
          go_wp2_with fail
          go_roundw
          case measure => have := HLT.out; simp [intOf]; omega
          case rel => exact ⟨k + 1, by go_num, HLT.out, by rw [hT.out], HO8, HB⟩
        · have t1 : decide (a ≤ s) = false := decide_eq_false h3
          clear hx hs hlt hsm hx1 hkk hcl hQ hm hin h3
          go_wp2_with fail
          go_roundw
          case measure => have := HLT.out; simp [intOf]; omega
          case rel => exact ⟨k + 1, by go_num, HLT.out, by rw [hT.out], HO8, HB⟩
    · obtain rfl : n = k := by omega
      have hzk : ¬ (n : Int) < n := by omega
      have HF := Lib.hid (show l.take n = l by rw [← HN.out, List.take_length])
      obtain ⟨s, hs⟩ : ∃ s, wid (l.take n) = s := ⟨_, rfl⟩
      rw [hs]
      have HG := Lib.hid ((RdG.own HO.out rfl).imp (Q := (w.heap.size ≤ ·)) fun b _ hb => hb.2)
      clear hlt hs
      go_wp2_with fail
      refine (trimmed_law _ _ wr HG.out).mono ?_
      rintro e w9 ⟨v9, rfl, h9, b9⟩
      have H9 := Lib.hid h9
      have B9 := Lib.hid (HB.out.trans (b9.mono HB.out.size))
      clear h9 b9
      go_wp2_with fail
      go_ret
      exact ⟨_, rfl, by rw [← HF.out]; exact H9.out, B9.out⟩
end Go.Proofs.Ytadecjjbpoaooaa.Tb
