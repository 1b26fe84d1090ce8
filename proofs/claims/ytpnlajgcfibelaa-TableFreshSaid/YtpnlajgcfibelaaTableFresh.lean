/- What is proved: TableFresh holds of all flows, widths and columns: what is told lies in memory of its own. -/
import Derived.Test.YtpnlajgcfibelaaVn
import Derived.Test.YtpnlajgcfibelaaVo
import Derived.Test.YtpnlajgcfibelaaPost
import Derived.Maps.AppendAt
import Derived.ProofKit
import Derived.OpenShut
import Derived.Deep.DeepHandedRow
namespace Go.Proofs.Ytpnlajgcfibelaa.tableFresh
open Go.ChangeShapes Go.WideShapes Go.ChangeAt Go.RowKit Go.Maps Go.Proofs.Ytpnlajgcfibelaa.Tb
open Go.ChangeMaps (open_string shut_string)
set_option linter.unusedVariables false
set_option linter.unusedSimpArgs false
theorem own_any_set {W : World} {B : Nat} {e : TypeId} {size : Nat} {v : Value} {n : Nat} {xs : List Value} (h : W.ownsRow B e size v n xs) (g k : Nat) (u : Value) : ∃ xs', (W.setCell ⟨g, k, none⟩ u).ownsRow B e size v n xs' := by
  by_cases hb : v.ownBlock = some g
  · rcases h.2 with ⟨rfl, _⟩ | ⟨g', cap, cur, rfl, _⟩
    · cases hb
    · have e : g' = g := Option.some.inj hb
      subst e
      exact ⟨_, (h.stored k u).1⟩
  · exact ⟨xs, own_stays h fun c hc => Below.heap_setCell _ _ _ _ (fun e => hb (by have e' : c = g := e; rw [← e']; exact hc))⟩
/-- The copies, whatever stands in them, and what lies elsewhere as it was. -/
structure Spoil (A X : Nat) (V wr : World) (tv : Value) (us : List Value) (ns : List Nat) : Prop where
  num : us.length = ns.length
  row : wr.ownsRow A 22 1 tv ns.length us
  line : ∀ i (h : i < ns.length), ∃ xs, wr.ownsRow A 49 5 (us[i]'(by omega)) ns[i] xs
  own : ∀ i (h : i < ns.length) b, (us[i]'(by omega)).ownBlock = some b → A ≤ b ∧ b < X
  rest : ∀ b, (b < A ∨ X ≤ b) → b < V.heap.size → wr.heap[b]? = V.heap[b]?
  below : Below A V wr
theorem Spoil.set {A X : Nat} {V wr : World} {tv : Value} {us : List Value} {ns : List Nat} (h : Spoil A X V wr tv us ns) {g : Nat} (h1 : A ≤ g) (h2 : g < X) (h3 : tv.ownBlock ≠ some g) (k : Nat) (u : Value) : Spoil A X V (wr.setCell ⟨g, k, none⟩ u) tv us ns where
  num := h.num
  row := own_stays h.row fun c hc => Below.heap_setCell _ _ _ _ (fun e => h3 (by have e' : c = g := e; rw [← e']; exact hc))
  line := fun i hi => by
    obtain ⟨xs, hx⟩ := h.line i hi
    exact own_any_set hx g k u
  own := h.own
  rest := fun b hb hlt => (Below.heap_setCell _ _ _ _ (fun e => by have e' : b = g := e; omega)).trans (h.rest b hb hlt)
  below := h.below.setCell (p := ⟨g, k, none⟩) h1 u
/-- What stands at a place that is written. -/
theorem Spoil.at_ {A X : Nat} {V wr : World} {tv : Value} {us : List Value} {ns : List Nat} (h : Spoil A X V wr tv us ns) {i : Nat} (hi : i < ns.length) : ∃ g cap pa ca, tv = .slice (some ⟨g, 0, none⟩) ns.length cap ∧ us[i]'(by have := h.num; omega) = .slice pa ns[i] ca ∧ wr.cell? ⟨g, i, none⟩ = some (.slice pa ns[i] ca) ∧
    ∀ j, j < ns[i] → ∃ b, pa = some ⟨b, 0, none⟩ ∧ A ≤ b ∧ b < X ∧ tv.ownBlock ≠ some b ∧ ns[i] ≤ ca ∧ ∀ k, k < 5 → (∃ y, wr.cell? ⟨b, j * 5 + k, none⟩ = some y) ∧ wr.frozen? ⟨b, j * 5 + k, none⟩ = false := by
  obtain ⟨xs, hx⟩ := h.line i hi
  rcases h.row.2 with ⟨_, h0⟩ | ⟨g, cap, cur, rfl, hb, hg, h1, h2, h3, h4⟩
  · omega
  have hu : i < us.length := by have := h.num; omega
  have hcell : wr.cell? ⟨g, i, none⟩ = some (us[i]'hu) := by
    rw [World.ownsRow.cellAt h.row i (by omega)]
    exact List.getElem?_eq_getElem hu
  obtain ⟨pa, ca, hv⟩ := lenL hx
  refine ⟨g, cap, pa, ca, rfl, hv, by rw [hcell, hv], fun j hj => ?_⟩
  rcases hx.2 with ⟨e, h0⟩ | ⟨b, cap2, cur2, e, hb2, hg2, k1, k2, k3, k4⟩
  · omega
  have hown : (us[i]'hu).ownBlock = some b := by rw [e]; rfl
  have hbo := h.own i hi b hown
  rw [hv] at e
  cases e
  rw [hv] at hx
  refine ⟨b, rfl, hbo.1, hbo.2, fun e => own_ne hx h.row (by decide) rfl e, k1, fun k hk => ⟨?_, World.ownsRow.frozenAt hx _⟩⟩
  have hlt : j * 5 + k < ns[i] * 5 := by omega
  rw [World.ownsRow.cellAt hx (j * 5 + k) hlt]
  have hl : xs.length = ns[i] * 5 := hx.1
  exact ⟨_, List.getElem?_eq_getElem (by omega)⟩
set_option maxRecDepth 100000 in
set_option maxHeartbeats 8000000 in
theorem walk (v : Value) (l : List Gl) (x : Int) (vc : Value) (cs : List (Int × Int)) (u : Value) (fs : List (List Gl)) (W : World) (hG : RdG (fun _ => True) W v l) (hgs : l.length * 48 ≤ 140737488351232) (hx : (Lit.int .i64 x).wf = true) (hR : RdC (fun _ => True) W vc cs) (hs : cs.length * 16 ≤ 140737488351232) (hF : RdL (fun _ => True) W u fs) (hfs : fs.length * 24 ≤ 140737488351232 ∧ ∀ x ∈ fs, x.length * 48 ≤ 140737488351232) :
    Calls Try.prog 6 #[v, .int .i64 x, vc, u] W fun e W' => e = .returned (.bool true) ∧ Below W.heap.size W W' := by
  obtain ⟨i0, hi0, hz0, hz1, hz2⟩ := info_parts infoL
  obtain ⟨E, hE⟩ : ∃ E, rowE cs fs = E := ⟨_, rfl⟩
  obtain ⟨ls, hls⟩ : ∃ ls, rowL cs fs = ls := ⟨_, rfl⟩
  obtain ⟨E2, hE2⟩ : ∃ E, fillE x l = E := ⟨_, rfl⟩
  obtain ⟨ms, hms⟩ : ∃ ls, fillL x l = ls := ⟨_, rfl⟩
  have HG := Lib.hid hG
  have HR := Lib.hid hR
  have HF := Lib.hid hF
  have HE := Lib.hid hE
  have HLS := Lib.hid hls
  have HE2 := Lib.hid hE2
  have HMS := Lib.hid hms
  have G1 := Lib.hid (show l.length * 48 ≤ 140737488355328 by omega)
  have G2 := Lib.hid (show (l.length + 1) * 24 ≤ 140737488355328 by omega)
  have G3 := Lib.hid (show (l.length + 1) * 48 ≤ 140737488355328 by omega)
  have S0 := Lib.hid hfs.1
  have S1 := Lib.hid (show fs.length * 24 ≤ 140737488355328 by omega)
  have S2 := Lib.hid (show ∀ x ∈ fs, x.length * 48 ≤ 140737488355328 from fun x hx => by have := hfs.2 x hx; omega)
  have S3 := Lib.hid (show ∀ x ∈ fs, (x.length + 1) * 48 ≤ 140737488355328 from fun x hx => by have := hfs.2 x hx; omega)
  clear hG hR hF hE hls hs hfs hE2 hms hgs hx
  go_enter Try.func6, Try.ntmps6
  go_wp2_with fail
  refine (twin_law l _ W HG.out G1.out).mono ?_
  rintro e w1 ⟨v1, rfl, o1, b1⟩
  have B1 := Lib.hid b1
  have O1 := Lib.hid o1
  clear b1 o1
  go_wp2_with fail
  refine (twins_law fs _ w1 (HF.out.below B1.out) S1.out S2.out).mono ?_
  rintro e w2 ⟨v2, vs2, rfl, o2, b2⟩
  have B2 := Lib.hid (B1.out.trans (b2.mono B1.out.size))
  have O2 := Lib.hid (own_below O1.out b2)
  have T2 := Lib.hid o2
  have Z12 := Lib.hid b2.size
  clear b2 o2
  go_wp2_with fail
  refine (fill_pro x l v1 w2 (any_own O2.out) G2.out).mono ?_
  rintro e w3 ⟨v3, rfl, o3, b3⟩
  have B3 := Lib.hid (B2.out.trans (b3.mono B2.out.size))
  have O3 := Lib.hid (own_below O2.out b3)
  have T3 := Lib.hid (T2.out.below b3)
  have R3 := Lib.hid o3
  have Z23 := Lib.hid b3.size
  rw [HMS.out] at R3
  rw [HE2.out]
  clear b3 o3
  go_wp2_with fail
  refine (row_pro cs fs _ v2 w3 (HR.out.below B3.out) (any_l T3.out.rd) S3.out).mono ?_
  rintro e w4 ⟨v4, rfl, o4, b4⟩
  have B4 := Lib.hid (B3.out.trans (b4.mono B3.out.size))
  have O4 := Lib.hid (own_below O3.out b4)
  have T4 := Lib.hid (T3.out.below b4)
  have R43 := Lib.hid (R3.out.below b4)
  have R4 := Lib.hid (o4.imp (Q := (w2.heap.size ≤ ·)) fun b _ hb => Nat.le_trans Z23.out hb)
  have Z34 := Lib.hid (Nat.le_trans Z23.out b4.size)
  rw [HLS.out] at R4
  rw [HE.out]
  clear b4 o4
  go_wp2_with fail
  refine (same_ref l _ _ w4 (any_own O4.out) (HG.out.below B4.out)).mono ?_
  rintro e w5 ⟨rfl, b5⟩
  have B5 := Lib.hid (B4.out.trans (b5.mono B4.out.size))
  have O5 := Lib.hid (own_below O4.out b5)
  have T5 := Lib.hid (T4.out.below b5)
  have R53 := Lib.hid (R43.out.below b5)
  have R54 := Lib.hid (R4.out.below b5)
  have Z5 := Lib.hid (Nat.le_trans Z34.out b5.size)
  clear b5
  go_wp2_with fail
  refine (sameAll_ref fs _ _ w5 (any_l T5.out.rd) (HF.out.below B5.out)).mono ?_
  rintro e w6 ⟨rfl, b6⟩
  have B6 := Lib.hid (B5.out.trans (b6.mono B5.out.size))
  have O6 := Lib.hid (own_below O5.out b6)
  have T6 := Lib.hid (T5.out.below b6)
  have R63 := Lib.hid (R53.out.below b6)
  have R64 := Lib.hid (R54.out.below b6)
  have Z6 := Lib.hid (Nat.le_trans Z5.out b6.size)
  clear b6
  go_wp2_with fail
  refine (awake_law w6).mono ?_
  rintro e w7 ⟨rfl, b7⟩
  obtain ⟨p1, c1, rfl⟩ := lenL O6.out
  have bX := below_box w7 (.cells #[.slice p1 l.length c1] 22)
  have b7' := b7.trans (bX.mono b7.size)
  have B7 := Lib.hid (B6.out.trans (b7'.mono B6.out.size))
  have O7 := Lib.hid (own_below O6.out b7')
  have T7 := Lib.hid (T6.out.below b7')
  have R73 := Lib.hid (R63.out.below b7')
  have R74 := Lib.hid (R64.out.below b7')
  have Z7 := Lib.hid (Nat.le_trans Z6.out b7'.size)
  have L1 := Lib.hid (show fs.length + 1 ≤ maxLen by have := S0.out; unfold maxLen; omega)
  have L2 := Lib.hid (show (fs.length + 1) * 24 ≤ 140737488355328 by have := S0.out; omega)
  have HON := Lib.hid (show ∀ u ∈ [Value.slice p1 l.length c1], u.oneCell' = true from fun u hu => by rw [List.mem_singleton] at hu; rw [hu]; rfl)
  clear b7 bX b7'
  go_wp2_with (at_builtin; go_loud (refine wpList_append_own_at _ rfl _ _ 23 rfl w1.heap.size 22 i0 _ 1 24 Try.underlying23 hi0 hz0 hz1 hz2 rfl (by decide) _ _ _ rfl T7.out.row ⟨w7.heap.size, 0, none⟩ 1 1 [.slice p1 l.length c1] rfl rfl (cells_newL w7 _ _) HON.out L1.out L2.out (Nat.le_trans Z12.out Z7.out) ?_); intro v8 w8 hown8 hg8 _ hnb8; have HO8 := Lib.hid hown8; have HG8 := Lib.hid hg8; have HNB := Lib.hid hnb8; clear hown8 hg8 hnb8)
  obtain ⟨N, hN⟩ : ∃ N, fs.length + 1 = N := ⟨_, rfl⟩
  obtain ⟨us, hus⟩ : ∃ us, vs2 ++ [Value.slice p1 l.length c1] = us := ⟨_, rfl⟩
  obtain ⟨ns, hns⟩ : ∃ ns, fs.map List.length ++ [l.length] = ns := ⟨_, rfl⟩
  have hnl : ns.length = N := by rw [← hns, ← hN]; simp
  have hT7row : ∀ c, v2.ownBlock = some c → w1.heap.size ≤ c ∧ c < w2.heap.size := fun c hc => own_base T2.out.row hc
  have HSP : Hid (Spoil W.heap.size w2.heap.size w8 w8 v8 us ns) := Lib.hid (by
    have hB1 := B1.out.size
    refine ⟨by rw [← hus, ← hns]; simp [T2.out.num], ?_, ?_, ?_, fun _ _ _ => rfl, Below.refl _ _⟩
    · rw [hnl, ← hN, ← hus]
      exact own_lower HO8.out hB1
    · intro i hi
      subst hus
      subst hns
      rcases Nat.lt_or_ge i fs.length with h | h
      · have e1 : (vs2 ++ [Value.slice p1 l.length c1])[i]'(by simp [T2.out.num]; omega) = vs2[i]'(by rw [T2.out.num]; exact h) := List.getElem_append_left _
        have e2 : (fs.map List.length ++ [l.length])[i] = fs[i].length := by rw [List.getElem_append_left (by simpa using h)]; simp
        have hz := T7.out.line i h
        refine ⟨rowsG fs[i], ?_⟩
        rw [e1, e2]
        exact own_lower (own_stays hz fun c hc => HG8.out.block c (own_base hz hc).2 (fun e => own_ne hz T7.out.row (by decide) hc e.symm)) hB1
      · have hi' : i = fs.length := by simp at hi; omega
        subst hi'
        have e1 : (vs2 ++ [Value.slice p1 l.length c1])[fs.length]'(by simp [T2.out.num]) = Value.slice p1 l.length c1 := by rw [List.getElem_append_right (by rw [T2.out.num]; exact Nat.le_refl _)]; simp [T2.out.num]
        have e2 : (fs.map List.length ++ [l.length])[fs.length]'(by simp) = l.length := by rw [List.getElem_append_right (by simp)]; simp
        have hz := O7.out
        refine ⟨rowsG l, ?_⟩
        rw [e1, e2]
        exact own_stays hz fun c hc => HG8.out.block c (own_base hz hc).2 (fun e => own_ne hz T7.out.row (by decide) hc e.symm)
    · intro i hi b hb
      subst hus
      subst hns
      rcases Nat.lt_or_ge i fs.length with h | h
      · have e1 : (vs2 ++ [Value.slice p1 l.length c1])[i]'(by simp [T2.out.num]; omega) = vs2[i]'(by rw [T2.out.num]; exact h) := List.getElem_append_left _
        rw [e1] at hb
        have := own_base (T2.out.line i h) hb
        exact ⟨by omega, this.2⟩
      · have hi' : i = fs.length := by simp at hi; omega
        subst hi'
        have e1 : (vs2 ++ [Value.slice p1 l.length c1])[fs.length]'(by simp [T2.out.num]) = Value.slice p1 l.length c1 := by rw [List.getElem_append_right (by rw [T2.out.num]; exact Nat.le_refl _)]; simp [T2.out.num]
        rw [e1] at hb
        exact own_base O2.out hb)
  have HB8 : Hid (Below W.heap.size W w8) := Lib.hid (B7.out.grown HG8.out B7.out.size (fun c hc => Nat.le_trans B1.out.size (hT7row c hc).1))
  have hmv : ∀ b, w2.heap.size ≤ b → b < (w7.alloc (.cells #[.slice p1 l.length c1] 22)).heap.size → w8.heap[b]? = (w7.alloc (.cells #[.slice p1 l.length c1] 22)).heap[b]? ∧ w2.heap.size ≤ b := fun b hb hlt => ⟨HG8.out.block b hlt (fun e => by have := (hT7row b e.symm).2; omega), hb⟩
  have R83 := Lib.hid (R73.out.move hmv)
  have R84 := Lib.hid (R74.out.move hmv)
  obtain ⟨p8, c8, rfl⟩ := lenL HO8.out
  rw [hN] at HSP ⊢
  have HNL := Lib.hid hnl
  have N62 : N ≤ 9223372036854775807 := by have := S0.out; omega
  have hnb : ∀ i (h : i < ns.length), ns[i] ≤ 9223372036854775807 := fun i hi => by
    have hm : ns[i] ∈ ns := List.getElem_mem _
    obtain ⟨y, hy⟩ : ∃ y, ns[i] = y := ⟨_, rfl⟩
    rw [hy] at hm ⊢
    rw [← hns] at hm
    rcases List.mem_append.1 hm with h | h
    · obtain ⟨f, hf, e⟩ := List.mem_map.1 h
      have := S2.out f hf
      omega
    · rw [List.mem_singleton] at h
      have := G1.out
      omega
  have HNB2 := Lib.hid hnb
  clear hmv hT7row hus hns hnl hN hnb
  go_loopw [15] (fun i wr => ∃ (k : Nat), i = .int .i64 k ∧ k ≤ N ∧ Hid (Spoil W.heap.size w2.heap.size w8 wr (.slice p8 N c8) us ns)) (fun i _ => N - (intOf i).toNat)
  case atStart => exact ⟨0, rfl, Nat.zero_le _, HSP⟩
  case round =>
    obtain ⟨k, rfl, hk, HS⟩ := hrel
    by_cases hlt : k < N
    · have hkn : k < ns.length := by rw [HNL.out]; exact hlt
      have k1 : (k : Int) < N := by omega
      have HLT := Lib.hid hlt
      obtain ⟨q, hq⟩ : ∃ q, ns[k] = q := ⟨_, rfl⟩
      have HQ := Lib.hid (fun (h : k < ns.length) => (show ns[k] = q from hq))
      have q62 : q ≤ 9223372036854775807 := by rw [← hq]; exact HNB2.out k hkn
      clear hlt hq
      go_wp2_with fail
      go_loopw [16] (fun j wr => ∃ (m : Nat), j = .int .i64 m ∧ m ≤ q ∧ Hid (Spoil W.heap.size w2.heap.size w8 wr (.slice p8 N c8) us ns)) (fun j _ => q - (intOf j).toNat)
      case atStart => exact ⟨0, rfl, Nat.zero_le _, HS⟩
      case round =>
        obtain ⟨m, rfl, hm, HS2⟩ := hrel
        obtain ⟨w9, rfl⟩ : ∃ w9 : World, w9 = wr := ⟨wr, rfl⟩
        obtain ⟨g, cap, pa, ca, e, hu, hc, hst⟩ := HS2.out.at_ hkn
        rw [HNL.out] at e
        cases e
        clear hu
        rw [HQ.out hkn] at hc hst
        by_cases hlt : m < q
        · obtain ⟨b, rfl, hb1, hb2, hb3, hca, hcell⟩ := hst m hlt
          obtain ⟨⟨y0, x0⟩, f0⟩ := hcell 0 (by omega)
          obtain ⟨⟨y1, x1⟩, f1⟩ := hcell 1 (by omega)
          obtain ⟨⟨y2, x2⟩, f2⟩ := hcell 2 (by omega)
          obtain ⟨⟨y3, x3⟩, f3⟩ := hcell 3 (by omega)
          obtain ⟨⟨y4, x4⟩, f4⟩ := hcell 4 (by omega)
          rw [Nat.add_zero] at x0 f0
          have m1 : (m : Int) < q := by omega
          have HLT2 := Lib.hid hlt
          have HS5 := Lib.hid (((((HS2.out.set hb1 hb2 hb3 (m * 5) (.string ⟨#[35]⟩)).set hb1 hb2 hb3 (m * 5 + 1) (.int .i64 0)).set hb1 hb2 hb3 (m * 5 + 2) (.int .i64 0)).set hb1 hb2 hb3 (m * 5 + 3) (.int .i64 0)).set hb1 hb2 hb3 (m * 5 + 4) (.int .i64 0))
          clear hst hcell hlt hb3 hkn
          go_wp2_with fail
          go_roundw
          case measure => have := HLT2.out; simp [intOf]; omega
          case rel => exact ⟨m + 1, by go_num, HLT2.out, HS5⟩
        · obtain rfl : m = q := by omega
          have hzm : ¬ (m : Int) < m := by omega
          clear hst hlt hkn
          go_wp2_with fail
          go_roundw
          case measure => have := HLT.out; simp [intOf]; omega
          case rel => exact ⟨k + 1, by go_num, HLT.out, HS2⟩
    · obtain rfl : k = N := by omega
      have hzk : ¬ (k : Int) < k := by omega
      have HBW := Lib.hid (HB8.out.trans HS.out.below)
      have R93 := Lib.hid (any_l (R83.out.move (Q := (w2.heap.size ≤ ·)) fun b hb hlt => ⟨HS.out.rest b (.inr hb) hlt, hb⟩))
      have R94 := Lib.hid (any_l (R84.out.move (Q := (w2.heap.size ≤ ·)) fun b hb hlt => ⟨HS.out.rest b (.inr hb) hlt, hb⟩))
      clear hlt
      obtain ⟨w9, rfl⟩ : ∃ w9 : World, w9 = wr := ⟨wr, rfl⟩
      go_wp2_with fail
      refine (fill_ref x l _ w9 (HG.out.below HBW.out) G3.out).mono ?_
      rintro e wa ⟨va, rfl, oa, ba⟩
      have BA := Lib.hid (HBW.out.trans (ba.mono HBW.out.size))
      have RA3 := Lib.hid (R93.out.below ba)
      have RA4 := Lib.hid (R94.out.below ba)
      have RA := Lib.hid (any_l oa)
      rw [HMS.out] at RA
      rw [HE2.out]
      clear ba oa
      go_wp2_with fail
      refine (row_ref cs fs _ _ wa (HR.out.below BA.out) (HF.out.below BA.out) S3.out).mono ?_
      rintro e wb ⟨vb, rfl, ob, bb⟩
      have BB := Lib.hid (BA.out.trans (bb.mono BA.out.size))
      have RB3 := Lib.hid (RA3.out.below bb)
      have RB4 := Lib.hid (RA4.out.below bb)
      have RBA := Lib.hid (RA.out.below bb)
      have RB := Lib.hid (any_l ob)
      rw [HLS.out] at RB
      rw [HE.out]
      clear bb ob
      go_wp2_with fail
      refine (sameAll_ref ms _ _ wb RB3.out RBA.out).mono ?_
      rintro e wc ⟨rfl, bc⟩
      have BC := Lib.hid (BB.out.trans (bc.mono BB.out.size))
      have RC4 := Lib.hid (RB4.out.below bc)
      have RC := Lib.hid (RB.out.below bc)
      clear bc
      go_wp2_with fail
      refine (sameAll_ref ls _ _ wc RC4.out RC.out).mono ?_
      rintro e wd ⟨rfl, bd⟩
      have BD := Lib.hid (BC.out.trans (bd.mono BC.out.size))
      clear bd
      go_wp2_with fail
      go_ret
      exact ⟨rfl, BD.out⟩

set_option maxRecDepth 100000 in
theorem contract (H : Type) (enc : TypeId × Value → H) (W : World) (base : Nat) (args : Array Value) (ds gs : List (DataW H)) (before : List MemPlace)
    (hval : ∀ (j : Nat) t v, Try.f6.params[j]? = some t → args[j]? = some v → Value.okWide Try.prog W .any base t v)
    (hW : DataW.Whole enc Try.prog Try.f6.params.toList Rows.tableFreshSpec.vars false W args.toList ds gs before) (hsz0 : (DataW.weightsEach Try.prog (Try.f6.params.toList ++ Rows.tableFreshSpec.plain.varTypes Try.prog) (ds ++ gs)).all (· ≤ reachBytes) = true) :
    Calls Try.prog 6 args W fun e W' => ∃ v, e = .returned v ∧ Rows.tableFreshSpec.post enc Try.prog Try.f6 false true false false W args v W' := by
  have hW' := hW
  obtain ⟨p, q, hA0, hV, rfl, hfz, hnd⟩ := hW
  have hA : DataW.TrodAll enc Try.prog W 0 (fun _ => true) true Try.f6.params.toList args.toList ds p := hA0
  rw [Try.params6] at hA hval
  have hsz := hsz0
  rw [Try.params6] at hsz
  clear hsz0
  obtain ⟨v0, vs0, d0, ds0, p0, q0, hargs, rfl, rfl, h0, r0⟩ := trodAll_cons hA
  obtain ⟨v1, vs1, d1, ds1, p1, q1, rfl, rfl, rfl, h1, r1⟩ := trodAll_cons r0
  obtain ⟨v2, vs2, d2, ds2, p2, q2, rfl, rfl, rfl, h2, r2⟩ := trodAll_cons r1
  obtain ⟨v3, vs3, d3, ds3, p3, q3, rfl, rfl, rfl, h3, r3⟩ := trodAll_cons r2
  obtain ⟨rfl, rfl, rfl⟩ := trodAll_nil r3
  obtain rfl : args = #[v0, v1, v2, v3] := by cases args; simp_all
  obtain ⟨rfl, rfl⟩ := trodVars_none hV
  have hk0 := h0
  obtain ⟨l0, hR0, hD0⟩ := gls_read h0 (okWide_slice Try.underlying22 (hval 0 22 v0 rfl rfl))
  obtain ⟨a1, rfl, rfl, rfl, w1⟩ := open_int Try.underlying3 (hval 1 3 v1 rfl rfl) h1
  have hk2 := h2
  obtain ⟨l2, hR2, hD2⟩ := cols_read h2 (okWide_slice Try.underlying34 (hval 2 34 v2 rfl rfl))
  have hk3 := h3
  obtain ⟨l3, hR3, hD3⟩ := lists_read h3 (okWide_slice Try.underlying23 (hval 3 23 v3 rfl rfl))
  clear hA0
  have size0 := gls_reach hsz (j := 0) rfl rfl hD0
  have size2 := cols_reach hsz (j := 2) rfl rfl hD2
  have size3 := lists_reach hsz (j := 3) rfl rfl hD3
  refine (walk v0 l0 a1 v2 l2 v3 l3 W hR0 size0 w1 hR2 size2 hR3 size3).mono fun e W' ⟨he, hg⟩ => ?_
  subst he
  have hlt := hW'.lt
  exact ⟨_, rfl, post_of_below (pa := (p0 ++ ([] ++ (p2 ++ (p3 ++ []))))) (pv := []) hW' (fun _ _ _ => trodAll_cons_mk (shut_bool Try.underlying4 _) trodAll_mk0) (fun sp hsp => (trodAll_cons_mk (Go.WideElems.Trod_stays (by kernel_rfl) (by kernel_rfl) (of_decide_eq_true (by kernel_rfl)) hk0 (fun p hp => hg.same (hlt p (by simp [hp]))) (fun p hp => hsp p (by simp [hp]))) (trodAll_cons_mk (shut_int Try.underlying3 w1) (trodAll_cons_mk (Go.WideElems.Trod_stays (by kernel_rfl) (by kernel_rfl) (of_decide_eq_true (by kernel_rfl)) hk2 (fun p hp => hg.same (hlt p (by simp [hp]))) (fun p hp => hsp p (by simp [hp]))) (trodAll_cons_mk (Go.WideElems.Trod_stays (by kernel_rfl) (by kernel_rfl) (of_decide_eq_true (by kernel_rfl)) hk3 (fun p hp => hg.same (hlt p (by simp [hp]))) (fun p hp => hsp p (by simp [hp]))) trodAll_mk0))))) (fun _ _ => rfl) rfl hg (ok_one (by kernel_rfl) rfl (okWide_bool_mk Try.underlying4 _))⟩

theorem witness_row (os : Os) {H : Type} (enc : TypeId × Value → H) :
    (OpenSpec.ofChange Rows.tableFreshSpec).preRow enc Try.prog Try.f6 Rows.tableFreshRow.domain false Rows.tableFreshRow.laid ((laidWorld os).forCall (fun _ _ => 0) ⟨#[], #[.slice none 0 0, .int .i64 0, .slice none 0 0, .slice none 0 0], []⟩).memory #[.slice none 0 0, .int .i64 0, .slice none 0 0, .slice none 0 0] := by
  have hw : (DataW.whole enc Try.prog ((laidWorld os).forCall (fun _ _ => 0) ⟨#[], #[.slice none 0 0, .int .i64 0, .slice none 0 0, .slice none 0 0], []⟩).memory Try.f6.params.toList Rows.tableFreshSpec.vars false (#[.slice none 0 0, .int .i64 0, .slice none 0 0, .slice none 0 0] : Array Value).toList 8).map (fun x => (x.1, x.2.1)) =
      some ([.nil, .lit (.int .i64 0), .nil, .nil], []) := by kernel_rfl
  obtain ⟨⟨x1, x2, x3⟩, hx, hx1⟩ := Option.map_eq_some_iff.1 hw
  simp only [Prod.mk.injEq] at hx1
  obtain ⟨rfl, rfl⟩ := hx1
  exact OpenSpec.preRow_of_cond 8 hx (by kernel_rfl) (fun k hk => by cases hk) (by kernel_rfl) (laid_met _)

set_option maxRecDepth 100000 in
theorem lifted (os : Os) (started : os.Started) (H : Type) (enc : TypeId × Value → H) (F : Stop.Interp) :
    ReturnsInHanded {} Try.checked os 6 .any ((OpenSpec.ofChange Rows.tableFreshSpec).preRow enc Try.prog Try.f6 Rows.tableFreshRow.domain false Rows.tableFreshRow.laid) (((OpenSpec.ofChange Rows.tableFreshSpec).at F).post enc Try.prog Try.f6 false true false false) := by
  refine returnsInHanded_of_row (C := Try.checked) (s := (OpenSpec.ofChange Rows.tableFreshSpec)) own started (by kernel_rfl) Try.func6
    (witness_row_at (enc := enc) (C := Try.checked) false (laidWorld os) #[.slice none 0 0, .int .i64 0, .slice none 0 0, .slice none 0 0] rfl (by kernel_rfl) (by kernel_rfl) (by kernel_rfl) (witness_row os enc)) ?_
  intro W base args ds gs before hval hW _ hcond hsz hL hS _
  exact contract H enc W base args ds gs before hval hW hsz

set_option maxHeartbeats 16000000 in
theorem closed : joinedFacts Try.pinned.checked.prog 6 Try.f6 ((OpenSpec.ofChange Rows.tableFreshSpec)).bare Rows.tableFreshRow = true := by
  unfold joinedFacts
  repeat' (with_reducible refine Bool.and_eq_true_iff.2 ⟨?_, ?_⟩)
  all_goals (as_aux_lemma => kernel_rfl)
theorem named : Try.pinned.checked.prog.funcNamed Rows.tableFreshRow.func = some 6 := by kernel_rfl
theorem inst : (Try.f6).isInstance Try.pinned.checked.prog Rows.tableFreshRow.origin Rows.tableFreshRow.targs := of_decide_eq_true (by kernel_rfl)
theorem wrap : (Try.f6).isWrapper Try.pinned.checked.prog Rows.tableFreshRow.wrapper Rows.tableFreshRow.mainSum := by
  unfold Func.isWrapper
  first | (rw [if_pos (by decide +kernel)]; kernel_rfl) | (rw [if_neg (by decide +kernel)]; exact ⟨rfl, rfl⟩)
theorem row : Rows.TableFreshSaid :=
  OpenClaim.holds_of_cond 6 Try.f6 rfl rfl rfl rfl rfl rfl rfl ⟨rfl, rfl, rfl, rfl, rfl⟩ rfl rfl rfl rfl rfl named Try.func6 closed inst wrap
    (fun os started H enc _ F => by rw [OpenClaim.pre_eq_preRow]; exact lifted os started H enc F)

theorem proved : Rows.TableFreshSaid := row
end Go.Proofs.Ytpnlajgcfibelaa.tableFresh
