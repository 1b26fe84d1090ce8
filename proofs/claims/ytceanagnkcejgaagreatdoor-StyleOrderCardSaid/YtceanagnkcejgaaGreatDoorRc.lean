/- The program's readColor, readChange. -/
import Derived.Test.YtceanagnkcejgaaGreatDoorRb
import Derived.Lib.ItoaMem
import Derived.Lib.AtoiErrMem
import Derived.Shelf.SlSorted.Search
namespace Go.Proofs.YtceanagnkcejgaaGreatDoor
open Go.RowKit
set_option linter.unusedVariables false

theorem itoa_small : ∀ k, k < 16 → Lib.decDigits k = itoaL k := by
  intro k hk
  rw [Lib.decDigits]
  by_cases h : k < 10
  · rw [dif_pos h]; unfold itoaL; rw [if_pos h]
  · rw [dif_neg h, Lib.decDigits, dif_pos (by omega)]
    unfold itoaL
    rw [if_neg h, show k / 10 = 1 by omega, show 48 + k % 10 = 38 + k by omega]
    rfl
theorem itoa_is (k : Nat) (h : k < 16) : Lib.itoa (k : Int) = itoaL k := by rw [Lib.itoa_nonneg, itoa_small k h]
theorem atoi_is : ∀ k, k < 16 → Lib.atoiAll (itoaL k) = .ok (k : Int) := by decide +kernel
theorem colF_some {w : List UInt8} : ∀ {f n k : Nat}, colF w f n = some k → itoaL k = w ∧ n ≤ k ∧ k < n + f
  | 0, n, k, h => by simp [colF] at h
  | f + 1, n, k, h => by
    unfold colF at h
    split at h
    · rename_i e; injection h with h; subst h; exact ⟨e, by omega, by omega⟩
    · obtain ⟨h1, h2, h3⟩ := colF_some h; exact ⟨h1, by omega, by omega⟩
theorem colF_none {w : List UInt8} : ∀ {f n : Nat}, colF w f n = none → ∀ k, n ≤ k → k < n + f → itoaL k ≠ w
  | 0, n, h, k, h1, h2 => by omega
  | f + 1, n, h, k, h1, h2 => by
    unfold colF at h
    split at h
    · cases h
    · rename_i e
      by_cases hk : k = n
      · subst hk; exact e
      · exact colF_none h k (by omega) (by omega)
theorem colOf_some {w : List UInt8} {k : Nat} (h : colOf w = some k) : itoaL k = w ∧ k < 16 := by
  obtain ⟨h1, _, h3⟩ := colF_some h; exact ⟨h1, by omega⟩
/-- What Atoi and Itoa must say where a word is no color. -/
theorem colOf_none {w : List UInt8} (h : colOf w = none) {v : Int} (hi : Lib.itoa v = w) : v < 0 ∨ 15 < v := by
  rcases Int.lt_or_le v 0 with h1 | h1
  · exact .inl h1
  · rcases Int.lt_or_le 15 v with h2 | h2
    · exact .inr h2
    · exfalso
      obtain ⟨k, rfl⟩ : ∃ k : Nat, v = k := ⟨v.toNat, by omega⟩
      have := colF_none h k (by omega) (by omega)
      rw [itoa_is k (by omega)] at hi
      exact this hi
/-- Atoi, whatever the word. -/
theorem atoi_pro (t : List UInt8) (w : World) (ht : t.length ≤ 4096) (hT : Tabs w) :
    Calls Tryz.prog 69 #[.string (bs t)] w fun e w' => (match Lib.atoiAll t with
      | .ok v => e = .returned (.tuple #[.int .i64 v, .nilIface])
      | _ => ∃ n ty p, e = .returned (.tuple #[.int .i64 n, .iface ty p])) ∧ Below w.heap.size w w' := by
  have e1 : (bs t).data.toList = t := by simp [bs]
  rcases h : Lib.atoiAll t with v | _ | _
  ·
    refine (Tryz.strconv_Atoi_ok (bs t) (by rw [bs_len]; omega) v (by rw [e1]; exact h) w).mono ?_
    rintro e w' ⟨rfl, h2⟩
    refine ⟨rfl, ?_⟩
    rcases h2 with rfl | ⟨s, rfl⟩
    · exact Below.refl _ _
    · exact Lib.bytesWorld_below _ _ _
  ·
    obtain ⟨tp, p, hv⟩ := hT.syn
    refine (Any.strconv_Atoi_syntax_var Tryz.laysC172 (bs t) (by rw [bs_len]; omega) (by rw [e1]; exact h) tp p w hv).mono ?_
    rintro e w' ⟨N, rfl, _, _, hb⟩
    exact ⟨⟨_, _, _, rfl⟩, hb⟩
  ·
    obtain ⟨tp, p, hv⟩ := hT.rng
    refine (Tryz.strconv_Atoi_range_var (bs t) (by rw [bs_len]; omega) (by rw [e1]; exact h) tp p w hv).mono ?_
    rintro e w' ⟨N, rfl, _, _, hb⟩
    exact ⟨⟨_, _, _, rfl⟩, hb⟩
theorem itoa_pro (v : Int) (w : World) (h0 : -9223372036854775808 ≤ v) (h1 : v ≤ 9223372036854775807) (hT : Tabs w) :
    Calls Tryz.prog 50 #[.int .i64 v] w (Says (.string (bs (Lib.itoa v))) w) := by
  refine (Tryz.strconv_Itoa v h0 h1 w hT.pow).mono ?_
  rintro e w' ⟨rfl, k, os, rfl⟩
  exact ⟨rfl, below_grown_sl _ w k os (Nat.le_refl _)⟩
/-- What stands behind the word 'color'. -/
def colC (c : Chg) : List (List UInt8) → Option Chg
  | [] => none
  | n :: _ => if c.col = -1 then (colOf n).map (fun (k : Nat) => (⟨c.on, c.off, (k : Int)⟩ : Chg)) else none
theorem colC_on {c : Chg} {n : List UInt8} {r : List (List UInt8)} (h : c.col = -1) : colC c (n :: r) = (colOf n).map (fun (k : Nat) => (⟨c.on, c.off, (k : Int)⟩ : Chg)) := by simp [colC, h]
theorem colC_no {c : Chg} {n : List UInt8} {r : List (List UInt8)} (h : ¬ c.col = -1) : colC c (n :: r) = none := by simp [colC, h]

set_option maxRecDepth 100000 in
set_option maxHeartbeats 8000000 in
theorem readColor_pro (b : Nat) (s : Sty) (v : Value) (ws : List (List UInt8)) (w : World) (h : SBox w b s) (hw : RdW w v ws) (hl : ∀ x ∈ ws, x.length ≤ 4096) (hT : Tabs w) :
    Calls Tryz.prog 60 #[.pointer (some ⟨b, 2, none⟩), v] w (RdPost b s 2 (colC s.ch ws) w) := by
  obtain ⟨c0, c1, c2, c3, c4⟩ := h.get
  have z4 := h.free 4
  have H := Lib.hid h
  have HT := Lib.hid hT
  obtain ⟨pw, cw, rfl, hc1, hc2⟩ := hw.form
  unfold maxLen at hc2
  clear h hT
  cases ws with
  | nil =>
    have HC := Lib.hid (show colC s.ch [] = none from rfl)
    go_enter Tryz.func60, Tryz.ntmps60
    go_wp2_with fail
    go_ret
    rw [HC.out]
    exact ⟨rfl, Only.of (Below.refl _ _), H.out⟩
  | cons n r =>
    have hn := hl n (by simp)
    obtain ⟨bw, ow, rfl, d0⟩ := hw.first
    simp only [List.length_cons] at hc1 ⊢
    have hlr : (0 : Int) < ((r.length + 1 : Nat) : Int) := by omega
    have hlz : (((r.length + 1 : Nat) : Int) == 0) = false := by simp; omega
    have HW := Lib.hid hw
    clear hw hl
    by_cases hcol : s.ch.col = -1
    · have t1 : (s.ch.col != -1) = false := by simpa using hcol
      have HA := Lib.hid (atoi_pro n w hn HT.out)
      have HCC := Lib.hid (colC_on (n := n) (r := r) hcol)
      clear hcol
      cases hco : colOf n with
      | some k =>
        obtain ⟨he, hk⟩ := colOf_some hco
        have HC := Lib.hid (show colC s.ch (n :: r) = some ⟨s.ch.on, s.ch.off, (k : Int)⟩ by rw [HCC.out, hco]; rfl)
        have HK := Lib.hid hk
        have ha := atoi_is k hk
        rw [he] at ha
        have hi := itoa_is k hk
        rw [he] at hi
        have HI := Lib.hid hi
        rw [ha] at HA
        dsimp only at HA
        have k1 : ¬ (k : Int) < 0 := by omega
        have k2 : ¬ (15 : Int) < k := by omega
        have tn := bs_toList n
        have tnn : (n == n) = true := by simp
        clear hco he hk ha hi
        go_enter Tryz.func60, Tryz.ntmps60
        go_wp2_with fail
        refine HA.out.mono ?_
        rintro e w1 ⟨rfl, hb⟩
        have HB1 := Lib.hid hb
        have H1 := Lib.hid (H.out.keep hb)
        have HT1 := Lib.hid (HT.out.at hb)
        clear hb
        go_wp2_with fail
        refine (itoa_pro (k : Int) w1 (by omega) (by have := HK.out; omega) HT1.out).mono ?_
        rw [HI.out]
        rintro e w2 ⟨rfl, hb⟩
        have HB2 := Lib.hid (HB1.out.trans (hb.mono HB1.out.size))
        have hh2 := H1.out.keep hb
        have H2 := Lib.hid hh2
        obtain ⟨_, _, _, _, e4⟩ := hh2.get
        have y4 := hh2.free 4
        clear hb hh2
        go_wp2_with fail
        go_ret
        rw [HC.out]
        exact ⟨rfl, (Only.of HB2.out).set _, heap_setCell_same _ b 4 _ _ (.int .i64 (k : Int)) H2.out⟩
      | none =>
        have HC := Lib.hid (show colC s.ch (n :: r) = none by rw [HCC.out, hco]; rfl)
        have HN := Lib.hid (fun (v : Int) (hi : Lib.itoa v = n) => colOf_none hco hi)
        clear hco
        rcases ha : Lib.atoiAll n with v | _ | _
        ·
          rw [ha] at HA
          dsimp only at HA
          have hbd := Lib.atoiAll_bounds ha
          have HBD := Lib.hid hbd
          obtain ⟨y, hy⟩ : ∃ y, Lib.itoa v = y := ⟨_, rfl⟩
          have HY := Lib.hid hy
          have ty := bs_toList y
          have tn := bs_toList n
          have b1 := hbd.1
          have b2 := hbd.2
          clear ha hbd hy
          by_cases hyn : y = n
          · have hv := HN.out v (HY.out.trans hyn)
            have tyn : (y != n) = false := by simpa using hyn
            have tyn2 : (y == n) = true := by simpa using hyn
            clear hyn
            rcases hv with hv | hv
            all_goals
              go_enter Tryz.func60, Tryz.ntmps60
              go_wp2_with fail
              refine HA.out.mono ?_
              rintro e w1 ⟨rfl, hb⟩
              have HB1 := Lib.hid hb
              have H1 := Lib.hid (H.out.keep hb)
              have HT1 := Lib.hid (HT.out.at hb)
              clear hb
              go_wp2_with fail
              refine (itoa_pro v w1 (by have := HBD.out; omega) (by have := HBD.out; omega) HT1.out).mono ?_
              rw [HY.out]
              rintro e w2 ⟨rfl, hb⟩
              have HB2 := Lib.hid (HB1.out.trans (hb.mono HB1.out.size))
              have H2 := Lib.hid (H1.out.keep hb)
              clear hb
              go_wp2_with fail
              go_ret
              rw [HC.out]
              exact ⟨rfl, Only.of HB2.out, H2.out⟩
          · have tyn : (y != n) = true := by simpa using hyn
            have tyn2 : (y == n) = false := by simpa using hyn
            clear hyn
            go_enter Tryz.func60, Tryz.ntmps60
            go_wp2_with fail
            refine HA.out.mono ?_
            rintro e w1 ⟨rfl, hb⟩
            have HB1 := Lib.hid hb
            have H1 := Lib.hid (H.out.keep hb)
            have HT1 := Lib.hid (HT.out.at hb)
            clear hb
            go_wp2_with fail
            refine (itoa_pro v w1 (by have := HBD.out; omega) (by have := HBD.out; omega) HT1.out).mono ?_
            rw [HY.out]
            rintro e w2 ⟨rfl, hb⟩
            have HB2 := Lib.hid (HB1.out.trans (hb.mono HB1.out.size))
            have H2 := Lib.hid (H1.out.keep hb)
            clear hb
            go_wp2_with fail
            go_ret
            rw [HC.out]
            exact ⟨rfl, Only.of HB2.out, H2.out⟩
        ·
          rw [ha] at HA
          dsimp only at HA
          clear ha
          go_enter Tryz.func60, Tryz.ntmps60
          go_wp2_with fail
          refine HA.out.mono ?_
          rintro e w1 ⟨⟨m, ty, p, rfl⟩, hb⟩
          have HB1 := Lib.hid hb
          have H1 := Lib.hid (H.out.keep hb)
          clear hb
          go_wp2_with fail
          go_ret
          rw [HC.out]
          exact ⟨rfl, Only.of HB1.out, H1.out⟩
        ·
          rw [ha] at HA
          dsimp only at HA
          clear ha
          go_enter Tryz.func60, Tryz.ntmps60
          go_wp2_with fail
          refine HA.out.mono ?_
          rintro e w1 ⟨⟨m, ty, p, rfl⟩, hb⟩
          have HB1 := Lib.hid hb
          have H1 := Lib.hid (H.out.keep hb)
          clear hb
          go_wp2_with fail
          go_ret
          rw [HC.out]
          exact ⟨rfl, Only.of HB1.out, H1.out⟩
    · have t1 : (s.ch.col != -1) = true := by simpa using hcol
      have HC := Lib.hid (colC_no (n := n) (r := r) hcol)
      clear hcol
      go_enter Tryz.func60, Tryz.ntmps60
      go_wp2_with fail
      go_ret
      rw [HC.out]
      exact ⟨rfl, Only.of (Below.refl _ _), H.out⟩
end Go.Proofs.YtceanagnkcejgaaGreatDoor
