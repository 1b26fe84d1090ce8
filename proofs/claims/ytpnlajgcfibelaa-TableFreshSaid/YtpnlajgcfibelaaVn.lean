/- Layer 12: the document's Row. -/
import Derived.Test.YtpnlajgcfibelaaVm
import Derived.Test.YtpnlajgcfibelaaUo
import Derived.Maps.AppendAt
namespace Go.Proofs.Ytpnlajgcfibelaa.Tb
open Go.RowKit Go.Maps
set_option linter.unusedVariables false
set_option linter.unusedSimpArgs false
/-- The parts of which k are made. -/
def AtP (cs : List (Int × Int)) (fs : List (List Gl)) (k : Nat) (ps : List (List (List Gl))) : Prop :=
  ps.length = k ∧ partsF cs fs = ps ++ partsF (cs.drop k) (fs.drop k) ∧ errF cs fs = errF (cs.drop k) (fs.drop k) ∧ tallF 0 ps * 48 ≤ 140737488355328
theorem cells_newP (w : World) (cs : Array Value) (t : TypeId) : ∀ j u, cs.toList[j]? = some u → (w.alloc (.cells cs t)).cell? ((⟨w.heap.size, 0, none⟩ : Addr).add j) = some u := World.news_of_block (heap_alloc_new w _)
theorem parts_ok : ∀ (cs : List (Int × Int)) (fs : List (List Gl)), errF cs fs = 0 → ∀ i (hi : i < (partsF cs fs).length) (hc : i < cs.length), ∀ r ∈ (partsF cs fs)[i], LineOk cs[i].2 r
  | [], _, _, i, hi, hc => absurd hc (by simp)
  | _ :: _, [], _, i, hi, hc => absurd hi (by simp [partsF])
  | c :: cs, f :: fs, h, i, hi, hc => by
    simp only [errF] at h
    split at h
    · rename_i h0
      cases i with
      | zero => exact fill_lines h0
      | succ i => exact parts_ok cs fs h i (by simpa [partsF] using hi) (by simpa using hc)
    · rename_i h0
      exact absurd h h0
theorem lineF_cons {j : Nat} {r : List Gl} {c : Int × Int} {cs : List (Int × Int)} {p : List (List Gl)} {ps : List (List (List Gl))} : lineF j r (c :: cs) (p :: ps) = lineF j (if j < p.length then putLine r c.1 (p.getD j []) else r) cs ps := rfl
/-- The line of which i columns are done. -/
def LineAt (j : Nat) (cs : List (Int × Int)) (ps : List (List (List Gl))) (i : Nat) (d : Int) (r : List Gl) : Prop :=
  0 ≤ d ∧ d ≤ 200 ∧ standF d (cs.drop i) = true ∧ LineOk d r ∧ lineF j [] cs ps = lineF j r (cs.drop i) (ps.drop i)
set_option maxRecDepth 100000 in
set_option maxHeartbeats 8000000 in
theorem row_ref {P Q : Nat → Prop} (cs : List (Int × Int)) (fs : List (List Gl)) (v u : Value) (w : World) (h : RdC P w v cs) (hf : RdL Q w u fs) (hl : ∀ f ∈ fs, (f.length + 1) * 48 ≤ 140737488355328) :
    Calls Try.prog 21 #[v, u] w (RowPost cs fs w) := by
  obtain ⟨i0, hi0, hz0, hz1, hz2⟩ := info_parts infoP
  obtain ⟨pa, cap, rfl, h1, h2⟩ := sliceC h
  obtain ⟨pf, cf, rfl, h3, h4⟩ := hf.form
  unfold maxLen at h4
  have HST := Lib.hid (apart_ref cs _ w h)
  have HC := Lib.hid h
  have HF := Lib.hid hf
  have HL := Lib.hid hl
  obtain ⟨n, hn⟩ : ∃ n, cs.length = n := ⟨_, rfl⟩
  obtain ⟨m, hm⟩ : ∃ m, fs.length = m := ⟨_, rfl⟩
  have HN := Lib.hid hn
  have HM := Lib.hid hm
  rw [hn] at HC HST h1 ⊢
  rw [hm] at HF h3 ⊢
  have n62 : n ≤ 9223372036854775807 := by omega
  have m62 : m ≤ 9223372036854775807 := by omega
  clear h hf hl hn hm h1 h3
  by_cases hmn : m = n
  · obtain rfl : m = n := hmn
    have t0 : ((m : Int) != (m : Int)) = false := by simp
    obtain ⟨z, hz⟩ : ∃ z, apartF cs = z := ⟨_, rfl⟩
    rw [hz] at HST
    cases z with
    | false =>
      have HE := Lib.hid (show rowE cs fs = 1 by
        unfold rowE
        rw [if_pos]
        unfold apartF at hz
        rw [Bool.and_eq_false_iff] at hz
        rcases hz with h | h
        · exact .inr (.inr (.inr h))
        · have := of_decide_eq_false h
          omega)
      clear hz
      go_enter Try.func21, Try.ntmps21
      go_wp2_with fail
      refine HST.out.mono ?_
      rintro e w1 ⟨rfl, hb⟩
      have HB := Lib.hid hb
      clear hb
      go_wp2_with fail
      go_ret2
      exact row_bad HE.out (by omega) HB.out
    | true =>
      unfold apartF at hz
      rw [Bool.and_eq_true] at hz
      have h8 := of_decide_eq_true hz.2
      rw [HN.out] at h8
      have HZ := Lib.hid hz.1
      have HEE := Lib.hid (show rowE cs fs = errF cs fs by
        unfold rowE
        rw [if_neg]
        rintro (h | h | h | h)
        · exact h (by rw [HN.out, HM.out])
        · rw [HN.out] at h; omega
        · rw [HN.out] at h; omega
        · rw [hz.1] at h; cases h)
      have HAT := Lib.hid (show AtP cs fs 0 [] from ⟨rfl, by rw [List.drop_zero, List.drop_zero]; rfl, by rw [List.drop_zero, List.drop_zero], by simp [tallF]⟩)
      clear hz
      go_enter Try.func21, Try.ntmps21
      go_wp2_with fail
      refine HST.out.mono ?_
      rintro e w1 ⟨rfl, hb⟩
      have HB := Lib.hid hb
      clear hb
      go_wp2_with fail
      go_loopw [6, 7, 8] (fun pv t i wr => ∃ (k : Nat) (ps : List (List (List Gl))) (vs : List Value), i = .int .i64 k ∧ k ≤ m ∧ t = .int .i64 (tallF 0 ps : Nat) ∧ Hid (AtP cs fs k ps) ∧ Hid (OwnP w.heap.size wr pv ps vs) ∧ Hid (Below w.heap.size w wr)) (fun _ _ i _ => m - (intOf i).toNat)
      case atStart => exact ⟨0, [], [], rfl, Nat.zero_le _, rfl, HAT, Lib.hid (OwnP.nil _ _), HB⟩
      case round =>
        obtain ⟨k, ps, vs, rfl, hk, rfl, HA, HR, HBr⟩ := hrel
        by_cases hlt : k < m
        · have hkc : k < cs.length := by rw [HN.out]; exact hlt
          have hkf : k < fs.length := by rw [HM.out]; exact hlt
          obtain ⟨b, off, rfl, _, c0, c1⟩ := (HC.out.below HBr.out).cell hkc
          obtain ⟨b2, o2, p2, q2, rfl, _, l0, _, _, hx⟩ := (HF.out.below HBr.out).at_ hkf
          have hdc := List.drop_eq_getElem_cons hkc
          have hdf := List.drop_eq_getElem_cons hkf
          have hxl := HL.out _ (List.getElem_mem hkf)
          obtain ⟨c, hc⟩ : ∃ c, cs[k] = c := ⟨_, rfl⟩
          obtain ⟨x, hxx⟩ : ∃ x, fs[k] = x := ⟨_, rfl⟩
          rw [hc] at c0 c1 hdc
          rw [hxx] at l0 hx hdf hxl
          obtain ⟨a1, a2, a3, a4⟩ := HA.out
          rw [hdc, hdf] at a2 a3
          simp only [partsF] at a2
          simp only [errF] at a3
          have HXG := Lib.hid hx
          have HA1 := Lib.hid a1
          have HA2 := Lib.hid a2
          have HA3 := Lib.hid a3
          have HA4 := Lib.hid a4
          have HXL := Lib.hid hxl
          have k1 : (k : Int) < m := by omega
          have HLT := Lib.hid hlt
          obtain ⟨z, hz⟩ : ∃ z, x.length = z := ⟨_, rfl⟩
          rw [hz] at HXG l0
          have HZZ := Lib.hid hz
          have HS0 := Lib.hid (show wr.drew.cell? ⟨b2, o2 + k, none⟩ = some (.slice p2 z q2) ∧ wr.drew.cell? ⟨b, off + k * 2 + 1, none⟩ = some (.int .i64 c.2) ∧ Below wr.heap.size wr wr.drew from ⟨l0, c1, (Below.refl _ _).drew⟩)
          clear hc hxx hx hdc hdf hxl a1 a2 a3 a4 hlt hz
          go_upto_region 8 with fail
          go_region_held3 (fun w' => w'.cell? ⟨b2, o2 + k, none⟩ = some (.slice p2 z q2) ∧ w'.cell? ⟨b, off + k * 2 + 1, none⟩ = some (.int .i64 c.2) ∧ Below wr.heap.size wr w')
            (first | exact HS0.out | exact ⟨(h8.cell (p := ⟨b2, o2 + k, none⟩) (cellInL (by assumption : _ ∧ _ ∧ Below wr.heap.size wr _).1)).trans (by assumption : _ ∧ _ ∧ Below wr.heap.size wr _).1, (h8.cell (p := ⟨b, off + k * 2 + 1, none⟩) (cellInL (by assumption : _ ∧ _ ∧ Below wr.heap.size wr _).2.1)).trans (by assumption : _ ∧ _ ∧ Below wr.heap.size wr _).2.1, (by assumption : _ ∧ _ ∧ Below wr.heap.size wr _).2.2.trans (h8.mono (by assumption : _ ∧ _ ∧ Below wr.heap.size wr _).2.2.size)⟩ | assumption)
            ((first
              | (go_at_call 13; refine (fill_ref c.2 x _ _ (HXG.out.below ((by assumption : _ ∧ _ ∧ Below wr.heap.size wr _).2.2)) HXL.out).mono ?_; rintro e w8 ⟨v8, rfl, ho8, h8⟩)))
          rename_i K hK hHeld
          have hh : Below wr.heap.size wr w8 := hHeld.2.2
          simp only [Exit.then]
          refine hK _ _ ?_
          clear hK K hHeld
          have hB8 := HBr.out.trans (hh.mono HBr.out.size)
          obtain ⟨E, hE⟩ : ∃ E, fillE c.2 x = E := ⟨_, rfl⟩
          have HA3' := HA3.out
          rw [hE] at HA3'
          by_cases h0 : E = 0
          · subst h0
            have hf : fillL c.2 x = fillM c.2 x := by unfold fillL; rw [if_pos hE]
            rw [hf] at ho8
            have hR8 := OwnP.below HR.out hh
            have hown : ∀ b, u6.ownBlock = some b → b < wr.heap.size := fun b hb => (own_base HR.out.row hb).2
            have hlen := fill_len hE
            obtain ⟨y, hy⟩ : ∃ y, fillM c.2 x = y := ⟨_, rfl⟩
            rw [hy] at ho8 hlen
            have hA2 := HA2.out
            rw [hy] at hA2
            obtain ⟨p8, c8, rfl, _, _⟩ := ho8.form
            obtain ⟨z8, hz8⟩ : ∃ z8, y.length = z8 := ⟨_, rfl⟩
            have HZ8 := Lib.hid hz8
            have hxl := HXL.out
            have h4 := HA4.out
            have hk1 := HA1.out
            rw [hz8] at ho8 hlen ⊢
            have hA10 := below_box w8 (.cells #[.slice p8 z8 c8] 23)
            have HR10 := Lib.hid (hR8.below hA10)
            have HY10 := Lib.hid ((((ho8.imp (Q := fun b => wr.heap.size ≤ b ∧ b < w8.heap.size) fun b hlt hb => ⟨hb, hlt⟩)).below hA10).imp (Q := fun b => w.heap.size ≤ b ∧ u6.ownBlock ≠ some b ∧ b < w8.heap.size) fun b _ hb => by
              have hb' : wr.heap.size ≤ b := hb.1
              have := HBr.out.size
              exact ⟨by omega, fun e => by have := hown b e; omega, hb.2⟩)
            have HB10 := Lib.hid (hB8.trans (hA10.mono hB8.size))
            have L1 := Lib.hid (show ps.length + 1 ≤ maxLen by unfold maxLen; omega)
            have L2 := Lib.hid (show (ps.length + 1) * 24 ≤ 140737488355328 by omega)
            have L3 := Lib.hid (show w.heap.size ≤ (w8.alloc (.cells #[.slice p8 z8 c8] 23)).heap.size from HB10.out.size)
            have HT := Lib.hid (show tallF 0 (ps ++ [y]) = max (tallF 0 ps) z8 by rw [tallF_snoc, hz8])
            have HT4 := Lib.hid (show tallF 0 (ps ++ [y]) * 48 ≤ 140737488355328 by rw [HT.out]; omega)
            have HATN := Lib.hid (show AtP cs fs (k + 1) (ps ++ [y]) from ⟨by simp [hk1], by rw [hA2]; simp, by rw [HA3', if_pos rfl], HT4.out⟩)
            have HON := Lib.hid (show ∀ u ∈ [Value.slice p8 z8 c8], u.oneCell' = true from fun u hu => by rw [List.mem_singleton] at hu; rw [hu]; rfl)
            have HPL := Lib.hid (show ps.length = k from hk1)
            obtain ⟨p6, c6, rfl⟩ := lenL HR.out.row
            rw [hE]
            clear hh hB8 hf hR8 hown hlen hxl h4 ho8 hE h8 hA10 hy hz8 hA2 HA3' hk1
            go_wp2_with (at_builtin; go_loud (refine wpList_append_own_at _ rfl _ _ 77 rfl w.heap.size 23 i0 _ 1 24 Try.underlying77 hi0 hz0 hz1 hz2 rfl (by decide) _ _ _ rfl HR10.out.row ⟨w8.heap.size, 0, none⟩ 1 1 [.slice p8 z8 c8] rfl rfl (cells_newP w8 _ _) HON.out L1.out L2.out L3.out ?_); intro v11 w11 hown11 hg11 _ hnb11; have HO11 := Lib.hid hown11; have HG11 := Lib.hid hg11; have HNB := Lib.hid hnb11; clear hown11 hg11 hnb11)
            have HRN := Lib.hid (HR10.out.push (v' := v11) (u := .slice p8 z8 c8) (p := y) (HY10.out.imp fun b _ hb => ⟨hb.1, hb.2.1, fun e => by
              rcases HNB.out with h | h
              · rw [h] at e; exact hb.2.1 e
              · rw [h] at e
                have e' := Option.some.inj e
                have : w8.heap.size ≤ (w8.alloc (.cells #[.slice p8 z8 c8] 23)).heap.size := (below_box w8 _).size
                have := hb.2.2
                omega⟩) HO11.out HG11.out (fun b e => by
              rcases HNB.out with h | h
              · rw [h] at e; exact .inl e
              · rw [h] at e
                have e' := Option.some.inj e
                exact .inr (by omega)))
            have HB11 := Lib.hid (HB10.out.grown HG11.out L3.out (fun c hc => (own_base HR10.out.row hc).1))
            go_roundw
            case measure => have := HLT.out; simp [intOf]; omega
            case rel => exact ⟨k + 1, ps ++ [y], _, by go_num, HLT.out, by rw [HT.out]; congr 1; split <;> omega, HATN, HRN, HB11⟩
          · have tE : (E != 0) = true := by simp [h0]
            have HEC := Lib.hid (show errF cs fs = E by rw [HA3', if_neg h0])
            have HB8 := Lib.hid hB8
            rw [hE]
            clear hh hB8 ho8 hE h8 HA3'
            go_wp2_with fail
            go_ret2
            exact row_bad (HEE.out.trans HEC.out) h0 HB8.out
        · obtain rfl : k = m := by omega
          have hzk : ¬ (k : Int) < k := by omega
          obtain ⟨a1, a2, a3, a4⟩ := HA.out
          have e1 : cs.drop k = [] := List.drop_eq_nil_of_le (by rw [HN.out]; exact Nat.le_refl _)
          rw [e1] at a2 a3
          have HE0 := Lib.hid (show rowE cs fs = 0 by rw [HEE.out, a3]; rfl)
          have HPS := Lib.hid (show partsF cs fs = ps by rw [a2]; simp [partsF])
          have HRL := Lib.hid (show rowL cs fs = (List.range (tallF 0 ps)).map fun j => lineF j [] cs ps by
            unfold rowL
            rw [if_pos HE0.out, rowF_eq (by rw [HN.out, HM.out]), HPS.out])
          have HPR := Lib.hid HR.out.rd
          have HPN := Lib.hid a1
          have h4' := a4
          obtain ⟨p6, c6, rfl⟩ := lenL HR.out.row
          obtain ⟨T, hT⟩ : ∃ T, tallF 0 ps = T := ⟨_, rfl⟩
          have HTT := Lib.hid hT
          rw [hT] at h4' ⊢
          rw [a1] at HPR ⊢
          have T62 : T ≤ 9223372036854775807 := by omega
          have HCR := Lib.hid (HC.out.below HBr.out)
          have HBW := Lib.hid HBr.out
          have HPO := Lib.hid (show ∀ i (hi : i < ps.length) (hc : i < cs.length), ∀ r ∈ ps[i], LineOk cs[i].2 r by
            intro i hi hc
            have := parts_ok cs fs (by rw [← HEE.out]; exact HE0.out) i (by rw [HPS.out]; exact hi) hc
            simpa only [HPS.out] using this)
          clear hlt a1 a2 a3 a4 e1 hT HF HR HA
          obtain ⟨W2, rfl⟩ : ∃ W2 : World, W2 = wr := ⟨wr, rfl⟩
          go_wp2_with fail
          go_loopw [11, 12] (fun ov i wr => ∃ (j : Nat) (us : List Value), i = .int .i64 j ∧ j ≤ T ∧ Hid (OwnR W2.heap.size wr ov ((List.range j).map fun j => lineF j [] cs ps) us) ∧ Hid (Below W2.heap.size W2 wr)) (fun _ i _ => T - (intOf i).toNat)
          case atStart => exact ⟨0, [], rfl, Nat.zero_le _, Lib.hid (OwnL.nil _ _ _), Lib.hid (Below.refl _ _)⟩
          case round =>
            obtain ⟨j, us, rfl, hj, HO, HBo⟩ := hrel
            obtain ⟨w0, rfl⟩ : ∃ w0 : World, w0 = wr := ⟨wr, rfl⟩
            by_cases hlt : j < T
            · have j1 : (j : Int) < T := by omega
              have HLT := Lib.hid hlt
              clear hlt
              go_wp2_with fail
              go_loopw [13, 14] (fun lv i wr => ∃ (q : Nat) (d : Int) (r : List Gl), i = .int .i64 q ∧ q ≤ k ∧ Hid (LineAt j cs ps q d r) ∧ Hid (wr.ownsRow w0.heap.size 49 5 lv r.length (rowsG r)) ∧ Hid (Below w0.heap.size w0 wr)) (fun _ i _ => k - (intOf i).toNat)
              case atStart => exact ⟨0, 0, [], rfl, Nat.zero_le _, Lib.hid ⟨by omega, by omega, by rw [List.drop_zero]; exact HZ.out, lineOk_nil (by omega), by rw [List.drop_zero, List.drop_zero]⟩, Lib.hid (World.ownsRow_nil _ _ _ _), Lib.hid (Below.refl _ _)⟩
              case round =>
                obtain ⟨q, d, r, rfl, hq, HA, HR, HBi⟩ := hrel
                obtain ⟨w3, rfl⟩ : ∃ w3 : World, w3 = wr := ⟨wr, rfl⟩
                by_cases hlt : q < k
                · have hqc : q < cs.length := by rw [HN.out]; exact hlt
                  have hqp : q < ps.length := by rw [HPN.out]; exact hlt
                  have hb := HBo.out.trans (HBi.out.mono HBo.out.size)
                  obtain ⟨b, off, rfl, _, c0, c1⟩ := (HCR.out.below hb).cell hqc
                  obtain ⟨b2, o2, p2, q2, rfl, _, l0, l1, l2, hx⟩ := (HPR.out.below hb).at_ hqp
                  have hdc := List.drop_eq_getElem_cons hqc
                  have hdp := List.drop_eq_getElem_cons hqp
                  have hok := HPO.out q hqp hqc
                  obtain ⟨c, hc⟩ : ∃ c, cs[q] = c := ⟨_, rfl⟩
                  obtain ⟨p, hp⟩ : ∃ p, ps[q] = p := ⟨_, rfl⟩
                  rw [hc] at c0 c1 hdc hok
                  rw [hp] at l0 hx hdp hok
                  obtain ⟨a1, a2, a3, a4, a5⟩ := HA.out
                  rw [hdc, standF_cons, Bool.and_eq_true, Bool.and_eq_true] at a3
                  rw [hdc, hdp, lineF_cons] at a5
                  have s1 : 1 ≤ c.2 ∧ c.2 ≤ 200 := of_decide_eq_true a3.1.1
                  have s2 : d ≤ c.1 ∧ c.1 ≤ 200 - c.2 := of_decide_eq_true a3.1.2
                  have HS3 := Lib.hid a3.2
                  have HA4 := Lib.hid a4
                  have HA5 := Lib.hid a5
                  have HOK := Lib.hid hok
                  have HX := Lib.hid hx
                  have k1 : (q : Int) < k := by omega
                  have HLT2 := Lib.hid hlt
                  obtain ⟨z, hz⟩ : ∃ z, p.length = z := ⟨_, rfl⟩
                  have HZL := Lib.hid hz
                  rw [hz] at l0 HX
                  obtain ⟨pr, cr, rfl⟩ := lenL HR.out
                  have HCE := Lib.hid (fun (h : q < cs.length) => (show cs[q] = c from hc))
                  have HPE := Lib.hid (fun (h : q < ps.length) => (show ps[q] = p from hp))
                  clear l1 l2 hc hp hx hdc hdp hok a3 a4 a5 hlt hz hqc
                  by_cases hjz : j < z
                  · have zj : ¬ (z : Int) ≤ j := by omega
                    have hjp : j < p.length := by rw [HZL.out]; exact hjz
                    have HJP := Lib.hid hjp
                    have hwr1 := line_nn HA4.out
                    have hwr2 := HA4.out.2
                    have hrl := line_len HA4.out
                    have HW := Lib.hid (wide_ref r _ w3 (any_own HR.out) (by omega) (line_small HA4.out))
                    obtain ⟨u, hu⟩ : ∃ u, wid r = u := ⟨_, rfl⟩
                    have HU := Lib.hid hu
                    rw [hu] at HW hwr1 hwr2
                    have HB3 := HBi
                    obtain ⟨nr, hnr⟩ : ∃ nr, r.length = nr := ⟨_, rfl⟩
                    have HNR := Lib.hid hnr
                    have HR0 := HR
                    rw [hnr] at hrl HW HR0 ⊢
                    clear hu hnr hjp hjz hb
                    go_wp2_with fail
                    refine HW.out.mono ?_
                    rintro e w4 ⟨rfl, rfl⟩
                    go_wp2_with fail
                    obtain ⟨j0, hj0, hy0, hy1, hy2⟩ := info_parts infoG
                    have hg0 : u ≤ c.1 := by omega
                    go_loopw [13, 15] (fun lv at_ wr => ∃ (t : Nat), at_ = .int .i64 (u + t) ∧ u + t ≤ c.1 ∧ Hid (wr.ownsRow w0.heap.size 49 5 lv (nr + t) (rowsG (r ++ List.replicate t plainG))) ∧ Hid (Below w0.heap.size w0 wr)) (fun _ at_ _ => (c.1 - intOf at_).toNat)
                    case atStart => exact ⟨0, by simp, by omega, Lib.hid (by simpa using HR0.out), HB3⟩
                    case round =>
                      obtain ⟨t, rfl, ht, HT4, HB4⟩ := hrel
                      obtain ⟨w5, rfl⟩ : ∃ w5 : World, w5 = wr := ⟨wr, rfl⟩
                      have hb5 := HBo.out.trans (HB4.out.mono HBo.out.size)
                      have hqc : q < cs.length := by rw [HN.out]; exact HLT2.out
                      by_cases hlt : u + t < c.1
                      · obtain ⟨_, _, e, _, c0', c1'⟩ := (HCR.out.below hb5).cell hqc
                        cases e
                        rw [HCE.out hqc] at c0'
                        clear c1'
                        obtain ⟨pv, cv, rfl⟩ := lenL HT4.out
                        have L1 := Lib.hid (show nr + t + 1 ≤ maxLen by unfold maxLen; omega)
                        have L2 := Lib.hid (show (nr + t + 1) * 48 ≤ 140737488355328 by omega)
                        have HLT4 := Lib.hid hlt
                        have sw : IntKind.i64.wrap (u + (t : Int) + 1) = u + (t : Int) + 1 := IntWalk.i64_in _ (by omega)
                        have HREP := Lib.hid (show rowsG (r ++ List.replicate (t + 1) plainG) = rowsG (r ++ List.replicate t plainG) ++ glRow plainG by simp [rowsG, List.replicate_succ'])
                        clear hb5 hqc
                        go_wp2_with fail
                        refine (plain_ref w5).mono ?_
                        rintro e w6 ⟨rfl, h6⟩
                        rename_i K hK
                        dsimp only
                        refine hK _ _ ?_
                        clear hK K
                        have hA6 := below_box w6 (boxG plainG)
                        have HT6 := Lib.hid (own_below (own_below HT4.out h6) hA6)
                        have HB6 := Lib.hid ((HB4.out.trans (h6.mono HB4.out.size)).trans (hA6.mono (Nat.le_trans HB4.out.size h6.size)))
                        have L3 := Lib.hid HB6.out.size
                        clear h6 hA6
                        unfold boxG plainG at HT6 HB6 L3
                        simp only [bl1] at HT6 HB6 L3
                        go_wp2_with (at_builtin; go_loud (refine wpList_append_own _ rfl _ _ 22 rfl w0.heap.size 49 j0 _ 5 48 Try.underlying22 hj0 hy0 hy1 hy2 rfl (by decide) _ _ _ rfl HT6.out ⟨w6.heap.size, 0, none⟩ 1 1 (glRow plainG) rfl rfl (cells_newL _ _ _) (glRow_one plainG) L1.out L2.out L3.out ?_); intro v7 w7 hown7 hg7 _; have HO7 := Lib.hid hown7; have HB7 := Lib.hid (HB6.out.grown hg7 L3.out (fun c hc => (own_base HT6.out hc).1)); clear hown7 hg7)
                        have HO8 := Lib.hid (show w7.ownsRow w0.heap.size 49 5 v7 (nr + (t + 1)) (rowsG (r ++ List.replicate (t + 1) plainG)) by rw [HREP.out]; exact HO7.out)
                        go_roundw
                        case measure => have := HLT4.out; simp [intOf]; omega
                        case rel => exact ⟨t + 1, by congr 1; omega, by have := HLT4.out; omega, HO8, HB7⟩
                      · have htc : u + t = c.1 := by omega
                        have hqp' : q < ps.length := by rw [HPN.out]; exact HLT2.out
                        obtain ⟨_, _, e, _, c0', c1'⟩ := (HCR.out.below hb5).cell hqc
                        cases e
                        rw [HCE.out hqc] at c0'
                        clear c1'
                        obtain ⟨_, _, p5, q5, e, _, l0', l1', l2', hx'⟩ := (HPR.out.below hb5).at_ hqp'
                        cases e
                        rw [HPE.out hqp', HZL.out] at l0'
                        rw [HPE.out hqp'] at hx'
                        clear l1' l2'
                        obtain ⟨b3, o3, p6', q6, rfl, _, m0, m1, m2, hline⟩ := hx'.at_ HJP.out
                        have hmem : p[j]'HJP.out ∈ p := List.getElem_mem _
                        have hgd : p.getD j [] = p[j]'HJP.out := by rw [List.getD_eq_getElem?_getD, List.getElem?_eq_getElem HJP.out]; rfl
                        have hlok := HOK.out _ hmem
                        have ha5 := HA5.out
                        rw [if_pos HJP.out, hgd] at ha5
                        obtain ⟨l, hll⟩ : ∃ l, p[j]'HJP.out = l := ⟨_, rfl⟩
                        rw [hll] at m0 hline hlok ha5
                        have hlen := line_len hlok
                        have HN5 := Lib.hid (show LineAt j cs ps (q + 1) (c.1 + c.2) (putLine r c.1 l) from ⟨by omega, by omega, HS3.out, putLine_ok HA4.out s2.1 hlok, ha5⟩)
                        have ht2 : (c.1 - wid r).toNat = t := by rw [HU.out]; omega
                        obtain ⟨nl, hnl⟩ : ∃ nl, l.length = nl := ⟨_, rfl⟩
                        have HPL := Lib.hid (show (putLine r c.1 l).length = nr + t + nl by unfold putLine; rw [ht2]; simp only [List.length_append, List.length_replicate, HNR.out, hnl])
                        have HPR2 := Lib.hid (show rowsG (putLine r c.1 l) = rowsG (r ++ List.replicate t plainG) ++ rowsG l by unfold putLine; rw [ht2]; simp [rowsG])
                        have HLI := Lib.hid hline.lies
                        rw [hnl] at m0 HLI hlen
                        have j2 : (j : Int) < z := by omega
                        have L1 := Lib.hid (show nr + t + nl ≤ maxLen by unfold maxLen; omega)
                        have L2 := Lib.hid (show (nr + t + nl) * 48 ≤ 140737488355328 by omega)
                        have L3 := Lib.hid HB4.out.size
                        obtain ⟨pv, cv, rfl⟩ := lenL HT4.out
                        have hnc : ¬ (u + (t : Int) < c.1) := by omega
                        clear m1 m2
                        clear hb5 hqc hlok ha5 hmem hgd hll hline hx' hnl hlt
                        go_wp2_with (at_builtin; go_loud (refine wpList_append_lies' rfl _ _ 22 rfl w0.heap.size 49 j0 _ 5 48 Try.underlying22 hj0 hy0 hy1 hy2 rfl (by decide) _ _ _ rfl HT4.out _ _ _ rfl HLI.out L1.out L2.out L3.out ?_); intro v7 w7 hown7 hg7; have HO7 := Lib.hid hown7; have HB7 := Lib.hid (HB4.out.grown hg7 L3.out (fun c hc => (own_base HT4.out hc).1)); clear hown7 hg7)
                        have HO8 := Lib.hid (show w7.ownsRow w0.heap.size 49 5 v7 (putLine r c.1 l).length (rowsG (putLine r c.1 l)) by rw [HPL.out, HPR2.out]; exact HO7.out)
                        go_roundw
                        case measure => have := HLT2.out; simp [intOf]; omega
                        case rel => exact ⟨q + 1, c.1 + c.2, _, by go_num, HLT2.out, HN5, HO8, HB7⟩
                  · have zj : (z : Int) ≤ j := by omega
                    have HN5 := Lib.hid (show LineAt j cs ps (q + 1) (c.1 + c.2) r from ⟨by omega, by omega, HS3.out, HA4.out.mono (by omega), by rw [HA5.out, if_neg (by rw [HZL.out]; exact hjz)]⟩)
                    have HB3 := HBi
                    clear hjz hb
                    go_wp2_with fail
                    go_roundw
                    case measure => have := HLT2.out; simp [intOf]; omega
                    case rel => exact ⟨q + 1, c.1 + c.2, r, by go_num, HLT2.out, HN5, HR, HB3⟩
                · obtain rfl : q = k := by omega
                  have hzq : ¬ (q : Int) < q := by omega
                  obtain ⟨a1, a2, a3, a4, a5⟩ := HA.out
                  have e1 : cs.drop q = [] := List.drop_eq_nil_of_le (by rw [HN.out]; exact Nat.le_refl _)
                  rw [e1] at a5
                  have hr : lineF j [] cs ps = r := by rw [a5]; rfl
                  obtain ⟨pr, cr, rfl⟩ := lenL HR.out
                  obtain ⟨po, co, hpo⟩ := lenL HO.out.row
                  rw [List.length_map, List.length_range] at hpo
                  subst hpo
                  obtain ⟨nr, hnr⟩ : ∃ nr, r.length = nr := ⟨_, rfl⟩
                  have hown : ∀ b, (Value.slice po j co).ownBlock = some b → b < w0.heap.size := fun b hb => (own_base HO.out.row hb).2
                  have hg : RdG (fun b => W2.heap.size ≤ b ∧ (Value.slice po j co).ownBlock ≠ some b ∧ b < w3.heap.size) w3 (.slice pr r.length cr) r := (RdG.own HR.out rfl).imp fun b hlt hb => by
                    have := HBo.out.size
                    exact ⟨by omega, fun e => by have := hown b e; omega, hlt⟩
                  rw [hnr] at hg ⊢
                  have hA := below_box w3 (.cells #[.slice pr nr cr] 22)
                  have HGX := Lib.hid (hg.below hA)
                  have HO3 := Lib.hid ((HO.out.below HBi.out).below hA)
                  have HB3 := Lib.hid (HBo.out.trans ((HBi.out.trans (hA.mono HBi.out.size)).mono HBo.out.size))
                  have L1 := Lib.hid (show j + 1 ≤ maxLen by have := HLT.out; unfold maxLen; omega)
                  have L2 := Lib.hid (show (j + 1) * 24 ≤ 140737488355328 by have := HLT.out; omega)
                  have L3 := Lib.hid HB3.out.size
                  have HON := Lib.hid (show ∀ u ∈ [Value.slice pr nr cr], u.oneCell' = true from fun u hu => by rw [List.mem_singleton] at hu; rw [hu]; rfl)
                  have HRNG := Lib.hid (show ((List.range (j + 1)).map fun j => lineF j [] cs ps) = ((List.range j).map fun j => lineF j [] cs ps) ++ [r] by rw [List.range_succ, List.map_append]; simp [hr])
                  have HRL3 := Lib.hid (show w3.heap.size ≤ (w3.alloc (.cells #[.slice pr nr cr] 22)).heap.size from hA.size)
                  obtain ⟨j0, hj0, hy0, hy1, hy2⟩ := info_parts infoL
                  have hrow := HO3.out.row
                  rw [List.length_map, List.length_range] at hrow
                  have HROW := Lib.hid hrow
                  clear hrow hA hg hown a1 a2 a3 a4 a5 e1 hlt
                  go_wp2_with (at_builtin; go_loud (refine wpList_append_own_at _ rfl _ _ 23 rfl W2.heap.size 22 j0 _ 1 24 Try.underlying23 hj0 hy0 hy1 hy2 rfl (by decide) _ _ _ rfl HROW.out ⟨w3.heap.size, 0, none⟩ 1 1 [.slice pr nr cr] rfl rfl (cells_newL w3 _ _) HON.out L1.out L2.out L3.out ?_); intro v7 w7 hown7 hg7 _ hnb7; have HO7 := Lib.hid hown7; have HG7 := Lib.hid hg7; have HNB := Lib.hid hnb7; clear hown7 hg7 hnb7)
                  have HMV := Lib.hid (show ∀ b, (W2.heap.size ≤ b ∧ (Value.slice po j co).ownBlock ≠ some b) → b < (w3.alloc (.cells #[.slice pr nr cr] 22)).heap.size → w7.heap[b]? = (w3.alloc (.cells #[.slice pr nr cr] 22)).heap[b]? ∧ W2.heap.size ≤ b ∧ v7.ownBlock ≠ some b from fun b hb hlt => ⟨HG7.out.block b hlt (fun e => hb.2 e.symm), hb.1, fun e => by
                    rcases HNB.out with h | h
                    · rw [h] at e; exact hb.2 e
                    · rw [h] at e
                      have e' := Option.some.inj e
                      omega⟩)
                  have HN8 := Lib.hid (show OwnR W2.heap.size w7 v7 ((List.range (j + 1)).map fun j => lineF j [] cs ps) (us ++ [.slice pr nr cr]) by
                    rw [HRNG.out]
                    exact OwnL.push HO3.out (HGX.out.move fun b hb hlt => HMV.out b ⟨hb.1, hb.2.1⟩ hlt) (by rw [List.length_map, List.length_range]; exact HO7.out) HMV.out)
                  have HB8 := Lib.hid (HB3.out.grown HG7.out L3.out (fun c hc => (own_base HROW.out hc).1))
                  go_roundw
                  case measure => have := HLT.out; simp [intOf]; omega
                  case rel => exact ⟨j + 1, _, by go_num, HLT.out, HN8, HB8⟩
            · obtain rfl : j = T := by omega
              have hzj : ¬ (j : Int) < j := by omega
              have HO2 := Lib.hid (show OwnR W2.heap.size w0 u11 (rowL cs fs) us by rw [HRL.out, HTT.out]; exact HO.out)
              have HBF := Lib.hid (HBW.out.trans (HBo.out.mono HBW.out.size))
              clear hlt
              go_wp2_with fail
              go_ret2
              exact ⟨u11, by rw [HE0.out]; rfl, HO2.out.rd (fun b hb _ => Nat.le_trans HBW.out.size hb) (fun b _ hb => Nat.le_trans HBW.out.size hb.1), HBF.out⟩
  · have t0 : ((m : Int) != (n : Int)) = true := by simp; omega
    have HE := Lib.hid (show rowE cs fs = 1 by unfold rowE; rw [if_pos (by rw [HN.out, HM.out]; exact .inl hmn)])
    clear HST
    go_enter Try.func21, Try.ntmps21
    go_wp2_with fail
    go_ret2
    exact row_bad HE.out (by omega) (Below.refl _ _)
end Go.Proofs.Ytpnlajgcfibelaa.Tb
