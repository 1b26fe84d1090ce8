/- What is proved: TableGreedy holds of all words, every width and all ends: no other way to part words has fewer lines. -/
import Derived.Test.YtadecjjbpoaooaaVw
import Derived.Test.YtadecjjbpoaooaaVi
import Derived.Test.YtadecjjbpoaooaaPost
import Derived.ProofKit
import Derived.OpenShut
import Derived.Deep.DeepHandedRow
import Derived.Deep.CutRange
import Derived.Deep.CutBlock
namespace Go.Proofs.Ytadecjjbpoaooaa.tableGreedy
open Go.ChangeShapes Go.WideShapes Go.ChangeAt Go.RowKit Go.Maps Go.Proofs.Ytadecjjbpoaooaa.Tb
open Go.ChangeMaps (open_string shut_string)
set_option linter.unusedVariables false
set_option linter.unusedSimpArgs false
def castL (ns : List Nat) : List Int := ns.map (fun (n : Nat) => (n : Int))
theorem flow_len : ∀ (ns : List Nat), (∀ n ∈ ns, n ≤ 200) → (flowW ns).length ≤ ns.length * 201 := by
  have ht : ∀ ns : List Nat, (∀ n ∈ ns, n ≤ 200) → (tailW ns).length ≤ ns.length * 201 := fun ns => by
    induction ns with
    | nil => intro _; simp [tailW]
    | cons n ns ih =>
      intro h
      have h1 := h n (by simp)
      have h2 := ih fun x hx => h x (List.mem_cons_of_mem _ hx)
      have e : tailW (n :: ns) = b0 :: (wordG n ++ tailW ns) := by simp [tailW]
      rw [e]
      simp only [List.length_cons, List.length_append, wordG, List.length_replicate]
      omega
  intro ns h
  cases ns with
  | nil => simp [flowW]
  | cons n ns =>
    have h1 := h n (by simp)
    have h2 := ht ns fun x hx => h x (List.mem_cons_of_mem _ hx)
    simp only [flowW, List.length_cons, List.length_append, wordG, List.length_replicate]
    omega
theorem firstA_le : ∀ r : List Gl, firstA r ≤ r.length := fun r => (List.takeWhile_sublist _).length_le
theorem firstA_in : ∀ {r : List Gl} {j : Nat}, j < firstA r → ∃ hj : j < r.length, isA r[j] = true
  | [], j, h => by simp [firstA] at h
  | g :: r, j, h => by
    unfold firstA at h
    rw [List.takeWhile_cons] at h
    split at h
    · rename_i hg
      match j with
      | 0 => exact ⟨by simp, hg⟩
      | j + 1 =>
        obtain ⟨h1, h2⟩ := firstA_in (r := r) (j := j) (by simpa [firstA] using h)
        exact ⟨by simpa using h1, by simpa using h2⟩
    · simp at h
theorem firstA_out : ∀ {r : List Gl}, firstA r < r.length → ∃ hj : firstA r < r.length, isA r[firstA r] = false
  | [], h => by simp [firstA] at h
  | g :: r, h => by
    refine ⟨h, ?_⟩
    by_cases hg : isA g = true
    · have e : firstA (g :: r) = firstA r + 1 := by unfold firstA; rw [List.takeWhile_cons, if_pos hg]; rfl
      have h' : firstA r < r.length := by rw [e] at h; simpa using h
      obtain ⟨_, h2⟩ := firstA_out h'
      simp only [e, List.getElem_cons_succ]
      exact h2
    · have e : firstA (g :: r) = 0 := by unfold firstA; rw [List.takeWhile_cons, if_neg hg]; rfl
      simp only [e, List.getElem_cons_zero]
      simpa using hg
/-- What is made so far. -/
structure Mk (A : Nat) (w0 wr : World) (lv fv : Value) (ns : List Nat) (f : List Gl) : Prop where
  long : wr.ownsRow A 3 1 lv ns.length (numsZ (castL ns))
  flow : wr.ownsRow A 40 5 fv f.length (rowsG f)
  below : Below A w0 wr
theorem Mk.le {A : Nat} {w0 wr : World} {lv fv : Value} {ns : List Nat} {f : List Gl} (h : Mk A w0 wr lv fv ns f) (hA : A ≤ w0.heap.size) : A ≤ wr.heap.size := Nat.le_trans hA h.below.size
theorem Mk.mv {A : Nat} {w0 wr w' : World} {lv fv : Value} {ns : List Nat} {f : List Gl} (h : Mk A w0 wr lv fv ns f) (hA : A ≤ w0.heap.size) (hb : Below wr.heap.size wr w') : Mk A w0 w' lv fv ns f :=
  ⟨own_below h.long hb, own_below h.flow hb, h.below.trans (hb.mono (h.le hA))⟩
/-- A number more. -/
theorem Mk.num {A : Nat} {w0 w w' : World} {lv fv v' : Value} {ns : List Nat} {f : List Gl} {n m : Nat} (h : Mk A w0 w lv fv ns f) (hA : A ≤ w0.heap.size) (hn : ns.length = n) (ho : w'.ownsRow A 3 1 v' (n + 1) (numsZ (castL ns) ++ [.int .i64 (m : Int)])) (hg : w.grownBy w' lv.ownBlock) : Mk A w0 w' v' fv (ns ++ [m]) f := by
  subst hn
  refine ⟨?_, own_stays h.flow fun c hc => hg.block c (own_base h.flow hc).2 (fun e => own_ne h.flow h.long (by decide) hc e.symm), h.below.grown hg (h.le hA) (fun c hc => (own_base h.long hc).1)⟩
  have e : numsZ (castL (ns ++ [m])) = numsZ (castL ns) ++ [.int .i64 (m : Int)] := by simp [numsZ, castL]
  rw [e, List.length_append]
  exact ho
/-- A glyph more. -/
theorem Mk.put {A : Nat} {w0 w w' : World} {lv fv v' : Value} {ns : List Nat} {f : List Gl} {g : Gl} {n : Nat} (h : Mk A w0 w lv fv ns f) (hA : A ≤ w0.heap.size) (hn : f.length = n) (ho : w'.ownsRow A 40 5 v' (n + 1) (rowsG f ++ glRow g)) (hg : w.grownBy w' fv.ownBlock) : Mk A w0 w' lv v' ns (f ++ [g]) := by
  subst hn
  refine ⟨own_stays h.long fun c hc => hg.block c (own_base h.long hc).2 (fun e => own_ne h.long h.flow (by decide) hc e.symm), ?_, h.below.grown hg (h.le hA) (fun c hc => (own_base h.flow hc).1)⟩
  rw [rowsG_snoc, List.length_append]
  exact ho
set_option maxRecDepth 100000 in
set_option maxHeartbeats 8000000 in
theorem walk (v : Value) (ws : List Int) (x : Int) (u : Value) (es : List Int) (W : World) (hR : RdZ (fun _ => True) W v ws) (hs : ws.length * 8 ≤ 140737488351232) (hx : (Lit.int .i64 x).wf = true) (hU : RdZ (fun _ => True) W u es) (hus : es.length * 8 ≤ 140737488351232) :
    Calls Try.prog 5 #[v, .int .i64 x, u] W fun e W' => e = .returned (.bool true) ∧ Below W.heap.size W W' := by
  obtain ⟨i0, hi0, hz0, hz1, hz2⟩ := info_parts infoI
  obtain ⟨j0, hj0, hy0, hy1, hy2⟩ := info_parts infoG
  have HR := Lib.hid hR
  have HU := Lib.hid hU
  have hx' : -9223372036854775808 ≤ x ∧ x ≤ 9223372036854775807 := by simpa [Lit.wf, IntKind.min, IntKind.max, IntKind.signed, IntKind.bits] using hx
  obtain ⟨pa, ca, rfl, _, _⟩ := sliceZ hR
  obtain ⟨pb, cb, rfl, _, _⟩ := sliceZ hU
  obtain ⟨N, hN⟩ : ∃ N, ws.length = N := ⟨_, rfl⟩
  have N62 : N ≤ 9223372036854775807 := by omega
  have HN := Lib.hid hN
  obtain ⟨M, hM⟩ : ∃ M, es.length = M := ⟨_, rfl⟩
  rw [hN] at HR ⊢
  rw [hM] at HU ⊢
  clear hR hU hs hus hx hN hM
  go_enter Try.func5, Try.ntmps5
  go_wp2_with fail
  refine (awake_law W).mono ?_
  rintro e w1 ⟨rfl, b1⟩
  have B1 := Lib.hid b1
  have R1 := Lib.hid (HR.out.below b1)
  have U1 := Lib.hid (HU.out.below b1)
  clear b1
  by_cases hb : x < 1 ∨ 200 < x
  · have HFE := Lib.hid (show fillE x [] = 1 by unfold fillE; rw [if_pos hb])
    have HFP := Lib.hid (fill_pro (P := fun _ => True) x [] (.slice none 0 0) w1 (RdG.nil _ 0 (by unfold maxLen; omega) _) (by simp))
    by_cases c1 : x < 1
    · have t1 : decide (x < 1) = true := decide_eq_true c1
      clear hb hx'
      go_wp2_with fail
      refine HFP.out.mono ?_
      rintro e w2 ⟨v2, rfl, o2, b2⟩
      rw [HFE.out]
      have B2 := Lib.hid (B1.out.trans (b2.mono B1.out.size))
      clear o2 b2
      go_wp2_with fail
      go_ret
      exact ⟨rfl, B2.out⟩
    · have t1 : decide (x < 1) = false := decide_eq_false c1
      have t2 : decide (200 < x) = true := decide_eq_true (by omega)
      clear hb hx'
      go_wp2_with fail
      refine HFP.out.mono ?_
      rintro e w2 ⟨v2, rfl, o2, b2⟩
      rw [HFE.out]
      have B2 := Lib.hid (B1.out.trans (b2.mono B1.out.size))
      clear o2 b2
      go_wp2_with fail
      go_ret
      exact ⟨rfl, B2.out⟩
  · have x1 : 1 ≤ x := by omega
    have x2 : x ≤ 200 := by omega
    have t1 : decide (x < 1) = false := decide_eq_false (by omega)
    have t2 : decide (200 < x) = false := decide_eq_false (by omega)
    clear hb hx'
    go_upto_block 0 with fail
    go_cut [9, 10] from 35 (fun lv fv wx => ∃ (ns : List Nat) (k : Nat), ns.length = k ∧ k ≤ 300 ∧ Hid (∀ n ∈ ns, 1 ≤ n ∧ (n : Int) ≤ x) ∧ Hid (Mk w1.heap.size w1 wx lv fv ns (flowW ns)))
    case first =>
      go_wp2_with fail
      go_loopw [9, 10, 11] (fun lv fv i wr => ∃ (k : Nat) (ns : List Nat), i = .int .i64 k ∧ k ≤ N ∧ k ≤ 300 ∧ ns.length = k ∧ Hid (∀ n ∈ ns, 1 ≤ n ∧ (n : Int) ≤ x) ∧ Hid (Mk w1.heap.size w1 wr lv fv ns (flowW ns))) (fun _ _ i _ => 300 - (intOf i).toNat)
      case atStart => exact ⟨0, [], rfl, Nat.zero_le _, Nat.zero_le _, rfl, Lib.hid (fun n hn => absurd hn (by simp)), Lib.hid ⟨World.ownsRow_nil _ _ _ _, World.ownsRow_nil _ _ _ _, Below.refl _ _⟩⟩
      case round =>
        obtain ⟨wo, rfl⟩ : ∃ wo : World, wo = wr := ⟨wr, rfl⟩
        obtain ⟨k, ns, rfl, hk, hk3, hnk, HNS, HMK⟩ := hrel
        by_cases hgo : k < N ∧ k < 300
        · obtain ⟨hlt, hl3⟩ := hgo
          have k1 : (k : Int) < N := by omega
          have k3 : (k : Int) < 300 := by omega
          have HL3 := Lib.hid hl3
          have HLT := Lib.hid hlt
          have hkl : k < ws.length := by rw [HN.out]; exact hlt
          obtain ⟨b, off, rfl, hc⟩ := (R1.out.below HMK.out.below).cell hkl
          obtain ⟨z, hz⟩ : ∃ z, ws[k] = z := ⟨_, rfl⟩
          rw [hz] at hc
          have HNK := Lib.hid hnk
          obtain ⟨p9, c9, rfl⟩ := lenL HMK.out.long
          obtain ⟨p10, c10, rfl⟩ := lenL HMK.out.flow
          obtain ⟨r, hr⟩ : ∃ r : Nat, (IntKind.u64.wrap z).tmod x = (r : Int) := by
            have h0 : 0 ≤ (IntKind.u64.wrap z) := by simp [IntKind.wrap, IntKind.bits, IntKind.signed]; omega
            exact ⟨((IntKind.u64.wrap z).tmod x).toNat, by have := Int.tmod_nonneg x h0; omega⟩
          have hr2 : (r : Int) < x := by
            rw [← hr]; exact Int.tmod_lt_of_pos _ (by omega)
          have hr3 : (r : Int) ≤ 199 := by omega
          have hnk2 := hnk
          have hns := HNS.out
          have hfl := flow_len ns fun n hn => by have := hns n hn; omega
          have HFL := Lib.hid (show (flowW ns).length ≤ 60300 by rw [hnk] at hfl; omega)
          clear hns hfl
          obtain ⟨fl, hfl⟩ : ∃ fl, (flowW ns).length = fl := ⟨_, rfl⟩
          have HFN := Lib.hid hfl
          have hf3 : fl ≤ 60300 := by rw [← hfl]; exact HFL.out
          rw [hnk, hfl]
          clear hz hkl hlt hl3 hk3 hk hnk hfl
          go_upto_region 12 with fail
          obtain ⟨m, hm⟩ : ∃ m : Nat, 1 + (r : Int) = m := ⟨r + 1, by omega⟩
          have HMM := Lib.hid (show 1 ≤ m ∧ (m : Int) ≤ x by omega)
          have m1 : 1 ≤ m := HMM.out.1
          have m2 : (m : Int) ≤ 200 := by omega
          have m3 : m ≤ 200 := by omega
          rw [hm]
          clear hr hm hr2 hr3
          have HK0 := Lib.hid hnk2
          have hA := below_box wo (.cells #[.int .i64 (m : Int)] 3)
          have HM2 := Lib.hid (show Mk w1.heap.size w1 (wo.alloc (.cells #[.int .i64 (m : Int)] 3)) (.slice p9 k c9) (.slice p10 fl c10) ns (flowW ns) by have h := HMK.out.mv (Nat.le_refl _) hA; rw [HK0.out, HFN.out] at h; exact h)
          have HL0 := Lib.hid (show (wo.alloc (.cells #[.int .i64 (m : Int)] 3)).ownsRow w1.heap.size 3 1 (.slice p9 k c9) k (numsZ (castL ns)) by have h := HM2.out.long; rw [hnk2] at h; exact h)
          have L1 := Lib.hid (show k + 1 ≤ maxLen by unfold maxLen; omega)
          have L2 := Lib.hid (show (k + 1) * 8 ≤ 140737488355328 by omega)
          have L3 := Lib.hid (HM2.out.le (Nat.le_refl _))
          have HON := Lib.hid (show ∀ u ∈ [Value.int .i64 (m : Int)], u.oneCell' = true from fun u hu => by rw [List.mem_singleton] at hu; rw [hu]; rfl)
          clear hA hnk2
          go_upto_if 60 with (at_builtin; go_loud (refine wpList_append_own _ rfl _ _ 22 rfl w1.heap.size 3 i0 _ 1 8 Try.underlying22 hi0 hz0 hz1 hz2 rfl (by decide) _ _ _ rfl HL0.out ⟨wo.heap.size, 0, none⟩ 1 1 [.int .i64 (m : Int)] rfl rfl (cells_newL _ _ _) HON.out L1.out L2.out L3.out ?_); intro v4 w4 hown4 hg4 _; have HM4 := Lib.hid (HM2.out.num (Nat.le_refl _) HK0.out hown4 hg4); clear hown4 hg4)
          go_cut [10] from 35 to 73 (fun s10 wx => ∃ (F1 : List Gl), F1 = flowW ns ++ (if ns = [] then [] else [b0]) ∧ F1.length ≤ 60301 ∧ Hid (Mk w1.heap.size w1 wx v4 s10 (ns ++ [m]) F1))
          case first =>
            rcases Nat.eq_zero_or_pos k with hk0 | hk0
            · have hne : ns = [] := List.eq_nil_of_length_eq_zero (by rw [HK0.out]; exact hk0)
              have HNE := Lib.hid hne
              subst hk0
              have d0 : decide ((0 : Int) < ((0 : Nat) : Int)) = false := by simp
              clear hne
              go_wp2_with fail
              go_meet
              case rel => exact ⟨flowW ns, by rw [if_pos HNE.out, List.append_nil], by rw [HFN.out]; omega, Lib.hid (by first | exact HM4.out | (have h := HM4.out; rw [← HFN.out]; exact h))⟩
            · have hne : ns ≠ [] := fun h => by have := HK0.out; rw [h] at this; simp at this; omega
              have HNE := Lib.hid hne
              have d0 : decide ((0 : Int) < (k : Int)) = true := decide_eq_true (by omega)
              have d1 : (0 : Int) < k := by omega
              have hA := below_box w4 (boxG b0)
              have HM5 := Lib.hid (HM4.out.mv (Nat.le_refl _) hA)
              unfold boxG b0 bl1 at HM5
              have HF0 := Lib.hid (show (w4.alloc (.cells #[.string ⟨#[32]⟩, .int .i64 0, .int .i64 0, .int .i64 0, .int .i64 0] 40)).ownsRow w1.heap.size 40 5 (.slice p10 fl c10) fl (rowsG (flowW ns)) by have h := HM5.out.flow; rw [HFN.out] at h; exact h)
              have P1 := Lib.hid (show fl + 1 ≤ maxLen by unfold maxLen; omega)
              have P2 := Lib.hid (show (fl + 1) * 48 ≤ 140737488355328 by omega)
              have P3 := Lib.hid (HM5.out.le (Nat.le_refl _))
              clear hA hne
              go_wp2_with (at_builtin; go_loud (refine wpList_append_own _ rfl _ _ 32 rfl w1.heap.size 40 j0 _ 5 48 Try.underlying32 hj0 hy0 hy1 hy2 rfl (by decide) _ _ _ rfl HF0.out ⟨w4.heap.size, 0, none⟩ 1 1 (glRow b0) rfl rfl (cells_newL _ _ _) (glRow_one b0) P1.out P2.out P3.out ?_); intro v6 w6 hown6 hg6 _; have HM6 := Lib.hid (HM5.out.put (g := b0) (Nat.le_refl _) HFN.out hown6 hg6); clear hown6 hg6)
              go_wp2_with fail
              go_meet
              case rel => exact ⟨flowW ns ++ [b0], by rw [if_neg HNE.out], by rw [List.length_append, HFN.out]; simp; omega, HM6⟩
          case rest =>
            obtain ⟨F1, hF1, hF2, HM7⟩ := hcut
            have HSN := Lib.hid (show flowW (ns ++ [m]) = F1 ++ wordG m by rw [flowW_snoc, hF1])
            have HM8 := Lib.hid (show Mk w1.heap.size w1 wc v4 _ (ns ++ [m]) (F1 ++ wordG 0) by have h := HM7.out; simpa [wordG] using h) 
            obtain ⟨f1, hf1⟩ : ∃ f1, F1.length = f1 := ⟨_, rfl⟩
            have HF1 := Lib.hid hf1
            rw [hf1] at hF2
            have HSN2 := HSN
            clear hF1 hf1
            go_wp2_with fail
            go_loopw [10, 13] (fun fv j wr => ∃ (q : Nat), j = .int .i64 q ∧ q ≤ m ∧ Hid (Mk w1.heap.size w1 wr v4 fv (ns ++ [m]) (F1 ++ wordG q))) (fun _ j _ => m - (intOf j).toNat)
            case atStart => exact ⟨0, rfl, Nat.zero_le _, HM8⟩
            case round =>
              obtain ⟨wi, rfl⟩ : ∃ wi : World, wi = wr := ⟨wr, rfl⟩
              obtain ⟨q, rfl, hq, HMQ⟩ := hrel
              by_cases hqm : q < m
              · have q1 : (q : Int) < m := by omega
                have HQM := Lib.hid hqm
                have hlen : (F1 ++ wordG q).length = f1 + q := by rw [List.length_append, HF1.out]; simp [wordG]
                obtain ⟨p3, c3, e3⟩ := lenL HMQ.out.flow
                rw [hlen] at e3
                subst e3
                have hA := below_box wi (boxG aG)
                have HM5 := Lib.hid (HMQ.out.mv (Nat.le_refl _) hA)
                unfold boxG aG bl1 at HM5
                obtain ⟨f2, hf2⟩ : ∃ f2, f1 + q = f2 := ⟨_, rfl⟩
                rw [hf2] at HM5 hlen HMQ ⊢
                have HLN := Lib.hid hlen
                have HF0 := Lib.hid (show (wi.alloc (.cells #[.string ⟨#[97]⟩, .int .i64 1, .int .i64 0, .int .i64 0, .int .i64 0] 40)).ownsRow w1.heap.size 40 5 (.slice p3 f2 c3) f2 (rowsG (F1 ++ wordG q)) by have h := HM5.out.flow; rw [HLN.out] at h; exact h)
                have P1 := Lib.hid (show f2 + 1 ≤ maxLen by unfold maxLen; omega)
                have P2 := Lib.hid (show (f2 + 1) * 48 ≤ 140737488355328 by omega)
                have P3 := Lib.hid (HM5.out.le (Nat.le_refl _))
                have HWG := Lib.hid (show (F1 ++ wordG q) ++ [aG] = F1 ++ wordG (q + 1) by
                  rw [List.append_assoc]; congr 1; unfold wordG; rw [List.replicate_succ'])
                clear hA hqm hlen hf2
                go_wp2_with (at_builtin; go_loud (refine wpList_append_own _ rfl _ _ 32 rfl w1.heap.size 40 j0 _ 5 48 Try.underlying32 hj0 hy0 hy1 hy2 rfl (by decide) _ _ _ rfl HF0.out ⟨wi.heap.size, 0, none⟩ 1 1 (glRow aG) rfl rfl (cells_newL _ _ _) (glRow_one aG) P1.out P2.out P3.out ?_); intro v6 w6 hown6 hg6 _; have HM6 := Lib.hid (HM5.out.put (g := aG) (Nat.le_refl _) HLN.out hown6 hg6); clear hown6 hg6)
                rw [HWG.out] at HM6
                go_wp2_with fail
                go_roundw
                case measure => have := HQM.out; simp [intOf]; omega
                case rel => exact ⟨q + 1, by go_num, HQM.out, HM6⟩
              · obtain rfl : m = q := by omega
                have hzq : ¬ (m : Int) < m := by omega
                rw [← HSN.out] at HMQ
                have HNS2 := Lib.hid (show ∀ n ∈ ns ++ [m], 1 ≤ n ∧ (n : Int) ≤ x from fun n hn => by
                  rcases List.mem_append.1 hn with h | h
                  · exact HNS.out n h
                  · rw [List.mem_singleton] at h
                    rw [h]; exact HMM.out)
                have HNK2 := Lib.hid (show (ns ++ [m]).length = k + 1 by rw [List.length_append, HK0.out]; rfl)
                clear hqm
                go_wp2_with fail
                go_roundw
                case measure => have := HL3.out; simp [intOf]; omega
                case rel => exact ⟨k + 1, ns ++ [m], by go_num, HLT.out, HL3.out, HNK2.out, HNS2, HMQ⟩
        · have HK3 := Lib.hid hk3
          have hg1 : decide ((k : Int) < N) = false ∨ decide ((k : Int) < 300) = false := by
            by_cases h : k < N
            · right; exact decide_eq_false fun h2 => hgo ⟨h, by omega⟩
            · left; exact decide_eq_false fun h2 => h (by omega)
          have HG1 := Lib.hid hg1
          by_cases hkN : k < N
          · have kN : (k : Int) < N := by omega
            have k3 : ¬ (k : Int) < 300 := fun h => hgo ⟨hkN, by omega⟩
            have d3 : decide ((k : Int) < 300) = false := decide_eq_false k3
            clear hg1 hgo hkN hk hk3
            go_wp2_with fail
            go_meet
            case rel => exact ⟨ns, k, hnk, HK3.out, HNS, HMK⟩
          · have kN : ¬ (k : Int) < N := by omega
            have d3 : decide ((k : Int) < N) = false := decide_eq_false kN
            clear hg1 hgo hkN hk hk3
            go_wp2_with fail
            go_meet
            case rel => exact ⟨ns, k, hnk, HK3.out, HNS, HMK⟩
    case rest =>
      obtain ⟨ns, k, hnk, hk3, HNS, HMK⟩ := hcut
      have hns := HNS.out
      have hfl := flow_len ns fun n hn => by have := hns n hn; omega
      have hE := flow_fillE x1 x2 ns
      obtain ⟨rs, hrs⟩ : ∃ rs, fillL x (flowW ns) = rs := ⟨_, rfl⟩
      have hrm : fillM x (flowW ns) = rs := by rw [← hrs]; unfold fillL; rw [if_pos hE]
      obtain ⟨g1, g2⟩ := greedy x1 es ns hns
      rw [hrm] at g1 g2
      have HG1 := Lib.hid g1
      have HG2 := Lib.hid g2
      have HLO := Lib.hid (show ∀ r ∈ rs, LineOk x r by have := fill_lines hE; rw [hrm] at this; exact this)
      have HE := Lib.hid hE
      have HRS := Lib.hid hrs
      have HF2 := Lib.hid (show ((flowW ns).length + 1) * 24 ≤ 140737488355328 by rw [hnk] at hfl; omega)
      have HNS3 := Lib.hid (show ns.length ≤ 300 by omega)
      have HLR := Lib.hid (show RdZ AnyB wc _ (castL ns) from any_z (RdZ.own HMK.out.long (by simp [castL])))
      have HFR := Lib.hid (show RdG AnyB wc _ (flowW ns) from any_own HMK.out.flow)
      have BC := Lib.hid (B1.out.trans (HMK.out.below.mono B1.out.size))
      have UC := Lib.hid (U1.out.below HMK.out.below)
      obtain ⟨p9, c9, rfl⟩ := lenL HMK.out.long
      obtain ⟨p10, c10, rfl⟩ := lenL HMK.out.flow
      obtain ⟨fl, hfln⟩ : ∃ fl, (flowW ns).length = fl := ⟨_, rfl⟩
      rw [hfln] at HFR ⊢
      rw [hnk] at HLR ⊢
      clear g1 g2 hE hrs hrm hfl hns hfln hnk HMK
      go_wp2_with fail
      refine (fill_pro x (flowW ns) _ wc HFR.out HF2.out).mono ?_
      rintro e w2 ⟨v2, rfl, o2, b2⟩
      rw [HE.out]
      have R2 := Lib.hid (any_l o2)
      rw [HRS.out] at R2
      have B2 := Lib.hid (BC.out.trans (b2.mono BC.out.size))
      have U2 := Lib.hid (UC.out.below b2)
      have L2 := Lib.hid (HLR.out.below b2)
      clear o2 b2
      obtain ⟨p8, c8, rfl, h81, h82⟩ := R2.out.form
      obtain ⟨q, hq⟩ : ∃ q, rs.length = q := ⟨_, rfl⟩
      have HQ := Lib.hid hq
      rw [hq] at R2 h81 ⊢
      rw [hq] at HG2
      have q62 : q ≤ 9223372036854775807 := by unfold maxLen at h82; omega
      clear hq h81 h82
      go_wp2_with fail
      refine (parts_law ns es _ _ x w2 L2.out U2.out HNS.out ⟨x1, x2⟩ HNS3.out).mono ?_
      rintro e w3 ⟨rfl, rfl⟩
      obtain ⟨O, hO⟩ : ∃ O, partsN x es 0 0 0 ns = O := ⟨_, rfl⟩
      have HOO := Lib.hid (fun r (h : O = some r) => HG2.out r (hO.trans h))
      rw [hO]
      clear hO
      cases O with
      | none =>
        simp only [partsV]
        go_wp2_with fail
        go_loopw [18] (fun i wr => ∃ k : Nat, i = .int .i64 k ∧ (k = 0 ∨ k < q) ∧ Hid (Below w2.heap.size w2 wr)) (fun i _ => q - (intOf i).toNat)
        case atStart => exact ⟨0, rfl, .inl rfl, Lib.hid (Below.refl _ _)⟩
        case round =>
          obtain ⟨wo, rfl⟩ : ∃ wo : World, wo = wr := ⟨wr, rfl⟩
          obtain ⟨k, rfl, hk, HB⟩ := hrel
          obtain ⟨k2, hk2⟩ : ∃ k2 : Nat, k + 1 = k2 := ⟨_, rfl⟩
          have k62 : (k : Int) ≤ 9223372036854775806 := by omega
          have e1 : (k : Int) + 1 = (k2 : Int) := by omega
          have HK2 := Lib.hid hk2
          by_cases hlt : k2 < q
          · have k1 : (k2 : Int) < q := by omega
            have HLT := Lib.hid hlt
            have h0 : k < rs.length := by rw [HQ.out]; omega
            have h1 : k2 < rs.length := by rw [HQ.out]; omega
            have hch := HG1.out k (by rw [HQ.out]; omega)
            obtain ⟨b0', o0', pz, cz, hp0, _, r0, r1x, r2, hr0⟩ := (R2.out.below HB.out).at_ h0
            cases hp0
            obtain ⟨b1', o1', py, cy, hp1, _, s0, s1, s2, hr1⟩ := (R2.out.below HB.out).at_ h1
            cases hp1
            have hl0 := HLO.out _ (List.getElem_mem h0)
            have hl1 := HLO.out _ (List.getElem_mem h1)
            have hch2 : x < wid rs[k] + 1 + firstA rs[k2] := by subst hk2; exact hch
            obtain ⟨ra, hra⟩ : ∃ ra, rs[k] = ra := ⟨_, rfl⟩
            obtain ⟨rb, hrb⟩ : ∃ rb, rs[k2] = rb := ⟨_, rfl⟩
            rw [hra] at r0 hr0 hl0 hch2
            rw [hrb] at s0 s1 hr1 hl1 hch2
            have hla := Int.le_trans (wid_ge ra hl0.1).1 hl0.2
            have hlb := Int.le_trans (wid_ge rb hl1.1).1 hl1.2
            have HSM := Lib.hid (show SmallW ra from fun g hg => by have := hl0.1 g hg; omega)
            have HLA := Lib.hid (show ra.length ≤ 140737488355328 by omega)
            have HRA := Lib.hid hr0
            have HRB := Lib.hid hr1
            obtain ⟨U, hU⟩ : ∃ U, wid ra = U := ⟨_, rfl⟩
            have hU0 : 0 ≤ U := by have := (wid_ge ra hl0.1).1; omega
            have hU1 : U ≤ 200 := by have := hl0.2; omega
            have HUU := Lib.hid hU
            rw [hU] at hch2
            obtain ⟨la, hlan⟩ : ∃ la, ra.length = la := ⟨_, rfl⟩
            obtain ⟨lb, hlbn⟩ : ∃ lb, rb.length = lb := ⟨_, rfl⟩
            rw [hlan] at r0 HRA hla
            rw [hlbn] at s0 s1 HRB hlb
            have HLB := Lib.hid hlbn
            obtain ⟨a, ha⟩ : ∃ a, firstA rb = a := ⟨_, rfl⟩
            rw [ha] at hch2
            have HA := Lib.hid ha
            have ha2 : a ≤ lb := by rw [← ha, ← hlbn]; exact firstA_le rb
            have HCH := Lib.hid hch2
            have la62 : la ≤ 9223372036854775807 := by omega
            have lb62 : lb ≤ 9223372036854775807 := by omega
            clear r1x hch hch2 hra hrb hl0 hl1 hr0 hr1 hU hlan hlbn ha h0 hlt r2 s2 hk2
            go_wp2_with fail
            go_loopw [19] (fun i wr => ∃ j : Nat, i = .int .i64 j ∧ j ≤ a ∧ Hid (Below wo.heap.size wo wr)) (fun i _ => a - (intOf i).toNat)
            case atStart => exact ⟨0, rfl, Nat.zero_le _, Lib.hid (Below.refl _ _)⟩
            case round =>
              obtain ⟨wi, rfl⟩ : ∃ wi : World, wi = wr := ⟨wr, rfl⟩
              obtain ⟨j, rfl, hj, HBJ⟩ := hrel
              have s3 := (HBJ.out.cell (p := ⟨b0', o0' + k2, none⟩) (cellInL s0)).trans s0
              have r3 := (HBJ.out.cell (p := ⟨b0', o0' + k, none⟩) (cellInL r0)).trans r0
              by_cases hja : j < a
              · have j1 : (j : Int) < lb := by omega
                have j2 : j < lb := by omega
                obtain ⟨hjl, hia⟩ := firstA_in (r := rb) (j := j) (by rw [HA.out]; exact hja)
                obtain ⟨b3, o3, rfl, _, d0, d1, d2, d3, d4⟩ := (HRB.out.below HBJ.out).at_ hjl
                obtain ⟨y, hy⟩ : ∃ y, rb[j] = y := ⟨_, rfl⟩
                rw [hy] at d0 hia
                have t1 : (y.t.toList == [97]) = true := hia
                have HJA := Lib.hid hja
                clear d1 d2 d3 d4 hjl hia hy hja r3
                go_wp2_with fail
                go_roundw
                case measure => have := HJA.out; simp [intOf]; omega
                case rel => exact ⟨j + 1, by go_num, HJA.out, HBJ⟩
              · obtain rfl : a = j := by omega
                have hsum : ¬ U + 1 + (a : Int) ≤ x := by have := HCH.out; omega
                have dsum : decide (U + 1 + (a : Int) ≤ x) = false := decide_eq_false hsum
                have a200 : (a : Int) ≤ 200 := by omega
                have HBK := Lib.hid (HB.out.trans (HBJ.out.mono HB.out.size))
                have HWR := Lib.hid (wide_ref ra _ wi (HRA.out.below HBJ.out) HLA.out HSM.out)
                rw [HUU.out] at HWR
                by_cases hal : a < lb
                · have j1 : (a : Int) < lb := by omega
                  obtain ⟨hjl, hia⟩ := firstA_out (r := rb) (by rw [HA.out, HLB.out]; exact hal)
                  obtain ⟨b3, o3, rfl, _, d0, d1, d2, d3, d4⟩ := (HRB.out.below HBJ.out).at_ hjl
                  have e9 : firstA rb = a := HA.out
                  have d0' : wi.cell? ⟨b3, o3 + a * 5, none⟩ = some (.string (rb[firstA rb]'hjl).t) := by rw [← e9]; exact d0
                  obtain ⟨y, hy⟩ : ∃ y, rb[firstA rb]'hjl = y := ⟨_, rfl⟩
                  rw [hy] at d0' hia
                  have t1 : (y.t.toList == [97]) = false := hia
                  clear d0 d1 d2 d3 d4 hia hy hj e9
                  go_wp2_with fail
                  refine HWR.out.mono ?_
                  rintro e w5 ⟨rfl, rfl⟩
                  go_wp2_with fail
                  go_roundw
                  case measure => have := HLT.out; have := HK2.out; simp [intOf]; omega
                  case rel => exact ⟨k2, rfl, .inr HLT.out, HBK⟩
                · obtain rfl : lb = a := by omega
                  have j1 : ¬ (lb : Int) < lb := by omega
                  clear hj hal
                  go_wp2_with fail
                  refine HWR.out.mono ?_
                  rintro e w5 ⟨rfl, rfl⟩
                  go_wp2_with fail
                  go_roundw
                  case measure => have := HLT.out; have := HK2.out; simp [intOf]; omega
                  case rel => exact ⟨k2, rfl, .inr HLT.out, HBK⟩
          · have k1 : ¬ (k2 : Int) < q := by omega
            have HBF := Lib.hid (B2.out.trans (HB.out.mono B2.out.size))
            clear hlt hk hk2
            go_wp2_with fail
            go_ret
            exact ⟨rfl, HBF.out⟩
      | some r =>
        have hrq : ¬ (r : Int) < q := by have := HOO.out r rfl; omega
        have drq : decide ((r : Int) < q) = false := decide_eq_false hrq
        simp only [partsV]
        go_wp2_with fail
        go_loopw [18] (fun i wr => ∃ k : Nat, i = .int .i64 k ∧ (k = 0 ∨ k < q) ∧ Hid (Below w2.heap.size w2 wr)) (fun i _ => q - (intOf i).toNat)
        case atStart => exact ⟨0, rfl, .inl rfl, Lib.hid (Below.refl _ _)⟩
        case round =>
          obtain ⟨wo, rfl⟩ : ∃ wo : World, wo = wr := ⟨wr, rfl⟩
          obtain ⟨k, rfl, hk, HB⟩ := hrel
          obtain ⟨k2, hk2⟩ : ∃ k2 : Nat, k + 1 = k2 := ⟨_, rfl⟩
          have k62 : (k : Int) ≤ 9223372036854775806 := by omega
          have e1 : (k : Int) + 1 = (k2 : Int) := by omega
          have HK2 := Lib.hid hk2
          by_cases hlt : k2 < q
          · have k1 : (k2 : Int) < q := by omega
            have HLT := Lib.hid hlt
            have h0 : k < rs.length := by rw [HQ.out]; omega
            have h1 : k2 < rs.length := by rw [HQ.out]; omega
            have hch := HG1.out k (by rw [HQ.out]; omega)
            obtain ⟨b0', o0', pz, cz, hp0, _, r0, r1x, r2, hr0⟩ := (R2.out.below HB.out).at_ h0
            cases hp0
            obtain ⟨b1', o1', py, cy, hp1, _, s0, s1, s2, hr1⟩ := (R2.out.below HB.out).at_ h1
            cases hp1
            have hl0 := HLO.out _ (List.getElem_mem h0)
            have hl1 := HLO.out _ (List.getElem_mem h1)
            have hch2 : x < wid rs[k] + 1 + firstA rs[k2] := by subst hk2; exact hch
            obtain ⟨ra, hra⟩ : ∃ ra, rs[k] = ra := ⟨_, rfl⟩
            obtain ⟨rb, hrb⟩ : ∃ rb, rs[k2] = rb := ⟨_, rfl⟩
            rw [hra] at r0 hr0 hl0 hch2
            rw [hrb] at s0 s1 hr1 hl1 hch2
            have hla := Int.le_trans (wid_ge ra hl0.1).1 hl0.2
            have hlb := Int.le_trans (wid_ge rb hl1.1).1 hl1.2
            have HSM := Lib.hid (show SmallW ra from fun g hg => by have := hl0.1 g hg; omega)
            have HLA := Lib.hid (show ra.length ≤ 140737488355328 by omega)
            have HRA := Lib.hid hr0
            have HRB := Lib.hid hr1
            obtain ⟨U, hU⟩ : ∃ U, wid ra = U := ⟨_, rfl⟩
            have hU0 : 0 ≤ U := by have := (wid_ge ra hl0.1).1; omega
            have hU1 : U ≤ 200 := by have := hl0.2; omega
            have HUU := Lib.hid hU
            rw [hU] at hch2
            obtain ⟨la, hlan⟩ : ∃ la, ra.length = la := ⟨_, rfl⟩
            obtain ⟨lb, hlbn⟩ : ∃ lb, rb.length = lb := ⟨_, rfl⟩
            rw [hlan] at r0 HRA hla
            rw [hlbn] at s0 s1 HRB hlb
            have HLB := Lib.hid hlbn
            obtain ⟨a, ha⟩ : ∃ a, firstA rb = a := ⟨_, rfl⟩
            rw [ha] at hch2
            have HA := Lib.hid ha
            have ha2 : a ≤ lb := by rw [← ha, ← hlbn]; exact firstA_le rb
            have HCH := Lib.hid hch2
            have la62 : la ≤ 9223372036854775807 := by omega
            have lb62 : lb ≤ 9223372036854775807 := by omega
            clear r1x hch hch2 hra hrb hl0 hl1 hr0 hr1 hU hlan hlbn ha h0 hlt r2 s2 hk2
            go_wp2_with fail
            go_loopw [19] (fun i wr => ∃ j : Nat, i = .int .i64 j ∧ j ≤ a ∧ Hid (Below wo.heap.size wo wr)) (fun i _ => a - (intOf i).toNat)
            case atStart => exact ⟨0, rfl, Nat.zero_le _, Lib.hid (Below.refl _ _)⟩
            case round =>
              obtain ⟨wi, rfl⟩ : ∃ wi : World, wi = wr := ⟨wr, rfl⟩
              obtain ⟨j, rfl, hj, HBJ⟩ := hrel
              have s3 := (HBJ.out.cell (p := ⟨b0', o0' + k2, none⟩) (cellInL s0)).trans s0
              have r3 := (HBJ.out.cell (p := ⟨b0', o0' + k, none⟩) (cellInL r0)).trans r0
              by_cases hja : j < a
              · have j1 : (j : Int) < lb := by omega
                have j2 : j < lb := by omega
                obtain ⟨hjl, hia⟩ := firstA_in (r := rb) (j := j) (by rw [HA.out]; exact hja)
                obtain ⟨b3, o3, rfl, _, d0, d1, d2, d3, d4⟩ := (HRB.out.below HBJ.out).at_ hjl
                obtain ⟨y, hy⟩ : ∃ y, rb[j] = y := ⟨_, rfl⟩
                rw [hy] at d0 hia
                have t1 : (y.t.toList == [97]) = true := hia
                have HJA := Lib.hid hja
                clear d1 d2 d3 d4 hjl hia hy hja r3
                go_wp2_with fail
                go_roundw
                case measure => have := HJA.out; simp [intOf]; omega
                case rel => exact ⟨j + 1, by go_num, HJA.out, HBJ⟩
              · obtain rfl : a = j := by omega
                have hsum : ¬ U + 1 + (a : Int) ≤ x := by have := HCH.out; omega
                have dsum : decide (U + 1 + (a : Int) ≤ x) = false := decide_eq_false hsum
                have a200 : (a : Int) ≤ 200 := by omega
                have HBK := Lib.hid (HB.out.trans (HBJ.out.mono HB.out.size))
                have HWR := Lib.hid (wide_ref ra _ wi (HRA.out.below HBJ.out) HLA.out HSM.out)
                rw [HUU.out] at HWR
                by_cases hal : a < lb
                · have j1 : (a : Int) < lb := by omega
                  obtain ⟨hjl, hia⟩ := firstA_out (r := rb) (by rw [HA.out, HLB.out]; exact hal)
                  obtain ⟨b3, o3, rfl, _, d0, d1, d2, d3, d4⟩ := (HRB.out.below HBJ.out).at_ hjl
                  have e9 : firstA rb = a := HA.out
                  have d0' : wi.cell? ⟨b3, o3 + a * 5, none⟩ = some (.string (rb[firstA rb]'hjl).t) := by rw [← e9]; exact d0
                  obtain ⟨y, hy⟩ : ∃ y, rb[firstA rb]'hjl = y := ⟨_, rfl⟩
                  rw [hy] at d0' hia
                  have t1 : (y.t.toList == [97]) = false := hia
                  clear d0 d1 d2 d3 d4 hia hy hj e9
                  go_wp2_with fail
                  refine HWR.out.mono ?_
                  rintro e w5 ⟨rfl, rfl⟩
                  go_wp2_with fail
                  go_roundw
                  case measure => have := HLT.out; have := HK2.out; simp [intOf]; omega
                  case rel => exact ⟨k2, rfl, .inr HLT.out, HBK⟩
                · obtain rfl : lb = a := by omega
                  have j1 : ¬ (lb : Int) < lb := by omega
                  clear hj hal
                  go_wp2_with fail
                  refine HWR.out.mono ?_
                  rintro e w5 ⟨rfl, rfl⟩
                  go_wp2_with fail
                  go_roundw
                  case measure => have := HLT.out; have := HK2.out; simp [intOf]; omega
                  case rel => exact ⟨k2, rfl, .inr HLT.out, HBK⟩
          · have k1 : ¬ (k2 : Int) < q := by omega
            have HBF := Lib.hid (B2.out.trans (HB.out.mono B2.out.size))
            clear hlt hk hk2
            go_wp2_with fail
            go_ret
            exact ⟨rfl, HBF.out⟩

set_option maxRecDepth 100000 in
theorem contract (H : Type) (enc : TypeId × Value → H) (W : World) (base : Nat) (args : Array Value) (ds gs : List (DataW H)) (before : List MemPlace)
    (hval : ∀ (j : Nat) t v, Try.f5.params[j]? = some t → args[j]? = some v → Value.okWide Try.prog W .any base t v)
    (hW : DataW.Whole enc Try.prog Try.f5.params.toList Rows.tableGreedySpec.vars false W args.toList ds gs before) (hsz0 : (DataW.weightsEach Try.prog (Try.f5.params.toList ++ Rows.tableGreedySpec.plain.varTypes Try.prog) (ds ++ gs)).all (· ≤ reachBytes) = true) :
    Calls Try.prog 5 args W fun e W' => ∃ v, e = .returned v ∧ Rows.tableGreedySpec.post enc Try.prog Try.f5 false true false false W args v W' := by
  have hW' := hW
  obtain ⟨p, q, hA0, hV, rfl, hfz, hnd⟩ := hW
  have hA : DataW.TrodAll enc Try.prog W 0 (fun _ => true) true Try.f5.params.toList args.toList ds p := hA0
  rw [Try.params5] at hA hval
  have hsz := hsz0
  rw [Try.params5] at hsz
  clear hsz0
  obtain ⟨v0, vs0, d0, ds0, p0, q0, hargs, rfl, rfl, h0, r0⟩ := trodAll_cons hA
  obtain ⟨v1, vs1, d1, ds1, p1, q1, rfl, rfl, rfl, h1, r1⟩ := trodAll_cons r0
  obtain ⟨v2, vs2, d2, ds2, p2, q2, rfl, rfl, rfl, h2, r2⟩ := trodAll_cons r1
  obtain ⟨rfl, rfl, rfl⟩ := trodAll_nil r2
  obtain rfl : args = #[v0, v1, v2] := by cases args; simp_all
  obtain ⟨rfl, rfl⟩ := trodVars_none hV
  have hk0 := h0
  obtain ⟨l0, hR0, hD0⟩ := ints_read h0 (okWide_slice Try.underlying22 (hval 0 22 v0 rfl rfl))
  obtain ⟨a1, rfl, rfl, rfl, w1⟩ := open_int Try.underlying3 (hval 1 3 v1 rfl rfl) h1
  have hk2 := h2
  obtain ⟨l2, hR2, hD2⟩ := ints_read h2 (okWide_slice Try.underlying22 (hval 2 22 v2 rfl rfl))
  clear hA0
  have size0 := ints_reach hsz (j := 0) rfl rfl hD0
  have size2 := ints_reach hsz (j := 2) rfl rfl hD2
  refine (walk v0 l0 a1 v2 l2 W hR0 size0 w1 hR2 size2).mono fun e W' ⟨he, hg⟩ => ?_
  subst he
  have hlt := hW'.lt
  exact ⟨_, rfl, post_of_below (pa := (p0 ++ ([] ++ (p2 ++ [])))) (pv := []) hW' (fun _ _ _ => trodAll_cons_mk (shut_bool Try.underlying4 _) trodAll_mk0) (fun sp hsp => (trodAll_cons_mk (Go.WideElems.Trod_stays (by kernel_rfl) (by kernel_rfl) (of_decide_eq_true (by kernel_rfl)) hk0 (fun p hp => hg.same (hlt p (by simp [hp]))) (fun p hp => hsp p (by simp [hp]))) (trodAll_cons_mk (shut_int Try.underlying3 w1) (trodAll_cons_mk (Go.WideElems.Trod_stays (by kernel_rfl) (by kernel_rfl) (of_decide_eq_true (by kernel_rfl)) hk2 (fun p hp => hg.same (hlt p (by simp [hp]))) (fun p hp => hsp p (by simp [hp]))) trodAll_mk0)))) (fun _ _ => rfl) rfl hg (ok_one (by kernel_rfl) rfl (okWide_bool_mk Try.underlying4 _))⟩

theorem witness_row (os : Os) {H : Type} (enc : TypeId × Value → H) :
    (OpenSpec.ofChange Rows.tableGreedySpec).preRow enc Try.prog Try.f5 Rows.tableGreedyRow.domain false Rows.tableGreedyRow.laid ((laidWorld os).forCall (fun _ _ => 0) ⟨#[], #[.slice none 0 0, .int .i64 0, .slice none 0 0], []⟩).memory #[.slice none 0 0, .int .i64 0, .slice none 0 0] := by
  have hw : (DataW.whole enc Try.prog ((laidWorld os).forCall (fun _ _ => 0) ⟨#[], #[.slice none 0 0, .int .i64 0, .slice none 0 0], []⟩).memory Try.f5.params.toList Rows.tableGreedySpec.vars false (#[.slice none 0 0, .int .i64 0, .slice none 0 0] : Array Value).toList 8).map (fun x => (x.1, x.2.1)) =
      some ([.nil, .lit (.int .i64 0), .nil], []) := by kernel_rfl
  obtain ⟨⟨x1, x2, x3⟩, hx, hx1⟩ := Option.map_eq_some_iff.1 hw
  simp only [Prod.mk.injEq] at hx1
  obtain ⟨rfl, rfl⟩ := hx1
  exact OpenSpec.preRow_of_cond 8 hx (by kernel_rfl) (fun k hk => by cases hk) (by kernel_rfl) (laid_met _)

set_option maxRecDepth 100000 in
theorem lifted (os : Os) (started : os.Started) (H : Type) (enc : TypeId × Value → H) (F : Stop.Interp) :
    ReturnsInHanded {} Try.checked os 5 .any ((OpenSpec.ofChange Rows.tableGreedySpec).preRow enc Try.prog Try.f5 Rows.tableGreedyRow.domain false Rows.tableGreedyRow.laid) (((OpenSpec.ofChange Rows.tableGreedySpec).at F).post enc Try.prog Try.f5 false true false false) := by
  refine returnsInHanded_of_row (C := Try.checked) (s := (OpenSpec.ofChange Rows.tableGreedySpec)) own started (by kernel_rfl) Try.func5
    (witness_row_at (enc := enc) (C := Try.checked) false (laidWorld os) #[.slice none 0 0, .int .i64 0, .slice none 0 0] rfl (by kernel_rfl) (by kernel_rfl) (by kernel_rfl) (witness_row os enc)) ?_
  intro W base args ds gs before hval hW _ hcond hsz hL hS _
  exact contract H enc W base args ds gs before hval hW hsz

set_option maxHeartbeats 16000000 in
theorem closed : joinedFacts Try.pinned.checked.prog 5 Try.f5 ((OpenSpec.ofChange Rows.tableGreedySpec)).bare Rows.tableGreedyRow = true := by
  unfold joinedFacts
  repeat' (with_reducible refine Bool.and_eq_true_iff.2 ⟨?_, ?_⟩)
  all_goals (as_aux_lemma => kernel_rfl)
theorem named : Try.pinned.checked.prog.funcNamed Rows.tableGreedyRow.func = some 5 := by kernel_rfl
theorem inst : (Try.f5).isInstance Try.pinned.checked.prog Rows.tableGreedyRow.origin Rows.tableGreedyRow.targs := of_decide_eq_true (by kernel_rfl)
theorem wrap : (Try.f5).isWrapper Try.pinned.checked.prog Rows.tableGreedyRow.wrapper Rows.tableGreedyRow.mainSum := by
  unfold Func.isWrapper
  first | (rw [if_pos (by decide +kernel)]; kernel_rfl) | (rw [if_neg (by decide +kernel)]; exact ⟨rfl, rfl⟩)
theorem row : Rows.TableGreedySaid :=
  OpenClaim.holds_of_cond 5 Try.f5 rfl rfl rfl rfl rfl rfl rfl ⟨rfl, rfl, rfl, rfl, rfl⟩ rfl rfl rfl rfl rfl named Try.func5 closed inst wrap
    (fun os started H enc _ F => by rw [OpenClaim.pre_eq_preRow]; exact lifted os started H enc F)

theorem proved : Rows.TableGreedySaid := row
end Go.Proofs.Ytadecjjbpoaooaa.tableGreedy
