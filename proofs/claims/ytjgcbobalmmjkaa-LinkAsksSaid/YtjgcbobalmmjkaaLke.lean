/- The document's far of layer 8. -/
import Derived.Test.YtjgcbobalmmjkaaLkd
namespace Go.Proofs.Ytjgcbobalmmjkaa
open Go.RowKit Go.Maps Go.Sort
set_option linter.unusedVariables false
def known (f : Nat → Int) : Nat → Bool := fun k => decide (0 ≤ f k)
def setI (f : Nat → Int) (k : Nat) (z : Int) : Nat → Int := fun j => if j = k then z else f j
theorem cntF_n : ∀ (n : Nat) (f : Nat → Bool), cntF n f ≤ n
  | 0, _ => Nat.le_refl _
  | n + 1, f => by
    have := cntF_n n f
    unfold cntF
    split <;> omega
/-- What far tells of each topic. -/
def FarAll (g : Nat → Nat → Bool) (N K : Nat) (f : Nat → Int) : Prop := ∀ i, i < N → (∀ d : Nat, (f i = d ↔ Bf.Far g i K d)) ∧ (f i = -1 ∨ ∃ d : Nat, d ≤ 2000 ∧ f i = d)
theorem nextFar_step {g : Nat → Nat → Bool} {N step : Nat} {f : Nat → Int} {a : Nat} : Bf.nextFar g N step f a = step ↔ f a = step := by
  unfold Bf.nextFar
  split
  · rename_i h
    have := h.1
    constructor <;> intro <;> omega
  · exact Iff.rfl
theorem far_next {g : Nat → Nat → Bool} {N K step : Nat} {f f2 : Nat → Int} (hn : ∀ i k, g i k = true → k < N) (h : Bf.FarUp g N K step f) (h2 : ∀ a, a < N → f2 a = Bf.nextFar g N step f a) : Bf.FarUp g N K (step + 1) f2 := by
  refine Bf.FarUp.next hn h (fun i hi h0 h1 => ?_) (fun i hi h0 => ?_)
  · rw [h2 i hi]; unfold Bf.nextFar; rw [if_pos ⟨h0, h1⟩]
  · rw [h2 i hi]; unfold Bf.nextFar; rw [if_neg h0]
theorem far_all {g : Nat → Nat → Bool} {N K step : Nat} {f f2 : Nat → Int} (hn : ∀ i k, g i k = true → k < N) (hs : step ≤ 2000) (h : Bf.FarUp g N K step f) (h2 : ∀ a, a < N → f2 a = Bf.nextFar g N step f a) (h3 : ∀ a, a < N → f2 a = f a) : FarAll g N K f2 := fun i hi => by
  have hst : ∀ i, i < N → f i < 0 → ¬ ∃ k, k < N ∧ g i k = true ∧ f k = step := fun i hi h0 h1 => by
    have e := h2 i hi
    unfold Bf.nextFar at e
    rw [if_pos ⟨h0, h1⟩, h3 i hi] at e
    omega
  refine ⟨fun d => by rw [h3 i hi]; exact Bf.FarUp.all hn h hst i hi d, ?_⟩
  rw [h3 i hi]
  rcases (h i hi).2 with e | ⟨d, hd, e⟩
  · exact .inl e
  · exact .inr ⟨d, by omega, e⟩
/-- Where the look over one topic stands. -/
structure FarAt (g : Nat → Nat → Bool) (N step x k : Nat) (f f3 : Nat → Int) : Prop where
  low : ∀ a, a < N → a < x → f3 a = Bf.nextFar g N step f a
  high : ∀ a, a < N → x < a → f3 a = f a
  at_ : (f3 x = f x ∧ (f x < 0 → ∀ b, b < k → g x b = true → f b ≠ step)) ∨ (f3 x = step + 1 ∧ f x < 0 ∧ ∃ b, b < N ∧ g x b = true ∧ f b = step)
theorem FarAt.reads {g : Nat → Nat → Bool} {N step x k : Nat} {f f3 : Nat → Int} (h : FarAt g N step x k f f3) {b : Nat} (hb : b < N) : f3 b = step ↔ f b = step := by
  rcases Nat.lt_trichotomy b x with h1 | rfl | h1
  · rw [h.low b hb h1]; exact nextFar_step
  · rcases h.at_ with ⟨e, _⟩ | ⟨e, e2, _⟩
    · rw [e]
    · constructor <;> intro <;> omega
  · rw [h.high b hb h1]
theorem FarAt.skip {g : Nat → Nat → Bool} {N step x k : Nat} {f f3 : Nat → Int} (h : FarAt g N step x k f f3) (hk : k < N) (hn : ¬ (g x k = true ∧ f3 k = step)) : FarAt g N step x (k + 1) f f3 :=
  ⟨h.low, h.high, h.at_.imp (fun ⟨e, h1⟩ => ⟨e, fun h0 b hb hg => by
    rcases Nat.lt_or_eq_of_le (Nat.le_of_lt_succ hb) with h2 | rfl
    · exact h1 h0 b h2 hg
    · exact fun e2 => hn ⟨hg, (h.reads hk).2 e2⟩⟩) id⟩
theorem FarAt.hit {g : Nat → Nat → Bool} {N step x k : Nat} {f f3 : Nat → Int} (h : FarAt g N step x k f f3) (hk : k < N) (h0 : f3 x < 0) (hg : g x k = true) (he : f3 k = step) : FarAt g N step x (k + 1) f (setI f3 x (step + 1)) := by
  have hx : f x < 0 := by
    rcases h.at_ with ⟨e, _⟩ | ⟨e, _⟩ <;> omega
  refine ⟨fun a ha hl => ?_, fun a ha hl => ?_, .inr ⟨by simp [setI], hx, k, hk, hg, (h.reads hk).1 he⟩⟩
  · unfold setI; rw [if_neg (by omega)]; exact h.low a ha hl
  · unfold setI; rw [if_neg (by omega)]; exact h.high a ha hl
def FarLow (g : Nat → Nat → Bool) (N step x : Nat) (f f3 : Nat → Int) : Prop := (∀ a, a < N → a < x → f3 a = Bf.nextFar g N step f a) ∧ (∀ a, a < N → x ≤ a → f3 a = f a)
theorem FarLow.at_ {g : Nat → Nat → Bool} {N step x : Nat} {f f3 : Nat → Int} (h : FarLow g N step x f f3) (hx : x < N) : FarAt g N step x 0 f f3 :=
  ⟨h.1, fun a ha hl => h.2 a ha (by omega), .inl ⟨h.2 x hx (Nat.le_refl _), fun _ b hb => absurd hb (Nat.not_lt_zero _)⟩⟩
theorem FarAt.done {g : Nat → Nat → Bool} {N step x k : Nat} {f f3 : Nat → Int} (h : FarAt g N step x k f f3) (hx : x < N) (hd : N ≤ k ∨ 0 ≤ f3 x) : FarLow g N step (x + 1) f f3 := by
  have hnx : f3 x = Bf.nextFar g N step f x := by
    unfold Bf.nextFar
    rcases h.at_ with ⟨e, h1⟩ | ⟨e, e2, e3⟩
    · split
      · rename_i h2
        obtain ⟨h0, b, hb, hg, hf⟩ := h2
        rcases hd with hd | hd
        · exact absurd hf (h1 h0 b (by omega) hg)
        · omega
      · exact e
    · rw [if_pos ⟨e2, e3⟩]; exact e
  refine ⟨fun a ha hl => ?_, fun a ha hl => h.high a ha (by omega)⟩
  rcases Nat.lt_or_eq_of_le (Nat.le_of_lt_succ hl) with h2 | rfl
  · exact h.low a ha h2
  · exact hnx
set_option maxRecDepth 100000 in
set_option maxHeartbeats 8000000 in
theorem far_doc (l : List Rf) (S : Nat) (rows : Nat → Nat) (N K : Nat) (w : World) (hg : GrA w S rows N (edge l N)) (hN : N ≤ 1000) (hK : K < N) :
    Calls Try.prog 30 #[.slice (some ⟨S, 0, none⟩) N N, .int .i64 (K : Nat)] w fun e w' => ∃ f, e = .returned (.slice (some ⟨w.heap.size, 0, none⟩) N N) ∧ Vec w' w.heap.size 3 N (fun k => .int .i64 (f k)) ∧ Below w.heap.size w w' ∧ FarAll (gEdge l N) N K f := by
  have HGR := Lib.hid hg
  have HK := Lib.hid hK
  have mI := make_ints N hN
  have hKN : (K : Int) < N := by omega
  clear hg hK
  go_enter Try.func30, Try.ntmps30
  go_wp2_with fail
  have HV0 := Lib.hid (Vec.start w 3 N (.int .i64 0))
  have HB0 := Lib.hid ((Below.refl w.heap.size w).alloc (Nat.le_refl _) (.cells (madeCells #[.int .i64 0] N) 3))
  obtain ⟨w1, hw1⟩ : ∃ w1, w.alloc (.cells (madeCells #[.int .i64 0] N) 3) = w1 := ⟨_, rfl⟩
  rw [hw1] at HV0 HB0 ⊢
  clear hw1 mI
  go_loopw [6] (fun i wr => ∃ k : Nat, i = .int .i64 (k : Nat) ∧ k ≤ N ∧ Hid (Vec wr w.heap.size 3 N (fun j => .int .i64 (if j < k then -1 else 0))) ∧ Hid (Below w.heap.size w wr)) (fun i _ => N - (intOf i).toNat)
  case atStart => exact ⟨0, rfl, Nat.zero_le _, Lib.hid (HV0.out.congr fun j _ => by simp), HB0⟩
  case round =>
    obtain ⟨k, rfl, hk, HV, HB⟩ := hrel
    by_cases hlt : k < N
    · have hk1 : (k : Int) < N := by omega
      have HKL := Lib.hid hlt
      have c0 := HV.out.cell hlt
      have f0 := HV.out.free k
      have HV2 := Lib.hid ((HV.out.set k (.int .i64 (-1)) rfl).congr (g := fun j => .int .i64 (if j < k + 1 then -1 else 0)) (fun j _ => by
        by_cases e : j = k
        · subst e; simp
        · by_cases e2 : j < k
          · simp [e, e2, show j < k + 1 by omega]
          · simp [e, e2, show ¬ j < k + 1 by omega]))
      clear hlt
      go_wp2_with fail
      go_roundw
      case measure => have := HKL.out; first | (simp [intOf]; done) | (simp [intOf]; omega)
      case rel => exact ⟨k + 1, by go_num, by have := HKL.out; omega, HV2, Lib.hid (HB.out.setCell (p := ⟨w.heap.size, k, none⟩) (Nat.le_refl _) _)⟩
    · obtain rfl : k = N := by omega
      have hlz : ¬ ((k : Int) < k) := by omega
      have HV1 := Lib.hid (HV.out.congr (g := fun j => .int .i64 (-1)) (fun j hj => by simp [hj]))
      have c0 := HV1.out.cell HK.out
      have f0 := HV1.out.free K
      have HV2 := Lib.hid ((HV1.out.set K (.int .i64 0) rfl).congr (g := fun j => .int .i64 (setI (fun _ => -1) K 0 j)) (fun j _ => by unfold setI; split <;> rfl))
      have HB2 := Lib.hid (HB.out.setCell (p := ⟨w.heap.size, K, none⟩) (Nat.le_refl _) (.int .i64 0))
      have HF2 := Lib.hid (Bf.FarUp.start (gEdge l k) k K (setI (fun _ => -1) K 0) (by simp [setI]) (fun i _ hi => by simp [setI, hi]))
      have HC2 := Lib.hid (show cntF k (known (setI (fun _ => -1) K 0)) ≤ k from cntF_n k _)
      obtain ⟨fa, hfa⟩ : ∃ fa, setI (fun _ => -1) K 0 = fa := ⟨_, rfl⟩
      rw [hfa] at HV2 HF2 HC2
      clear hlt HV hfa HB
      go_wp2_with fail
      clear c0 f0
      go_loopg [7, 8] (2 * cntF k (known fa) + 1) (fun g s7 s8 wx => ∃ (mo : Bool) (step : Nat) (f : Nat → Int), 2 * cntF k (known f) + mo.toNat = g ∧ s7 = .int .i64 (step : Nat) ∧ s8 = .bool mo ∧ Hid (Vec wx w.heap.size 3 k (fun k => .int .i64 (f k))) ∧ Hid (step + cntF k (known f) + mo.toNat ≤ k + 1) ∧ Hid (mo = true → Bf.FarUp (gEdge l k) k K step f) ∧ Hid (mo = false → FarAll (gEdge l k) k K f) ∧ Hid (Below w.heap.size w wx))
      case atStart => exact ⟨true, 0, fa, rfl, rfl, rfl, HV2, Lib.hid (by have := HC2.out; simp; omega), Lib.hid (fun _ => HF2.out), Lib.hid (fun h => by cases h), HB2⟩
      case round =>
        obtain ⟨mo, step, f, hgm, rfl, rfl, HVf, HST, HFU, HFA, HBx⟩ := hrel
        have HGM := Lib.hid hgm
        clear hgm
        cases mo with
        | false =>
          have HFX := Lib.hid (HFA.out rfl)
          clear HFA HFU HST HGM
          go_wp2_with fail
          go_ret
          first | exact ⟨rfl, f, HVf.out, HBx.out, HFX.out⟩ | exact ⟨f, rfl, HVf.out, HBx.out, HFX.out⟩ | exact ⟨rfl, ⟨f, HVf.out, HFX.out⟩, HBx.out⟩
        | true =>
          have hst9 : step ≤ 1000 := by have := HST.out; simp at this; omega
          have HFN := Lib.hid (HFU.out rfl)
          go_wp2_with fail
          go_loopg [8, 9] k (fun g2 s8 s9 wy => ∃ (x : Nat) (mo : Bool) (f2 : Nat → Int), x + g2 = k ∧ s8 = .bool mo ∧ s9 = .int .i64 (x : Nat) ∧ Hid (Vec wy w.heap.size 3 k (fun k => .int .i64 (f2 k))) ∧ Hid (FarLow (gEdge l k) k step x f f2) ∧ Hid (cntF k (known f2) + mo.toNat ≤ cntF k (known f)) ∧ Hid (mo = false → ∀ a, a < k → f2 a = f a) ∧ Hid (Below w.heap.size w wy))
          case atStart => exact ⟨0, false, f, by omega, rfl, rfl, HVf, Lib.hid ⟨fun a _ h => absurd h (Nat.not_lt_zero _), fun _ _ _ => rfl⟩, Lib.hid (by simp), Lib.hid (fun _ _ _ => rfl), HBx⟩
          case round =>
            obtain ⟨x, mo, f2, hgx, rfl, rfl, HVf, HLW, HCN, HSM, HBx⟩ := hrel
            have HGX := Lib.hid hgx
            by_cases hxn : x < k
            · have hx1 : (x : Int) < k := by omega
              have HX := Lib.hid hxn
              have HAT := Lib.hid (HLW.out.at_ hxn)
              clear hgx hxn
              go_wp2_with fail
              go_loopg [8, 10] k (fun g3 s8 s10 wy => ∃ (y : Nat) (mo : Bool) (f3 : Nat → Int), y + g3 = k ∧ s8 = .bool mo ∧ s10 = .int .i64 (y : Nat) ∧ Hid (Vec wy w.heap.size 3 k (fun k => .int .i64 (f3 k))) ∧ Hid (FarAt (gEdge l k) k step x y f f3) ∧ Hid (cntF k (known f3) + mo.toNat ≤ cntF k (known f)) ∧ Hid (mo = false → ∀ a, a < k → f3 a = f a) ∧ Hid (Below w.heap.size w wy))
              case atStart => exact ⟨0, mo, f2, by omega, rfl, rfl, HVf, HAT, HCN, HSM, HBx⟩
              case round =>
                obtain ⟨y, mo, f3, hgy, rfl, rfl, HVf, HAT, HCN, HSM, HBx⟩ := hrel
                have HGY := Lib.hid hgy
                by_cases hyn : y < k
                · have hy1 : (y : Int) < k := by omega
                  have HY := Lib.hid hyn
                  have cx := HVf.out.cell HX.out
                  have fx := HVf.out.free x
                  have hgr := HGR.out.below HBx.out
                  have ct := (hgr x HX.out).1
                  have cr := (hgr x HX.out).2 y hyn
                  have cy := HVf.out.cell hyn
                  obtain ⟨u, hu⟩ : ∃ u, f3 x = u := ⟨_, rfl⟩
                  obtain ⟨e, he⟩ : ∃ e, edge l k x y = e := ⟨_, rfl⟩
                  obtain ⟨z, hz⟩ : ∃ z, f3 y = z := ⟨_, rfl⟩
                  have HU := Lib.hid hu
                  have HE := Lib.hid he
                  have HZ := Lib.hid hz
                  simp only [hu] at cx
                  rw [he] at cr
                  simp only [hz] at cy
                  clear hgy hyn hgr hu he hz
                  by_cases hu0 : u < 0
                  · cases e with
                    | false =>
                      clear fx cy
                      go_wp2_with fail
                      go_roundg (k - (y + 1))
                      case measure => have := HY.out; have := HGY.out; omega
                      case rel => exact ⟨y + 1, mo, f3, by have := HY.out; omega, rfl, by go_num, HVf, Lib.hid (HAT.out.skip HY.out (fun h => by have h1 := h.1; rw [show gEdge l k x y = false from HE.out] at h1; cases h1)), HCN, HSM, HBx⟩
                    | true =>
                      by_cases hzs : z = step
                      · have t1 : (z == (step : Int)) = true := by simp [hzs]
                        have HV3 := Lib.hid ((HVf.out.set x (.int .i64 ((step : Int) + 1)) rfl).congr (g := fun j => .int .i64 (setI f3 x ((step : Int) + 1) j)) (fun j _ => by unfold setI; split <;> rfl))
                        have HAT2 := Lib.hid (HAT.out.hit HY.out (by rw [HU.out]; exact hu0) HE.out (by rw [HZ.out]; exact hzs))
                        have HCN2 := Lib.hid (show cntF k (known (setI f3 x ((step : Int) + 1))) + 1 ≤ cntF k (known f) by
                          have h1 := cntF_lt (n := k) (f := known f3) (f' := known (setI f3 x ((step : Int) + 1))) (k := x) (fun j _ hj => by
                            unfold known setI at *
                            split
                            · simp; omega
                            · exact hj) HX.out (by unfold known; rw [HU.out]; simp; omega) (by unfold known setI; simp; omega)
                          have h2 := HCN.out
                          omega)
                        have v1 : IntKind.i64.wrap ((step : Int) + 1) = (step : Int) + 1 := by rw [IntWalk.i64_in _ (by omega)]
                        clear HCN HSM HAT hzs
                        go_wp2_with fail
                        go_roundg (k - (y + 1))
                        case measure => have := HY.out; have := HGY.out; omega
                        case rel => exact ⟨y + 1, true, setI f3 x ((step : Int) + 1), by have := HY.out; omega, rfl, by go_num, HV3, HAT2, HCN2, Lib.hid (fun h => by cases h), Lib.hid (HBx.out.setCell (p := ⟨w.heap.size, x, none⟩) (Nat.le_refl _) _)⟩
                      · have t1 : (z == (step : Int)) = false := by simpa using hzs
                        have HZS := Lib.hid hzs
                        clear fx hzs
                        go_wp2_with fail
                        go_roundg (k - (y + 1))
                        case measure => have := HY.out; have := HGY.out; omega
                        case rel => exact ⟨y + 1, mo, f3, by have := HY.out; omega, rfl, by go_num, HVf, Lib.hid (HAT.out.skip HY.out (fun h => HZS.out (by rw [← HZ.out]; exact h.2))), HCN, HSM, HBx⟩
                  · have HU0 := Lib.hid (show 0 ≤ u by omega)
                    clear fx ct cr cy
                    go_wp2_with fail
                    go_roundg (k - (x + 1))
                    case measure => have := HX.out; have := HGX.out; omega
                    case rel => exact ⟨x + 1, mo, f3, by have := HX.out; omega, rfl, by go_num, HVf, Lib.hid (HAT.out.done HX.out (.inr (by rw [HU.out]; exact HU0.out))), HCN, HSM, HBx⟩
                · have hyz : ¬ ((y : Int) < k) := by omega
                  have HYN := Lib.hid (show k ≤ y by omega)
                  clear hgy hyn
                  go_wp2_with fail
                  go_roundg (k - (x + 1))
                  case measure => have := HX.out; have := HGX.out; omega
                  case rel => exact ⟨x + 1, mo, f3, by have := HX.out; omega, rfl, by go_num, HVf, Lib.hid (HAT.out.done HX.out (.inl HYN.out)), HCN, HSM, HBx⟩
            · have hxz : ¬ ((x : Int) < k) := by omega
              have HXN := Lib.hid (show k ≤ x by omega)
              clear hgx hxn
              have HNX := Lib.hid (show ∀ a, a < k → f2 a = Bf.nextFar (gEdge l k) k step f a from fun a ha => HLW.out.1 a ha (by have := HXN.out; omega))
              have HST2 := Lib.hid (show (step + 1) + cntF k (known f2) + mo.toNat ≤ k + 1 by have h1 := HST.out; have h2 := HCN.out; simp at h1; omega)
              go_wp2_with fail
              go_roundg (2 * cntF k (known f2) + mo.toNat)
              case measure => have h1 := HGM.out; have h2 := HCN.out; simp at h1; omega
              case rel => exact ⟨mo, step + 1, f2, rfl, by go_num, rfl, HVf, HST2, Lib.hid (fun h => far_next (fun _ _ h => (edge_lt h).2) HFN.out HNX.out), Lib.hid (fun h => far_all (fun _ _ h => (edge_lt h).2) (by omega) HFN.out HNX.out (HSM.out h)), HBx⟩
end Go.Proofs.Ytjgcbobalmmjkaa
