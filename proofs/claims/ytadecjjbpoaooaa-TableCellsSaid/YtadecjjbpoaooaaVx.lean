/- Layer 12: what TableCells wants of columns, lists cut short. -/
import Derived.Test.YtadecjjbpoaooaaVv
import Derived.Test.YtadecjjbpoaooaaVo
namespace Go.Proofs.Ytadecjjbpoaooaa.Tb
open Go.RowKit Go.Maps
set_option linter.unusedVariables false
set_option linter.unusedSimpArgs false
theorem RdL.take {P : Nat → Prop} {w : World} {ls : List (List Gl)} {pa : Option Addr} {n cap : Nat} (h : RdL P w (.slice pa n cap) ls) (k : Nat) (hk : k ≤ n) : RdL P w (.slice pa k cap) (ls.take k) := by
  obtain ⟨pa', cap', e, h1, h2, h4⟩ := h
  cases e
  have hl : (ls.take k).length = k := by rw [List.length_take]; omega
  refine ⟨_, _, by rw [hl], by omega, h2, fun j hj => ?_⟩
  obtain ⟨b', off', tv, e, hp, hc, hd⟩ := h4 j (by omega)
  refine ⟨_, _, tv, e, hp, hc, ?_⟩
  rw [List.getElem_take]
  exact hd
theorem line_ok (j : Nat) {B : Int} : ∀ (cs : List (Int × Int)) (ps : List (List (List Gl))) (r : List Gl) (e : Int), FromC e cs → FitC cs ps → LineOk e r → e ≤ B → (∀ c ∈ cs, c.1 + c.2 ≤ B) → LineOk B (lineF j r cs ps)
  | [], ps, r, e, _, _, hr, he, _ => by simp only [lineF]; exact hr.mono he
  | c :: cs, [], r, e, _, _, hr, he, _ => by simp only [lineF]; exact hr.mono he
  | c :: cs, p :: ps, r, e, hc, hf, hr, he, hb => by
    obtain ⟨c1, c2, c3⟩ := hc
    obtain ⟨f1, f2⟩ := hf
    exact line_ok j cs ps _ (c.1 + c.2) c3 f2 (next_ok (j := j) hr c1 c2 f1) (hb c (by simp)) fun x hx => hb x (List.mem_cons_of_mem _ hx)
theorem from_nn : ∀ (cs : List (Int × Int)) (e : Int), 0 ≤ e → FromC e cs → ∀ c ∈ cs, 0 ≤ c.1
  | [], e, _, _, c, hc => absurd hc (by simp)
  | d :: cs, e, he, h, c, hc => by
    obtain ⟨c1, c2, c3⟩ := h
    rcases List.mem_cons.1 hc with rfl | hc
    · omega
    · exact from_nn cs _ (by omega) c3 c hc
theorem cols_from {ws : List Int} {x : Int} (h : colsE ws x = 0) : FromC 0 (colsL ws x) := by
  obtain ⟨⟨w1, w2⟩, ⟨n1, n2⟩, hk⟩ := colsE_zero h
  have hroom : (ws.length : Int) ≤ roomOf ws.length x := by unfold roomOf; split <;> omega
  obtain ⟨hz, _⟩ := widths_ok hk n1 hroom
  have hg : 0 ≤ gapOf ws.length x := by unfold gapOf; split <;> omega
  unfold colsL colsM
  rw [if_pos h]
  exact fromC_colsAt hg _ 0 fun i hi => (hz i (by rw [widthsM_len] at hi; exact hi)).1
theorem cols_one {ws : List Int} {x : Int} (h1 : (colsL ws x).length = 1) : ∃ z, colsL ws x = [(0, z)] := by
  unfold colsL at h1 ⊢
  split at h1
  · rename_i h
    rw [if_pos h]
    unfold colsM at h1 ⊢
    rw [colsAt_len] at h1
    match hl : widthsM ws (roomOf ws.length x) with
    | [] => rw [hl] at h1; simp at h1
    | [z] => exact ⟨z, rfl⟩
    | _ :: _ :: _ => rw [hl] at h1; simp at h1
  · simp at h1
theorem row_small {cs : List (Int × Int)} {fs : List (List Gl)} (hc : FromC 0 cs) (h : rowE cs fs = 0) (hb : ∀ c ∈ cs, c.1 + c.2 ≤ 102000) : ∀ r ∈ rowL cs fs, LineOk 102000 r := by
  obtain ⟨hl, hE⟩ := rowE_ok h
  intro r hr
  unfold rowL at hr
  rw [if_pos h, rowF_eq hl.symm] at hr
  obtain ⟨j, _, rfl⟩ := List.mem_map.1 hr
  exact line_ok j cs _ [] 0 hc (fit_parts cs fs hE) (lineOk_nil (Int.le_refl 0)) (by omega) hb
end Go.Proofs.Ytadecjjbpoaooaa.Tb
