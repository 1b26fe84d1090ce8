/- Layer 12, plain: words as a flow; filling line by line takes the fewest lines. -/
import Derived.Test.YtadecjjbpoaooaaVs
namespace Go.Proofs.Ytadecjjbpoaooaa.Tb
open Go
set_option linter.unusedVariables false
set_option linter.unusedSimpArgs false
def aG : Gl := ⟨bl1 97, 1, 0, 0, 0⟩
def b0 : Gl := ⟨bl1 32, 0, 0, 0, 0⟩
def bG : Gl := ⟨bl1 32, 1, 0, 0, 0⟩
def isA (g : Gl) : Bool := g.t.toList == [97]
/-- How many signs a line's first word has. -/
def firstA (l : List Gl) : Nat := (l.takeWhile isA).length
def wordG (n : Nat) : List Gl := List.replicate n aG
def tailW (ns : List Nat) : List Gl := ns.flatMap fun m => b0 :: wordG m
/-- Words as a flow. -/
def flowW : List Nat → List Gl
  | [] => []
  | n :: ns => wordG n ++ tailW ns
theorem sgn_a : sgn aG = true := by kernel_rfl
theorem sgn_b0 : sgn b0 = false := by kernel_rfl
theorem isB_b0 : isB b0 = true := by kernel_rfl
theorem isA_a : isA aG = true := by kernel_rfl
theorem isA_b : isA bG = false := by kernel_rfl
theorem bad_a : badG aG = false := by kernel_rfl
theorem bad_b0 : badG b0 = false := by kernel_rfl
theorem blank_b0 : blank b0 = bG := rfl
theorem wordG_ok (n : Nat) : ∀ g ∈ wordG n, 1 ≤ g.wd ∧ g.wd ≤ 2 := fun g hg => by
  unfold wordG at hg
  rw [List.mem_replicate] at hg
  rw [hg.2]; simp [aG]
theorem wid_word (n : Nat) : wid (wordG n) = n := by unfold wordG; rw [wid_rep]; simp [aG]
theorem flowW_snoc (ns : List Nat) (n : Nat) : flowW (ns ++ [n]) = flowW ns ++ (if ns = [] then [] else [b0]) ++ wordG n := by
  cases ns with
  | nil => simp [flowW, tailW]
  | cons m ns => simp [flowW, tailW]
theorem flow_ok (ns : List Nat) : ∀ g ∈ flowW ns, badG g = false := by
  have hw : ∀ n, ∀ g ∈ wordG n, badG g = false := fun n g hg => by
    unfold wordG at hg
    rw [List.mem_replicate] at hg
    rw [hg.2]; exact bad_a
  intro g hg
  cases ns with
  | nil => simp [flowW] at hg
  | cons n ns =>
    rcases List.mem_append.1 hg with hg | hg
    · exact hw n g hg
    · obtain ⟨m, _, hg⟩ := List.mem_flatMap.1 hg
      rcases List.mem_cons.1 hg with rfl | hg
      · exact bad_b0
      · exact hw m g hg
theorem flow_fillE {wide : Int} (h1 : 1 ≤ wide) (h2 : wide ≤ 200) (ns : List Nat) : fillE wide (flowW ns) = 0 := by
  unfold fillE
  rw [if_neg (by omega), if_neg (by
    rw [List.any_eq_true]
    rintro ⟨g, hg, hb⟩
    rw [flow_ok ns g hg] at hb
    cases hb)]
theorem firstA_word (n : Nat) : firstA (wordG n) = n := by
  unfold firstA wordG
  rw [List.takeWhile_replicate, if_pos isA_a, List.length_replicate]
theorem firstA_more (x y : List Gl) : firstA (x ++ bG :: y) = firstA x := by
  unfold firstA
  rw [List.takeWhile_append]
  split
  · rename_i h
    rw [List.takeWhile_cons, if_neg (by rw [isA_b]; simp), List.append_nil, h]
  · rfl
/-- No line could take the first word of the next one. -/
def Chn (wide : Int) (ls : List (List Gl)) : Prop := ∀ i (h : i + 1 < ls.length), wide < wid ls[i] + 1 + firstA ls[i + 1]
theorem chn_one (wide : Int) (l : List Gl) : Chn wide [l] := fun i h => by simp at h
theorem chn_snoc {wide : Int} {ls : List (List Gl)} {l m : List Gl} (h : Chn wide (ls ++ [l])) (h2 : wide < wid l + 1 + firstA m) : Chn wide (ls ++ [l] ++ [m]) := by
  intro i hi
  simp only [List.length_append, List.length_cons, List.length_nil] at hi
  by_cases h3 : i + 1 < ls.length + 1
  · have := h i (by simp; omega)
    rw [List.getElem_append_left (show i + 1 < (ls ++ [l]).length by simp; omega), List.getElem_append_left (show i < (ls ++ [l]).length by simp; omega)]
    exact this
  · obtain rfl : i = ls.length := by omega
    rw [List.getElem_append_left (show ls.length < (ls ++ [l]).length by simp), List.getElem_append_right (show (ls ++ [l]).length ≤ ls.length + 1 by simp)]
    simpa using h2
theorem chn_last {wide : Int} {ls : List (List Gl)} {l m : List Gl} (h : Chn wide (ls ++ [l])) (h2 : firstA m = firstA l) : Chn wide (ls ++ [m]) := by
  intro i hi
  simp only [List.length_append, List.length_cons, List.length_nil] at hi
  have h0 := h i (by simp; omega)
  by_cases h3 : i + 1 < ls.length
  · rw [List.getElem_append_left h3, List.getElem_append_left (show i < ls.length by omega)] at h0 ⊢
    exact h0
  · have hle : ls.length = i + 1 := by omega
    rw [List.getElem_append_left (show i < ls.length by omega), List.getElem_append_right (show ls.length ≤ i + 1 by omega)] at h0 ⊢
    simp only [show i + 1 - ls.length = 0 by omega, List.getElem_cons_zero] at h0 ⊢
    rw [h2]
    exact h0
/-- A filling behind some words. -/
structure Gs (wide : Int) (s : Fs) : Prop where
  ne : s.line ≠ []
  wt : s.wait = []
  ch : Chn wide (s.out ++ [s.line])
theorem first_word {n : Nat} {rest : List Gl} (hr : rest = [] ∨ ∃ y, rest = b0 :: y) : firstW (wordG n ++ rest) = wordG n := by
  unfold firstW wordG
  rw [List.takeWhile_append, List.takeWhile_replicate, if_pos sgn_a, if_pos rfl]
  rcases hr with rfl | ⟨y, rfl⟩
  · simp
  · rw [List.takeWhile_cons, if_neg (by rw [sgn_b0]; simp)]
    simp
theorem fit_word {wide : Int} (h : 1 ≤ wide) (n : Nat) : (wordG n).map (fitG wide) = wordG n := by
  unfold wordG
  rw [List.map_replicate]
  congr 1
  unfold fitG
  rw [if_neg (by simp [aG]; omega)]
theorem run_word {wide : Int} (h1 : 1 ≤ wide) {n : Nat} (hn : 1 ≤ n) {rest : List Gl} (hr : rest = [] ∨ ∃ y, rest = b0 :: y) (s : Fs) : runF wide s (wordG n ++ rest) = runF wide (wordS wide s (wordG n)) rest := by
  obtain ⟨m, rfl⟩ : ∃ m, n = m + 1 := ⟨n - 1, by omega⟩
  have e : wordG (m + 1) ++ rest = aG :: (wordG m ++ rest) := by simp [wordG, List.replicate_succ]
  have h := runF_word wide s aG (wordG m ++ rest) sgn_a
  rw [← e, first_word hr, fit_word h1, List.drop_left] at h
  exact h
theorem tail_or (ns : List Nat) : tailW ns = [] ∨ ∃ y, tailW ns = b0 :: y := by
  cases ns with
  | nil => exact .inl rfl
  | cons n ns => exact .inr ⟨wordG n ++ tailW ns, by simp [tailW]⟩
/-- One word more. -/
def nextW (wide : Int) (s : Fs) (m : Nat) : Fs := if wide < wid s.line + 1 + m then ⟨s.out ++ [s.line], wordG m, []⟩ else ⟨s.out, s.line ++ bG :: wordG m, []⟩
theorem run_next {wide : Int} (h1 : 1 ≤ wide) {m : Nat} (hm : 1 ≤ m) (hw : (m : Int) ≤ wide) (ns : List Nat) {s : Fs} (h : Gs wide s) : runF wide s (tailW (m :: ns)) = runF wide (nextW wide s m) (tailW ns) := by
  have e : tailW (m :: ns) = b0 :: (wordG m ++ tailW ns) := by simp [tailW]
  have e2 : stepS wide s b0 = ⟨s.out, s.line, [bG]⟩ := by
    unfold stepS waitS
    rw [if_pos isB_b0, if_pos ⟨h.ne, h.wt⟩]
    rfl
  rw [e, runF_step wide s b0 _ sgn_b0, run_word h1 hm (tail_or ns), e2]
  congr 1
  unfold wordS roomS nextW
  have e3 : wid [bG] = 1 := rfl
  simp only [e3, wid_word]
  split
  · unfold endU
    rw [if_neg (by simpa using h.ne)]
    unfold laidS endS
    rw [foldl_fits _ _ (wordG_ok m) (by simp [wid, wid_word]; omega)]
    simp
  · unfold laidS
    rw [foldl_fits _ _ (wordG_ok m) (by simp only [wid_app, e3, wid_word]; omega)]
    simp
theorem gs_next {wide : Int} {s : Fs} (h : Gs wide s) {m : Nat} (hm : 1 ≤ m) : Gs wide (nextW wide s m) := by
  unfold nextW
  split
  · rename_i hw
    refine ⟨by simp [wordG]; omega, rfl, chn_snoc h.ch (by rw [firstA_word]; exact hw)⟩
  · exact ⟨by simp, rfl, chn_last h.ch (firstA_more _ _)⟩
/-- How many lines some other parting takes. -/
def partsN (wide : Int) (ends : List Int) : Nat → Int → Int → List Nat → Option Int
  | _, n, _, [] => some n
  | i, n, g, w :: ws =>
    if wide < (if g = 0 then (w : Int) else g + 1 + w) then none
    else partsN wide ends (i + 1) (if g = 0 then n + 1 else n) (if i < ends.length ∧ ends.getD i 0 ≠ 0 then 0 else if g = 0 then (w : Int) else g + 1 + w) ws
theorem greedy_more {wide : Int} (h1 : 1 ≤ wide) (ends : List Int) : ∀ (ws : List Nat) (s : Fs) (i : Nat) (n g : Int), (∀ w ∈ ws, 1 ≤ w ∧ (w : Int) ≤ wide) → Gs wide s →
    Gs wide (runF wide s (tailW ws)) ∧ ∀ r : Int, partsN wide ends i n g ws = some r → 0 ≤ g → ((s.out.length + 1 : Int) < n ∨ (s.out.length + 1 : Int) = n ∧ (g = 0 ∨ wid s.line ≤ g)) → ((runF wide s (tailW ws)).out.length + 1 : Int) ≤ r
  | [], s, i, n, g, _, hs => by
    refine ⟨hs, fun r hr hg hc => ?_⟩
    simp only [partsN, Option.some.injEq] at hr
    show (s.out.length + 1 : Int) ≤ r
    omega
  | w :: ws, s, i, n, g, hw, hs => by
    have hw1 := hw w (by simp)
    have h := fun i n g => greedy_more h1 ends ws (nextW wide s w) i n g (fun x hx => hw x (List.mem_cons_of_mem _ hx)) (gs_next hs hw1.1)
    rw [run_next h1 hw1.1 hw1.2 ws hs]
    refine ⟨(h 0 0 0).1, fun r hr hg0 hc => ?_⟩
    unfold partsN at hr
    by_cases hf : wide < (if g = 0 then (w : Int) else g + 1 + w)
    · rw [if_pos hf] at hr
      cases hr
    · rw [if_neg hf] at hr
      refine (h _ _ _).2 r hr ?_ ?_
      · split
        · omega
        · split <;> omega
      obtain ⟨X, hX⟩ : ∃ X, (if g = 0 then (w : Int) else g + 1 + w) = X := ⟨_, rfl⟩
      obtain ⟨N, hN⟩ : ∃ N, (if g = 0 then n + 1 else n) = N := ⟨_, rfl⟩
      obtain ⟨E, hE⟩ : ∃ E, (if i < ends.length ∧ ends.getD i 0 ≠ 0 then 0 else X) = E := ⟨_, rfl⟩
      have hE2 : E = 0 ∨ E = X := by rw [← hE]; split <;> simp
      rw [hX] at hf
      rw [hN, hX, hE]
      have hc2 : 0 ≤ X ∧ ((s.out.length + 1 : Int) < N ∧ (w : Int) ≤ X ∨ (s.out.length + 1 : Int) = N ∧ wid s.line + 1 + w ≤ X) := by
        rw [← hX, ← hN]
        by_cases hg : g = 0
        · simp only [if_pos hg]; omega
        · simp only [if_neg hg]; omega
      unfold nextW
      by_cases hn : wide < wid s.line + 1 + w
      · rw [if_pos hn]
        simp only [List.length_append, List.length_cons, List.length_nil, wid_word]
        omega
      · rw [if_neg hn]
        have e : wid (s.line ++ bG :: wordG w) = wid s.line + 1 + w := by rw [wid_app]; simp only [wid, wid_word, bG]; omega
        simp only [e]
        omega
/-- Filling line by line takes the fewest lines; no line could take the first word of the next one. -/
theorem greedy {wide : Int} (h1 : 1 ≤ wide) (ends : List Int) (ws : List Nat) (hw : ∀ w ∈ ws, 1 ≤ w ∧ (w : Int) ≤ wide) : Chn wide (fillM wide (flowW ws)) ∧ ∀ r : Int, partsN wide ends 0 0 0 ws = some r → ((fillM wide (flowW ws)).length : Int) ≤ r := by
  cases ws with
  | nil =>
    refine ⟨fun i h => ?_, fun r hr => ?_⟩
    · exact absurd h (by simp [fillM, flowW, runS, endU, fs0])
    · simp only [partsN, Option.some.injEq] at hr
      subst hr
      simp [fillM, flowW, runS, endU, fs0]
  | cons w ws =>
    have hw1 := hw w (by simp)
    have e : runF wide fs0 (flowW (w :: ws)) = runF wide ⟨[], wordG w, []⟩ (tailW ws) := by
      show runF wide fs0 (wordG w ++ tailW ws) = _
      rw [run_word h1 hw1.1 (tail_or ws)]
      congr 1
      unfold wordS roomS
      rw [if_neg (by simp [fs0, wid, wid_word]; omega)]
      unfold laidS
      rw [foldl_fits _ _ (wordG_ok w) (by simp [fs0, wid, wid_word]; omega)]
      simp [fs0]
    have hg : Gs wide ⟨[], wordG w, []⟩ := ⟨by simp [wordG]; omega, rfl, by simpa using chn_one _ _⟩
    have h := fun i n g => greedy_more h1 ends ws ⟨[], wordG w, []⟩ i n g (fun x hx => hw x (List.mem_cons_of_mem _ hx)) hg
    have e2 : fillM wide (flowW (w :: ws)) = (runF wide ⟨[], wordG w, []⟩ (tailW ws)).out ++ [(runF wide ⟨[], wordG w, []⟩ (tailW ws)).line] := by
      rw [fillM_eq, e]
      unfold endU
      rw [if_neg (h 0 0 0).1.ne]
      rfl
    rw [e2]
    refine ⟨(h 0 0 0).1.ch, fun r hr => ?_⟩
    unfold partsN at hr
    simp only [if_true, if_pos rfl] at hr
    rw [if_neg (by omega)] at hr
    have := (h _ _ _).2 r hr (by split <;> omega) (by
      simp only [wid_word, List.length_nil]
      split <;> omega)
    simp only [List.length_append, List.length_cons, List.length_nil]
    omega
end Go.Proofs.Ytadecjjbpoaooaa.Tb
