/- The texts that the laws of layout stand on, part 3. -/
import Derived.Test.YtjohhahfpgfjdaaGreatDoorK2
section
namespace Go.Proofs.YtjohhahfpgfjdaaGreatDoor.Tb
set_option linter.unusedVariables false
set_option linter.unusedSimpArgs false
/-- A line that fits. -/
def LineOk (wide : Int) (r : List Gl) : Prop := (∀ g ∈ r, 1 ≤ g.wd ∧ g.wd ≤ 2) ∧ wid r ≤ wide
def OutOk (wide : Int) (s : Fs) : Prop := ∀ r ∈ s.out, LineOk wide r
theorem Inv.lineOk {wide : Int} {s : Fs} (h : Inv wide s) : LineOk wide s.line := ⟨h.wd, h.le⟩
theorem out_end {wide : Int} {s : Fs} (h : OutOk wide s) (hi : Inv wide s) : OutOk wide (endS s) := fun r hr => by
  rcases List.mem_append.1 hr with hr | hr
  · exact h r hr
  · rw [List.mem_singleton] at hr
    rw [hr]; exact hi.lineOk
theorem out_endU {wide : Int} {s : Fs} (h : OutOk wide s) (hi : Inv wide s) : OutOk wide (endU s) := by
  unfold endU
  split
  · exact h
  · exact out_end h hi
theorem out_sign {wide : Int} {s : Fs} {g : Gl} (h : OutOk wide s) (hi : Inv wide s) : OutOk wide (signS wide s g) := by
  unfold signS
  split
  · exact out_end h hi
  · exact h
theorem out_foldl {wide : Int} : ∀ (w : List Gl) (s : Fs), OutOk wide s → Inv wide s → (∀ g ∈ w, (1 ≤ g.wd ∧ g.wd ≤ 2) ∧ g.wd ≤ wide) → OutOk wide (w.foldl (signS wide) s)
  | [], s, h, _, _ => h
  | g :: w, s, h, hi, hw => by
    have hg := hw g (by simp)
    exact out_foldl w (signS wide s g) (out_sign h hi) (hi.sign hg.1 hg.2) fun x hx => hw x (List.mem_cons_of_mem _ hx)
theorem out_word {wide : Int} {s : Fs} (h : OutOk wide s) (hi : Inv wide s) (hw : 0 ≤ wide) {w : List Gl} (hg : ∀ g ∈ w, (1 ≤ g.wd ∧ g.wd ≤ 2) ∧ g.wd ≤ wide) : OutOk wide (wordS wide s w) := by
  have hn := (wid_ge w fun g hx => (hg g hx).1).1
  have h1 := roomS_inv hi w hw
  have h2 := laid_inv h1 (room_fits hi w hw (by omega))
  refine out_foldl w _ ?_ h2 hg
  show OutOk wide (laidS (roomS wide s w))
  intro r hr
  have : r ∈ (roomS wide s w).out := hr
  unfold roomS at this
  split at this
  · exact out_endU h hi r this
  · exact h r this
theorem out_step {wide : Int} {s : Fs} (h : OutOk wide s) (hi : Inv wide s) (g : Gl) : OutOk wide (stepS wide s g) := by
  unfold stepS
  split
  · unfold waitS
    split
    · exact h
    · exact h
  · split
    · unfold tabS
      split
      · exact h
      · exact out_end h hi
    · exact out_end h hi
theorem run_ok {wide : Int} (h1 : 1 ≤ wide) : ∀ (n : Nat) (s : Fs) (l : List Gl), OutOk wide s → Inv wide s → (∀ y ∈ l, badG y = false) → OutOk wide (runS wide n s l) ∧ Inv wide (runS wide n s l)
  | 0, s, l, h, hi, _ => ⟨h, hi⟩
  | n + 1, s, [], h, hi, _ => ⟨h, hi⟩
  | n + 1, s, g :: l, h, hi, hb => by
    unfold runS
    split
    · have hg : ∀ x ∈ (firstW (g :: l)).map (fitG wide), (1 ≤ x.wd ∧ x.wd ≤ 2) ∧ x.wd ≤ wide := fun x hx => by
        obtain ⟨y, hy, rfl⟩ := List.mem_map.1 hx
        exact fit_ok h1 (hb y (firstW_sub _ y hy)) (firstW_all _ y hy)
      exact run_ok h1 n _ _ (out_word h hi (by omega) hg) (wordS_inv hi (by omega) hg).1 fun y hy => hb y (List.mem_of_mem_drop hy)
    · exact run_ok h1 n _ _ (out_step h hi g) (stepS_inv hi g (by omega)).1 fun y hy => hb y (List.mem_cons_of_mem _ hy)
theorem fillE_ok {wide : Int} {l : List Gl} (h : fillE wide l = 0) : (1 ≤ wide ∧ wide ≤ 200) ∧ ∀ y ∈ l, badG y = false := by
  unfold fillE at h
  split at h
  · cases h
  · split at h
    · cases h
    · rename_i h1 h2
      refine ⟨by omega, fun y hy => ?_⟩
      cases e : badG y
      · rfl
      · exact absurd (List.any_eq_true.2 ⟨y, hy, e⟩) h2
theorem fill_lines {wide : Int} {l : List Gl} (h : fillE wide l = 0) : ∀ r ∈ fillM wide l, LineOk wide r := by
  obtain ⟨hw, hb⟩ := fillE_ok h
  have h1 := run_ok hw.1 l.length fs0 l (fun r hr => absurd hr (by simp [fs0])) (inv0 (by omega)) hb
  intro r hr
  exact out_endU h1.1 h1.2 r hr
theorem run_meas {wide : Int} (h1 : 1 ≤ wide) : ∀ (n : Nat) (s : Fs) (l : List Gl), Inv wide s → (∀ y ∈ l, badG y = false) → meas (runS wide n s l) ≤ meas s + l.length
  | 0, s, l, _, _ => by simp [runS]
  | n + 1, s, [], _, _ => by simp [runS]
  | n + 1, s, g :: l, hi, hb => by
    unfold runS
    split
    · have hg : ∀ x ∈ (firstW (g :: l)).map (fitG wide), (1 ≤ x.wd ∧ x.wd ≤ 2) ∧ x.wd ≤ wide := fun x hx => by
        obtain ⟨y, hy, rfl⟩ := List.mem_map.1 hx
        exact fit_ok h1 (hb y (firstW_sub _ y hy)) (firstW_all _ y hy)
      have hw := wordS_inv hi (by omega) hg
      have := run_meas h1 n _ ((g :: l).drop (firstW (g :: l)).length) hw.1 fun y hy => hb y (List.mem_of_mem_drop hy)
      have h2 := hw.2
      have h3 := firstW_le (g :: l)
      rw [List.length_map] at h2
      rw [List.length_drop] at this
      omega
    · have hs := stepS_inv hi g (show 0 ≤ wide by omega)
      have := run_meas h1 n _ l hs.1 fun y hy => hb y (List.mem_cons_of_mem _ hy)
      simp only [List.length_cons]
      omega
theorem fill_len {wide : Int} {l : List Gl} (h : fillE wide l = 0) : (fillM wide l).length ≤ l.length := by
  obtain ⟨hw, hb⟩ := fillE_ok h
  have h1 := run_meas hw.1 l.length fs0 l (inv0 (by omega)) hb
  have h2 := out_le (endU (runS wide l.length fs0 l))
  rw [meas_endU] at h2
  rw [meas0] at h1
  unfold fillM
  omega
def plainG : Gl := ⟨bl1 32, 1, 0, 7, 0⟩
def putLine (r : List Gl) (a : Int) (line : List Gl) : List Gl := r ++ List.replicate (a - wid r).toNat plainG ++ line
def putAt (rows lines : List (List Gl)) (a : Int) (k j : Nat) : List Gl := if j < k ∧ j < lines.length then putLine (rows.getD j []) a (lines.getD j []) else rows.getD j []
/-- Rows of which the first k have got their line of the next column. -/
def putK (rows lines : List (List Gl)) (a : Int) (k : Nat) : List (List Gl) := (List.range (max rows.length lines.length)).map (putAt rows lines a k)
def putB (rows lines : List (List Gl)) (a : Int) : List (List Gl) := putK rows lines a lines.length
theorem putK_len (rows lines : List (List Gl)) (a : Int) (k : Nat) : (putK rows lines a k).length = max rows.length lines.length := by simp [putK]
theorem putK_at {rows lines : List (List Gl)} {a : Int} {k j : Nat} (h : j < (putK rows lines a k).length) : (putK rows lines a k)[j] = putAt rows lines a k j := by simp [putK]
theorem putK_zero (rows lines : List (List Gl)) (a : Int) : putK rows lines a 0 = rows ++ List.replicate (lines.length - rows.length) [] := by
  apply List.ext_getElem
  · simp [putK]; omega
  · intro j h1 h2
    rw [putK_at h1]
    unfold putAt
    rw [if_neg (by omega)]
    by_cases h : j < rows.length
    · simp [List.getD_eq_getElem?_getD, h]
    · simp [List.getD_eq_getElem?_getD, h, List.getElem_append_right (show rows.length ≤ j by omega)]
theorem putK_set {rows lines : List (List Gl)} {a : Int} {k : Nat} (hk : k < lines.length) : (putK rows lines a k).set k (putLine (rows.getD k []) a lines[k]) = putK rows lines a (k + 1) := by
  apply List.ext_getElem
  · simp [putK]
  · intro j h1 h2
    rw [putK_at h2, List.getElem_set]
    have e : lines.getD k [] = lines[k] := by simp [List.getD_eq_getElem?_getD, hk]
    by_cases hj : k = j
    · subst hj
      rw [if_pos rfl]
      unfold putAt
      rw [if_pos ⟨by omega, hk⟩, e]
    · rw [if_neg hj]
      have h1' : j < (putK rows lines a k).length := by simpa using h1
      rw [putK_at h1']
      unfold putAt
      by_cases h : j < k ∧ j < lines.length
      · rw [if_pos h, if_pos ⟨by omega, h.2⟩]
      · rw [if_neg h, if_neg (by omega)]
theorem putLine_wid {r line : List Gl} {a : Int} (h : wid r ≤ a) : wid (putLine r a line) = a + wid line := by
  unfold putLine
  rw [wid_app, wid_app, wid_rep]
  simp only [plainG, Int.mul_one]
  omega
theorem putLine_ok {r line : List Gl} {a e wide : Int} (hr : LineOk e r) (hea : e ≤ a) (hl : LineOk wide line) : LineOk (a + wide) (putLine r a line) := by
  refine ⟨fun g hg => ?_, by rw [putLine_wid (Int.le_trans hr.2 hea)]; have := hl.2; omega⟩
  unfold putLine at hg
  rcases List.mem_append.1 hg with hg | hg
  · rcases List.mem_append.1 hg with hg | hg
    · exact hr.1 g hg
    · rw [List.mem_replicate] at hg
      rw [hg.2]; simp [plainG]
  · exact hl.1 g hg
theorem LineOk.mono {e e' : Int} {r : List Gl} (h : LineOk e r) (he : e ≤ e') : LineOk e' r := ⟨h.1, Int.le_trans h.2 he⟩
theorem lineOk_nil {e : Int} (h : 0 ≤ e) : LineOk e [] := ⟨fun g hg => absurd hg (by simp), by simp [wid, h]⟩
theorem lineOk_getD {e : Int} {rows : List (List Gl)} (h : ∀ r ∈ rows, LineOk e r) (h0 : 0 ≤ e) (j : Nat) : LineOk e (rows.getD j []) := by
  rw [List.getD_eq_getElem?_getD]
  by_cases hj : j < rows.length
  · rw [List.getElem?_eq_getElem hj]
    exact h _ (List.getElem_mem hj)
  · rw [List.getElem?_eq_none (by omega)]
    exact lineOk_nil h0
theorem putB_ok {rows lines : List (List Gl)} {a e wide : Int} (hr : ∀ r ∈ rows, LineOk e r) (h0 : 0 ≤ e) (hea : e ≤ a) (hl : ∀ r ∈ lines, LineOk wide r) (hw : 0 ≤ wide) : ∀ r ∈ putB rows lines a, LineOk (a + wide) r := by
  intro r hm
  obtain ⟨j, _, rfl⟩ := List.mem_map.1 hm
  unfold putAt
  split
  · exact putLine_ok (lineOk_getD hr h0 j) hea (lineOk_getD hl hw j)
  · exact (lineOk_getD hr h0 j).mono (by omega)
/-- May columns stand so? -/
def standF : Int → List (Int × Int) → Bool
  | _, [] => true
  | e, c :: cs => decide (1 ≤ c.2 ∧ c.2 ≤ 200) && decide (e ≤ c.1 ∧ c.1 ≤ 200 - c.2) && standF (c.1 + c.2) cs
def rowF : List (List Gl) → List (Int × Int) → List (List Gl) → List (List Gl)
  | acc, c :: cs, f :: fs => rowF (putB acc (fillM c.2 f) c.1) cs fs
  | acc, _, _ => acc
def errF : List (Int × Int) → List (List Gl) → Int
  | c :: cs, f :: fs => if fillE c.2 f = 0 then errF cs fs else fillE c.2 f
  | _, _ => 0
def rowE (cs : List (Int × Int)) (fs : List (List Gl)) : Int := if fs.length ≠ cs.length ∨ cs.length < 1 ∨ 8 < cs.length ∨ standF 0 cs = false then 1 else errF cs fs
def rowL (cs : List (Int × Int)) (fs : List (List Gl)) : List (List Gl) := if rowE cs fs = 0 then rowF [] cs fs else []
end Go.Proofs.YtjohhahfpgfjdaaGreatDoor.Tb
end
