/- Layer 12: the program's small functions over glyphs. -/
import Derived.Test.YtadecjjbpoaooaaUb
import Derived.Deep.RegionLaw
namespace Go.Proofs.Ytadecjjbpoaooaa.Tb
open Go.RowKit Go.Maps
set_option linter.unusedVariables false
set_option linter.unusedSimpArgs false
def within (a b c : Int) : Bool := decide (b ≤ a ∧ a ≤ c)
set_option maxRecDepth 100000 in
theorem within_pro (a b c : Int) (w : World) : Calls Try.prog 24 #[.int .i64 a, .int .i64 b, .int .i64 c] w fun e w' => e = .returned (.bool (within a b c)) ∧ w = w' := by
  by_cases h1 : b ≤ a
  · by_cases h2 : a ≤ c
    · rw [show within a b c = true from decide_eq_true ⟨h1, h2⟩]
      go_enter Try.func24, Try.ntmps24
      go_wp2_with fail
      go_ret
      exact ⟨rfl, rfl⟩
    · rw [show within a b c = false from decide_eq_false (by omega)]
      go_enter Try.func24, Try.ntmps24
      go_wp2_with fail
      go_ret
      exact ⟨rfl, rfl⟩
  · rw [show within a b c = false from decide_eq_false (by omega)]
    go_enter Try.func24, Try.ntmps24
    go_wp2_with fail
    go_ret
    exact ⟨rfl, rfl⟩
theorem below_box (w : World) (o : Obj) : Below w.heap.size w (w.alloc o) := (Below.refl _ w).alloc (Nat.le_refl _) _
theorem box_cells (w : World) (g : Gl) : (w.alloc (boxG g)).cell? ⟨w.heap.size, 0, none⟩ = some (.string g.t) ∧ (w.alloc (boxG g)).cell? ⟨w.heap.size, 1, none⟩ = some (.int .i64 g.wd) ∧ (w.alloc (boxG g)).cell? ⟨w.heap.size, 2, none⟩ = some (.int .i64 g.at_) ∧ (w.alloc (boxG g)).cell? ⟨w.heap.size, 3, none⟩ = some (.int .i64 g.co) ∧ (w.alloc (boxG g)).cell? ⟨w.heap.size, 4, none⟩ = some (.int .i64 g.lk) := by
  unfold boxG
  refine ⟨?_, ?_, ?_, ?_, ?_⟩ <;> rw [cell_of_row _ _ _ _ _ _ (heap_alloc_new w _)] <;> rfl
set_option maxRecDepth 100000 in
theorem noSign_pro (g : Gl) (w : World) : Calls Try.prog 39 #[glV g] w (SaysL (.bool (noS g)) w) := by
  have hb := below_box w (boxG g)
  unfold boxG at hb
  unfold glV
  cases h1 : isB g with
  | true =>
    rw [show noS g = true by simp [noS, h1]]
    unfold isB at h1
    have HB := Lib.hid hb
    clear hb
    go_enter Try.func39, Try.ntmps39
    go_wp2_with fail
    go_ret
    exact ⟨rfl, HB.out⟩
  | false =>
    cases h2 : isT g with
    | true =>
      rw [show noS g = true by simp [noS, h1, h2]]
      unfold isB at h1
      unfold isT at h2
      have HB := Lib.hid hb
      clear hb
      go_enter Try.func39, Try.ntmps39
      go_wp2_with fail
      go_ret
      exact ⟨rfl, HB.out⟩
    | false =>
      rw [show noS g = isN g by simp [noS, h1, h2]]
      unfold isB at h1
      unfold isT at h2
      obtain ⟨z, hz⟩ : ∃ z, isN g = z := ⟨_, rfl⟩
      rw [hz]
      unfold isN at hz
      have HB := Lib.hid hb
      clear hb
      cases z
      all_goals
        go_enter Try.func39, Try.ntmps39
        go_wp2_with fail
        go_ret
        exact ⟨rfl, HB.out⟩
set_option maxRecDepth 100000 in
theorem mayNot_pro (g : Gl) (w : World) : Calls Try.prog 30 #[glV g] w (SaysL (.bool (badG g)) w) := by
  have hb := below_box w (boxG g)
  have HN := Lib.hid (noSign_pro g (w.alloc (boxG g)))
  unfold boxG at hb HN
  unfold glV at HN ⊢
  have HB := Lib.hid hb
  have e1 : ∀ b, badG g = b → badG g = b := fun _ h => h
  unfold badG
  clear hb e1
  obtain ⟨z, hz⟩ : ∃ z, noS g = z := ⟨_, rfl⟩
  rw [hz] at HN ⊢
  clear hz
  cases z with
  | true =>
    simp only [Bool.not_true, Bool.false_and]
    go_enter Try.func30, Try.ntmps30
    go_wp2_with fail
    refine HN.out.mono ?_
    rintro e w1 ⟨rfl, hb⟩
    have HB2 := Lib.hid hb
    clear hb
    go_wp2_with fail
    go_ret
    exact ⟨rfl, HB.out.trans (HB2.out.mono HB.out.size)⟩
  | false =>
    simp only [Bool.not_false, Bool.true_and]
    have HC := Lib.hid (box_cells w g)
    unfold boxG at HC
    obtain ⟨z, hz⟩ : ∃ z, (g.t.toList == []) = z := ⟨_, rfl⟩
    rw [hz]
    cases z with
    | true =>
      simp only [Bool.true_or]
      have HZ := Lib.hid hz
      clear hz
      go_enter Try.func30, Try.ntmps30
      go_wp2_with fail
      refine HN.out.mono ?_
      rintro e w1 ⟨rfl, hb⟩
      have hz := HZ.out
      have c0 := (hb.cell (p := ⟨w.heap.size, 0, none⟩) (cellInL HC.out.1)).trans HC.out.1
      have HB2 := Lib.hid hb
      have z2 : g.t.toList = [] := by simpa using hz
      clear hb
      go_wp2_with fail
      go_ret
      exact ⟨rfl, HB.out.trans (HB2.out.mono HB.out.size)⟩
    | false =>
      rw [show (decide (1 ≤ g.wd) && decide (g.wd ≤ 2)) = within g.wd 1 2 by unfold within; rw [Bool.decide_and]]
      simp only [Bool.false_or]
      have HZ := Lib.hid hz
      clear hz
      go_enter Try.func30, Try.ntmps30
      go_wp2_with fail
      refine HN.out.mono ?_
      rintro e w1 ⟨rfl, hb⟩
      have hz := HZ.out
      have c0 := (hb.cell (p := ⟨w.heap.size, 0, none⟩) (cellInL HC.out.1)).trans HC.out.1
      have c1 := (hb.cell (p := ⟨w.heap.size, 1, none⟩) (cellInL HC.out.2.1)).trans HC.out.2.1
      have HB2 := Lib.hid hb
      clear hb
      go_wp2_with fail
      refine (within_pro _ _ _ _).mono ?_
      rintro e w2 ⟨rfl, rfl⟩
      go_wp2_with fail
      go_ret
      exact ⟨rfl, HB.out.trans (HB2.out.mono HB.out.size)⟩
def MakesG (g : Gl) (w : World) (e : Ending) (w' : World) : Prop := e = .returned (glV g) ∧ Below w.heap.size w w'
set_option maxRecDepth 100000 in
theorem blank_pro (g : Gl) (w : World) : Calls Try.prog 45 #[glV g] w (MakesG (blank g) w) := by
  unfold glV
  go_enter Try.func45, Try.ntmps45
  go_wp2_with fail
  refine bodyPost_ret (v := glV (blank g)) ?_ rfl ⟨rfl, ?_⟩
  · simp [results, Try.results45, go_sem, glV, blank, bl1]
  · exact ((below_box w _).alloc (by simp) _)
end Go.Proofs.Ytadecjjbpoaooaa.Tb
