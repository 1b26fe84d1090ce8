/- Layer 11: the document's checker, an operation of any kind. -/
import Derived.Test.YtjohhahfpgfjdaaGreatDoorKQw
namespace Go.Proofs.YtjohhahfpgfjdaaGreatDoor.Ir
open Go.RowKit Go.Maps Go.Proofs.YtjohhahfpgfjdaaGreatDoor
set_option linter.unusedVariables false
set_option linter.unusedSimpArgs false
set_option maxRecDepth 100000
def dTk (d : Dc) (k : Int) (wl : Nat) : Dc := { dTake d k wl with tx := d.tx }
def DcB (d : Dc) (N : Nat) : Prop := ∀ x ∈ d.op, x.items ≤ N ∧ x.rows ≤ N ∧ x.cells ≤ N
theorem DcB.take {d : Dc} {N : Nat} (h : DcB d N) (k : Int) (wl : Nat) : DcB (dTake d k wl) (N + 1) := by
  have hw : DcB d (N + 1) := fun x hx => by have := h x hx; omega
  have hm : ∀ (f : Dl → Dl), (∀ x : Dl, (f x).items ≤ x.items + 1 ∧ (f x).rows ≤ x.rows + 1 ∧ (f x).cells ≤ x.cells + 1) → ∀ x ∈ mapTopD f d.op, x.items ≤ N + 1 ∧ x.rows ≤ N + 1 ∧ x.cells ≤ N + 1 := fun f hf x hx => by
    unfold mapTopD at hx
    rcases List.mem_append.1 hx with hx | hx
    · exact hw x (List.dropLast_subset _ hx)
    · cases e : d.op.getLast? with
      | none => rw [e] at hx; simp at hx
      | some y =>
        rw [e] at hx
        simp at hx
        subst hx
        have h1 := h y (List.mem_of_getLast? e)
        have h2 := hf y
        omega
  have hp : ∀ y : Dl, y.items = 0 ∧ y.rows = 0 ∧ y.cells = 0 → ∀ x ∈ d.op ++ [y], x.items ≤ N + 1 ∧ x.rows ≤ N + 1 ∧ x.cells ≤ N + 1 := fun y hy x hx => by
    rcases List.mem_append.1 hx with hx | hx
    · exact hw x hx
    · simp at hx; subst hx; omega
  unfold dTake DcB
  split
  · exact hw
  split
  · exact hw
  split
  · exact hm _ fun x => by simp
  split
  · exact hw
  split
  · exact hp dl0 ⟨rfl, rfl, rfl⟩
  split
  · exact hp _ ⟨rfl, rfl, rfl⟩
  split
  · exact hm _ fun x => by simp
  split
  · exact hm _ fun x => by simp
  split
  · exact fun x hx => hw x (List.dropLast_subset _ hx)
  · exact hw
section
variable {B g : Nat} {w : World} {d : Dc} {vb vo : Value}
theorem inl_ref (k n : Int) (t : ByteArray) (p : Option Addr) (l c : Nat) (h : DcM B g w d vb vo) (hk : k = 1 ∨ k = 2 ∨ k = 3 ∨ k = 4 ∨ k = 5 ∨ k = 6 ∨ k = 7 ∨ k = 9) :
    Calls Tryz.prog 69 #[.pointer (some ⟨g, 0, none⟩), opB k n t p l c] w (DoIs B g (dMay d k) (if dMay d k = true then dTk d k l else d) w) := by
  cases hp : d.para with
  | false =>
    have e : dMay d k = false := by
      unfold dMay
      rw [if_pos (by omega), hp]
      rfl
    rw [e]
    exact inl_np k n t p l c h hp
  | true =>
    rcases hk with rfl | rfl | rfl | rfl | rfl | rfl | rfl | rfl
    · have e : dMay d 1 = !d.tx := by simp [dMay, hp]
      have e2 : dTk d 1 l = d := by cases d; simp [dTk, dTake]
      rw [e, e2, ite_self]
      exact inl_1 n t p l c h hp
    · by_cases hn : 16 ≤ d.br.length
      · have e : dMay d 2 = false := by simp [dMay, hp, hn]
        rw [e]
        exact inl_2_deep n t p l c h hp hn
      · have e : dMay d 2 = true := by simp [dMay, hp]; omega
        have e2 : dTk d 2 l = { d with br := d.br ++ [false] } := by simp [dTk, dTake]
        rw [e, if_pos rfl, e2]
        exact inl_2 n t p l c h hp (by omega)
    · by_cases hn : 16 ≤ d.br.length
      · have e : dMay d 3 = false := by simp [dMay, hp, hn]
        rw [e]
        exact inl_3_deep n t p l c h hp hn
      · cases hl : d.br.any id with
        | true =>
          have e : dMay d 3 = false := by simp only [dMay, hp, hl]; simp
          rw [e, if_neg Bool.false_ne_true]
          exact inl_3_linked n t p l c h hp (by omega) hl
        | false =>
          have e : dMay d 3 = true := by simp only [dMay, hp, hl]; simp; omega
          have e2 : dTk d 3 l = { d with br := d.br ++ [true] } := by simp [dTk, dTake]
          rw [e, if_pos rfl, e2]
          exact inl_3 n t p l c h hp (by omega) hl
    · by_cases hn : 16 ≤ d.br.length
      · have e : dMay d 4 = false := by simp [dMay, hp, hn]
        rw [e]
        exact inl_4_deep n t p l c h hp hn
      · cases hl : d.br.any id with
        | true =>
          have e : dMay d 4 = false := by simp only [dMay, hp, hl]; simp
          rw [e, if_neg Bool.false_ne_true]
          exact inl_4_linked n t p l c h hp (by omega) hl
        | false =>
          have e : dMay d 4 = true := by simp only [dMay, hp, hl]; simp; omega
          have e2 : dTk d 4 l = { d with br := d.br ++ [true] } := by simp [dTk, dTake]
          rw [e, if_pos rfl, e2]
          exact inl_4 n t p l c h hp (by omega) hl
    · by_cases hn : d.br.length = 0
      · have e : dMay d 5 = false := by simp only [dMay, hp, hn]; simp
        rw [e]
        exact inl_5_none n t p l c h hp hn
      · have e : dMay d 5 = true := by
          have h9 : decide (0 < d.br.length) = true := decide_eq_true (by omega)
          simp only [dMay, hp, h9]; simp
        have e2 : dTk d 5 l = { d with br := d.br.dropLast } := by simp [dTk, dTake]
        rw [e, if_pos rfl, e2]
        exact inl_5 n t p l c h hp (by omega)
    · have e : dMay d 6 = true := by simp [dMay, hp]
      have e2 : dTk d 6 l = d := by cases d; simp [dTk, dTake]
      rw [e, e2, ite_self]
      exact inl_6 n t p l c h hp
    · have e : dMay d 7 = true := by simp [dMay, hp]
      have e2 : dTk d 7 l = d := by cases d; simp [dTk, dTake]
      rw [e, e2, ite_self]
      exact inl_7 n t p l c h hp
    · by_cases hn : d.br.length = 0
      · have e : dMay d 9 = true := by simp only [dMay, hp, hn]; simp
        have e2 : dTk d 9 l = { d with para := false } := by simp [dTk, dTake]
        rw [e, if_pos rfl, e2]
        exact inl_9 n t p l c h hp hn
      · have e : dMay d 9 = false := by
          have h9 : decide (d.br.length = 0) = false := decide_eq_false hn
          simp only [dMay, hp, h9]; simp
        rw [e, if_neg Bool.false_ne_true]
        exact inl_9_open n t p l c h hp (by omega)
theorem blk_ref (k n : Int) (t : ByteArray) (p : Option Addr) (l c : Nat) (h : DcM B g w d vb vo) (hk : k = 8 ∨ k = 10 ∨ k = 11 ∨ k = 12 ∨ k = 13 ∨ k = 14) (hN : DcB d 100000) :
    Calls Tryz.prog 70 #[.pointer (some ⟨g, 0, none⟩), opB k n t p l c] w (DoIs B g (dMay d k) (if dMay d k = true then dTk d k l else d) w) := by
  cases hp : d.para with
  | true =>
    have e : dMay d k = false := by
      unfold dMay
      rw [if_neg (by omega), hp]
      rfl
    rw [e]
    exact blk_para k n t p l c h hp
  | false =>
    rcases List.eq_nil_or_concat d.op with he | ⟨ini, x, he⟩
    · rcases hk with rfl | rfl | rfl | rfl | rfl | rfl
      · have e : dMay d 8 = true := by simp [dMay, hp, he, dTop, dl0]
        have e2 : dTk d 8 l = { d with para := true } := by simp [dTk, dTake, mapTopD, he]
        rw [e, if_pos rfl, e2]
        exact blk_8_none n t p l c h hp he
      · have e : dMay d 10 = true := by simp [dMay, hp, he, dTop, dl0]
        have e2 : dTk d 10 l = { d with op := d.op ++ [dl0] } := by simp [dTk, dTake, dl0]
        rw [e, if_pos rfl, e2]
        exact blk_10_none n t p l c h hp he
      · have e : dMay d 11 = false := by simp [dMay, hp, he, dTop, dl0]
        rw [e]
        exact blk_11_none n t p l c h hp he
      · have e : dMay d 12 = true := by simp [dMay, hp, he, dTop, dl0]
        have e2 : dTk d 12 l = { d with op := d.op ++ [⟨true, 0, l, 0, 0⟩] } := by simp [dTk, dTake, dl0]
        rw [e, if_pos rfl, e2]
        exact blk_12 n t p l c h hp he
      · have e : dMay d 13 = false := by simp [dMay, hp, he, dTop, dl0]
        rw [e]
        exact blk_13_none n t p l c h hp he
      · have e : dMay d 14 = false := by simp [dMay, hp, he, dTop, dl0]
        rw [e]
        exact blk_14_none n t p l c h hp he
    · rw [List.concat_eq_append] at he
      have t1 : dTop d = x := by simp [dTop, he]
      have t2 : d.op.isEmpty = false := by simp [he]
      have t3 : d.op.length = ini.length + 1 := by simp [he]
      have m1 : ∀ f : Dl → Dl, mapTopD f d.op = ini ++ [f x] := fun f => by simp [mapTopD, he]
      have t4 : d.op.dropLast = ini := by simp [he]
      have hNx := hN x (by rw [he]; simp)
      rcases hk with rfl | rfl | rfl | rfl | rfl | rfl
      · cases ht : x.tab with
        | true =>
          by_cases h0 : x.rows = 0
          · have e : dMay d 8 = false := by simp [dMay, hp, t1, t2, ht, h0]
            rw [e]
            exact blk_8_row n t p l c h hp he ⟨ht, h0⟩
          · by_cases h1 : x.wide ≤ x.cells
            · have e : dMay d 8 = false := by simp [dMay, hp, t1, t2, ht, h0, h1]
              rw [e]
              exact blk_8_full n t p l c h hp he ⟨ht, by omega, h1⟩
            · have e : dMay d 8 = true := by simp [dMay, hp, t1, t2, ht, h0, h1]
              have e2 : dTk d 8 l = { d with para := true, op := ini ++ [{ x with cells := x.cells + 1 }] } := by simp [dTk, dTake, m1]
              rw [e, if_pos rfl, e2]
              exact blk_8_tab n t p l c h hp he ⟨ht, by omega, by omega⟩ hNx.2.2
        | false =>
          by_cases h0 : x.items = 0
          · have e : dMay d 8 = false := by simp [dMay, hp, t1, t2, ht, h0]
            rw [e]
            exact blk_8_none2 n t p l c h hp he ⟨ht, h0⟩
          · have e : dMay d 8 = true := by simp [dMay, hp, t1, t2, ht, h0]
            have e2 : dTk d 8 l = { d with para := true, op := ini ++ [{ x with cells := x.cells + 1 }] } := by simp [dTk, dTake, m1]
            rw [e, if_pos rfl, e2]
            exact blk_8_list n t p l c h hp he ⟨ht, by omega⟩ hNx.2.2
      · cases ht : x.tab with
        | true =>
          have e : dMay d 10 = false := by simp [dMay, hp, t1, t2, ht]
          rw [e]
          exact blk_10_tab n t p l c h hp he ht
        | false =>
          by_cases h0 : x.items = 0
          · have e : dMay d 10 = false := by simp [dMay, hp, t1, t2, ht, h0]
            rw [e]
            exact blk_10_none2 n t p l c h hp he ⟨ht, h0⟩
          · by_cases h1 : 8 ≤ ini.length + 1
            · have e : dMay d 10 = false := by simp [dMay, hp, t1, t2, ht, t3, h0, h1]
              rw [e]
              exact blk_10_deep n t p l c h hp he ⟨ht, by omega⟩ h1
            · have e : dMay d 10 = true := by simp [dMay, hp, t1, t2, ht, t3, h0, h1]
              have e2 : dTk d 10 l = { d with op := d.op ++ [dl0] } := by simp [dTk, dTake]
              rw [e, if_pos rfl, e2]
              exact blk_10 n t p l c h hp he ⟨ht, by omega⟩ (by omega)
      · cases ht : x.tab with
        | true =>
          have e : dMay d 11 = false := by simp [dMay, hp, t1, t2, ht]
          rw [e]
          exact blk_11_tab n t p l c h hp he ht
        | false =>
          have e : dMay d 11 = true := by simp [dMay, hp, t1, t2, ht]
          have e2 : dTk d 11 l = { d with op := ini ++ [{ x with items := x.items + 1 }] } := by simp [dTk, dTake, m1]
          rw [e, if_pos rfl, e2]
          exact blk_11 n t p l c h hp he ht hNx.1
      · have e : dMay d 12 = false := by simp [dMay, hp, t1, t2]
        rw [e]
        exact blk_12_in n t p l c h hp he
      · cases ht : x.tab with
        | false =>
          have e : dMay d 13 = false := by simp [dMay, hp, t1, t2, ht]
          rw [e]
          exact blk_13_list n t p l c h hp he ht
        | true =>
          cases h0 : fullB x with
          | false =>
            have e : dMay d 13 = false := by simp [dMay, hp, t1, t2, ht, h0]
            rw [e]
            exact blk_13_part n t p l c h hp he ⟨ht, h0⟩
          | true =>
            have e : dMay d 13 = true := by simp [dMay, hp, t1, t2, ht, h0]
            have e2 : dTk d 13 l = { d with op := ini ++ [{ x with rows := x.rows + 1, cells := 0 }] } := by simp [dTk, dTake, m1]
            rw [e, if_pos rfl, e2]
            exact blk_13 n t p l c h hp he ⟨ht, h0⟩ hNx.2.1
      · cases ht : x.tab with
        | false =>
          have e : dMay d 14 = true := by simp [dMay, hp, t1, t2, ht]
          have e2 : dTk d 14 l = { d with op := ini } := by simp [dTk, dTake, t4]
          rw [e, if_pos rfl, e2]
          exact blk_14_list n t p l c h hp he ht
        | true =>
          cases h0 : fullB x with
          | false =>
            have e : dMay d 14 = false := by simp [dMay, hp, t1, t2, ht, h0]
            rw [e]
            exact blk_14_part n t p l c h hp he ⟨ht, h0⟩
          | true =>
            have e : dMay d 14 = true := by simp [dMay, hp, t1, t2, ht, h0]
            have e2 : dTk d 14 l = { d with op := ini } := by simp [dTk, dTake, t4]
            rw [e, if_pos rfl, e2]
            exact blk_14_tab n t p l c h hp he ⟨ht, h0⟩
set_option maxHeartbeats 8000000 in
theorem step_inl (k n : Int) (t : ByteArray) (p : Option Addr) (l c : Nat) (h : DcM B g w d vb vo) (hk : k = 1 ∨ k = 2 ∨ k = 3 ∨ k = 4 ∨ k = 5 ∨ k = 6 ∨ k = 7 ∨ k = 9) :
    Calls Tryz.prog 33 #[.pointer (some ⟨g, 0, none⟩), opB k n t p l c] w (DoIs B g (dMay d k) { (if dMay d k = true then dTk d k l else d) with tx := decide (k = 1) } w) := by
  have hA : Below w.heap.size w (w.alloc (opO k n t p l c)) := (Below.refl _ _).alloc (Nat.le_refl _) _
  have hB : B ≤ w.heap.size := Nat.le_trans h.gB (Nat.le_of_lt h.lt)
  have hx := heap_alloc_new w (opO k n t p l c)
  have z : (w.alloc (opO k n t p l c)).cell? ⟨w.heap.size, 0, none⟩ = some (.int .i64 k) ∧ (w.alloc (opO k n t p l c)).cell? ⟨w.heap.size, 1, none⟩ = some (.int .i64 n) ∧ (w.alloc (opO k n t p l c)).cell? ⟨w.heap.size, 2, none⟩ = some (.string t) ∧ (w.alloc (opO k n t p l c)).cell? ⟨w.heap.size, 3, none⟩ = some (.slice p l c) := by
    unfold opO at hx ⊢
    refine ⟨?_, ?_, ?_, ?_⟩ <;> rw [cell_of_row _ _ _ _ _ _ hx] <;> rfl
  have HS := Lib.hid (Nat.le_trans hB hA.size)
  have HB := Lib.hid (hA.mono hB)
  have hd := h.below hA
  have hdd : DcM B g (w.alloc (opO k n t p l c)).drew d vb vo := ⟨hd.row, hd.br, hd.op, hd.gB⟩
  have HC := Lib.hid (inl_ref k n t p l c hdd hk)
  unfold opB at HC ⊢
  unfold opO at z HS HB HC
  obtain ⟨z0, z1, z2, z3⟩ := z
  obtain ⟨E, hE⟩ : ∃ E, (k == (1 : Int)) = E := ⟨_, rfl⟩
  have HEq := Lib.hid hE
  obtain ⟨M, hM⟩ : ∃ M, dMay d k = M := ⟨_, rfl⟩
  obtain ⟨S, hS⟩ : ∃ S : Dc, (if dMay d k = true then dTk d k l else d) = S := ⟨_, rfl⟩
  rw [hS, hM] at HC ⊢
  have hk1 : decide (k = 1) = E := by rw [← hE]; by_cases h9 : k = 1 <;> simp [h9]
  rw [hk1]
  have g1 : (k ≤ 7) ∨ (k = 9 ∧ ¬ k ≤ 7) := by omega
  rcases g1 with g1 | ⟨rfl, g1⟩
  all_goals
    clear h hA hB hx hd hdd hk hM hS hk1
    go_enter Tryz.func33, Tryz.ntmps33
    go_wp2_with fail
    go_region_with (go_at_call 69; refine HC.out.mono ?_; rintro e w1 ⟨rfl, hb1, vb1, vo1, h1⟩; have H1 := Lib.hid (h1.setTx E); have HG1 := Lib.hid h1.gB; have HB1 := Lib.hid (HB.out.drew.trans hb1); obtain ⟨⟨k0, k1, k2, k3⟩, k4, k5, k6, k7⟩ := h1.facts; clear hb1 h1)
    all_goals
      go_wp2_with fail
      go_ret
      exact ⟨rfl, HB1.out.setCell (p := ⟨g, 3, none⟩) HG1.out _, _, _, H1.out⟩
set_option maxHeartbeats 8000000 in
theorem step_blk (k n : Int) (t : ByteArray) (p : Option Addr) (l c : Nat) (h : DcM B g w d vb vo) (hk : k = 8 ∨ k = 10 ∨ k = 11 ∨ k = 12 ∨ k = 13 ∨ k = 14) (hN : DcB d 100000) :
    Calls Tryz.prog 33 #[.pointer (some ⟨g, 0, none⟩), opB k n t p l c] w (DoIs B g (dMay d k) { (if dMay d k = true then dTk d k l else d) with tx := decide (k = 1) } w) := by
  have hA : Below w.heap.size w (w.alloc (opO k n t p l c)) := (Below.refl _ _).alloc (Nat.le_refl _) _
  have hB : B ≤ w.heap.size := Nat.le_trans h.gB (Nat.le_of_lt h.lt)
  have hx := heap_alloc_new w (opO k n t p l c)
  have z : (w.alloc (opO k n t p l c)).cell? ⟨w.heap.size, 0, none⟩ = some (.int .i64 k) ∧ (w.alloc (opO k n t p l c)).cell? ⟨w.heap.size, 1, none⟩ = some (.int .i64 n) ∧ (w.alloc (opO k n t p l c)).cell? ⟨w.heap.size, 2, none⟩ = some (.string t) ∧ (w.alloc (opO k n t p l c)).cell? ⟨w.heap.size, 3, none⟩ = some (.slice p l c) := by
    unfold opO at hx ⊢
    refine ⟨?_, ?_, ?_, ?_⟩ <;> rw [cell_of_row _ _ _ _ _ _ hx] <;> rfl
  have HS := Lib.hid (Nat.le_trans hB hA.size)
  have HB := Lib.hid (hA.mono hB)
  have hd := h.below hA
  have hdd : DcM B g (w.alloc (opO k n t p l c)).drew d vb vo := ⟨hd.row, hd.br, hd.op, hd.gB⟩
  have HC := Lib.hid (blk_ref k n t p l c hdd hk hN)
  unfold opB at HC ⊢
  unfold opO at z HS HB HC
  obtain ⟨z0, z1, z2, z3⟩ := z
  obtain ⟨E, hE⟩ : ∃ E, (k == (1 : Int)) = E := ⟨_, rfl⟩
  have HEq := Lib.hid hE
  obtain ⟨M, hM⟩ : ∃ M, dMay d k = M := ⟨_, rfl⟩
  obtain ⟨S, hS⟩ : ∃ S : Dc, (if dMay d k = true then dTk d k l else d) = S := ⟨_, rfl⟩
  rw [hS, hM] at HC ⊢
  have hk1 : decide (k = 1) = E := by rw [← hE]; by_cases h9 : k = 1 <;> simp [h9]
  rw [hk1]
  have g1 : ¬ k ≤ 7 := by omega
  have g2 : (k == (9 : Int)) = false := by simp; omega
  skip
  all_goals
    clear h hA hB hx hd hdd hk hM hS hk1 hN
    go_enter Tryz.func33, Tryz.ntmps33
    go_wp2_with fail
    go_region_with (go_at_call 70; refine HC.out.mono ?_; rintro e w1 ⟨rfl, hb1, vb1, vo1, h1⟩; have H1 := Lib.hid (h1.setTx E); have HG1 := Lib.hid h1.gB; have HB1 := Lib.hid (HB.out.drew.trans hb1); obtain ⟨⟨k0, k1, k2, k3⟩, k4, k5, k6, k7⟩ := h1.facts; clear hb1 h1)
    all_goals
      go_wp2_with fail
      go_ret
      exact ⟨rfl, HB1.out.setCell (p := ⟨g, 3, none⟩) HG1.out _, _, _, H1.out⟩
end
end Go.Proofs.YtjohhahfpgfjdaaGreatDoor.Ir
