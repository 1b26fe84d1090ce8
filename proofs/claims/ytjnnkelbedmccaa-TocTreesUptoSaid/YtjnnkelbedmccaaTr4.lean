/- Layer 10: what the law of Tree calls: entries, told; what comes in: lists of lists of numbers. -/
import Derived.Test.YtjnnkelbedmccaaTr3
namespace Go.Proofs.Ytjnnkelbedmccaa
open Go.Deep Go.ChangeShapes Go.WideShapes Go.RowKit Go.Maps
set_option linter.unusedVariables false
set_option maxRecDepth 100000 in
set_option maxHeartbeats 4000000 in
theorem entries_law (l : List Ent) (v u : Value) (w : World) (hv : RdE w v l) (hu : RdE w u l) (hl : l.length ≤ 1000) : Calls Try.prog 11 #[v, u] w (SaysL (.bool true) w) := by
  obtain ⟨pa, ca, rfl, _, _⟩ := hv.form
  obtain ⟨pb, cb, rfl, _, _⟩ := hu.form
  have HV := Lib.hid hv
  have HU := Lib.hid hu
  obtain ⟨n, hn⟩ : ∃ n, l.length = n := ⟨_, rfl⟩
  have HN := Lib.hid hn
  rw [hn] at HV HU hl ⊢
  have HL := Lib.hid hl
  have t0 : ((n : Int) != n) = false := by simp
  clear hv hu hn hl
  go_enter Try.func11, Try.ntmps11
  go_wp2_with fail
  go_loopw [5] (fun j wr => ∃ k : Nat, j = .int .i64 k ∧ k ≤ n ∧ Hid (Below w.heap.size w wr)) (fun j _ => n - (intOf j).toNat)
  case atStart => exact ⟨0, rfl, Nat.zero_le _, Lib.hid (Below.refl _ _)⟩
  case round =>
    obtain ⟨k, rfl, hk, HB⟩ := hrel
    have hl := HL.out
    by_cases hlt : k < n
    · have hkz : k < l.length := by rw [HN.out]; exact hlt
      obtain ⟨b1, o1, rfl, c1, c2⟩ := (HV.out.below HB.out).cell hkz
      obtain ⟨b2, o2, rfl, c3, c4⟩ := (HU.out.below HB.out).cell hkz
      have kr1 := cell_regrown c1
      have kr2 := cell_regrown c2
      have kr3 := cell_regrown c3
      have kr4 := cell_regrown c4
      have mixed : Try.prog.follows .mixedOrders = true := by kernel_rfl
      obtain ⟨x, hx⟩ : ∃ x, tpN l k = x := ⟨_, rfl⟩
      obtain ⟨y, hy⟩ : ∃ y, lvN l k = y := ⟨_, rfl⟩
      rw [hx] at kr1 kr3
      rw [hy] at kr2 kr4
      have k1 : (k : Int) < n := by omega
      have u1 : (x != x) = false := by simp
      have u2 : (y != y) = false := by simp
      clear c1 c2 c3 c4 hx hy hkz
      go_wp2_with fail
      refine wp_region_quiet_below mixed (by kernel_rfl) ?_
      repeat (quiet_step (fail))
      refine wpQuiet_nil ?_
      intro _ hw'
      obtain ⟨⟨dq, osq⟩, hw''⟩ := hw'
      subst hw''
      have HB6 := Lib.hid (HB.out.trans ((below_regrown wr dq osq).mono HB.out.size))
      clear kr1 kr2 kr3 kr4
      go_wp2_with fail
      go_roundw
      case measure => simp [intOf]; omega
      case rel => exact ⟨k + 1, by go_num, by omega, HB6⟩
    · obtain rfl : k = n := by omega
      have hlz : ¬ ((k : Int) < k) := by omega
      clear hlt
      go_wp2_with fail
      go_ret
      exact ⟨rfl, HB.out⟩
set_option maxRecDepth 100000 in
set_option maxHeartbeats 4000000 in
theorem told_law (f : Flt) (ev : Value) (w : World) (h : ErrOf f w ev) : Calls Try.prog 12 #[ev, wrV f] w (SaysL (.bool true) w) := by
  rcases h with ⟨h0, rfl⟩ | ⟨h0, g, rfl, hE⟩
  · have HB := Lib.hid ((Below.refl w.heap.size w).alloc (Nat.le_refl _) (.cells #[.int .i64 f.code, .int .i64 f.source, .int .i64 f.line, .int .i64 f.col, .string f.word] 40))
    have t1 : (f.code == 0) = true := by rw [h0]; rfl
    clear h0
    unfold wrV
    go_enter Try.func12, Try.ntmps12
    go_wp2_with fail
    go_ret
    exact ⟨rfl, HB.out⟩
  · have hb0 := (Below.refl w.heap.size w).alloc (Nat.le_refl _) (.cells #[.int .i64 f.code, .int .i64 f.source, .int .i64 f.line, .int .i64 f.col, .string f.word] 40)
    have HT := Lib.hid (toldof_pro g f _ (hE.below hb0))
    have hx := World.alloc_heap_new w (.cells #[.int .i64 f.code, .int .i64 f.source, .int .i64 f.line, .int .i64 f.col, .string f.word] 40)
    have HB := Lib.hid hb0
    have t1 : (f.code == 0) = false := by simpa using h0
    clear h0 hE
    have HX := Lib.hid hx
    clear hb0 hx
    unfold wrV
    unfold errV at HT ⊢
    go_enter Try.func12, Try.ntmps12
    go_wp2_with fail
    refine HT.out.mono ?_
    rintro e w2 ⟨rfl, hb⟩
    have hx2 := (hb.block w.heap.size (by simp)).trans HX.out
    have hlt : w.heap.size < w2.heap.size := (Array.getElem?_eq_some_iff.1 hx2).1
    have hx3 : (w2.alloc (.cells #[.int .i64 f.code, .int .i64 f.source, .int .i64 f.line, .int .i64 f.col, .string f.word, .slice none 0 0] 77)).heap[w.heap.size]? = some (.cells #[.int .i64 f.code, .int .i64 f.source, .int .i64 f.line, .int .i64 f.col, .string f.word] 40 (0, 0)) := (Below.heap_alloc w2 _ _ hlt).trans hx2
    have cx : ∀ k u, (#[.int .i64 f.code, .int .i64 f.source, .int .i64 f.line, .int .i64 f.col, .string f.word] : Array Value)[k]? = some u → (w2.alloc (.cells #[.int .i64 f.code, .int .i64 f.source, .int .i64 f.line, .int .i64 f.col, .string f.word, .slice none 0 0] 77)).cell? ⟨w.heap.size, k, none⟩ = some u := fun k u hu => by rw [cell_of_row _ _ _ _ _ _ hx3, hu]
    have c0 := cx 0 _ rfl
    have c1 := cx 1 _ rfl
    have c2 := cx 2 _ rfl
    have c3 := cx 3 _ rfl
    have c4 := cx 4 _ rfl
    have hy := World.alloc_heap_new w2 (.cells #[.int .i64 f.code, .int .i64 f.source, .int .i64 f.line, .int .i64 f.col, .string f.word, .slice none 0 0] 77)
    have cy : ∀ k u, (#[.int .i64 f.code, .int .i64 f.source, .int .i64 f.line, .int .i64 f.col, .string f.word, .slice none 0 0] : Array Value)[k]? = some u → (w2.alloc (.cells #[.int .i64 f.code, .int .i64 f.source, .int .i64 f.line, .int .i64 f.col, .string f.word, .slice none 0 0] 77)).cell? ⟨w2.heap.size, k, none⟩ = some u := fun k u hu => by rw [cell_of_row _ _ _ _ _ _ hy, hu]
    have y0 := cy 0 _ rfl
    have y1 := cy 1 _ rfl
    have y2 := cy 2 _ rfl
    have y3 := cy 3 _ rfl
    have y4 := cy 4 _ rfl
    have y5 := cy 5 _ rfl
    have HBZ := Lib.hid ((HB.out.trans (hb.mono HB.out.size)).alloc (by have := HB.out.size; have := hb.size; omega) (.cells #[.int .i64 f.code, .int .i64 f.source, .int .i64 f.line, .int .i64 f.col, .string f.word, .slice none 0 0] 77))
    clear hx2 hx3 cx hy cy hb HX HT HB hlt
    unfold Flt.val
    go_wp2_with fail
    go_ret
    exact ⟨rfl, HBZ.out⟩
end Go.Proofs.Ytjnnkelbedmccaa
