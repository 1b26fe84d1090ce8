/- Layer 12: the law's awake. -/
import Derived.Test.YtadecjjbpoaooaaVg
import Derived.Test.YtadecjjbpoaooaaVf
import Derived.Test.YtadecjjbpoaooaaUv
namespace Go.Proofs.Ytadecjjbpoaooaa.Tb
open Go.RowKit Go.Maps
set_option linter.unusedVariables false
set_option linter.unusedSimpArgs false
theorem two_new {P : Nat → Prop} (w : World) (v1 v2 : Value) (l1 l2 : List Gl) (h1 : RdG P w v1 l1) (h2 : RdG P w v2 l2) (hp : P w.heap.size) : RdL P (w.alloc (.cells #[v1, v2] 32)) (.slice (some ⟨w.heap.size, 0, none⟩) 2 2) [l1, l2] := by
  have hb := below_box w (.cells #[v1, v2] 32)
  refine ⟨_, 2, rfl, Nat.le_refl _, by unfold maxLen; omega, fun j hj => ?_⟩
  have hj3 : j < 2 := hj
  have hc : ∀ (j : Nat) (u : Value), #[v1, v2][j]? = some u → (w.alloc (.cells #[v1, v2] 32)).cell? ⟨w.heap.size, 0 + j, none⟩ = some u := fun j u hu => by
    rw [Nat.zero_add, cell_of_row _ _ _ _ _ _ (heap_alloc_new w _)]
    exact hu
  match j, hj3 with
  | 0, _ => exact ⟨_, _, v1, rfl, hp, hc 0 _ rfl, h1.below hb⟩
  | 1, _ => exact ⟨_, _, v2, rfl, hp, hc 1 _ rfl, h2.below hb⟩
theorem ints_new (w : World) (a b c : Int) : RdZ (w.heap.size ≤ ·) (w.alloc (.cells #[.int .i64 a, .int .i64 b, .int .i64 c] 3)) (.slice (some ⟨w.heap.size, 0, none⟩) 3 3) [a, b, c] :=
  RdZ.own (World.ownsRow_lit (e := 3) (size := 1) (base := w.heap.size) w #[.int .i64 a, .int .i64 b, .int .i64 c] 3 (Nat.le_refl _) (by unfold maxLen; omega) rfl) rfl
theorem cols2_new (w : World) (a b c d : Int) : RdC (w.heap.size ≤ ·) (w.alloc (.cells #[.int .i64 a, .int .i64 b, .int .i64 c, .int .i64 d] 53)) (.slice (some ⟨w.heap.size, 0, none⟩) 2 2) [(a, b), (c, d)] :=
  RdC.own (World.ownsRow_lit (e := 53) (size := 2) (base := w.heap.size) w #[.int .i64 a, .int .i64 b, .int .i64 c, .int .i64 d] 2 (Nat.le_refl _) (by unfold maxLen; omega) rfl) rfl
theorem cols3_new (w : World) (a b c d e f : Int) : RdC (w.heap.size ≤ ·) (w.alloc (.cells #[.int .i64 a, .int .i64 b, .int .i64 c, .int .i64 d, .int .i64 e, .int .i64 f] 53)) (.slice (some ⟨w.heap.size, 0, none⟩) 3 3) [(a, b), (c, d), (e, f)] :=
  RdC.own (World.ownsRow_lit (e := 53) (size := 2) (base := w.heap.size) w #[.int .i64 a, .int .i64 b, .int .i64 c, .int .i64 d, .int .i64 e, .int .i64 f] 3 (Nat.le_refl _) (by unfold maxLen; omega) rfl) rfl
def AnyB : Nat → Prop := fun _ => True
theorem any_g {P : Nat → Prop} {w : World} {v : Value} {l : List Gl} (h : RdG P w v l) : RdG AnyB w v l := h.imp fun _ _ _ => trivial
theorem any_own {w : World} {B : Nat} {v : Value} {l : List Gl} (h : w.ownsRow B 40 5 v l.length (rowsG l)) : RdG AnyB w v l := any_g (RdG.own h rfl)
theorem any_l {P : Nat → Prop} {w : World} {v : Value} {l : List (List Gl)} (h : RdL P w v l) : RdL AnyB w v l := h.imp fun _ _ _ => trivial
theorem any_c {P : Nat → Prop} {w : World} {v : Value} {l : List (Int × Int)} (h : RdC P w v l) : RdC AnyB w v l := h.imp fun _ _ _ => trivial
theorem any_z {P : Nat → Prop} {w : World} {v : Value} {l : List Int} (h : RdZ P w v l) : RdZ AnyB w v l := h.imp fun _ _ _ => trivial
set_option maxRecDepth 100000 in
set_option maxHeartbeats 4000000 in
theorem awake_law (w : World) : Calls Try.prog 10 #[] w (SaysL (.bool true) w) := by
  go_enter Try.func10, Try.ntmps10
  go_wp2_with fail
  refine (letters_law tA (by decide) w).mono ?_
  rintro e w1 ⟨v1, rfl, o1, b1⟩
  have B1 := Lib.hid b1
  have R1 := Lib.hid (any_own o1)
  clear b1 o1
  go_wp2_with fail
  refine (fill_pro 5 (letsL tA) v1 w1 R1.out (by decide)).mono ?_
  rintro e w2 ⟨v2, rfl, o2, b2⟩
  have B2 := Lib.hid (B1.out.trans (b2.mono B1.out.size))
  have R2 := Lib.hid (any_l o2)
  rw [aw2] at R2
  rw [aw1]
  clear b2 o2
  go_wp2_with fail
  refine (columns_pro [3, 0, 4] _ 20 _ (any_z (ints_new w2 3 0 4)) rfl).mono ?_
  rintro e w3 ⟨v3, rfl, o3, b3⟩
  have b3' := (below_box w2 (.cells #[.int .i64 3, .int .i64 0, .int .i64 4] 3)).trans (b3.mono (below_box w2 _).size)
  have B3 := Lib.hid (B2.out.trans (b3'.mono B2.out.size))
  have R32 := Lib.hid (R2.out.below b3')
  have R3 := Lib.hid (any_c o3)
  rw [aw4] at R3
  rw [aw3]
  clear b3 o3 b3'
  go_wp2_with fail
  have C3 := Lib.hid (any_c (cols2_new w3 0 2 3 2))
  have bC := below_box w3 (.cells #[.int .i64 0, .int .i64 2, .int .i64 3, .int .i64 2] 53)
  refine (letters_law tB (by decide) _).mono ?_
  rintro e w4 ⟨v4, rfl, o4, b4⟩
  have b4' := bC.trans (b4.mono bC.size)
  have B4 := Lib.hid (B3.out.trans (b4'.mono B3.out.size))
  have R42 := Lib.hid (R32.out.below b4')
  have R43 := Lib.hid (R3.out.below b4')
  have C4 := Lib.hid (C3.out.below b4)
  have R4 := Lib.hid (any_own o4)
  clear bC b4 o4 b4'
  go_wp2_with fail
  refine (letters_law tC (by decide) w4).mono ?_
  rintro e w5 ⟨v5, rfl, o5, b5⟩
  obtain ⟨p4, c4, rfl, _, _⟩ := sliceG R4.out
  obtain ⟨p5, c5, rfl, _, _⟩ := sliceG (any_own o5)
  have bX := below_box w5 (.cells #[.slice p4 (letsL tB).length c4, .slice p5 (letsL tC).length c5] 32)
  have b5' := b5.trans (bX.mono b5.size)
  have B5 := Lib.hid (B4.out.trans (b5'.mono B4.out.size))
  have R52 := Lib.hid (R42.out.below b5')
  have R53 := Lib.hid (R43.out.below b5')
  have C5 := Lib.hid (C4.out.below b5')
  have R5 := Lib.hid (two_new (P := AnyB) w5 _ _ (letsL tB) (letsL tC) (R4.out.below b5) (any_own o5) trivial)
  clear b5 o5 b5' bX
  go_wp2_with fail
  refine (row_pro [(0, 2), (3, 2)] [letsL tB, letsL tC] _ _ _ C5.out R5.out (by decide)).mono ?_
  rintro e w6 ⟨v6, rfl, o6, b6⟩
  have B6 := Lib.hid (B5.out.trans (b6.mono B5.out.size))
  have R62 := Lib.hid (R52.out.below b6)
  have R63 := Lib.hid (R53.out.below b6)
  have R6 := Lib.hid (any_l o6)
  rw [aw6] at R6
  rw [aw5]
  clear b6 o6
  go_wp2_with fail
  refine (letters_law tD (by decide) w6).mono ?_
  rintro e w7 ⟨v7, rfl, o7, b7⟩
  have B7 := Lib.hid (B6.out.trans (b7.mono B6.out.size))
  have R72 := Lib.hid (R62.out.below b7)
  have R73 := Lib.hid (R63.out.below b7)
  have R76 := Lib.hid (R6.out.below b7)
  have R7 := Lib.hid (any_own o7)
  clear b7 o7
  go_wp2_with fail
  refine (letters_law tE (by decide) w7).mono ?_
  rintro e w8 ⟨v8, rfl, o8, b8⟩
  obtain ⟨p7, c7, rfl, _, _⟩ := sliceG R7.out
  obtain ⟨p8, c8, rfl, _, _⟩ := sliceG (any_own o8)
  have bX := below_box w8 (.cells #[.slice p7 (letsL tD).length c7, .slice p8 (letsL tE).length c8] 32)
  have b8' := b8.trans (bX.mono b8.size)
  have B8 := Lib.hid (B7.out.trans (b8'.mono B7.out.size))
  have R82 := Lib.hid (R72.out.below b8')
  have R83 := Lib.hid (R73.out.below b8')
  have R86 := Lib.hid (R76.out.below b8')
  have R8 := Lib.hid (two_new (P := AnyB) w8 _ _ (letsL tD) (letsL tE) (R7.out.below b8) (any_own o8) trivial)
  clear b8 o8 b8' bX
  go_wp2_with fail
  refine (sameAll_ref [letsL tD, letsL tE] _ _ _ R82.out R8.out).mono ?_
  rintro e w9 ⟨rfl, b9⟩
  have B9 := Lib.hid (B8.out.trans (b9.mono B8.out.size))
  have R93 := Lib.hid (R83.out.below b9)
  have R96 := Lib.hid (R86.out.below b9)
  clear b9
  go_wp2_with fail
  have bC := below_box w9 (.cells #[.int .i64 0, .int .i64 3, .int .i64 4, .int .i64 11, .int .i64 16, .int .i64 4] 53)
  have C9 := Lib.hid (any_c (cols3_new w9 0 3 4 11 16 4))
  refine (columns_law [(0, 3), (4, 11), (16, 4)] _ _ _ (R93.out.below bC) C9.out).mono ?_
  rintro e wa ⟨rfl, ba⟩
  have ba' := bC.trans (ba.mono bC.size)
  have BA := Lib.hid (B9.out.trans (ba'.mono B9.out.size))
  have RA6 := Lib.hid (R96.out.below ba')
  clear ba ba' bC
  go_wp2_with fail
  refine (letters_law tF (by decide) wa).mono ?_
  rintro e wb ⟨vb, rfl, ob, bb⟩
  have BB := Lib.hid (BA.out.trans (bb.mono BA.out.size))
  have RB6 := Lib.hid (RA6.out.below bb)
  have RB := Lib.hid (any_own ob)
  clear bb ob
  go_wp2_with fail
  refine (letters_law tG (by decide) wb).mono ?_
  rintro e wc ⟨vc, rfl, oc, bc⟩
  obtain ⟨pb, cb, rfl, _, _⟩ := sliceG RB.out
  obtain ⟨pc, cc, rfl, _, _⟩ := sliceG (any_own oc)
  have bX := below_box wc (.cells #[.slice pb (letsL tF).length cb, .slice pc (letsL tG).length cc] 32)
  have bc' := bc.trans (bX.mono bc.size)
  have BC := Lib.hid (BB.out.trans (bc'.mono BB.out.size))
  have RC6 := Lib.hid (RB6.out.below bc')
  have RC := Lib.hid (two_new (P := AnyB) wc _ _ (letsL tF) (letsL tG) (RB.out.below bc) (any_own oc) trivial)
  clear bc oc bc' bX
  go_wp2_with fail
  refine (sameAll_ref [letsL tF, letsL tG] _ _ _ RC6.out RC.out).mono ?_
  rintro e wd ⟨rfl, bd⟩
  have BD := Lib.hid (BC.out.trans (bd.mono BC.out.size))
  clear bd
  go_wp2_with fail
  refine (letters_law tH (by decide) wd).mono ?_
  rintro e we ⟨ve, rfl, oe, be⟩
  have BE := Lib.hid (BD.out.trans (be.mono BD.out.size))
  have RE := Lib.hid (any_own oe)
  clear be oe
  go_wp2_with fail
  refine (wide_pro (letsL tH) ve we RE.out (by decide) (by unfold SmallW; decide)).mono ?_
  rw [aw7]
  rintro e wf ⟨rfl, bf⟩
  have BF := Lib.hid (BE.out.trans (bf.mono BE.out.size))
  clear bf
  go_wp2_with fail
  go_ret
  exact ⟨rfl, BF.out⟩
end Go.Proofs.Ytadecjjbpoaooaa.Tb
