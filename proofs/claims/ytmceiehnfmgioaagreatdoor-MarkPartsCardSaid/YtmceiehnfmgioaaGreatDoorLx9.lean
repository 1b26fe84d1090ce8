/- The program's closeBrace and openBrace of the lexer. -/
import Derived.Test.YtmceiehnfmgioaaGreatDoorLx8
namespace Go.Proofs.YtmceiehnfmgioaaGreatDoor
open Go.RowKit
set_option linter.unusedVariables false

theorem tokRows_take (l : List Tok) (q : Nat) : (tokRows l).take (q * 5) = tokRows (l.take q) := by
  induction l generalizing q with
  | nil => simp [tokRows]
  | cons a l ih =>
    cases q with
    | zero => simp [tokRows]
    | succ q =>
      have e : tokRows (a :: l) = tokRow a ++ tokRows l := by simp [tokRows]
      have e2 : tokRows ((a :: l).take (q + 1)) = tokRow a ++ tokRows (l.take q) := by simp [tokRows]
      have hl : (tokRow a).length = 5 := rfl
      rw [e, e2, List.take_append, hl, show (q + 1) * 5 - 5 = q * 5 by omega, ih, List.take_of_length_le (by rw [hl]; omega)]
def closeR (m : Mk) (n col : Nat) : Except Wr Mk := if m.opn = [] then .error ⟨44, n, col, []⟩ else .ok (m.closeB (n, col))

set_option maxRecDepth 100000 in
set_option maxHeartbeats 4000000 in
theorem closeBrace_pro (w : World) (B g n : Nat) (m : Mk) (col : Nat) (vt vo vr : Value) (h : Lx w B g n m vt vo vr) (hl : m.out.length ≤ 3000000) (hr : m.run.length ≤ 3000000) :
    Calls Tryz.prog 143 #[.pointer (some ⟨g, 0, none⟩), .int .i64 col] w (DidE B g n (closeR m n col) vt vo w) := by
  have H0 := Lib.hid h
  have HL := Lib.hid hl
  have HR := Lib.hid hr
  obtain ⟨L, hL⟩ : ∃ L, m.opn.length = L := ⟨_, rfl⟩
  have ho := h.opns
  rw [hL] at ho
  obtain ⟨po, co, hvo⟩ := lenS ho
  have c2 := h.cells.2.2.1
  rw [hvo] at c2
  have h16 := h.opn16.1
  rw [hL] at h16
  have f2 := h.frozen 2
  by_cases h0 : L = 0
  · have hE : m.opn = [] := List.eq_nil_of_length_eq_zero (by rw [hL, h0])
    have HE := Lib.hid (show closeR m n col = .error ⟨44, n, col, []⟩ by unfold closeR; rw [if_pos hE])
    have b0 : (L : Int) ≤ 0 := by omega
    have b1 : (L : Int) < 1 := by omega
    have b2 : 0 ≤ (L : Int) := by omega
    have BZ := Lib.hid h.size
    clear h hl hr ho hvo hL h0 hE h16
    go_enter Tryz.func143, Tryz.ntmps143
    go_wp2_with fail
    refine (wrong_pro 44 col [] w (by decide)).mono ?_
    rintro e w2 ⟨rfl, he, hb⟩
    have H2 := Lib.hid he
    have B2 := Lib.hid hb
    clear he hb
    go_wp2_with fail
    go_ret
    unfold DidE
    rw [HE.out]
    exact ⟨_, rfl, _, 0, rfl, H2.out, (show (44 : Nat) ≠ 0 by decide), .inl ⟨rfl, rfl⟩, B2.out.mono BZ.out, (H0.out.keep B2.out).cells.2.1⟩
  · obtain ⟨q, rfl⟩ : ∃ q, L = q + 1 := ⟨L - 1, by omega⟩
    obtain ⟨go, co', hform, _⟩ := ho.form (by omega)
    have hpo : po = some ⟨go, 0, none⟩ := by rw [hvo] at hform; cases hform; rfl
    subst hpo
    have hE : m.opn ≠ [] := fun e => by rw [e] at hL; simp at hL
    have HE := Lib.hid (show closeR m n col = .ok (m.closeB (n, col)) by unfold closeR; rw [if_neg hE])
    rw [hvo] at ho
    have hcap : q + 1 ≤ co := by
      rcases ho.2 with ⟨e, _⟩ | ⟨_, _, _, e, _, _, h3, _⟩
      · cases e
      · cases e; exact h3
    have hdl : m.opn.dropLast = m.opn.take q := by rw [List.dropLast_eq_take, hL]; rfl
    have ho2 := own_take (n' := q) ho (by omega) (by simp)
    rw [tokRows_take, ← hdl] at ho2
    have HX := Lib.hid (show Lx (w.setCell ⟨g, 2, none⟩ (.slice (some ⟨go, 0, none⟩) q co)) B g n { m with opn := m.opn.dropLast } vt (.slice (some ⟨go, 0, none⟩) q co) vr from
      h.put (m' := { m with opn := m.opn.dropLast }) (heap_setCell_same w g 2 _ _ _ h.blk) (own_set h.blk (by decide) h.toks) (by
        have := own_set (k := 2) (u := .slice (some ⟨go, 0, none⟩) q co) h.blk (by decide) ho2
        rw [show ({ m with opn := m.opn.dropLast } : Mk).opn.length = q by show m.opn.dropLast.length = q; rw [List.length_dropLast, hL]; rfl]
        exact this) (own_set h.blk (by decide) h.runs) (by rw [hvo] at h; exact h.far) (by rw [hvo] at h; exact h.far') h.gap ⟨by show m.opn.dropLast.length ≤ 16; rw [List.length_dropLast]; have := h.opn16.1; omega, fun t ht => h.opn16.2 t ((List.dropLast_sublist _).subset ht)⟩)
    have KX := Lib.hid (show Kept3 g vt vo vt (.slice (some ⟨go, 0, none⟩) q co) w (w.setCell ⟨g, 2, none⟩ (.slice (some ⟨go, 0, none⟩) q co)) from fun b o e1 e2 e3 e4 e5 =>
      ⟨(Below.heap_setCell w ⟨g, 2, none⟩ _ b (fun e => e3 e.symm)).trans e1, e4, by rw [hvo] at e5; exact e5⟩)
    have BX := Lib.hid ((Below.refl B w).setCell (p := ⟨g, 2, none⟩) h.base (.slice (some ⟨go, 0, none⟩) q co))
    have b0 : (q : Int) ≤ 15 := by omega
    have b1 : 0 ≤ (q : Int) := by omega
    have b2 : ¬ ((q : Int) < 0) := by omega
    have b3 : (q : Int) ≤ co := by omega
    clear h hl hr ho ho2 hvo hL h0 h16 hform hE hcap hdl
    go_enter Tryz.func143, Tryz.ntmps143
    go_wp2_with fail
    refine (within_pro' _ B g n { m with opn := m.opn.dropLast } 5 [] 0 0 col vt (.slice (some ⟨go, 0, none⟩) q co) vr HX.out HL.out HR.out).mono ?_
    rintro e w2 ⟨rfl, h3⟩
    have H3 := Lib.hid h3
    clear h3
    go_wp2_with fail
    go_ret
    unfold DidE
    rw [HE.out]
    exact ⟨rfl, Moved.then BX.out KX.out H3.out⟩

/-- Behind an append to the open braces, and the store of the longer list. -/
theorem Lx.opn_put {w w2 : World} {B g n g' cap : Nat} {m : Mk} {vt vo vr : Value} {t : Tok} {o : Obj} (h : Lx w B g n m vt vo vr) (hg : (w.alloc o).grownBy w2 vo.ownBlock)
    (ho : w2.ownsRow B 40 5 (.slice (some ⟨g', 0, none⟩) (m.opn.length + 1) cap) (m.opn.length + 1) (tokRows m.opn ++ tokRow t)) (hat : vo.ownBlock = some g' ∨ g' = (w.alloc o).heap.size) (h16 : OpnOk (m.opn ++ [t])) :
    w2.heap[g]? = some (.cells (lexCells vt vo vr n m) 90 (0, 0)) ∧ Below B w (w2.setCell ⟨g, 2, none⟩ (.slice (some ⟨g', 0, none⟩) (m.opn.length + 1) cap)) ∧
      Lx (w2.setCell ⟨g, 2, none⟩ (.slice (some ⟨g', 0, none⟩) (m.opn.length + 1) cap)) B g n { m with opn := m.opn ++ [t] } vt (.slice (some ⟨g', 0, none⟩) (m.opn.length + 1) cap) vr ∧
      Kept3 g vt vo vt (.slice (some ⟨g', 0, none⟩) (m.opn.length + 1) cap) w (w2.setCell ⟨g, 2, none⟩ (.slice (some ⟨g', 0, none⟩) (m.opn.length + 1) cap)) := by
  have ha := h.alloc o
  have hb : w2.heap[g]? = some (.cells (lexCells vt vo vr n m) 90 (0, 0)) := (hg.block g (lt_heap ha.blk) (fun e => not_row ha.blk (by decide) ha.opns e.symm)).trans ha.blk
  have hb1 := heap_setCell_same w2 g 2 _ _ (.slice (some ⟨g', 0, none⟩) (m.opn.length + 1) cap) hb
  have t2 := ha.toks.kept hg ha.far
  have t3 := ha.runs.kept hg (own_ne ha.runs ha.opns (by decide))
  have lo := ha.toks.lt
  have hf : vt.ownBlock ≠ some g' := by
    intro e
    rcases hat with h1 | h1
    · rcases h.far with h2 | h2
      · rw [h2] at e; cases e
      · exact h2 (e.trans h1.symm)
    · have := (lo _ e).2; omega
  refine ⟨hb, ?_, h.put (m' := { m with opn := m.opn ++ [t] }) hb1 (own_set hb (by decide) t2) ?_ (own_set hb (by decide) t3) (.inr (fun e => hf e)) (.inr (fun e => hf e.symm)) h.gap h16, ?_⟩
  · exact (((Below.refl B w).alloc h.size o).grown hg ha.size (fun k hk => (ha.opns.lt k hk).1)).setCell (p := ⟨g, 2, none⟩) h.base _
  · have := own_set (u := .slice (some ⟨g', 0, none⟩) (m.opn.length + 1) cap) (k := 2) hb (by decide) ho
    rw [← tokRows_snoc] at this
    simpa using this
  · intro b o' h1 h2 h3 h4 h5
    have e1 := (Below.heap_alloc w o b (lt_heap h1)).trans h1
    have e2 := (hg.block b (lt_heap e1) (fun e => h5 e.symm)).trans e1
    refine ⟨(Below.heap_setCell w2 ⟨g, 2, none⟩ _ b (fun e => h3 e.symm)).trans e2, h4, ?_⟩
    intro e
    simp [Value.ownBlock] at e
    subst e
    rcases hat with q | q
    · exact h5 q
    · have := lt_heap h1; simp at q; omega
theorem box_kept2 {w w2 : World} {B g b n : Nat} {m : Mk} {vt vo vr : Value} {o : Obj} {a0 a1 a2 a3 a4 : Value} (h : Lx w B g n m vt vo vr) (hb : Box5 b a0 a1 a2 a3 a4 w) (ha : Apart g b vt vo) (hg : (w.alloc o).grownBy w2 vo.ownBlock) : Box5 b a0 a1 a2 a3 a4 w2 :=
  (hg.block b (lt_heap (box_alloc hb o)) (fun e => ha.o e.symm)).trans (box_alloc hb o)

def openR (m : Mk) (r : List UInt8) (n col : Nat) : Except Wr (List UInt8 × Mk) :=
  match braceL r with
  | .error x => .error ⟨x.1, n, col, x.2⟩
  | .ok name => if 16 ≤ m.opn.length then .error ⟨46, n, col, name⟩ else .ok (name, m.openB name (n, col))
def OpenP (B g n : Nat) (r : Except Wr (List UInt8 × Mk)) (vt vo : Value) (w : World) (e : Ending) (w' : World) : Prop :=
  match r with
  | .ok x => e = .returned (.tuple #[.string (bs x.1), .nilIface]) ∧ Moved B g n x.2 vt vo w w'
  | .error x => ∃ v, e = .returned (.tuple #[.string (bs []), v]) ∧ ErrL B g n x w v w'
theorem braceL_cases (r : List UInt8) : braceL r = .ok (letL r) ∨ braceL r = .error (43, []) := by
  unfold braceL; split <;> simp

set_option maxRecDepth 100000 in
set_option maxHeartbeats 8000000 in
theorem openBrace_pro (w : World) (B g n : Nat) (m : Mk) (r : List UInt8) (col : Nat) (vt vo vr : Value) (h : Lx w B g n m vt vo vr) (hn : 0 < n) (hl : m.out.length ≤ 3000000) (hr : m.run.length ≤ 3000000) (hrl : r.length ≤ 100000) :
    Calls Tryz.prog 142 #[.pointer (some ⟨g, 0, none⟩), .string (bs r), .int .i64 col] w (OpenP B g n (openR m r n col) vt vo w) := by
  obtain ⟨i0, hi0, hz0, hz1, hz2⟩ := info_parts infoTok
  have H0 := Lib.hid h
  have HL := Lib.hid hl
  have HR := Lib.hid hr
  have HP := Lib.hid (brace_pro r col w hrl)
  have BZ := Lib.hid h.size
  have HN := Lib.hid hn
  clear hl hr hrl hn
  rcases braceL_cases r with hbr | hbr
  · obtain ⟨name, en⟩ : ∃ name, letL r = name := ⟨_, rfl⟩
    rw [en] at hbr
    rw [hbr] at HP
    obtain ⟨L, hL⟩ : ∃ L, m.opn.length = L := ⟨_, rfl⟩
    have ho := h.opns
    rw [hL] at ho
    obtain ⟨po, co, hvo⟩ := lenS ho
    have HV := Lib.hid hvo
    have h16 := h.opn16.1
    rw [hL] at h16
    by_cases h0 : L = 16
    · have HE := Lib.hid (show openR m r n col = .error ⟨46, n, col, name⟩ by unfold openR; rw [hbr]; show (if 16 ≤ m.opn.length then _ else _) = _; rw [if_pos (by omega)])
      have b0 : ((L : Int) == 16) = true := by rw [h0]; rfl
      clear h ho hvo hL h0 h16 hbr en
      go_enter Tryz.func142, Tryz.ntmps142
      go_wp2_with fail
      refine HP.out.mono ?_
      rintro e w1 ⟨rfl, hb⟩
      have c2 := (H0.out.keep hb).cells.2.2.1
      rw [HV.out] at c2
      have HB := Lib.hid hb
      clear hb
      go_wp2_with fail
      refine (wrong_pro 46 col name w1 (by decide)).mono ?_
      rintro e w2 ⟨rfl, he, hb⟩
      have H2 := Lib.hid he
      have B2 := Lib.hid hb
      clear he hb
      go_wp2_with fail
      go_ret2
      unfold OpenP
      rw [HE.out]
      exact ⟨_, rfl, _, 0, rfl, H2.out, (show (46 : Nat) ≠ 0 by decide), .inl ⟨rfl, rfl⟩, (HB.out.mono BZ.out).trans (B2.out.mono (Nat.le_trans BZ.out HB.out.size)), ((H0.out.keep HB.out).keep B2.out).cells.2.1⟩
    · have HE := Lib.hid (show openR m r n col = .ok (name, m.openB name (n, col)) by unfold openR; rw [hbr]; show (if 16 ≤ m.opn.length then _ else _) = _; rw [if_neg (by omega)])
      have b0 : ((L : Int) == 16) = false := by simp; omega
      have OK16 := Lib.hid (show OpnOk (m.opn ++ [(⟨3, name, [], n, col⟩ : Tok)]) from ⟨by rw [List.length_append, hL]; show L + 1 ≤ 16; omega, fun t ht => by
        rcases List.mem_append.1 ht with q | q
        · exact h.opn16.2 t q
        · rw [List.mem_singleton.1 q]; exact HN.out⟩)
      have L1 := Lib.hid (show m.opn.length + 1 ≤ maxLen by rw [hL]; unfold maxLen; omega)
      have L2 := Lib.hid (show (m.opn.length + 1) * 56 ≤ 140737488355328 by rw [hL]; omega)
      clear h ho hvo hL h0 h16 hbr en
      go_enter Tryz.func142, Tryz.ntmps142
      go_wp2_with fail
      refine HP.out.mono ?_
      rintro e w1 ⟨rfl, hb⟩
      have h1 := H0.out.keep hb
      have c2 := h1.cells.2.2.1
      have c1 := h1.cells.2.1
      rw [HV.out] at c2
      have hx := heap_alloc_new w1 (.cells #[.int .i64 3, .string (bs name), .string (bs []), .int .i64 n, .int .i64 col] 40)
      have HX0 := Lib.hid (h1.alloc (.cells #[.int .i64 3, .string (bs name), .string (bs []), .int .i64 n, .int .i64 col] 40))
      have XB0 := Lib.hid hx
      have AP := Lib.hid h1.apart
      have BX := Lib.hid ((hb.mono BZ.out).alloc h1.size (.cells #[.int .i64 3, .string (bs name), .string (bs []), .int .i64 n, .int .i64 col] 40))
      have KX := Lib.hid (show Kept3 g vt vo vt vo w (w1.alloc (.cells #[.int .i64 3, .string (bs name), .string (bs []), .int .i64 n, .int .i64 col] 40)) from Kp.three ((Kp.below hb).alloc _))
      clear hb h1 hx
      go_wp2_with fail
      obtain ⟨b, eb⟩ : ∃ b, w1.heap.size = b := ⟨_, rfl⟩
      obtain ⟨W2, eW⟩ : ∃ W2, w1.alloc (.cells #[.int .i64 3, .string (bs name), .string (bs []), .int .i64 n, .int .i64 col] 40) = W2 := ⟨_, rfl⟩
      have eW' : w1.alloc (.cells #[.int .i64 3, .string (bs name), .string ⟨#[]⟩, .int .i64 n, .int .i64 col] 40) = W2 := eW
      rw [eW] at HX0 XB0 BX KX
      rw [eb] at XB0 AP
      have HD := Lib.hid HX0.out.drew
      have XB := Lib.hid (show Box5 b (.int .i64 3) (.string (bs name)) (.string (bs [])) (.int .i64 n) (.int .i64 col) W2.drew from XB0.out)
      have SB := Lib.hid HX0.out.size
      have BW := Lib.hid BX.out.drew
      have KW := Lib.hid (show Kept3 g vt vo vt vo w W2.drew from KX.out)
      clear c1 c2
      have d2' := HX0.out.cells.2.2.1
      have dA := (HX0.out.alloc (.cells #[.int .i64 3, .string (bs name), .string (bs []), .int .i64 n, .int .i64 col] 40)).cells.2.2.1
      rw [eb]
      simp only [eW']
      refine wp_region_held_drew (S := fun w' => Box5 b (.int .i64 3) (.string (bs name)) (.string (bs [])) (.int .i64 n) (.int .i64 col) w' ∧ w'.cell? ⟨b, 0, none⟩ = some (.int .i64 3) ∧ w'.cell? ⟨b, 1, none⟩ = some (.string (bs name)) ∧ w'.cell? ⟨b, 2, none⟩ = some (.string (bs [])) ∧ w'.cell? ⟨b, 3, none⟩ = some (.int .i64 n) ∧ w'.cell? ⟨b, 4, none⟩ = some (.int .i64 col)) (by kernel_rfl) ?_ (fun hHeld => ?_)
      · exact box_all XB.out
      refine wpAnyH_take (i := 0) (v := .pointer (some ⟨g, 0, none⟩)) rfl (by kernel_rfl) (by kernel_rfl) (by kernel_rfl) (fun _ _ _ h => h) (.inl ⟨by rfl, fun w' hS => by obtain ⟨_, h0, h1, h2, h3, h4⟩ := hS; go_simp⟩) hHeld ?_
      refine wpAnyH_take (i := 1) (v := .pointer (some ⟨g, 0, none⟩)) rfl (by kernel_rfl) (by kernel_rfl) (by kernel_rfl) (fun _ _ _ h => h) (.inl ⟨by rfl, fun w' hS => by obtain ⟨_, h0, h1, h2, h3, h4⟩ := hS; go_simp⟩) hHeld ?_
      refine wpAnyH_take (i := 2) (v := .pointer (some ⟨g, 0, none⟩)) rfl (by kernel_rfl) (by kernel_rfl) (by kernel_rfl) (fun _ _ _ h => h) (.inl ⟨by rfl, fun w' hS => by obtain ⟨_, h0, h1, h2, h3, h4⟩ := hS; go_simp⟩) hHeld ?_
      refine wpAnyH_take (i := 3) (v := .pointer (some ⟨g, 2, none⟩)) rfl (by kernel_rfl) (by kernel_rfl) (by kernel_rfl) (fun _ _ _ h => h) (.inl ⟨by rfl, fun w' hS => by obtain ⟨_, h0, h1, h2, h3, h4⟩ := hS; go_simp⟩) hHeld ?_
      refine wpAnyH_take (i := 5) (v := .agg #[.int .i64 3, .string (bs name), .string (bs []), .int .i64 n, .int .i64 col]) rfl (by kernel_rfl) (by kernel_rfl) (by kernel_rfl) (fun _ _ _ h => h) (.inl ⟨by rfl, fun w' hS => by obtain ⟨_, h0, h1, h2, h3, h4⟩ := hS; go_simp⟩) hHeld ?_
      refine wpAnyH_all (rs := [4, 6]) (by kernel_rfl) (by simp) ?_
      intro i hi
      rcases (by simpa using hi : i = 4 ∨ i = 6) with rfl | rfl
      · clear hi
        refine op_via rfl (by rfl) (fun K hK => ?_)
        go_simp
        refine hK _ _ ⟨box_all XB.out, ?_⟩
        clear hK K
        refine wpAnyH_all (rs := [6]) (by kernel_rfl) (by simp) ?_
        intro i hi
        obtain rfl : i = 6 := by simpa using hi
        refine op_via rfl (by rfl) (fun K hK => ?_)
        go_simp
        refine hK _ _ ⟨box_all (box_alloc XB.out _), ?_⟩
        clear hK K
        refine wpAnyH_all (rs := [7]) (by kernel_rfl) (by simp) ?_
        intro i hi
        obtain rfl : i = 7 := by simpa using hi
        refine op_via rfl (by rfl) (fun K hK => ?_)
        refine wp_append_lies _ (.tmp 40) (.tmp 42) 22 rfl B 40 i0 _ 5 56 Tryz.underlying22 hi0 hz0 hz1 hz2 rfl (by decide) vo m.opn.length (tokRows m.opn) (by simp [Act.eval]) (HD.out.opns.alloc _) ⟨W2.heap.size, 0, none⟩ 1 1 (tokRow ⟨3, name, [], n, col⟩) (by simp [Act.eval]) rfl (cells_new _ _ _) (tokRow_one _) (by decide) L1.out L2.out (by simp; have := SB.out; omega) _ rfl ?_
        intro g' cap w3 hown' hgrow hat _
        obtain ⟨hb2, hbl, hlx, hk3⟩ := HD.out.opn_put hgrow hown' hat OK16.out
        obtain ⟨_, _, d2, _, _, _, _, _, _, eF⟩ := lex9 hb2
        have e2 := eF 2
        have BL := Lib.hid hbl
        have LX := Lib.hid hlx
        have K3 := Lib.hid hk3
        have X3 := Lib.hid (box_kept2 HD.out XB.out AP.out hgrow)
        clear hown' hgrow hat hb2 hbl hlx hk3 eF
        refine hK _ _ ⟨box_all X3.out, ?_⟩
        clear hK K
        refine wpAnyH_all (rs := [8]) (by kernel_rfl) (by simp) ?_
        intro i hi
        obtain rfl : i = 8 := by simpa using hi
        refine op_via rfl (by rfl) (fun K hK => ?_)
        go_simp
        refine hK _ _ ⟨box_all X3.out, ?_⟩
        clear hK K
        refine wpAnyH_all (rs := [9]) (by kernel_rfl) (by simp) ?_
        intro i hi
        obtain rfl : i = 9 := by simpa using hi
        refine op_via rfl (by rfl) (fun K hK => ?_)
        go_simp
        refine hK _ _ ⟨box_all X3.out, ?_⟩
        clear hK K
        refine wpAnyH_all (rs := [10]) (by kernel_rfl) (by simp) ?_
        intro i hi
        obtain rfl : i = 10 := by simpa using hi
        refine op_via rfl (by rfl) (fun K hK => ?_)
        go_simp
        refine hK _ _ ⟨box_all (box_set X3.out AP.out.g _), ?_⟩
        clear hK K
        refine wpAnyH_done (by kernel_rfl) ?_ _
        obtain ⟨_, x_0, x_1, x_2, x_3, x_4⟩ := box_all (box_set X3.out AP.out.g (.slice (some ⟨g', 0, none⟩) (m.opn.length + 1) cap) (k := 2))
        go_wp2_with fail
        refine (within_pro' _ B g n { m with opn := m.opn ++ [⟨3, name, [], n, col⟩] } 3 name n col col vt _ vr LX.out HL.out HR.out).mono ?_
        rintro e w4 ⟨rfl, hb, vt4, vo4, vr4, h4, hk⟩
        have c8 := h4.cells.2.2.2.2.2.2.2.2
        have f8 := h4.frozen 8
        have H4 := Lib.hid h4
        have HK4 := Lib.hid hk
        have HB4 := Lib.hid hb
        clear hb h4 hk x_0 x_1 x_2 x_3 x_4
        go_wp2_with fail
        go_ret2
        unfold OpenP
        rw [HE.out]
        exact ⟨rfl, (BW.out.trans BL.out).trans (HB4.out.setCell (p := ⟨g, 8, none⟩) H4.out.base _), _, _, _, H4.out.set1 (m' := m.openB name (n, col)) (n' := n) rfl rfl rfl rfl H4.out.gap, KW.out.trans (K3.out.trans (HK4.out.trans (Kp.three ((Kp.refl _ _).set 8 _))))⟩
      · clear hi
        refine op_via rfl (by rfl) (fun K hK => ?_)
        go_simp
        refine hK _ _ ⟨box_all (box_alloc XB.out _), ?_⟩
        clear hK K
        refine wpAnyH_all (rs := [4]) (by kernel_rfl) (by simp) ?_
        intro i hi
        obtain rfl : i = 4 := by simpa using hi
        refine op_via rfl (by rfl) (fun K hK => ?_)
        go_simp
        refine hK _ _ ⟨box_all (box_alloc XB.out _), ?_⟩
        clear hK K
        refine wpAnyH_all (rs := [7]) (by kernel_rfl) (by simp) ?_
        intro i hi
        obtain rfl : i = 7 := by simpa using hi
        refine op_via rfl (by rfl) (fun K hK => ?_)
        refine wp_append_lies _ (.tmp 40) (.tmp 42) 22 rfl B 40 i0 _ 5 56 Tryz.underlying22 hi0 hz0 hz1 hz2 rfl (by decide) vo m.opn.length (tokRows m.opn) (by simp [Act.eval]) (HD.out.opns.alloc _) ⟨W2.heap.size, 0, none⟩ 1 1 (tokRow ⟨3, name, [], n, col⟩) (by simp [Act.eval]) rfl (cells_new _ _ _) (tokRow_one _) (by decide) L1.out L2.out (by simp; have := SB.out; omega) _ rfl ?_
        intro g' cap w3 hown' hgrow hat _
        obtain ⟨hb2, hbl, hlx, hk3⟩ := HD.out.opn_put hgrow hown' hat OK16.out
        obtain ⟨_, _, d2, _, _, _, _, _, _, eF⟩ := lex9 hb2
        have e2 := eF 2
        have BL := Lib.hid hbl
        have LX := Lib.hid hlx
        have K3 := Lib.hid hk3
        have X3 := Lib.hid (box_kept2 HD.out XB.out AP.out hgrow)
        clear hown' hgrow hat hb2 hbl hlx hk3 eF
        refine hK _ _ ⟨box_all X3.out, ?_⟩
        clear hK K
        refine wpAnyH_all (rs := [8]) (by kernel_rfl) (by simp) ?_
        intro i hi
        obtain rfl : i = 8 := by simpa using hi
        refine op_via rfl (by rfl) (fun K hK => ?_)
        go_simp
        refine hK _ _ ⟨box_all X3.out, ?_⟩
        clear hK K
        refine wpAnyH_all (rs := [9]) (by kernel_rfl) (by simp) ?_
        intro i hi
        obtain rfl : i = 9 := by simpa using hi
        refine op_via rfl (by rfl) (fun K hK => ?_)
        go_simp
        refine hK _ _ ⟨box_all X3.out, ?_⟩
        clear hK K
        refine wpAnyH_all (rs := [10]) (by kernel_rfl) (by simp) ?_
        intro i hi
        obtain rfl : i = 10 := by simpa using hi
        refine op_via rfl (by rfl) (fun K hK => ?_)
        go_simp
        refine hK _ _ ⟨box_all (box_set X3.out AP.out.g _), ?_⟩
        clear hK K
        refine wpAnyH_done (by kernel_rfl) ?_ _
        obtain ⟨_, x_0, x_1, x_2, x_3, x_4⟩ := box_all (box_set X3.out AP.out.g (.slice (some ⟨g', 0, none⟩) (m.opn.length + 1) cap) (k := 2))
        go_wp2_with fail
        refine (within_pro' _ B g n { m with opn := m.opn ++ [⟨3, name, [], n, col⟩] } 3 name n col col vt _ vr LX.out HL.out HR.out).mono ?_
        rintro e w4 ⟨rfl, hb, vt4, vo4, vr4, h4, hk⟩
        have c8 := h4.cells.2.2.2.2.2.2.2.2
        have f8 := h4.frozen 8
        have H4 := Lib.hid h4
        have HK4 := Lib.hid hk
        have HB4 := Lib.hid hb
        clear hb h4 hk x_0 x_1 x_2 x_3 x_4
        go_wp2_with fail
        go_ret2
        unfold OpenP
        rw [HE.out]
        exact ⟨rfl, (BW.out.trans BL.out).trans (HB4.out.setCell (p := ⟨g, 8, none⟩) H4.out.base _), _, _, _, H4.out.set1 (m' := m.openB name (n, col)) (n' := n) rfl rfl rfl rfl H4.out.gap, KW.out.trans (K3.out.trans (HK4.out.trans (Kp.three ((Kp.refl _ _).set 8 _))))⟩
  · rw [hbr] at HP
    have HE := Lib.hid (show openR m r n col = .error ⟨43, n, col, []⟩ by unfold openR; rw [hbr])
    clear h hbr
    go_enter Tryz.func142, Tryz.ntmps142
    go_wp2_with fail
    refine HP.out.mono ?_
    rintro e w1 ⟨ge, rfl, he, hc, hb⟩
    have H2 := Lib.hid he
    have B2 := Lib.hid hb
    have C2 := Lib.hid hc
    clear he hb hc
    unfold errAt
    go_wp2_with fail
    go_ret2
    unfold OpenP
    rw [HE.out]
    exact ⟨_, rfl, _, 0, rfl, H2.out, C2.out, .inl ⟨rfl, rfl⟩, B2.out.mono BZ.out, (H0.out.keep B2.out).cells.2.1⟩
end Go.Proofs.YtmceiehnfmgioaaGreatDoor
