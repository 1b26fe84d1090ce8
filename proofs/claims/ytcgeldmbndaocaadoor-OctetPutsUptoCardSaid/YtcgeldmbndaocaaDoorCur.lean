/- The program's cursor of layer 3: what it reads as; its small methods. -/
import Derived.Test.YtcgeldmbndaocaaDoorPut
import Derived.BigQuiet
namespace Go.Proofs.YtcgeldmbndaocaaDoor
open Go.RowKit

/-- The cursor at block g stands at the place p of the bytes l, failed with e (0: not). -/
def Cur (w : World) (g : Nat) (l : List UInt8) (p : Nat) (e : Int) : Prop :=
  ∃ v, w.heap[g]? = some (.cells #[v, .int .i64 p, .int .i64 e] 46 (0, 0)) ∧ Rd w v l ∧ p ≤ l.length ∧ l.length ≤ 281474976710656
theorem drewN_b (w : World) (n : Nat) : Below w.heap.size w (w.drewN n) := ⟨rfl, rfl, rfl, Nat.le_refl _, fun _ _ => rfl⟩
theorem rd_end {w : World} {pa : Option Addr} {p : Nat} {l : List UInt8} (h1 : l.length = p) : Rd w (.slice pa (l.length - p) 0) (l.drop p) := by
  have e : l.drop p = [] := List.drop_eq_nil_of_le (by omega)
  rw [e, show l.length - p = 0 by omega]
  exact ⟨pa, 0, rfl, Nat.le_refl _, Nat.zero_le _, fun j hj => absurd hj (by simp)⟩
theorem rd_drop {w : World} {pa : Option Addr} {ca p : Nat} {l : List UInt8} (h : Rd w (.slice pa l.length ca) l) (hp : p ≤ l.length) (hc : l.length ≤ ca) : Rd w (.slice (Option.map (fun x => x.add p) pa) (l.length - p) (ca - p)) (l.drop p) := by
  obtain ⟨pa', cap, e, h2, h3, h4⟩ := h
  cases e
  refine ⟨_, _, by rw [List.length_drop], by rw [List.length_drop]; omega, by omega, fun j hj => ?_⟩
  rw [List.length_drop] at hj
  obtain ⟨b, off, rfl, hc⟩ := h4 (p + j) (by omega)
  have e : (⟨b, off, none⟩ : Addr).add p = ⟨b, off + p, none⟩ := by unfold Addr.add; split <;> simp_all
  refine ⟨b, off + p, by rw [Option.map_some, e], ?_⟩
  rw [Nat.add_assoc, List.getElem_drop]; exact hc
theorem rd_take {w : World} {pa : Option Addr} {n ca k : Nat} {l : List UInt8} (h : Rd w (.slice pa n ca) l) (hk : k ≤ l.length) : Rd w (.slice pa k ca) (l.take k) := by
  obtain ⟨pa', cap, e, h2, h3, h4⟩ := h
  cases e
  have hl : (l.take k).length = k := by rw [List.length_take]; omega
  refine ⟨_, _, by rw [hl], by omega, h3, fun j hj => ?_⟩
  obtain ⟨b, off, rfl, hc⟩ := h4 j (by omega)
  exact ⟨b, off, rfl, by rw [List.getElem_take]; exact hc⟩
theorem Cur.cells {w : World} {g : Nat} {l : List UInt8} {p : Nat} {e : Int} (h : Cur w g l p e) : w.cell? ⟨g, 1, none⟩ = some (.int .i64 p) ∧ w.cell? ⟨g, 2, none⟩ = some (.int .i64 e) ∧ w.frozen? ⟨g, 1, none⟩ = false ∧ w.frozen? ⟨g, 2, none⟩ = false := by
  obtain ⟨v, hg, _⟩ := h
  simp [World.cell?, World.frozen?, hg]
theorem Cur.below {w w' : World} {g : Nat} {l : List UInt8} {p : Nat} {e : Int} (h : Cur w g l p e) (hb : Below w.heap.size w w') : Cur w' g l p e := by
  obtain ⟨v, hg, hr, h1, h2⟩ := h
  exact ⟨v, (hb.block g (Array.getElem?_eq_some_iff.1 hg).1).trans hg, hr.below hb, h1, h2⟩

set_option maxRecDepth 100000 in
set_option maxHeartbeats 2000000 in
theorem new_pro (l : List UInt8) (v : Value) (w : World) (h : Rd w v l) (hl : l.length ≤ 281474976710656) :
    Calls Tryd.prog 33 #[v] w fun e w' => ∃ g, e = .returned (.pointer (some ⟨g, 0, none⟩)) ∧ w.heap.size ≤ g ∧ Cur w' g l 0 0 ∧ Below w.heap.size w w' := by
  have H := Lib.hid h
  have HL := Lib.hid (show l.length + ([] : List UInt8).length ≤ 281474976710656 by simpa using hl)
  have RN := Lib.hid (Rd.nil w)
  clear h
  go_enter Tryd.func33, Tryd.ntmps33
  go_wp2_with fail
  refine (joined_pro l [] _ _ _ H.out RN.out HL.out).mono ?_
  rw [List.append_nil]
  rintro e w2 ⟨v2, rfl, h2, hb2⟩
  have O2 := Lib.hid h2
  have B2 := Lib.hid hb2
  obtain ⟨pa, ca, rfl, _⟩ := (Rd.own h2).form
  clear h2 hb2
  go_wp2_with fail
  go_ret
  refine ⟨w2.heap.size, rfl, B2.out.size, ⟨_, ?_, (Rd.own O2.out).below ((Below.refl _ _).alloc (Nat.le_refl _) _), Nat.zero_le _, hl⟩, B2.out.alloc B2.out.size _⟩
  exact heap_alloc_new w2 _

set_option maxRecDepth 100000 in
set_option maxHeartbeats 2000000 in
theorem good_pro (g : Nat) (l : List UInt8) (p : Nat) (e : Int) (w : World) (h : Cur w g l p e) :
    Calls Tryd.prog 65 #[.pointer (some ⟨g, 0, none⟩)] w fun en w' => en = .returned (.bool (e == 0)) ∧ w = w' := by
  obtain ⟨h1, h2, _⟩ := h.cells
  clear h
  go_enter Tryd.func65, Tryd.ntmps65
  go_wp2_with fail
  go_ret
  exact ⟨rfl, rfl⟩
set_option maxRecDepth 100000 in
set_option maxHeartbeats 2000000 in
theorem good_nil (w : World) :
    Calls Tryd.prog 65 #[.pointer none] w fun en w' => en = .returned (.bool false) ∧ w = w' := by
  go_enter Tryd.func65, Tryd.ntmps65
  go_wp2_with fail
  go_ret
  exact ⟨rfl, rfl⟩
set_option maxRecDepth 100000 in
set_option maxHeartbeats 2000000 in
theorem at_pro (g : Nat) (l : List UInt8) (p : Nat) (e : Int) (w : World) (h : Cur w g l p e) :
    Calls Tryd.prog 28 #[.pointer (some ⟨g, 0, none⟩)] w fun en w' => en = .returned (.int .i64 p) ∧ w = w' := by
  obtain ⟨h1, h2, _⟩ := h.cells
  clear h
  go_enter Tryd.func28, Tryd.ntmps28
  go_wp2_with fail
  go_ret
  exact ⟨rfl, rfl⟩
set_option maxRecDepth 100000 in
set_option maxHeartbeats 2000000 in
theorem at_nil (w : World) :
    Calls Tryd.prog 28 #[.pointer none] w fun en w' => en = .returned (.int .i64 0) ∧ w = w' := by
  go_enter Tryd.func28, Tryd.ntmps28
  go_wp2_with fail
  go_ret
  exact ⟨rfl, rfl⟩
set_option maxRecDepth 100000 in
set_option maxHeartbeats 2000000 in
theorem err_pro (g : Nat) (l : List UInt8) (p : Nat) (e : Int) (w : World) (h : Cur w g l p e) :
    Calls Tryd.prog 27 #[.pointer (some ⟨g, 0, none⟩)] w fun en w' => en = .returned (.int .i64 e) ∧ w = w' := by
  obtain ⟨h1, h2, _⟩ := h.cells
  clear h
  go_enter Tryd.func27, Tryd.ntmps27
  go_wp2_with fail
  go_ret
  exact ⟨rfl, rfl⟩
set_option maxRecDepth 100000 in
set_option maxHeartbeats 2000000 in
theorem left_pro (g : Nat) (l : List UInt8) (p : Nat) (e : Int) (w : World) (h : Cur w g l p e) :
    Calls Tryd.prog 29 #[.pointer (some ⟨g, 0, none⟩)] w (Says (.int .i64 (l.length - p : Nat)) w) := by
  obtain ⟨h1, h2, _⟩ := h.cells
  obtain ⟨v, hg, hr, hp, hl⟩ := h
  obtain ⟨pa, ca, rfl, _⟩ := hr.form
  have h0 : w.cell? ⟨g, 0, none⟩ = some (.slice pa l.length ca) := by simp [World.cell?, hg]
  clear hg hr
  have E := Lib.hid (show ((l.length - p : Nat) : Int) = (l.length : Int) - p by omega)
  rw [E.out]
  go_enter Tryd.func29, Tryd.ntmps29
  go_wp2_with fail
  go_quiet (fail)
  go_wp2_with fail
  go_ret
  exact ⟨rfl, drewN_b _ _⟩
set_option maxRecDepth 100000 in
set_option maxHeartbeats 2000000 in
theorem left_nil (w : World) :
    Calls Tryd.prog 29 #[.pointer none] w fun en w' => en = .returned (.int .i64 0) ∧ w = w' := by
  go_enter Tryd.func29, Tryd.ntmps29
  go_wp2_with fail
  go_ret
  exact ⟨rfl, rfl⟩
set_option maxRecDepth 100000 in
set_option maxHeartbeats 2000000 in
theorem end_pro (g : Nat) (l : List UInt8) (p : Nat) (e : Int) (w : World) (h : Cur w g l p e) :
    Calls Tryd.prog 39 #[.pointer (some ⟨g, 0, none⟩)] w (Says (.int .i64 (if e = 0 ∧ p < l.length then 31 else e)) w) := by
  have H := Lib.hid h
  obtain ⟨v, hg, hr, hp, hl⟩ := h
  clear hg hr
  by_cases he : e = 0
  · subst he
    have LP := Lib.hid (left_pro g l p 0 w H.out)
    obtain ⟨q, hq⟩ : ∃ q : Nat, l.length - p = q := ⟨_, rfl⟩
    rw [hq] at LP
    by_cases hpl : p < l.length
    · have E1 : (0 : Int) < (q : Nat) := by omega
      rw [if_pos ⟨rfl, hpl⟩]
      clear hq hp hl hpl
      go_enter Tryd.func39, Tryd.ntmps39
      go_wp2_with fail
      refine (err_pro g l p 0 _ H.out).mono ?_
      rintro e w1 ⟨rfl, rfl⟩
      go_wp2_with fail
      refine LP.out.mono ?_
      rintro e w1 ⟨rfl, hb⟩
      have HB := Lib.hid hb
      clear hb
      go_wp2_with fail
      go_ret
      exact ⟨rfl, HB.out⟩
    · have E1 : ¬ (0 : Int) < (q : Nat) := by omega
      rw [if_neg (fun h => hpl h.2)]
      clear hq hp hl hpl
      go_enter Tryd.func39, Tryd.ntmps39
      go_wp2_with fail
      refine (err_pro g l p 0 _ H.out).mono ?_
      rintro e w1 ⟨rfl, rfl⟩
      go_wp2_with fail
      refine LP.out.mono ?_
      rintro e w1 ⟨rfl, hb⟩
      have HB := Lib.hid hb
      have H2 := Lib.hid (H.out.below hb)
      clear hb
      go_wp2_with fail
      refine (err_pro g l p 0 _ H2.out).mono ?_
      rintro e w2 ⟨rfl, rfl⟩
      go_wp2_with fail
      go_ret
      exact ⟨rfl, HB.out⟩
  · have E1 : (e == 0) = false := by simpa using he
    rw [if_neg (fun h => he h.1)]
    clear hp hl he
    go_enter Tryd.func39, Tryd.ntmps39
    go_wp2_with fail
    refine (err_pro g l p e _ H.out).mono ?_
    rintro e w1 ⟨rfl, rfl⟩
    go_wp2_with fail
    refine (err_pro g l p _ _ H.out).mono ?_
    rintro e w1 ⟨rfl, rfl⟩
    go_wp2_with fail
    go_ret
    exact ⟨rfl, Below.refl _ _⟩

set_option maxRecDepth 100000 in
set_option maxHeartbeats 2000000 in
theorem ahead_pro (g : Nat) (l : List UInt8) (p : Nat) (w : World) (h : Cur w g l p 0) :
    Calls Tryd.prog 56 #[.pointer (some ⟨g, 0, none⟩)] w fun en w' => ∃ v, en = .returned v ∧ Rd w' v (l.drop p) ∧ Below w.heap.size w w' := by
  have H := Lib.hid h
  obtain ⟨h1, h2, _⟩ := h.cells
  obtain ⟨v, hg, hr, hp, hl⟩ := h
  have HR := Lib.hid hr
  obtain ⟨pa, ca, rfl, hlc, hcm⟩ := hr.form
  have h0 : w.cell? ⟨g, 0, none⟩ = some (.slice pa l.length ca) := by simp [World.cell?, hg]
  clear hg hr
  go_enter Tryd.func56, Tryd.ntmps56
  go_wp2_with fail
  refine (good_pro g l p 0 _ H.out).mono ?_
  rintro e w1 ⟨rfl, rfl⟩
  go_wp2_with fail
  go_quiet (fail)
  go_wp2_with fail
  · go_ret
    exact ⟨_, rfl, (rd_end (by omega)).below (drewN_b _ _), drewN_b _ _⟩
  · go_ret
    exact ⟨_, rfl, (rd_drop HR.out hp hlc).below (drewN_b _ _), drewN_b _ _⟩
set_option maxRecDepth 100000 in
set_option maxHeartbeats 2000000 in
theorem ahead_failed (g : Nat) (l : List UInt8) (p : Nat) (e : Int) (w : World) (h : Cur w g l p e) (he : e ≠ 0) :
    Calls Tryd.prog 56 #[.pointer (some ⟨g, 0, none⟩)] w fun en w' => en = .returned (.slice none 0 0) ∧ w = w' := by
  have H := Lib.hid h
  have E1 : (e == 0) = false := by simpa using he
  clear h he
  go_enter Tryd.func56, Tryd.ntmps56
  go_wp2_with fail
  refine (good_pro g l p e _ H.out).mono ?_
  rintro e w1 ⟨rfl, rfl⟩
  go_wp2_with fail
  go_ret
  exact ⟨rfl, rfl⟩
set_option maxRecDepth 100000 in
set_option maxHeartbeats 2000000 in
theorem ahead_nil (w : World) :
    Calls Tryd.prog 56 #[.pointer none] w fun en w' => en = .returned (.slice none 0 0) ∧ w = w' := by
  go_enter Tryd.func56, Tryd.ntmps56
  go_wp2_with fail
  refine (good_nil _).mono ?_
  rintro e w1 ⟨rfl, rfl⟩
  go_wp2_with fail
  go_ret
  exact ⟨rfl, rfl⟩

theorem rd_apart {w : World} {v sl : Value} {l : List UInt8} {g : Nat} {a b : Int} (h : Rd w v l) (hs : ∃ pa n c, sl = .slice pa n c) (hg : w.heap[g]? = some (.cells #[sl, .int .i64 a, .int .i64 b] 46 (0, 0))) (w' : World) (hw : ∀ k, k ≠ g → k < w.heap.size → w'.heap[k]? = w.heap[k]?) : Rd w' v l := by
  obtain ⟨pa, cap, h1, h2, h3, h4⟩ := h
  obtain ⟨q, n, c, rfl⟩ := hs
  refine ⟨pa, cap, h1, h2, h3, fun j hj => ?_⟩
  obtain ⟨b', off, e, hc⟩ := h4 j hj
  refine ⟨b', off, e, ?_⟩
  have hne : b' ≠ g := by
    rintro rfl
    simp only [World.cell?, hg] at hc
    rcases hk : off + j with _ | _ | _ | k <;> simp [hk] at hc
  rw [World.cell?_of_block (w := w) (hw b' hne (cell_in hc))]
  exact hc
/-- The world behind a cursor's stores: another place, another number. -/
theorem cur_set {w : World} {g : Nat} {l : List UInt8} {p : Nat} {e : Int} (h : Cur w g l p e) (q : Nat) (hq : q ≤ l.length) :
    Cur (w.setCell ⟨g, 1, none⟩ (.int .i64 q)) g l q e ∧ w.grownBy (w.setCell ⟨g, 1, none⟩ (.int .i64 q)) (some g) := by
  obtain ⟨v, hg, hr, hp, hl⟩ := h
  have hw : ∀ k, k ≠ g → (w.setCell ⟨g, 1, none⟩ (.int .i64 q)).heap[k]? = w.heap[k]? := fun k hk => Below.heap_setCell w _ _ k hk
  refine ⟨⟨v, by simpa using heap_setCell_same w g 1 _ _ (.int .i64 q) hg, rd_apart hr (by obtain ⟨pa, ca, e, _⟩ := hr.form; exact ⟨_, _, _, e⟩) hg _ (fun k hk _ => hw k hk), hq, hl⟩, ?_⟩
  exact ⟨rfl, rfl, rfl, by simp [World.setCell], fun k _ hk => hw k (fun e => hk (by rw [e]))⟩
theorem cur_err {w : World} {g : Nat} {l : List UInt8} {p : Nat} {e : Int} (h : Cur w g l p e) (u : Int) :
    Cur (w.setCell ⟨g, 2, none⟩ (.int .i64 u)) g l p u ∧ w.grownBy (w.setCell ⟨g, 2, none⟩ (.int .i64 u)) (some g) := by
  obtain ⟨v, hg, hr, hp, hl⟩ := h
  have hw : ∀ k, k ≠ g → (w.setCell ⟨g, 2, none⟩ (.int .i64 u)).heap[k]? = w.heap[k]? := fun k hk => Below.heap_setCell w _ _ k hk
  refine ⟨⟨v, by simpa using heap_setCell_same w g 2 _ _ (.int .i64 u) hg, rd_apart hr (by obtain ⟨pa, ca, e, _⟩ := hr.form; exact ⟨_, _, _, e⟩) hg _ (fun k hk _ => hw k hk), hp, hl⟩, ?_⟩
  exact ⟨rfl, rfl, rfl, by simp [World.setCell], fun k _ hk => hw k (fun e => hk (by rw [e]))⟩
theorem grown_trans {a b c : World} {g : Nat} (h : a.grownBy b (some g)) (k : b.grownBy c (some g)) : a.grownBy c (some g) :=
  ⟨k.os.trans h.os, k.tape.trans h.tape, k.output.trans h.output, Nat.le_trans h.size k.size, fun j hj hn => (k.block j (Nat.lt_of_lt_of_le hj h.size) hn).trans (h.block j hj hn)⟩
theorem below_grown {a b : World} {row : Option Nat} (h : Below a.heap.size a b) : a.grownBy b row := ⟨h.os, h.tape, h.output, h.size, fun j hj _ => h.block j hj⟩

set_option maxRecDepth 100000 in
set_option maxHeartbeats 2000000 in
theorem failAt_pro (g : Nat) (l : List UInt8) (p q : Nat) (u : Int) (w : World) (h : Cur w g l p 0) (hq : q ≤ l.length) (hu : u ≠ 0) :
    Calls Tryd.prog 58 #[.pointer (some ⟨g, 0, none⟩), .int .i64 q, .int .i64 u] w fun en w' => en = .returned (.tuple #[]) ∧ Cur w' g l q u ∧ w.grownBy w' (some g) := by
  have H := Lib.hid h
  obtain ⟨h1, h2, h3, h4⟩ := h.cells
  have E1 : (u != 0) = true := by simpa using hu
  have C1 := Lib.hid (cur_set h q hq)
  have h5 := C1.out.1.cells.2.2.2
  have C2 := Lib.hid (cur_err C1.out.1 u)
  clear h hu
  go_enter Tryd.func58, Tryd.ntmps58
  go_wp2_with fail
  refine (good_pro g l p 0 _ H.out).mono ?_
  rintro e w1 ⟨rfl, rfl⟩
  go_wp2_with fail
  refine bodyPost_end (results_none rfl _ _ _) rfl ?_
  exact ⟨rfl, C2.out.1, grown_trans C1.out.2 C2.out.2⟩
set_option maxRecDepth 100000 in
set_option maxHeartbeats 2000000 in
theorem failAt_failed (g : Nat) (l : List UInt8) (p : Nat) (e q u : Int) (w : World) (h : Cur w g l p e) (he : e ≠ 0) :
    Calls Tryd.prog 58 #[.pointer (some ⟨g, 0, none⟩), .int .i64 q, .int .i64 u] w fun en w' => en = .returned (.tuple #[]) ∧ w = w' := by
  have H := Lib.hid h
  have E1 : (e == 0) = false := by simpa using he
  clear h he
  go_enter Tryd.func58, Tryd.ntmps58
  go_wp2_with fail
  refine (good_pro g l p e _ H.out).mono ?_
  rintro e w1 ⟨rfl, rfl⟩
  go_wp2_with fail
  refine bodyPost_end (results_none rfl _ _ _) rfl ?_
  exact ⟨rfl, rfl⟩
set_option maxRecDepth 100000 in
set_option maxHeartbeats 2000000 in
theorem failAt_nil (q u : Int) (w : World) :
    Calls Tryd.prog 58 #[.pointer none, .int .i64 q, .int .i64 u] w fun en w' => en = .returned (.tuple #[]) ∧ w = w' := by
  go_enter Tryd.func58, Tryd.ntmps58
  go_wp2_with fail
  refine (good_nil _).mono ?_
  rintro e w1 ⟨rfl, rfl⟩
  go_wp2_with fail
  refine bodyPost_end (results_none rfl _ _ _) rfl ?_
  exact ⟨rfl, rfl⟩
set_option maxRecDepth 100000 in
set_option maxHeartbeats 2000000 in
theorem fail_pro (g : Nat) (l : List UInt8) (p : Nat) (u : Int) (w : World) (h : Cur w g l p 0) (hu : u ≠ 0) :
    Calls Tryd.prog 52 #[.pointer (some ⟨g, 0, none⟩), .int .i64 u] w fun en w' => en = .returned (.tuple #[]) ∧ Cur w' g l p u ∧ w.grownBy w' (some g) := by
  have H := Lib.hid h
  have HP := Lib.hid (show p ≤ l.length by obtain ⟨_, _, _, hp, _⟩ := h; exact hp)
  have HU := Lib.hid hu
  clear h hu
  go_enter Tryd.func52, Tryd.ntmps52
  go_wp2_with fail
  refine (at_pro g l p 0 _ H.out).mono ?_
  rintro e w1 ⟨rfl, rfl⟩
  go_wp2_with fail
  refine (failAt_pro g l p p u _ H.out HP.out HU.out).mono ?_
  rintro e w1 ⟨rfl, h1, h2⟩
  have H1 := Lib.hid h1
  have H2 := Lib.hid h2
  clear h1 h2
  go_wp2_with fail
  refine bodyPost_end (results_none rfl _ _ _) rfl ?_
  exact ⟨rfl, H1.out, H2.out⟩
set_option maxRecDepth 100000 in
set_option maxHeartbeats 2000000 in
theorem fail_failed (g : Nat) (l : List UInt8) (p : Nat) (e u : Int) (w : World) (h : Cur w g l p e) (he : e ≠ 0) :
    Calls Tryd.prog 52 #[.pointer (some ⟨g, 0, none⟩), .int .i64 u] w fun en w' => en = .returned (.tuple #[]) ∧ w = w' := by
  have H := Lib.hid h
  have HU := Lib.hid he
  clear h he
  go_enter Tryd.func52, Tryd.ntmps52
  go_wp2_with fail
  refine (at_pro g l p e _ H.out).mono ?_
  rintro e w1 ⟨rfl, rfl⟩
  go_wp2_with fail
  refine (failAt_failed g l p e p u _ H.out HU.out).mono ?_
  rintro e w1 ⟨rfl, rfl⟩
  go_wp2_with fail
  refine bodyPost_end (results_none rfl _ _ _) rfl ?_
  exact ⟨rfl, rfl⟩
set_option maxRecDepth 100000 in
set_option maxHeartbeats 2000000 in
theorem fail_nil (u : Int) (w : World) :
    Calls Tryd.prog 52 #[.pointer none, .int .i64 u] w fun en w' => en = .returned (.tuple #[]) ∧ w = w' := by
  go_enter Tryd.func52, Tryd.ntmps52
  go_wp2_with fail
  refine (at_nil _).mono ?_
  rintro e w1 ⟨rfl, rfl⟩
  go_wp2_with fail
  refine (failAt_nil 0 u _).mono ?_
  rintro e w1 ⟨rfl, rfl⟩
  go_wp2_with fail
  refine bodyPost_end (results_none rfl _ _ _) rfl ?_
  exact ⟨rfl, rfl⟩
end Go.Proofs.YtcgeldmbndaocaaDoor
