/- The program's cursor over a text's elements (layer 2): what it tells next, and what is left of it. -/
import Derived.Test.YtoeknophfcfahaaGreatDoorPelsn
import Derived.Test.YtoeknophfcfahaaGreatDoorPwrdn
namespace Go.Proofs.YtoeknophfcfahaaGreatDoor
open Go.RowKit Go.Maps

theorem dig_at {s : ByteArray} {k : Nat} (h : k < s.size) : isDigC (Utf8.decode s k).1 = digB s[k] := by
  by_cases ha : s[k].toNat < 128
  · rw [decode_ascii s k h ha, Bool.eq_iff_iff]
    simp [isDigC, inB, digB]; omega
  · have hh := (decode_high s k h (by omega)).1
    rw [Bool.eq_iff_iff]
    simp [isDigC, inB, digB]; omega
theorem tw_in {p : UInt8 → Bool} : ∀ (l : List UInt8) (k : Nat) (b : UInt8), k < (l.takeWhile p).length → l[k]? = some b → p b = true
  | [], k, b, h, e => by simp at h
  | a :: l, k, b, h, e => by
    by_cases hp : p a = true
    · rw [List.takeWhile_cons, if_pos hp] at h
      cases k with
      | zero => simp at e; subst e; exact hp
      | succ k => exact tw_in l k b (by simpa using h) (by simpa using e)
    · rw [List.takeWhile_cons, if_neg hp] at h; simp at h
theorem tw_end {p : UInt8 → Bool} : ∀ (l : List UInt8) (b : UInt8), l[(l.takeWhile p).length]? = some b → p b = false
  | [], b, e => by simp at e
  | a :: l, b, e => by
    by_cases hp : p a = true
    · rw [List.takeWhile_cons, if_pos hp] at e
      exact tw_end l b (by simpa using e)
    · rw [List.takeWhile_cons, if_neg hp] at e
      simp at e; subst e; simpa using hp
theorem dig_yes {s : ByteArray} {k : Nat} (h : k < s.size) (hk : k ≤ dig s) (hd : isDigC (Utf8.decode s k).1 = true) : k + (Utf8.decode s k).2 ≤ dig s ∧ (Utf8.decode s k).2 = 1 := by
  rw [dig_at h] at hd
  have hb : s[k].toNat < 128 := by simp [digB] at hd; omega
  rw [decode_ascii s k h hb]
  refine ⟨?_, rfl⟩
  rcases Nat.lt_or_ge k (dig s) with h1 | h1
  · exact h1
  · obtain rfl : k = dig s := by omega
    have := tw_end (p := digB) s.data.toList s[dig s] (list_get s (dig s) h)
    rw [hd] at this; cases this
theorem dig_no {s : ByteArray} {k : Nat} (h : k < s.size) (hk : k ≤ dig s) (hd : isDigC (Utf8.decode s k).1 = false) : dig s = k := by
  rw [dig_at h] at hd
  rcases Nat.lt_or_ge k (dig s) with h1 | h1
  · have := tw_in (p := digB) s.data.toList k s[k] h1 (list_get s k h)
    rw [hd] at this; cases this
  · omega

set_option maxRecDepth 100000 in
set_option maxHeartbeats 1000000 in
theorem dig_pro (s : ByteArray) (w : World) (hs : s.size ≤ 16777216) : Calls Tryz.prog 135 #[.string s] w (Says (.int .i64 (dig s)) w) := by
  have HS := Lib.hid hs
  clear hs
  go_enter Tryz.func135, Tryz.ntmps135
  go_wp2_with fail
  go_loopw [] (fun wr => ∃ pos : Nat, wr.heap[w.heap.size]? = some (.stringIter s pos) ∧ Below w.heap.size w wr ∧ pos ≤ dig s) (fun wr => s.size - wr.iterPos w.heap.size)
  case atStart =>
    refine ⟨0, ?_, (Below.refl _ w).alloc (Nat.le_refl _) _, Nat.zero_le _⟩
    have := World.iter_heap w s 0
    simpa using this
  case round =>
    obtain ⟨pos, hit, hbw, hd⟩ := hrel
    have HI := Lib.hid hit
    by_cases hp : pos < s.size
    · have hnx : ∀ ty, (Instr.next (.pointer (some ⟨w.heap.size, 0, none⟩)) true ty).run Tryz.prog wr = _ := fun ty => Lib.run_next_any_at wr w.heap.size s pos ty hit hp
      have hit2 := Lib.iterAt_heap wr w.heap.size s pos (pos + (Utf8.decode s pos).2) hit
      have hbw2 := Lib.below_iterAt hbw (k := w.heap.size) (Nat.le_refl _) s (pos + (Utf8.decode s pos).2)
      have hwd := width_pos s pos hp
      have HI2 := Lib.hid hit2
      have HB2 := Lib.hid hbw2
      clear hit hbw hit2 hbw2
      cases hc : isDigC (Utf8.decode s pos).1
      · have HD := Lib.hid (dig_no hp hd hc)
        have hc2 : inB ((Utf8.decode s pos).1 : Int) 48 57 = false := hc
        clear hd hc
        go_wp2_with (go_at_call 75; refine (within_pro _ _ _ _).mono ?_; rintro e w2 ⟨rfl, rfl⟩)
        go_ret
        rw [HD.out]
        exact ⟨rfl, HB2.out⟩
      · have HD := Lib.hid (dig_yes hp hd hc).1
        have hc2 : inB ((Utf8.decode s pos).1 : Int) 48 57 = true := hc
        clear hd hc
        go_wp2_with (go_at_call 75; refine (within_pro _ _ _ _).mono ?_; rintro e w2 ⟨rfl, rfl⟩)
        go_roundw
        case rel => exact ⟨_, HI2.out, HB2.out, HD.out⟩
        case measure => simp only [World.iterPos, HI2.out, HI.out]; omega
    · have hnx : ∀ ty, (Instr.next (.pointer (some ⟨w.heap.size, 0, none⟩)) true ty).run Tryz.prog wr = _ := fun ty => Lib.run_next_end_at wr w.heap.size s pos ty hit hp
      have hz : dig s = s.size := by have := dig_le s; omega
      have HD := Lib.hid hz
      have HB := Lib.hid hbw
      clear hz hit hbw hd
      go_wp2_with fail
      go_ret
      rw [HD.out]
      exact ⟨rfl, HB.out⟩

set_option maxRecDepth 100000 in
set_option maxHeartbeats 1000000 in
theorem kind_pro (r : Int) (w : World) : Calls Tryz.prog 139 #[.int .i32 r] w fun e w' => e = .returned (.int .i64 (clsOf r)) ∧ w = w' := by
  go_enter Tryz.func139, Tryz.ntmps139
  go_wp2_with (first | (go_at_call 75; refine (within_pro _ _ _ _).mono ?_; rintro e w' ⟨rfl, rfl⟩))
  all_goals go_ret
  all_goals (refine ⟨ret_int ?_, rfl⟩)
  all_goals (simp [clsOf, *] <;> first | omega | rfl | (rcases ‹(r != 215) = false ∨ (r != 247) = false› with h | h <;> simp_all))

/-- An element that can be told: a number has no code, a letter no digits. -/
def ElFit (x : El) : Prop := (x.cls = 1 → x.code = 0) ∧ (x.cls ≠ 1 → x.digs = ByteArray.empty) ∧ (-2147483648 ≤ x.code ∧ x.code ≤ 2147483647) ∧ x.digs.size ≤ 16777216 ∧ (0 ≤ x.cls ∧ x.cls ≤ 2)
theorem elR_ok (r : Nat) (h : r ≤ 2147483647) : ElFit (elR r) := by
  have hc : clsOf r = 2 ∨ clsOf r = 0 := by unfold clsOf; split <;> simp
  refine ⟨fun e => ?_, fun _ => rfl, ⟨by show -2147483648 ≤ (r : Int); omega, by show (r : Int) ≤ 2147483647; omega⟩, Nat.zero_le _, ?_⟩
  · have : clsOf r = 1 := e
    omega
  · show 0 ≤ clsOf r ∧ clsOf r ≤ 2
    omega
theorem digs_size (s : ByteArray) : (digs s).size ≤ s.size := by
  have h1 : (digs s).size = (Lib.trimLeftB (s.extract 0 (dig s)).data.toList 48).length := by rw [← list_len]; rfl
  rw [h1]
  have h2 := (List.dropWhile_suffix (fun x : UInt8 => x == 48) (l := (s.extract 0 (dig s)).data.toList)).length_le
  rw [list_len, ByteArray.size_extract] at h2
  unfold Lib.trimLeftB
  have := dig_le s
  omega
theorem num_ok (s : ByteArray) (h : s.size ≤ 16777216) : ElFit ⟨1, 0, digs s⟩ := ⟨fun _ => rfl, fun e => absurd rfl e, ⟨by show (-2147483648 : Int) ≤ 0; omega, by show (0 : Int) ≤ 2147483647; omega⟩, Nat.le_trans (digs_size s) h, ⟨by show (0 : Int) ≤ 1; omega, by show (1 : Int) ≤ 2; omega⟩⟩

theorem Tabs.grown {w w' : World} {B : Nat} (h : Tabs w) (hg : w.grownBy w' (some B)) (hB : 3 ≤ B) : Tabs w' := by
  obtain ⟨⟨h1, h2⟩, m, h3⟩ := h
  have go : ∀ (b o : Nat) (v : Value), b < 3 → w.cell? ⟨b, o, none⟩ = some v → w'.cell? ⟨b, o, none⟩ = some v := fun b o v hb e => hg.cell e (by simp; omega)
  exact ⟨⟨fun c hc => go _ _ _ (by decide) (h1 c hc), fun i hi => ⟨go _ _ _ (by decide) (h2 i hi).1, go _ _ _ (by decide) (h2 i hi).2⟩⟩, m, go _ _ _ (by decide) h3⟩
/-- A block of two texts. -/
def Pair (w : World) (B : Nat) (a b : ByteArray) : Prop := w.heap[B]? = some (.cells #[.string a, .string b] 194 (0, 0))
theorem Pair.c0 {w : World} {B : Nat} {a b : ByteArray} (h : Pair w B a b) : w.cell? ⟨B, 0, none⟩ = some (.string a) := by unfold Pair at h; simp [World.cell?, h]
theorem Pair.c1 {w : World} {B : Nat} {a b : ByteArray} (h : Pair w B a b) : w.cell? ⟨B, 1, none⟩ = some (.string b) := by unfold Pair at h; simp [World.cell?, h]
theorem Pair.f0 {w : World} {B : Nat} {a b : ByteArray} (h : Pair w B a b) : w.frozen? ⟨B, 0, none⟩ = false := by unfold Pair at h; simp [World.frozen?, h]
theorem Pair.f1 {w : World} {B : Nat} {a b : ByteArray} (h : Pair w B a b) : w.frozen? ⟨B, 1, none⟩ = false := by unfold Pair at h; simp [World.frozen?, h]
theorem Pair.lt {w : World} {B : Nat} {a b : ByteArray} (h : Pair w B a b) : B < w.heap.size := (Array.getElem?_eq_some_iff.1 h).1
theorem Pair.below {w w' : World} {B : Nat} {a b : ByteArray} (h : Pair w B a b) (hb : Below w.heap.size w w') : Pair w' B a b := (hb.block B h.lt).trans h
theorem Pair.set0 {w : World} {B : Nat} {a b : ByteArray} (h : Pair w B a b) (v : ByteArray) : Pair (w.setCell ⟨B, 0, none⟩ (.string v)) B v b := by
  obtain ⟨hlt, hk⟩ := Array.getElem?_eq_some_iff.1 h
  show (w.heap.modify B _)[B]? = _
  rw [Array.getElem?_eq_getElem (by rw [Array.size_modify]; exact hlt), Array.getElem_modify_self, hk]
  rfl
theorem Pair.set1 {w : World} {B : Nat} {a b : ByteArray} (h : Pair w B a b) (v : ByteArray) : Pair (w.setCell ⟨B, 1, none⟩ (.string v)) B a v := by
  obtain ⟨hlt, hk⟩ := Array.getElem?_eq_some_iff.1 h
  show (w.heap.modify B _)[B]? = _
  rw [Array.getElem?_eq_getElem (by rw [Array.size_modify]; exact hlt), Array.getElem_modify_self, hk]
  rfl
theorem Pair.high {w : World} {B : Nat} {a b : ByteArray} (h : Pair w B a b) (hT : Tabs w) : 3 ≤ B := by
  obtain ⟨⟨h1, h2⟩, m, h3⟩ := hT
  have c := h.c0
  rcases Nat.lt_or_ge B 3 with hlt | hge
  · exfalso
    have hB : B = 0 ∨ B = 1 ∨ B = 2 := by omega
    rcases hB with rfl | rfl | rfl
    · rw [show w.cell? ⟨0, 0, none⟩ = _ from h3] at c; cases c
    · rw [show w.cell? ⟨1, 0, none⟩ = _ from h1 0 (by omega)] at c; cases c
    · rw [show w.cell? ⟨2, 0, none⟩ = _ from (h2 0 (by omega)).1] at c; cases c
  · exact hge
theorem grown_below {w w' w'' : World} {B : Nat} (h : w.grownBy w' (some B)) (hb : Below w'.heap.size w' w'') : w.grownBy w'' (some B) :=
  ⟨hb.os.trans h.os, hb.tape.trans h.tape, hb.output.trans h.output, Nat.le_trans h.size hb.size, fun k hk hne => (hb.block k (Nat.lt_of_lt_of_le hk h.size)).trans (h.block k hk hne)⟩
theorem grown_set {w w' : World} {B o : Nat} {v : Value} (h : w.grownBy w' (some B)) : w.grownBy (w'.setCell ⟨B, o, none⟩ v) (some B) :=
  ⟨h.os, h.tape, h.output, Nat.le_trans h.size (KeepsWalks.setCell w' ⟨B, o, none⟩ v).size, fun k hk hne => (Below.heap_setCell _ _ _ k (fun e => hne (by rw [e]))).trans (h.block k hk hne)⟩
theorem grown_new {w w' : World} {B R o : Nat} {v : Value} (h : w.grownBy w' (some B)) (hR : w.heap.size ≤ R) : w.grownBy (w'.setCell ⟨R, o, none⟩ v) (some B) :=
  ⟨h.os, h.tape, h.output, Nat.le_trans h.size (KeepsWalks.setCell w' ⟨R, o, none⟩ v).size, fun k hk hne => (Below.heap_setCell _ _ _ k (by show ¬ k = R; omega)).trans (h.block k hk hne)⟩
/-- What a call of next answers, and what it leaves. -/
def NextIs (B : Nat) (rest base : ByteArray) (W : World) (e : Ending) (W' : World) : Prop :=
  ∃ rest' base' : ByteArray, Pair W' B rest' base' ∧ rest'.size ≤ 16777216 ∧ base'.size ≤ 16777216 ∧ W.grownBy W' (some B) ∧
    ((told rest base = [] ∧ e = .returned (.tuple #[.agg #[.int .i64 0, .int .i32 0, .string ByteArray.empty], .bool false])) ∨
      ∃ x : El, ElFit x ∧ told rest base = x :: told rest' base' ∧ e = .returned (.tuple #[elV x, .bool true]))
/-- How long the text is that a block of two texts begins with. -/
def restLen (w : World) (B : Nat) : Nat := match w.cell? ⟨B, 0, none⟩ with | some (.string s) => s.size | _ => 0
theorem Pair.len {w : World} {B : Nat} {a b : ByteArray} (h : Pair w B a b) : restLen w B = a.size := by unfold restLen; rw [h.c0]
theorem Pair.other {w : World} {B R o : Nat} {a b : ByteArray} {v : Value} (h : Pair w B a b) (hne : B ≠ R) : Pair (w.setCell ⟨R, o, none⟩ v) B a b := (Below.heap_setCell _ _ _ B hne).trans h
/-- The cell in which next's result lies, before it is laid. -/
def Res0 (w : World) (R : Nat) : Prop := w.heap[R]? = some (.cells #[.int .i64 0, .int .i32 0, .string ByteArray.empty] 196 (0, 0))
theorem Res0.c {w : World} {R : Nat} (h : Res0 w R) : w.cell? ⟨R, 0, none⟩ = some (.int .i64 0) ∧ w.cell? ⟨R, 1, none⟩ = some (.int .i32 0) ∧ w.cell? ⟨R, 2, none⟩ = some (.string ByteArray.empty) := by
  unfold Res0 at h; simp [World.cell?, h]
theorem Res0.f {w : World} {R : Nat} (h : Res0 w R) : w.frozen? ⟨R, 0, none⟩ = false ∧ w.frozen? ⟨R, 1, none⟩ = false ∧ w.frozen? ⟨R, 2, none⟩ = false := by
  unfold Res0 at h; simp [World.frozen?, h]
theorem Res0.lt {w : World} {R : Nat} (h : Res0 w R) : R < w.heap.size := (Array.getElem?_eq_some_iff.1 h).1
theorem Res0.below {w w' : World} {R : Nat} (h : Res0 w R) (hb : Below w.heap.size w w') : Res0 w' R := (hb.block R h.lt).trans h
theorem Res0.other {w : World} {B R o : Nat} {v : Value} (h : Res0 w R) (hne : R ≠ B) : Res0 (w.setCell ⟨B, o, none⟩ v) R := (Below.heap_setCell _ _ _ R hne).trans h
theorem isNil {s : ByteArray} (h : s.size = 0) : s.toList = [] := by rw [ByteArray.toList_eq]; exact List.eq_nil_of_length_eq_zero (by rw [list_len]; exact h)

theorem next_close {B : Nat} {rest base r b : ByteArray} {W w2 : World} {x y z : Value} {e : Ending} (hp : Pair w2 B r b) (hr : r.size ≤ 16777216) (hb : b.size ≤ 16777216) (hg : W.grownBy w2 (some B)) (hB : B < W.heap.size)
    (h : (told rest base = [] ∧ e = .returned (.tuple #[.agg #[.int .i64 0, .int .i32 0, .string ByteArray.empty], .bool false])) ∨ ∃ x : El, ElFit x ∧ told rest base = x :: told r b ∧ e = .returned (.tuple #[elV x, .bool true])) :
    NextIs B rest base W e (((w2.setCell ⟨W.heap.size, 0, none⟩ x).setCell ⟨W.heap.size, 1, none⟩ y).setCell ⟨W.heap.size, 2, none⟩ z) :=
  ⟨r, b, ((hp.other (by omega)).other (by omega)).other (by omega), hr, hb, grown_new (grown_new (grown_new hg (Nat.le_refl _)) (Nat.le_refl _)) (Nat.le_refl _), h⟩
theorem decGo {s : ByteArray} (h : ¬ s.size = 0) : Lib.decodeGo s = Utf8.decode s 0 := by unfold Lib.decodeGo; rw [if_neg h]

set_option maxRecDepth 100000 in
set_option maxHeartbeats 4000000 in
theorem next_pro (B : Nat) (rest base : ByteArray) (W : World) (hp : Pair W B rest base) (hr : rest.size ≤ 16777216) (hb : base.size ≤ 16777216) (hT : Tabs W) :
    Calls Tryz.prog 108 #[.pointer (some ⟨B, 0, none⟩)] W (NextIs B rest base W) := by
  have hB3 := hp.high hT
  have HTW := Lib.hid hT
  have HPW := Lib.hid hp
  have hBW := hp.lt
  clear hT hp
  go_enter Tryz.func108, Tryz.ntmps108
  go_wp2_with fail
  go_loopw [] (fun wr => ∃ r b : ByteArray, Pair wr B r b ∧ r.size ≤ 16777216 ∧ b.size ≤ 16777216 ∧ W.grownBy wr (some B) ∧ told r b = told rest base ∧ Res0 wr W.heap.size) (fun wr => restLen wr B)
  case atStart =>
    refine ⟨rest, base, (Below.heap_alloc _ _ _ hBW).trans HPW.out, hr, hb, World.grownBy_alloc _ _ _, rfl, World.alloc_heap_new W _⟩
  case round =>
    obtain ⟨r, b, hp, hrs, hbs, hg, ht, hres⟩ := hrel
    have HP := Lib.hid hp
    have HG := Lib.hid hg
    have HQ := Lib.hid ht
    have HR := Lib.hid hres
    have HT := Lib.hid (HTW.out.grown hg hB3)
    have p0 := hp.c0
    have p1 := hp.c1
    have q0 := hp.f0
    have q1 := hp.f1
    obtain ⟨e0, e1, e2⟩ := hres.c
    obtain ⟨g0, g1, g2⟩ := hres.f
    clear hp hg ht hres
    by_cases hb0 : b.size = 0
    · have n1 := isNil hb0
      by_cases hr0 : r.size = 0
      · have n2 := isNil hr0
        have HE := Lib.hid (HQ.out.symm.trans (told_end hr0 hb0))
        clear hb0 hr0
        go_wp2_with fail
        refine bodyPost_ret (v := .tuple #[.agg #[.int .i64 0, .int .i32 0, .string ByteArray.empty], .bool false]) (by simp [results, Tryz.f108, go_sem, e0, e1, e2]; rfl) rfl ?_
        exact next_close HP.out hrs hbs HG.out hBW (.inl ⟨HE.out, rfl⟩)
      · have n2 := notEmpty (s := r) (by omega)
        have hfit := decode_fits r 0 (by omega)
        have hwd := width_pos r 0 (by omega)
        have hdl := dig_le r
        have hrn := decode_le r 0
        by_cases hd : 0 < dig r
        · have HE := Lib.hid (HQ.out.symm.trans (told_number hb0 hd))
          have d1 : (0 : Int) < dig r := by omega
          have d2 : (dig r : Int) ≤ r.size := by omega
          have d3 : (0 : Int) ≤ dig r := by omega
          have HRS := Lib.hid hrs
          clear hb0 hr0 hd hfit hwd hdl hrs
          go_wp2_with fail
          refine (dig_pro r _ HRS.out).mono ?_
          rintro e w1 ⟨rfl, h1⟩
          have P1 := Lib.hid (HP.out.below h1)
          have R1 := Lib.hid (HR.out.below h1)
          have G1 := Lib.hid (grown_below HG.out h1)
          have p0 := P1.out.c0
          have p1 := P1.out.c1
          have q0 := P1.out.f0
          clear h1
          go_wp2_with fail
          refine (Tryz.strings_TrimLeft_one _ 48 (by decide) _).mono ?_
          rintro e w2 ⟨rfl, rfl⟩
          obtain ⟨w2, hw2⟩ : ∃ w2, w1.setCell ⟨B, 0, none⟩ (.string (r.extract (dig r) r.size)) = w2 := ⟨_, rfl⟩
          have P2 := Lib.hid (show Pair w2 B (behind r (dig r)) b by rw [← hw2]; exact P1.out.set0 _)
          have R2 := Lib.hid (show Res0 w2 W.heap.size by rw [← hw2]; exact R1.out.other (by omega))
          have G2 := Lib.hid (show W.grownBy w2 (some B) by rw [← hw2]; exact grown_set G1.out)
          rw [hw2]
          clear hw2
          obtain ⟨e0, e1, e2⟩ := R2.out.c
          obtain ⟨g0, g1, g2⟩ := R2.out.f
          go_wp2_with fail
          refine bodyPost_ret (v := .tuple #[.agg #[.int .i64 1, .int .i32 0, .string (digs r)], .bool true]) (by simp [results, Tryz.f108, go_sem, e0, e1, e2, digs]) rfl ?_
          exact next_close P2.out (by have := HRS.out; rw [behind_size]; omega) hbs G2.out hBW (.inr ⟨⟨1, 0, digs r⟩, num_ok r HRS.out, HE.out, rfl⟩)
        · have hd0 : dig r = 0 := by omega
          have d1 : ¬ (0 : Int) < dig r := by omega
          have HD := Lib.hid (decGo hr0)
          have HZ := Lib.hid (show 0 < r.size by omega)
          have HD0 := Lib.hid hd0
          have HB0 := Lib.hid hb0
          have HRS := Lib.hid hrs
          obtain ⟨c, hcd⟩ : ∃ c : Nat × Nat, Utf8.decode r 0 = c := ⟨_, rfl⟩
          rw [hcd] at hfit hwd hrn HD
          have HC := Lib.hid hcd
          have d2 : (0 : Int) ≤ c.2 := by omega
          have d3 : (c.2 : Int) ≤ r.size := by omega
          have d4 : (0 : Int) ≤ c.1 := by omega
          have d5 : (c.1 : Int) ≤ 2147483647 := by omega
          have HF := Lib.hid (show c.2 ≤ r.size by omega)
          have HWD := Lib.hid hwd
          clear hb0 hr0 hd hd0 hfit hwd hdl hrs hcd hrn
          by_cases hw : wid c.1 = 0
          · have w1t : ¬ (0 : Int) < wid c.1 := by omega
            have HE := Lib.hid (HQ.out.symm.trans (told_none HB0.out HZ.out HD0.out (by rw [HC.out]; exact hw)))
            clear hw
            go_wp2_with fail
            refine (dig_pro r _ HRS.out).mono ?_
            rintro e w1 ⟨rfl, h1⟩
            have P1 := Lib.hid (HP.out.below h1)
            have R1 := Lib.hid (HR.out.below h1)
            have G1 := Lib.hid (grown_below HG.out h1)
            have T1 := Lib.hid (HTW.out.grown G1.out hB3)
            have p0 := P1.out.c0
            clear h1
            go_wp2_with fail
            refine (Tryz.utf8_DecodeRuneInString _ _ T1.out.1).mono ?_
            rw [HD.out]
            rintro e w2 ⟨rfl, h2⟩
            have P2 := Lib.hid (P1.out.below h2)
            have R2 := Lib.hid (R1.out.below h2)
            have G2 := Lib.hid (grown_below G1.out h2)
            have p0 := P2.out.c0
            have q0 := P2.out.f0
            clear h2
            go_wp2_with fail
            refine (width_q _ _).mono ?_
            rintro e w3 ⟨rfl, rfl⟩
            go_wp2_with fail
            go_roundw
            case rel =>
              refine ⟨behind r c.2, b, P2.out.set0 _, by have := HRS.out; rw [behind_size]; omega, hbs, grown_set G2.out, ?_, R2.out.other (by omega)⟩
              have := HE.out
              rw [HC.out] at this
              exact this.symm
            case measure =>
              have h1 := HWD.out
              have h2 := HF.out
              have e1 := (P2.out.set0 (behind r c.2)).len
              rw [show r.extract c.2 r.size = behind r c.2 from rfl, e1, HP.out.len, behind_size]
              omega
          · have w1t : (0 : Int) < wid c.1 := by have := wid_012 c.1; omega
            have HE := Lib.hid (HQ.out.symm.trans (told_letter HB0.out HZ.out HD0.out (by rw [HC.out]; exact hw)))
            clear hw
            go_wp2_with fail
            refine (dig_pro r _ HRS.out).mono ?_
            rintro e w1 ⟨rfl, h1⟩
            have P1 := Lib.hid (HP.out.below h1)
            have R1 := Lib.hid (HR.out.below h1)
            have G1 := Lib.hid (grown_below HG.out h1)
            have T1 := Lib.hid (HTW.out.grown G1.out hB3)
            have p0 := P1.out.c0
            clear h1
            go_wp2_with fail
            refine (Tryz.utf8_DecodeRuneInString _ _ T1.out.1).mono ?_
            rw [HD.out]
            rintro e w2 ⟨rfl, h2⟩
            have P2 := Lib.hid (P1.out.below h2)
            have R2 := Lib.hid (R1.out.below h2)
            have G2 := Lib.hid (grown_below G1.out h2)
            have p0 := P2.out.c0
            have q0 := P2.out.f0
            clear h2
            go_wp2_with fail
            refine (width_q _ _).mono ?_
            rintro e w3 ⟨rfl, rfl⟩
            go_wp2_with fail
            refine (base_q _ _ ⟨by omega, by omega⟩).mono ?_
            rintro e w3 ⟨rfl, rfl⟩
            obtain ⟨w3, hw3⟩ : ∃ w3, w2.setCell ⟨B, 0, none⟩ (.string (r.extract c.2 r.size)) = w3 := ⟨_, rfl⟩
            have P3 := Lib.hid (show Pair w3 B (behind r c.2) b by rw [← hw3]; exact P2.out.set0 _)
            have R3 := Lib.hid (show Res0 w3 W.heap.size by rw [← hw3]; exact R2.out.other (by omega))
            have G3 := Lib.hid (show W.grownBy w3 (some B) by rw [← hw3]; exact grown_set G2.out)
            rw [hw3]
            clear hw3
            have p1 := P3.out.c1
            have q1 := P3.out.f1
            go_wp2_with fail
            go_roundw
            case rel =>
              refine ⟨behind r c.2, bas c.1, P3.out.set1 _, by have := HRS.out; rw [behind_size]; omega, by have := bas_size c.1; omega, grown_set G3.out, ?_, R3.out.other (by omega)⟩
              have := HE.out
              rw [HC.out] at this
              exact this.symm
            case measure =>
              have h1 := HWD.out
              have h2 := HF.out
              rw [(P3.out.set1 (bas c.1)).len, HP.out.len, behind_size]
              omega
    · have n1 := notEmpty (s := b) (by omega)
      have hfit := decode_fits b 0 (by omega)
      have hwd := width_pos b 0 (by omega)
      have hrn := decode_le b 0
      have HE := Lib.hid (HQ.out.symm.trans (told_base (by omega)))
      have HD := Lib.hid (decGo hb0)
      obtain ⟨c, hcd⟩ : ∃ c : Nat × Nat, Utf8.decode b 0 = c := ⟨_, rfl⟩
      rw [hcd] at hfit hwd hrn HD HE
      have d2 : (0 : Int) ≤ c.2 := by omega
      have d3 : (c.2 : Int) ≤ b.size := by omega
      have HRN := Lib.hid hrn
      clear hb0 hfit hwd hrn hcd
      go_wp2_with fail
      refine (Tryz.utf8_DecodeRuneInString _ _ HT.out.1).mono ?_
      rw [HD.out]
      rintro e w2 ⟨rfl, h2⟩
      have P2 := Lib.hid (HP.out.below h2)
      have R2 := Lib.hid (HR.out.below h2)
      have G2 := Lib.hid (grown_below HG.out h2)
      have p1 := P2.out.c1
      have q1 := P2.out.f1
      clear h2
      go_wp2_with fail
      refine (kind_pro _ _).mono ?_
      rintro e w3 ⟨rfl, rfl⟩
      obtain ⟨w3, hw3⟩ : ∃ w3, w2.setCell ⟨B, 1, none⟩ (.string (b.extract c.2 b.size)) = w3 := ⟨_, rfl⟩
      have P3 := Lib.hid (show Pair w3 B r (behind b c.2) by rw [← hw3]; exact P2.out.set1 _)
      have R3 := Lib.hid (show Res0 w3 W.heap.size by rw [← hw3]; exact R2.out.other (by omega))
      have G3 := Lib.hid (show W.grownBy w3 (some B) by rw [← hw3]; exact grown_set G2.out)
      rw [hw3]
      clear hw3
      obtain ⟨e0, e1, e2⟩ := R3.out.c
      obtain ⟨g0, g1, g2⟩ := R3.out.f
      go_wp2_with fail
      refine bodyPost_ret (v := .tuple #[.agg #[.int .i64 (clsOf c.1), .int .i32 c.1, .string ByteArray.empty], .bool true]) (by simp [results, Tryz.f108, go_sem, e0, e1, e2]; rfl) rfl ?_
      exact next_close P3.out hrs (by rw [behind_size]; omega) G3.out hBW (.inr ⟨elR c.1, elR_ok _ HRN.out, HE.out, rfl⟩)
end Go.Proofs.YtoeknophfcfahaaGreatDoor
