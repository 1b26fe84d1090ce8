/- Elements of the document's answer for layer 2. -/
import Derived.Test.YtoeknophfcfahaaGreatDoorOrdn
import Derived.Test.YtoeknophfcfahaaGreatDoorBasen
import Derived.Laws.Cover4
namespace Go.Proofs.YtoeknophfcfahaaGreatDoor
open Go.RowKit Go.Maps

def isDig (c : Ch) : Bool := inB c.2.1 48 57
def digStep (d : ByteArray) (c : Ch) : ByteArray := if !d.toList.isEmpty || (c.2.1 : Int) != 48 then d ++ Utf8.encode c.2.1 else d
/-- The digits at the head of a list, without noughts ahead, and the rest. -/
def runD : List Ch → ByteArray → ByteArray × List Ch
  | [], d => (d, [])
  | c :: l, d => if isDig c then runD l (digStep d c) else (d, c :: l)
def clsOf (r : Int) : Int := if inB r 97 122 || (decide (192 ≤ r) && (r != 215 && r != 247)) then 2 else 0
def elOf (c : Ch) : El := ⟨clsOf c.2.1, c.2.1, ByteArray.empty⟩
def elemsF : Nat → List Ch → List El
  | 0, _ => []
  | _ + 1, [] => []
  | f + 1, c :: l => if isDig c then ⟨1, 0, (runD (c :: l) ByteArray.empty).1⟩ :: elemsF f (runD (c :: l) ByteArray.empty).2
    else if wid c.2.1 = 0 then elemsF f l else (chars (bas c.2.1)).map elOf ++ elemsF f l
def elems (s : ByteArray) : List El := elemsF ((chars s).length + 1) (chars s)
def elC (x : El) : List Value := [.int .i64 x.cls, .int .i32 x.code, .string x.digs]
def elsV (l : List El) : List Value := l.flatMap elC
theorem elsV_len (l : List El) : (elsV l).length = l.length * 3 := by
  induction l with
  | nil => rfl
  | cons a l ih => simp [elsV, elC] at ih ⊢; omega
theorem elsV_snoc (l : List El) (y : El) : elsV (l ++ [y]) = elsV l ++ elC y := by simp [elsV]
theorem elC_one (y : El) : ∀ u ∈ elC y, u.oneCell' = true := by
  intro u hu; simp [elC] at hu; rcases hu with rfl | rfl | rfl <;> rfl
theorem elsV_get : ∀ (l : List El) (i : Nat) (y : El), l[i]? = some y → (elsV l)[i * 3]? = some (.int .i64 y.cls) ∧ (elsV l)[i * 3 + 1]? = some (.int .i32 y.code) ∧ (elsV l)[i * 3 + 2]? = some (.string y.digs)
  | [], i, y, h => by simp at h
  | a :: l, 0, y, h => by simp at h; subst h; simp [elsV, elC]
  | a :: l, i + 1, y, h => by
    have ih := elsV_get l i y (by simpa using h)
    have e : elsV (a :: l) = elC a ++ elsV l := by simp [elsV]
    have hl : (elC a).length = 3 := rfl
    rw [e, List.getElem?_append_right (by omega), List.getElem?_append_right (by omega), List.getElem?_append_right (by omega), hl, show (i + 1) * 3 - 3 = i * 3 by omega, show (i + 1) * 3 + 1 - 3 = i * 3 + 1 by omega, show (i + 1) * 3 + 2 - 3 = i * 3 + 2 by omega]
    exact ih
theorem own_ne {w : World} {b b' : Nat} {e e' : TypeId} {s s' : Nat} {v v' : Value} {n n' : Nat} {xs xs' : List Value} (h : w.ownsRow b e s v n xs) (h' : w.ownsRow b' e' s' v' n' xs') (hne : e ≠ e') : v.ownBlock = none ∨ v.ownBlock ≠ v'.ownBlock := by
  rcases h.2 with ⟨rfl, _⟩ | ⟨g, cap, cur, rfl, _, hg, _⟩
  · exact .inl rfl
  · refine .inr fun e1 => ?_
    rcases h'.2 with ⟨rfl, _⟩ | ⟨g', cap', cur', rfl, _, hg', _⟩
    · simp [Value.ownBlock] at e1
    · simp [Value.ownBlock] at e1
      subst e1
      rw [hg] at hg'
      injection hg' with hg'
      injection hg' with _ ht
      exact hne ht
theorem ite_size {p : Prop} [Decidable p] {a b : ByteArray} {n : Nat} (ha : a.size ≤ n) (hb : b.size ≤ n) : (if p then a else b).size ≤ n := by split <;> assumption
theorem bas_size (r : Int) : (bas r).size ≤ 4 := by
  unfold bas basOf
  repeat (first | exact encode_size_le _ | refine ite_size (Nat.le_of_ble_eq_true rfl) ?_)
theorem runD_drop {l : List Ch} {k : Nat} {c : Ch} (h : l[k]? = some c) (hd : isDig c = true) (d : ByteArray) : runD (l.drop k) d = runD (l.drop (k + 1)) (digStep d c) := by
  obtain ⟨hk, e⟩ := List.getElem?_eq_some_iff.1 h
  rw [List.drop_eq_getElem_cons hk, e]
  simp [runD, hd]
theorem runD_stop {l : List Ch} {k : Nat} {c : Ch} (h : l[k]? = some c) (hd : isDig c = false) (d : ByteArray) : runD (l.drop k) d = (d, l.drop k) := by
  obtain ⟨hk, e⟩ := List.getElem?_eq_some_iff.1 h
  rw [List.drop_eq_getElem_cons hk, e]
  simp [runD, hd]
theorem elemsF_drop {l : List Ch} {k f : Nat} {c : Ch} (h : l[k]? = some c) : elemsF (f + 1) (l.drop k) = if isDig c then ⟨1, 0, (runD (l.drop k) ByteArray.empty).1⟩ :: elemsF f (runD (l.drop k) ByteArray.empty).2
    else if wid c.2.1 = 0 then elemsF f (l.drop (k + 1)) else (chars (bas c.2.1)).map elOf ++ elemsF f (l.drop (k + 1)) := by
  obtain ⟨hk, e⟩ := List.getElem?_eq_some_iff.1 h
  have h1 : l.drop k = c :: l.drop (k + 1) := by rw [List.drop_eq_getElem_cons hk, e]
  rw [h1]
  rfl
theorem infoEl : (Tryz.prog.info? 135).map (fun i => (i.zero, i.size, i.bytes)) = some (some (.agg #[.int .i64 0, .int .i32 0, .string .empty]), 3, 32) := by kernel_rfl
/-- What Elements answers: a new list that holds the text's elements. -/
def IsElems (s : ByteArray) (w : World) (e : Ending) (w' : World) : Prop :=
  ∃ v : Value, e = .returned v ∧ w'.ownsRow w.heap.size 135 3 v (elems s).length (elsV (elems s)) ∧ Below w.heap.size w w'
/-- What holds at the head of a round. -/
def ElRel (s : ByteArray) (w1 : World) (u : Value) (k : Nat) (wr : World) : Prop :=
  ∃ (f : Nat) (acc : List El), k ≤ (chars s).length ∧ (chars s).length < k + f ∧ acc.length ≤ 4 * k ∧ acc ++ elemsF f ((chars s).drop k) = elems s ∧ wr.ownsRow w1.heap.size 135 3 u acc.length (elsV acc) ∧ Below w1.heap.size w1 wr

/-- One letter more. -/
theorem rel_letter {w1 wr wq w5 : World} {u2 v' vb : Value} {b : List Ch} {acc : List El} {q : Nat} {cb : Ch} {xb : List Value} {o : Obj} {x y : Int} (hcb : b[q]? = some cb)
    (ho : wq.ownsRow w1.heap.size 135 3 u2 (acc.length + q) (elsV (acc ++ (b.take q).map elOf))) (hb : wq.ownsRow wr.heap.size 151 4 vb b.length xb) (hB : Below w1.heap.size w1 wq)
    (hown : w5.ownsRow w1.heap.size 135 3 v' (acc.length + q + 1) (elsV (acc ++ (b.take q).map elOf) ++ [.int .i64 y, .int .i32 cb.2.1, .string ByteArray.empty])) (hg : (wq.alloc o).grownBy w5 u2.ownBlock) (hx : x = (q : Int) + 1) (hy : y = clsOf cb.2.1) :
    ∃ q' : Nat, Value.int .i64 x = .int .i64 q' ∧ q' ≤ b.length ∧ w5.ownsRow w1.heap.size 135 3 v' (acc.length + q') (elsV (acc ++ (b.take q').map elOf)) ∧ w5.ownsRow wr.heap.size 151 4 vb b.length xb ∧ Below w1.heap.size w1 w5 := by
  subst hx hy
  obtain ⟨hlt, e⟩ := List.getElem?_eq_some_iff.1 hcb
  refine ⟨q + 1, by simp, hlt, ?_, (hb.alloc o).kept hg (own_ne hb ho (by decide)), (hB.alloc hB.size o).grown hg (by have := hB.size; simp; omega) (fun j hj => (ho.lt j hj).1)⟩
  rw [List.take_succ_eq_append_getElem hlt, e, List.map_append, ← List.append_assoc, List.map_singleton, elsV_snoc]
  exact hown

/-- A number more. -/
theorem rel_number {s : ByteArray} {w1 wr w5 : World} {u v' : Value} {k j f : Nat} {acc : List El} {db : ByteArray} {o : Obj} {x : Int} (hkj : k < j) (hj : j ≤ (chars s).length) (hf : (chars s).length < k + (f + 1)) (hal : acc.length ≤ 4 * k)
    (hacc : acc ++ ((⟨1, 0, db⟩ : El) :: elemsF f ((chars s).drop j)) = elems s)
    (ho : wr.ownsRow w1.heap.size 135 3 u acc.length (elsV acc)) (hB : Below w1.heap.size w1 wr)
    (hown : w5.ownsRow w1.heap.size 135 3 v' (acc.length + 1) (elsV acc ++ [.int .i64 1, .int .i32 0, .string db])) (hg : (wr.alloc o).grownBy w5 u.ownBlock) (hx : x = (j : Int)) :
    ∃ k' : Nat, Value.int .i64 x = .int .i64 k' ∧ ElRel s w1 v' k' w5 := by
  subst hx
  refine ⟨j, rfl, f, acc ++ [⟨1, 0, db⟩], hj, by omega, by simp; omega, by rw [List.append_assoc]; exact hacc, ?_, (hB.alloc hB.size o).grown hg (by have := hB.size; simp; omega) (fun i hi => (ho.lt i hi).1)⟩
  rw [List.length_append, elsV_snoc]
  exact hown

set_option maxRecDepth 100000 in
set_option maxHeartbeats 1000000 in
theorem elems_ref (s : ByteArray) (w : World) (hs : s.size ≤ 16777216) :
    Calls Tryz.prog 68 #[.string s] w (IsElems s w) := by
  obtain ⟨i0, hi, hz0, hz1, hz2⟩ := info_parts infoEl
  have HS := Lib.hid hs
  have hl : (chars s).length ≤ 16777216 := Nat.le_trans (chars_len s) hs
  clear hs
  go_enter Tryz.func68, Tryz.ntmps68
  go_wp2_with (go_at_call 72; refine (chars_ref s _ HS.out).mono ?_; rintro e w1 ⟨v, xs, rfl, hown, hx, hbw⟩; have HW := Lib.hid hown; have HX := Lib.hid hx; have HB := Lib.hid hbw; clear hown hx hbw)
  go_loopw [3, 5, 6, 7, 8, 9, 10] (fun u i _ _ _ _ _ wr => ∃ k : Nat, i = .int .i64 k ∧ ElRel s w1 u k wr) (fun _ i _ _ _ _ _ _ => (chars s).length - (intOf i).toNat)
  case atStart => exact ⟨0, rfl, (chars s).length + 1, [], Nat.zero_le _, by omega, by simp, rfl, World.ownsRow_nil _ _ _ _, Below.refl _ _⟩
  case round =>
    obtain ⟨k, rfl, f, acc, hk, hf, hal, hacc, how, hbr⟩ := hrel
    have HA := Lib.hid hacc
    have HO := Lib.hid how
    have HR := Lib.hid hbr
    clear hacc how hbr
    by_cases hlt : k < (chars s).length
    · obtain ⟨f, rfl⟩ : ∃ f', f = f' + 1 := ⟨f - 1, by omega⟩
      obtain ⟨g, cap, rfl, hg, hgl⟩ := World.ownsRow.form HW.out (by omega)
      obtain ⟨c, hc⟩ : ∃ c, (chars s)[k]? = some c := ⟨_, List.getElem?_eq_getElem hlt⟩
      have hxl := HX.out.1
      have G0 := Lib.hid (show ∀ (j : Nat) (d : Ch), (chars s)[j]? = some d → j < (chars s).length → wr.cell? ⟨g, j * 4, none⟩ = some (.int .i32 d.2.1) from fun j d hd hj => (HR.out.cell (p := ⟨g, j * 4, none⟩) hgl).trans ((World.ownsRow.cellAt HW.out (j * 4) (by omega)).trans (HX.out.2 j d hd).1))
      have g0 := G0.out k c hc hlt
      have hr := chars_rune s c (List.mem_of_getElem? hc)
      have RR := Lib.hid (show -2147483648 ≤ (c.2.1 : Int) ∧ (c.2.1 : Int) ≤ 2147483647 by omega)
      have HD := Lib.hid (HA.out.symm.trans (congrArg (acc ++ ·) (elemsF_drop (f := f) hc)))
      have HC := Lib.hid hc
      clear hxl hc hr
      cases hdig : isDig c
      · have t1 : inB (c.2.1 : Int) 48 57 = false := hdig
        have T := Lib.hid hdig
        clear hdig
        by_cases hz : wid c.2.1 = 0
        · have HE := Lib.hid (show acc ++ elemsF f ((chars s).drop (k + 1)) = elems s by have := HD.out; simp only [T.out, Bool.false_eq_true, if_false, hz, if_true] at this; exact this.symm)
          go_wp2_with (first | (go_at_call 113; refine (in_ref _ _ _ _).mono ?_; rintro e w2 ⟨rfl, rfl⟩) | (go_at_call 114; refine (width_ref _ _).mono ?_; rintro e w2 ⟨rfl, rfl⟩))
          go_roundw
          case rel => exact ⟨k + 1, by go_num, f, acc, by omega, by omega, by omega, HE.out, HO.out, HR.out⟩
          case measure => simp [intOf]; omega
        · have tz : (wid c.2.1 == 0) = false := by simpa using hz
          have HE := Lib.hid (show acc ++ ((chars (bas c.2.1)).map elOf ++ elemsF f ((chars s).drop (k + 1))) = elems s by have := HD.out; simp only [T.out, Bool.false_eq_true, if_false, hz] at this; exact this.symm)
          have hbl : (chars (bas c.2.1)).length ≤ 4 := Nat.le_trans (chars_len _) (bas_size _)
          have HBS := Lib.hid (show (bas c.2.1).size ≤ 16777216 from Nat.le_trans (bas_size _) (by decide))
          clear hz
          go_wp2_with (first | (go_at_call 113; refine (in_ref _ _ _ _).mono ?_; rintro e w2 ⟨rfl, rfl⟩) | (go_at_call 114; refine (width_ref _ _).mono ?_; rintro e w2 ⟨rfl, rfl⟩) | (go_at_call 115; refine (base_ref _ _ RR.out).mono ?_; rintro e w2 ⟨rfl, rfl⟩) | (go_at_call 72; refine (chars_ref _ _ HBS.out).mono ?_; rintro e w3 ⟨vb, xb, rfl, hob, hxb, hbb⟩; have OB := Lib.hid hob; have XB := Lib.hid hxb; have BB := Lib.hid hbb; clear hob hxb hbb))
          obtain ⟨wo, rfl⟩ : ∃ wo : World, wo = wr := ⟨_, rfl⟩
          have OU := Lib.hid (own_below HO.out BB.out)
          have BU := Lib.hid (HR.out.trans (BB.out.mono HR.out.size))
          have hsz3 : wo.heap.size ≤ w3.heap.size := BB.out.size
          have HZ3 := Lib.hid hsz3
          clear hsz3
          have HG := Lib.hid (show ∀ (m : Nat) (cb : Ch), (chars (bas c.2.1))[m]? = some cb → m < (chars (bas c.2.1)).length from fun m cb h => (List.getElem?_eq_some_iff.1 h).1)
          go_loopw [3, 8, 9, 10] (fun u2 m _ _ wq => ∃ q : Nat, m = .int .i64 q ∧ q ≤ (chars (bas c.2.1)).length ∧ wq.ownsRow w1.heap.size 135 3 u2 (acc.length + q) (elsV (acc ++ ((chars (bas c.2.1)).take q).map elOf)) ∧ wq.ownsRow wo.heap.size 151 4 vb (chars (bas c.2.1)).length xb ∧ Below w1.heap.size w1 wq) (fun _ m _ _ _ => (chars (bas c.2.1)).length - (intOf m).toNat)
          case atStart => exact ⟨0, rfl, Nat.zero_le _, by simpa using OU.out, OB.out, BU.out⟩
          case round =>
            obtain ⟨q, rfl, hq, how, hob, hbu⟩ := hrel
            have HO2 := Lib.hid how
            have OB2 := Lib.hid hob
            have BU2 := Lib.hid hbu
            clear how hob hbu
            by_cases hql : q < (chars (bas c.2.1)).length
            · obtain ⟨gb, capb, rfl, _, _⟩ := World.ownsRow.form OB2.out (by omega)
              obtain ⟨cb, hcb⟩ : ∃ cb, (chars (bas c.2.1))[q]? = some cb := ⟨_, List.getElem?_eq_getElem hql⟩
              have gq := (World.ownsRow.cellAt OB2.out (q * 4) (by omega)).trans (XB.out.2 q cb hcb).1
              have HCB := Lib.hid hcb
              clear hcb
              have B1 := Lib.hid (show acc.length + q + 1 ≤ maxLen by unfold maxLen; omega)
              have B2 := Lib.hid (show (acc.length + q + 1) * 32 ≤ 140737488355328 by omega)
              by_cases hA : inB (cb.2.1 : Int) 97 122 = true
              · have HY := Lib.hid (show (2 : Int) = clsOf cb.2.1 by simp [clsOf, hA])
                go_wp2_with (first | (go_at_call 113; refine (in_ref _ _ _ _).mono ?_; rintro e w2 ⟨rfl, rfl⟩) | (at_builtin; refine wpList_append_own _ rfl _ _ 131 rfl w1.heap.size 135 i0 (.agg #[.int .i64 0, .int .i32 0, .string .empty]) 3 32 Tryz.underlying131 hi hz0 hz1 hz2 rfl (by decide) _ (acc.length + q) _ rfl (HO2.out.alloc _) ⟨wr.heap.size, 0, none⟩ 1 1 [.int .i64 2, .int .i32 cb.2.1, .string ByteArray.empty] rfl rfl (cells_new _ _ _) (elC_one ⟨2, cb.2.1, ByteArray.empty⟩) B1.out B2.out (by simpa using Nat.le_succ_of_le BU2.out.size) ?_; intro v' w5 hown' hgrow _))
                all_goals go_roundw
                all_goals first | exact rel_letter HCB.out HO2.out OB2.out BU2.out hown' hgrow rfl HY.out | (simp [intOf]; done) | (simp [intOf]; omega)
              · have hA' : inB (cb.2.1 : Int) 97 122 = false := by simpa using hA
                clear hA
                by_cases hL : (192 : Int) ≤ cb.2.1 ∧ ¬ (cb.2.1 : Int) = 215 ∧ ¬ (cb.2.1 : Int) = 247
                · obtain ⟨l1, l2, l3⟩ := hL
                  have HY := Lib.hid (show (2 : Int) = clsOf cb.2.1 by simp [clsOf, hA']; omega)
                  have e2 : ((cb.2.1 : Int) != 215) = true := by simpa using l2
                  have e3 : ((cb.2.1 : Int) != 247) = true := by simpa using l3
                  clear l2 l3
                  go_wp2_with (first | (go_at_call 113; refine (in_ref _ _ _ _).mono ?_; rintro e w2 ⟨rfl, rfl⟩) | (at_builtin; refine wpList_append_own _ rfl _ _ 131 rfl w1.heap.size 135 i0 (.agg #[.int .i64 0, .int .i32 0, .string .empty]) 3 32 Tryz.underlying131 hi hz0 hz1 hz2 rfl (by decide) _ (acc.length + q) _ rfl (HO2.out.alloc _) ⟨wr.heap.size, 0, none⟩ 1 1 [.int .i64 2, .int .i32 cb.2.1, .string ByteArray.empty] rfl rfl (cells_new _ _ _) (elC_one ⟨2, cb.2.1, ByteArray.empty⟩) B1.out B2.out (by simpa using Nat.le_succ_of_le BU2.out.size) ?_; intro v' w5 hown' hgrow _))
                  all_goals go_roundw
                  all_goals first | exact rel_letter HCB.out HO2.out OB2.out BU2.out hown' hgrow rfl HY.out | (simp [intOf]; done) | (simp [intOf]; omega)
                · have HY := Lib.hid (show (0 : Int) = clsOf cb.2.1 by simp [clsOf, hA']; omega)
                  by_cases l1 : (192 : Int) ≤ cb.2.1
                  · by_cases l2 : (cb.2.1 : Int) = 215
                    · have e2 : ((cb.2.1 : Int) != 215) = false := by simpa using l2
                      clear l2 hL
                      go_wp2_with (first | (go_at_call 113; refine (in_ref _ _ _ _).mono ?_; rintro e w2 ⟨rfl, rfl⟩) | (at_builtin; refine wpList_append_own _ rfl _ _ 131 rfl w1.heap.size 135 i0 (.agg #[.int .i64 0, .int .i32 0, .string .empty]) 3 32 Tryz.underlying131 hi hz0 hz1 hz2 rfl (by decide) _ (acc.length + q) _ rfl (HO2.out.alloc _) ⟨wr.heap.size, 0, none⟩ 1 1 [.int .i64 0, .int .i32 cb.2.1, .string ByteArray.empty] rfl rfl (cells_new _ _ _) (elC_one ⟨0, cb.2.1, ByteArray.empty⟩) B1.out B2.out (by simpa using Nat.le_succ_of_le BU2.out.size) ?_; intro v' w5 hown' hgrow _))
                      all_goals go_roundw
                      all_goals first | exact rel_letter HCB.out HO2.out OB2.out BU2.out hown' hgrow rfl HY.out | (simp [intOf]; done) | (simp [intOf]; omega)
                    · have l3 : (cb.2.1 : Int) = 247 := by omega
                      have e2 : ((cb.2.1 : Int) != 215) = true := by simpa using l2
                      have e3 : ((cb.2.1 : Int) != 247) = false := by simpa using l3
                      clear l2 l3 hL
                      go_wp2_with (first | (go_at_call 113; refine (in_ref _ _ _ _).mono ?_; rintro e w2 ⟨rfl, rfl⟩) | (at_builtin; refine wpList_append_own _ rfl _ _ 131 rfl w1.heap.size 135 i0 (.agg #[.int .i64 0, .int .i32 0, .string .empty]) 3 32 Tryz.underlying131 hi hz0 hz1 hz2 rfl (by decide) _ (acc.length + q) _ rfl (HO2.out.alloc _) ⟨wr.heap.size, 0, none⟩ 1 1 [.int .i64 0, .int .i32 cb.2.1, .string ByteArray.empty] rfl rfl (cells_new _ _ _) (elC_one ⟨0, cb.2.1, ByteArray.empty⟩) B1.out B2.out (by simpa using Nat.le_succ_of_le BU2.out.size) ?_; intro v' w5 hown' hgrow _))
                      all_goals go_roundw
                      all_goals first | exact rel_letter HCB.out HO2.out OB2.out BU2.out hown' hgrow rfl HY.out | (simp [intOf]; done) | (simp [intOf]; omega)
                  · clear hL
                    go_wp2_with (first | (go_at_call 113; refine (in_ref _ _ _ _).mono ?_; rintro e w2 ⟨rfl, rfl⟩) | (at_builtin; refine wpList_append_own _ rfl _ _ 131 rfl w1.heap.size 135 i0 (.agg #[.int .i64 0, .int .i32 0, .string .empty]) 3 32 Tryz.underlying131 hi hz0 hz1 hz2 rfl (by decide) _ (acc.length + q) _ rfl (HO2.out.alloc _) ⟨wr.heap.size, 0, none⟩ 1 1 [.int .i64 0, .int .i32 cb.2.1, .string ByteArray.empty] rfl rfl (cells_new _ _ _) (elC_one ⟨0, cb.2.1, ByteArray.empty⟩) B1.out B2.out (by simpa using Nat.le_succ_of_le BU2.out.size) ?_; intro v' w5 hown' hgrow _))
                    all_goals go_roundw
                    all_goals first | exact rel_letter HCB.out HO2.out OB2.out BU2.out hown' hgrow rfl HY.out | (simp [intOf]; done) | (simp [intOf]; omega)
            · obtain rfl : q = (chars (bas c.2.1)).length := by omega
              have hq2 := HO2.out
              rw [List.take_length] at hq2
              have HF := Lib.hid (show ElRel s w1 u3 (k + 1) wr from ⟨f, acc ++ (chars (bas c.2.1)).map elOf, by omega, by omega, by simp; omega, by rw [List.append_assoc]; exact HE.out, by rw [List.length_append, List.length_map]; exact hq2, BU2.out⟩)
              clear hq2
              rcases OB2.out.2 with ⟨rfl, h0⟩ | ⟨gb, capb, curb, rfl, _⟩
              · have hz : ((chars (bas c.2.1)).length : Int) ≤ 0 := by omega
                clear h0
                go_wp2_with fail
                go_roundw
                all_goals first | exact ⟨k + 1, by go_num, HF.out⟩ | (simp [intOf]; done) | (simp [intOf]; omega)
              · go_wp2_with fail
                go_roundw
                all_goals first | exact ⟨k + 1, by go_num, HF.out⟩ | (simp [intOf]; done) | (simp [intOf]; omega)
      · have t1 : inB (c.2.1 : Int) 48 57 = true := hdig
        have T := Lib.hid hdig
        have HE := Lib.hid (show acc ++ (⟨1, 0, (runD ((chars s).drop k) ByteArray.empty).1⟩ :: elemsF f (runD ((chars s).drop k) ByteArray.empty).2) = elems s by have := HD.out; simp only [T.out, if_true] at this; exact this.symm)
        clear hdig
        go_wp2_with (first | (go_at_call 113; refine (in_ref _ _ _ _).mono ?_; rintro e w2 ⟨rfl, rfl⟩))
        have B1 := Lib.hid (show acc.length + 1 ≤ maxLen by unfold maxLen; omega)
        have B2 := Lib.hid (show (acc.length + 1) * 32 ≤ 140737488355328 by omega)
        clear t1 g0
        go_loop [5, 6] (fun i d => ∃ (j : Nat) (db : ByteArray), i = .int .i64 j ∧ d = .string db ∧ k ≤ j ∧ j ≤ (chars s).length ∧ db.size ≤ 4 * j ∧ runD ((chars s).drop k) ByteArray.empty = runD ((chars s).drop j) db) (fun i _ => (chars s).length - (intOf i).toNat)
        case atStart => exact ⟨k, _, rfl, rfl, Nat.le_refl _, hk, Nat.zero_le _, rfl⟩
        case round =>
          obtain ⟨j, db, rfl, rfl, hkj, hj, hds, hrun⟩ := hrel
          have HU := Lib.hid hrun
          clear hrun
          have leave : ∀ (h : runD ((chars s).drop j) db = (db, (chars s).drop j)), k < j → acc ++ ((⟨1, 0, db⟩ : El) :: elemsF f ((chars s).drop j)) = elems s := by
            intro h _
            have := HE.out
            rw [HU.out, h] at this
            exact this
          have LV := Lib.hid leave
          clear leave
          by_cases hjl : j < (chars s).length
          · obtain ⟨d, hd⟩ : ∃ d, (chars s)[j]? = some d := ⟨_, List.getElem?_eq_getElem hjl⟩
            have gj := G0.out j d hd hjl
            have HDJ := Lib.hid hd
            clear hd
            cases hdj : isDig d
            · have t1 : inB (d.2.1 : Int) 48 57 = false := hdj
              have T2 := Lib.hid hdj
              clear hdj
              have hkj2 : k < j := by
                rcases Nat.lt_or_ge k j with h | h
                · exact h
                · exfalso
                  obtain rfl : j = k := by omega
                  have h1 := HDJ.out
                  rw [HC.out] at h1
                  cases h1
                  have h2 := T.out
                  rw [T2.out] at h2
                  cases h2
              have HL := Lib.hid (LV.out (runD_stop HDJ.out T2.out db) hkj2)
              go_wp2_with (first | (go_at_call 113; refine (in_ref _ _ _ _).mono ?_; rintro e w2 ⟨rfl, rfl⟩) | (at_builtin; refine wpList_append_own _ rfl _ _ 131 rfl w1.heap.size 135 i0 (.agg #[.int .i64 0, .int .i32 0, .string .empty]) 3 32 Tryz.underlying131 hi hz0 hz1 hz2 rfl (by decide) _ acc.length _ rfl (HO.out.alloc _) ⟨wr.heap.size, 0, none⟩ 1 1 [.int .i64 1, .int .i32 0, .string db] rfl rfl (cells_new _ _ _) (elC_one ⟨1, 0, db⟩) B1.out B2.out (by simpa using Nat.le_succ_of_le HR.out.size) ?_; intro v' w5 hown' hgrow _))
              go_roundw
              all_goals first | exact rel_number hkj2 hj hf hal HL.out HO.out HR.out hown' hgrow (by omega) | (simp [intOf]; done) | (simp [intOf]; omega)
            · have t1 : inB (d.2.1 : Int) 48 57 = true := hdj
              have T2 := Lib.hid hdj
              have he := encode_size_le (d.2.1 : Int)
              have HN := Lib.hid (HU.out.trans (runD_drop HDJ.out T2.out db))
              clear hdj
              cases e1 : (!db.toList.isEmpty) <;> cases e2 : ((d.2.1 : Int) != 48)
              · have HV := Lib.hid (show db = digStep db d by simp only [digStep, e1, e2]; rfl)
                go_wp2_with (first | (go_at_call 113; refine (in_ref _ _ _ _).mono ?_; rintro e w2 ⟨rfl, rfl⟩))
                go_round
                all_goals first | exact ⟨j + 1, _, by go_num, rfl, by omega, by omega, by omega, HV.out ▸ HN.out⟩ | (simp [intOf]; done) | (simp [intOf]; omega)
              all_goals
                have HV := Lib.hid (show db ++ Utf8.encode (d.2.1 : Int) = digStep db d by simp only [digStep, e1, e2]; rfl)
                go_wp2_with (first | (go_at_call 113; refine (in_ref _ _ _ _).mono ?_; rintro e w2 ⟨rfl, rfl⟩))
                go_round
                all_goals first | exact ⟨j + 1, _, by go_num, rfl, by omega, by omega, by rw [ByteArray.size_append]; omega, HV.out ▸ HN.out⟩ | (simp [intOf]; done) | (simp [intOf]; omega)
          · obtain rfl : j = (chars s).length := by omega
            have HL := Lib.hid (LV.out (by rw [List.drop_length]; rfl) hlt)
            go_wp2_with (first | (go_at_call 113; refine (in_ref _ _ _ _).mono ?_; rintro e w2 ⟨rfl, rfl⟩) | (at_builtin; refine wpList_append_own _ rfl _ _ 131 rfl w1.heap.size 135 i0 (.agg #[.int .i64 0, .int .i32 0, .string .empty]) 3 32 Tryz.underlying131 hi hz0 hz1 hz2 rfl (by decide) _ acc.length _ rfl (HO.out.alloc _) ⟨wr.heap.size, 0, none⟩ 1 1 [.int .i64 1, .int .i32 0, .string db] rfl rfl (cells_new _ _ _) (elC_one ⟨1, 0, db⟩) B1.out B2.out (by simpa using Nat.le_succ_of_le HR.out.size) ?_; intro v' w5 hown' hgrow _))
            go_roundw
            all_goals first | exact rel_number hlt hj hf hal HL.out HO.out HR.out hown' hgrow (by omega) | (simp [intOf]; done) | (simp [intOf]; omega)
    · obtain rfl : k = (chars s).length := by omega
      have hfin : IsElems s w (.returned u3) wr := by
        have h := HA.out
        have hn : elemsF f ((chars s).drop (chars s).length) = [] := by
          rw [List.drop_length]
          cases f <;> rfl
        rw [hn, List.append_nil] at h
        exact ⟨_, rfl, by have h2 := World.ownsRow.mono HO.out HB.out.size; rw [h] at h2; exact h2, HB.out.trans (HR.out.mono HB.out.size)⟩
      have HF := Lib.hid hfin
      clear hfin
      rcases HW.out.2 with ⟨rfl, h0⟩ | ⟨g, cap, cur, rfl, _⟩
      · have hz : ((chars s).length : Int) ≤ 0 := by omega
        clear h0
        go_wp2_with fail
        go_ret
        exact HF.out
      · go_wp2_with fail
        go_ret
        exact HF.out
end Go.Proofs.YtoeknophfcfahaaGreatDoor
