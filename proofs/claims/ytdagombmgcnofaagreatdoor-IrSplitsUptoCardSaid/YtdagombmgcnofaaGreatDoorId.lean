/- Layer 11: the program's room, short; what may stand where. -/
import Derived.Test.YtdagombmgcnofaaGreatDoorIc
import Derived.Deep.RegionHeld3
import Derived.Deep.RegionHeld2
namespace Go.Proofs.YtdagombmgcnofaaGreatDoor.Ir
open Go.RowKit Go.Maps Go.Proofs.YtdagombmgcnofaaGreatDoor
set_option linter.unusedVariables false

def lvCells (o : Lv) : Obj := .cells #[.int .i64 (o.wide : Nat), .int .i64 (o.parts : Nat), .int .i64 (o.cells : Nat)] 145
theorem lvCells_below (o : Lv) (w : World) : Below w.heap.size w (w.alloc (lvCells o)) := (Below.refl w.heap.size w).alloc (Nat.le_refl _) _
set_option maxRecDepth 100000 in
set_option maxHeartbeats 1000000 in
theorem short_pro (o : Lv) (w : World) : Calls Tryz.prog 118 #[lvVal o] w (SaysL (.bool (shortB o)) w) := by
  have HT := Lib.hid (fun W => table_pro o W)
  have HB := Lib.hid (lvCells_below o w)
  have hx := heap_alloc_new w (lvCells o)
  have HX := Lib.hid hx
  have HV : Hid (shortB o = (tabB o && decide (0 < o.parts) && decide (o.cells < o.wide))) := Lib.hid rfl
  obtain ⟨wi, pa, ce⟩ := o
  dsimp only [lvVal, lvCells] at HT HB HX HV ⊢
  obtain ⟨tb, htb⟩ : ∃ tb, tabB ⟨wi, pa, ce⟩ = tb := ⟨_, rfl⟩
  rw [htb] at HT HV
  rw [HV.out]
  clear hx htb HV
  cases tb with
  | false =>
    go_enter Tryz.func118, Tryz.ntmps118
    go_wp2_with fail
    refine (HT.out _).mono ?_
    rintro e w2 ⟨rfl, hb⟩
    have HB2 := Lib.hid (HB.out.trans (hb.mono HB.out.size))
    clear hb
    go_wp2_with fail
    go_ret
    exact ⟨rfl, HB2.out⟩
  | true =>
    have fin : ∀ b c : Bool, decide (0 < pa) = b → decide (ce < wi) = c → Calls Tryz.prog 118 #[.agg #[.int .i64 (wi : Nat), .int .i64 (pa : Nat), .int .i64 (ce : Nat)]] w (SaysL (.bool (true && b && c)) w) := by
      intro b c hb hc
      cases b with
      | false =>
        have h1 : ¬ (0 : Int) < (pa : Nat) := by have := of_decide_eq_false hb; omega
        clear hb hc
        go_enter Tryz.func118, Tryz.ntmps118
        go_wp2_with fail
        refine (HT.out _).mono ?_
        rintro e w2 ⟨rfl, hb⟩
        have x2 := (hb.block w.heap.size (Array.getElem?_eq_some_iff.1 HX.out).1).trans HX.out
        have d1 : w2.cell? ⟨w.heap.size, 1, none⟩ = some (.int .i64 (pa : Nat)) := by rw [cell_of_row _ _ _ _ _ _ x2]; rfl
        have HB2 := Lib.hid (HB.out.trans (hb.mono HB.out.size))
        clear hb x2
        go_wp2_with fail
        go_ret
        exact ⟨rfl, HB2.out⟩
      | true =>
        have h1 : (0 : Int) < (pa : Nat) := by have := of_decide_eq_true hb; omega
        cases c with
        | false =>
          have h2 : ¬ (ce : Int) < (wi : Nat) := by have := of_decide_eq_false hc; omega
          clear hb
          go_enter Tryz.func118, Tryz.ntmps118
          go_wp2_with fail
          refine (HT.out _).mono ?_
          rintro e w2 ⟨rfl, hb⟩
          have x2 := (hb.block w.heap.size (Array.getElem?_eq_some_iff.1 HX.out).1).trans HX.out
          have d0 : w2.cell? ⟨w.heap.size, 0, none⟩ = some (.int .i64 (wi : Nat)) := by rw [cell_of_row _ _ _ _ _ _ x2]; rfl
          have d1 : w2.cell? ⟨w.heap.size, 1, none⟩ = some (.int .i64 (pa : Nat)) := by rw [cell_of_row _ _ _ _ _ _ x2]; rfl
          have d2 : w2.cell? ⟨w.heap.size, 2, none⟩ = some (.int .i64 (ce : Nat)) := by rw [cell_of_row _ _ _ _ _ _ x2]; rfl
          have HB2 := Lib.hid (HB.out.trans (hb.mono HB.out.size))
          clear hb x2
          go_wp2_with fail
          go_ret
          exact ⟨rfl, HB2.out⟩
        | true =>
          have h2 : (ce : Int) < (wi : Nat) := by have := of_decide_eq_true hc; omega
          clear hb hc
          go_enter Tryz.func118, Tryz.ntmps118
          go_wp2_with fail
          refine (HT.out _).mono ?_
          rintro e w2 ⟨rfl, hb⟩
          have x2 := (hb.block w.heap.size (Array.getElem?_eq_some_iff.1 HX.out).1).trans HX.out
          have d0 : w2.cell? ⟨w.heap.size, 0, none⟩ = some (.int .i64 (wi : Nat)) := by rw [cell_of_row _ _ _ _ _ _ x2]; rfl
          have d1 : w2.cell? ⟨w.heap.size, 1, none⟩ = some (.int .i64 (pa : Nat)) := by rw [cell_of_row _ _ _ _ _ _ x2]; rfl
          have d2 : w2.cell? ⟨w.heap.size, 2, none⟩ = some (.int .i64 (ce : Nat)) := by rw [cell_of_row _ _ _ _ _ _ x2]; rfl
          have HB2 := Lib.hid (HB.out.trans (hb.mono HB.out.size))
          clear hb x2
          go_wp2_with fail
          go_ret
          exact ⟨rfl, HB2.out⟩
    exact fin _ _ rfl rfl
set_option maxRecDepth 100000 in
set_option maxHeartbeats 1000000 in
theorem room_pro (o : Lv) (w : World) : Calls Tryz.prog 117 #[lvVal o] w (SaysL (.bool (roomB o)) w) := by
  have HT := Lib.hid (fun W => table_pro o W)
  have HS := Lib.hid (fun W => short_pro o W)
  have HB := Lib.hid (lvCells_below o w)
  have HX := Lib.hid (heap_alloc_new w (lvCells o))
  have HV : Hid (roomB o = (decide (0 < o.parts) && (shortB o || !tabB o))) := Lib.hid rfl
  obtain ⟨wi, pa, ce⟩ := o
  dsimp only [lvVal, lvCells] at HT HS HB HX HV ⊢
  obtain ⟨tb, htb⟩ : ∃ tb, tabB ⟨wi, pa, ce⟩ = tb := ⟨_, rfl⟩
  obtain ⟨sb, hsb⟩ : ∃ sb, shortB ⟨wi, pa, ce⟩ = sb := ⟨_, rfl⟩
  rw [htb] at HT HV
  rw [hsb] at HS HV
  rw [HV.out]
  clear htb hsb HV
  have fin : ∀ b : Bool, decide (0 < pa) = b → Calls Tryz.prog 117 #[.agg #[.int .i64 (wi : Nat), .int .i64 (pa : Nat), .int .i64 (ce : Nat)]] w (SaysL (.bool (b && (sb || !tb))) w) := by
    intro b hb
    cases b with
    | false =>
      have h1 : ¬ (0 : Int) < (pa : Nat) := by have := of_decide_eq_false hb; omega
      clear hb
      go_enter Tryz.func117, Tryz.ntmps117
      go_wp2_with fail
      go_ret
      exact ⟨rfl, HB.out⟩
    | true =>
      have h1 : (0 : Int) < (pa : Nat) := by have := of_decide_eq_true hb; omega
      clear hb
      cases sb with
      | true =>
        go_enter Tryz.func117, Tryz.ntmps117
        go_wp2_with fail
        refine (HS.out _).mono ?_
        rintro e w2 ⟨rfl, hb⟩
        have HB2 := Lib.hid (HB.out.trans (hb.mono HB.out.size))
        clear hb
        go_wp2_with fail
        go_ret
        exact ⟨rfl, HB2.out⟩
      | false =>
        cases tb with
        | false =>
          go_enter Tryz.func117, Tryz.ntmps117
          go_wp2_with fail
          refine (HS.out _).mono ?_
          rintro e w2 ⟨rfl, hb⟩
          have x2 := (hb.block w.heap.size (Array.getElem?_eq_some_iff.1 HX.out).1).trans HX.out
          have d0 : w2.cell? ⟨w.heap.size, 0, none⟩ = some (.int .i64 (wi : Nat)) := by rw [cell_of_row _ _ _ _ _ _ x2]; rfl
          have d1 : w2.cell? ⟨w.heap.size, 1, none⟩ = some (.int .i64 (pa : Nat)) := by rw [cell_of_row _ _ _ _ _ _ x2]; rfl
          have d2 : w2.cell? ⟨w.heap.size, 2, none⟩ = some (.int .i64 (ce : Nat)) := by rw [cell_of_row _ _ _ _ _ _ x2]; rfl
          have HB2 := Lib.hid (HB.out.trans (hb.mono HB.out.size))
          clear hb x2
          go_wp2_with fail
          refine (HT.out _).mono ?_
          rintro e w3 ⟨rfl, hb⟩
          have HB3 := Lib.hid (HB2.out.trans (hb.mono HB2.out.size))
          clear hb
          go_wp2_with fail
          go_ret
          exact ⟨rfl, HB3.out⟩
        | true =>
          go_enter Tryz.func117, Tryz.ntmps117
          go_wp2_with fail
          refine (HS.out _).mono ?_
          rintro e w2 ⟨rfl, hb⟩
          have x2 := (hb.block w.heap.size (Array.getElem?_eq_some_iff.1 HX.out).1).trans HX.out
          have d0 : w2.cell? ⟨w.heap.size, 0, none⟩ = some (.int .i64 (wi : Nat)) := by rw [cell_of_row _ _ _ _ _ _ x2]; rfl
          have d1 : w2.cell? ⟨w.heap.size, 1, none⟩ = some (.int .i64 (pa : Nat)) := by rw [cell_of_row _ _ _ _ _ _ x2]; rfl
          have d2 : w2.cell? ⟨w.heap.size, 2, none⟩ = some (.int .i64 (ce : Nat)) := by rw [cell_of_row _ _ _ _ _ _ x2]; rfl
          have HB2 := Lib.hid (HB.out.trans (hb.mono HB.out.size))
          clear hb x2
          go_wp2_with fail
          refine (HT.out _).mono ?_
          rintro e w3 ⟨rfl, hb⟩
          have HB3 := Lib.hid (HB2.out.trans (hb.mono HB2.out.size))
          clear hb
          go_wp2_with fail
          go_ret
          exact ⟨rfl, HB3.out⟩
  exact fin _ rfl
/-- The number of the first of the braces that is a link or a note, or -1. -/
def lkAt : List Int → Nat → Int
  | [], _ => -1
  | k :: l, i => if isLk k then (i : Int) else lkAt l (i + 1)
theorem lkAt_step {l : List Int} {i : Nat} (h : i < l.length) : lkAt (l.drop i) i = if isLk l[i] then (i : Int) else lkAt (l.drop (i + 1)) (i + 1) := by
  rw [List.drop_eq_getElem_cons h]
  rfl
theorem lkAt_any : ∀ (l : List Int) (i : Nat), decide (0 ≤ lkAt l i) = l.any isLk
  | [], i => rfl
  | k :: l, i => by
    unfold lkAt
    cases h : isLk k with
    | true => simp [h]
    | false => simp [h]; exact lkAt_any l (i + 1)
def linkF : Value := .func (.func 71) #[] #[]
set_option maxRecDepth 100000 in
set_option maxHeartbeats 1000000 in
theorem indexLinks_pro (M : Nat) (s : Wk) (w : World) (h : WkIs M w s) : Calls Tryz.prog 165 #[.slice (some ⟨M, 25, none⟩) s.br.length 16, linkF] w fun e w' => e = .returned (.int .i64 (lkAt s.br 0)) ∧ w = w' := by
  have HH := Lib.hid h
  have hb := h.bounds.2
  clear h
  unfold linkF
  go_enter Tryz.func165, Tryz.ntmps165
  go_wp2_with fail
  go_loop [8] (fun i => ∃ k : Nat, k ≤ s.br.length ∧ i = .int .i64 k ∧ Hid (lkAt (s.br.drop k) k = lkAt s.br 0)) (fun i => s.br.length - (intOf i).toNat)
  case atStart => exact ⟨0, Nat.zero_le _, rfl, Lib.hid rfl⟩
  case round =>
    obtain ⟨k, hk, rfl, HF⟩ := hrel
    by_cases hlt : k < s.br.length
    · have c := HH.out.brace hlt
      have hs := lkAt_step hlt
      obtain ⟨x, hx⟩ : ∃ x, s.br[k] = x := ⟨_, rfl⟩
      rw [hx] at c hs
      have HL := Lib.hid (isLink_pro x w)
      obtain ⟨b, hbx⟩ : ∃ b, isLk x = b := ⟨_, rfl⟩
      rw [hbx] at HL hs
      have k1 : (k : Int) < s.br.length := by omega
      have k2 : k < 16 := by omega
      clear hbx hx
      cases b with
      | true =>
        rw [if_pos rfl] at hs
        have HZ := Lib.hid (HF.out.symm.trans hs)
        clear hs
        go_wp2_with fail
        refine HL.out.mono ?_
        rintro e w1 ⟨rfl, rfl⟩
        go_wp2_with fail
        go_ret
        rw [HZ.out]
        exact ⟨rfl, rfl⟩
      | false =>
        rw [if_neg (by decide)] at hs
        have HZ := Lib.hid (hs.symm.trans HF.out)
        clear hs
        go_wp2_with fail
        refine HL.out.mono ?_
        rintro e w1 ⟨rfl, rfl⟩
        go_wp2_with fail
        go_round
        case rel => exact ⟨k + 1, by omega, by go_num, HZ.out⟩
        case measure => simp [intOf]; omega
    · have hz : lkAt s.br 0 = -1 := by rw [← HF.out, List.drop_eq_nil_of_le (by omega)]; rfl
      have HZ := Lib.hid hz
      have k1 : ¬ (k : Int) < s.br.length := by omega
      clear hz
      go_wp2_with fail
      go_ret
      rw [HZ.out]
      exact ⟨rfl, rfl⟩
set_option maxRecDepth 100000 in
theorem anyLink_pro (M : Nat) (s : Wk) (w : World) (h : WkIs M w s) : Calls Tryz.prog 115 #[.slice (some ⟨M, 25, none⟩) s.br.length 16, linkF] w fun e w' => e = .returned (.bool (s.br.any isLk)) ∧ w = w' := by
  have HI := Lib.hid (indexLinks_pro M s w h)
  rw [← lkAt_any s.br 0]
  obtain ⟨i, hi⟩ : ∃ i, lkAt s.br 0 = i := ⟨_, rfl⟩
  rw [hi] at HI ⊢
  obtain ⟨n, hn⟩ : ∃ n, s.br.length = n := ⟨_, rfl⟩
  rw [hn] at HI ⊢
  clear h hi hn
  unfold linkF at HI ⊢
  by_cases h0 : 0 ≤ i
  · rw [decide_eq_true h0]
    go_enter Tryz.func115, Tryz.ntmps115
    go_wp2_with fail
    refine HI.out.mono ?_
    rintro e w1 ⟨rfl, rfl⟩
    go_wp2_with fail
    go_ret
    exact ⟨rfl, rfl⟩
  · have h1 := decide_eq_false h0
    rw [h1]
    go_enter Tryz.func115, Tryz.ntmps115
    go_wp2_with fail
    refine HI.out.mono ?_
    rintro e w1 ⟨rfl, rfl⟩
    go_wp2_with fail
    go_ret
    exact ⟨rfl, rfl⟩
end Go.Proofs.YtdagombmgcnofaaGreatDoor.Ir
