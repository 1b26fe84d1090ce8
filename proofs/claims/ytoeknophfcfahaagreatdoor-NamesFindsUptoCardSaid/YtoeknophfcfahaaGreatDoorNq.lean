/- The program's Len, Name, Find, Sorted of a table. -/
import Derived.Test.YtoeknophfcfahaaGreatDoorNw
namespace Go.Proofs.YtoeknophfcfahaaGreatDoor
open Go.RowKit Go.Maps Go.Sort
set_option linter.unusedVariables false

namespace Tbl
variable {b : Nat} {l : List ByteArray} {nv gv mv sv : Value} {W : World}
theorem c0 (h : Tbl b l nv gv mv sv W) : W.cell? ⟨b, 0, none⟩ = some nv := by simp [World.cell?, h.cB]
theorem c1 (h : Tbl b l nv gv mv sv W) : W.cell? ⟨b, 1, none⟩ = some gv := by simp [World.cell?, h.cB]
theorem c2 (h : Tbl b l nv gv mv sv W) : W.cell? ⟨b, 2, none⟩ = some mv := by simp [World.cell?, h.cB]
theorem c3 (h : Tbl b l nv gv mv sv W) : W.cell? ⟨b, 3, none⟩ = some sv := by simp [World.cell?, h.cB]
theorem lt (h : Tbl b l nv gv mv sv W) : b < W.heap.size := (Array.getElem?_eq_some_iff.1 h.cB).1
end Tbl
/-- A pointer to a table, or none. -/
def TP (W : World) (p : Value) (l : List ByteArray) : Prop := (p = .pointer none ∧ l = []) ∨ ∃ b nv gv mv sv, p = .pointer (some ⟨b, 0, none⟩) ∧ Tbl b l nv gv mv sv W
theorem TP.below {W W' : World} {p : Value} {l : List ByteArray} (h : TP W p l) (hb : Below W.heap.size W W') : TP W' p l := by
  rcases h with h | ⟨b, nv, gv, mv, sv, e, h⟩
  · exact .inl h
  · exact .inr ⟨b, nv, gv, mv, sv, e, h.below hb⟩

set_option maxRecDepth 100000 in
set_option maxHeartbeats 1000000 in
theorem len_pro (l : List ByteArray) (p : Value) (w : World) (h : TP w p l) : Calls Tryz.prog 9 #[p] w fun e w' => e = .returned (.int .i64 (l.length : Nat)) ∧ w = w' := by
  rcases h with ⟨rfl, rfl⟩ | ⟨b, nv, gv, mv, sv, rfl, h⟩
  · go_enter Tryz.func9, Tryz.ntmps9
    go_wp2
    go_ret
    exact ⟨rfl, rfl⟩
  · obtain ⟨pa, cap, rfl, h1, h2⟩ := h.nn.form
    have c0 := h.c0
    clear h
    go_enter Tryz.func9, Tryz.ntmps9
    go_wp2
    go_ret
    exact ⟨rfl, rfl⟩

/-- What Name answers. -/
def NameIs (l : List ByteArray) (i : Int) (w : World) (e : Ending) (w' : World) : Prop := w = w' ∧
  ((∃ k : Nat, i = k ∧ k < l.length ∧ e = .returned (.tuple #[.string (l.getD k ByteArray.empty), .int .i64 0])) ∨
   ((i < 0 ∨ (l.length : Int) ≤ i) ∧ e = .returned (.tuple #[.string ByteArray.empty, .int .i64 1])))
set_option maxRecDepth 100000 in
set_option maxHeartbeats 1000000 in
theorem name_pro (l : List ByteArray) (p : Value) (i : Int) (w : World) (h : TP w p l) : Calls Tryz.prog 8 #[p, .int .i64 i] w (NameIs l i w) := by
  have HL := Lib.hid (len_pro l p w h)
  by_cases h0 : i < 0
  · clear h
    go_enter Tryz.func8, Tryz.ntmps8
    go_wp2_with fail
    go_ret2
    exact ⟨rfl, .inr ⟨.inl h0, rfl⟩⟩
  · by_cases h1 : (l.length : Int) ≤ i
    · clear h
      go_enter Tryz.func8, Tryz.ntmps8
      go_wp2_with (go_at_call 9; refine HL.out.mono ?_; rintro e w' ⟨rfl, rfl⟩)
      go_ret2
      exact ⟨rfl, .inr ⟨.inr h1, rfl⟩⟩
    · obtain ⟨k, rfl⟩ : ∃ k : Nat, i = k := ⟨i.toNat, by omega⟩
      have hk : k < l.length := by omega
      rcases h with ⟨_, rfl⟩ | ⟨b, nv, gv, mv, sv, rfl, h⟩
      · simp at hk
      obtain ⟨pa, cap, rfl, h3, h4⟩ := h.nn.form
      obtain ⟨b2, off, rfl, hc⟩ := h.nn.cell hk
      have c0 := h.c0
      have HG := Lib.hid (getD_get hk)
      obtain ⟨x, hx⟩ : ∃ x, l[k] = x := ⟨_, rfl⟩
      rw [hx] at hc HG
      clear h hx h0 h1
      go_enter Tryz.func8, Tryz.ntmps8
      go_wp2_with (go_at_call 9; refine HL.out.mono ?_; rintro e w' ⟨rfl, rfl⟩)
      go_ret2
      exact ⟨rfl, .inl ⟨k, rfl, hk, by rw [HG.out]; rfl⟩⟩

/-- The number of the name that a text is. -/
def findN (l : List ByteArray) (s : ByteArray) : Option Nat :=
  if (nrm s).2 = 0 then (List.range l.length).find? fun k => (nm (l.getD k ByteArray.empty)).data.toList == (nm s).data.toList else none
theorem bytes_eq {a b : ByteArray} : (a.data.toList == b.data.toList) = true ↔ a = b := by
  constructor
  · intro h
    cases a; cases b
    simpa using h
  · rintro rfl; simp
theorem findN_err {l : List ByteArray} {s : ByteArray} (h : (nrm s).2 ≠ 0) : findN l s = none := by unfold findN; rw [if_neg h]
theorem findN_none {l : List ByteArray} {s : ByteArray} (h : nm s ∉ l.map nm) : findN l s = none := by
  unfold findN
  split
  · rw [List.find?_eq_none]
    intro k hk e
    have hk' : k < l.length := by simpa using hk
    rw [bytes_eq, getD_get hk'] at e
    exact h (e ▸ List.mem_map.2 ⟨l[k], List.getElem_mem hk', rfl⟩)
  · rfl
theorem findN_some {l : List ByteArray} {s : ByteArray} (hG : GoodTo l l.length) (h0 : (nrm s).2 = 0) {k : Nat} (hk : k < l.length) (e : nm l[k] = nm s) : findN l s = some k := by
  unfold findN
  rw [if_pos h0]
  cases hf : (List.range l.length).find? fun k => (nm (l.getD k ByteArray.empty)).data.toList == (nm s).data.toList with
  | none =>
    rw [List.find?_eq_none] at hf
    have := hf k (by simpa using hk)
    rw [bytes_eq, getD_get hk] at this
    exact absurd e this
  | some j =>
    have h1 := List.find?_some hf
    have hj : j < l.length := by simpa using List.mem_of_find?_eq_some hf
    rw [bytes_eq, getD_get hj] at h1
    rw [hG.inj hj hk hj hk (h1.trans e.symm)]
def FindIs (l : List ByteArray) (s : ByteArray) (w : World) (e : Ending) (w' : World) : Prop := e = .returned (.tuple #[.int .i64 ((findN l s).getD 0 : Nat), .bool (findN l s).isSome]) ∧ Below w.heap.size w w'

set_option maxRecDepth 100000 in
set_option maxHeartbeats 2000000 in
theorem find_pro (l : List ByteArray) (p : Value) (s : ByteArray) (w : World) (h : TP w p l) (hG : GoodTo l l.length) (hT : Tabs w) : Calls Tryz.prog 13 #[p, .string s] w (FindIs l s w) := by
  have HC := Lib.hid (norm_pro s w hT)
  have HG := Lib.hid hG
  obtain ⟨er, her⟩ : ∃ er, (nrm s).2 = er := ⟨_, rfl⟩
  obtain ⟨n, hn⟩ : ∃ n, (nrm s).1 = n := ⟨_, rfl⟩
  have HER := Lib.hid her
  have HN := Lib.hid hn
  have HNM := Lib.hid (show nm s = n from hn)
  have hfz : er = 0 → n.size ≤ maxLen := fun e => by
    have h1 := nrm_ok (her.trans e)
    rw [← show nm s = n from hn, h1.2.1]
    have h2 := fold_size s
    unfold maxLen
    omega
  have HFZ := Lib.hid hfz
  clear hT hG her hn hfz
  rcases h with ⟨rfl, rfl⟩ | ⟨b, nv, gv, mv, sv, rfl, h⟩
  · have HF := Lib.hid (show findN [] s = none from findN_none (by simp))
    go_enter Tryz.func13, Tryz.ntmps13
    go_wp2_with fail
    refine HC.out.mono ?_
    unfold NormIs
    rw [HER.out, HN.out]
    rintro e w1 ⟨rfl, hb1⟩
    have HB1 := Lib.hid hb1
    clear hb1
    go_wp2_with fail
    go_ret2
    unfold FindIs
    rw [HF.out]
    exact ⟨rfl, HB1.out⟩
  · have HTB := Lib.hid h
    by_cases h0 : er = 0
    · subst h0
      have HFS := Lib.hid (HFZ.out rfl)
      clear h
      go_enter Tryz.func13, Tryz.ntmps13
      go_wp2_with fail
      refine HC.out.mono ?_
      unfold NormIs
      rw [HER.out, HN.out]
      rintro e w1 ⟨rfl, hb1⟩
      have HB1 := Lib.hid hb1
      have hT1 := HTB.out.below hb1
      have c2 := hT1.c2
      rcases hT1.mp with ⟨M, rfl, D, hown, hnum⟩ | ⟨rfl, hnil⟩
      · have HO := Lib.hid hown
        have HNU := Lib.hid hnum
        by_cases hin : n ∈ l.map nm
        · obtain ⟨k, hk, hek⟩ := List.getElem_of_mem hin
          have hkl : k < l.length := by simpa using hk
          have hek' : nm l[k] = n := by simpa using hek
          have HF := Lib.hid (show findN l s = some k from findN_some HG.out HER.out hkl (by rw [hek', HNM.out]))
          have hhas : Maps.has D (.string n.data.toList) = true := (hnum.has n).2 hin
          have hat0 : ∀ z, D.atKey (.string n.data.toList) z = .lit (.int .i64 (k : Nat)) := fun z => by rw [← hek]; exact hnum.at_ k hk z
          have HA := Lib.hid hat0
          clear hb1 hT1 hown hnum hin hek hek' hat0 hk
          go_wp2_with (at_lookup; go_loud (refine wpList_lookup_own_ok_int _ rfl _ _ 63 rfl 9 3 .i64 law Tryz.underlying63 Tryz.underlying3 (zeroI _) M (l.map nm).length D rfl HO.out _ _ rfl (Go.WideMaps.keyOf_string_mk Tryz.underlying9 HFS.out) ?_); intro c hat hwc; have hck : c = (k : Nat) := (by have := HA.out (.lit (.int .i64 0)); rw [hat] at this; simpa using this); subst hck)
          go_ret2
          unfold FindIs
          rw [HF.out]
          exact ⟨rfl, HB1.out⟩
        · have HF := Lib.hid (show findN l s = none from findN_none (by rw [HNM.out]; exact hin))
          have hhas : Maps.has D (.string n.data.toList) = false := by
            cases e : Maps.has D (.string n.data.toList)
            · rfl
            · exact absurd ((hnum.has n).1 e) hin
          have hat0 : ∀ z, D.atKey (.string n.data.toList) z = z := fun z => atKey_of_not_has hhas z
          have HA := Lib.hid hat0
          clear hb1 hT1 hown hnum hin hat0
          go_wp2_with (at_lookup; go_loud (refine wpList_lookup_own_ok_int _ rfl _ _ 63 rfl 9 3 .i64 law Tryz.underlying63 Tryz.underlying3 (zeroI _) M (l.map nm).length D rfl HO.out _ _ rfl (Go.WideMaps.keyOf_string_mk Tryz.underlying9 HFS.out) ?_); intro c hat hwc; have hck : c = 0 := (by have := HA.out (.lit (.int .i64 0)); rw [hat] at this; simpa using this); subst hck)
          go_ret2
          unfold FindIs
          rw [HF.out]
          exact ⟨rfl, HB1.out⟩
      · have HF := Lib.hid (show findN l s = none from findN_none (by rw [hnil]; simp))
        have hlook := look_nil (P := Tryz.prog) (w := w1) true law Tryz.underlying63 (zeroI w1) (key := .string n) (kl := .string n.data.toList) (Go.WideMaps.keyOf_string_mk Tryz.underlying9 HFS.out)
        clear hb1 hT1 hnil
        go_wp2_with fail
        go_ret2
        unfold FindIs
        rw [HF.out]
        exact ⟨rfl, HB1.out⟩
    · have t1 : (er != 0) = true := by simpa using h0
      have HF := Lib.hid (show findN l s = none from findN_err (by rw [HER.out]; exact h0))
      clear h h0
      go_enter Tryz.func13, Tryz.ntmps13
      go_wp2_with fail
      refine HC.out.mono ?_
      unfold NormIs
      rw [HER.out, HN.out]
      rintro e w1 ⟨rfl, hb1⟩
      have HB1 := Lib.hid hb1
      clear hb1
      go_wp2_with fail
      go_ret2
      unfold FindIs
      rw [HF.out]
      exact ⟨rfl, HB1.out⟩

/-- A new list of numbers. -/
def NewI (zs : List Nat) (w : World) (e : Ending) (w' : World) : Prop := ∃ v, e = .returned v ∧ w'.ownsRow w.heap.size 3 1 v zs.length (numsV zs) ∧ Below w.heap.size w w'
set_option maxRecDepth 100000 in
set_option maxHeartbeats 1000000 in
theorem sorted_pro (l : List ByteArray) (p : Value) (w : World) (h : TP w p l) (hl : l.length ≤ 1000) : Calls Tryz.prog 11 #[p] w (NewI (srt l) w) := by
  rcases h with ⟨rfl, rfl⟩ | ⟨b, nv, gv, mv, sv, rfl, h⟩
  · have HS := Lib.hid (show srt [] = [] from List.eq_nil_of_length_eq_zero (by rw [srt_len]; rfl))
    go_enter Tryz.func11, Tryz.ntmps11
    go_wp2
    go_ret
    unfold NewI
    rw [HS.out]
    exact ⟨_, rfl, World.ownsRow_nil _ _ _ _, Below.refl _ _⟩
  · have HC := Lib.hid (cloneI_pro (srt l) sv w h.ss (by rw [srt_len]; omega))
    have c3 := h.c3
    clear h hl
    go_enter Tryz.func11, Tryz.ntmps11
    go_wp2_with fail
    refine HC.out.mono ?_
    rintro e w1 ⟨v', rfl, hown, hb⟩
    have HO := Lib.hid hown
    have HB := Lib.hid hb
    clear hown hb
    go_wp2_with fail
    go_ret
    exact ⟨_, rfl, HO.out, HB.out⟩
end Go.Proofs.YtoeknophfcfahaaGreatDoor
