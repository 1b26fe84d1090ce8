/- The program's chain. -/
import Derived.Test.YtceanagnkcejgaaGreatDoorCk
import Derived.Test.YtceanagnkcejgaaGreatDoorPost
import Derived.WalkMore
import Derived.Laws.OwnMore
import Derived.Deep.AppendLies
namespace Go.Proofs.YtceanagnkcejgaaGreatDoor
open Go.RowKit
set_option linter.unusedVariables false

theorem infoInt : (Tryz.prog.info? 3).map (fun i => (i.zero, i.size, i.bytes)) = some (some (.int .i64 0), 1, 8) := by kernel_rfl
def natsV (p : List Nat) : List Value := p.map fun (k : Nat) => Value.int .i64 (k : Int)
/-- What chain answers. -/
def ChainIs (l : List Sty) (i : Nat) (w : World) (e : Ending) (w' : World) : Prop := match path l 8 i with
  | some p => (∃ r, e = .returned (.tuple #[r, .bool true]) ∧ w'.ownsRow w.heap.size 3 1 r p.length (natsV p)) ∧ Below w.heap.size w w'
  | none => e = .returned (.tuple #[.slice none 0 0, .bool false]) ∧ Below w.heap.size w w'
def slen : Value → Nat
  | .slice _ n _ => n
  | _ => 0
theorem cells_new1 (w : World) (v : Value) (t : TypeId) : ∀ (j : Nat) (u : Value), [v][j]? = some u → (w.alloc (.cells #[v] t)).cell? ((⟨w.heap.size, 0, none⟩ : Addr).add j) = some u := fun j u hj => by
  have : j = 0 := by have := (List.getElem?_eq_some_iff.1 hj).1; simpa using this
  subst this
  simp at hj
  subst hj
  simp [Addr.add]

set_option maxRecDepth 100000 in
set_option maxHeartbeats 4000000 in
theorem chain_pro (l : List Sty) (i : Nat) (v : Value) (w : World) (h : Sh w v l) (hi : i < l.length) :
    Calls Tryz.prog 54 #[v, .int .i64 i] w (ChainIs l i w) := by
  obtain ⟨i0, hti, hz0, hz1, hz2⟩ := info_parts infoInt
  obtain ⟨pa, cap, rfl, hc1, hc2⟩ := h.form
  unfold maxLen at hc2
  have HS := Lib.hid h
  clear h
  go_enter Tryz.func54, Tryz.ntmps54
  go_wp2_with fail
  go_step3
  go_wp2_with fail
  go_step3
  try go_wp2_with fail
  go_loopw [1, 6, 7, 8] (fun n u _ _ wr => ∃ (k : Nat) (acc : List Nat), n = .int .i64 k ∧ k < l.length ∧ acc.length ≤ 7 ∧ Hid (path l 8 i = (path l (8 - acc.length) k).map (acc ++ ·)) ∧ wr.ownsRow w.heap.size 3 1 u acc.length (natsV acc) ∧ Below w.heap.size w wr) (fun _ u _ _ _ => 8 - slen u)
  case atStart => exact ⟨i, [], rfl, hi, by simp, by cases path l 8 i <;> rfl, World.ownsRow_nil _ _ _ _, Below.refl _ _⟩
  case round =>
    obtain ⟨k, acc, rfl, hk, hal, HP, hown, hbw⟩ := hrel
    obtain ⟨f, hf⟩ : ∃ f, f + acc.length = 7 := ⟨7 - acc.length, by omega⟩
    have hp : path l 8 i = (match upS l k with
      | none => some [k]
      | some j => (path l f j).map (k :: ·)).map (acc ++ ·) := by
      rw [HP.out, show 8 - acc.length = f + 1 by omega]; rfl
    have HF := Lib.hid hf
    have HO := Lib.hid hown
    have HB := Lib.hid hbw
    have O1 := Lib.hid (show ∀ u ∈ [Value.int .i64 (k : Int)], u.oneCell' = true by intro u hu; simp at hu; subst hu; rfl)
    have B1 := Lib.hid (show acc.length + 1 ≤ maxLen by unfold maxLen; omega)
    have B2 := Lib.hid (show (acc.length + 1) * 8 ≤ 140737488355328 by omega)
    have B3 := Lib.hid (show w.heap.size ≤ (wr.alloc (.cells #[.int .i64 (k : Int)] 3)).heap.size by have := hbw.size; simp; omega)
    obtain ⟨p6, c6, rfl⟩ := lenOf hown
    clear hown hbw hf HP
    have HK := Lib.hid hk
    obtain ⟨o, ho⟩ : ∃ o, fnd l (gets l k).pr = o := ⟨_, rfl⟩
    have HFO := Lib.hid ho
    obtain ⟨q, hq⟩ : ∃ q, (gets l k).pr = q := ⟨_, rfl⟩
    have HQ := Lib.hid hq
    have hup : upS l k = if q = [] then none else o := by unfold upS; rw [← ho, hq]
    clear ho hq
    by_cases hq0 : q = []
    · rw [if_pos hq0] at hup
      rw [hup] at hp
      have HP := Lib.hid (show path l 8 i = some (acc ++ [k]) from hp)
      have tq : (bs q).toList = [] := by rw [bs_toList, hq0]
      clear hp hup hq0
      go_wp2_with (at_builtin; go_loud (refine wpList_append_own _ rfl _ _ 64 rfl w.heap.size 3 i0 (.int .i64 0) 1 8 Tryz.underlying64 hti hz0 hz1 hz2 rfl (by decide) _ _ _ rfl (HO.out.alloc _) ⟨wr.heap.size, 0, none⟩ 1 1 [.int .i64 (k : Int)] rfl rfl (cells_new1 _ _ _) O1.out B1.out B2.out B3.out ?_; intro v' w1 hown' hgrow _; have HO1 := Lib.hid hown'; have HB1 := Lib.hid ((HB.out.alloc HB.out.size _).grown hgrow B3.out (fun j hj => (HO.out.lt j hj).1)); have HS1 := Lib.hid (HS.out.below HB1.out); obtain ⟨pv, cv, rfl⟩ := lenOf hown'; obtain ⟨b, off, rfl, c0, c1, c2, c3, c4⟩ := HS1.out.cells HK.out; rw [HQ.out] at c1; have HFI := Lib.hid (find_pro l q _ w1 HS1.out); rw [show fnd l q = o by rw [← HQ.out]; exact HFO.out] at HFI; unfold fndV at HFI; clear hown' hgrow c0 c2 c3 c4))
      refine HFI.out.mono ?_
      rintro e w2 ⟨rfl, rfl⟩
      go_wp2_with fail
      try rw [Exit.noGoto_ret]
      go_ret2
      unfold ChainIs
      rw [HP.out]
      exact ⟨⟨_, rfl, by have h := HO1.out; simpa [natsV] using h⟩, HB1.out⟩
    · rw [if_neg hq0] at hup
      have tq := bs_toList q
      have ne : q.isEmpty = false := by cases q with | nil => exact absurd rfl hq0 | cons a r => rfl
      clear hq0
      rcases Option.eq_none_or_eq_some o with e | ⟨j, e⟩
      · rw [hup, e] at hp
        have to : o.isSome = false := by rw [e]; rfl
        clear e
        have HP := Lib.hid (show path l 8 i = some (acc ++ [k]) from hp)
        clear hp hup
        go_wp2_with (at_builtin; go_loud (refine wpList_append_own _ rfl _ _ 64 rfl w.heap.size 3 i0 (.int .i64 0) 1 8 Tryz.underlying64 hti hz0 hz1 hz2 rfl (by decide) _ _ _ rfl (HO.out.alloc _) ⟨wr.heap.size, 0, none⟩ 1 1 [.int .i64 (k : Int)] rfl rfl (cells_new1 _ _ _) O1.out B1.out B2.out B3.out ?_; intro v' w1 hown' hgrow _; have HO1 := Lib.hid hown'; have HB1 := Lib.hid ((HB.out.alloc HB.out.size _).grown hgrow B3.out (fun j hj => (HO.out.lt j hj).1)); have HS1 := Lib.hid (HS.out.below HB1.out); obtain ⟨pv, cv, rfl⟩ := lenOf hown'; obtain ⟨b, off, rfl, c0, c1, c2, c3, c4⟩ := HS1.out.cells HK.out; rw [HQ.out] at c1; have HFI := Lib.hid (find_pro l q _ w1 HS1.out); rw [show fnd l q = o by rw [← HQ.out]; exact HFO.out] at HFI; unfold fndV at HFI; clear hown' hgrow c0 c2 c3 c4))
        refine HFI.out.mono ?_
        rintro e w2 ⟨rfl, rfl⟩
        go_wp2_with fail
        try rw [Exit.noGoto_ret]
        go_ret2
        unfold ChainIs
        rw [HP.out]
        exact ⟨⟨_, rfl, by have h := HO1.out; simpa [natsV] using h⟩, HB1.out⟩
      · rw [hup, e] at hp
        have to : o.isSome = true := by rw [e]; rfl
        have HJ := Lib.hid (fnd_some (HFO.out.trans e)).1
        have HG := Lib.hid (show o.getD 0 = j by rw [e]; rfl)
        clear e
        by_cases h7 : acc.length = 7
        · have hf0 : f = 0 := by have := HF.out; omega
          subst hf0
          have HP := Lib.hid (show path l 8 i = none from hp)
          have t8 : ((acc.length : Int) + 1 == 8) = true := by simp; omega
          clear hp hup h7
          go_wp2_with (at_builtin; go_loud (refine wpList_append_own _ rfl _ _ 64 rfl w.heap.size 3 i0 (.int .i64 0) 1 8 Tryz.underlying64 hti hz0 hz1 hz2 rfl (by decide) _ _ _ rfl (HO.out.alloc _) ⟨wr.heap.size, 0, none⟩ 1 1 [.int .i64 (k : Int)] rfl rfl (cells_new1 _ _ _) O1.out B1.out B2.out B3.out ?_; intro v' w1 hown' hgrow _; have HO1 := Lib.hid hown'; have HB1 := Lib.hid ((HB.out.alloc HB.out.size _).grown hgrow B3.out (fun j hj => (HO.out.lt j hj).1)); have HS1 := Lib.hid (HS.out.below HB1.out); obtain ⟨pv, cv, rfl⟩ := lenOf hown'; obtain ⟨b, off, rfl, c0, c1, c2, c3, c4⟩ := HS1.out.cells HK.out; rw [HQ.out] at c1; have HFI := Lib.hid (find_pro l q _ w1 HS1.out); rw [show fnd l q = o by rw [← HQ.out]; exact HFO.out] at HFI; unfold fndV at HFI; clear hown' hgrow c0 c2 c3 c4))
          refine HFI.out.mono ?_
          rintro e w2 ⟨rfl, rfl⟩
          go_wp2_with fail
          try rw [Exit.noGoto_ret]
          go_ret2
          unfold ChainIs
          rw [HP.out]
          exact ⟨rfl, HB1.out⟩
        · have HP := Lib.hid hp
          have H7 := Lib.hid h7
          have t8 : ((acc.length : Int) + 1 == 8) = false := by simp; omega
          clear hp hup h7
          go_wp2_with (at_builtin; go_loud (refine wpList_append_own _ rfl _ _ 64 rfl w.heap.size 3 i0 (.int .i64 0) 1 8 Tryz.underlying64 hti hz0 hz1 hz2 rfl (by decide) _ _ _ rfl (HO.out.alloc _) ⟨wr.heap.size, 0, none⟩ 1 1 [.int .i64 (k : Int)] rfl rfl (cells_new1 _ _ _) O1.out B1.out B2.out B3.out ?_; intro v' w1 hown' hgrow _; have HO1 := Lib.hid hown'; have HB1 := Lib.hid ((HB.out.alloc HB.out.size _).grown hgrow B3.out (fun j hj => (HO.out.lt j hj).1)); have HS1 := Lib.hid (HS.out.below HB1.out); obtain ⟨pv, cv, rfl⟩ := lenOf hown'; obtain ⟨b, off, rfl, c0, c1, c2, c3, c4⟩ := HS1.out.cells HK.out; rw [HQ.out] at c1; have HFI := Lib.hid (find_pro l q _ w1 HS1.out); rw [show fnd l q = o by rw [← HQ.out]; exact HFO.out] at HFI; unfold fndV at HFI; clear hown' hgrow c0 c2 c3 c4))
          refine HFI.out.mono ?_
          rintro e w2 ⟨rfl, rfl⟩
          go_wp2_with fail
          go_roundw
          case rel =>
            have h7 := H7.out
            refine ⟨j, acc ++ [k], by rw [HG.out], HJ.out, by simp; omega, ?_, by have h := HO1.out; simpa [natsV] using h, HB1.out⟩
            have hf := HF.out
            show path l 8 i = _
            rw [HP.out, show 8 - (acc ++ [k]).length = f by simp; omega]
            simp only [Option.map_map]
            congr 1
            funext x
            simp
          case measure => have := H7.out; simp [slen]; omega
end Go.Proofs.YtceanagnkcejgaaGreatDoor
