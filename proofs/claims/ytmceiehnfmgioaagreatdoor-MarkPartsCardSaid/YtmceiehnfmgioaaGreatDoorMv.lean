/- moved of the law: tokens of which those from a line on stand some lines further. -/
import Derived.Test.YtmceiehnfmgioaaGreatDoorSm
namespace Go.Proofs.YtmceiehnfmgioaaGreatDoor
open Go.RowKit
set_option linter.unusedVariables false

def mvF (fr by' n : Nat) : Nat := if fr ≤ n then n + by' else n
theorem own_drewN' {w : World} {base : Nat} {e : TypeId} {size : Nat} {v : Value} {n : Nat} {xs : List Value} (h : w.ownsRow base e size v n xs) (k : Nat) : (w.drewN k).ownsRow base e size v n xs := h
theorem cells_at {w : World} {cs : Array Value} {t : TypeId} {b : Nat} (h : w.heap.size = b) : ∀ (j : Nat) (u : Value), cs.toList[j]? = some u → (w.alloc (.cells cs t)).cell? ((⟨b, 0, none⟩ : Addr).add j) = some u := by
  subst h
  intro j u hj
  exact cells_new w cs t j u (by simpa using hj)
/-- Where the loop over the tokens stands. -/
def MvI (l : List Tok) (fr by' : Nat) (w : World) (vo iv : Value) (wr : World) : Prop :=
  ∃ k : Nat, iv = .int .i64 k ∧ k ≤ l.length ∧ wr.ownsRow w.heap.size 40 5 vo k (tokRows ((l.take k).map (shT (mvF fr by')))) ∧ Below w.heap.size w wr

set_option maxRecDepth 100000 in
set_option maxHeartbeats 4000000 in
theorem moved_law (l : List Tok) (v : Value) (by' fr : Nat) (w : World) (ha : Toks w v l) (hl : l.length ≤ 540000000) (hln : ∀ t ∈ l, t.line + by' ≤ 4000000000) (hby : by' ≤ 4000000000) (hfr : fr ≤ 4000000000) :
    Calls Tryz.prog 24 #[v, .int .i64 by', .int .i64 fr] w fun e w' => ∃ v', e = .returned v' ∧ w'.ownsRow w.heap.size 40 5 v' l.length (tokRows (l.map (shT (mvF fr by')))) ∧ Below w.heap.size w w' := by
  obtain ⟨i0, hi0, hz0, hz1, hz2⟩ := info_parts infoTok
  obtain ⟨B1, ha⟩ := ha
  obtain ⟨pa, ca, rfl⟩ := lenOf' ha
  have HA := Lib.hid ha
  have HL := Lib.hid hl
  have HLN := Lib.hid hln
  clear ha hl hln
  go_enter Tryz.func24, Tryz.ntmps24
  go_wp2_with fail
  go_loopw [7, 8] (fun vo iv wr => MvI l fr by' w vo iv wr) (fun _ iv _ => l.length - (intOf iv).toNat)
  case atStart => exact ⟨0, rfl, Nat.zero_le _, World.ownsRow_nil _ _ _ _, Below.refl _ _⟩
  case round =>
    obtain ⟨k, rfl, hk, hout, hbr⟩ := hrel
    have HBR := Lib.hid hbr
    have HO := Lib.hid hout
    by_cases hlt : k < l.length
    · obtain ⟨t, ht⟩ : ∃ t, l[k]? = some t := ⟨_, List.getElem?_eq_getElem hlt⟩
      have hra := own_below HA.out hbr
      obtain ⟨g, cap, hv, hg, hgl⟩ := World.ownsRow.form hra (by omega)
      obtain ⟨rfl, -, rfl⟩ : pa = some ⟨g, 0, none⟩ ∧ l.length = l.length ∧ ca = cap := by
        injection hv with a b c
        exact ⟨a, rfl, c⟩
      obtain ⟨po, co, rfl⟩ := lenOf' hout
      obtain ⟨a0, a1, a2, a3, a4⟩ := tok_cells hra ht
      have hq := HLN.out t (List.mem_of_getElem? ht)
      have lt1 : (k : Int) < l.length := by omega
      have ZK := Lib.hid (show wrap64 ((k : Int) + 1) = (k : Int) + 1 from IntWalk.wrap64_in _ (by have := HL.out; omega))
      obtain ⟨zl, zl2⟩ : wrap64 ((t.line : Int) + by') = (t.line : Int) + by' ∧ 0 ≤ (t.line : Int) + by' := ⟨IntWalk.wrap64_in _ (by omega), by omega⟩
      have ZL := Lib.hid zl
      clear zl
      have L1 := Lib.hid (show k + 1 ≤ maxLen by have := HL.out; unfold maxLen; omega)
      have L2 := Lib.hid (show (k + 1) * 56 ≤ 140737488355328 by have := HL.out; omega)
      have HX := Lib.hid (show ∀ (wz : World) (b : Int) (vo' : Value) (u : Tok), b = (k : Int) + 1 → u = shT (mvF fr by') t → wz.ownsRow w.heap.size 40 5 vo' (k + 1) (tokRows ((l.take k).map (shT (mvF fr by'))) ++ tokRow u) → Below w.heap.size w wz → MvI l fr by' w vo' (.int .i64 b) wz by
        rintro wz b vo' u rfl rfl ho hz
        refine ⟨k + 1, rfl, hlt, ?_, hz⟩
        rw [List.take_add_one, ht, Option.toList_some, List.map_append, List.map_singleton, tokRows_snoc]
        exact ho)
      have HT := Lib.hid ht
      clear hbr hra hv hg hgl ht hq hout
      by_cases hf : fr ≤ t.line
      · have c1 : (fr : Int) ≤ t.line := by omega
        have HU := Lib.hid (show (⟨t.kind, t.name, t.text, t.line + by', t.col⟩ : Tok) = shT (mvF fr by') t by unfold shT mvF; rw [if_pos hf])
        have zl := ZL.out
        clear hf
        go_wp2_with (at_builtin; go_loud (refine wpList_append_own _ rfl _ _ 22 rfl w.heap.size 40 i0 (.agg #[.int .i64 0, .string .empty, .string .empty, .int .i64 0, .int .i64 0]) 5 56 Tryz.underlying22 hi0 hz0 hz1 hz2 rfl (by decide) _ _ _ rfl (own_below HO.out ((((Below.refl wr.heap.size wr).alloc (Nat.le_refl _) _).alloc (by simp) _))) ⟨wr.heap.size + 1, 0, none⟩ 1 1 (tokRow ⟨t.kind, t.name, t.text, t.line + by', t.col⟩) rfl rfl (cells_at (by simp)) (tokRow_one _) L1.out L2.out (by have := HBR.out.size; simp; omega) ?_); intro v' w2 hown' hgrow _)
        go_roundw
        case measure => (first | (rw [ZK.out]; simp only [intOf]; omega) | (simp only [intOf]; omega))
        case rel => exact HX.out _ _ _ _ (by first | exact ZK.out | rfl | omega) HU.out hown' (((HBR.out.alloc HBR.out.size _).alloc (by have := HBR.out.size; simp; omega) _).grown hgrow (by have := HBR.out.size; simp; omega) (fun k hk => (HO.out.lt k hk).1))
      · have c1 : ¬ (fr : Int) ≤ t.line := by omega
        have HU := Lib.hid (show (⟨t.kind, t.name, t.text, t.line, t.col⟩ : Tok) = shT (mvF fr by') t by unfold shT mvF; rw [if_neg hf])
        clear hf
        go_wp2_with (at_builtin; go_loud (refine wpList_append_own _ rfl _ _ 22 rfl w.heap.size 40 i0 (.agg #[.int .i64 0, .string .empty, .string .empty, .int .i64 0, .int .i64 0]) 5 56 Tryz.underlying22 hi0 hz0 hz1 hz2 rfl (by decide) _ _ _ rfl (own_below HO.out ((((Below.refl wr.heap.size wr).alloc (Nat.le_refl _) _).alloc (by simp) _))) ⟨wr.heap.size + 1, 0, none⟩ 1 1 (tokRow ⟨t.kind, t.name, t.text, t.line, t.col⟩) rfl rfl (cells_at (by simp)) (tokRow_one _) L1.out L2.out (by have := HBR.out.size; simp; omega) ?_); intro v' w2 hown' hgrow _)
        go_roundw
        case measure => (first | (rw [ZK.out]; simp only [intOf]; omega) | (simp only [intOf]; omega))
        case rel => exact HX.out _ _ _ _ (by first | exact ZK.out | rfl | omega) HU.out hown' (((HBR.out.alloc HBR.out.size _).alloc (by have := HBR.out.size; simp; omega) _).grown hgrow (by have := HBR.out.size; simp; omega) (fun k hk => (HO.out.lt k hk).1))
    · have nlt : ¬ (k : Int) < l.length := by omega
      obtain rfl : k = l.length := by omega
      rw [List.take_length] at hout
      have HF := Lib.hid hout
      clear hbr hout
      go_wp2_with fail
      go_ret
      exact ⟨_, rfl, HF.out, HBR.out⟩
end Go.Proofs.YtmceiehnfmgioaaGreatDoor
