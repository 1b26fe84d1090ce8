/- A fault is placed. -/
import Derived.Test.YtmceiehnfmgioaaGreatDoorLxe
namespace Go.Proofs.YtmceiehnfmgioaaGreatDoor
open Go.RowKit
set_option linter.unusedVariables false

theorem field_line (a b c d : Int) (e : ByteArray) (w : World) : (Instr.field 55 (.agg #[.int .i64 a, .int .i64 b, .int .i64 c, .int .i64 d, .string e, .slice none 0 0]) 2).run Tryz.prog w = .ok (.int .i64 c) w := by kernel_rfl
def atLine (f : Flt) (n : Int) : Flt := { f with line := if 0 < f.line then f.line else n }
set_option maxRecDepth 100000 in
set_option maxHeartbeats 4000000 in
theorem placed_pro (f : Flt) (ge : Nat) (n : Int) (w : World) (he : Erd w ge f) (hT : Tabs w) :
    Calls Tryz.prog 47 #[errAt ge, .int .i64 n] w fun e w' => ∃ g', e = .returned (errAt g') ∧ Erd w' g' (atLine f n) ∧ Below w.heap.size w w' := by
  have HE := Lib.hid he
  have HT := Lib.hid hT
  obtain ⟨G, hG⟩ : ∃ G, w.heap.size = G := ⟨_, rfl⟩
  have HA := Lib.hid (as_pro ge G w hG hT)
  have HG := Lib.hid hG
  have HNZ := Lib.hid he.2
  clear he hT
  unfold errAt at HA ⊢
  by_cases hl : 0 < f.line
  · have HF := Lib.hid (show atLine f n = f by unfold atLine; rw [if_pos hl])
    go_enter Tryz.func47, Tryz.ntmps47
    go_wp2_with fail
    refine HA.out.mono ?_
    rintro e w1 ⟨rfl, hc, hb, hz⟩
    have HE1 := Lib.hid (show Erd w1 ge f from HE.out.below (by rw [HG.out]; exact hb))
    have HB1 := Lib.hid hb
    have HZ1 := Lib.hid hz
    clear hb hz
    go_wp2_with fail
    refine (fault_pro f ge w1 HE1.out).mono ?_
    rintro e w2 ⟨rfl, hb2⟩
    have HB2 := Lib.hid (HB1.out.trans (hb2.mono (Nat.le_of_lt HZ1.out)))
    have HE2 := Lib.hid (HE1.out.below hb2)
    clear hb2 hc
    unfold Flt.val
    have hfl := field_line f.code f.source f.line f.col f.word w2
    go_wp2_with fail
    go_ret
    exact ⟨ge, rfl, by rw [HF.out]; exact HE2.out, by rw [HG.out]; exact HB2.out⟩
  · have HF := Lib.hid (show atLine f n = { f with line := n } by unfold atLine; rw [if_neg hl])
    go_enter Tryz.func47, Tryz.ntmps47
    go_wp2_with fail
    refine HA.out.mono ?_
    rintro e w1 ⟨rfl, hc, hb, hz⟩
    have HE1 := Lib.hid (show Erd w1 ge f from HE.out.below (by rw [HG.out]; exact hb))
    have HB1 := Lib.hid hb
    have HZ1 := Lib.hid hz
    clear hb hz
    go_wp2_with fail
    refine (fault_pro f ge w1 HE1.out).mono ?_
    rintro e w2 ⟨rfl, hb2⟩
    have HB2 := Lib.hid (HB1.out.trans (hb2.mono (Nat.le_of_lt HZ1.out)))
    have HE2 := Lib.hid (HE1.out.below hb2)
    have HS2 := Lib.hid (Nat.le_trans (Nat.le_of_lt HZ1.out) hb2.size)
    have hc2 := (hb2.cell (p := ⟨G, 0, none⟩) HZ1.out).trans hc
    clear hb2 hc
    unfold Flt.val
    have hfl := field_line f.code f.source f.line f.col f.word w2
    go_wp2_with fail
    clear hfl
    refine (fault_pro f ge w2 HE2.out).mono ?_
    rintro e w3 ⟨rfl, hb3⟩
    have HB3 := Lib.hid (HB2.out.trans (hb3.mono HS2.out))
    have HS3 := Lib.hid (Nat.le_trans HS2.out hb3.size)
    clear hb3 hc2
    unfold Flt.val
    go_wp2_with fail
    have hB4 := HB3.out.alloc HS3.out (.cells #[.int .i64 f.code, .int .i64 f.source, .int .i64 f.line, .int .i64 f.col, .string f.word, .slice none 0 0] 55)
    obtain ⟨W4, eW4⟩ : ∃ W4, w3.alloc (.cells #[.int .i64 f.code, .int .i64 f.source, .int .i64 f.line, .int .i64 f.col, .string f.word, .slice none 0 0] 55) = W4 := ⟨_, rfl⟩
    rw [eW4] at hB4 ⊢
    have HB4 := Lib.hid hB4
    have HS4 := Lib.hid (show G ≤ W4.heap.size by rw [← eW4, World.size_alloc]; have := HS3.out; omega)
    clear hB4 eW4
    refine (new_pro { f with line := n } W4 HNZ.out).mono ?_
    rintro e w5 ⟨rfl, hE5, hb5⟩
    have HE5 := Lib.hid hE5
    have HB5 := Lib.hid (HB4.out.trans (hb5.mono HS4.out))
    clear hE5 hb5
    go_wp2_with fail
    go_ret
    exact ⟨_, rfl, by rw [HF.out]; exact HE5.out, by rw [HG.out]; exact HB5.out⟩
end Go.Proofs.YtmceiehnfmgioaaGreatDoor
