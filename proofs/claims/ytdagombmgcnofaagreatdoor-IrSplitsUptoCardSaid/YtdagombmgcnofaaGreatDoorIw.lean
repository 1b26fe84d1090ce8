/- Layer 11: the law's first look, at the chapter's examples. -/
import Derived.Test.YtdagombmgcnofaaGreatDoorIv
import Derived.Test.YtdagombmgcnofaaGreatDoorIu
namespace Go.Proofs.YtdagombmgcnofaaGreatDoor.Ir
open Go.RowKit Go.Maps Go.Proofs.YtdagombmgcnofaaGreatDoor
set_option linter.unusedVariables false
set_option linter.unusedSimpArgs false
def sA : ByteArray := ⟨#[97, 32]⟩
def sGo : ByteArray := ⟨#[103, 111]⟩
def sHome : ByteArray := ⟨#[72, 111, 109, 101]⟩
def shome : ByteArray := ⟨#[104, 111, 109, 101]⟩
def sHOME : ByteArray := ⟨#[72, 79, 77, 69]⟩
def exDir : List Nd := [⟨sHome, shome, 0, 0, 0, 0⟩]
def exPs : List Pc := [⟨1, sA, ⟨#[]⟩, 0, 0⟩, ⟨3, ⟨#[]⟩, sHOME, 0, 0⟩, ⟨1, sGo, ⟨#[]⟩, 0, 0⟩, ⟨5, ⟨#[]⟩, ⟨#[]⟩, 0, 0⟩]
def exBl : List Bk := [⟨1, 0, ⟨#[]⟩, [], exPs, 0⟩]
def exOps : List Opr := [⟨8, -1, ByteArray.empty, []⟩, ⟨1, 0, sA, []⟩, ⟨3, 0, ByteArray.empty, []⟩, ⟨1, 0, sGo, []⟩, ⟨5, 0, ByteArray.empty, []⟩, ⟨9, 0, ByteArray.empty, []⟩]
theorem ex_low : lowerL S6.baseL exDir exBl = some exOps := by kernel_rfl
theorem ex_chk : chkM exOps 6 1 = (0, 0) := by kernel_rfl
theorem ex_done : chkM [⟨9, 0, ⟨#[]⟩, []⟩] 0 0 = (0, 110) := by kernel_rfl
theorem ex_text : (⟨(textL exOps).toArray⟩ : ByteArray) = ⟨#[97, 32, 103, 111]⟩ := by kernel_rfl
theorem ex_links : (linksL exOps).length = 1 := by kernel_rfl
def oNd : Obj := .cells #[.string ⟨#[72, 111, 109, 101]⟩, .string ⟨#[104, 111, 109, 101]⟩, .int .i64 0, .int .i64 0, .int .i64 0, .int .i64 0] 78
def oPs : Obj := .cells #[.int .i64 1, .string ⟨#[97, 32]⟩, .string ⟨#[]⟩, .int .i64 0, .int .i64 0, .int .i64 3, .string ⟨#[]⟩, .string ⟨#[72, 79, 77, 69]⟩, .int .i64 0, .int .i64 0, .int .i64 1, .string ⟨#[103, 111]⟩, .string ⟨#[]⟩, .int .i64 0, .int .i64 0, .int .i64 5, .string ⟨#[]⟩, .string ⟨#[]⟩, .int .i64 0, .int .i64 0] 109
def oBl (b : Nat) : Obj := .cells #[.int .i64 1, .int .i64 0, .string ⟨#[]⟩, .slice none 0 0, .slice (some ⟨b, 0, none⟩) 4 4, .int .i64 0] 112
theorem ex_nd (w : World) : RdRow 6 NdIs (w.alloc oNd) (.slice (some ⟨w.heap.size, 0, none⟩) 1 1) exDir := by
  have h := heap_alloc_new w oNd
  refine ⟨_, 1, rfl, Nat.le_refl _, by decide, fun j hj => ⟨w.heap.size, 0, rfl, ?_⟩⟩
  obtain rfl : j = 0 := by simp [exDir] at hj; exact hj
  refine ⟨?_, ?_, ?_, ?_, ?_, ?_⟩ <;> (rw [cell_of_row _ _ _ _ _ _ h]; rfl)
theorem ex_ps (w : World) : RdRow 5 InlIs (w.alloc oPs) (.slice (some ⟨w.heap.size, 0, none⟩) 4 4) exPs := by
  have h := heap_alloc_new w oPs
  refine ⟨_, 4, rfl, Nat.le_refl _, by decide, fun j hj => ⟨w.heap.size, 0, rfl, ?_⟩⟩
  have hj4 : j < 4 := hj
  rcases (show j = 0 ∨ j = 1 ∨ j = 2 ∨ j = 3 by omega) with rfl | rfl | rfl | rfl <;> (refine ⟨?_, ?_, ?_, ?_, ?_⟩ <;> (rw [cell_of_row _ _ _ _ _ _ h]; rfl))
theorem ex_bl (w : World) (b : Nat) (hp : RdRow 5 InlIs w (.slice (some ⟨b, 0, none⟩) 4 4) exPs) : RdRow 6 BkIs (w.alloc (oBl b)) (.slice (some ⟨w.heap.size, 0, none⟩) 1 1) exBl := by
  have h := heap_alloc_new w (oBl b)
  refine ⟨_, 1, rfl, Nat.le_refl _, by decide, fun j hj => ⟨w.heap.size, 0, rfl, ?_⟩⟩
  obtain rfl : j = 0 := by simp [exBl] at hj; exact hj
  refine ⟨?_, ?_, ?_, ⟨_, ?_, ⟨none, 0, rfl, Nat.le_refl _, Nat.zero_le _, fun i hi => absurd hi (Nat.not_lt_zero _)⟩⟩, ⟨_, ?_, RdRow.below (E := InlIs) (fun h hb => InlIs.below h hb) hp ((Below.refl _ w).alloc (Nat.le_refl _) _)⟩, ?_⟩ <;> (rw [cell_of_row _ _ _ _ _ _ h]; rfl)
set_option maxRecDepth 100000 in
set_option maxHeartbeats 8000000 in
theorem awake_law (w : World) (hT : Tabs w) : Calls Tryz.prog 9 #[] w (SaysL (.bool true) w) := by
  have HT := Lib.hid hT
  clear hT
  go_enter Tryz.func9, Tryz.ntmps9
  go_wp2_with fail
  refine (sheet0_pro _).mono ?_
  rintro e w1 ⟨v1, rfl, hsh, hb1⟩
  have HB1 := Lib.hid hb1
  have hb2 : Below w1.heap.size w1 (((w1.alloc oNd).alloc oPs).alloc (oBl (w1.heap.size + 1))) := (((Below.refl _ w1).alloc (Nat.le_refl _) _).alloc (by simp) _).alloc (by simp; omega) _
  have hps := ex_ps (w1.alloc oNd)
  rw [show (w1.alloc oNd).heap.size = w1.heap.size + 1 by simp] at hps
  have hbl := ex_bl ((w1.alloc oNd).alloc oPs) (w1.heap.size + 1) hps
  rw [show ((w1.alloc oNd).alloc oPs).heap.size = w1.heap.size + 1 + 1 by simp] at hbl
  have hnd := RdRow.below (E := NdIs) (fun h hb => NdIs.below h hb) (ex_nd w1) (((Below.refl _ (w1.alloc oNd)).alloc (Nat.le_refl _) oPs).alloc (by simp) (oBl (w1.heap.size + 1)))
  have hL := Lower_pro (((w1.alloc oNd).alloc oPs).alloc (oBl (w1.heap.size + 1))) v1 _ (.agg #[.int .i64 0, .string ⟨#[]⟩, .string ⟨#[]⟩, .int .i64 0, .slice none 0 0, .slice none 0 0, .slice (some ⟨w1.heap.size + 1 + 1, 0, none⟩) 1 1, .int .i64 0]) S6.baseL exDir exBl exOps 0
    ⟨hsh.below hb2, hnd, HT.out.below (HB1.out.trans (hb2.mono HB1.out.size)) (Nat.le_refl _)⟩ ⟨⟨0, ⟨#[]⟩, ⟨#[]⟩, 0, none, none, _, 0, 0, 0, 0, 1, 0, rfl, hbl⟩⟩ (by decide) (by decide) (by decide) ex_low
  have HL := Lib.hid hL
  have HB2 := Lib.hid (HB1.out.trans (hb2.mono HB1.out.size))
  obtain ⟨p1, c1, e1, _, _⟩ := hsh.form
  rw [show S6.baseL.length = 6 from rfl] at e1
  subst e1
  unfold oNd oPs oBl at HL HB2
  clear hsh hb1 hb2 hps hbl hnd hL
  go_wp2_with fail
  refine HL.out.mono ?_
  rintro e w2 ⟨v2, ps, rfl, ho, hps, hb⟩
  have HO := Lib.hid ho
  have HPS := Lib.hid hps
  have HB3 := Lib.hid (HB2.out.trans (hb.mono HB2.out.size))
  have h6 : ps.length = 6 := by have := congrArg List.length hps; simpa [exOps] using this
  have hrd := ho.rd
  rw [hps] at hrd
  obtain ⟨g, cg, hv2, _, hgl, _, _, d0, d1, _, _⟩ := row_cells ho.row (j := 0) (by omega)
  obtain ⟨g', cg', hv2', _, _, _, _, d8, _, _, _⟩ := row_cells ho.row (j := 2) (by omega)
  rw [h6] at hv2 hv2'
  subst hv2
  cases hv2'
  have k0 : ps[0].1 = ⟨8, -1, ByteArray.empty, []⟩ := by
    have h9 : (ps.map (·.1))[0]? = some ⟨8, -1, ByteArray.empty, []⟩ := by rw [hps]; rfl
    rw [List.getElem?_map, List.getElem?_eq_getElem (by omega)] at h9
    exact Option.some.inj h9
  have k2 : ps[2].1 = ⟨3, 0, ByteArray.empty, []⟩ := by
    have h9 : (ps.map (·.1))[2]? = some ⟨3, 0, ByteArray.empty, []⟩ := by rw [hps]; rfl
    rw [List.getElem?_map, List.getElem?_eq_getElem (by omega)] at h9
    exact Option.some.inj h9
  rw [k0] at d0 d1
  rw [k2] at d8
  dsimp only at d0 d1 d8
  rw [Nat.zero_mul] at d0 d1
  rw [Nat.zero_add] at d1
  have HRD := Lib.hid hrd
  have HGL := Lib.hid hgl
  have HT2 := Lib.hid (HT.out.below HB3.out (Nat.le_refl _))
  have HC1 := Lib.hid (show Calls Tryz.prog 18 #[.slice (some ⟨g, 0, none⟩) 6 cg, .int .i64 6, .int .i64 1] w2 (SaysL (.tuple #[.int .i64 0, .int .i64 0]) w2) by
    have h9 := check_pro exOps _ 6 1 w2 hrd (by unfold sizeOk; decide +kernel) HT2.out
    rw [ex_chk] at h9
    exact h9)
  clear ho hps hb hrd hgl
  go_wp2_with fail
  refine HC1.out.mono ?_
  rintro e w3 ⟨rfl, hb⟩
  have HB4 := Lib.hid (HB3.out.trans (hb.mono HB3.out.size))
  have HRD3 := Lib.hid (HRD.out.below hb)
  have hA9 : Below w3.heap.size w3 (w3.alloc (.cells #[.int .i64 9, .int .i64 0, .string ⟨#[]⟩, .slice none 0 0] 81)) := (Below.refl _ _).alloc (Nat.le_refl _) _
  have HA9 := Lib.hid hA9
  have HB5 := Lib.hid (HB4.out.trans (hA9.mono HB4.out.size))
  have h9 : RdO (fun _ => True) (w3.alloc (.cells #[.int .i64 9, .int .i64 0, .string ⟨#[]⟩, .slice none 0 0] 81)) (.slice (some ⟨w3.heap.size, 0, none⟩) 1 1) [⟨9, 0, ⟨#[]⟩, []⟩] := by
    have h := heap_alloc_new w3 (.cells #[.int .i64 9, .int .i64 0, .string ⟨#[]⟩, .slice none 0 0] 81)
    refine ⟨_, 1, rfl, Nat.le_refl _, by decide, fun j hj => ⟨w3.heap.size, 0, rfl, trivial, ?_⟩⟩
    obtain rfl : j = 0 := by simpa using hj
    refine ⟨?_, ?_, ?_, _, ?_, ⟨none, 0, rfl, Nat.le_refl _, Nat.zero_le _, fun i hi => absurd hi (Nat.not_lt_zero _)⟩⟩ <;> (rw [cell_of_row _ _ _ _ _ _ h]; rfl)
  have HC2 := Lib.hid (show Calls Tryz.prog 18 #[.slice (some ⟨w3.heap.size, 0, none⟩) 1 1, .int .i64 0, .int .i64 0] (w3.alloc (.cells #[.int .i64 9, .int .i64 0, .string ⟨#[]⟩, .slice none 0 0] 81)) (SaysL (.tuple #[.int .i64 0, .int .i64 110]) _) by
    have h8 := check_pro _ _ 0 0 _ h9 (by unfold sizeOk; decide +kernel) (HT.out.below HB5.out (Nat.le_refl _))
    rw [ex_done] at h8
    exact h8)
  clear hb hA9 h9
  go_wp2_with fail
  refine HC2.out.mono ?_
  rintro e w4 ⟨rfl, hb⟩
  have HB6 := Lib.hid (HB5.out.trans (hb.mono HB5.out.size))
  have HRD4 := Lib.hid ((HRD3.out.below HA9.out).below hb)
  have HTx := Lib.hid (show Calls Tryz.prog 31 #[.slice (some ⟨g, 0, none⟩) 6 cg] w4 (SaysL (.string ⟨#[97, 32, 103, 111]⟩) w4) by
    have h8 := text_pro exOps _ w4 HRD4.out (by decide +kernel)
    rw [ex_text] at h8
    exact h8)
  clear hb
  go_wp2_with fail
  refine HTx.out.mono ?_
  rintro e w5 ⟨rfl, hb⟩
  have HB7 := Lib.hid (HB6.out.trans (hb.mono HB6.out.size))
  have HLk := Lib.hid (links_pro exOps _ w5 (HRD4.out.below hb) (by decide) (by decide +kernel))
  clear hb
  go_wp2_with fail
  refine HLk.out.mono ?_
  rintro e w6 ⟨v6, ps6, rfl, ho6, hps6, hb⟩
  have HB8 := Lib.hid (HB7.out.trans (hb.mono HB7.out.size))
  have h1 : ps6.length = 1 := by have := congrArg List.length hps6; rw [List.length_map, ex_links] at this; exact this
  obtain ⟨p6, c6, rfl⟩ := lenL ho6.row
  rw [h1]
  clear ho6 hps6 hb h1
  go_wp2_with fail
  go_ret
  exact ⟨rfl, HB8.out⟩
end Go.Proofs.YtdagombmgcnofaaGreatDoor.Ir
