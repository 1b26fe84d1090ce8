/- The texts that the laws of layout stand on, part 28. -/
import Derived.Test.YtjohhahfpgfjdaaGreatDoorK27
section
namespace Go.Proofs.YtjohhahfpgfjdaaGreatDoor.Tb
open Go.RowKit Go.Maps
set_option linter.unusedVariables false
set_option linter.unusedSimpArgs false
def ptK (y : Ly) (s : ByteArray) (k : Nat) : Ly := { y with fl := y.fl ++ ((cells s).take k).map (celG y s) }
theorem ptK_zero (y : Ly) (s : ByteArray) : ptK y s 0 = y := by cases y; simp [ptK]
theorem ptK_succ (y : Ly) (s : ByteArray) {k : Nat} (h : k < (cells s).length) : putY (ptK y s k) (s.extract (cells s)[k].1 (cells s)[k].2.1) (cells s)[k].2.2 = ptK y s (k + 1) := by
  unfold ptK putY
  rw [List.take_succ_eq_append_getElem h, List.map_append, ← List.append_assoc]
  rfl
theorem ptK_all (y : Ly) (s : ByteArray) : ptK y s (cells s).length = textY y s := by unfold ptK textY; rw [List.take_length]
theorem ptK_len (y : Ly) (s : ByteArray) (k : Nat) : (ptK y s k).fl.length ≤ y.fl.length + (cells s).length := by simp [ptK]; omega
set_option maxRecDepth 100000 in
set_option maxHeartbeats 4000000 in
theorem putText_pro {B M : Nat} {K : Nat → Prop} {wd : Int} {ch : List S6.Chg} {y : Ly} (s : ByteArray) (w : World) (h : LyI true B M K wd ch y w) (h0 : 0 < y.lo.length) (hn : y.fl.length + s.size ≤ 900000) :
    Calls Tryz.prog 57 #[.pointer (some ⟨M, 0, none⟩), .string s] w (LyPost true B M K wd ch (textY y s) (.tuple #[]) w) := by
  have HH := Lib.hid h
  have H0 := Lib.hid h0
  have HCL := Lib.hid (fun W => cells_pro s W (by omega))
  have hcl := cells_len s
  have HNL := Lib.hid (show y.fl.length + (cells s).length ≤ 900000 by omega)
  obtain ⟨n, hnn⟩ : ∃ n, (cells s).length = n := ⟨_, rfl⟩
  have HN := Lib.hid hnn
  have n9 : n ≤ 900000 := by omega
  rw [hnn] at HCL
  clear h h0 hn hcl hnn
  go_enter Tryz.func57, Tryz.ntmps57
  go_wp2_with fail
  refine (HCL.out _).mono ?_
  rintro e w1 ⟨v, rfl, ho, hb⟩
  obtain ⟨pv, cv, rfl⟩ := lenL ho
  have HO := Lib.hid ho
  have HB := Lib.hid hb
  have HG := Lib.hid (HH.out.grow hb)
  clear ho hb
  go_wp2_with fail
  go_loopw [9] (fun i wr => ∃ (k : Nat), i = .int .i64 k ∧ k ≤ n ∧ Hid (LyI true B M (fun b => K b ∨ (w.heap.size ≤ b ∧ b < w1.heap.size)) wd ch (ptK y s k) wr) ∧ Hid (Kp (fun b => K b ∨ (w.heap.size ≤ b ∧ b < w1.heap.size)) w1 wr)) (fun i _ => n - (intOf i).toNat)
  case atStart => exact ⟨0, rfl, Nat.zero_le _, Lib.hid (by rw [ptK_zero]; exact HG.out), Lib.hid (Kp.refl _ _)⟩
  case round =>
    obtain ⟨k, rfl, hk, HL, HK⟩ := hrel
    by_cases hlt : k < n
    · have hkl : k < (cells s).length := by rw [HN.out]; exact hlt
      have HLT := Lib.hid hlt
      have k1 : (k : Int) < n := by omega
      have HSC := Lib.hid (ptK_succ y s hkl)
      have hg := celsV_get s (cells s) k _ (List.getElem?_eq_getElem hkl)
      obtain ⟨cc, hcc⟩ : ∃ cc, (cells s)[k] = cc := ⟨_, rfl⟩
      rw [hcc] at hg HSC
      rcases HO.out.2 with ⟨e1, e2⟩ | ⟨g, cap, cur, e1, hgb, hgk, hz1, hz2, hz3, hz4⟩
      · omega
      · cases e1
        have hgl := (Array.getElem?_eq_some_iff.1 hgk).1
        have hkeep := HK.out.block g (.inr ⟨hgb, hgl⟩)
        have cc0 : ∀ j u, (celsV s (cells s))[j]? = some u → j < n * 3 → wr.cell? ⟨g, j, none⟩ = some u := fun j u hu hj => by
          rw [World.cell?_of_block hkeep, World.ownsRow.cellAt HO.out j (by omega)]
          exact hu
        have d0 := cc0 _ _ hg.1 (by omega)
        have d1 := cc0 _ _ hg.2.1 (by omega)
        have d2 := cc0 _ _ hg.2.2 (by omega)
        obtain ⟨t, ht⟩ : ∃ t, s.extract cc.1 cc.2.1 = t := ⟨_, rfl⟩
        obtain ⟨z, hz⟩ : ∃ z, cc.2.2 = z := ⟨_, rfl⟩
        obtain ⟨a, ha⟩ : ∃ a : Nat, cc.1 = a := ⟨_, rfl⟩
        rw [ht] at d0 HSC
        rw [hz] at d2 HSC
        rw [ha] at d1
        have hA := below_box wr (.cells #[.string t, .int .i64 (a : Int), .int .i64 z] 161)
        have HP := Lib.hid (lput_pro t z _ (HL.out.below hA) H0.out (by have := ptK_len y s k; have := HNL.out; omega))
        have HKA := Lib.hid (HK.out.alloc (fun b hb => HL.out.lt b hb) (.cells #[.string t, .int .i64 (a : Int), .int .i64 z] 161))
        clear hA hkeep hgk hcc hg cc0 ht hz ha hlt hkl hz1 hz2 hz3 hz4
        go_wp2_with fail
        refine HP.out.mono ?_
        rintro e w2 ⟨rfl, h3, hk3⟩
        have H3 := Lib.hid h3
        have HK3 := Lib.hid (HKA.out.trans hk3)
        rw [HSC.out] at H3
        clear h3 hk3
        go_wp2_with fail
        go_roundw
        case measure => have := HLT.out; simp [intOf]; omega
        case rel => exact ⟨k + 1, by go_num, HLT.out, H3, HK3⟩
    · obtain rfl : k = n := by omega
      have hzk : ¬ (k : Int) < k := by omega
      have HE := Lib.hid (show LyI true B M (fun b => K b ∨ (w.heap.size ≤ b ∧ b < w1.heap.size)) wd ch (textY y s) wr by rw [← ptK_all, HN.out]; exact HL.out)
      clear hlt
      go_wp2_with fail
      first | go_end0 | refine bodyPost_ret (results_none rfl _ _ _) rfl ?_
      exact ⟨rfl, HE.out.less fun b hb => .inl hb, (Kp.of HB.out (fun b hb => HH.out.lt b hb)).trans (HK.out.mono fun b hb => .inl hb)⟩
end Go.Proofs.YtjohhahfpgfjdaaGreatDoor.Tb
end
