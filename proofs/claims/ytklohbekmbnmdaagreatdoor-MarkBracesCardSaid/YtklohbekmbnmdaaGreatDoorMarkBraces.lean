/- What is proved: MarkBraces holds of every text: in what Lex tells braces are balanced in each paragraph, at most sixteen are open, bars stand within braces, and runs have no blank too many; where it tells an error there is no token. Its condition: none but the statement's own. -/
import Derived.Test.YtklohbekmbnmdaaGreatDoorBr
import Derived.Test.YtklohbekmbnmdaaGreatDoorMawk
import Derived.Test.YtklohbekmbnmdaaGreatDoorPost
import Derived.Test.YtklohbekmbnmdaaGreatDoorMLft
import Derived.Test.YtklohbekmbnmdaaGreatDoorCards
import Derived.Test.YtklohbekmbnmdaaGreatDoorTie
import Derived.ProofKit
import Derived.OpenShut
import Derived.Deep.DeepHandedRow
import Derived.BigQuiet
import Derived.Deep.QuietTactic
import Derived.Deep.CutRange
import Derived.Deep.Cut
namespace Go.Proofs.YtklohbekmbnmdaaGreatDoor.markBraces
open Go.ChangeShapes Go.WideShapes Go.ChangeAt Go.RowKit
open Go.ChangeMaps (open_string shut_string)
set_option linter.unusedVariables false

theorem of_bs (s : ByteArray) : ∃ l, s = bs l ∧ l.length = s.size := ⟨s.data.toList, by unfold bs; apply ByteArray.ext; simp, by rw [Array.length_toList]; rfl⟩
theorem stepB_cases {d p d' p' : Nat} {sp sp' : Bool} {t : Tok} (h : stepB (d, p, sp) t = some (d', p', sp')) : p' = t.kind ∧ (((t.kind = 1 ∨ t.kind = 2) ∧ d = 0 ∧ d' = 0) ∨ (t.kind = 3 ∧ d + 1 ≤ 16 ∧ d' = d + 1) ∨ (t.kind = 4 ∧ d ≠ 0 ∧ d' = d) ∨ (t.kind = 5 ∧ 1 ≤ d ∧ d' = d - 1) ∨
    (t.kind = 6 ∧ t.text ≠ [] ∧ noDbl t.text = true ∧ (isFirst p = true → t.text.head? ≠ some 32) ∧ p ≠ 6 ∧ d' = d ∧ sp' = (t.text.getLast? == some 32))) := by
  unfold stepB at h
  by_cases c1 : t.kind = 1 ∨ t.kind = 2
  · rw [if_pos c1] at h
    by_cases c : (d, p, sp).1 = 0 ∧ (d, p, sp).2.2 = false
    · rw [if_pos c] at h; injection h with h; injection h with h1 h2; injection h2 with h2 h3
      exact ⟨h2.symm, .inl ⟨c1, c.1, h1.symm⟩⟩
    · rw [if_neg c] at h; cases h
  rw [if_neg c1] at h
  by_cases c2 : t.kind = 3
  · rw [if_pos c2] at h
    by_cases c : (d, p, sp).1 + 1 ≤ 16
    · rw [if_pos c] at h; injection h with h; injection h with h1 h2; injection h2 with h2 h3
      exact ⟨h2.symm.trans c2.symm, .inr (.inl ⟨c2, c, h1.symm⟩)⟩
    · rw [if_neg c] at h; cases h
  rw [if_neg c2] at h
  by_cases c3 : t.kind = 4
  · rw [if_pos c3] at h
    by_cases c : (d, p, sp).1 ≠ 0
    · rw [if_pos c] at h; injection h with h; injection h with h1 h2; injection h2 with h2 h3
      exact ⟨h2.symm.trans c3.symm, .inr (.inr (.inl ⟨c3, c, h1.symm⟩))⟩
    · rw [if_neg c] at h; cases h
  rw [if_neg c3] at h
  by_cases c4 : t.kind = 5
  · rw [if_pos c4] at h
    by_cases c : 1 ≤ (d, p, sp).1
    · rw [if_pos c] at h; injection h with h; injection h with h1 h2; injection h2 with h2 h3
      exact ⟨h2.symm.trans c4.symm, .inr (.inr (.inr (.inl ⟨c4, c, h1.symm⟩)))⟩
    · rw [if_neg c] at h; cases h
  rw [if_neg c4] at h
  by_cases c5 : t.kind = 6
  · rw [if_pos c5] at h
    by_cases c : t.text ≠ [] ∧ noDbl t.text = true ∧ (isFirst (d, p, sp).2.1 = true → t.text.head? ≠ some 32) ∧ (d, p, sp).2.1 ≠ 6
    · rw [if_pos c] at h; injection h with h; injection h with h1 h2; injection h2 with h2 h3
      exact ⟨h2.symm.trans c5.symm, .inr (.inr (.inr (.inr ⟨c5, c.1, c.2.1, c.2.2.1, c.2.2.2, h1.symm, h3.symm⟩)))⟩
    · rw [if_neg c] at h; cases h
  · rw [if_neg c5] at h; cases h
theorem drewN_b (w : World) (n : Nat) : Below w.heap.size w (w.drewN n) := ⟨rfl, rfl, rfl, Nat.le_refl _, fun _ _ => rfl⟩
theorem u8_ne {c : UInt8} (h : c ≠ 32) : ((c.toNat : Int) == 32) = false := by
  rw [beq_eq_false_iff_ne]
  intro e
  exact h (UInt8.toNat_inj.1 (show c.toNat = (32 : UInt8).toNat from by show c.toNat = 32; omega))
theorem lineM_short {n : Nat} {l : List UInt8} {m m' : Mk} (he : lineM n l m = .ok m') : l.length ≤ 4096 := by
  unfold lineM at he
  by_cases c1 : 4096 < l.length
  · rw [if_pos c1] at he; cases he
  · omega
theorem linesM_len : ∀ (ls : List (List UInt8)) (n : Nat) (m m' : Mk), linesM ls n m = .ok m' → m'.out.length ≤ m.out.length + m.run.length + 8193 * ls.length
  | [], n, m, m', he => by
    have he' : m.endPara = .ok m' := he
    unfold Mk.endPara at he'
    cases hq : m.opn.getLast? with
    | some t => rw [hq] at he'; cases he'
    | none =>
      rw [hq] at he'
      cases he'
      show m.endRun.out.length ≤ _
      unfold Mk.endRun
      split
      · omega
      · rename_i h0
        have : 0 < m.run.length := List.length_pos_iff.2 h0
        simp; omega
  | l :: r, n, m, m', he => by
    unfold linesM at he
    cases hl : lineM n l m with
    | error e => rw [hl] at he; cases he
    | ok m1 =>
      rw [hl] at he
      have h1 := linesM_len r _ m1 m' he
      have h2 := lineM_cost hl
      have h3 := lineM_short hl
      simp only [List.length_cons]
      omega
theorem lexM_len {l : List UInt8} {ts : List Tok} (h : lexM l = .ok ts) : ts.length ≤ 540000000 := by
  unfold lexM at h
  by_cases c : 65536 < l.length
  · rw [if_pos c] at h; cases h
  rw [if_neg c] at h
  cases hq : linesM (lines l) 1 Mk.zero with
  | error e => rw [hq] at h; cases h
  | ok m =>
    rw [hq] at h; cases h
    have h1 := linesM_len _ _ _ _ hq
    have h2 := linesF_len l.length l
    have h4 : (lines l).length ≤ 65536 := by unfold lines; omega
    have h6 : m.out.length ≤ 8193 * (lines l).length := by simpa [Mk.zero] using h1
    show m.out.length ≤ _
    omega
set_option maxRecDepth 100000 in
set_option maxHeartbeats 4000000 in
theorem walk (s : ByteArray) (W : World) {Q : Prop} (hQ : Q) (hT : Tabs W) :
    Calls Tryz.prog 6 #[.string s] W fun e W' => e = .returned (.bool true) ∧ Below W.heap.size W W' := by
  obtain ⟨l, rfl, hl⟩ := of_bs s
  have HA := Lib.hid (awake_law W hT)
  have HT := Lib.hid hT
  clear hT hl hQ
  go_enter Tryz.func6, Tryz.ntmps6
  go_wp2_with fail
  refine HA.out.mono ?_
  rintro e w1 ⟨rfl, hb⟩
  have HB := Lib.hid hb
  have HT1 := Lib.hid (HT.out.at hb)
  clear hb
  go_wp2_with fail
  refine (lex_pro l w1 HT1.out).mono ?_
  unfold LexPost
  cases hr : lexM l with
  | error x =>
    rintro e w2 ⟨ge, rfl, he, hx, hb⟩
    have HB2 := Lib.hid (HB.out.trans (hb.mono HB.out.size))
    clear he hx hb hr
    unfold errAt
    go_wp2_with fail
    go_ret
    exact ⟨rfl, HB2.out⟩
  | ok ts =>
    rintro e w2 ⟨v, rfl, ht, hb⟩
    have HB2 := Lib.hid (HB.out.trans (hb.mono HB.out.size))
    have HT2 := Lib.hid (HT1.out.at hb)
    obtain ⟨B, ho⟩ := ht
    obtain ⟨pv, cv, rfl⟩ := lenOf ho
    have HO := Lib.hid ho
    have HRB := Lib.hid (lexM_br hr)
    have HW := Lib.hid (lexM_wt hr)
    have HN := Lib.hid (lexM_len hr)
    clear hb hr ho
    go_wp2_with fail
    go_loopw [5, 6, 7, 8] (fun dv iv _ _ wr => ∃ (k d p : Nat) (sp : Bool), dv = .int .i64 d ∧ iv = .int .i64 k ∧ k ≤ ts.length ∧ (∃ q, runB (ts.drop k) (d, p, sp) = some (0, q, false)) ∧ d ≤ 16 ∧ (k = 0 → p = 0) ∧ (∀ j, k = j + 1 → ∃ t, ts[j]? = some t ∧ t.kind = p ∧ p ≠ 0) ∧ Below w2.heap.size w2 wr) (fun _ iv _ _ _ => ts.length - (intOf iv).toNat)
    case atStart => exact ⟨0, 0, 0, false, rfl, rfl, Nat.zero_le _, HRB.out, Nat.zero_le _, fun _ => rfl, fun j hj => (by cases hj), Below.refl _ _⟩
    case round =>
      obtain ⟨k, d, p, sp, rfl, rfl, hk, ⟨q, hq⟩, hd, hp0, hp1, hbr⟩ := hrel
      by_cases hlt : k < ts.length
      · obtain ⟨t, ht⟩ : ∃ t, ts[k]? = some t := ⟨_, List.getElem?_eq_getElem hlt⟩
        obtain ⟨⟨d', p', sp'⟩, hs, hq'⟩ := runB_at ht hq
        have HS := Lib.hid hs
        have HQ := Lib.hid hq'
        have HB3 := Lib.hid hbr
        have hor := own_below HO.out hbr
        obtain ⟨g, cap, hv, hg, hgl⟩ := World.ownsRow.form hor (by omega)
        obtain ⟨rfl, -, rfl⟩ : pv = some ⟨g, 0, none⟩ ∧ ts.length = ts.length ∧ cv = cap := by
          injection hv with a b c
          exact ⟨a, rfl, c⟩
        have c0 : wr.cell? ⟨g, k * 5, none⟩ = some (.int .i64 t.kind) := (World.ownsRow.cellAt hor (k * 5) (by omega)).trans ((tokRows_get ht 0 (by omega)).trans rfl)
        have c2 : wr.cell? ⟨g, k * 5 + 2, none⟩ = some (.string (bs t.text)) := (World.ownsRow.cellAt hor (k * 5 + 2) (by omega)).trans ((tokRows_get ht 2 (by omega)).trans rfl)
        have HC : ∀ j t', ts[j]? = some t' → wr.cell? ⟨g, j * 5, none⟩ = some (.int .i64 t'.kind) := fun j t' h => by
          have hj : j < ts.length := by
            by_cases hj : j < ts.length
            · exact hj
            · rw [List.getElem?_eq_none (by omega)] at h; cases h
          exact (World.ownsRow.cellAt hor (j * 5) (by omega)).trans ((tokRows_get h 0 (by omega)).trans rfl)
        have HCC := Lib.hid HC
        have HP0 := Lib.hid hp0
        have HP1 := Lib.hid hp1
        have HHT := Lib.hid ht
        have lt1 : (k : Int) < ts.length := by omega
        clear hs hq hq' hbr hor hv hg hgl HC hp0 hp1 ht
        go_upto_region 10 with fail
        go_cut [7] from 21 to 157 (fun f wx => f = .bool (isFirst p) ∧ wx = wr)
        case first =>
          as_aux_lemma =>
            by_cases hk0 : k = 0
            · have z0 : ((k : Int) == 0) = true := by rw [hk0]; rfl
              have hp := HP0.out hk0
              subst hk0
              subst hp
              go_wp2_with fail
              go_meet
              case rel => exact ⟨rfl, rfl⟩
            · obtain ⟨j, hj⟩ : ∃ j, k = j + 1 := ⟨k - 1, by omega⟩
              obtain ⟨tj, htj, hpj, hp1⟩ := HP1.out j hj
              have cj := HCC.out j tj htj
              rw [hpj] at cj
              have z0 : ((k : Int) == 0) = false := by rw [beq_eq_false_iff_ne]; omega
              have z1 : wrap64 ((k : Int) - 1) = (j : Int) := by
                rw [IntWalk.wrap64_in _ (by have := HN.out; omega)]; omega
              have z2 : (j : Int) < ts.length := by omega
              clear hj htj hpj hk0
              by_cases q2 : p = 2
              · subst q2
                go_wp2_with fail
                go_meet
                case rel => exact ⟨rfl, rfl⟩
              · have t2 : ((p : Int) == 2) = false := by rw [beq_eq_false_iff_ne]; omega
                by_cases q1 : p = 1
                · subst q1
                  go_wp2_with fail
                  go_meet
                  case rel => exact ⟨rfl, rfl⟩
                · have t1 : ((p : Int) == 1) = false := by rw [beq_eq_false_iff_ne]; omega
                  have HF := Lib.hid (show isFirst p = false by simp [isFirst, q1, q2, hp1])
                  clear q1 q2 hp1
                  go_wp2_with fail
                  go_meet
                  case rel => exact ⟨by rw [HF.out], rfl⟩
        case rest =>
          obtain ⟨rfl, rfl⟩ := hcut
          obtain ⟨wo, rfl⟩ : ∃ wo : World, wo = wc := ⟨_, rfl⟩
          have FB := Lib.hid (show ∃ fb, isFirst p = fb from ⟨_, rfl⟩)
          obtain ⟨fb, hfb⟩ := FB.out
          rw [hfb]
          have HFB := Lib.hid hfb
          clear FB hfb
          go_upto_region 11 with fail
          go_cut [8] from 21 to 157 (fun f wx => (∃ L, f = .bool L ∧ (L = true → k + 1 = ts.length ∨ ∃ t', ts[k + 1]? = some t' ∧ (t'.kind = 1 ∨ t'.kind = 2))) ∧ wx = wo)
          case first =>
            as_aux_lemma =>
              have zl : wrap64 ((ts.length : Int) - 1) = (ts.length : Int) - 1 := IntWalk.wrap64_in _ (by have := HN.out; omega)
              by_cases hkl : k + 1 = ts.length
              · have z0 : ((k : Int) == (ts.length : Int) - 1) = true := by rw [beq_iff_eq]; omega
                have HKL := Lib.hid hkl
                clear hkl
                go_wp2_with fail
                go_meet
                case rel => exact ⟨⟨true, rfl, fun _ => .inl HKL.out⟩, rfl⟩
              · obtain ⟨tn, htn⟩ : ∃ t, ts[k + 1]? = some t := ⟨_, List.getElem?_eq_getElem (by omega)⟩
                obtain ⟨j, hj⟩ : ∃ j, j = k + 1 := ⟨_, rfl⟩
                rw [← hj] at htn
                have cn := HCC.out j tn htn
                obtain ⟨kn, hkn⟩ : ∃ kn, tn.kind = kn := ⟨_, rfl⟩
                rw [hkn] at cn
                have z0 : ((k : Int) == (ts.length : Int) - 1) = false := by rw [beq_eq_false_iff_ne]; omega
                have z1 : wrap64 ((k : Int) + 1) = (j : Int) := by
                  rw [IntWalk.wrap64_in _ (by have := HN.out; omega)]; omega
                have z2 : (j : Int) < ts.length := by omega
                have HJ := Lib.hid hj
                have HTN := Lib.hid htn
                have HKN := Lib.hid hkn
                clear hj htn hkn hkl
                by_cases q2 : kn = 2
                · subst q2
                  go_wp2_with fail
                  go_meet
                  case rel => exact ⟨⟨true, rfl, fun _ => .inr ⟨tn, by rw [← HJ.out]; exact HTN.out, .inr HKN.out⟩⟩, rfl⟩
                · have t2 : ((kn : Int) == 2) = false := by rw [beq_eq_false_iff_ne]; omega
                  by_cases q1 : kn = 1
                  · subst q1
                    go_wp2_with fail
                    go_meet
                    case rel => exact ⟨⟨true, rfl, fun _ => .inr ⟨tn, by rw [← HJ.out]; exact HTN.out, .inl HKN.out⟩⟩, rfl⟩
                  · have t1 : ((kn : Int) == 1) = false := by rw [beq_eq_false_iff_ne]; omega
                    clear q1 q2
                    go_wp2_with fail
                    go_meet
                    case rel => exact ⟨⟨false, rfl, fun e => by cases e⟩, rfl⟩
          case rest =>
            obtain ⟨⟨L, rfl, hL⟩, rfl⟩ := hcut
            have HL := Lib.hid hL
            clear hL
            obtain ⟨wq, rfl⟩ : ∃ wq : World, wq = wc := ⟨_, rfl⟩
            obtain ⟨hpk, hcs⟩ := stepB_cases HS.out
            have HNEXT : ∀ wz (a b : Int), a = (d' : Int) → b = (k : Int) + 1 → Below w2.heap.size w2 wz → ∃ (k_1 d_1 p_1 : Nat) (sp_1 : Bool), Value.int .i64 a = .int .i64 d_1 ∧ Value.int .i64 b = .int .i64 k_1 ∧ k_1 ≤ ts.length ∧ (∃ q, runB (ts.drop k_1) (d_1, p_1, sp_1) = some (0, q, false)) ∧ d_1 ≤ 16 ∧ (k_1 = 0 → p_1 = 0) ∧ (∀ j, k_1 = j + 1 → ∃ t, ts[j]? = some t ∧ t.kind = p_1 ∧ p_1 ≠ 0) ∧ Below w2.heap.size w2 wz := by
              rintro wz a b rfl rfl hz
              refine ⟨k + 1, d', p', sp', rfl, rfl, hlt, ⟨q, HQ.out⟩, ?_, fun e => by omega, fun j hj => ⟨t, by rw [show j = k by omega]; exact HHT.out, hpk.symm, ?_⟩, hz⟩
              · rcases hcs with h | h | h | h | h <;> omega
              · rcases hcs with h | h | h | h | h <;> omega
            have HX := Lib.hid HNEXT
            have zk : wrap64 ((k : Int) + 1) = (k : Int) + 1 := IntWalk.wrap64_in _ (by have := HN.out; omega)
            clear HNEXT hpk
            rcases hcs with ⟨h1, rfl, rfl⟩ | ⟨h1, h2, rfl⟩ | ⟨h1, h2, rfl⟩ | ⟨h1, h2, rfl⟩ | ⟨h1, h2, h3, h4, h5, rfl, h6⟩
            · rcases h1 with h1 | h1
              · as_aux_lemma =>
                  rw [h1] at c0
                  clear h1
                  go_wp2_with fail
                  go_roundw
                  case measure => (rw [zk]; simp only [intOf]; omega)
                  case rel => exact HX.out _ _ _ (by omega) zk HB3.out
              · as_aux_lemma =>
                  rw [h1] at c0
                  clear h1
                  go_wp2_with fail
                  go_roundw
                  case measure => (rw [zk]; simp only [intOf]; omega)
                  case rel => exact HX.out _ _ _ (by omega) zk HB3.out
            · as_aux_lemma =>
                rw [h1] at c0
                have zd : wrap64 ((d : Int) + 1) = (d : Int) + 1 := IntWalk.wrap64_in _ (by omega)
                have nd0 : ¬ (d : Int) + 1 < 0 := by omega
                have nd1 : ¬ (16 : Int) < (d : Int) + 1 := by omega
                clear h1 h2
                go_wp2_with fail
                go_roundw
                case measure => (rw [zk]; simp only [intOf]; omega)
                case rel => exact HX.out _ _ _ (by omega) zk HB3.out
            · as_aux_lemma =>
                rw [h1] at c0
                have z4 : ((d' : Int) == 0) = false := by rw [beq_eq_false_iff_ne]; omega
                have nd0 : ¬ (d' : Int) < 0 := by omega
                have nd1 : ¬ (16 : Int) < (d' : Int) := by omega
                clear h1 h2
                go_wp2_with fail
                go_roundw
                case measure => (rw [zk]; simp only [intOf]; omega)
                case rel => exact HX.out _ _ _ (by omega) zk HB3.out
            · as_aux_lemma =>
                rw [h1] at c0
                have zd : wrap64 ((d : Int) - 1) = (d : Int) - 1 := IntWalk.wrap64_in _ (by omega)
                have nd0 : ¬ (d : Int) - 1 < 0 := by omega
                have nd1 : ¬ (16 : Int) < (d : Int) - 1 := by omega
                clear h1
                go_wp2_with fail
                go_roundw
                case measure => (rw [zk]; simp only [intOf]; omega)
                case rel => exact HX.out _ _ _ (by omega) zk HB3.out
            · rw [h1] at c0
              have hw6 := HW.out t (List.mem_of_getElem? HHT.out) h1
              have HCT := Lib.hid (fun wz (hz : Below w2.heap.size w2 wz) => (show Calls Tryz.prog 18 #[.string (bs t.text), .string ⟨#[32, 32]⟩] wz fun e w' => e = .returned (.bool false) ∧ w' = wz by
                obtain ⟨mx, hmx⟩ := (HT2.out.at hz).len
                refine (Tryz.strings_Contains (bs t.text) ⟨#[32, 32]⟩ mx wz (by rw [bs_size]; omega) hmx).mono ?_
                rintro e w' ⟨rfl, rfl⟩
                exact ⟨by rw [show Lib.contains (bs t.text).data.toList (⟨#[32, 32]⟩ : ByteArray).data.toList = false from contains_dbl t.text h3], rfl⟩))
              obtain ⟨c, r, hcr⟩ : ∃ c r, t.text = c :: r := List.exists_cons_of_ne_nil h2
              have e2 : (bs t.text).toList.isEmpty = false := by rw [toList_bs, hcr]; rfl
              have z1 := bs_size t.text
              have z2 : 0 < (t.text.length : Int) := by rw [hcr]; simp only [List.length_cons]; omega
              have zt : wrap64 ((t.text.length : Int) - 1) = (t.text.length : Int) - 1 := IntWalk.wrap64_in _ (by omega)
              have z3 : 0 ≤ (t.text.length : Int) - 1 := by omega
              have z4 : (t.text.length : Int) - 1 < t.text.length := by omega
              obtain ⟨y, hy⟩ : ∃ y, t.text.getLast? = some y := by rw [hcr]; exact ⟨_, List.getLast?_eq_some_getLast (by simp)⟩
              have hx0 : ∀ h : 0 < (bs t.text).size, (bs t.text)[0]'h = c := by rw [hcr]; exact fun _ => rfl
              have hlast : t.text[t.text.length - 1]? = some y := by rw [← List.getLast?_eq_getElem?]; exact hy
              have hx1 : ∀ h : t.text.length - 1 < (bs t.text).size, (bs t.text)[t.text.length - 1]'h = y := by
                intro h
                have h' : t.text.length - 1 < t.text.length := by rw [bs_size] at h; exact h
                rw [List.getElem?_eq_getElem h'] at hlast
                exact Option.some.inj hlast
              have HCR := Lib.hid hcr
              have HY := Lib.hid hy
              clear hcr hy hlast
              have nd0 : ¬ (d' : Int) < 0 := by omega
              have nd1 : ¬ (16 : Int) < (d' : Int) := by omega
              clear h1
              cases fb with
              | true =>
                have cb : ((c.toNat : Int) == 32) = false := by
                  have h8 := h4 HFB.out
                  rw [HCR.out] at h8
                  exact u8_ne (fun e => h8 (by rw [e]; rfl))
                cases L with
                | true =>
                  as_aux_lemma =>
                    have yb : ((y.toNat : Int) == 32) = false := by
                      have hsp := last_at HQ.out rfl (HL.out rfl)
                      have h7 : sp' = false := hsp
                      rw [h6, HY.out] at h7
                      exact u8_ne (fun e => by rw [e] at h7; exact absurd h7 (by decide))
                    clear h2 h3 h4 h5 h6
                    go_upto_region 26 with fail
                    go_quiet ((go_at_call 18; exact Calls.quiet_of_same (HCT.out _ (HB3.out.trans ((drewN_b _ _).mono HB3.out.size)))))
                    go_wp2_with fail
                    go_roundw
                    case measure => (rw [zk]; simp only [intOf]; omega)
                    case rel => exact HX.out _ _ _ (by omega) zk (HB3.out.trans ((drewN_b _ _).mono HB3.out.size))
                | false =>
                  as_aux_lemma =>
                    clear h2 h3 h4 h5 h6
                    go_upto_region 26 with fail
                    go_quiet ((go_at_call 18; exact Calls.quiet_of_same (HCT.out _ (HB3.out.trans ((drewN_b _ _).mono HB3.out.size)))))
                    go_wp2_with fail
                    go_roundw
                    case measure => (rw [zk]; simp only [intOf]; omega)
                    case rel => exact HX.out _ _ _ (by omega) zk (HB3.out.trans ((drewN_b _ _).mono HB3.out.size))
              | false =>
                have hk0 : k ≠ 0 := fun e => by
                  have hp := HP0.out e
                  have hf := HFB.out
                  rw [hp] at hf
                  exact absurd hf (by decide)
                obtain ⟨j, hj⟩ : ∃ j, k = j + 1 := ⟨k - 1, by omega⟩
                obtain ⟨tj, htj, hpj, hp1⟩ := HP1.out j hj
                have cj := HCC.out j tj htj
                rw [hpj] at cj
                have z5 : wrap64 ((k : Int) - 1) = (j : Int) := by
                  rw [IntWalk.wrap64_in _ (by have := HN.out; omega)]; omega
                have z6 : (j : Int) < ts.length := by omega
                have z7 : ((p : Int) == 6) = false := by rw [beq_eq_false_iff_ne]; omega
                clear hj htj hpj hk0 hp1
                cases L with
                | true =>
                  as_aux_lemma =>
                    have yb : ((y.toNat : Int) == 32) = false := by
                      have hsp := last_at HQ.out rfl (HL.out rfl)
                      have h7 : sp' = false := hsp
                      rw [h6, HY.out] at h7
                      exact u8_ne (fun e => by rw [e] at h7; exact absurd h7 (by decide))
                    clear h2 h3 h4 h5 h6
                    go_upto_region 26 with fail
                    go_quiet ((go_at_call 18; exact Calls.quiet_of_same (HCT.out _ (HB3.out.trans ((drewN_b _ _).mono HB3.out.size)))))
                    go_wp2_with fail
                    go_roundw
                    case measure => (rw [zk]; simp only [intOf]; omega)
                    case rel => exact HX.out _ _ _ (by omega) zk (HB3.out.trans ((drewN_b _ _).mono HB3.out.size))
                | false =>
                  as_aux_lemma =>
                    clear h2 h3 h4 h5 h6
                    go_upto_region 26 with fail
                    go_quiet ((go_at_call 18; exact Calls.quiet_of_same (HCT.out _ (HB3.out.trans ((drewN_b _ _).mono HB3.out.size)))))
                    go_wp2_with fail
                    go_roundw
                    case measure => (rw [zk]; simp only [intOf]; omega)
                    case rel => exact HX.out _ _ _ (by omega) zk (HB3.out.trans ((drewN_b _ _).mono HB3.out.size))
      · have nlt : ¬ (k : Int) < ts.length := by omega
        have hd0 : d = 0 := by
          rw [List.drop_eq_nil_iff.2 (by omega)] at hq
          unfold runB at hq
          injection hq with e
          injection e with e1
        have BB := Lib.hid (HB2.out.trans (hbr.mono HB2.out.size))
        subst hd0
        clear hq hp0 hp1 hbr
        go_wp2_with fail
        go_ret
        exact ⟨rfl, BB.out⟩

set_option maxRecDepth 100000 in
theorem contract (H : Type) (enc : TypeId × Value → H) (W : World) (base : Nat) (args : Array Value) (ds gs : List (DataW H)) (before : List MemPlace)
    (hval : ∀ (j : Nat) t v, Tryz.f6.params[j]? = some t → args[j]? = some v → Value.okWide Tryz.prog W .any base t v)
    (hW : DataW.Whole enc Tryz.prog Tryz.f6.params.toList Rows.markBracesSpec.vars false W args.toList ds gs before) (hsz0 : (DataW.weightsEach Tryz.prog (Tryz.f6.params.toList ++ Rows.markBracesSpec.plain.varTypes Tryz.prog) (ds ++ gs)).all (· ≤ reachBytes) = true) (hT : Tabs W) :
    Calls Tryz.prog 6 args W fun e W' => ∃ v, e = .returned v ∧ Rows.markBracesSpec.post enc Tryz.prog Tryz.f6 false true false false W args v W' := by
  have hW' := hW
  obtain ⟨p, q, hA0, hV, rfl, hfz, hnd⟩ := hW
  have hA : DataW.TrodAll enc Tryz.prog W 0 (fun _ => true) true Tryz.f6.params.toList args.toList ds p := hA0
  rw [Tryz.params6] at hA hval
  have hsz := hsz0
  rw [Tryz.params6] at hsz
  clear hsz0
  obtain ⟨v0, vs0, d0, ds0, p0, q0, hargs, rfl, rfl, h0, r0⟩ := trodAll_cons hA
  obtain ⟨rfl, rfl, rfl⟩ := trodAll_nil r0
  obtain rfl : args = #[v0] := by cases args; simp_all
  obtain ⟨rfl, rfl⟩ := trodVars_none hV
  obtain ⟨s0, rfl, rfl, rfl, hm0⟩ := open_string Tryz.underlying9 (hval 0 9 v0 rfl rfl) h0
  clear hA0
  refine (walk s0 W hm0 hT).mono fun e W' ⟨he, hg⟩ => ?_
  subst he
  have hlt := hW'.lt
  exact ⟨_, rfl, post_of_below (pa := ([] ++ [])) (pv := []) hW' (fun _ _ _ => trodAll_cons_mk (shut_bool Tryz.underlying4 _) trodAll_mk0) (fun sp hsp => (trodAll_cons_mk (shut_string Tryz.underlying9 hm0) trodAll_mk0)) (fun _ _ => rfl) rfl hg (ok_one (by kernel_rfl) rfl (okWide_bool_mk Tryz.underlying4 _))⟩

theorem witness_row (os : Os) {H : Type} (enc : TypeId × Value → H) :
    (OpenSpec.ofChange Rows.markBracesSpec).preRow enc Tryz.prog Tryz.f6 Rows.markBracesRow.domain false Rows.markBracesRow.laid ((laidWorld os).forCall (fun _ _ => 0) ⟨#[], #[.string .empty], []⟩).memory #[.string .empty] := by
  have hw : (DataW.whole enc Tryz.prog ((laidWorld os).forCall (fun _ _ => 0) ⟨#[], #[.string .empty], []⟩).memory Tryz.f6.params.toList Rows.markBracesSpec.vars false (#[.string .empty] : Array Value).toList 8).map (fun x => (x.1, x.2.1)) =
      some ([.lit (.string [])], []) := by kernel_rfl
  obtain ⟨⟨x1, x2, x3⟩, hx, hx1⟩ := Option.map_eq_some_iff.1 hw
  simp only [Prod.mk.injEq] at hx1
  obtain ⟨rfl, rfl⟩ := hx1
  exact OpenSpec.preRow_of_cond 8 hx (by kernel_rfl) (fun k hk => by cases hk) (by kernel_rfl) (laid_met os _)

set_option maxRecDepth 100000 in
theorem lifted (os : Os) (started : os.Started) (H : Type) (enc : TypeId × Value → H) (F : Stop.Interp) :
    ReturnsInHanded {} Tryz.checked os 6 .any ((OpenSpec.ofChange Rows.markBracesSpec).preRow enc Tryz.prog Tryz.f6 Rows.markBracesRow.domain false Rows.markBracesRow.laid) (((OpenSpec.ofChange Rows.markBracesSpec).at F).post enc Tryz.prog Tryz.f6 false true false false) := by
  refine returnsInHanded_of_row (C := Tryz.checked) (s := (OpenSpec.ofChange Rows.markBracesSpec)) own started (by kernel_rfl) Tryz.func6
    (witness_row_at (enc := enc) (C := Tryz.checked) false (laidWorld os) #[.string .empty] rfl (by kernel_rfl) (by kernel_rfl) (by kernel_rfl) (witness_row os enc)) ?_
  intro W base args ds gs before hval hW _ hcond hsz hL hS _
  exact contract H enc W base args ds gs before hval hW hsz (tabs_of hL hS)

theorem row : Rows.MarkBracesSaid :=
  OpenClaim.holds_of_cond 6 Tryz.f6 rfl rfl rfl rfl rfl rfl rfl ⟨rfl, rfl, rfl, rfl, rfl⟩ rfl rfl rfl rfl rfl (by kernel_rfl) Tryz.func6 (by kernel_rfl)
    (of_decide_eq_true (by kernel_rfl)) (by unfold Func.isWrapper; first | (rw [if_pos (by decide +kernel)]; kernel_rfl) | (rw [if_neg (by decide +kernel)]; exact ⟨rfl, rfl⟩))
    (fun os started H enc _ F => by rw [OpenClaim.pre_eq_preRow]; exact lifted os started H enc F)

theorem plain (f : FuncId) (fn : Func) (hf : Tryz.pinned.checked.prog.funcNamed Rows.markBracesRow.func = some f) (hfn : Tryz.pinned.checked.prog.funcs[f]? = some fn) :
    true = Tryz.pinned.checked.prog.looks [] ∧ ∀ (j : Nat) t, fn.params[j]? = some t → Tryz.pinned.checked.prog.wantsStandIn t = false := by
  obtain rfl : f = 6 := Option.some.inj ((show Tryz.prog.funcNamed Rows.markBracesRow.func = some 6 by kernel_rfl).symm.trans hf) |>.symm
  obtain rfl : fn = Tryz.f6 := (Option.some.inj (Tryz.func6.symm.trans hfn)).symm
  refine ⟨by kernel_rfl, fun j t ht => ?_⟩
  rw [Tryz.params6] at ht
  have hm : t ∈ [9] := by simpa using Array.mem_of_getElem? ht
  simp only [List.mem_cons, List.mem_nil_iff, or_false] at hm
  subst hm
  exact (show Tryz.prog.wantsStandIn 9 = false by kernel_rfl)

theorem proved : Rows.MarkBracesCardSaid :=
  Claim7.holds_tied_plain_at .later [] _ _ _ _ row (fun _ h => by cases h) (by kernel_rfl) (fun _ h => by cases h) markBraces_row_tie rfl ⟨rfl, rfl⟩ (by kernel_rfl) rfl plain (by kernel_rfl)
end Go.Proofs.YtklohbekmbnmdaaGreatDoor.markBraces
