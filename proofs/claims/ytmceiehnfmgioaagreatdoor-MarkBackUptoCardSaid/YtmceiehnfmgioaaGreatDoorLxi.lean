/- The program's Lex. -/
import Derived.Test.YtmceiehnfmgioaaGreatDoorLxh
namespace Go.Proofs.YtmceiehnfmgioaaGreatDoor
open Go.RowKit
set_option linter.unusedVariables false

/-- A slice that reads as these tokens. -/
def Toks (w : World) (v : Value) (l : List Tok) : Prop := ∃ B, w.ownsRow B 40 5 v l.length (tokRows l)
theorem Toks.below {w w' : World} {v : Value} {l : List Tok} (h : Toks w v l) (hb : Below w.heap.size w w') : Toks w' v l := by
  obtain ⟨B, h⟩ := h; exact ⟨B, own_below h hb⟩
/-- What Lex answers. -/
def LexPost (l : List UInt8) (w : World) (e : Ending) (w' : World) : Prop :=
  match lexM l with
  | .ok ts => ∃ v, e = .returned (.tuple #[v, .nilIface]) ∧ Toks w' v ts ∧ Below w.heap.size w w'
  | .error x => ∃ ge, e = .returned (.tuple #[.slice none 0 0, errAt ge]) ∧ Erd w' ge ⟨x.code, 0, x.line, x.col, bs x.word⟩ ∧ x.code ≠ 0 ∧ Below w.heap.size w w'

set_option maxRecDepth 100000 in
set_option maxHeartbeats 2000000 in
theorem code_pro (code : Nat) (w : World) (h : (code : Int) ≠ 0) :
    Calls Tryz.prog 43 #[.int .i64 code] w fun e w' => e = .returned (errAt w.heap.size) ∧ Erd w' w.heap.size ⟨code, 0, 0, 0, bs []⟩ ∧ Below w.heap.size w w' := by
  have H := Lib.hid h
  clear h
  go_enter Tryz.func43, Tryz.ntmps43
  go_wp2_with fail
  refine (new_pro ⟨code, 0, 0, 0, bs []⟩ w H.out).mono ?_
  rintro e w1 ⟨rfl, he, hb⟩
  have HE := Lib.hid he
  have HB := Lib.hid hb
  clear he hb
  go_wp2_with fail
  go_ret
  exact ⟨rfl, HE.out, HB.out⟩

theorem Lx.drewN {w : World} {B g n : Nat} {m : Mk} {vt vo vr : Value} (h : Lx w B g n m vt vo vr) (k : Nat) : Lx (w.drewN k) B g n m vt vo vr := ⟨h.blk, h.toks, h.opns, h.runs, h.far, h.far', h.base, h.gap, h.opn16⟩
theorem below_drewN {B : Nat} {a w : World} (h : Below B a w) (k : Nat) : Below B a (w.drewN k) := ⟨h.os, h.tape, h.output, h.size, h.block⟩
/-- Where the loop over the lines stands. -/
def LxI (B g : Nat) (RR : Except Wr Mk) (w0 : World) (rest : Value) (wr : World) : Prop :=
  ∃ (rst : List UInt8) (n : Nat) (m : Mk) (vt vo vr : Value), rest = .string (bs rst) ∧ Lx wr B g n m vt vo vr ∧ Below B w0 wr ∧ linesM (lines rst) (n + 1) m = RR ∧ m.out.length + m.run.length + 3 * rst.length ≤ 200000 ∧ n + rst.length ≤ 70000
def strLen (v : Value) : Nat := match v with | .string s => s.size | _ => 0
theorem at_line {x : Wr} {n l0 : Nat} {g' : Nat} {w : World} (hq : l0 = 0 ∧ x.line = n ∨ l0 = x.line ∧ 0 < l0) (h : Erd w g' (atLine ⟨x.code, 0, l0, x.col, bs x.word⟩ n)) : Erd w g' ⟨x.code, 0, x.line, x.col, bs x.word⟩ := by
  unfold atLine at h
  rcases hq with ⟨rfl, rfl⟩ | ⟨rfl, hl⟩
  · rw [if_neg (show ¬ (0 : Int) < ((0 : Nat) : Int) by decide)] at h; exact h
  · rw [if_pos (show (0 : Int) < (x.line : Int) by omega)] at h; exact h

set_option maxRecDepth 100000 in
set_option maxHeartbeats 8000000 in
theorem lex_pro (l : List UInt8) (w : World) (hT : Tabs w) :
    Calls Tryz.prog 15 #[.string (bs l)] w (LexPost l w) := by
  have z1 := bs_size l
  have HT := Lib.hid (show ∀ w', Below w.heap.size w w' → Tabs w' from fun w' h => hT.at h)
  clear hT
  by_cases hlong : 65536 < l.length
  · have b1 : (65536 : Int) < l.length := by omega
    have HE := Lib.hid (show lexM l = .error ⟨2, 0, 0, []⟩ by unfold lexM; rw [if_pos hlong])
    clear hlong
    go_enter Tryz.func15, Tryz.ntmps15
    go_wp2_with fail
    refine (code_pro 2 w (by decide)).mono ?_
    rintro e w1 ⟨rfl, he, hb⟩
    have H2 := Lib.hid he
    have B2 := Lib.hid hb
    clear he hb
    go_wp2_with fail
    go_ret2
    unfold LexPost
    rw [HE.out]
    exact ⟨_, rfl, H2.out, (show (2 : Nat) ≠ 0 by decide), B2.out⟩
  · have b1 : ¬ (65536 : Int) < l.length := by omega
    have HQ := Lib.hid (show lexM l = (linesM (lines l) 1 Mk.zero).map (·.out) by unfold lexM; rw [if_neg hlong])
    obtain ⟨RR, hRR⟩ : ∃ RR, linesM (lines l) 1 Mk.zero = RR := ⟨_, rfl⟩
    rw [hRR] at HQ
    have S0 := Lib.hid (show LxI w.heap.size w.heap.size RR w (.string (bs l)) (w.alloc (.cells #[.slice none 0 0, .int .i64 0, .slice none 0 0, .slice none 0 0, .int .i64 0, .int .i64 0, .int .i64 0, .int .i64 0, .bool false] 90)) from
      ⟨l, 0, Mk.zero, .slice none 0 0, .slice none 0 0, .slice none 0 0, rfl, ⟨heap_alloc_new w _, World.ownsRow_nil _ _ _ _, World.ownsRow_nil _ _ _ _, World.ownsRow_nil _ _ _ _, .inl rfl, .inl rfl, Nat.le_refl _, (fun p h => by cases h), ⟨Nat.zero_le _, (fun t ht => by cases ht)⟩⟩, (Below.refl _ _).alloc (Nat.le_refl _) _, hRR, by show 0 + 0 + 3 * l.length ≤ 200000; omega, by omega⟩)
    clear hRR hlong
    obtain ⟨g, hg⟩ : ∃ g, w.heap.size = g := ⟨_, rfl⟩
    have HG := Lib.hid hg
    rw [hg] at S0 HT
    go_enter Tryz.func15, Tryz.ntmps15
    go_wp2_with fail
    clear z1
    go_loopw [5] (fun rest wr => LxI g g RR w rest wr) (fun rest _ => strLen rest)
    case atStart => exact S0.out
    case round =>
      obtain ⟨rst, n, m, vt, vo, vr, rfl, hlx, hbl, hres, hco, hnn⟩ := hrel
      have HLX := Lib.hid hlx
      have HBL := Lib.hid hbl
      have HCO := Lib.hid hco
      have HNN := Lib.hid hnn
      by_cases h0 : rst = []
      · subst h0
        have HR := Lib.hid (show m.endPara = RR by rw [← hres]; rfl)
        have y0 := toList_bs ([] : List UInt8)
        clear hlx hbl hres hco hnn hg
        go_wp2_with fail
        refine (endPara_pro0 wr g g n m vt vo vr HLX.out (by have := HCO.out; omega)).mono ?_
        cases hr : m.endPara with
        | error x =>
          rintro e w1 ⟨ge, rfl, he, hx, hl0, hb, _⟩
          have HE := Lib.hid (show lexM l = .error x by rw [HQ.out, ← HR.out, hr]; rfl)
          have H2 := Lib.hid he
          have HX := Lib.hid hx
          have HB := Lib.hid (HBL.out.trans hb)
          clear he hx hl0 hb hr
          unfold errAt
          go_wp2_with fail
          go_ret2
          unfold LexPost
          rw [HE.out]
          exact ⟨ge, rfl, H2.out, HX.out, by rw [HG.out]; exact HB.out⟩
        | ok m' =>
          rintro e w1 ⟨rfl, hb, vt', vo', vr', h1, hk⟩
          have HE := Lib.hid (show lexM l = .ok m'.out by rw [HQ.out, ← HR.out, hr]; rfl)
          have c0 := h1.cells.1
          have HTK := Lib.hid h1.toks
          have HB := Lib.hid (HBL.out.trans hb)
          clear hb h1 hk hr
          go_wp2_with fail
          go_ret2
          unfold LexPost
          rw [HE.out]
          exact ⟨_, rfl, ⟨_, HTK.out⟩, by rw [HG.out]; exact HB.out⟩
      · have y0 := toList_bs rst
        have hls := lines_cons rst h0
        obtain ⟨q1, q2⟩ := cut_len rst h0
        obtain ⟨k1, k2⟩ := cut_nl rst
        have HCL := Lib.hid (show chop (cutNL rst).1 = Lib.trimSuffix (cutNL rst).1 [13] from (chop_eq _).symm)
        have hcl := chop_len (cutNL rst).1
        obtain ⟨ln, eln⟩ : ∃ ln, (cutNL rst).1 = ln := ⟨_, rfl⟩
        obtain ⟨rs, ers⟩ : ∃ rs, (cutNL rst).2 = rs := ⟨_, rfl⟩
        rw [eln, ers] at q2
        rw [ers] at q1 k2
        rw [eln] at k1 HCL hcl
        rw [hls, eln, ers] at hres
        obtain ⟨ck, eck⟩ : ∃ ck, chop ln = ck := ⟨_, rfl⟩
        rw [eck] at hcl hres HCL
        obtain ⟨mx, hmx⟩ := (HT.out _ hbl).len
        have HCut := Lib.hid (Tryz.strings_Cut (bs rst) (bs [10]) mx wr (by rw [bs_size]; omega) hmx)
        rw [show (bs rst).data.toList = rst by simp [bs], show (bs [10]).data.toList = [10] from rfl, k1, k2] at HCut
        have HRES := Lib.hid (show (match lineM (n + 1) ck m with | .error e => .error e | .ok m' => linesM (lines rs) (n + 1 + 1) m') = RR from hres)
        have HQ1 := Lib.hid q1
        have HQ2 := Lib.hid q2
        have HCKL := Lib.hid hcl
        have hne : rst.isEmpty = false := by cases rst with | nil => exact absurd rfl h0 | cons a t => rfl
        have c1 := hlx.cells.2.1
        have f1 := hlx.frozen 1
        have bn : (n : Int) ≤ 70000 := by omega
        have bn0 : 0 ≤ (n : Int) := by omega
        clear hls q1 q2 k1 k2 hcl eln ers eck hres hmx hlx hbl hco hnn hg
        go_wp2_with fail
        refine HCut.out.mono ?_
        rintro e w1 ⟨rfl, nd, rfl⟩
        have LX0 := Lib.hid (HLX.out.drewN nd)
        have LX1 := Lib.hid ((HLX.out.drewN nd).set1 (k := 1) (u := .int .i64 ((n : Int) + 1)) (m' := m) (n' := n + 1) rfl rfl rfl rfl HLX.out.gap)
        have BE1 := Lib.hid ((below_drewN HBL.out nd).setCell (p := ⟨g, 1, none⟩) (Nat.le_refl g) (.int .i64 ((n : Int) + 1)))
        go_wp2_with fail
        have HTS := Lib.hid (Tryz.strings_TrimSuffix (bs ln) (bs [13]) ((wr.drewN nd).setCell ⟨g, 1, none⟩ (.int .i64 ((n : Int) + 1))) (by rw [bs_size]; have := HQ2.out; have := HCO.out; omega))
        rw [show (bs ln).data.toList = ln by simp [bs], show (bs [13]).data.toList = [13] from rfl, ← HCL.out] at HTS
        obtain ⟨W1, eW⟩ : ∃ W1, (wr.drewN nd).setCell ⟨g, 1, none⟩ (.int .i64 ((n : Int) + 1)) = W1 := ⟨_, rfl⟩
        rw [eW] at LX1 BE1 HTS ⊢
        clear eW c1 f1
        refine HTS.out.mono ?_
        rintro e w2 ⟨rfl, hw⟩
        have hw' := hw.symm
        subst hw'
        clear hw
        go_wp2_with fail
        refine (take_pro W1 g g (n + 1) m ck vt vo vr LX1.out (Nat.succ_pos n) (by have := HCO.out; omega) (by have := HCKL.out; have := HQ2.out; have := HCO.out; omega) (fun w' hb => HT.out w' (BE1.out.trans hb))).mono ?_
        cases hr : lineM (n + 1) ck m with
        | error x =>
          rintro e w2 ⟨v, rfl, ge, l0, rfl, he, hx, hq, hb, hcl⟩
          have HE := Lib.hid (show lexM l = .error x by rw [HQ.out, ← HRES.out, hr]; rfl)
          have H2 := Lib.hid he
          have HX := Lib.hid hx
          have HQL := Lib.hid hq
          have HB := Lib.hid (BE1.out.trans hb)
          have T2 := Lib.hid (HT.out _ (BE1.out.trans hb))
          clear he hx hq hb hr
          unfold errAt
          go_wp2_with fail
          refine (placed_pro ⟨x.code, 0, l0, x.col, bs x.word⟩ ge ((n + 1 : Nat) : Int) w2 H2.out T2.out).mono ?_
          rintro e w3 ⟨g', rfl, he, hb⟩
          have H3 := Lib.hid (at_line HQL.out he)
          have HB3 := Lib.hid (HB.out.trans (hb.mono (by have := HB.out.size; rw [HG.out] at this; exact this)))
          clear he hb hcl
          unfold errAt
          go_wp2_with fail
          go_ret2
          unfold LexPost
          rw [HE.out]
          exact ⟨g', rfl, H3.out, HX.out, by rw [HG.out]; exact HB3.out⟩
        | ok m' =>
          rintro e w2 ⟨rfl, hb, vt', vo', vr', h1, hk⟩
          have HRR := Lib.hid (show linesM (lines rs) (n + 1 + 1) m' = RR by rw [← HRES.out, hr])
          have HCM := Lib.hid (lineM_cost hr)
          have H1 := Lib.hid h1
          have HB := Lib.hid (BE1.out.trans hb)
          clear hb h1 hk hr
          go_wp2_with fail
          go_roundw
          case rel => exact ⟨rs, n + 1, m', vt', vo', vr', rfl, H1.out, HB.out, HRR.out, by have := HCM.out; have := HCKL.out; have := HQ1.out; have := HQ2.out; have := HCO.out; omega, by have := HNN.out; have := HQ1.out; omega⟩
          case measure => show (bs rs).size < (bs rst).size; rw [bs_size, bs_size]; exact HQ1.out
end Go.Proofs.YtmceiehnfmgioaaGreatDoor
