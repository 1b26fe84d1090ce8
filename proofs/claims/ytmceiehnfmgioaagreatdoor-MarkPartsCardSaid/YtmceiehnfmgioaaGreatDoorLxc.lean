/- The program's characters: a line of a paragraph. -/
import Derived.Test.YtmceiehnfmgioaaGreatDoorLxa
import Derived.Lib.OthersKept
namespace Go.Proofs.YtmceiehnfmgioaaGreatDoor
open Go.RowKit
set_option linter.unusedVariables false

def charsR (n : Nat) (l : List UInt8) (m : Mk) : Except Wr Mk := (textM n l 1 0 m).map (·.blank (n, l.length + 1))

section
variable {w : World} {B g n : Nat} {m : Mk} {vt vo vr : Value}
theorem Lx.iter (h : Lx w B g n m vt vo vr) {k : Nat} {s s0 : ByteArray} {p p0 : Nat} (hk : w.heap[k]? = some (.stringIter s0 p0)) : Lx (w.iterAt k s p) B g n m vt vo vr := by
  have hg : w.grownBy (w.iterAt k s p) (some k) := ⟨rfl, rfl, rfl, by rw [Lib.iterAt_size]; exact Nat.le_refl _, fun j _ hj => Lib.iterAt_other w k j s p (fun e => hj (by rw [e]))⟩
  have far : ∀ {e : TypeId} {size c : Nat} {v : Value} {xs : List Value}, w.ownsRow B e size v c xs → v.ownBlock ≠ some k := by
    intro e size c v xs hr
    rcases hr.2 with ⟨rfl, _⟩ | ⟨g', cap, cur, rfl, _, hg', _⟩
    · simp [Value.ownBlock]
    · intro e1
      simp [Value.ownBlock] at e1
      subst e1
      rw [hk] at hg'; cases hg'
  refine ⟨(hg.block g (lt_heap h.blk) (fun e => ?_)).trans h.blk, h.toks.kept hg (.inr (far h.toks)), h.opns.kept hg (.inr (far h.opns)), h.runs.kept hg (.inr (far h.runs)), h.far, h.far', h.base, h.gap, h.opn16⟩
  cases e
  have := h.blk
  rw [hk] at this; cases this
theorem Kept3.iter {w1 : World} {vt1 vo1 : Value} {k : Nat} (h : Kept3 g vt vo vt1 vo1 w w1) (hk : w.heap.size ≤ k) (s : ByteArray) (p : Nat) : Kept3 g vt vo vt1 vo1 w (w1.iterAt k s p) := fun b o e1 e2 e3 e4 e5 => by
  obtain ⟨q1, q2, q3⟩ := h b o e1 e2 e3 e4 e5
  exact ⟨(Lib.iterAt_other w1 k b s p (fun e => by have := lt_heap e1; omega)).trans q1, q2, q3⟩
end
theorem noU8_iter (s : ByteArray) (p : Nat) : NoU8 (.stringIter s p) := fun cs fz e => by cases e

/-- Where the loop over a line's characters stands. -/
structure ChS (l : List UInt8) (B g n IT : Nat) (R : Except Wr Mk) (vt0 vo0 : Value) (w : World) (K : Nat) (pos fuel nx : Nat) (m : Mk) (vt vo vr : Value) (wr : World) : Prop where
  it : wr.heap[IT]? = some (.stringIter (bs l) pos)
  lx : Lx wr B g n m vt vo vr
  ap : Apart g IT vt vo
  be : Below B w wr
  kp : Kept3 g vt0 vo0 vt vo w wr
  ok : ∀ c ∈ chs (bs l) fuel pos, ubad c = false
  fu : l.length ≤ pos + fuel
  res : textM n (l.drop pos) (pos + 1) (nx - pos) m = R
  asc : ∀ j b, pos ≤ j → j < nx → l[j]? = some b → b.toNat < 128
  co : m.out.length + m.run.length ≤ K + 2 * pos
  nl : nx ≤ l.length
  pl : pos ≤ l.length
def ChI (l : List UInt8) (B g n IT : Nat) (R : Except Wr Mk) (vt0 vo0 : Value) (w : World) (K : Nat) (next : Value) (wr : World) : Prop :=
  ∃ (pos fuel nx : Nat) (m : Mk) (vt vo vr : Value), next = .int .i64 nx ∧ ChS l B g n IT R vt0 vo0 w K pos fuel nx m vt vo vr wr

/-- The next round, behind a call that has moved the lexer on. -/
theorem ch_step {l : List UInt8} {B g n IT : Nat} {R : Except Wr Mk} {vt0 vo0 : Value} {w : World} {K pos fuel nx W : Nat} {m m2 : Mk} {vt vo vr : Value} {wr w1 w2 : World} (h : ChS l B g n IT R vt0 vo0 w K pos (fuel + 1) nx m vt vo vr wr)
    (hit : w1.heap[IT]? = some (.stringIter (bs l) (pos + W))) (hbe : Below B w w1) (hkp : Kept3 g vt0 vo0 vt vo w w1) (hW : (Utf8.decode (bs l) pos).2 = W) (hp : pos < l.length) (hm : Moved B g n m2 vt vo w1 w2) {nx' : Nat}
    (hres : textM n (l.drop (pos + W)) (pos + W + 1) (nx' - (pos + W)) m2 = R) (hasc : ∀ j b, pos + W ≤ j → j < nx' → l[j]? = some b → b.toNat < 128) (hco : m2.out.length + m2.run.length ≤ K + 2 * (pos + W)) (hnl : nx' ≤ l.length) :
    ChI l B g n IT R vt0 vo0 w K (.int .i64 nx') w2 ∧ w2.heap[IT]? = some (.stringIter (bs l) (pos + W)) := by
  obtain ⟨hb, vt2, vo2, vr2, hl, hk⟩ := hm
  obtain ⟨x1, ap⟩ := hk.box hit (noU8_iter _ _) h.ap
  have hsz : (bs l).size = l.length := bs_size l
  have hw1 := width_pos (bs l) pos (by rw [hsz]; exact hp)
  have hw2 := decode_fits (bs l) pos (by rw [hsz]; exact hp)
  have hfu := h.fu
  refine ⟨⟨pos + W, fuel, nx', m2, vt2, vo2, vr2, rfl, ⟨x1, hl, ap, hbe.trans hb, hkp.trans hk, fun c hc => h.ok c ?_, by omega, hres, hasc, hco, hnl, by omega⟩⟩, x1⟩
  simp only [chs]
  rw [if_pos (by rw [hsz]; exact hp), hW]
  exact List.mem_cons_of_mem _ hc

theorem char_cost (m : Mk) (s : List UInt8) (p : Nat × Nat) : (m.char s p).out.length + (m.char s p).run.length ≤ m.out.length + m.run.length + 1 + s.length := by
  have h1 := fill_len m
  have h2 : (m.char s p).out = m.fill.out := rfl
  have h3 : (m.char s p).run = m.fill.run ++ s := rfl
  rw [h2, h3, fill_out, List.length_append]
  omega
theorem endRun_cost (m : Mk) : m.endRun.out.length + m.endRun.run.length ≤ m.out.length + m.run.length := by
  unfold Mk.endRun
  split
  · exact Nat.le_refl _
  · rename_i h
    have : 0 < m.run.length := List.length_pos_iff.2 h
    simp; omega
theorem put_cost (m : Mk) (k : Nat) (a b : List UInt8) (p : Nat × Nat) : (m.put k a b p).out.length + (m.put k a b p).run.length ≤ m.out.length + m.run.length + 1 := by
  have h := endRun_cost m
  have h2 : (m.put k a b p).out = m.endRun.out ++ [⟨k, a, b, p.1, p.2⟩] := rfl
  have h3 : (m.put k a b p).run = m.endRun.run := rfl
  rw [h2, h3, List.length_append]
  simp; omega
theorem within_cost (m : Mk) (k : Nat) (a : List UInt8) (p : Nat × Nat) : (m.within k a p).out.length + (m.within k a p).run.length ≤ m.out.length + m.run.length + 2 := by
  have h := put_cost m.fill k a [] p
  have h1 := fill_len m
  rw [fill_out] at h
  exact Nat.le_trans h (by omega)
theorem blank_cost (m : Mk) (p : Nat × Nat) : (m.blank p).out.length + (m.blank p).run.length = m.out.length + m.run.length := by
  unfold Mk.blank; split <;> rfl
theorem openB_cost (m : Mk) (a : List UInt8) (p : Nat × Nat) : (m.openB a p).out.length + (m.openB a p).run.length ≤ m.out.length + m.run.length + 2 :=
  within_cost { m with opn := m.opn ++ [⟨3, a, [], p.1, p.2⟩] } 3 a p
theorem closeB_cost (m : Mk) (p : Nat × Nat) : (m.closeB p).out.length + (m.closeB p).run.length ≤ m.out.length + m.run.length + 2 :=
  within_cost { m with opn := m.opn.dropLast } 5 [] p

theorem num_ne {b c : UInt8} (h : b ≠ c) {k : Int} (hk : k = c.toNat := by rfl) : ((b.toNat : Int) == k) = false := by
  rw [beq_eq_false_iff_ne, hk]
  intro e
  exact h (UInt8.toNat_inj.1 (by omega))
theorem enc_ascii {b : UInt8} (h : b.toNat < 128) : Utf8.encode (b.toNat : Int) = bs [b] := by
  rw [enc_bs]
  unfold Lib.encodeRune
  rw [Lib.encodeRuneZ_one (by omega) (by omega)]
  simp
set_option maxRecDepth 100000 in
set_option maxHeartbeats 16000000 in
theorem characters_pro (w : World) (B g n : Nat) (m : Mk) (l : List UInt8) (vt vo vr : Value) (h : Lx w B g n m vt vo vr) (hn : 0 < n) (hc : m.out.length + m.run.length ≤ 2000000) (hll : l.length ≤ 4096) (hok : badAt l = none) (hT : ∀ w', Below B w w' → Tabs w') :
    Calls Tryz.prog 85 #[.pointer (some ⟨g, 0, none⟩), .string (bs l)] w (DidE B g n (charsR n l m) vt vo w) := by
  have HN := Lib.hid hn
  have HC := Lib.hid hc
  have HLL := Lib.hid hll
  have HT := Lib.hid hT
  have z1 := bs_size l
  have BZ := Lib.hid h.size
  have b0 : (l.length : Int) ≤ 4096 := by omega
  obtain ⟨R, hR⟩ : ∃ R, textM n l 1 0 m = R := ⟨_, rfl⟩
  have HR := Lib.hid (show charsR n l m = R.map (·.blank (n, l.length + 1)) by unfold charsR; rw [hR])
  have S0 := Lib.hid (show ChI l B g n w.heap.size R vt vo w (m.out.length + m.run.length) (.int .i64 (0 : Nat)) (w.alloc (.stringIter (bs l) 0)) from
    ⟨0, l.length, 0, m, vt, vo, vr, rfl, ⟨heap_alloc_new w _, h.alloc _, h.apart, (Below.refl B w).alloc h.size _, Kp.three ((Kp.refl _ _).alloc _), fun c hc => by
      have hb := hok
      unfold badAt at hb
      have hf := List.find?_eq_none.1 (Option.map_eq_none_iff.1 hb) c (by unfold chars; rw [bs_size]; exact hc)
      simpa using hf, by omega, hR, fun j b _ h _ => absurd h (by omega), by omega, Nat.zero_le _, Nat.zero_le _⟩⟩)
  clear h hn hc hll hok hT hR
  go_enter Tryz.func85, Tryz.ntmps85
  go_wp2_with fail
  go_loopw [5] (fun nx wr => ChI l B g n w.heap.size R vt vo w (m.out.length + m.run.length) nx wr) (fun _ wr => l.length - wr.iterPos w.heap.size)
  case atStart => exact S0.out
  case round =>
    obtain ⟨pos, fuel, nx, m1, vt1, vo1, vr1, rfl, hs⟩ := hrel
    have HS := Lib.hid hs
    by_cases hp : pos < l.length
    · obtain ⟨f, rfl⟩ : ∃ f, fuel = f + 1 := ⟨fuel - 1, by have := hs.fu; omega⟩
      have hbad : badB (pos, (Utf8.decode (bs l) pos).1, (Utf8.decode (bs l) pos).2) = false := by
        have hu := hs.ok (pos, (Utf8.decode (bs l) pos).1, (Utf8.decode (bs l) pos).2) (by simp only [chs]; rw [if_pos (by rw [bs_size]; exact hp)]; exact List.mem_cons_self)
        unfold ubad at hu
        exact (Bool.or_eq_false_iff.1 hu).1
      have hit := Lib.iterAt_heap wr w.heap.size (bs l) pos (pos + (Utf8.decode (bs l) pos).2) hs.it
      have lx1 := hs.lx.iter (s := bs l) (p := pos + (Utf8.decode (bs l) pos).2) hs.it
      have be1 := Lib.below_iterAt hs.be (k := w.heap.size) BZ.out (bs l) (pos + (Utf8.decode (bs l) pos).2)
      have kp1 := hs.kp.iter (Nat.le_refl _) (bs l) (pos + (Utf8.decode (bs l) pos).2)
      have hnx : ∀ ty, (Instr.next (.pointer (some ⟨w.heap.size, 0, none⟩)) true ty).run Tryz.prog wr = _ := fun ty => Lib.run_next_any_at wr w.heap.size (bs l) pos ty hs.it (by rw [bs_size]; exact hp)
      obtain ⟨W1, eW1⟩ : ∃ W1, wr.iterAt w.heap.size (bs l) (pos + (Utf8.decode (bs l) pos).2) = W1 := ⟨_, rfl⟩
      rw [eW1] at hit lx1 be1 kp1
      simp only [eW1] at hnx
      clear eW1
      have bp0 : 0 ≤ (pos : Int) := by omega
      have bp1 : (pos : Int) ≤ 4096 := by have := HLL.out; omega
      have bp2 : (pos : Int) + 1 ≤ l.length := by omega
      have HP := Lib.hid hp
      have hcoK := hs.co
      have HCO := Lib.hid (show m1.out.length + m1.run.length ≤ 2020000 by have := HC.out; have := HLL.out; omega)
      have HCK := Lib.hid hcoK
      have HOU := Lib.hid (show m1.out.length ≤ 3000000 by have := HCO.out; omega)
      have HRU := Lib.hid (show m1.run.length ≤ 3000000 by have := HCO.out; omega)
      have hres := hs.res
      have hnl := hs.nl
      have T1 := Lib.hid (HT.out _ be1)
      rcases char_ok hp hbad with ⟨b, r, hd, hb, hdec⟩ | ⟨s, r, hd, hne, hs128, hWs, hR128, henc⟩
      · rw [hdec] at hit
        simp only [hdec] at hnx
        have HW := Lib.hid (show (Utf8.decode (bs l) pos).2 = 1 by rw [hdec])
        have HDR := Lib.hid (show l.drop (pos + 1) = r by rw [← List.drop_drop, hd]; rfl)
        have hlr : r.length = l.length - (pos + 1) := by rw [← HDR.out, List.length_drop]
        have HLR := Lib.hid hlr
        have HX := Lib.hid (show (bs l).extract (pos + 1) l.length = bs r by rw [bs_extract, HDR.out, List.take_of_length_le (by omega)])
        have IT1 := Lib.hid hit
        have LX1 := Lib.hid lx1
        have BE1 := Lib.hid be1
        have KP1 := Lib.hid kp1
        rw [hd] at hres
        by_cases hskip : pos < nx
        · have hk : nx - pos = (nx - (pos + 1)) + 1 := by omega
          rw [hk, textM_skip] at hres
          have HRS := Lib.hid hres
          have hsk : (pos : Int) < nx := by omega
          clear hs hbad hit lx1 be1 kp1 hcoK hres hnl hd hdec hlr hk hskip hb
          go_wp2_with fail
          have st := ch_step HS.out IT1.out BE1.out KP1.out HW.out HP.out (Moved.refl LX1.out) (nx' := nx) (by rw [HDR.out]; exact HRS.out) (fun j c h1 h2 h3 => HS.out.asc j c (by omega) h2 h3) (by have := HCK.out; omega) HS.out.nl
          go_roundw
          case rel => exact st.1
          case measure => simp only [World.iterPos, st.2, HS.out.it]; have := HP.out; omega
        · have hsk : ¬ (pos : Int) < nx := by omega
          have hz : nx - pos = 0 := by omega
          rw [hz] at hres
          have HRS := Lib.hid hres
          have HNX := Lib.hid (show nx ≤ pos by omega)
          clear hs hit lx1 be1 kp1 hcoK hres hnl hd hlr hz hskip hbad
          by_cases h32 : b = 32
          · skip
            subst h32
            have hdn : ((32 : UInt8).toNat, 1) = (32, 1) := rfl
            simp only [show (32 : UInt8).toNat = 32 from rfl] at hnx
            clear hdec hdn hb
            go_wp2_with fail
            refine (blankM_pro W1 B g n (pos + 1) m1 vt1 vo1 vr1 LX1.out HN.out).mono ?_
            rintro e w2 ⟨rfl, hm⟩
            have HM := Lib.hid hm
            clear hm hnx
            go_wp2_with fail
            have st := ch_step HS.out IT1.out BE1.out KP1.out HW.out HP.out HM.out (nx' := nx) (by rw [HDR.out, show nx - (pos + 1) = 0 by have := HNX.out; omega, ← HRS.out]; exact (textM_blank n 32 r (pos + 1) m1 (by decide)).symm) (fun j c h1 h2 _ => absurd h2 (by have := HNX.out; omega)) (by rw [blank_cost]; have := HCK.out; omega) HS.out.nl
            go_roundw
            case rel => exact st.1
            case measure => simp only [World.iterPos, st.2, HS.out.it]; have := HP.out; omega
          by_cases h9 : b = 9
          · skip
            subst h9
            have hdn : ((9 : UInt8).toNat, 1) = (9, 1) := rfl
            simp only [show (9 : UInt8).toNat = 9 from rfl] at hnx
            clear hdec hdn hb
            go_wp2_with fail
            refine (blankM_pro W1 B g n (pos + 1) m1 vt1 vo1 vr1 LX1.out HN.out).mono ?_
            rintro e w2 ⟨rfl, hm⟩
            have HM := Lib.hid hm
            clear hm hnx
            go_wp2_with fail
            have st := ch_step HS.out IT1.out BE1.out KP1.out HW.out HP.out HM.out (nx' := nx) (by rw [HDR.out, show nx - (pos + 1) = 0 by have := HNX.out; omega, ← HRS.out]; exact (textM_blank n 9 r (pos + 1) m1 (by decide)).symm) (fun j c h1 h2 _ => absurd h2 (by have := HNX.out; omega)) (by rw [blank_cost]; have := HCK.out; omega) HS.out.nl
            go_roundw
            case rel => exact st.1
            case measure => simp only [World.iterPos, st.2, HS.out.it]; have := HP.out; omega
          by_cases h92 : b = 92
          · skip
            subst h92
            have hdn : ((92 : UInt8).toNat, 1) = (92, 1) := rfl
            simp only [show (92 : UInt8).toNat = 92 from rfl] at hnx
            clear hdec hdn hb
            go_wp2_with fail
            rw [HX.out]
            refine (escaped_pro r (pos + 1) W1 T1.out (by have := HLR.out; have := HLL.out; omega)).mono ?_
            cases he : escL r with
            | error x =>
              rintro e w2 ⟨ge, rfl, hE, hx, hbb⟩
              have EL := Lib.hid (show ErrL B g n ⟨x.1, n, pos + 1, x.2⟩ w (errAt ge) w2 from ⟨ge, 0, rfl, hE, hx, .inl ⟨rfl, rfl⟩, BE1.out.trans (hbb.mono (Nat.le_trans BZ.out BE1.out.size)), (LX1.out.keep hbb).cells.2.1⟩)
              have HQ := Lib.hid (show R = .error ⟨x.1, n, pos + 1, x.2⟩ by rw [← HRS.out]; exact textM_esc_err n r (pos + 1) m1 he)
              clear hE hx hbb he hnx
              unfold errAt at EL ⊢
              go_wp2_with fail
              go_ret
              unfold DidE
              rw [HR.out, HQ.out]
              exact ⟨_, rfl, EL.out⟩
            | ok s =>
              obtain ⟨d, hd1, hd2, rfl⟩ := escL_ok he
              rintro e w2 ⟨rfl, hbb⟩
              have L2 := Lib.hid (LX1.out.keep hbb)
              have K2 := Lib.hid (show Kept3 g vt1 vo1 vt1 vo1 W1 w2 from Kp.three (Kp.below hbb))
              have B2 := Lib.hid (hbb.mono (Nat.le_trans BZ.out BE1.out.size))
              have HQ := Lib.hid (show textM n r (pos + 1 + 1) 1 (m1.char [d] (n, pos + 1)) = R by rw [← HRS.out]; exact (textM_esc_ok n d r (pos + 1) m1 hd1 hd2).symm)
              have HA := Lib.hid (special_ascii hd2)
              have hr0 : 0 < r.length := by
                cases r with
                | nil => cases hd1
                | cons a t => simp
              have HL1 := Lib.hid (show pos + 1 + 1 ≤ l.length by have := HLR.out; omega)
              have HD1 := Lib.hid (show l[pos + 1]? = some d by rw [← hd1, ← HDR.out]; simp)
              have zs := bs_size [d]
              clear hbb he hd1 hd2 hr0 hnx
              go_wp2_with fail
              refine (character_pro w2 B g n (pos + 1) m1 [d] vt1 vo1 vr1 L2.out (by have := HCO.out; simp; omega)).mono ?_
              rintro e w3 ⟨rfl, hm⟩
              have HM := Lib.hid hm
              clear hm
              go_wp2_with fail
              have st := ch_step HS.out IT1.out BE1.out KP1.out HW.out HP.out (Moved.then B2.out K2.out HM.out) (nx' := pos + 1 + 1) (by rw [HDR.out, show pos + 1 + 1 - (pos + 1) = 1 by omega]; exact HQ.out) (fun j c h1 h2 h3 => by obtain rfl : j = pos + 1 := (by omega); rw [HD1.out] at h3; cases h3; exact HA.out) (by have := char_cost m1 [d] (n, pos + 1); simp only [List.length_cons, List.length_nil] at this; have := HCK.out; omega) HL1.out
              go_roundw
              case rel => exact st.1
              case measure => simp only [World.iterPos, st.2, HS.out.it]; have := HP.out; omega
          by_cases h123 : b = 123
          · skip
            subst h123
            have hdn : ((123 : UInt8).toNat, 1) = (123, 1) := rfl
            simp only [show (123 : UInt8).toNat = 123 from rfl] at hnx
            clear hdec hdn hb
            go_wp2_with fail
            rw [HX.out]
            refine (openBrace_pro W1 B g n m1 r (pos + 1) vt1 vo1 vr1 LX1.out HN.out HOU.out HRU.out (by have := HLR.out; have := HLL.out; omega)).mono ?_
            cases he : openR m1 r n (pos + 1) with
            | error x =>
              rintro e w2 ⟨v, rfl, ge, l0, rfl, hE, hx, hq, hbb, hcl⟩
              have EL := Lib.hid (show ErrL B g n x w (errAt ge) w2 from ⟨ge, l0, rfl, hE, hx, hq, BE1.out.trans hbb, hcl⟩)
              have HQ := Lib.hid (show R = .error x by rw [← HRS.out]; exact textM_open_err n r (pos + 1) m1 he)
              clear hE hx hq hbb hcl he hnx
              unfold errAt at EL ⊢
              go_wp2_with fail
              go_ret
              unfold DidE
              rw [HR.out, HQ.out]
              exact ⟨_, rfl, EL.out⟩
            | ok x =>
              obtain ⟨q1, q2, q3⟩ := textM_open_ok n r (pos + 1) m1 he
              rintro e w2 ⟨rfl, hm⟩
              have HM := Lib.hid hm
              have HQ := Lib.hid (show textM n r (pos + 1 + 1) x.1.length x.2 = R by rw [q1, ← HRS.out]; exact q3.symm)
              have HCX := Lib.hid (show x.2.out.length + x.2.run.length ≤ m1.out.length + m1.run.length + 2 by rw [q2]; exact openB_cost m1 (letL r) (n, pos + 1))
              have HLE := Lib.hid (show x.1.length ≤ r.length by rw [q1]; exact letL_le r)
              have HAS := Lib.hid (show ∀ j c, j < x.1.length → r[j]? = some c → c.toNat < 128 by rw [q1]; exact fun j c h1 h2 => letL_asc r j c h1 h2)
              obtain ⟨nm, mx⟩ := x
              have zs := bs_size nm
              have bn : (nm.length : Int) ≤ 4096 := by have h1 : nm.length ≤ r.length := HLE.out; have := HLR.out; have := HLL.out; omega
              have bn0 : 0 ≤ (nm.length : Int) := by omega
              clear hm q1 q2 q3 he hnx
              go_wp2_with fail
              have st := ch_step HS.out IT1.out BE1.out KP1.out HW.out HP.out HM.out (nx' := pos + 1 + nm.length) (by rw [HDR.out, show pos + 1 + nm.length - (pos + 1) = nm.length by omega]; exact HQ.out) (fun j c h1 h2 h3 => HAS.out (j - (pos + 1)) c (show j - (pos + 1) < nm.length by omega) (by rw [← h3, ← HDR.out, List.getElem?_drop]; congr 1; omega)) (by have h1 : mx.out.length + mx.run.length ≤ m1.out.length + m1.run.length + 2 := HCX.out; have := HCK.out; show mx.out.length + mx.run.length ≤ _; omega) (by have h1 : nm.length ≤ r.length := HLE.out; have := HLR.out; have := HP.out; omega)
              go_roundw
              case rel => exact st.1
              case measure => simp only [World.iterPos, st.2, HS.out.it]; have := HP.out; omega
          by_cases h125 : b = 125
          · skip
            subst h125
            have hdn : ((125 : UInt8).toNat, 1) = (125, 1) := rfl
            simp only [show (125 : UInt8).toNat = 125 from rfl] at hnx
            clear hdec hdn hb
            go_wp2_with fail
            refine (closeBrace_pro W1 B g n m1 (pos + 1) vt1 vo1 vr1 LX1.out HOU.out HRU.out).mono ?_
            cases he : closeR m1 n (pos + 1) with
            | error x =>
              rintro e w2 ⟨v, rfl, ge, l0, rfl, hE, hx, hq, hbb, hcl⟩
              have EL := Lib.hid (show ErrL B g n x w (errAt ge) w2 from ⟨ge, l0, rfl, hE, hx, hq, BE1.out.trans hbb, hcl⟩)
              have HQ := Lib.hid (show R = .error x by rw [← HRS.out]; exact textM_close_err n r (pos + 1) m1 he)
              clear hE hx hq hbb hcl he hnx
              unfold errAt at EL ⊢
              go_wp2_with fail
              go_ret
              unfold DidE
              rw [HR.out, HQ.out]
              exact ⟨_, rfl, EL.out⟩
            | ok m2 =>
              obtain ⟨rfl, q3⟩ := textM_close_ok n r (pos + 1) m1 he
              rintro e w2 ⟨rfl, hm⟩
              have HM := Lib.hid hm
              have HQ := Lib.hid (show textM n r (pos + 1 + 1) 0 (m1.closeB (n, pos + 1)) = R by rw [← HRS.out]; exact q3.symm)
              clear hm q3 he hnx
              go_wp2_with fail
              have st := ch_step HS.out IT1.out BE1.out KP1.out HW.out HP.out HM.out (nx' := nx) (by rw [HDR.out, show nx - (pos + 1) = 0 by have := HNX.out; omega]; exact HQ.out) (fun j c h1 h2 _ => absurd h2 (by have := HNX.out; omega)) (by have := closeB_cost m1 (n, pos + 1); have := HCK.out; omega) HS.out.nl
              go_roundw
              case rel => exact st.1
              case measure => simp only [World.iterPos, st.2, HS.out.it]; have := HP.out; omega
          by_cases h124 : b = 124
          · skip
            subst h124
            have c2 := LX1.out.cells.2.2.1
            obtain ⟨po, co, hvo⟩ := lenS LX1.out.opns
            rw [hvo] at c2
            by_cases ho : m1.opn = []
            · have hl0 : (m1.opn.length : Int) ≤ 0 := by rw [ho]; decide
              have hl0' : ¬ 0 < m1.opn.length := by rw [ho]; decide
              have HO := Lib.hid ho
              have HE := Lib.hid (show Utf8.encode 124 = bs [124] by rfl)
              simp only [show (124 : UInt8).toNat = 124 from rfl] at hnx
              have he := HE.out
              clear hdec hb hvo ho
              go_wp2_with fail
              refine (character_pro W1 B g n (pos + 1) m1 [124] vt1 vo1 vr1 LX1.out (by have := HCO.out; simp; omega)).mono ?_
              rintro e w3 ⟨rfl, hm⟩
              have HM := Lib.hid hm
              clear hm hnx
              go_wp2_with fail
              have st := ch_step HS.out IT1.out BE1.out KP1.out HW.out HP.out HM.out (nx' := nx) (by rw [HDR.out, show nx - (pos + 1) = 0 by have := HNX.out; omega, ← HRS.out]; exact (textM_char n 124 r (pos + 1) m1 (by decide) (by decide) (by decide) (by decide) (.inr HO.out)).symm) (fun j c h1 h2 _ => absurd h2 (by have := HNX.out; omega)) (by have := char_cost m1 [124] (n, pos + 1); simp only [List.length_cons, List.length_nil] at this; have := HCK.out; omega) HS.out.nl
              go_roundw
              case rel => exact st.1
              case measure => simp only [World.iterPos, st.2, HS.out.it]; have := HP.out; omega
            · have hl0 : 0 < m1.opn.length := List.length_pos_iff.2 ho
              have hl0' : (0 : Int) < m1.opn.length := by omega
              have HQ := Lib.hid (show textM n r (pos + 1 + 1) 0 (m1.within 4 [] (n, pos + 1)) = R by rw [← HRS.out]; exact (textM_bar n r (pos + 1) m1 ho).symm)
              simp only [show (124 : UInt8).toNat = 124 from rfl] at hnx
              clear hdec hb hvo ho
              go_wp2_with fail
              refine (within_pro' W1 B g n m1 4 [] 0 0 (pos + 1) vt1 vo1 vr1 LX1.out HOU.out HRU.out).mono ?_
              rintro e w3 ⟨rfl, hm⟩
              have HM := Lib.hid hm
              clear hm hnx
              go_wp2_with fail
              have st := ch_step HS.out IT1.out BE1.out KP1.out HW.out HP.out HM.out (nx' := nx) (by rw [HDR.out, show nx - (pos + 1) = 0 by have := HNX.out; omega]; exact HQ.out) (fun j c h1 h2 _ => absurd h2 (by have := HNX.out; omega)) (by have := within_cost m1 4 [] (n, pos + 1); have := HCK.out; omega) HS.out.nl
              go_roundw
              case rel => exact st.1
              case measure => simp only [World.iterPos, st.2, HS.out.it]; have := HP.out; omega
          · skip
            have e1 : ((b.toNat : Int) == 32) = false := num_ne h32
            have e2 : ((b.toNat : Int) == 9) = false := num_ne h9
            have e3 : ((b.toNat : Int) == 92) = false := num_ne h92
            have e4 : ((b.toNat : Int) == 123) = false := num_ne h123
            have e5 : ((b.toNat : Int) == 125) = false := num_ne h125
            have e6 : ((b.toNat : Int) == 124) = false := num_ne h124
            have HEN := Lib.hid (show Utf8.encode (b.toNat : Int) = bs [b] from enc_ascii hb)
            have HB := Lib.hid (show isB b = false by unfold isB; rw [beq_eq_false_iff_ne.2 h32, beq_eq_false_iff_ne.2 h9]; rfl)
            have H92 := Lib.hid h92
            have H123 := Lib.hid h123
            have H125 := Lib.hid h125
            have H124 := Lib.hid h124
            clear hdec hb h32 h9 h92 h123 h125 h124
            go_wp2_with fail
            rw [HEN.out]
            refine (character_pro W1 B g n (pos + 1) m1 [b] vt1 vo1 vr1 LX1.out (by have := HCO.out; simp; omega)).mono ?_
            rintro e w3 ⟨rfl, hm⟩
            have HM := Lib.hid hm
            clear hm hnx
            go_wp2_with fail
            have st := ch_step HS.out IT1.out BE1.out KP1.out HW.out HP.out HM.out (nx' := nx) (by rw [HDR.out, show nx - (pos + 1) = 0 by have := HNX.out; omega, ← HRS.out]; exact (textM_char n b r (pos + 1) m1 HB.out H92.out H123.out H125.out (.inl H124.out)).symm) (fun j c h1 h2 _ => absurd h2 (by have := HNX.out; omega)) (by have := char_cost m1 [b] (n, pos + 1); simp only [List.length_cons, List.length_nil] at this; have := HCK.out; omega) HS.out.nl
            go_roundw
            case rel => exact st.1
            case measure => simp only [World.iterPos, st.2, HS.out.it]; have := HP.out; omega
      · rw [hWs] at hit
        have HW := Lib.hid hWs
        have HDR := Lib.hid (show l.drop (pos + s.length) = r by rw [← List.drop_drop, hd, List.drop_left])
        have IT1 := Lib.hid hit
        have LX1 := Lib.hid lx1
        have BE1 := Lib.hid be1
        have KP1 := Lib.hid kp1
        have hs0 : 0 < s.length := List.length_pos_iff.2 hne
        have hfirst : ∃ b, l[pos]? = some b ∧ 128 ≤ b.toNat := by
          rcases s with _ | ⟨b, t⟩
          · exact absurd rfl hne
          · refine ⟨b, ?_, hs128 b (by simp)⟩
            have h := List.getElem?_drop (xs := l) (i := pos) (j := 0)
            rw [hd] at h
            simpa using h.symm
        have hnk : nx ≤ pos := by
          rcases Nat.lt_or_ge pos nx with h | h
          · obtain ⟨b, h1, h2⟩ := hfirst
            have := hs.asc pos b (Nat.le_refl _) h h1
            omega
          · exact h
        rw [hd, show nx - pos = 0 by omega] at hres
        have HRS := Lib.hid (show textM n r (pos + 1 + s.length) 0 (m1.char s (n, pos + 1)) = R by rw [← hres]; exact (textM_high n s r (pos + 1) m1 hne hs128).symm)
        have HNX := Lib.hid hnk
        have hsk : ¬ (pos : Int) < nx := by omega
        obtain ⟨Q, eQ⟩ : ∃ Q, (Utf8.decode (bs l) pos).1 = Q := ⟨_, rfl⟩
        simp only [eQ] at hnx
        rw [eQ] at hR128 henc
        have HEN := Lib.hid henc
        have e1 : ((Q : Int) == 32) = false := by simp; omega
        have e2 : ((Q : Int) == 9) = false := by simp; omega
        have e3 : ((Q : Int) == 92) = false := by simp; omega
        have e4 : ((Q : Int) == 123) = false := by simp; omega
        have e5 : ((Q : Int) == 125) = false := by simp; omega
        have e6 : ((Q : Int) == 124) = false := by simp; omega
        have HS4 := Lib.hid (show s.length ≤ 4096 by have := congrArg List.length hd; rw [List.length_append, List.length_drop] at this; have := HLL.out; omega)
        have HS0 := Lib.hid hs0
        clear hs hit lx1 be1 kp1 hcoK hres hnl hd hbad hnk hfirst hs0 hne hs128 hWs hR128 henc eQ
        go_wp2_with fail
        rw [HEN.out]
        refine (character_pro W1 B g n (pos + 1) m1 s vt1 vo1 vr1 LX1.out (by have := HCO.out; have := HS4.out; omega)).mono ?_
        rintro e w3 ⟨rfl, hm⟩
        have HM := Lib.hid hm
        clear hm hnx
        go_wp2_with fail
        have st := ch_step HS.out IT1.out BE1.out KP1.out HW.out HP.out HM.out (nx' := nx) (by rw [HDR.out, show nx - (pos + s.length) = 0 by have := HNX.out; omega, show pos + s.length + 1 = pos + 1 + s.length by omega]; exact HRS.out) (fun j c h1 h2 _ => absurd h2 (by have := HNX.out; omega)) (by have := char_cost m1 s (n, pos + 1); have := HCK.out; have := HS0.out; omega) HS.out.nl
        go_roundw
        case rel => exact st.1
        case measure => simp only [World.iterPos, st.2, HS.out.it]; have := HP.out; have := HS0.out; omega
    · have hnx : ∀ ty, (Instr.next (.pointer (some ⟨w.heap.size, 0, none⟩)) true ty).run Tryz.prog wr = _ := fun ty => Lib.run_next_end_at wr w.heap.size (bs l) pos ty hs.it (by rw [bs_size]; exact hp)
      have hpl := hs.pl
      obtain rfl : pos = l.length := by omega
      have hres := hs.res
      rw [List.drop_length] at hres
      have hnl := hs.nl
      have HRE := Lib.hid (show R = .ok m1 by rw [← hres, show nx - l.length = 0 by omega]; rfl)
      clear hs hres hnl hpl hp
      go_wp2_with fail
      refine (blankM_pro wr B g n (l.length + 1) m1 vt1 vo1 vr1 HS.out.lx HN.out).mono ?_
      rintro e w1 ⟨rfl, h1⟩
      have H1 := Lib.hid h1
      clear h1 hnx
      go_wp2_with fail
      go_ret
      unfold DidE
      rw [HR.out, HRE.out]
      exact ⟨rfl, Moved.then HS.out.be HS.out.kp H1.out⟩
end Go.Proofs.YtmceiehnfmgioaaGreatDoor
