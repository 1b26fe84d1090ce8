/- The program's Compare and Group of layer 2. -/
import Derived.Test.YtoeknophfcfahaaGreatDoorPcmpn
namespace Go.Proofs.YtoeknophfcfahaaGreatDoor
open Go.RowKit Go.Maps

/-- How many elements a block of two texts still tells. -/
def toldLen (w : World) (B : Nat) : Nat := match w.cell? ⟨B, 0, none⟩, w.cell? ⟨B, 1, none⟩ with | some (.string a), some (.string b) => (told a b).length | _, _ => 0
theorem Pair.told {w : World} {B : Nat} {a b : ByteArray} (h : Pair w B a b) : toldLen w B = (told a b).length := by unfold toldLen; rw [h.c0, h.c1]
theorem Pair.grown {w w' : World} {B B' : Nat} {a b : ByteArray} (h : Pair w B a b) (hg : w.grownBy w' (some B')) (hne : B ≠ B') : Pair w' B a b := (hg.block B h.lt (by simpa using hne)).trans h
theorem Pair.alloc {w : World} {B : Nat} {a b : ByteArray} (h : Pair w B a b) (o : Obj) : Pair (w.alloc o) B a b := (Below.heap_alloc _ _ _ h.lt).trans h
theorem below_grown {B R : Nat} {w w1 w2 : World} (h : Below B w w1) (hg : w1.grownBy w2 (some R)) (hB : B ≤ R) (hs : B ≤ w1.heap.size) : Below B w w2 := h.grown hg hs (fun k e => by cases e; exact hB)
theorem Tabs.alloc {w : World} (h : Tabs w) (o : Obj) : Tabs (w.alloc o) := h.below ((Below.refl w.heap.size w).alloc (Nat.le_refl _) o) (Nat.le_refl _)

set_option maxRecDepth 100000 in
set_option maxHeartbeats 4000000 in
theorem letters_pro (a b : ByteArray) (w : World) (ha : a.size ≤ 16777216) (hb : b.size ≤ 16777216) (hT : Tabs w) :
    Calls Tryz.prog 63 #[.string a, .string b] w (Says (.int .i64 (cmpL elCmp (elems a) (elems b))) w) := by
  have HA := Lib.hid ha
  have HB := Lib.hid hb
  have HTW := Lib.hid hT
  have h3 := hT.lt
  clear ha hb hT
  go_enter Tryz.func63, Tryz.ntmps63
  go_wp2_with fail
  go_loopw [] (fun wr => ∃ ra ba rb bb : ByteArray, Pair wr w.heap.size ra ba ∧ Pair wr (w.heap.size + 1) rb bb ∧ ra.size ≤ 16777216 ∧ ba.size ≤ 16777216 ∧ rb.size ≤ 16777216 ∧ bb.size ≤ 16777216 ∧ Below w.heap.size w wr ∧ cmpL elCmp (elems a) (elems b) = cmpL elCmp (told ra ba) (told rb bb)) (fun wr => toldLen wr w.heap.size)
  case atStart =>
    refine ⟨a, ByteArray.empty, b, ByteArray.empty, ?_, ?_, HA.out, by simp, HB.out, by simp, ((Below.refl _ w).alloc (Nat.le_refl _) _).alloc (by simp) _, by rw [elems_told, elems_told]⟩
    · exact Pair.alloc (World.alloc_heap_new w _) _
    · have := World.alloc_heap_new (w.alloc (.cells #[.string a, .string ByteArray.empty] 194)) (.cells #[.string b, .string ByteArray.empty] 194)
      rwa [World.size_alloc] at this
  case round =>
    obtain ⟨ra, ba, rb, bb, hp1, hp2, hra, hba, hrb, hbb, hz, hc⟩ := hrel
    have P1 := Lib.hid hp1
    have P2 := Lib.hid hp2
    have HZ := Lib.hid hz
    have HC := Lib.hid hc
    have T0 := Lib.hid (HTW.out.below hz (Nat.le_refl _))
    clear hp1 hp2 hz hc
    go_wp2_with fail
    refine (next_pro w.heap.size ra ba _ P1.out hra hba T0.out).mono ?_
    rintro e w1 ⟨ra2, ba2, q1, hra2, hba2, g1, hx⟩
    have Q1 := Lib.hid q1
    have R1 := Lib.hid (P2.out.grown g1 (by omega))
    have T1 := Lib.hid (T0.out.grown g1 h3)
    have Z1 := Lib.hid (below_grown HZ.out g1 (Nat.le_refl _) HZ.out.size)
    clear q1 g1
    rcases hx with ⟨hx, rfl⟩ | ⟨x, hfx, hx, rfl⟩
    · have HX := Lib.hid hx
      clear hx
      go_wp2_with fail
      refine (next_pro (w.heap.size + 1) rb bb _ (R1.out.alloc _) hrb hbb (T1.out.alloc _)).mono ?_
      rintro e w2 ⟨rb2, bb2, q2, hrb2, hbb2, g2, hy⟩
      have Z2 := Lib.hid (below_grown (Z1.out.alloc Z1.out.size (.cells #[.int .i64 0, .int .i32 0, .string ByteArray.empty] 196)) g2 (Nat.le_succ _) (by have := Z1.out.size; simp; omega))
      clear q2 g2
      rcases hy with ⟨hy, rfl⟩ | ⟨y, hfy, hy, rfl⟩
      · have HV := Lib.hid (show cmpL elCmp (elems a) (elems b) = 0 by rw [HC.out, HX.out, hy]; rfl)
        clear hy
        go_wp2_with fail
        go_ret
        rw [HV.out]
        exact ⟨rfl, Z2.out.alloc Z2.out.size _⟩
      · have HV := Lib.hid (show cmpL elCmp (elems a) (elems b) = -1 by rw [HC.out, HX.out, hy]; rfl)
        clear hy
        unfold elV
        go_wp2_with fail
        go_ret
        rw [HV.out]
        exact ⟨rfl, Z2.out.alloc Z2.out.size _⟩
    · have HX := Lib.hid hx
      have HFX := Lib.hid hfx
      clear hx hfx
      unfold elV
      go_wp2_with fail
      have hn1 := World.alloc_heap_new w1 (.cells #[.int .i64 x.cls, .int .i32 x.code, .string x.digs] 196)
      have HN1 := Lib.hid hn1
      clear hn1
      refine (next_pro (w.heap.size + 1) rb bb _ (R1.out.alloc _) hrb hbb (T1.out.alloc _)).mono ?_
      rintro e w2 ⟨rb2, bb2, q2, hrb2, hbb2, g2, hy⟩
      have hsz1 := R1.out.lt
      have N2 := Lib.hid ((g2.block w1.heap.size (by simp) (by simp; omega)).trans HN1.out)
      have Z2 := Lib.hid (below_grown (Z1.out.alloc Z1.out.size (.cells #[.int .i64 x.cls, .int .i32 x.code, .string x.digs] 196)) g2 (Nat.le_succ _) (by have := Z1.out.size; simp; omega))
      have Q2 := Lib.hid q2
      have S1 := Lib.hid ((Q1.out.alloc _).grown g2 (by omega))
      clear q2 g2
      rcases hy with ⟨hy, rfl⟩ | ⟨y, hfy, hy, rfl⟩
      · have HV := Lib.hid (show cmpL elCmp (elems a) (elems b) = 1 by rw [HC.out, HX.out, hy]; rfl)
        clear hy
        go_wp2_with fail
        go_ret
        rw [HV.out]
        exact ⟨rfl, Z2.out.alloc Z2.out.size _⟩
      · have HV := Lib.hid (show cmpL elCmp (elems a) (elems b) = if elCmp x y = 0 then cmpL elCmp (told ra2 ba2) (told rb2 bb2) else elCmp x y by rw [HC.out, HX.out, hy]; rfl)
        have HY := Lib.hid hfy
        clear hy hfy
        have hlt : w1.heap.size < w2.heap.size := (Array.getElem?_eq_some_iff.1 N2.out).1
        have m0 : w2.cell? ⟨w1.heap.size, 0, none⟩ = some (.int .i64 x.cls) := by simp [World.cell?, N2.out]
        have m1 : w2.cell? ⟨w1.heap.size, 1, none⟩ = some (.int .i32 x.code) := by simp [World.cell?, N2.out]
        have m2 : w2.cell? ⟨w1.heap.size, 2, none⟩ = some (.string x.digs) := by simp [World.cell?, N2.out]
        unfold elV
        go_wp2_with fail
        refine (elcmp_pro x y _ HFX.out HY.out).mono ?_
        rintro e w3 ⟨rfl, h3⟩
        have Z3 := Lib.hid ((Z2.out.alloc Z2.out.size (.cells #[.int .i64 y.cls, .int .i32 y.code, .string y.digs] 196)).trans (h3.mono (by have := Z2.out.size; simp; omega)))
        have S3 := Lib.hid ((S1.out.alloc (.cells #[.int .i64 y.cls, .int .i32 y.code, .string y.digs] 196)).below h3)
        have Q3 := Lib.hid ((Q2.out.alloc (.cells #[.int .i64 y.cls, .int .i32 y.code, .string y.digs] 196)).below h3)
        clear h3 m0 m1 m2
        by_cases he : elCmp x y = 0
        · have t1 : (elCmp x y != 0) = false := by simpa using he
          have HE := Lib.hid he
          clear he
          go_wp2_with fail
          go_roundw
          case rel => exact ⟨ra2, ba2, rb2, bb2, S3.out, Q3.out, hra2, hba2, hrb2, hbb2, Z3.out, by rw [HV.out, if_pos HE.out]⟩
          case measure => rw [S3.out.told, P1.out.told, HX.out]; simp
        · have t1 : (elCmp x y != 0) = true := by simpa using he
          have HE := Lib.hid he
          clear he
          go_wp2_with fail
          go_ret
          rw [HV.out, if_neg HE.out]
          exact ⟨rfl, Z3.out⟩

theorem itself_pro (r : Int) (w : World) : Calls Tryz.prog 66 #[.int .i32 r] w fun e w' => e = .returned (.int .i32 r) ∧ w = w' := by
  go_enter Tryz.func66, Tryz.ntmps66
  go_wp2
  go_ret
  exact ⟨rfl, rfl⟩
def cdCmp (small : Bool) (x y : Nat) : Int := if small then sgn (sml x) (sml y) else sgn x y
theorem cmpL_map {α β : Type} (f : β → β → Int) (g : α → β) : ∀ (l m : List α), cmpL (fun x y => f (g x) (g y)) l m = cmpL f (l.map g) (m.map g)
  | [], [] => rfl
  | [], _ :: _ => rfl
  | _ :: _, [] => rfl
  | x :: l, y :: m => by simp only [cmpL, List.map_cons, cmpL_map f g l m]
theorem codes_cds (small : Bool) (a b : ByteArray) : cmpL (codeCmp small) (chars a) (chars b) = cmpL (cdCmp small) (cds a) (cds b) := cmpL_map (cdCmp small) (fun c : Ch => c.2.1) (chars a) (chars b)

set_option maxRecDepth 100000 in
set_option maxHeartbeats 4000000 in
theorem runes_small (a b : ByteArray) (w : World) (ha : a.size ≤ 16777216) (hb : b.size ≤ 16777216) (hT : Tabs w) :
    Calls Tryz.prog 64 #[.string a, .string b, .func (.func 65) #[] #[]] w (Says (.int .i64 (cmpL (codeCmp true) (chars a) (chars b))) w) := by
  rw [codes_cds]
  have HA := Lib.hid ha
  have HB := Lib.hid hb
  have HTW := Lib.hid hT
  clear ha hb hT
  go_enter Tryz.func64, Tryz.ntmps64
  go_wp2_with fail
  go_loopw [1] (fun v wr => ∃ (pos fuel : Nat) (t : ByteArray), v = .string t ∧ t.size ≤ 16777216 ∧ wr.heap[w.heap.size]? = some (.stringIter a pos) ∧ Below w.heap.size w wr ∧ a.size ≤ pos + fuel ∧ cmpL (cdCmp true) (cds a) (cds b) = cmpL (cdCmp true) ((chs a fuel pos).map (·.2.1)) (cds t)) (fun _ wr => a.size - wr.iterPos w.heap.size)
  case atStart =>
    refine ⟨0, a.size, b, rfl, HB.out, ?_, (Below.refl _ w).alloc (Nat.le_refl _) _, by omega, rfl⟩
    have := World.iter_heap w a 0
    simpa using this
  case round =>
    obtain ⟨pos, fuel, t, rfl, hts, hit, hbw, hfu, hc⟩ := hrel
    have HI := Lib.hid hit
    by_cases hp : pos < a.size
    · have hnx : ∀ ty, (Instr.next (.pointer (some ⟨w.heap.size, 0, none⟩)) true ty).run Tryz.prog wr = _ := fun ty => Lib.run_next_any_at wr w.heap.size a pos ty hit hp
      have hwd := width_pos a pos hp
      have hit2 := Lib.iterAt_heap wr w.heap.size a pos (pos + (Utf8.decode a pos).2) hit
      have hbw2 := Lib.below_iterAt hbw (k := w.heap.size) (Nat.le_refl _) a (pos + (Utf8.decode a pos).2)
      obtain ⟨f, rfl⟩ : ∃ f, fuel = f + 1 := ⟨fuel - 1, by omega⟩
      have hc2 : cmpL (cdCmp true) (cds a) (cds b) = cmpL (cdCmp true) ((Utf8.decode a pos).1 :: (chs a f (pos + (Utf8.decode a pos).2)).map (·.2.1)) (cds t) := by
        rw [hc]; simp [chs, hp]
      have hra := decode_le a pos
      have HC := Lib.hid hc2
      have HT := Lib.hid (HTW.out.below hbw2 (Nat.le_refl _))
      have HI2 := Lib.hid hit2
      have HB2 := Lib.hid hbw2
      have HP := Lib.hid hp
      have HTS := Lib.hid hts
      clear hit hbw hit2 hbw2 hc hc2 hp hts
      obtain ⟨c, hcd⟩ : ∃ c : Nat × Nat, Utf8.decode a pos = c := ⟨_, rfl⟩
      rw [hcd] at hnx hwd HC HI2 HB2 HT hra
      clear hcd
      by_cases hz : t.size = 0
      · have hd : Lib.decodeGo t = (65533, 0) := by unfold Lib.decodeGo; rw [if_pos hz]
        have HD := Lib.hid hd
        have HV := Lib.hid (show cmpL (cdCmp true) (cds a) (cds b) = 1 by rw [HC.out, cds_nil hz]; rfl)
        clear hd hz
        go_wp2_with fail
        refine (Tryz.utf8_DecodeRuneInString _ _ HT.out.1).mono ?_
        rw [HD.out]
        rintro e w1 ⟨rfl, h1⟩
        have Z1 := Lib.hid (HB2.out.trans (h1.mono HB2.out.size))
        clear h1
        go_wp2_with fail
        go_ret
        rw [HV.out]
        exact ⟨rfl, Z1.out⟩
      · have HD := Lib.hid (decGo hz)
        have hwt := width_pos t 0 (by omega)
        have hft := decode_fits t 0 (by omega)
        have hrt := decode_le t 0
        have HV := Lib.hid (show cmpL (cdCmp true) (cds a) (cds b) = if cdCmp true c.1 (Utf8.decode t 0).1 = 0 then cmpL (cdCmp true) ((chs a f (pos + c.2)).map (·.2.1)) (cds (behind t (Utf8.decode t 0).2)) else cdCmp true c.1 (Utf8.decode t 0).1 by rw [HC.out, cds_cons (by omega)]; rfl)
        obtain ⟨d, hdd⟩ : ∃ d : Nat × Nat, Utf8.decode t 0 = d := ⟨_, rfl⟩
        rw [hdd] at hwt hft hrt HV HD
        clear hdd
        have d1 : ¬ ((d.2 : Int) = 0) := by omega
        have d2 : (0 : Int) ≤ d.2 := by omega
        have d3 : (d.2 : Int) ≤ t.size := by omega
        have HRA := Lib.hid (show -2147483648 ≤ (c.1 : Int) ∧ (c.1 : Int) ≤ 2147483647 by omega)
        have HRT := Lib.hid (show -2147483648 ≤ (d.1 : Int) ∧ (d.1 : Int) ≤ 2147483647 by omega)
        have HSZ := Lib.hid (show (behind t d.2).size ≤ 16777216 by rw [behind_size]; have := HTS.out; omega)
        clear hz hwt hft hrt hra
        go_wp2_with fail
        refine (Tryz.utf8_DecodeRuneInString _ _ HT.out.1).mono ?_
        rw [HD.out]
        rintro e w1 ⟨rfl, h1⟩
        have I1 := Lib.hid ((h1.block w.heap.size (Array.getElem?_eq_some_iff.1 HI2.out).1).trans HI2.out)
        have Z1 := Lib.hid (HB2.out.trans (h1.mono HB2.out.size))
        clear h1
        go_wp2_with fail
        refine (small_q _ _ HRA.out).mono ?_
        rintro e w2 ⟨rfl, rfl⟩
        go_wp2_with fail
        refine (small_q _ _ HRT.out).mono ?_
        rintro e w2 ⟨rfl, rfl⟩
        go_wp2_with fail
        refine (cmp32_pro _ _ _).mono ?_
        rintro e w2 ⟨rfl, rfl⟩
        by_cases he : cdCmp true c.1 d.1 = 0
        · have t1 : (sgn (sml (c.1 : Int)) (sml (d.1 : Int)) != 0) = false := by simpa [cdCmp] using he
          have HE := Lib.hid he
          clear he
          go_wp2_with fail
          go_roundw
          case rel => exact ⟨_, f, _, rfl, HSZ.out, I1.out, Z1.out, by omega, by rw [HV.out, if_pos HE.out]; rfl⟩
          case measure => simp only [World.iterPos, I1.out, HI.out]; have := HP.out; omega
        · have t1 : (sgn (sml (c.1 : Int)) (sml (d.1 : Int)) != 0) = true := by simpa [cdCmp] using he
          have HE := Lib.hid he
          clear he
          go_wp2_with fail
          go_ret
          rw [HV.out, if_neg HE.out]
          exact ⟨rfl, Z1.out⟩
    · have hnx : ∀ ty, (Instr.next (.pointer (some ⟨w.heap.size, 0, none⟩)) true ty).run Tryz.prog wr = _ := fun ty => Lib.run_next_end_at wr w.heap.size a pos ty hit hp
      rw [chs_end a fuel _ hp, List.map_nil] at hc
      have HBW := Lib.hid hbw
      by_cases hz : t.size = 0
      · have n1 := isNil hz
        have HV := Lib.hid (show cmpL (cdCmp true) (cds a) (cds b) = 0 by rw [hc, cds_nil hz]; rfl)
        clear hz hc hit hbw hts
        go_wp2_with fail
        go_ret
        rw [HV.out]
        exact ⟨rfl, HBW.out⟩
      · have n1 := notEmpty (s := t) (by omega)
        have HV := Lib.hid (show cmpL (cdCmp true) (cds a) (cds b) = -1 by rw [hc, cds_cons (by omega)]; rfl)
        clear hz hc hit hbw hts
        go_wp2_with fail
        go_ret
        rw [HV.out]
        exact ⟨rfl, HBW.out⟩

set_option maxRecDepth 100000 in
set_option maxHeartbeats 4000000 in
theorem runes_self (a b : ByteArray) (w : World) (ha : a.size ≤ 16777216) (hb : b.size ≤ 16777216) (hT : Tabs w) :
    Calls Tryz.prog 64 #[.string a, .string b, .func (.func 66) #[] #[]] w (Says (.int .i64 (cmpL (codeCmp false) (chars a) (chars b))) w) := by
  rw [codes_cds]
  have HA := Lib.hid ha
  have HB := Lib.hid hb
  have HTW := Lib.hid hT
  clear ha hb hT
  go_enter Tryz.func64, Tryz.ntmps64
  go_wp2_with fail
  go_loopw [1] (fun v wr => ∃ (pos fuel : Nat) (t : ByteArray), v = .string t ∧ t.size ≤ 16777216 ∧ wr.heap[w.heap.size]? = some (.stringIter a pos) ∧ Below w.heap.size w wr ∧ a.size ≤ pos + fuel ∧ cmpL (cdCmp false) (cds a) (cds b) = cmpL (cdCmp false) ((chs a fuel pos).map (·.2.1)) (cds t)) (fun _ wr => a.size - wr.iterPos w.heap.size)
  case atStart =>
    refine ⟨0, a.size, b, rfl, HB.out, ?_, (Below.refl _ w).alloc (Nat.le_refl _) _, by omega, rfl⟩
    have := World.iter_heap w a 0
    simpa using this
  case round =>
    obtain ⟨pos, fuel, t, rfl, hts, hit, hbw, hfu, hc⟩ := hrel
    have HI := Lib.hid hit
    by_cases hp : pos < a.size
    · have hnx : ∀ ty, (Instr.next (.pointer (some ⟨w.heap.size, 0, none⟩)) true ty).run Tryz.prog wr = _ := fun ty => Lib.run_next_any_at wr w.heap.size a pos ty hit hp
      have hwd := width_pos a pos hp
      have hit2 := Lib.iterAt_heap wr w.heap.size a pos (pos + (Utf8.decode a pos).2) hit
      have hbw2 := Lib.below_iterAt hbw (k := w.heap.size) (Nat.le_refl _) a (pos + (Utf8.decode a pos).2)
      obtain ⟨f, rfl⟩ : ∃ f, fuel = f + 1 := ⟨fuel - 1, by omega⟩
      have hc2 : cmpL (cdCmp false) (cds a) (cds b) = cmpL (cdCmp false) ((Utf8.decode a pos).1 :: (chs a f (pos + (Utf8.decode a pos).2)).map (·.2.1)) (cds t) := by
        rw [hc]; simp [chs, hp]
      have hra := decode_le a pos
      have HC := Lib.hid hc2
      have HT := Lib.hid (HTW.out.below hbw2 (Nat.le_refl _))
      have HI2 := Lib.hid hit2
      have HB2 := Lib.hid hbw2
      have HP := Lib.hid hp
      have HTS := Lib.hid hts
      clear hit hbw hit2 hbw2 hc hc2 hp hts
      obtain ⟨c, hcd⟩ : ∃ c : Nat × Nat, Utf8.decode a pos = c := ⟨_, rfl⟩
      rw [hcd] at hnx hwd HC HI2 HB2 HT hra
      clear hcd
      by_cases hz : t.size = 0
      · have hd : Lib.decodeGo t = (65533, 0) := by unfold Lib.decodeGo; rw [if_pos hz]
        have HD := Lib.hid hd
        have HV := Lib.hid (show cmpL (cdCmp false) (cds a) (cds b) = 1 by rw [HC.out, cds_nil hz]; rfl)
        clear hd hz
        go_wp2_with fail
        refine (Tryz.utf8_DecodeRuneInString _ _ HT.out.1).mono ?_
        rw [HD.out]
        rintro e w1 ⟨rfl, h1⟩
        have Z1 := Lib.hid (HB2.out.trans (h1.mono HB2.out.size))
        clear h1
        go_wp2_with fail
        go_ret
        rw [HV.out]
        exact ⟨rfl, Z1.out⟩
      · have HD := Lib.hid (decGo hz)
        have hwt := width_pos t 0 (by omega)
        have hft := decode_fits t 0 (by omega)
        have hrt := decode_le t 0
        have HV := Lib.hid (show cmpL (cdCmp false) (cds a) (cds b) = if cdCmp false c.1 (Utf8.decode t 0).1 = 0 then cmpL (cdCmp false) ((chs a f (pos + c.2)).map (·.2.1)) (cds (behind t (Utf8.decode t 0).2)) else cdCmp false c.1 (Utf8.decode t 0).1 by rw [HC.out, cds_cons (by omega)]; rfl)
        obtain ⟨d, hdd⟩ : ∃ d : Nat × Nat, Utf8.decode t 0 = d := ⟨_, rfl⟩
        rw [hdd] at hwt hft hrt HV HD
        clear hdd
        have d1 : ¬ ((d.2 : Int) = 0) := by omega
        have d2 : (0 : Int) ≤ d.2 := by omega
        have d3 : (d.2 : Int) ≤ t.size := by omega
        have HRA := Lib.hid (show -2147483648 ≤ (c.1 : Int) ∧ (c.1 : Int) ≤ 2147483647 by omega)
        have HRT := Lib.hid (show -2147483648 ≤ (d.1 : Int) ∧ (d.1 : Int) ≤ 2147483647 by omega)
        have HSZ := Lib.hid (show (behind t d.2).size ≤ 16777216 by rw [behind_size]; have := HTS.out; omega)
        clear hz hwt hft hrt hra
        go_wp2_with fail
        refine (Tryz.utf8_DecodeRuneInString _ _ HT.out.1).mono ?_
        rw [HD.out]
        rintro e w1 ⟨rfl, h1⟩
        have I1 := Lib.hid ((h1.block w.heap.size (Array.getElem?_eq_some_iff.1 HI2.out).1).trans HI2.out)
        have Z1 := Lib.hid (HB2.out.trans (h1.mono HB2.out.size))
        clear h1
        go_wp2_with fail
        refine (itself_pro _ _).mono ?_
        rintro e w2 ⟨rfl, rfl⟩
        go_wp2_with fail
        refine (itself_pro _ _).mono ?_
        rintro e w2 ⟨rfl, rfl⟩
        go_wp2_with fail
        refine (cmp32_pro _ _ _).mono ?_
        rintro e w2 ⟨rfl, rfl⟩
        by_cases he : cdCmp false c.1 d.1 = 0
        · have t1 : (sgn ((c.1 : Int)) ((d.1 : Int)) != 0) = false := by simpa [cdCmp] using he
          have HE := Lib.hid he
          clear he
          go_wp2_with fail
          go_roundw
          case rel => exact ⟨_, f, _, rfl, HSZ.out, I1.out, Z1.out, by omega, by rw [HV.out, if_pos HE.out]; rfl⟩
          case measure => simp only [World.iterPos, I1.out, HI.out]; have := HP.out; omega
        · have t1 : (sgn ((c.1 : Int)) ((d.1 : Int)) != 0) = true := by simpa [cdCmp] using he
          have HE := Lib.hid he
          clear he
          go_wp2_with fail
          go_ret
          rw [HV.out, if_neg HE.out]
          exact ⟨rfl, Z1.out⟩
    · have hnx : ∀ ty, (Instr.next (.pointer (some ⟨w.heap.size, 0, none⟩)) true ty).run Tryz.prog wr = _ := fun ty => Lib.run_next_end_at wr w.heap.size a pos ty hit hp
      rw [chs_end a fuel _ hp, List.map_nil] at hc
      have HBW := Lib.hid hbw
      by_cases hz : t.size = 0
      · have n1 := isNil hz
        have HV := Lib.hid (show cmpL (cdCmp false) (cds a) (cds b) = 0 by rw [hc, cds_nil hz]; rfl)
        clear hz hc hit hbw hts
        go_wp2_with fail
        go_ret
        rw [HV.out]
        exact ⟨rfl, HBW.out⟩
      · have n1 := notEmpty (s := t) (by omega)
        have HV := Lib.hid (show cmpL (cdCmp false) (cds a) (cds b) = -1 by rw [hc, cds_cons (by omega)]; rfl)
        clear hz hc hit hbw hts
        go_wp2_with fail
        go_ret
        rw [HV.out]
        exact ⟨rfl, HBW.out⟩

set_option maxRecDepth 100000 in
set_option maxHeartbeats 4000000 in
theorem compare_pro (a b : ByteArray) (w : World) (ha : a.size ≤ 16777216) (hb : b.size ≤ 16777216) (hT : Tabs w) :
    Calls Tryz.prog 32 #[.string a, .string b] w (Says (.int .i64 (compare a b)) w) := by
  have HA := Lib.hid ha
  have HB := Lib.hid hb
  have HT := Lib.hid hT
  clear ha hb hT
  go_enter Tryz.func32, Tryz.ntmps32
  go_wp2_with fail
  refine (letters_pro a b _ HA.out HB.out HT.out).mono ?_
  rintro e w1 ⟨rfl, h1⟩
  have Z1 := Lib.hid h1
  have T1 := Lib.hid (HT.out.below h1 (Nat.le_refl _))
  clear h1
  by_cases e1 : cmpL elCmp (elems a) (elems b) = 0
  · have t1 : (cmpL elCmp (elems a) (elems b) != 0) = false := by simpa using e1
    have E1 := Lib.hid e1
    clear e1
    go_wp2_with fail
    refine (runes_small a b _ HA.out HB.out T1.out).mono ?_
    rintro e w2 ⟨rfl, h2⟩
    have Z2 := Lib.hid (Z1.out.trans (h2.mono Z1.out.size))
    have T2 := Lib.hid (T1.out.below h2 (Nat.le_refl _))
    clear h2
    by_cases e2 : cmpL (codeCmp true) (chars a) (chars b) = 0
    · have t2 : (cmpL (codeCmp true) (chars a) (chars b) != 0) = false := by simpa using e2
      have E2 := Lib.hid e2
      clear e2
      go_wp2_with fail
      refine (runes_self a b _ HA.out HB.out T2.out).mono ?_
      rintro e w3 ⟨rfl, h3⟩
      have Z3 := Lib.hid (Z2.out.trans (h3.mono Z2.out.size))
      clear h3
      by_cases e3 : cmpL (codeCmp false) (chars a) (chars b) = 0
      · have t3 : (cmpL (codeCmp false) (chars a) (chars b) != 0) = false := by simpa using e3
        have HF := Lib.hid (show compare a b = bytesCmp a b by unfold compare; rw [if_neg (by simpa using E1.out), if_neg (by simpa using E2.out), if_neg (by simpa using e3)])
        clear e3
        go_wp2_with fail
        refine (strcmp_pro _ _ _).mono ?_
        rintro e w4 ⟨rfl, rfl⟩
        go_wp2_with fail
        go_ret
        exact ⟨ret_i HF.out.symm, Z3.out⟩
      · have t3 : (cmpL (codeCmp false) (chars a) (chars b) != 0) = true := by simpa using e3
        have HF := Lib.hid (show compare a b = cmpL (codeCmp false) (chars a) (chars b) by unfold compare; rw [if_neg (by simpa using E1.out), if_neg (by simpa using E2.out), if_pos e3])
        clear e3
        go_wp2_with fail
        go_ret
        exact ⟨ret_i HF.out.symm, Z3.out⟩
    · have t2 : (cmpL (codeCmp true) (chars a) (chars b) != 0) = true := by simpa using e2
      have HF := Lib.hid (show compare a b = cmpL (codeCmp true) (chars a) (chars b) by unfold compare; rw [if_neg (by simpa using E1.out), if_pos e2])
      clear e2
      go_wp2_with fail
      go_ret
      exact ⟨ret_i HF.out.symm, Z2.out⟩
  · have t1 : (cmpL elCmp (elems a) (elems b) != 0) = true := by simpa using e1
    have HF := Lib.hid (show compare a b = cmpL elCmp (elems a) (elems b) by unfold compare; rw [if_pos e1])
    clear e1
    go_wp2_with fail
    go_ret
    exact ⟨ret_i HF.out.symm, Z1.out⟩

end Go.Proofs.YtoeknophfcfahaaGreatDoor
