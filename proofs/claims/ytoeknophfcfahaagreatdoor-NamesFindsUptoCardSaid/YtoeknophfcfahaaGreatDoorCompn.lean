/- Compare and Group of the document's answer for layer 2. -/
import Derived.Test.YtoeknophfcfahaaGreatDoorElemsn
import Derived.StillTailTactics
namespace Go.Proofs.YtoeknophfcfahaaGreatDoor
open Go.RowKit Go.Maps

theorem encode_digit (r : Int) (h : inB r 48 57 = true) : (Utf8.encode r).size = 1 := by
  simp [inB] at h
  have h2 : r = 48 ∨ r = 49 ∨ r = 50 ∨ r = 51 ∨ r = 52 ∨ r = 53 ∨ r = 54 ∨ r = 55 ∨ r = 56 ∨ r = 57 := by omega
  rcases h2 with rfl | rfl | rfl | rfl | rfl | rfl | rfl | rfl | rfl | rfl <;> rfl
theorem runD_size : ∀ (l : List Ch) (d : ByteArray), (runD l d).1.size ≤ d.size + l.length ∧ (runD l d).2.length ≤ l.length
  | [], d => by simp [runD]
  | c :: l, d => by
    cases hd : isDig c
    · simp [runD, hd]
    · have ih := runD_size l (digStep d c)
      have h1 : (digStep d c).size ≤ d.size + 1 := by
        unfold digStep
        split
        · rw [ByteArray.size_append, encode_digit _ hd]; omega
        · omega
      simp only [runD, hd, if_true, List.length_cons]
      omega
def ElOk (n : Nat) (y : El) : Prop := y.digs.size ≤ n ∧ -2147483648 ≤ y.code ∧ y.code ≤ 2147483647
theorem elemsF_ok : ∀ (f : Nat) (l : List Ch) (n : Nat), l.length ≤ n → ∀ y ∈ elemsF f l, ElOk n y
  | 0, l, n, _, y, h => by simp [elemsF] at h
  | f + 1, [], n, _, y, h => by simp [elemsF] at h
  | f + 1, c :: l, n, hn, y, h => by
    have hs := runD_size (c :: l) ByteArray.empty
    have he : ByteArray.empty.size = 0 := rfl
    cases hd : isDig c
    · by_cases hz : wid c.2.1 = 0
      · simp only [elemsF, hd, Bool.false_eq_true, if_false, hz, if_true] at h
        exact elemsF_ok f l n (by simp at hn; omega) y h
      · simp only [elemsF, hd, Bool.false_eq_true, if_false, hz, List.mem_append, List.mem_map] at h
        rcases h with ⟨d, hm, rfl⟩ | h
        · have := chars_rune _ d hm
          refine ⟨by show ByteArray.empty.size ≤ n; omega, ?_, ?_⟩
          · show -2147483648 ≤ (d.2.1 : Int); omega
          · show (d.2.1 : Int) ≤ 2147483647; omega
        · exact elemsF_ok f l n (by simp at hn; omega) y h
    · simp only [elemsF, hd, if_true, List.mem_cons] at h
      rcases h with rfl | h
      · refine ⟨?_, ?_, ?_⟩
        · show (runD (c :: l) ByteArray.empty).1.size ≤ n; omega
        · show -2147483648 ≤ (0 : Int); omega
        · show (0 : Int) ≤ 2147483647; omega
      · exact elemsF_ok f _ n (by omega) y h
theorem elems_ok (s : ByteArray) (hs : s.size ≤ 16777216) : ∀ y ∈ elems s, ElOk 16777216 y := elemsF_ok _ _ _ (Nat.le_trans (chars_len s) hs)
theorem elemsF_len : ∀ (f : Nat) (l : List Ch), (elemsF f l).length ≤ 4 * l.length
  | 0, l => by simp [elemsF]
  | f + 1, [] => by simp [elemsF]
  | f + 1, c :: l => by
    cases hd : isDig c
    · have ih := elemsF_len f l
      by_cases hz : wid c.2.1 = 0
      · simp only [elemsF, hd, Bool.false_eq_true, if_false, hz, if_true, List.length_cons]; omega
      · have hb : (chars (bas c.2.1)).length ≤ 4 := Nat.le_trans (chars_len _) (bas_size _)
        simp only [elemsF, hd, Bool.false_eq_true, if_false, hz, List.length_append, List.length_map, List.length_cons]; omega
    · have hr : (runD (c :: l) ByteArray.empty).2.length ≤ l.length := by simp only [runD, hd, if_true]; exact (runD_size _ _).2
      have ih := elemsF_len f (runD (c :: l) ByteArray.empty).2
      simp only [elemsF, hd, if_true, List.length_cons]; omega
theorem elems_len (s : ByteArray) : (elems s).length ≤ 4 * s.size := Nat.le_trans (elemsF_len _ _) (Nat.mul_le_mul_left 4 (chars_len s))
/-- The order of an index. -/
def compare (a b : ByteArray) : Int :=
  if cmpL elCmp (elems a) (elems b) ≠ 0 then cmpL elCmp (elems a) (elems b)
  else if cmpL (codeCmp true) (chars a) (chars b) ≠ 0 then cmpL (codeCmp true) (chars a) (chars b)
  else if cmpL (codeCmp false) (chars a) (chars b) ≠ 0 then cmpL (codeCmp false) (chars a) (chars b)
  else bytesCmp a b

set_option maxRecDepth 100000 in
set_option maxHeartbeats 2000000 in
theorem compare_ref (a b : ByteArray) (w : World) (ha : a.size ≤ 16777216) (hb : b.size ≤ 16777216) :
    Calls Tryz.prog 35 #[.string a, .string b] w fun e w' => e = .returned (.int .i64 (compare a b)) ∧ Below w.heap.size w w' := by
  have SA := Lib.hid ha
  have SB := Lib.hid hb
  have hla := elems_len a
  have hlb := elems_len b
  have hla2 : (elems a).length ≤ 67108864 := by omega
  have hlb2 : (elems b).length ≤ 67108864 := by omega
  clear ha hb hla hlb
  go_enter Tryz.func35, Tryz.ntmps35
  go_wp2_with fail
  refine (elems_ref a _ SA.out).mono ?_
  rintro e w1 ⟨vx, rfl, hox, hbx⟩
  have OX := Lib.hid hox
  have BX := Lib.hid hbx
  clear hox hbx
  go_wp2_with fail
  refine (elems_ref b _ SB.out).mono ?_
  rintro e w2 ⟨vy, rfl, hoy, hby⟩
  have OX2 := Lib.hid (own_below OX.out hby)
  have OY := Lib.hid hoy
  have B2 := Lib.hid (BX.out.trans (hby.mono BX.out.size))
  clear hoy hby
  go_wp2_with fail
  go_loopw [7, 8] (fun i _ wr => ∃ k : Nat, i = .int .i64 k ∧ k ≤ (elems a).length ∧ k ≤ (elems b).length ∧ cmpL elCmp (elems a) (elems b) = cmpL elCmp ((elems a).drop k) ((elems b).drop k) ∧ Below w2.heap.size w2 wr) (fun i _ _ => (elems a).length - (intOf i).toNat)
  case atStart => exact ⟨0, rfl, Nat.zero_le _, Nat.zero_le _, rfl, Below.refl _ _⟩
  case round =>
    obtain ⟨k, rfl, hka, hkb, hc, hbr⟩ := hrel
    have HC := Lib.hid hc
    have HR := Lib.hid hbr
    clear hc hbr
    by_cases hlt : k < (elems a).length ∧ k < (elems b).length
    · obtain ⟨h1, h2⟩ := hlt
      obtain ⟨gx, capx, rfl, _, hgx⟩ := World.ownsRow.form OX2.out (by omega)
      obtain ⟨gy, capy, rfl, _, hgy⟩ := World.ownsRow.form OY.out (by omega)
      obtain ⟨x, hx⟩ : ∃ x, (elems a)[k]? = some x := ⟨_, List.getElem?_eq_getElem h1⟩
      obtain ⟨y, hy⟩ : ∃ y, (elems b)[k]? = some y := ⟨_, List.getElem?_eq_getElem h2⟩
      have x0 := (HR.out.cell (p := ⟨gx, k * 3, none⟩) hgx).trans ((World.ownsRow.cellAt OX2.out (k * 3) (by omega)).trans (elsV_get _ k x hx).1)
      have x1 := (HR.out.cell (p := ⟨gx, k * 3 + 1, none⟩) hgx).trans ((World.ownsRow.cellAt OX2.out (k * 3 + 1) (by omega)).trans (elsV_get _ k x hx).2.1)
      have x2 := (HR.out.cell (p := ⟨gx, k * 3 + 2, none⟩) hgx).trans ((World.ownsRow.cellAt OX2.out (k * 3 + 2) (by omega)).trans (elsV_get _ k x hx).2.2)
      have y0 := (HR.out.cell (p := ⟨gy, k * 3, none⟩) hgy).trans ((World.ownsRow.cellAt OY.out (k * 3) (by omega)).trans (elsV_get _ k y hy).1)
      have y1 := (HR.out.cell (p := ⟨gy, k * 3 + 1, none⟩) hgy).trans ((World.ownsRow.cellAt OY.out (k * 3 + 1) (by omega)).trans (elsV_get _ k y hy).2.1)
      have y2 := (HR.out.cell (p := ⟨gy, k * 3 + 2, none⟩) hgy).trans ((World.ownsRow.cellAt OY.out (k * 3 + 2) (by omega)).trans (elsV_get _ k y hy).2.2)
      have KX := Lib.hid (elems_ok a SA.out x (List.mem_of_getElem? hx))
      have KY := Lib.hid (elems_ok b SB.out y (List.mem_of_getElem? hy))
      have HD := Lib.hid (HC.out.trans (cmpL_drop elCmp hx hy))
      clear hx hy
      have hle : Below w2.heap.size w2 wr.drew := HR.out.trans ⟨rfl, rfl, rfl, Nat.le_refl _, fun _ _ => rfl⟩
      have HL := Lib.hid hle
      clear hle
      by_cases he : elCmp x y = 0
      · have t : (elCmp x y != 0) = false := by simpa using he
        have HE := Lib.hid (show cmpL elCmp (elems a) (elems b) = cmpL elCmp ((elems a).drop (k + 1)) ((elems b).drop (k + 1)) by rw [HD.out, if_pos he])
        clear he
        go_wp2_with fail
        go_still_tail 8, (by kernel_rfl)
        change wpList _ _ _ _ _ wr.drew
        go_wp2_with (go_at_call 69; refine (first_ref x y _ KX.out.1 KY.out.1 KX.out.2 KY.out.2).mono ?_; rintro e w3 ⟨rfl, h3⟩; have H3 := Lib.hid (HL.out.trans (h3.mono HL.out.size)); clear h3)
        go_roundw
        all_goals first | exact ⟨k + 1, by go_num, by omega, by omega, HE.out, H3.out⟩ | (simp [intOf]; done) | (simp [intOf]; omega)
      · have t : (elCmp x y != 0) = true := by simpa using he
        have HE := Lib.hid (show compare a b = elCmp x y by unfold compare; rw [HD.out, if_neg he, if_pos he])
        clear he
        go_wp2_with fail
        go_still_tail 8, (by kernel_rfl)
        change wpList _ _ _ _ _ wr.drew
        go_wp2_with (go_at_call 69; refine (first_ref x y _ KX.out.1 KY.out.1 KX.out.2 KY.out.2).mono ?_; rintro e w3 ⟨rfl, h3⟩; have H3 := Lib.hid (HL.out.trans (h3.mono HL.out.size)); clear h3)
        go_ret
        exact ⟨ret_i HE.out.symm, B2.out.trans (H3.out.mono B2.out.size)⟩
    · have HE := Lib.hid (show cmpL elCmp (elems a) (elems b) = sgn (elems a).length (elems b).length by rw [HC.out, cmpL_end _ _ _ k hlt hka hkb])
      have HZ := Lib.hid (B2.out.trans (HR.out.mono B2.out.size))
      have lenx : ∃ (px : Option Addr) (cx : Nat), vx = .slice px (elems a).length cx := by
        rcases OX2.out.2 with ⟨rfl, h0⟩ | ⟨g, cap, cur, rfl, _⟩
        · exact ⟨none, 0, by rw [h0]⟩
        · exact ⟨_, _, rfl⟩
      have leny : ∃ (py : Option Addr) (cy : Nat), vy = .slice py (elems b).length cy := by
        rcases OY.out.2 with ⟨rfl, h0⟩ | ⟨g, cap, cur, rfl, _⟩
        · exact ⟨none, 0, by rw [h0]⟩
        · exact ⟨_, _, rfl⟩
      obtain ⟨px, cx, rfl⟩ := lenx
      obtain ⟨py, cy, rfl⟩ := leny
      by_cases h1 : k < (elems a).length
      all_goals
        have h2 : ¬ k < (elems a).length ∨ ¬ k < (elems b).length := by omega
        have h3 : k < (elems a).length → (elems b).length ≤ k := by omega
        first
          | (have h4 : (elems b).length ≤ k := (h3 h1); clear h2 h3 hlt)
          | (have h4 : (elems a).length ≤ k := (by omega); clear h2 h3 hlt)
        by_cases e0 : sgn (elems a).length (elems b).length = 0
        · have t0 : (sgn ((elems a).length : Int) (elems b).length != 0) = false := by simpa using e0
          have E0 := Lib.hid e0
          clear e0
          go_wp2_with (first | (go_at_call 70; refine (sign_ref _ _ _).mono ?_; rintro e w3 ⟨rfl, rfl⟩))
          refine (chars_ref a _ SA.out).mono ?_
          rintro e w3 ⟨va, xa, rfl, hoa, hca, hba⟩
          have Z3 := Lib.hid (HZ.out.trans (hba.mono HZ.out.size))
          have OA := Lib.hid hoa
          have CA := Lib.hid hca
          clear hoa hca hba
          go_wp2_with fail
          refine (chars_ref b _ SB.out).mono ?_
          rintro e w4 ⟨vb, xb, rfl, hob, hcb, hbb⟩
          have AA := Lib.hid (show CharsAt a va w4 from ⟨_, xa, own_below OA.out hbb, CA.out⟩)
          have AB := Lib.hid (show CharsAt b vb w4 from ⟨_, xb, hob, hcb⟩)
          have Z4 := Lib.hid (Z3.out.trans (hbb.mono Z3.out.size))
          clear hob hcb hbb
          go_wp2_with fail
          refine (codes_ref a b true va vb _ SA.out SB.out AA.out AB.out).mono ?_
          rintro e w5 ⟨rfl, n5, rfl⟩
          have Z5 := Lib.hid (below_drewN Z4.out n5)
          by_cases e1 : cmpL (codeCmp true) (chars a) (chars b) = 0
          · have t1 : (cmpL (codeCmp true) (chars a) (chars b) != 0) = false := by simpa using e1
            have E1 := Lib.hid e1
            clear e1
            go_wp2_with fail
            refine (chars_ref a _ SA.out).mono ?_
            rintro e w6 ⟨va6, xa6, rfl, hoa, hca, hba⟩
            have Z6 := Lib.hid (Z5.out.trans (hba.mono Z5.out.size))
            have OA6 := Lib.hid hoa
            have CA6 := Lib.hid hca
            clear hoa hca hba
            go_wp2_with fail
            refine (chars_ref b _ SB.out).mono ?_
            rintro e w7 ⟨vb7, xb7, rfl, hob, hcb, hbb⟩
            have AA7 := Lib.hid (show CharsAt a va6 w7 from ⟨_, xa6, own_below OA6.out hbb, CA6.out⟩)
            have AB7 := Lib.hid (show CharsAt b vb7 w7 from ⟨_, xb7, hob, hcb⟩)
            have Z7 := Lib.hid (Z6.out.trans (hbb.mono Z6.out.size))
            clear hob hcb hbb
            go_wp2_with fail
            refine (codes_ref a b false va6 vb7 _ SA.out SB.out AA7.out AB7.out).mono ?_
            rintro e w8 ⟨rfl, n8, rfl⟩
            have Z8 := Lib.hid (below_drewN Z7.out n8)
            by_cases e2 : cmpL (codeCmp false) (chars a) (chars b) = 0
            · have t2 : (cmpL (codeCmp false) (chars a) (chars b) != 0) = false := by simpa using e2
              have HF := Lib.hid (show compare a b = bytesCmp a b by unfold compare; rw [HE.out, if_neg (by simp [E0.out]), if_neg (by simp [E1.out]), if_neg (by simp [e2])])
              clear e2
              go_wp2_with fail
              refine (bytes_ref a b _ SA.out SB.out).mono ?_
              rintro e w9 ⟨rfl, n9, rfl⟩
              go_wp2_with fail
              go_ret
              exact ⟨ret_i HF.out.symm, below_drewN Z7.out _⟩
            · have t2 : (cmpL (codeCmp false) (chars a) (chars b) != 0) = true := by simpa using e2
              have HF := Lib.hid (show compare a b = cmpL (codeCmp false) (chars a) (chars b) by unfold compare; rw [HE.out, if_neg (by simp [E0.out]), if_neg (by simp [E1.out]), if_pos e2])
              clear e2
              go_wp2_with fail
              go_ret
              exact ⟨ret_i HF.out.symm, Z8.out⟩
          · have t1 : (cmpL (codeCmp true) (chars a) (chars b) != 0) = true := by simpa using e1
            have HF := Lib.hid (show compare a b = cmpL (codeCmp true) (chars a) (chars b) by unfold compare; rw [HE.out, if_neg (by simp [E0.out]), if_pos e1])
            clear e1
            go_wp2_with fail
            go_ret
            exact ⟨ret_i HF.out.symm, Z5.out⟩
        · have t0 : (sgn ((elems a).length : Int) (elems b).length != 0) = true := by simpa using e0
          have HF := Lib.hid (show compare a b = sgn (elems a).length (elems b).length by unfold compare; rw [HE.out, if_pos e0])
          clear e0
          go_wp2_with (go_at_call 70; refine (sign_ref _ _ _).mono ?_; rintro e w3 ⟨rfl, rfl⟩)
          go_ret
          exact ⟨ret_i HF.out.symm, HZ.out⟩

/-- Under which heading of an index a text stands. -/
def groupOf (l : List El) : ByteArray :=
  match l with
  | [] => ⟨#[42]⟩
  | x :: _ => if x.cls = 0 then ⟨#[42]⟩ else if x.cls = 1 then ⟨#[48]⟩ else if inB x.code 97 122 then Utf8.encode (x.code - 32) else Utf8.encode x.code
def group (s : ByteArray) : ByteArray := groupOf (elems s)

end Go.Proofs.YtoeknophfcfahaaGreatDoor
