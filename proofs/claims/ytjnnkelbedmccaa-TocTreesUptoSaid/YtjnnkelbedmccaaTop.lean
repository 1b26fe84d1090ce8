/- Layer 10: the document's Shown. -/
import Derived.Test.YtjnnkelbedmccaaToo
namespace Go.Proofs.Ytjnnkelbedmccaa
open Go.RowKit Go.Maps Go.Sort
set_option linter.unusedVariables false

/-- Block S is a row of n truths. -/
def Bls (W : World) (S n : Nat) (f : Nat → Bool) : Prop := ∃ cur : Array Value, W.heap[S]? = some (.cells cur 4 (0, 0)) ∧ cur.size = n ∧ ∀ k, k < n → cur[k]? = some (.bool (f k))
section
variable {W W' : World} {S n : Nat} {f g : Nat → Bool}
theorem Bls.cell (h : Bls W S n f) {k : Nat} (hk : k < n) : W.cell? ⟨S, k, none⟩ = some (.bool (f k)) := by
  obtain ⟨cur, h1, h2, h3⟩ := h
  rw [cell_of_row _ _ _ _ _ _ h1]
  exact h3 k hk
theorem Bls.free (h : Bls W S n f) (k : Nat) : W.frozen? ⟨S, k, none⟩ = false := by
  obtain ⟨cur, h1, _⟩ := h
  exact frozen_of_row W S k _ _ h1
theorem Bls.lt (h : Bls W S n f) : S < W.heap.size := by
  obtain ⟨cur, h1, _⟩ := h
  exact (Array.getElem?_eq_some_iff.1 h1).1
theorem Bls.block (h : Bls W S n f) (e : W'.heap[S]? = W.heap[S]?) : Bls W' S n f := by
  obtain ⟨cur, h1, h2⟩ := h
  exact ⟨cur, e.trans h1, h2⟩
theorem Bls.below (h : Bls W S n f) (hb : Below W.heap.size W W') : Bls W' S n f := h.block (hb.block S h.lt)
theorem Bls.congr (h : Bls W S n f) (e : ∀ k, k < n → f k = g k) : Bls W S n g := by
  obtain ⟨cur, h1, h2, h3⟩ := h
  exact ⟨cur, h1, h2, fun k hk => by rw [h3 k hk, e k hk]⟩
theorem Bls.set (h : Bls W S n f) (i : Nat) (z : Bool) : Bls (W.setCell ⟨S, i, none⟩ (.bool z)) S n (fun k => if k = i then z else f k) := by
  obtain ⟨cur, h1, h2, h3⟩ := h
  refine ⟨_, heap_setCell_same W S i _ _ _ h1, by simpa using h2, fun k hk => ?_⟩
  by_cases e : k = i
  · subst e
    rw [Array.getElem?_setIfInBounds_self_of_lt (by omega)]
    simp
  · rw [Array.getElem?_setIfInBounds_ne (fun h => e h.symm), h3 k hk]
    simp [e]
end
theorem Bls.start (W : World) (n : Nat) : Bls (W.alloc (.cells (madeCells #[.bool false] n) 4)) W.heap.size n (fun _ => false) := by
  refine ⟨madeCells #[.bool false] n, World.alloc_heap_new W _, by simp [size_madeCells], fun j hj => ?_⟩
  unfold madeCells
  simp [hj, Nat.mod_one]
theorem infoB : (Try.prog.info? 4).map (fun i => (i.zero, i.size, i.bytes)) = some (some (.bool false), 1, 1) := by kernel_rfl
theorem Bls.not_own {W : World} {S n base size m : Nat} {f : Nat → Bool} {v : Value} {xs : List Value} (h : Bls W S n f) (ho : W.ownsRow base 3 size v m xs) : v.ownBlock ≠ some S := by
  obtain ⟨cur, h1, _⟩ := h
  rcases ho.2 with ⟨rfl, _⟩ | ⟨g, cap, cur', rfl, _, hg, _⟩
  · simp [Value.ownBlock]
  · intro e
    obtain rfl : g = S := by simpa [Value.ownBlock] using e
    rw [hg] at h1
    cases h1
/-- Which entries are unfolded, of some topics that are open. -/
def unfB (l : List Ent) (os : List Int) (k : Nat) : Bool := decide (tpN l k ∈ os)
theorem unf_snoc {l : List Ent} (os : List Int) (x : Int) (k : Nat) : unfB l (os ++ [x]) k = (unfB l os k || decide (tpN l k = x)) := by
  unfold unfB
  rw [Bool.eq_iff_iff]
  simp
set_option maxRecDepth 100000 in
set_option maxHeartbeats 4000000 in
theorem dshown_ref (l : List Ent) (v vo : Value) (os : List Int) (w : World) (hv : RdE w v l) (ho : RdZ w vo os) :
    Calls Try.prog 35 #[v, vo] w (NewZ (if gdE l = 0 then natZ (shownM l (fun x => decide (x ∈ os))) else []) (gdE l) w) := by
  have HC := Lib.hid (good_ref l v w hv)
  have HV := Lib.hid hv
  have HOS := Lib.hid ho
  obtain ⟨pa, cap, rfl, _, _⟩ := hv.form
  obtain ⟨po, co, rfl, hol, hom⟩ := ho.form
  by_cases hg : gdE l = 0
  · rw [if_pos hg, hg]
    rw [hg] at HC
    obtain ⟨i0, hi0, hz0, hz1, hz2⟩ := info_parts infoI
    obtain ⟨j0, hj0, hy0, hy1, hy2⟩ := info_parts infoB
    have hl := (gd_of hg).len
    have HG := Lib.hid (gd_of hg)
    have HL := Lib.hid hl
    have HAT := Lib.hid (fun w' x hv => at_ref l (.slice pa l.length cap) x w' hv hl)
    have hmk : ∀ w : World, (Instr.makeSlice 93 (.int .i64 (l.length : Int)) (.int .i64 (l.length : Int))).run Try.prog w = .ok (.slice (some ⟨w.heap.size, 0, none⟩) l.length l.length) (w.alloc (.cells (madeCells #[.bool false] l.length) 4)) := by
      intro w
      have h := run_make (P := Try.prog) w 93 4 j0 (.bool false) Try.underlying93 hj0 hy0 .i64 .i64 (l.length : Int) (l.length : Int) (by omega) (by omega) (by rw [hy2]; omega) (by omega)
      rw [hy1, Nat.mul_one, show (l.length : Int).toNat = l.length by omega] at h
      exact h
    have hol9 : os.length ≤ 9223372036854775807 := Nat.le_trans hol hom
    clear hv ho hg hol hom
    go_enter Try.func35, Try.ntmps35
    go_wp2_with fail
    refine HC.out.mono ?_
    rintro e w1 ⟨rfl, hb1⟩
    have HB1 := Lib.hid hb1
    clear hb1
    go_wp2_with fail
    have HU0 := Lib.hid (Bls.start w1 l.length)
    have HA1 := Lib.hid ((Below.refl w1.heap.size w1).alloc (Nat.le_refl _) (.cells (madeCells #[.bool false] l.length) 4))
    go_loopw [8] (fun s wr => ∃ j : Nat, s = .int .i64 (j : Nat) ∧ j ≤ os.length ∧ Hid (Bls wr w1.heap.size l.length (unfB l (os.take j))) ∧ Hid (Below w1.heap.size w1 wr)) (fun s _ => os.length - (intOf s).toNat)
    case atStart => exact ⟨0, rfl, Nat.zero_le _, Lib.hid (HU0.out.congr fun k _ => by simp [unfB]), HA1⟩
    case round =>
      obtain ⟨j, rfl, hj, HU, HB⟩ := hrel
      by_cases hlt : j < os.length
      · have HBw := Lib.hid (HB1.out.trans (HB.out.mono HB1.out.size))
        obtain ⟨b, off, rfl, c0⟩ := (HOS.out.below HBw.out).cell hlt
        have HTK := Lib.hid (show os.take (j + 1) = os.take j ++ [os[j]] from List.take_succ_eq_append_getElem hlt)
        obtain ⟨x, hx⟩ : ∃ x, os[j] = x := ⟨_, rfl⟩
        rw [hx] at c0 HTK
        have HA := Lib.hid (HAT.out wr x (HV.out.below HBw.out))
        have hat := atF_cases l x
        have HONE := Lib.hid HG.out.one
        have hj1 : (j : Int) < os.length := by omega
        have HLT := Lib.hid hlt
        rcases hat with ⟨k, hk, he, ha⟩ | ⟨hno, ha⟩
        · rw [ha] at HA
          have HK := Lib.hid hk
          have HE := Lib.hid he
          have hk1 : (k : Int) < l.length := by omega
          have hk0 : (0 : Int) ≤ k := by omega
          have cU := HU.out.cell hk
          have fU := HU.out.free k
          clear hx hlt hk he ha
          go_wp2_with fail
          refine HA.out.mono ?_
          rintro e w2 ⟨rfl, rfl⟩
          go_wp2_with fail
          go_roundw
          case measure => have := HLT.out; first | (simp [intOf]; done) | (simp [intOf]; omega)
          case rel =>
            refine ⟨j + 1, by go_num, by have := HLT.out; omega, Lib.hid ((HU.out.set k true).congr fun q hq => ?_), Lib.hid (HB.out.setCell (p := ⟨w1.heap.size, k, none⟩) (Nat.le_refl _) _)⟩
            rw [HTK.out, unf_snoc]
            by_cases e : q = k
            · rw [if_pos e, e, HE.out]; simp
            · rw [if_neg e]
              have : tpN l q ≠ x := fun h => e (HONE.out q k hq HK.out (h.trans HE.out.symm))
              simp [this]
        · rw [ha] at HA
          have HNO := Lib.hid hno
          clear hx hlt ha hno
          go_wp2_with fail
          refine HA.out.mono ?_
          rintro e w2 ⟨rfl, rfl⟩
          go_wp2_with fail
          go_roundw
          case measure => have := HLT.out; first | (simp [intOf]; done) | (simp [intOf]; omega)
          case rel =>
            refine ⟨j + 1, by go_num, by have := HLT.out; omega, Lib.hid (HU.out.congr fun q hq => ?_), HB⟩
            rw [HTK.out, unf_snoc]
            simp [HNO.out q hq]
      · obtain rfl : j = os.length := by omega
        have hjx : ¬ ((os.length : Nat) : Int) < os.length := by omega
        have hu := HU.out
        rw [List.take_length] at hu
        obtain ⟨wo, rfl⟩ : ∃ wo : World, wo = wr := ⟨_, rfl⟩
        have HBWR := Lib.hid (HB1.out.trans (HB.out.mono HB1.out.size))
        have HUF := Lib.hid hu
        have HWU := Lib.hid hu.lt
        have HS0 := Lib.hid (Bls.start wo l.length)
        have hA2 := (Below.refl wo.heap.size wo).alloc (Nat.le_refl _) (.cells (madeCells #[.bool false] l.length) 4)
        have HU2 := Lib.hid (hu.below hA2)
        have HA2 := Lib.hid hA2
        obtain ⟨U, hU⟩ : ∃ U, w1.heap.size = U := ⟨_, rfl⟩
        rw [hU] at HU2 HB HWU ⊢
        have HUE := Lib.hid hU
        clear hlt hj hu hA2 hU
        go_wp2_with fail
        obtain ⟨S, hS⟩ : ∃ S, wo.heap.size = S := ⟨_, rfl⟩
        have HSE := Lib.hid hS
        rw [hS] at HS0 HWU HA2 ⊢
        have hUS : U ≠ S := by have := HWU.out; omega
        clear hS
        go_loopw [11, 12] (fun s11 s12 wx => ∃ k : Nat, s12 = .int .i64 (k : Nat) ∧ k ≤ l.length ∧ Hid (Bls wx U l.length (unfB l os)) ∧ Hid (Bls wx S l.length (fun q => decide (q < k) && see l (fun x => decide (x ∈ os)) q)) ∧
          Hid (wx.ownsRow S 3 1 s11 ((List.range k).filter fun q => see l (fun x => decide (x ∈ os)) q).length (numsZ (natZ ((List.range k).filter fun q => see l (fun x => decide (x ∈ os)) q)))) ∧ Hid (Below S wo wx)) (fun _ s _ => l.length - (intOf s).toNat)
        case atStart => exact ⟨0, rfl, Nat.zero_le _, HU2, Lib.hid (HS0.out.congr fun q _ => by simp), Lib.hid (World.ownsRow_nil _ _ _ _), HA2⟩
        case round =>
          obtain ⟨k, rfl, hk, HUx, HSx, HO, HB2⟩ := hrel
          obtain ⟨pv, cv, hvv⟩ := lenL HO.out
          subst hvv
          by_cases hlt : k < l.length
          · have hbx := HBWR.out.trans (HB2.out.mono (by have := HBWR.out.size; have := HSE.out; omega))
            have HAB := Lib.hid (above_ref l (.slice pa l.length cap) k wr (HV.out.below hbx) HG.out hlt)
            have hss := see_step l (fun x => decide (x ∈ os)) k
            have hfs := range_filter_succ (fun q => see l (fun x => decide (x ∈ os)) q) k
            have hfl := filter_len (fun q => see l (fun x => decide (x ∈ os)) q) k
            have hlt2 := abv_lt l k
            obtain ⟨p, hp⟩ : ∃ p, abv l k = p := ⟨_, rfl⟩
            rw [hp] at HAB hss hlt2
            obtain ⟨zs, hzs⟩ : ∃ zs, ((List.range k).filter fun q => see l (fun x => decide (x ∈ os)) q) = zs := ⟨_, rfl⟩
            rw [hzs] at hfs hfl HO ⊢
            have HFS := Lib.hid hfs
            have HLT := Lib.hid hlt
            have hk1 : (k : Int) < l.length := by omega
            have hk9 : k ≤ 1000 := by have := HL.out; omega
            have M1 := Lib.hid (show zs.length + 1 ≤ maxLen by unfold maxLen; omega)
            have M2 := Lib.hid (show (zs.length + 1) * 8 ≤ 140737488355328 by omega)
            clear hbx hp hzs hfs hfl hlt
            by_cases hr : p < 0
            · rw [if_pos hr] at hss
              have HSEE := Lib.hid hss
              clear hss hlt2
              go_wp2_with fail
              refine HAB.out.mono ?_
              rintro e w2 ⟨rfl, hb2⟩
              have hb3 := HB2.out.trans (hb2.mono (Nat.le_of_lt HSx.out.lt))
              have HU3 := Lib.hid (HUx.out.below hb2)
              have hS3 := HSx.out.below hb2
              have fS := hS3.free k
              have cS := hS3.cell HLT.out
              have HS3 := Lib.hid hS3
              have HO3 := Lib.hid (own_stays HO.out fun c e => hb2.block c (own_base HO.out e).2)
              have HB3 := Lib.hid hb3
              clear hb2 hb3 hS3
              have HSN := Lib.hid (HS3.out.set k true)
              have HON := Lib.hid (own_stays (W' := w2.setCell ⟨S, k, none⟩ (.bool true)) HO3.out fun c e => Below.heap_setCell _ _ _ _ (fun e2 => HS3.out.not_own HO3.out (by rw [e, e2])))
              have HBN := Lib.hid (HB3.out.setCell (p := ⟨S, k, none⟩) (Nat.le_refl _) (.bool true))
              have HUN := Lib.hid (HU3.out.block (Below.heap_setCell w2 ⟨S, k, none⟩ (.bool true) U hUS))
              have hsize : (w2.setCell ⟨S, k, none⟩ (.bool true)).heap.size = w2.heap.size := by simp
              have HNW := Lib.hid (show ∀ (j : Nat) (u : Value), [Value.int .i64 (k : Nat)][j]? = some u → ((w2.setCell ⟨S, k, none⟩ (.bool true)).alloc (.cells #[.int .i64 (k : Nat)] 3)).cell? ((⟨w2.heap.size, 0, none⟩ : Addr).add j) = some u from fun j u h => by
                have h9 := cells_newL (w2.setCell ⟨S, k, none⟩ (.bool true)) #[.int .i64 (k : Nat)] 3 j u h
                rwa [hsize] at h9)
              clear hsize
              have hSl := HS3.out.lt
              have M3 := Lib.hid (show S ≤ ((w2.setCell ⟨S, k, none⟩ (.bool true)).alloc (.cells #[.int .i64 (k : Nat)] 3)).heap.size by have := HBN.out.size; have := HSE.out; simp at this ⊢; omega)
              go_wp2_with (at_builtin; go_loud (refine wpList_append_own_at _ rfl _ _ 28 rfl S 3 i0 (.int .i64 0) 1 8 Try.underlying28 hi0 hz0 hz1 hz2 rfl (by decide) _ _ _ rfl (HON.out.alloc _) ⟨w2.heap.size, 0, none⟩ 1 1 [.int .i64 (k : Nat)] rfl rfl HNW.out (numsZ_one [(k : Int)]) M1.out M2.out M3.out ?_); intro v' w3 hown' hgrow _ hat; have HO1 := Lib.hid hown'; have HG1 := Lib.hid hgrow; have HAT9 := Lib.hid hat; clear hown' hgrow hat)
              go_roundw
              case measure => have := HLT.out; first | (simp [intOf]; done) | (simp [intOf]; omega)
              case rel =>
                have hal := (Below.refl (w2.setCell ⟨S, k, none⟩ (.bool true)).heap.size (w2.setCell ⟨S, k, none⟩ (.bool true))).alloc (Nat.le_refl _) (.cells #[.int .i64 (k : Nat)] 3)
                have hSN2 := HSN.out.below hal
                have hUN2 := HUN.out.below hal
                refine ⟨k + 1, by go_num, by have := HLT.out; omega, Lib.hid (hUN2.block (HG1.out.block U hUN2.lt (fun e => HUN.out.not_own HON.out e.symm))), Lib.hid ((hSN2.block (HG1.out.block S hSN2.lt (fun e => HSN.out.not_own HON.out e.symm))).congr fun q _ => ?_), Lib.hid ?_, Lib.hid ((HBN.out.alloc (by have := HBN.out.size; have := HSE.out; omega) _).grown HG1.out (by have := M3.out; have := HSE.out; omega) (fun r e => (own_base HON.out e).1))⟩
                · by_cases e : q = k
                  · rw [if_pos e, e, HSEE.out]; simp
                  · rw [if_neg e]
                    by_cases h : q < k
                    · simp [h, show q < k + 1 by omega]
                    · simp [h, show ¬ q < k + 1 by omega]
                · rw [HFS.out, if_pos HSEE.out, natZ_app, numsZ_app, List.length_append]
                  exact HO1.out
            · rw [if_neg hr] at hss
              obtain ⟨y, rfl⟩ : ∃ y : Nat, p = y := ⟨p.toNat, by omega⟩
              rw [Int.toNat_natCast] at hss
              have hyz : (0 : Int) ≤ y := by omega
              have hyl : (y : Int) < l.length := by omega
              have HQL := Lib.hid (show y < l.length by omega)
              have HQK := Lib.hid (show y < k by omega)
              obtain ⟨s0, hs0⟩ : ∃ s0, see l (fun x => decide (x ∈ os)) y = s0 := ⟨_, rfl⟩
              obtain ⟨u0, hu0⟩ : ∃ u0, unfB l os y = u0 := ⟨_, rfl⟩
              have hu1 : decide (tpN l y ∈ os) = u0 := hu0
              rw [hs0, hu1] at hss
              have HSQ := Lib.hid hs0
              have HUQ := Lib.hid hu0
              clear hr hlt2 hs0 hu0 hu1
              cases s0 with
              | false =>
                have HSEE := Lib.hid (show see l (fun x => decide (x ∈ os)) k = false by rw [hss]; rfl)
                clear hss
                go_wp2_with fail
                refine HAB.out.mono ?_
                rintro e w2 ⟨rfl, hb2⟩
                have hb3 := HB2.out.trans (hb2.mono (Nat.le_of_lt HSx.out.lt))
                have HU3 := Lib.hid (HUx.out.below hb2)
                have hS3 := HSx.out.below hb2
                have fS := hS3.free k
                have cS := hS3.cell HLT.out
                have cU2 := HU3.out.cell HQL.out
                have cS2 := hS3.cell HQL.out
                rw [HUQ.out] at cU2
                rw [decide_eq_true HQK.out, Bool.true_and, HSQ.out] at cS2
                have HS3 := Lib.hid hS3
                have HO3 := Lib.hid (own_stays HO.out fun c e => hb2.block c (own_base HO.out e).2)
                have HB3 := Lib.hid hb3
                clear hb2 hb3 hS3
                have HSN := Lib.hid (HS3.out.set k false)
                have HON := Lib.hid (own_stays (W' := w2.setCell ⟨S, k, none⟩ (.bool false)) HO3.out fun c e => Below.heap_setCell _ _ _ _ (fun e2 => HS3.out.not_own HO3.out (by rw [e, e2])))
                have HBN := Lib.hid (HB3.out.setCell (p := ⟨S, k, none⟩) (Nat.le_refl _) (.bool false))
                have HUN := Lib.hid (HU3.out.block (Below.heap_setCell w2 ⟨S, k, none⟩ (.bool false) U hUS))
                go_wp2_with fail
                go_roundw
                case measure => have := HLT.out; first | (simp [intOf]; done) | (simp [intOf]; omega)
                case rel =>
                  refine ⟨k + 1, by go_num, by have := HLT.out; omega, HUN, Lib.hid (HSN.out.congr fun q _ => ?_), Lib.hid ?_, HBN⟩
                  · by_cases e : q = k
                    · rw [if_pos e, e, HSEE.out]; simp
                    · rw [if_neg e]
                      by_cases h : q < k
                      · simp [h, show q < k + 1 by omega]
                      · simp [h, show ¬ q < k + 1 by omega]
                  · rw [HFS.out, if_neg (by rw [HSEE.out]; simp)]
                    exact HON.out
              | true =>
                cases u0 with
                | false =>
                  have HSEE := Lib.hid (show see l (fun x => decide (x ∈ os)) k = false by rw [hss]; rfl)
                  clear hss
                  go_wp2_with fail
                  refine HAB.out.mono ?_
                  rintro e w2 ⟨rfl, hb2⟩
                  have hb3 := HB2.out.trans (hb2.mono (Nat.le_of_lt HSx.out.lt))
                  have HU3 := Lib.hid (HUx.out.below hb2)
                  have hS3 := HSx.out.below hb2
                  have fS := hS3.free k
                  have cS := hS3.cell HLT.out
                  have cU2 := HU3.out.cell HQL.out
                  have cS2 := hS3.cell HQL.out
                  rw [HUQ.out] at cU2
                  rw [decide_eq_true HQK.out, Bool.true_and, HSQ.out] at cS2
                  have HS3 := Lib.hid hS3
                  have HO3 := Lib.hid (own_stays HO.out fun c e => hb2.block c (own_base HO.out e).2)
                  have HB3 := Lib.hid hb3
                  clear hb2 hb3 hS3
                  have HSN := Lib.hid (HS3.out.set k false)
                  have HON := Lib.hid (own_stays (W' := w2.setCell ⟨S, k, none⟩ (.bool false)) HO3.out fun c e => Below.heap_setCell _ _ _ _ (fun e2 => HS3.out.not_own HO3.out (by rw [e, e2])))
                  have HBN := Lib.hid (HB3.out.setCell (p := ⟨S, k, none⟩) (Nat.le_refl _) (.bool false))
                  have HUN := Lib.hid (HU3.out.block (Below.heap_setCell w2 ⟨S, k, none⟩ (.bool false) U hUS))
                  go_wp2_with fail
                  go_roundw
                  case measure => have := HLT.out; first | (simp [intOf]; done) | (simp [intOf]; omega)
                  case rel =>
                    refine ⟨k + 1, by go_num, by have := HLT.out; omega, HUN, Lib.hid (HSN.out.congr fun q _ => ?_), Lib.hid ?_, HBN⟩
                    · by_cases e : q = k
                      · rw [if_pos e, e, HSEE.out]; simp
                      · rw [if_neg e]
                        by_cases h : q < k
                        · simp [h, show q < k + 1 by omega]
                        · simp [h, show ¬ q < k + 1 by omega]
                    · rw [HFS.out, if_neg (by rw [HSEE.out]; simp)]
                      exact HON.out
                | true =>
                  have HSEE := Lib.hid (show see l (fun x => decide (x ∈ os)) k = true by rw [hss]; rfl)
                  clear hss
                  go_wp2_with fail
                  refine HAB.out.mono ?_
                  rintro e w2 ⟨rfl, hb2⟩
                  have hb3 := HB2.out.trans (hb2.mono (Nat.le_of_lt HSx.out.lt))
                  have HU3 := Lib.hid (HUx.out.below hb2)
                  have hS3 := HSx.out.below hb2
                  have fS := hS3.free k
                  have cS := hS3.cell HLT.out
                  have cU2 := HU3.out.cell HQL.out
                  have cS2 := hS3.cell HQL.out
                  rw [HUQ.out] at cU2
                  rw [decide_eq_true HQK.out, Bool.true_and, HSQ.out] at cS2
                  have HS3 := Lib.hid hS3
                  have HO3 := Lib.hid (own_stays HO.out fun c e => hb2.block c (own_base HO.out e).2)
                  have HB3 := Lib.hid hb3
                  clear hb2 hb3 hS3
                  have HSN := Lib.hid (HS3.out.set k true)
                  have HON := Lib.hid (own_stays (W' := w2.setCell ⟨S, k, none⟩ (.bool true)) HO3.out fun c e => Below.heap_setCell _ _ _ _ (fun e2 => HS3.out.not_own HO3.out (by rw [e, e2])))
                  have HBN := Lib.hid (HB3.out.setCell (p := ⟨S, k, none⟩) (Nat.le_refl _) (.bool true))
                  have HUN := Lib.hid (HU3.out.block (Below.heap_setCell w2 ⟨S, k, none⟩ (.bool true) U hUS))
                  have hsize : (w2.setCell ⟨S, k, none⟩ (.bool true)).heap.size = w2.heap.size := by simp
                  have HNW := Lib.hid (show ∀ (j : Nat) (u : Value), [Value.int .i64 (k : Nat)][j]? = some u → ((w2.setCell ⟨S, k, none⟩ (.bool true)).alloc (.cells #[.int .i64 (k : Nat)] 3)).cell? ((⟨w2.heap.size, 0, none⟩ : Addr).add j) = some u from fun j u h => by
                    have h9 := cells_newL (w2.setCell ⟨S, k, none⟩ (.bool true)) #[.int .i64 (k : Nat)] 3 j u h
                    rwa [hsize] at h9)
                  clear hsize
                  have hSl := HS3.out.lt
                  have M3 := Lib.hid (show S ≤ ((w2.setCell ⟨S, k, none⟩ (.bool true)).alloc (.cells #[.int .i64 (k : Nat)] 3)).heap.size by have := HBN.out.size; have := HSE.out; simp at this ⊢; omega)
                  go_wp2_with (at_builtin; go_loud (refine wpList_append_own_at _ rfl _ _ 28 rfl S 3 i0 (.int .i64 0) 1 8 Try.underlying28 hi0 hz0 hz1 hz2 rfl (by decide) _ _ _ rfl (HON.out.alloc _) ⟨w2.heap.size, 0, none⟩ 1 1 [.int .i64 (k : Nat)] rfl rfl HNW.out (numsZ_one [(k : Int)]) M1.out M2.out M3.out ?_); intro v' w3 hown' hgrow _ hat; have HO1 := Lib.hid hown'; have HG1 := Lib.hid hgrow; have HAT9 := Lib.hid hat; clear hown' hgrow hat)
                  go_roundw
                  case measure => have := HLT.out; first | (simp [intOf]; done) | (simp [intOf]; omega)
                  case rel =>
                    have hal := (Below.refl (w2.setCell ⟨S, k, none⟩ (.bool true)).heap.size (w2.setCell ⟨S, k, none⟩ (.bool true))).alloc (Nat.le_refl _) (.cells #[.int .i64 (k : Nat)] 3)
                    have hSN2 := HSN.out.below hal
                    have hUN2 := HUN.out.below hal
                    refine ⟨k + 1, by go_num, by have := HLT.out; omega, Lib.hid (hUN2.block (HG1.out.block U hUN2.lt (fun e => HUN.out.not_own HON.out e.symm))), Lib.hid ((hSN2.block (HG1.out.block S hSN2.lt (fun e => HSN.out.not_own HON.out e.symm))).congr fun q _ => ?_), Lib.hid ?_, Lib.hid ((HBN.out.alloc (by have := HBN.out.size; have := HSE.out; omega) _).grown HG1.out (by have := M3.out; have := HSE.out; omega) (fun r e => (own_base HON.out e).1))⟩
                    · by_cases e : q = k
                      · rw [if_pos e, e, HSEE.out]; simp
                      · rw [if_neg e]
                        by_cases h : q < k
                        · simp [h, show q < k + 1 by omega]
                        · simp [h, show ¬ q < k + 1 by omega]
                    · rw [HFS.out, if_pos HSEE.out, natZ_app, numsZ_app, List.length_append]
                      exact HO1.out
          · obtain rfl : k = l.length := by omega
            have hkx : ¬ ((l.length : Nat) : Int) < l.length := by omega
            have hbx := HBWR.out.trans (HB2.out.mono (by have := HBWR.out.size; have := HSE.out; omega))
            have HF := Lib.hid (show NewZ (natZ (shownM l (fun x => decide (x ∈ os)))) 0 w (.returned (.tuple #[.slice pv ((List.range l.length).filter fun q => see l (fun x => decide (x ∈ os)) q).length cv, .int .i64 0])) wr from ⟨_, rfl, by
              rw [natZ_len]
              exact World.ownsRow.mono HO.out (by have := HBWR.out.size; have := HSE.out; omega), hbx⟩)
            clear hlt hk hbx
            go_wp2_with fail
            go_ret2
            exact HF.out
  · rw [if_neg hg]
    obtain ⟨g, hgg⟩ : ∃ g, gdE l = g := ⟨_, rfl⟩
    rw [hgg] at HC hg ⊢
    have t1 : (g != 0) = true := by simpa using hg
    clear hv hg hgg
    go_enter Try.func35, Try.ntmps35
    go_wp2_with fail
    refine HC.out.mono ?_
    rintro e w1 ⟨rfl, hb1⟩
    have HB1 := Lib.hid hb1
    clear hb1
    go_wp2_with fail
    go_ret2
    exact NewZ.none _ _ _ HB1.out
end Go.Proofs.Ytjnnkelbedmccaa
