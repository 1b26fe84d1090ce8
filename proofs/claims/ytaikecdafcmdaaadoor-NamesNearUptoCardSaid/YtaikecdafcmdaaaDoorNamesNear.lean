/- What is proved: NamesNear holds of every list of texts and any text: what is near is as near as anything is, at most 3 steps, and nothing that is as near is left out. Its condition: what comes in is of bulk at most 1048576 (the statement's second form). -/
import Derived.Test.YtaikecdafcmdaaaDoorNin
import Derived.Test.YtaikecdafcmdaaaDoorNlf
import Derived.Test.YtaikecdafcmdaaaDoorPost
import Derived.Test.YtaikecdafcmdaaaDoorCards
import Derived.Test.YtaikecdafcmdaaaDoorTie
import Derived.ProofKit
import Derived.OpenShut
import Derived.Deep.DeepHandedRow
namespace Go.Proofs.YtaikecdafcmdaaaDoor.namesNear
open Go.ChangeShapes Go.WideShapes Go.ChangeAt Go.RowKit Go.Maps Go.Sort
open Go.ChangeMaps (open_string shut_string)
set_option linter.unusedVariables false

theorem texts_bulk {H : Type} {d : DataW H} {m n : Nat} (h : LenD d m) (hb : Rows.uptoBulk d ≤ n) : m ≤ n := by
  have hall : ∀ ds : List (DataW H), ds.length ≤ Rows.uptoBulkAll ds := by
    intro ds
    induction ds with
    | nil => simp [Rows.uptoBulkAll]
    | cons d r ih =>
      have h1 : 1 ≤ Rows.uptoBulk d := by
        cases d with
        | lit l => cases l <;> simp [Rows.uptoBulk]
        | _ => simp [Rows.uptoBulk]
      simp only [Rows.uptoBulkAll, List.length_cons]
      omega
  rcases h with ⟨rfl, rfl⟩ | ⟨es, sp, rfl, he⟩
  · omega
  · have := hall es
    simp only [Rows.uptoBulk] at hb
    omega
/-- How far each of the first so many names is. -/
def farN (l : List ByteArray) (f : ByteArray) (k : Nat) : List Nat := (List.range k).map (dN l f)
def lowN (l : List ByteArray) (f : ByteArray) (k : Nat) : Nat := (List.range k).foldl (fun m i => min m (dN l f i)) 4
theorem farN_len (l : List ByteArray) (f : ByteArray) (k : Nat) : (farN l f k).length = k := by simp [farN]
theorem farN_snoc (l : List ByteArray) (f : ByteArray) (k : Nat) : farN l f (k + 1) = farN l f k ++ [dN l f k] := by simp [farN, List.range_succ]
theorem lowN_snoc (l : List ByteArray) (f : ByteArray) (k : Nat) : lowN l f (k + 1) = min (lowN l f k) (dN l f k) := by simp [lowN, List.range_succ]
theorem lowN_le (l : List ByteArray) (f : ByteArray) : ∀ k, lowN l f k ≤ 4 ∧ (∀ i, i < k → lowN l f k ≤ dN l f i) ∧ (mnN l f (List.range k) = min 3 (lowN l f k))
  | 0 => by simp [lowN, mnN]
  | k + 1 => by
    obtain ⟨h1, h2, h3⟩ := lowN_le l f k
    rw [lowN_snoc, List.range_succ, mnN_snoc, h3]
    refine ⟨by omega, fun i hi => ?_, by omega⟩
    rcases Nat.lt_succ_iff_lt_or_eq.1 hi with h | rfl
    · have := h2 i h; omega
    · omega
/-- The numbers of those that are near. -/
def wantN (l : List ByteArray) (f : ByteArray) (zs : List Nat) : List Nat := zs.filter fun i => decide (lowN l f l.length < 4) && dN l f i == lowN l f l.length
theorem wantN_snoc (l : List ByteArray) (f : ByteArray) (zs : List Nat) (i : Nat) : wantN l f (zs ++ [i]) = if lowN l f l.length < 4 ∧ dN l f i = lowN l f l.length then wantN l f zs ++ [i] else wantN l f zs := by
  unfold wantN
  rw [List.filter_append]
  by_cases h : lowN l f l.length < 4 ∧ dN l f i = lowN l f l.length
  · rw [if_pos h]; simp [h.1, h.2]
  · rw [if_neg h]
    have : (decide (lowN l f l.length < 4) && dN l f i == lowN l f l.length) = false := by
      rw [Bool.eq_false_iff]
      intro e
      simp only [Bool.and_eq_true, decide_eq_true_eq, beq_iff_eq] at e
      exact h e
    simp [this]
theorem wantN_len (l : List ByteArray) (f : ByteArray) (zs : List Nat) : (wantN l f zs).length ≤ zs.length := List.length_filter_le _ _
theorem near_want (l : List ByteArray) (s : ByteArray) (h : (nrm s).2 = 0) : nearN l s = wantN l (nm s) (srt l) := by
  unfold nearN wantN
  rw [if_pos h, near_spec]
  show (srt l).filter _ = (srt l).filter _
  refine List.filter_congr fun i hi => ?_
  have hil := srt_lt hi
  obtain ⟨h1, h2, h3⟩ := lowN_le l (nm s) l.length
  rw [mnN_perm (srt_perm l), h3]
  have h4 := h2 i hil
  rw [Bool.eq_iff_iff]
  simp only [Bool.and_eq_true, decide_eq_true_eq, beq_iff_eq]
  omega
theorem numsV_get {xs : List Nat} {j : Nat} (h : j < xs.length) : (numsV xs)[j]? = some (.int .i64 (xs[j] : Nat)) := by simp [numsV, h]

theorem below_own {w W W' : World} {e : TypeId} {size n : Nat} {v : Value} {xs : List Value} (h : Below w.heap.size w W) (ho : W.ownsRow w.heap.size e size v n xs) (hg : W.grownBy W' v.ownBlock) : Below w.heap.size w W' :=
  h.grown hg h.size fun c hc => (own_base ho hc).1
theorem cell_last {W : World} {B g c k : Nat} {xs : List Nat} {d : Nat} (h : W.ownsRow B 3 1 (.slice (some ⟨g, 0, none⟩) (k + 1) c) (k + 1) (numsV xs ++ [.int .i64 (d : Nat)])) (hx : xs.length = k) : W.cell? ⟨g, k, none⟩ = some (.int .i64 (d : Nat)) := by
  rw [World.ownsRow.cellAt h k (by omega), List.getElem?_append_right (by rw [numsV_len, hx]; exact Nat.le_refl _), numsV_len, hx]
  simp

set_option maxRecDepth 100000 in
set_option maxHeartbeats 8000000 in
theorem walk (v : Value) (l : List ByteArray) (s : ByteArray) (W : World) (hR : RdT W v l) (hl : l.length ≤ 1048576) (hs : s.size ≤ 1048576) (hT : Tabs W) :
    Calls Tryd.prog 8 #[v, .string s] W fun e w' => e = .returned (.bool true) ∧ Below W.heap.size W w' := by
  obtain ⟨pa, cap, rfl, hc1, hc2⟩ := hR.form
  have HR := Lib.hid hR
  have HL := Lib.hid (show l.length * 16 ≤ 140737488355328 by omega)
  have HT := Lib.hid hT
  obtain ⟨i0, hi, hz0, hz1, hz2⟩ := info_parts infoI
  clear hR hT hc1 hc2 hl hs
  go_enter Tryd.func8, Tryd.ntmps8
  go_wp2_with fail
  refine (awake_law _ HT.out).mono ?_
  rintro e w1 ⟨rfl, h1⟩
  have HB1 := Lib.hid h1
  have HR1 := Lib.hid (HR.out.below h1)
  have HT1 := Lib.hid (HT.out.below h1 (Nat.le_refl _))
  clear h1
  go_wp2_with (at_builtin; go_loud (refine wpList_copyT rfl _ rfl l _ rfl HR1.out HL.out ?_); intro vm w2 hown hb2; obtain ⟨pm, cm, rfl⟩ := lenOf hown; have HO := Lib.hid (RdT.own hown rfl); have HB2 := Lib.hid (HB1.out.trans (hb2.mono HB1.out.size)); have HR2 := Lib.hid (HR1.out.below hb2); have HT2 := Lib.hid (HT1.out.below hb2 (Nat.le_refl _)); clear hown hb2)
  refine (new_pro l _ _ HO.out HT2.out).mono ?_
  rintro e w3 ⟨hb3, h⟩
  have HB3 := Lib.hid (HB2.out.trans (hb3.mono HB2.out.size))
  have HR3 := Lib.hid (HR2.out.below hb3)
  have HT3 := Lib.hid (HT2.out.below hb3 (Nat.le_refl _))
  clear hb3
  rcases h with ⟨_, rfl⟩ | ⟨_, k, hk, _, hne, rfl⟩ | ⟨hlen, hG, b, nv, gv, mv, sv, hbb, hTb, rfl⟩
  · go_wp2_with fail
    refine (norm_pro s _ HT3.out).mono ?_
    rintro e w4 ⟨rfl, hb4⟩
    have HB4 := Lib.hid (HB3.out.trans (hb4.mono HB3.out.size))
    clear hb4
    go_wp2_with fail
    go_ret
    exact ⟨rfl, HB4.out⟩
  · obtain ⟨er, her⟩ : ∃ er, errAt l k = er := ⟨_, rfl⟩
    rw [her] at hne ⊢
    have t1 : (er != 0) = true := by simpa using hne
    clear hne her
    go_wp2_with fail
    refine (norm_pro s _ HT3.out).mono ?_
    rintro e w4 ⟨rfl, hb4⟩
    have HB4 := Lib.hid (HB3.out.trans (hb4.mono HB3.out.size))
    clear hb4
    go_wp2_with fail
    go_ret
    exact ⟨rfl, HB4.out⟩
  · have HP3 := Lib.hid (show TP w3 (.pointer (some ⟨b, 0, none⟩)) l from .inr ⟨b, nv, gv, mv, sv, rfl, hTb⟩)
    have HG := Lib.hid hG
    have HLN := Lib.hid hlen
    clear hlen hG hbb hTb
    go_wp2_with fail
    refine (norm_pro s _ HT3.out).mono ?_
    rintro e w4 ⟨rfl, hb4⟩
    have HB4 := Lib.hid (HB3.out.trans (hb4.mono HB3.out.size))
    have HR4 := Lib.hid (HR3.out.below hb4)
    have HT4 := Lib.hid (HT3.out.below hb4 (Nat.le_refl _))
    have HP4 := Lib.hid (HP3.out.below hb4)
    clear hb4
    by_cases hok : (nrm s).2 = 0
    case neg =>
      obtain ⟨er, her⟩ : ∃ er, (nrm s).2 = er := ⟨_, rfl⟩
      rw [her] at hok ⊢
      have t1 : (er != 0) = true := by simpa using hok
      clear hok her
      go_wp2_with fail
      go_ret
      exact ⟨rfl, HB4.out⟩
    case pos =>
      have HOK := Lib.hid hok
      rw [hok]
      clear hok
      by_cases hbig : 100 < l.length
      · have hbz : (100 : Int) < l.length := by omega
        clear hbig
        go_wp2_with fail
        go_ret
        exact ⟨rfl, HB4.out⟩
      · have hbz : ¬ (100 : Int) < l.length := by omega
        have HBIG := Lib.hid (show l.length ≤ 100 by omega)
        obtain ⟨f, hf⟩ : ∃ f, nm s = f := ⟨_, rfl⟩
        have HF := Lib.hid hf
        have HFS := Lib.hid (show f.size ≤ 320 by rw [← hf]; exact nm_size s)
        rw [show (nrm s).1 = f from hf]
        clear hbig hf
        go_wp2_with fail
        go_loopw [48, 10, 11] (fun i fv lv wr => ∃ k : Nat, i = .int .i64 k ∧ k ≤ l.length ∧ lv = .int .i64 (lowN l f k : Nat) ∧ wr.ownsRow w4.heap.size 3 1 fv k (numsV (farN l f k)) ∧ Below w4.heap.size w4 wr) (fun i _ _ _ => l.length - (intOf i).toNat)
        case atStart => exact ⟨0, rfl, Nat.zero_le _, rfl, World.ownsRow_nil _ _ _ _, Below.refl _ _⟩
        case round =>
          obtain ⟨k, rfl, hk, rfl, hO, hB⟩ := hrel
          obtain ⟨pf, cf, rfl⟩ := lenOf hO
          have HO5 := Lib.hid hO
          have HB5 := Lib.hid hB
          by_cases hlt : k < l.length
          · obtain ⟨lb, lo, rfl, hci⟩ := (HR4.out.below hB).cell hlt
            have hT5 := HT4.out.below hB (Nat.le_refl _)
            have HT5 := Lib.hid hT5
            have hdn : dN l f k = apartN (nm l[k]) f := by unfold dN; rw [getD_get hlt]
            obtain ⟨x, hx⟩ : ∃ x, l[k] = x := ⟨_, rfl⟩
            rw [hx] at hci hdn
            have HD := Lib.hid hdn
            have HLT := Lib.hid hlt
            have hk1 : (k : Int) < l.length := by omega
            clear hO hB hT5 hdn hx hlt
            go_wp2_with fail
            refine (norm_pro x _ HT5.out).mono ?_
            rintro e w6 ⟨rfl, hb6⟩
            have HB6 := Lib.hid (HB5.out.trans (hb6.mono HB5.out.size))
            have HO6 := Lib.hid (own_below HO5.out hb6)
            clear hb6
            have hnx : (nm x).size ≤ 16777216 := by have := nm_size x; omega
            have hfx : f.size ≤ 16777216 := by have := HFS.out; omega
            have HAP := Lib.hid (fun w => apart_pro (nm x) f w hnx hfx)
            rw [show (nrm x).1 = nm x from rfl]
            rw [← HD.out] at HAP
            obtain ⟨n1, hn1⟩ : ∃ n1, nm x = n1 := ⟨_, rfl⟩
            obtain ⟨er, her⟩ : ∃ er, (nrm x).2 = er := ⟨_, rfl⟩
            obtain ⟨d, hd⟩ : ∃ d, dN l f k = d := ⟨_, rfl⟩
            obtain ⟨m, hm⟩ : ∃ m, lowN l f k = m := ⟨_, rfl⟩
            rw [hn1, hd] at HAP
            rw [hn1, her, hm]
            have HDD := Lib.hid hd
            have HM := Lib.hid hm
            have HD4 := Lib.hid (show d ≤ 640 by
              rw [← hd, HD.out]
              have h1 := lev_max (ints (cds (nm x))).reverse (ints (cds f)).reverse
              have h2 := cds_len (nm x)
              have h3 := cds_len f
              have h4 := nm_size x
              have h5 := HFS.out
              simp only [List.length_reverse, ints_len] at h1
              unfold apartN
              omega)
            have HM4 := Lib.hid (show m ≤ 4 by rw [← hm]; exact (lowN_le l f k).1)
            clear hnx hfx hn1 her hd hm
            go_wp2_with fail
            refine (HAP.out _).mono ?_
            rintro e w7 ⟨rfl, hb7⟩
            have HB7 := Lib.hid (HB6.out.trans (hb7.mono HB6.out.size))
            have HO7 := Lib.hid (own_below HO6.out hb7)
            clear hb7
            have M1 := Lib.hid (show k + 1 ≤ maxLen by have := HBIG.out; have := HLT.out; unfold maxLen; omega)
            have M2 := Lib.hid (show (k + 1) * 8 ≤ 140737488355328 by have := HBIG.out; have := HLT.out; omega)
            have M3 := Lib.hid (show w4.heap.size ≤ (w7.alloc (.cells #[.int .i64 d] 3)).heap.size by have := HB7.out.size; simp; omega)
            have HO8 := Lib.hid (HO7.out.alloc (.cells #[.int .i64 d] 3))
            have HB8 := Lib.hid (HB7.out.alloc HB7.out.size (.cells #[.int .i64 d] 3))
            have v1 : IntKind.i64.wrap ((k : Int) + 1 - 1) = k := by rw [IntWalk.i64_in _ (by omega)]; omega
            go_wp2_with (at_builtin; go_loud (refine wpList_append_lies _ rfl _ _ 27 rfl w4.heap.size 3 i0 (.int .i64 0) 1 8 Tryd.underlying27 hi hz0 hz1 hz2 rfl (by decide) _ k (numsV (farN l f k)) rfl HO8.out ⟨w7.heap.size, 0, none⟩ 1 1 [.int .i64 d] rfl rfl (cells_new _ _ _) (numsV_one [d]) (by decide) M1.out M2.out M3.out _ rfl ?_; intro g9 c9 w9 hown9 hgrow9 _ _; have HO9 := Lib.hid hown9; have HB9 := Lib.hid (below_own HB8.out HO8.out hgrow9); have cd9 := cell_last hown9 (farN_len l f k); clear hown9 hgrow9))
            refine ⟨⟨k + 1, by go_num, HLT.out, ?_, ?_, HB9.out⟩, by have := HLT.out; simp [intOf]; omega⟩
            · rw [lowN_snoc, HM.out, HDD.out]
              congr 1
              omega
            · rw [farN_snoc, HDD.out, numsV_app]
              exact HO9.out
          · obtain rfl : k = l.length := by omega
            have hlz : ¬ ((l.length : Int) < l.length) := by omega
            have HFR := Lib.hid (RdI.own hO (farN_len l f l.length).symm)
            have HP5 := Lib.hid (HP4.out.below hB)
            have HT5 := Lib.hid (HT4.out.below hB (Nat.le_refl _))
            have HB5' := Lib.hid (HB4.out.trans (hB.mono HB4.out.size))
            obtain ⟨m, hm⟩ : ∃ m, lowN l f l.length = m := ⟨_, rfl⟩
            have HM := Lib.hid hm
            rw [hm]
            have hlen := HBIG.out
            clear hO hB hlt hm
            go_wp2_with fail
            refine (sorted_pro l _ _ HP5.out (by omega)).mono ?_
            rintro e w6 ⟨vz, rfl, hoz, hb6⟩
            rw [srt_len] at hoz
            have HZL := Lib.hid (srt_len l)
            have HZN := Lib.hid (fun i (hi : i ∈ srt l) => srt_lt hi)
            have HNW := Lib.hid (near_want l s HOK.out)
            rw [HF.out] at HNW
            obtain ⟨zs, hzs⟩ : ∃ zs, srt l = zs := ⟨_, rfl⟩
            rw [hzs] at hoz HZL HZN HNW
            obtain ⟨pz, cz, rfl⟩ := lenOf hoz
            have HZ := Lib.hid (RdI.own hoz HZL.out.symm)
            have HB6 := Lib.hid (HB5'.out.trans (hb6.mono HB5'.out.size))
            have HFR6 := Lib.hid (HFR.out.below hb6)
            have HP6 := Lib.hid (HP5.out.below hb6)
            have HT6 := Lib.hid (HT5.out.below hb6 (Nat.le_refl _))
            clear hoz hb6 hzs
            go_wp2_with fail
            go_loopw [75, 16] (fun i fv wr => ∃ k : Nat, i = .int .i64 k ∧ k ≤ l.length ∧ wr.ownsRow w6.heap.size 3 1 fv (wantN l f (zs.take k)).length (numsV (wantN l f (zs.take k))) ∧ Below w6.heap.size w6 wr) (fun i _ _ => l.length - (intOf i).toNat)
            case atStart => exact ⟨0, rfl, Nat.zero_le _, World.ownsRow_nil _ _ _ _, Below.refl _ _⟩
            case round =>
              obtain ⟨k, rfl, hk, hO, hB⟩ := hrel
              obtain ⟨pw, cw, rfl⟩ := lenOf hO
              have HO7 := Lib.hid hO
              have HB7 := Lib.hid hB
              by_cases hlt : k < l.length
              · have hkz : k < zs.length := by rw [HZL.out]; exact hlt
                have hil : zs[k] < l.length := HZN.out _ (List.getElem_mem hkz)
                have htk : zs.take (k + 1) = zs.take k ++ [zs[k]] := List.take_succ_eq_append_getElem hkz
                obtain ⟨zb, zo, rfl, hcz⟩ := (HZ.out.below hB).cell hkz
                obtain ⟨i, hi2⟩ : ∃ i, zs[k] = i := ⟨_, rfl⟩
                rw [hi2] at hil htk hcz
                have hfl := farN_len l f l.length
                obtain ⟨fb, fo, rfl, hcf⟩ := (HFR6.out.below hB).cell (j := i) (by rw [hfl]; exact hil)
                have hfd : (farN l f l.length)[i]'(by rw [hfl]; exact hil) = dN l f i := by simp [farN]
                rw [hfd] at hcf
                obtain ⟨d, hd⟩ : ∃ d, dN l f i = d := ⟨_, rfl⟩
                rw [hd] at hcf
                have HTK := Lib.hid htk
                have HD := Lib.hid hd
                have HSN := Lib.hid (wantN_snoc l f (zs.take k) i)
                rw [HM.out, hd] at HSN
                have hwl := wantN_len l f (zs.take k)
                obtain ⟨ws, hws⟩ : ∃ ws, wantN l f (zs.take k) = ws := ⟨_, rfl⟩
                rw [hws] at HO7 HSN hwl ⊢
                have hwl2 : ws.length ≤ 100 := by rw [List.length_take] at hwl; have := HBIG.out; omega
                have HWL := Lib.hid hwl2
                have HLT := Lib.hid hlt
                have hi0 : ¬ ((i : Int) < 0) := by omega
                have hi1 : (i : Int) < l.length := by omega
                have hi3 : (0 : Int) ≤ i := by omega
                have hk1 : (k : Int) < l.length := by omega
                clear hO hB hkz hi2 htk hfl hfd hd hwl hwl2 hws hlt
                by_cases hm4 : m < 4
                · have hm5 : (m : Int) < 4 := by omega
                  by_cases hdm : d = m
                  · have t1 : ((d : Int) == (m : Int)) = true := by simp; omega
                    have HDM := Lib.hid (show m < 4 ∧ d = m from ⟨hm4, hdm⟩)
                    have M1 := Lib.hid (show ws.length + 1 ≤ maxLen by have := HWL.out; unfold maxLen; omega)
                    have M2 := Lib.hid (show (ws.length + 1) * 8 ≤ 140737488355328 by have := HWL.out; omega)
                    have M3 := Lib.hid (show w6.heap.size ≤ (wr.alloc (.cells #[.int .i64 i] 3)).heap.size by have := HB7.out.size; simp; omega)
                    have HO8 := Lib.hid (HO7.out.alloc (.cells #[.int .i64 i] 3))
                    have HB8 := Lib.hid (HB7.out.alloc HB7.out.size (.cells #[.int .i64 i] 3))
                    clear hm4 hdm
                    go_wp2_with (at_builtin; go_loud (refine wpList_append_lies _ rfl _ _ 27 rfl w6.heap.size 3 i0 (.int .i64 0) 1 8 Tryd.underlying27 hi hz0 hz1 hz2 rfl (by decide) _ ws.length (numsV ws) rfl HO8.out ⟨wr.heap.size, 0, none⟩ 1 1 [.int .i64 i] rfl rfl (cells_new _ _ _) (numsV_one [i]) (by decide) M1.out M2.out M3.out _ rfl ?_; intro g9 c9 w9 hown9 hgrow9 _ _; have HO9 := Lib.hid hown9; have HB9 := Lib.hid (below_own HB8.out HO8.out hgrow9); clear hown9 hgrow9))
                    refine ⟨⟨k + 1, by go_num, HLT.out, ?_, HB9.out⟩, by have := HLT.out; simp [intOf]; omega⟩
                    rw [HTK.out, HSN.out, if_pos HDM.out, List.length_append, List.length_singleton, numsV_app]
                    exact HO9.out
                  · have t1 : ((d : Int) == (m : Int)) = false := by simp; omega
                    have HDM := Lib.hid (show ¬ (m < 4 ∧ d = m) from fun h => hdm h.2)
                    clear hm4 hdm
                    go_wp2_with fail
                    go_roundw
                    case measure => have := HLT.out; simp [intOf]; omega
                    case rel =>
                      refine ⟨k + 1, by go_num, HLT.out, ?_, HB7.out⟩
                      rw [HTK.out, HSN.out, if_neg HDM.out]
                      exact HO7.out
                · have hm5 : ¬ (m : Int) < 4 := by omega
                  have HDM := Lib.hid (show ¬ (m < 4 ∧ d = m) from fun h => hm4 h.1)
                  clear hm4
                  go_wp2_with fail
                  go_roundw
                  case measure => have := HLT.out; simp [intOf]; omega
                  case rel =>
                    refine ⟨k + 1, by go_num, HLT.out, ?_, HB7.out⟩
                    rw [HTK.out, HSN.out, if_neg HDM.out]
                    exact HO7.out
              · obtain rfl : k = l.length := by omega
                have hzt : zs.take l.length = zs := by rw [← HZL.out]; exact List.take_length
                rw [hzt] at hO ⊢
                have hwl := wantN_len l f zs
                obtain ⟨ws, hws⟩ : ∃ ws, wantN l f zs = ws := ⟨_, rfl⟩
                rw [hws] at hO HNW hwl ⊢
                have HW := Lib.hid (RdI.own hO rfl)
                have hB8 := HB6.out.trans (hB.mono HB6.out.size)
                have HB8 := Lib.hid hB8
                have HT8 := Lib.hid (HT6.out.below hB (Nat.le_refl _))
                have HP8 := Lib.hid (HP6.out.below hB)
                have hlz2 : ¬ ((l.length : Int) < l.length) := by omega
                have HWL := Lib.hid (show ws.length ≤ 1000 by have := HZL.out; have := HBIG.out; omega)
                clear hO hB hlt hB8 hzt hwl hws
                go_wp2_with fail
                refine (near_pro l _ s _ HP8.out (by have := HBIG.out; omega) HT8.out).mono ?_
                rintro e w9 ⟨vn, rfl, hon, hb9⟩
                rw [HNW.out] at hon
                have HN9 := Lib.hid (RdI.own hon rfl)
                have HB9 := Lib.hid (HB8.out.trans (hb9.mono HB8.out.size))
                have HW9 := Lib.hid (HW.out.below hb9)
                obtain ⟨pn, cn, rfl⟩ := lenOf hon
                clear hon hb9
                go_wp2_with fail
                refine (ints_ref ws _ _ _ HN9.out HW9.out HWL.out).mono ?_
                rintro e w10 ⟨rfl, hb10⟩
                have HB10 := Lib.hid (HB9.out.trans (hb10.mono HB9.out.size))
                clear hb10
                go_wp2_with fail
                go_ret
                exact ⟨rfl, HB10.out⟩

set_option maxRecDepth 100000 in
theorem contract (H : Type) (enc : TypeId × Value → H) (W : World) (base : Nat) (args : Array Value) (ds gs : List (DataW H)) (before : List MemPlace)
    (hval : ∀ (j : Nat) t v, Tryd.f8.params[j]? = some t → args[j]? = some v → Value.okWide Tryd.prog W .any base t v)
    (hW : DataW.Whole enc Tryd.prog Tryd.f8.params.toList Rows.namesNearSpec.vars false W args.toList ds gs before) (hk : Rows.uptoSmall H (ds ++ gs) = true) (hT : Tabs W) :
    Calls Tryd.prog 8 args W fun e W' => ∃ v, e = .returned v ∧ Rows.namesNearSpec.post enc Tryd.prog Tryd.f8 false true false false W args v W' := by
  have hW' := hW
  obtain ⟨p, q, hA0, hV, rfl, hfz, hnd⟩ := hW
  have hA : DataW.TrodAll enc Tryd.prog W 0 (fun _ => true) true Tryd.f8.params.toList args.toList ds p := hA0
  rw [Tryd.params8] at hA hval
  obtain ⟨v0, vs0, d0, ds0, p0, q0, hargs, rfl, rfl, h0, r0⟩ := trodAll_cons hA
  obtain ⟨v1, vs1, d1, ds1, p1, q1, rfl, rfl, rfl, h1, r1⟩ := trodAll_cons r0
  obtain ⟨rfl, rfl, rfl⟩ := trodAll_nil r1
  obtain rfl : args = #[v0, v1] := by cases args; simp_all
  obtain ⟨rfl, rfl⟩ := trodVars_none hV
  have hk0 := h0
  obtain ⟨l0, hR0, hD0⟩ := texts_read h0 (okWide_slice Tryd.underlying24 (hval 0 24 v0 rfl rfl))
  obtain ⟨s1, rfl, rfl, rfl, hm1⟩ := open_string Tryd.underlying9 (hval 1 9 v1 rfl rfl) h1
  clear hA0
  simp only [List.append_nil] at hk
  have hb0 := of_decide_eq_true hk
  simp only [Rows.uptoBulkAll, Rows.uptoBulk] at hb0
  have size0 := texts_bulk hD0 (n := 1048576) (by omega)
  have size1 : s1.size ≤ 1048576 := by
    have e : s1.data.toList.length = s1.size := by rw [Array.length_toList]; rfl
    omega
  refine (walk v0 l0 s1 W hR0 size0 size1 hT).mono fun e W' ⟨he, hg⟩ => ?_
  subst he
  have hlt := hW'.lt
  exact ⟨_, rfl, post_of_below (pa := (p0 ++ ([] ++ []))) (pv := []) hW' (fun _ _ _ => trodAll_cons_mk (shut_bool Tryd.underlying4 _) trodAll_mk0) (fun sp hsp => (trodAll_cons_mk (Go.WideElems.Trod_stays (by kernel_rfl) (by kernel_rfl) (of_decide_eq_true (by kernel_rfl)) hk0 (fun p hp => hg.same (hlt p (by simp [hp]))) (fun p hp => hsp p (by simp [hp]))) (trodAll_cons_mk (shut_string Tryd.underlying9 hm1) trodAll_mk0))) (fun _ _ => rfl) rfl hg (ok_one (by kernel_rfl) rfl (okWide_bool_mk Tryd.underlying4 _))⟩

theorem witness_row (os : Os) {H : Type} (enc : TypeId × Value → H) :
    (Rows.OpenSpec.upto Rows.namesNearSpec).preRow enc Tryd.prog Tryd.f8 Rows.namesNearUptoRow.domain false Rows.namesNearUptoRow.laid ((laidWorld os).forCall (fun _ _ => 0) ⟨#[], #[.slice none 0 0, .string .empty], []⟩).memory #[.slice none 0 0, .string .empty] := by
  have hw : (DataW.whole enc Tryd.prog ((laidWorld os).forCall (fun _ _ => 0) ⟨#[], #[.slice none 0 0, .string .empty], []⟩).memory Tryd.f8.params.toList Rows.namesNearSpec.vars false (#[.slice none 0 0, .string .empty] : Array Value).toList 8).map (fun x => (x.1, x.2.1)) =
      some ([.nil, .lit (.string [])], []) := by kernel_rfl
  obtain ⟨⟨x1, x2, x3⟩, hx, hx1⟩ := Option.map_eq_some_iff.1 hw
  simp only [Prod.mk.injEq] at hx1
  obtain ⟨rfl, rfl⟩ := hx1
  exact OpenSpec.preRow_of_cond 8 hx (by kernel_rfl) (fun k hk => by cases hk; kernel_rfl) (by kernel_rfl) (laid_met os _)

set_option maxRecDepth 100000 in
theorem lifted (os : Os) (started : os.Started) (H : Type) (enc : TypeId × Value → H) (F : Stop.Interp) :
    ReturnsInHanded {} Tryd.checked os 8 .any ((Rows.OpenSpec.upto Rows.namesNearSpec).preRow enc Tryd.prog Tryd.f8 Rows.namesNearUptoRow.domain false Rows.namesNearUptoRow.laid) (((Rows.OpenSpec.upto Rows.namesNearSpec).at F).post enc Tryd.prog Tryd.f8 false true false false) := by
  refine returnsInHanded_of_row (C := Tryd.checked) (s := (Rows.OpenSpec.upto Rows.namesNearSpec)) own started (by kernel_rfl) Tryd.func8
    (witness_row_at (enc := enc) (C := Tryd.checked) false (laidWorld os) #[.slice none 0 0, .string .empty] rfl (by kernel_rfl) (by kernel_rfl) (by kernel_rfl) (witness_row os enc)) ?_
  intro W base args ds gs before hval hW _ hcond hsz hL hS _
  exact contract H enc W base args ds gs before hval hW (hcond _ rfl) (tabs_of hL hS)

set_option maxHeartbeats 16000000 in
theorem closed : joinedFacts Tryd.pinned.checked.prog 8 Tryd.f8 ((Rows.OpenSpec.upto Rows.namesNearSpec)).bare Rows.namesNearUptoRow = true := by
  unfold joinedFacts
  repeat' (with_reducible refine Bool.and_eq_true_iff.2 ⟨?_, ?_⟩)
  all_goals (as_aux_lemma => kernel_rfl)
theorem named : Tryd.pinned.checked.prog.funcNamed Rows.namesNearUptoRow.func = some 8 := by kernel_rfl
theorem inst : (Tryd.f8).isInstance Tryd.pinned.checked.prog Rows.namesNearUptoRow.origin Rows.namesNearUptoRow.targs := of_decide_eq_true (by kernel_rfl)
theorem wrap : (Tryd.f8).isWrapper Tryd.pinned.checked.prog Rows.namesNearUptoRow.wrapper Rows.namesNearUptoRow.mainSum := by
  unfold Func.isWrapper
  first | (rw [if_pos (by decide +kernel)]; kernel_rfl) | (rw [if_neg (by decide +kernel)]; exact ⟨rfl, rfl⟩)
theorem row : Rows.NamesNearUptoSaid :=
  OpenClaim.holds_of_cond 8 Tryd.f8 rfl rfl rfl rfl rfl rfl rfl ⟨rfl, rfl, rfl, rfl, rfl⟩ rfl rfl rfl rfl rfl named Tryd.func8 closed inst wrap
    (fun os started H enc _ F => by rw [OpenClaim.pre_eq_preRow]; exact lifted os started H enc F)

theorem plain (f : FuncId) (fn : Func) (hf : Tryd.pinned.checked.prog.funcNamed Rows.namesNearUptoRow.func = some f) (hfn : Tryd.pinned.checked.prog.funcs[f]? = some fn) :
    false = Tryd.pinned.checked.prog.looks [] ∧ ∀ (j : Nat) t, fn.params[j]? = some t → Tryd.pinned.checked.prog.wantsStandIn t = false := by
  obtain rfl : f = 8 := Option.some.inj ((show Tryd.prog.funcNamed Rows.namesNearUptoRow.func = some 8 by kernel_rfl).symm.trans hf) |>.symm
  obtain rfl : fn = Tryd.f8 := (Option.some.inj (Tryd.func8.symm.trans hfn)).symm
  refine ⟨by kernel_rfl, fun j t ht => ?_⟩
  rw [Tryd.params8] at ht
  have hm : t ∈ [24, 9] := by simpa using Array.mem_of_getElem? ht
  simp only [List.mem_cons, List.mem_nil_iff, or_false] at hm
  rcases hm with rfl | rfl
  · exact (show Tryd.prog.wantsStandIn 24 = false by kernel_rfl)
  · exact (show Tryd.prog.wantsStandIn 9 = false by kernel_rfl)

theorem proved : Rows.NamesNearUptoCardSaid :=
  Claim7.holds_tied_plain_at .later [] _ _ _ _ row (fun _ h => by cases h) (by kernel_rfl) (fun _ h => by cases h) namesNearUpto_row_tie rfl ⟨rfl, rfl⟩ (by kernel_rfl) rfl plain (by kernel_rfl)
end Go.Proofs.YtaikecdafcmdaaaDoor.namesNear
