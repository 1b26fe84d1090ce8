/- What is proved: NamesCollects holds of every list of sources, with no bound: of sources that are taken each topic has its place in the directory, in order, under its own Norm. -/
import Derived.Test.YtjgcbobalmmjkaaDoorNrs
import Derived.Test.YtjgcbobalmmjkaaDoorNk
import Derived.Test.YtjgcbobalmmjkaaDoorPost
import Derived.Test.YtjgcbobalmmjkaaDoorCards
import Derived.Test.YtjgcbobalmmjkaaDoorTie
import Derived.ProofKit
import Derived.OpenShut
import Derived.Deep.DeepHandedRow
import Derived.Lib.QuietBelow
namespace Go.Proofs.YtjgcbobalmmjkaaDoor.namesCollects
open Go.ChangeShapes Go.WideShapes Go.ChangeAt Go.RowKit Go.Maps Go.Sort
open Go.ChangeMaps (open_string shut_string)
set_option linter.unusedVariables false

/-- A map that has these keys, at most. -/
structure One (D : DataW Unit) (ks : List ByteArray) : Prop where
  tidy : Tidy D
  none_ : ∀ x, x ∉ ks → D.atKey (keyL x) (.lit (.int .i64 0)) = .lit (.int .i64 0)
theorem One.nil : One (.map []) [] := ⟨tidy_empty, fun x _ => rfl⟩
theorem One.put {D : DataW Unit} {ks : List ByteArray} (h : One D ks) (x : ByteArray) (d : DataW Unit) : One (D.put (keyL x) d) (ks ++ [x]) := by
  refine ⟨h.tidy.put (keyL_key x) _, fun y hy => ?_⟩
  have h1 : y ∉ ks := fun h => hy (List.mem_append_left _ h)
  have h2 : y ≠ x := fun h => hy (by simp [h])
  rw [atKey_put_other (fun e => h2 (keyL_inj e))]
  exact h.none_ y h1
def OneIs (W : World) (M n : Nat) (ks : List ByteArray) : Prop := ∃ D : DataW Unit, W.ownsMap Tryd.prog 9 (plainElem Tryd.prog 3) M n D ∧ One D ks
theorem OneIs.lt {w : World} {M n : Nat} {ks : List ByteArray} (h : OneIs w M n ks) : M < w.heap.size := by
  obtain ⟨D, h1, _⟩ := h
  exact h1.lt
theorem OneIs.block {w w' : World} {M n : Nat} {ks : List ByteArray} (h : OneIs w M n ks) (e : w'.heap[M]? = w.heap[M]?) : OneIs w' M n ks := by
  obtain ⟨D, ⟨es, ck, h1, h2⟩, h3⟩ := h
  exact ⟨D, ⟨es, ck, e.trans h1, h2⟩, h3⟩
theorem OneIs.below {w w' : World} {M n : Nat} {ks : List ByteArray} (h : OneIs w M n ks) (hb : Below w.heap.size w w') : OneIs w' M n ks := h.block (hb.block M h.lt)
/-- Where the laws stand: the map of what was seen, all else below as it was. -/
structure LS (w : World) (M : Nat) (l : List En) (W : World) : Prop where
  mp : OneIs W M l.length (normsE l)
  bl : Below w.heap.size w W
  low : w.heap.size ≤ M
theorem LS.below {w W W' : World} {M : Nat} {l : List En} (h : LS w M l W) (hb : Below W.heap.size W W') : LS w M l W' := ⟨h.mp.below hb, h.bl.trans (hb.mono h.bl.size), h.low⟩
theorem LS.start (w : World) : LS w w.heap.size [] (w.alloc (.map #[] 0)) :=
  ⟨⟨.map [], World.ownsMap_made _ _ _ _, One.nil⟩, (Below.refl _ w).alloc (Nat.le_refl _) _, Nat.le_refl _⟩
theorem LS.put {w W W' : World} {M : Nat} {l : List En} {x : En} (h : LS w M l W) {D : DataW Unit} (hD : One D (normsE l)) {d : DataW Unit} (hown : W'.ownsMap Tryd.prog 9 (plainElem Tryd.prog 3) M (l.length + 1) (D.put (keyL (nm x.tp.nam)) d)) (hg : W.grownBy W' (some M)) : LS w M (l ++ [x]) W' :=
  ⟨⟨_, by rw [List.length_append]; exact hown, by rw [normsE_snoc]; exact hD.put _ d⟩, h.bl.grown hg h.bl.size (fun r e => by cases e; exact h.low), h.low⟩
/-- Each topic stands in the directory where it is gone through. -/
theorem ents_mid (ss : List Srm) {k j : Nat} (hk : k < ss.length) (hj : j < ss[k].ts.length) : ∃ r, entsS ss ss.length = (entsS ss k ++ entsT k ss[k].ts j) ++ ⟨k, j, ss[k].ts[j]⟩ :: r := by
  have h1 : ∀ m, j + 1 ≤ m → m ≤ ss[k].ts.length → ∃ r, entsT k ss[k].ts m = entsT k ss[k].ts j ++ ⟨k, j, ss[k].ts[j]⟩ :: r := by
    intro m
    induction m with
    | zero => intro h; omega
    | succ m ih =>
      intro ha hb
      rcases Nat.lt_or_ge j m with h | h
      · obtain ⟨r, hr⟩ := ih (by omega) (by omega)
        exact ⟨r ++ [⟨k, m, ss[k].ts[m]⟩], by rw [entsT_succ (by omega), hr]; simp⟩
      · obtain rfl : j = m := by omega
        exact ⟨[], entsT_succ hj⟩
  have h2 : ∀ m, k + 1 ≤ m → m ≤ ss.length → ∃ r, entsS ss m = entsS ss (k + 1) ++ r := by
    intro m
    induction m with
    | zero => intro h; omega
    | succ m ih =>
      intro ha hb
      rcases Nat.lt_or_ge k m with h | h
      · obtain ⟨r, hr⟩ := ih (by omega) (by omega)
        exact ⟨r ++ entsT m ss[m].ts ss[m].ts.length, by rw [entsS_succ (by omega), hr]; simp⟩
      · obtain rfl : k = m := by omega
        exact ⟨[], by simp⟩
  obtain ⟨r1, e1⟩ := h1 _ hj (Nat.le_refl _)
  obtain ⟨r2, e2⟩ := h2 _ hk (Nat.le_refl _)
  exact ⟨r1 ++ r2, by rw [e2, entsS_succ hk, e1]; simp⟩
theorem nm_le {s : ByteArray} : (nm s).size ≤ maxLen := by
  unfold nm nrm
  split
  · exact Nat.zero_le _
  · split
    · exact Nat.zero_le _
    · have h2 := fold_size s
      show (fold s).size ≤ maxLen
      unfold maxLen
      omega

set_option maxRecDepth 100000 in
set_option maxHeartbeats 8000000 in
theorem walk (v : Value) (ss : List Srm) (W : World) (hR : RdSr W v ss) (hl : ss.length ≤ 4611686018427387904 ∧ ∀ s ∈ ss, s.ts.length ≤ 140737488355328) (hT : Tabs W) :
    Calls Tryd.prog 3 #[v] W fun e w' => e = .returned (.bool true) ∧ Below W.heap.size W w' := by
  obtain ⟨pa, cap, rfl⟩ := hR.form
  have HR := Lib.hid hR
  have HT := Lib.hid hT
  have HL1 := Lib.hid hl.1
  have HL2 := Lib.hid hl.2
  have hmm := @run_makeMap Tryd.prog
  clear hR hT hl
  go_enter Tryd.func3, Tryd.ntmps3
  go_wp2_with fail
  refine (awake_law _ HT.out).mono ?_
  rintro e w1 ⟨rfl, h1⟩
  have HB1 := Lib.hid h1
  have HR1 := Lib.hid (HR.out.below h1)
  have HT1 := Lib.hid (HT.out.below h1 (Nat.le_refl _))
  clear h1
  go_wp2_with fail
  refine (collect_pro ss _ _ HR1.out HT1.out HL1.out HL2.out).mono ?_
  rintro e w2 ⟨hb2, h⟩
  have HB2 := Lib.hid (HB1.out.trans (hb2.mono HB1.out.size))
  have HR2 := Lib.hid (HR1.out.below hb2)
  have HT2 := Lib.hid (HT1.out.below hb2 (Nat.le_refl _))
  clear hb2
  rcases h with ⟨g, f, rfl, _⟩ | ⟨h64, h1000, hF, dv, rfl, hD⟩
  · unfold errV
    go_wp2_with fail
    go_ret
    exact ⟨rfl, HB2.out⟩
  · obtain ⟨pd, cd, rfl⟩ := hD.form
    have HD := Lib.hid hD
    have HF := Lib.hid hF
    have HLE := Lib.hid (entsS_len ss ss.length (Nat.le_refl _))
    have HK := Lib.hid h1000
    obtain ⟨LL, hLL⟩ : ∃ LL, entsS ss ss.length = LL := ⟨_, rfl⟩
    have HLL := Lib.hid hLL
    rw [hLL] at HD HF HLE ⊢
    have hln : LL.length ≤ 1000 := by rw [HLE.out]; exact h1000
    clear hD hF hLL h1000
    go_wp2_with fail
    go_loopw [5, 28] (fun nv i wr => ∃ k : Nat, i = .int .i64 k ∧ k ≤ ss.length ∧ nv = .int .i64 ((entsS ss k).length : Nat) ∧ Hid (LS w2 w2.heap.size (entsS ss k) wr)) (fun _ i _ => ss.length - (intOf i).toNat)
    case atStart => exact ⟨0, rfl, Nat.zero_le _, rfl, Lib.hid (LS.start w2)⟩
    case round =>
      obtain ⟨k, rfl, hk, rfl, HS⟩ := hrel
      by_cases hlt : k < ss.length
      · obtain ⟨b, off, rfl, ⟨sp, sn, sc, hst⟩, d1, d2, ht⟩ := HR2.out.cell hlt
        have c1 := (HS.out.bl.cell (p := ⟨b, off + k * 2, none⟩) (cellIn d1)).trans d1
        have c2 := (HS.out.bl.cell (p := ⟨b, off + k * 2 + 1, none⟩) (cellIn d2)).trans d2
        have HSUC := Lib.hid (entsS_succ hlt)
        obtain ⟨ts, hts, HMID⟩ : ∃ ts, ss[k].ts = ts ∧ Hid (∀ j, (hj : j < ts.length) → ∃ r, LL = (entsS ss k ++ entsT k ts j) ++ (⟨k, j, ts[j]⟩ : En) :: r) :=
          ⟨_, rfl, Lib.hid fun j hj => by rw [← HLL.out]; exact ents_mid ss hlt hj⟩
        rw [hts] at HSUC ht
        obtain ⟨pt, ct, htv, hrest⟩ := ht
        have HTP := Lib.hid (show RdTp w2 (.slice pt ts.length ct) ts from ⟨pt, ct, rfl, hrest⟩)
        rw [hst] at c1
        rw [htv] at c2
        obtain ⟨nt, hnt⟩ : ∃ nt, ts.length = nt := ⟨_, rfl⟩
        rw [hnt] at c2 HSUC HTP
        have HNT := Lib.hid hnt
        obtain ⟨C, hC⟩ : ∃ C, (entsS ss k).length = C := ⟨_, rfl⟩
        have HC := Lib.hid hC
        rw [hC]
        have HNB := Lib.hid (show C + nt ≤ 1000 by
          have h1 := cntT_mono ss (show k + 1 ≤ ss.length by omega) (Nat.le_refl _)
          have h2 := HK.out
          rw [cntT_succ hlt, ← entsS_len ss k hk, hC, hts, hnt] at h1
          omega)
        have hk1 : (k : Int) < ss.length := by omega
        have HLT := Lib.hid hlt
        have HS0 := Lib.hid (HS.out.below ((Below.refl _ wr).alloc (Nat.le_refl _) (.cells #[.slice sp sn sc, .slice pt nt ct] 33)))
        clear d1 d2 hst htv hrest hts hnt hlt HS hC
        obtain ⟨wo, rfl⟩ : ∃ wo : World, wo = wr := ⟨_, rfl⟩
        go_wp2_with fail
        go_loopw [5, 36] (fun nv i wr => ∃ j : Nat, i = .int .i64 j ∧ j ≤ nt ∧ nv = .int .i64 ((C + j : Nat)) ∧ Hid (LS w2 w2.heap.size (entsS ss k ++ entsT k ts j) wr)) (fun _ i _ => nt - (intOf i).toNat)
        case atStart => exact ⟨0, rfl, Nat.zero_le _, by simp, Lib.hid (by simpa [entsT] using HS0.out)⟩
        case round =>
          obtain ⟨j, rfl, hj, rfl, HS2⟩ := hrel
          by_cases hjt : j < nt
          · have hjl : j < ts.length := by rw [HNT.out]; exact hjt
            obtain ⟨b2, off2, rfl, hc⟩ := HTP.out.cell hjl
            have qq : ∀ i u, (tpcRow ts[j])[i]? = some u → wr.cell? ⟨b2, off2 + j * 8 + i, none⟩ = some u := fun i u hu => (HS2.out.bl.cell (p := ⟨b2, off2 + j * 8 + i, none⟩) (cellIn (hc i u hu))).trans (hc i u hu)
            have HES := Lib.hid (entsT_succ (i := k) hjl)
            obtain ⟨r, hr⟩ := HMID.out j hjl
            obtain ⟨t, ht⟩ : ∃ t, ts[j] = t := ⟨_, rfl⟩
            rw [ht] at qq HES hr
            have q0 : wr.cell? ⟨b2, off2 + j * 8, none⟩ = some (.int .i64 t.kind) := qq 0 _ rfl
            have q1 : wr.cell? ⟨b2, off2 + j * 8 + 1, none⟩ = some (.string t.nam) := qq 1 _ rfl
            have q2 : wr.cell? ⟨b2, off2 + j * 8 + 2, none⟩ = some (.string t.title) := qq 2 _ rfl
            have q3 : wr.cell? ⟨b2, off2 + j * 8 + 3, none⟩ = some (.int .i64 t.level) := qq 3 _ rfl
            have q4 : wr.cell? ⟨b2, off2 + j * 8 + 4, none⟩ = some (.slice t.kp t.kn t.kc) := qq 4 _ rfl
            have q5 : wr.cell? ⟨b2, off2 + j * 8 + 5, none⟩ = some (.slice t.sp t.sn t.sc) := qq 5 _ rfl
            have q6 : wr.cell? ⟨b2, off2 + j * 8 + 6, none⟩ = some (.slice t.bp t.bn t.bc) := qq 6 _ rfl
            have q7 : wr.cell? ⟨b2, off2 + j * 8 + 7, none⟩ = some (.int .i64 t.line) := qq 7 _ rfl
            obtain ⟨L, hL⟩ : ∃ L, entsS ss k ++ entsT k ts j = L := ⟨_, rfl⟩
            rw [hL] at HS2 hr
            have hLn : L.length = C + j := by rw [← hL, List.length_append, entsT_len, HC.out]
            have HL2' := Lib.hid (show entsS ss k ++ entsT k ts (j + 1) = L ++ [⟨k, j, t⟩] by rw [HES.out, ← List.append_assoc, hL])
            obtain ⟨n, hn⟩ : ∃ n, C + j = n := ⟨_, rfl⟩
            rw [hn] at hLn ⊢
            have hnl : n < LL.length := by rw [hr, List.length_append, List.length_cons, hLn]; omega
            have hat : LL[n] = ⟨k, j, t⟩ := by
              have : LL[n]? = some ⟨k, j, t⟩ := by rw [hr, List.getElem?_append_right (by omega), hLn, Nat.sub_self]; rfl
              rw [List.getElem?_eq_getElem hnl] at this
              simpa using this
            have hfine := HF.out n hnl
            rw [hat, show LL.take n = L by rw [hr, List.take_append_of_le_length (by omega), List.take_of_length_le (by omega)]] at hfine
            have hok := errOn_ok hfine
            obtain ⟨bd, od, e, hcd⟩ := HD.out.cell hnl
            subst e
            rw [hat] at hcd
            have hA : Below wr.heap.size wr (wr.alloc (boxT t)) := (Below.refl _ wr).alloc (Nat.le_refl _) _
            have HS3 := Lib.hid (HS2.out.below hA)
            have HBX := Lib.hid (show (wr.alloc (boxT t)).heap[wr.heap.size]? = some (boxT t) from World.alloc_heap_new _ _)
            have hj1 : (j : Int) < nt := by omega
            have HJT := Lib.hid hjt
            have HOK := Lib.hid hok
            have HLN := Lib.hid hLn
            have HNN := Lib.hid hn
            have HCD := Lib.hid hcd
            have hnb := HNB.out
            clear hc qq ht hL hA hjl hjt hr hLn hn hat hfine hok hcd
            go_wp2_with fail
            obtain ⟨W2, hW2⟩ : ∃ W2, wr.alloc (.cells #[.int .i64 t.kind, .string t.nam, .string t.title, .int .i64 t.level, .slice t.kp t.kn t.kc, .slice t.sp t.sn t.sc, .slice t.bp t.bn t.bc, .int .i64 t.line] 38) = W2 := ⟨_, rfl⟩
            obtain ⟨g, hg⟩ : ∃ g, wr.heap.size = g := ⟨_, rfl⟩
            unfold boxT at HS3 HBX
            rw [hW2] at HS3 HBX ⊢
            rw [hg] at HBX ⊢
            have HDW := Lib.hid (show ∀ i u, (enRow ⟨k, j, t⟩)[i]? = some u → W2.cell? ⟨bd, od + n * 6 + i, none⟩ = some u from fun i u hu => (HS3.out.bl.cell (p := ⟨bd, od + n * 6 + i, none⟩) (cellIn (HCD.out i u hu))).trans (HCD.out i u hu))
            obtain ⟨x0, x1, x7⟩ := box_cells (t := t) HBX.out
            have k0 := cell_regrown (show W2.cell? ⟨bd, od + n * 6, none⟩ = some (.string t.nam) from HDW.out 0 _ rfl)
            have k2 := cell_regrown (show W2.cell? ⟨bd, od + n * 6 + 2, none⟩ = some (.int .i64 k) from HDW.out 2 _ rfl)
            have k3 := cell_regrown (show W2.cell? ⟨bd, od + n * 6 + 3, none⟩ = some (.int .i64 j) from HDW.out 3 _ rfl)
            have k4 := cell_regrown (show W2.cell? ⟨bd, od + n * 6 + 4, none⟩ = some (.int .i64 t.kind) from HDW.out 4 _ rfl)
            have k5 := cell_regrown (show W2.cell? ⟨bd, od + n * 6 + 5, none⟩ = some (.int .i64 t.line) from HDW.out 5 _ rfl)
            have b0 := cell_regrown x0
            have b1 := cell_regrown x1
            have b7 := cell_regrown x7
            have mixed : Tryd.prog.follows .mixedOrders = true := by kernel_rfl
            have hnl' : (n : Int) < LL.length := by omega
            have e1 : decide (LL.length ≤ n) = false := decide_eq_false (by omega)
            have e2 : decide ((LL.length : Int) ≤ n) = false := decide_eq_false (by omega)
            have HNL := Lib.hid hnl
            clear x0 x1 x7 hW2 hg q0 q1 q2 q3 q4 q5 q6 q7 hnl
            go_wp2_with fail
            refine wp_region_quiet_below (by assumption) (by kernel_rfl) ?_
            repeat (quiet_step (fail))
            refine wpQuiet_nil ?_
            intro _ hw'
            obtain ⟨⟨dq, osq⟩, hw''⟩ := hw'
            subst hw''
            obtain ⟨w6, hw6⟩ : ∃ w6, grow (redrawn W2 dq) osq = w6 := ⟨_, rfl⟩
            have hb6 : Below W2.heap.size W2 w6 := by rw [← hw6]; exact below_regrown W2 dq osq
            rw [hw6]
            have HS6 := Lib.hid (HS3.out.below hb6)
            have y1 : w6.cell? ⟨g, 1, none⟩ = some (.string t.nam) := (box_cells (t := t) ((hb6.block g (Array.getElem?_eq_some_iff.1 HBX.out).1).trans HBX.out)).2.1
            have HT6 := Lib.hid (HT2.out.below HS6.out.bl (Nat.le_refl _))
            clear k0 k2 k3 k4 k5 b0 b1 b7 hw6 hb6 e1 e2
            go_wp2_with fail
            refine (norm_pro t.nam _ HT6.out).mono ?_
            rintro e w7 ⟨he, hb7⟩
            rw [HOK.out.1, show (nrm t.nam).1 = nm t.nam from rfl] at he
            subst he
            have HS7 := Lib.hid (HS6.out.below hb7)
            obtain ⟨D, hown, hone⟩ := HS7.out.mp
            have y2 : w7.cell? ⟨bd, od + n * 6 + 1, none⟩ = some (.string (nm t.nam)) := (HS7.out.bl.cell (p := ⟨bd, od + n * 6 + 1, none⟩) (cellIn (HCD.out 1 _ rfl))).trans (HCD.out 1 _ rfl)
            have hkey := Go.WideMaps.keyOf_string_mk Tryd.underlying9 (nm_le (s := t.nam))
            have hlk : (Instr.lookup 29 (.map (some w2.heap.size)) (.string (nm t.nam)) false).run Tryd.prog w7 = .ok (.int .i64 0) w7 := by
              obtain ⟨c, hc1, hc2, _⟩ := hown.lookup_int law Tryd.underlying29 Tryd.underlying3 (zeroI _) hkey
              have hc3 := hone.none_ _ HOK.out.2
              have hc4 : (DataW.lit (.int .i64 c) : DataW Unit) = .lit (.int .i64 0) := hc2.symm.trans hc3
              cases hc4
              exact hc1
            have HO7 := Lib.hid hown
            have HN7 := Lib.hid hone
            have HKY := Lib.hid hkey
            obtain ⟨x, hx⟩ : ∃ x, nm t.nam = x := ⟨_, rfl⟩
            have HX := Lib.hid hx
            rw [hx] at y2 hlk HKY ⊢
            clear hb7 hown hone hkey hx y1
            go_wp2_with (at_mapUpdate; go_loud (refine wpList_mapUpdate_own _ rfl _ _ _ 29 rfl 9 3 law Tryd.underlying29 (plainElem Tryd.prog 3) w2.heap.size L.length D rfl HO7.out (by have := HLN.out; unfold maxLen; omega) _ _ _ rfl rfl HKY.out _ [] (plainElem_int Tryd.underlying3 (WalkArith.wf_i64 (by omega))) ?_); intro w8 hown8 hgrow8; have HS8 := Lib.hid (HS7.out.put (x := ⟨k, j, t⟩) HN7.out (by rw [show nm (En.mk k j t).tp.nam = x from HX.out]; exact hown8) hgrow8); clear hown8 hgrow8)
            go_roundw
            case measure => have := HJT.out; simp [intOf]; omega
            case rel => exact ⟨j + 1, by go_num, HJT.out, by have := HNN.out; subst this; go_num, Lib.hid (by rw [HL2'.out]; exact HS8.out)⟩
          · obtain rfl : j = nt := by omega
            have hlz : ¬ ((j : Int) < j) := by omega
            have hnb := HNB.out
            clear hjt
            go_wp2_with fail
            go_roundw
            case measure => have := HLT.out; simp [intOf]; omega
            case rel => exact ⟨k + 1, by go_num, HLT.out, by rw [HSUC.out, List.length_append, entsT_len, HC.out], Lib.hid (by rw [HSUC.out]; exact HS2.out)⟩
      · obtain rfl : k = ss.length := by omega
        have hlz : ¬ ((ss.length : Int) < ss.length) := by omega
        have HBE := Lib.hid (HB2.out.trans (HS.out.bl.mono HB2.out.size))
        rw [HLL.out]
        clear hlt HS
        go_wp2_with fail
        go_ret
        exact ⟨rfl, HBE.out⟩

set_option maxRecDepth 100000 in
theorem contract (H : Type) (enc : TypeId × Value → H) (W : World) (base : Nat) (args : Array Value) (ds gs : List (DataW H)) (before : List MemPlace)
    (hval : ∀ (j : Nat) t v, Tryd.f3.params[j]? = some t → args[j]? = some v → Value.okWide Tryd.prog W .any base t v)
    (hW : DataW.Whole enc Tryd.prog Tryd.f3.params.toList Rows.namesCollectsSpec.vars false W args.toList ds gs before) (hsz0 : (DataW.weightsEach Tryd.prog (Tryd.f3.params.toList ++ Rows.namesCollectsSpec.plain.varTypes Tryd.prog) (ds ++ gs)).all (· ≤ reachBytes) = true) (hT : Tabs W) :
    Calls Tryd.prog 3 args W fun e W' => ∃ v, e = .returned v ∧ Rows.namesCollectsSpec.post enc Tryd.prog Tryd.f3 false true false false W args v W' := by
  have hW' := hW
  obtain ⟨p, q, hA0, hV, rfl, hfz, hnd⟩ := hW
  have hA : DataW.TrodAll enc Tryd.prog W 0 (fun _ => true) true Tryd.f3.params.toList args.toList ds p := hA0
  rw [Tryd.params3] at hA hval
  have hsz := hsz0
  rw [Tryd.params3] at hsz
  clear hsz0
  obtain ⟨v0, vs0, d0, ds0, p0, q0, hargs, rfl, rfl, h0, r0⟩ := trodAll_cons hA
  obtain ⟨rfl, rfl, rfl⟩ := trodAll_nil r0
  obtain rfl : args = #[v0] := by cases args; simp_all
  obtain ⟨rfl, rfl⟩ := trodVars_none hV
  have hk0 := h0
  obtain ⟨l0, hR0, hD0⟩ := srcs_read h0 (okWide_slice Tryd.underlying22 (hval 0 22 v0 rfl rfl))
  clear hA0
  have size0 := srcs_reach hsz (j := 0) rfl rfl hD0
  refine (walk v0 l0 W hR0 size0 hT).mono fun e W' ⟨he, hg⟩ => ?_
  subst he
  have hlt := hW'.lt
  exact ⟨_, rfl, post_of_below (pa := (p0 ++ [])) (pv := []) hW' (fun _ _ _ => trodAll_cons_mk (shut_bool Tryd.underlying4 _) trodAll_mk0) (fun sp hsp => (trodAll_cons_mk (Go.WideElems.Trod_stays (by kernel_rfl) (by kernel_rfl) (of_decide_eq_true (by kernel_rfl)) hk0 (fun p hp => hg.same (hlt p (by simp [hp]))) (fun p hp => hsp p (by simp [hp]))) trodAll_mk0)) (fun _ _ => rfl) rfl hg (ok_one (by kernel_rfl) rfl (okWide_bool_mk Tryd.underlying4 _))⟩

theorem witness_row (os : Os) {H : Type} (enc : TypeId × Value → H) :
    (OpenSpec.ofChange Rows.namesCollectsSpec).preRow enc Tryd.prog Tryd.f3 Rows.namesCollectsRow.domain false Rows.namesCollectsRow.laid ((laidWorld os).forCall (fun _ _ => 0) ⟨#[], #[.slice none 0 0], []⟩).memory #[.slice none 0 0] := by
  have hw : (DataW.whole enc Tryd.prog ((laidWorld os).forCall (fun _ _ => 0) ⟨#[], #[.slice none 0 0], []⟩).memory Tryd.f3.params.toList Rows.namesCollectsSpec.vars false (#[.slice none 0 0] : Array Value).toList 8).map (fun x => (x.1, x.2.1)) =
      some ([.nil], []) := by kernel_rfl
  obtain ⟨⟨x1, x2, x3⟩, hx, hx1⟩ := Option.map_eq_some_iff.1 hw
  simp only [Prod.mk.injEq] at hx1
  obtain ⟨rfl, rfl⟩ := hx1
  exact OpenSpec.preRow_of_cond 8 hx (by kernel_rfl) (fun k hk => by cases hk) (by kernel_rfl) (laid_met os _)

set_option maxRecDepth 100000 in
theorem lifted (os : Os) (started : os.Started) (H : Type) (enc : TypeId × Value → H) (F : Stop.Interp) :
    ReturnsInHanded {} Tryd.checked os 3 .any ((OpenSpec.ofChange Rows.namesCollectsSpec).preRow enc Tryd.prog Tryd.f3 Rows.namesCollectsRow.domain false Rows.namesCollectsRow.laid) (((OpenSpec.ofChange Rows.namesCollectsSpec).at F).post enc Tryd.prog Tryd.f3 false true false false) := by
  refine returnsInHanded_of_row (C := Tryd.checked) (s := (OpenSpec.ofChange Rows.namesCollectsSpec)) own started (by kernel_rfl) Tryd.func3
    (witness_row_at (enc := enc) (C := Tryd.checked) false (laidWorld os) #[.slice none 0 0] rfl (by kernel_rfl) (by kernel_rfl) (by kernel_rfl) (witness_row os enc)) ?_
  intro W base args ds gs before hval hW _ hcond hsz hL hS _
  exact contract H enc W base args ds gs before hval hW hsz (tabs_of hL hS)

set_option maxHeartbeats 16000000 in
theorem closed : joinedFacts Tryd.pinned.checked.prog 3 Tryd.f3 ((OpenSpec.ofChange Rows.namesCollectsSpec)).bare Rows.namesCollectsRow = true := by
  unfold joinedFacts
  repeat' (with_reducible refine Bool.and_eq_true_iff.2 ⟨?_, ?_⟩)
  all_goals (as_aux_lemma => kernel_rfl)
theorem named : Tryd.pinned.checked.prog.funcNamed Rows.namesCollectsRow.func = some 3 := by kernel_rfl
theorem inst : (Tryd.f3).isInstance Tryd.pinned.checked.prog Rows.namesCollectsRow.origin Rows.namesCollectsRow.targs := of_decide_eq_true (by kernel_rfl)
theorem wrap : (Tryd.f3).isWrapper Tryd.pinned.checked.prog Rows.namesCollectsRow.wrapper Rows.namesCollectsRow.mainSum := by
  unfold Func.isWrapper
  first | (rw [if_pos (by decide +kernel)]; kernel_rfl) | (rw [if_neg (by decide +kernel)]; exact ⟨rfl, rfl⟩)
theorem row : Rows.NamesCollectsSaid :=
  OpenClaim.holds_of_cond 3 Tryd.f3 rfl rfl rfl rfl rfl rfl rfl ⟨rfl, rfl, rfl, rfl, rfl⟩ rfl rfl rfl rfl rfl named Tryd.func3 closed inst wrap
    (fun os started H enc _ F => by rw [OpenClaim.pre_eq_preRow]; exact lifted os started H enc F)

theorem plain (f : FuncId) (fn : Func) (hf : Tryd.pinned.checked.prog.funcNamed Rows.namesCollectsRow.func = some f) (hfn : Tryd.pinned.checked.prog.funcs[f]? = some fn) :
    true = Tryd.pinned.checked.prog.looks [] ∧ ∀ (j : Nat) t, fn.params[j]? = some t → Tryd.pinned.checked.prog.wantsStandIn t = false := by
  obtain rfl : f = 3 := Option.some.inj ((show Tryd.prog.funcNamed Rows.namesCollectsRow.func = some 3 by kernel_rfl).symm.trans hf) |>.symm
  obtain rfl : fn = Tryd.f3 := (Option.some.inj (Tryd.func3.symm.trans hfn)).symm
  refine ⟨by kernel_rfl, fun j t ht => ?_⟩
  rw [Tryd.params3] at ht
  have hm : t ∈ [22] := by simpa using Array.mem_of_getElem? ht
  simp only [List.mem_cons, List.mem_nil_iff, or_false] at hm
  subst hm
  exact (show Tryd.prog.wantsStandIn 22 = false by kernel_rfl)

theorem proved : Rows.NamesCollectsCardSaid :=
  Claim7.holds_tied_plain_at .later [] _ _ _ _ row (fun _ h => by cases h) (by kernel_rfl) (fun _ h => by cases h) namesCollects_row_tie rfl ⟨rfl, rfl⟩ (by kernel_rfl) rfl plain (by kernel_rfl)
end Go.Proofs.YtjgcbobalmmjkaaDoor.namesCollects
