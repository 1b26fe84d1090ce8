/- What is proved: TocTree holds of any contents: each entry is a kid of just one, and spans lie within one another or apart. -/
import Derived.Test.YtjnnkelbedmccaaToo
import Derived.Test.YtjnnkelbedmccaaToq
import Derived.Test.YtjnnkelbedmccaaPost
import Derived.ProofKit
import Derived.OpenShut
import Derived.Deep.DeepHandedRow
namespace Go.Proofs.Ytjnnkelbedmccaa
open Go.ChangeShapes Go.WideShapes Go.ChangeAt Go.RowKit
open Go.ChangeMaps (open_string shut_string)
set_option linter.unusedVariables false
/-- A region that draws its order, in code of which nothing is known but that it goes on. -/
theorem region_just {P : Program} {Q : Exit → Act → World → Prop} {id : Nat} {ops : Array Oper} {a : Act} {w : World} {S : World → Prop} (hm : P.follows .mixedOrders = true)
    (h : wpAnyH P .any ops (Just Q) S ops.size (Array.replicate ops.size false) a w.drew) : (Code.region id ops true).wp P Q a w :=
  (wpIn_wide (n := 0)).1 (wpIn_mono (wpIn_wide.2 (wp_region_any hm (wpAny_of_held _ _ _ _ h))) Just.imp)
/-- Block S is a row of n numbers. -/
def IB (W : World) (S n : Nat) (f : Nat → Int) : Prop := ∃ cur : Array Value, W.heap[S]? = some (.cells cur 3 (0, 0)) ∧ cur.size = n ∧ ∀ k, k < n → cur[k]? = some (.int .i64 (f k))
section
variable {W W' : World} {S n : Nat} {f g : Nat → Int}
theorem IB.cell (h : IB W S n f) {k : Nat} (hk : k < n) : W.cell? ⟨S, k, none⟩ = some (.int .i64 (f k)) := by
  obtain ⟨cur, h1, h2, h3⟩ := h
  rw [cell_of_row _ _ _ _ _ _ h1]
  exact h3 k hk
theorem IB.free (h : IB W S n f) (k : Nat) : W.frozen? ⟨S, k, none⟩ = false := by
  obtain ⟨cur, h1, _⟩ := h
  exact frozen_of_row W S k _ _ h1
theorem IB.lt (h : IB W S n f) : S < W.heap.size := by
  obtain ⟨cur, h1, _⟩ := h
  exact (Array.getElem?_eq_some_iff.1 h1).1
theorem IB.block (h : IB W S n f) (e : W'.heap[S]? = W.heap[S]?) : IB W' S n f := by
  obtain ⟨cur, h1, h2⟩ := h
  exact ⟨cur, e.trans h1, h2⟩
theorem IB.below (h : IB W S n f) (hb : Below W.heap.size W W') : IB W' S n f := h.block (hb.block S h.lt)
theorem IB.congr (h : IB W S n f) (e : ∀ k, k < n → f k = g k) : IB W S n g := by
  obtain ⟨cur, h1, h2, h3⟩ := h
  exact ⟨cur, h1, h2, fun k hk => by rw [h3 k hk, e k hk]⟩
theorem IB.set (h : IB W S n f) (i : Nat) (z : Int) : IB (W.setCell ⟨S, i, none⟩ (.int .i64 z)) S n (fun k => if k = i then z else f k) := by
  obtain ⟨cur, h1, h2, h3⟩ := h
  refine ⟨_, heap_setCell_same W S i _ _ _ h1, by simpa using h2, fun k hk => ?_⟩
  by_cases e : k = i
  · subst e
    rw [Array.getElem?_setIfInBounds_self_of_lt (by omega)]
    simp
  · rw [Array.getElem?_setIfInBounds_ne (fun h => e h.symm), h3 k hk]
    simp [e]
theorem IB.other (h : IB W S n f) {p : Addr} (hp : S ≠ p.block) (u : Value) : IB (W.setCell p u) S n f := h.block (Below.heap_setCell W p u S hp)
end
theorem IB.start (W : World) (n : Nat) : IB (W.alloc (.cells (madeCells #[.int .i64 0] n) 3)) W.heap.size n (fun _ => 0) := by
  refine ⟨madeCells #[.int .i64 0] n, World.alloc_heap_new W _, by simp [size_madeCells], fun j hj => ?_⟩
  unfold madeCells
  simp [hj, Nat.mod_one]
theorem kid_mem {l : List Ent} {i : Int} {k : Nat} : k ∈ kidsM l i ↔ k < l.length ∧ abv l k = i := by
  unfold kidsM
  rw [List.mem_filter, List.mem_range, decide_eq_true_eq]
theorem kid_new {l : List Ent} {i : Int} {j : Nat} (h : j < (kidsM l i).length) : (kidsM l i)[j] ∉ (kidsM l i).take j := fun hm => by
  have hn : (kidsM l i).Pairwise (· < ·) := List.Pairwise.filter _ List.pairwise_lt_range
  obtain ⟨a, ha, e⟩ := List.mem_iff_getElem.1 hm
  rw [List.length_take] at ha
  rw [List.getElem_take] at e
  have := List.pairwise_iff_getElem.1 hn a j (by omega) h (by omega)
  omega
theorem end_in {l : List Ent} {k : Nat} (hk : k < l.length) : k < endM l k ∧ endM l k ≤ l.length := by
  have := blw_in l (lvN l k) (k + 1) (by omega)
  unfold endM
  omega
theorem end_nest {l : List Ent} {i k : Nat} (hi : i < l.length) (hik : i < k) (hk : k < endM l i) : endM l k ≤ endM l i := by
  have h1 := end_in hi
  have hkl : k < l.length := by omega
  have h2 := end_in hkl
  obtain ⟨bi, hbi⟩ : ∃ b, blw l (lvN l i) (i + 1) = b := ⟨_, rfl⟩
  obtain ⟨bk, hbk⟩ : ∃ b, blw l (lvN l k) (k + 1) = b := ⟨_, rfl⟩
  have ei : endM l i = i + 1 + bi := by unfold endM; rw [hbi]
  have ek : endM l k = k + 1 + bk := by unfold endM; rw [hbk]
  rw [ei, ek]
  rw [ei] at hk h1
  rw [ek] at h2
  rcases Nat.lt_or_ge (i + 1 + bi) (k + 1 + bk) with h | h
  · exfalso
    have h3 := blw_above (l := l) (v := lvN l k) (s := k + 1) (j := i + 1 + bi - (k + 1)) (by rw [hbk]; omega)
    rw [show k + 1 + (i + 1 + bi - (k + 1)) = i + 1 + bi by omega] at h3
    have h4 := blw_end (l := l) (v := lvN l i) (s := i + 1) (by rw [hbi]; omega)
    rw [hbi] at h4
    have h5 := blw_above (l := l) (v := lvN l i) (s := i + 1) (j := k - (i + 1)) (by rw [hbi]; omega)
    rw [show i + 1 + (k - (i + 1)) = k by omega] at h5
    omega
  · exact h
namespace tocTree
set_option maxRecDepth 100000 in
set_option maxHeartbeats 16000000 in
theorem walk (v : Value) (l : List Ent) (W : World) (hs : RdE W v l) (hsz : l.length * 16 ≤ 140737488351232) :
    Calls Try.prog 6 #[v] W fun e W' => e = .returned (.bool true) ∧ Below W.heap.size W W' := by
  have mixed : Try.prog.follows .mixedOrders = true := by kernel_rfl
  obtain ⟨i0, hi0, hz0, hz1, hz2⟩ := info_parts infoI
  obtain ⟨pl, cl, rfl, hcl, hcm⟩ := hs.form
  obtain ⟨n, hn⟩ : ∃ n : Nat, min l.length 150 = n := ⟨_, rfl⟩
  have hmin : min (l.length : Int) 150 = (n : Nat) := by omega
  have hm := hs.take (k := n) (by omega)
  have hml : (l.take n).length = n := by rw [List.length_take]; omega
  obtain ⟨m, hmm⟩ : ∃ m, l.take n = m := ⟨_, rfl⟩
  rw [hmm] at hm hml
  have hn9 : n ≤ 150 := by omega
  have hncl : (n : Int) ≤ cl := by omega
  have HM := Lib.hid hm
  have HML := Lib.hid hml
  have HLN := Lib.hid (show m.length * 16 ≤ 140737488355328 by omega)
  have hmk : ∀ w : World, (Instr.makeSlice 28 (.int .i64 (n : Int)) (.int .i64 (n : Int))).run Try.prog w = .ok (.slice (some ⟨w.heap.size, 0, none⟩) n n) (w.alloc (.cells (madeCells #[.int .i64 0] n) 3)) := by
    intro w
    have h := run_make (P := Try.prog) w 28 3 i0 (.int .i64 0) Try.underlying28 hi0 hz0 .i64 .i64 (n : Int) (n : Int) (by omega) (by omega) (by rw [hz2]; omega) (by omega)
    rw [hz1, Nat.mul_one, show (n : Int).toNat = n by omega] at h
    exact h
  clear hs hsz hcl hcm hn hm hmm hml
  go_enter Try.func6, Try.ntmps6
  go_wp2_with fail
  refine (awake_law _).mono ?_
  rintro e w1 ⟨rfl, hb⟩
  have HB1 := Lib.hid hb
  have HM1 := Lib.hid (HM.out.below hb)
  clear hb
  have HGD := Lib.hid (good_ref m (.slice pl n cl) w1 HM1.out)
  obtain ⟨g, hg⟩ : ∃ g, gdE m = g := ⟨_, rfl⟩
  rw [hg] at HGD
  by_cases h0 : g = 0
  · subst h0
    have HG := Lib.hid (gd_of hg)
    have HGZ := Lib.hid hg
    clear hg
    go_wp2_with fail
    refine HGD.out.mono ?_
    rintro e w2 ⟨rfl, hb⟩
    have HB2 := Lib.hid (HB1.out.trans (hb.mono HB1.out.size))
    have HM2 := Lib.hid (HM1.out.below hb)
    clear hb HGD HM HM1 HB1
    go_wp2_with fail
    have hA1 := (Below.refl (w2.alloc (.cells (madeCells #[.int .i64 0] n) 3)).heap.size (w2.alloc (.cells (madeCells #[.int .i64 0] n) 3))).alloc (Nat.le_refl _) (.cells (madeCells #[.int .i64 0] n) 3)
    have HT0 := Lib.hid ((IB.start w2 n).below hA1)
    have HE0 := Lib.hid (IB.start (w2.alloc (.cells (madeCells #[.int .i64 0] n) 3)) n)
    have HA := Lib.hid ((((Below.refl w2.heap.size w2).alloc (Nat.le_refl _) (.cells (madeCells #[.int .i64 0] n) 3)).alloc (by simp) (.cells (madeCells #[.int .i64 0] n) 3)))
    simp only [World.size_alloc] at HE0
    clear hA1
    go_loopw [7] (fun s wr => ∃ i : Int, s = .int .i64 i ∧ -1 ≤ i ∧ i ≤ n ∧ Hid (IB wr w2.heap.size n (fun k => if abv m k < i then 1 else 0)) ∧ Hid (IB wr (w2.heap.size + 1) n (fun k => if (k : Int) < i then (endM m k : Nat) else 0)) ∧ Hid (Below w2.heap.size w2 wr)) (fun s _ => (n + 1 - intOf s).toNat)
    case atStart => exact ⟨-1, rfl, by omega, by omega, Lib.hid (HT0.out.congr fun k _ => by rw [if_neg (by have := abv_lt m k; omega)]), Lib.hid (HE0.out.congr fun k _ => by rw [if_neg (by omega)]), HA⟩
    case round =>
      obtain ⟨i, rfl, hi0', hi1', HT, HE, HB⟩ := hrel
      by_cases hlt : i < n
      · obtain ⟨wo, rfl⟩ : ∃ wo : World, wo = wr := ⟨_, rfl⟩
        have HMr := Lib.hid (HM2.out.below HB.out)
        have hkid : kidE m i = 0 := kidE_ok HGZ.out ⟨by omega, by rw [HML.out]; exact hlt⟩
        have HKID := Lib.hid hkid
        have HIL := Lib.hid (show -1 ≤ i ∧ i < n by omega)
        clear hkid
        go_wp2_with fail
        refine (twin_pro _ _ _ HMr.out HLN.out).mono ?_
        rintro e w3 ⟨v3, rfl, hR3, hb3⟩
        have HQ3 := Lib.hid (kids_pro m v3 i w3 hR3)
        rw [HKID.out, if_pos rfl] at HQ3
        have HB3 := Lib.hid hb3
        clear hR3 hb3
        go_wp2_with fail
        refine HQ3.out.mono ?_
        rintro e w4 ⟨vk, rfl, ho4, hb4⟩
        have hb5 := HB3.out.trans (hb4.mono HB3.out.size)
        have HZ4 := Lib.hid (RdZ.own ho4 rfl)
        have HM4 := Lib.hid (HMr.out.below hb5)
        have HT4 := Lib.hid (HT.out.below hb5)
        have HE4 := Lib.hid (HE.out.below hb5)
        have HB4 := Lib.hid (HB.out.trans (hb5.mono HB.out.size))
        have HVB := Lib.hid (show ∀ c, vk.ownBlock = some c → w2.heap.size + 1 < c from fun c e => by
          have h1 := (own_base ho4 e).1
          have h2 := HE.out.lt
          have h3 := HB3.out.size
          omega)
        obtain ⟨pk, ck, rfl⟩ := lenL ho4
        clear ho4 hb4 hb5 HQ3 HB3 HMr HT HE HB
        obtain ⟨zs, hzs⟩ : ∃ zs, kidsM m i = zs := ⟨_, rfl⟩
        have HMEM := Lib.hid (fun k => kid_mem (l := m) (i := i) (k := k))
        have HNEW := Lib.hid (fun j (h : j < (kidsM m i).length) => kid_new h)
        rw [hzs] at HZ4 HMEM ⊢
        have HZS := Lib.hid hzs
        rw [natZ_len]
        rw [natZ_len] at HZ4
        obtain ⟨nz, hnz⟩ : ∃ nz, zs.length = nz := ⟨_, rfl⟩
        rw [hnz] at HZ4 ⊢
        have HNZ := Lib.hid hnz
        have hnz9 : nz ≤ 150 := by
          have h9 := filter_len (fun k => decide (abv m k = i)) m.length
          rw [HML.out] at h9
          have h8 : (kidsM m i).length ≤ n := by unfold kidsM; rw [HML.out]; exact h9
          rw [hzs, hnz] at h8
          omega
        clear hzs hnz
        go_wp2_with fail
        go_loopw [10] (fun s wr => ∃ j : Nat, s = .int .i64 (j : Nat) ∧ j ≤ nz ∧ Hid (IB wr w2.heap.size n (fun k => if abv m k < i ∨ k ∈ zs.take j then 1 else 0)) ∧ Hid (Below (w2.heap.size + 2) w4 wr ∨ True) ∧ Hid (Below w2.heap.size w2 wr) ∧ Hid (IB wr (w2.heap.size + 1) n (fun k => if (k : Int) < i then (endM m k : Nat) else 0)) ∧ Hid (RdE wr (.slice pl n cl) m) ∧ Hid (RdZ wr (.slice pk nz ck) (natZ zs))) (fun s _ => nz - (intOf s).toNat)
        case atStart => exact ⟨0, rfl, Nat.zero_le _, Lib.hid (HT4.out.congr fun k _ => by simp), Lib.hid (.inr trivial), HB4, HE4, HM4, HZ4⟩
        case round =>
          obtain ⟨j, rfl, hj, HTj, _, HBj, HEj, HMj, HZj⟩ := hrel
          by_cases hlj : j < nz
          · obtain ⟨wk, rfl⟩ : ∃ wk : World, wk = wr := ⟨_, rfl⟩
            have hjz : j < zs.length := by rw [HNZ.out]; exact hlj
            obtain ⟨bz, oz, ez, cz⟩ := HZj.out.cell' (n := nz) (by rw [natZ_len, HNZ.out]) (j := j) (by rw [natZ_len]; exact hjz)
            subst ez
            rw [show (natZ zs)[j]'(by rw [natZ_len]; exact hjz) = (zs[j] : Int) by simp [natZ]] at cz
            have hmem := (HMEM.out zs[j]).1 (List.getElem_mem hjz)
            have hnew : zs[j] ∉ zs.take j := by
              have h9 := HNEW.out j (by rw [HZS.out]; exact hjz)
              simpa [HZS.out] using h9
            have HTKJ := Lib.hid (show zs.take (j + 1) = zs.take j ++ [zs[j]] from List.take_succ_eq_append_getElem hjz)
            obtain ⟨q, hq⟩ : ∃ q, zs[j] = q := ⟨_, rfl⟩
            rw [hq] at cz hmem hnew HTKJ
            rw [HML.out] at hmem
            have hlq := abv_lt m q
            have cT := HTj.out.cell hmem.1
            rw [if_neg (by rintro (h | h); omega; exact hnew h)] at cT
            have fT := HTj.out.free q
            have HQN := Lib.hid hmem
            have HLJ := Lib.hid hlj
            have hj1 : (j : Int) < nz := by omega
            have h1 : (0 : Int) ≤ q := by omega
            have h2 : (q : Int) < n := by omega
            have h3 : i < q := by omega
            have HCZ := Lib.hid cz
            have hTlt := HTj.out.lt
            have HVB2 := Lib.hid (show bz ≠ w2.heap.size ∧ w2.heap.size + 1 < bz from by have := HVB.out bz rfl; omega)
            have hbz := HVB2.out.1
            clear hjz hnew hmem hlq hq hlj
            go_wp2_with fail

            obtain ⟨W5, hW5⟩ : ∃ W5, wk.setCell ⟨w2.heap.size, q, none⟩ (.int .i64 1) = W5 := ⟨_, rfl⟩
            rw [hW5]
            have hT5 : IB W5 w2.heap.size n (fun k => if abv m k < i ∨ k ∈ zs.take (j + 1) then 1 else 0) := by
              rw [← hW5]
              refine (HTj.out.set q 1).congr fun k _ => ?_
              rw [HTKJ.out]
              by_cases e : k = q
              · rw [if_pos e, if_pos (.inr (by simp [e]))]
              · rw [if_neg e]
                by_cases h : abv m k < i ∨ k ∈ zs.take j
                · rw [if_pos h, if_pos (h.imp id (fun h => List.mem_append_left _ h))]
                · rw [if_neg h, if_neg (by
                    rintro (h1 | h1)
                    · exact h (.inl h1)
                    · rcases List.mem_append.1 h1 with h2 | h2
                      · exact h (.inr h2)
                      · exact e (by simpa using h2))]
            have hE5 : IB W5 (w2.heap.size + 1) n (fun k => if (k : Int) < i then (endM m k : Nat) else 0) := by rw [← hW5]; exact HEj.out.other (by show w2.heap.size + 1 ≠ w2.heap.size; omega) _
            have hB5 : Below w2.heap.size w2 W5 := by rw [← hW5]; exact HBj.out.setCell (p := ⟨w2.heap.size, q, none⟩) (Nat.le_refl _) _
            have hkp : ∀ a : Addr, a.block ≠ w2.heap.size → W5.cell? a = wk.cell? a := fun a ha => by rw [← hW5]; exact World.cell?_of_block (Below.heap_setCell wk ⟨w2.heap.size, q, none⟩ _ a.block ha)
            have hZ5 : RdZ W5 (.slice (some ⟨bz, oz, none⟩) nz ck) (natZ zs) := by
              obtain ⟨pa', cap', e, z1, z2, z4⟩ := HZj.out
              cases e
              refine ⟨_, _, rfl, z1, z2, fun y hy => ?_⟩
              obtain ⟨b', o', e, hc⟩ := z4 y hy
              cases e
              exact ⟨_, _, rfl, (hkp _ HVB2.out.1).trans hc⟩
            have hM5 : RdE W5 (.slice pl n cl) m := HM2.out.below hB5
            have hc5 : W5.cell? ⟨bz, oz + j, none⟩ = some (.int .i64 (q : Nat)) := (hkp ⟨bz, oz + j, none⟩ HVB2.out.1).trans HCZ.out
            have HT5 := Lib.hid hT5
            have HE5 := Lib.hid hE5
            have HB5' := Lib.hid hB5
            have HZ5 := Lib.hid hZ5
            have HM5 := Lib.hid hM5
            have HLd := Lib.hid (show RdE W5.drew (.slice pl n cl) m from hM5.keep (fun _ _ => rfl))
            have CU := Lib.hid (show ∀ (v : Value) (w' : World), RdE w' v m → Calls Try.prog 19 #[v, .int .i64 (q : Nat)] w' (TwoIs (i, 0) w') from fun v w' hv => by
              have := par_pro m v (q : Nat) w' hv
              unfold parE at this
              rw [lookE_ok HGZ.out ⟨by omega, by rw [HML.out]; have := HQN.out.1; omega⟩, if_pos rfl, Int.toNat_natCast, HQN.out.2] at this
              exact this)
            clear hW5 hT5 hE5 hB5 hkp hZ5 hM5 cT fT hTlt hbz HCZ cz HTj HEj HBj HMj HZj
            have hS0 : W5.drew.cell? ⟨bz, oz + j, none⟩ = some (.int .i64 (q : Nat)) := hc5
            refine region_just (S := fun w' => w'.cell? ⟨bz, oz + j, none⟩ = some (.int .i64 (q : Nat))) (by kernel_rfl) ?_
            refine wpAnyH_take (i := 0) (v := .slice pl n cl) rfl (by kernel_rfl) (by kernel_rfl) (by kernel_rfl) (fun _ _ _ h => h) (.inl ⟨by rfl, fun w' hS => by have h1 := hS; go_simp⟩) hS0 ?_
            refine wpAnyH_take (i := 2) (v := .slice (some ⟨bz, oz, none⟩) nz ck) rfl (by kernel_rfl) (by kernel_rfl) (by kernel_rfl) (fun _ _ _ h => h) (.inl ⟨by rfl, fun w' hS => by have h1 := hS; go_simp⟩) hS0 ?_
            refine wpAnyH_take (i := 3) (v := .int .i64 (j : Nat)) rfl (by kernel_rfl) (by kernel_rfl) (by kernel_rfl) (fun _ _ _ h => h) (.inl ⟨by rfl, fun w' hS => by have h1 := hS; go_simp⟩) hS0 ?_
            refine wpAnyH_take (i := 4) (v := .pointer (some ⟨bz, oz + j, none⟩)) rfl (by kernel_rfl) (by kernel_rfl) (by kernel_rfl) (fun _ _ _ h => h) (.inl ⟨by rfl, fun w' hS => by have h1 := hS; go_simp⟩) hS0 ?_
            refine wpAnyH_take (i := 5) (v := .int .i64 (q : Nat)) rfl (by kernel_rfl) (by kernel_rfl) (by kernel_rfl) (fun _ _ _ h => h) (.inl ⟨by rfl, fun w' hS => by have h1 := hS; go_simp⟩) hS0 ?_
            refine wpAnyH_all (rs := [1]) (by kernel_rfl) (by simp) ?_
            intro i' hi'
            obtain rfl : i' = 1 := by simpa using hi'
            refine op_via rfl (by rfl) (fun K hK => ?_)
            go_simp
            refine (twin_pro _ _ _ HLd.out HLN.out).mono ?_
            rintro e w5 ⟨v5, rfl, hR5, hb5⟩
            have hS5 := (hb5.cell (p := ⟨bz, oz + j, none⟩) (cellInL hS0)).trans hS0
            have HR5 := Lib.hid hR5
            have HB5 := Lib.hid hb5
            clear hR5 hb5
            refine hK _ _ ⟨hS5, ?_⟩
            clear hK K
            refine wpAnyH_all (rs := [6]) (by kernel_rfl) (by simp) ?_
            intro i' hi'
            obtain rfl : i' = 6 := by simpa using hi'
            refine op_via rfl (by rfl) (fun K hK => ?_)
            go_simp
            refine (CU.out _ _ HR5.out).mono ?_
            rintro e w6 ⟨rfl, hb6⟩
            have hS6 := (hb6.cell (p := ⟨bz, oz + j, none⟩) (cellInL hS5)).trans hS5
            have HB7 := Lib.hid ((Below.refl _ W5).drew.trans (HB5.out.trans (hb6.mono HB5.out.size)))
            clear hb6 HB5 HR5
            refine hK _ _ ⟨hS6, ?_⟩
            clear hK K
            refine wpAnyH_take (i := 7) (v := .tuple #[.int .i64 i, .int .i64 0]) rfl (by kernel_rfl) (by kernel_rfl) (by kernel_rfl) (fun _ _ _ h => h) (.inl ⟨by rfl, fun w' hS => by have h1 := hS; go_simp⟩) hS6 ?_
            refine wpAnyH_take (i := 8) (v := .int .i64 i) rfl (by kernel_rfl) (by kernel_rfl) (by kernel_rfl) (fun _ _ _ h => h) (.inl ⟨by rfl, fun w' hS => by have h1 := hS; go_simp⟩) hS6 ?_
            refine wpAnyH_take (i := 9) (v := .int .i64 0) rfl (by kernel_rfl) (by kernel_rfl) (by kernel_rfl) (fun _ _ _ h => h) (.inl ⟨by rfl, fun w' hS => by have h1 := hS; go_simp⟩) hS6 ?_
            refine wpAnyH_take (i := 10) (v := .int .i64 i) rfl (by kernel_rfl) (by kernel_rfl) (by kernel_rfl) (fun _ _ _ h => h) (.inl ⟨by rfl, fun w' hS => by have h1 := hS; go_simp⟩) hS6 ?_
            refine wpAnyH_take (i := 11) (v := .int .i64 0) rfl (by kernel_rfl) (by kernel_rfl) (by kernel_rfl) (fun _ _ _ h => h) (.inl ⟨by rfl, fun w' hS => by have h1 := hS; go_simp⟩) hS6 ?_
            refine wpAnyH_done (by kernel_rfl) ?_ _
            simp only [Just]
            clear hS0 hS5 hS6
            have q4 : (i != i) = false := by simp
            have HT7 := Lib.hid (HT5.out.below HB7.out)
            have HE7 := Lib.hid (HE5.out.below HB7.out)
            have HB8 := Lib.hid (HB5'.out.trans (HB7.out.mono HB5'.out.size))
            have HM7 := Lib.hid (HM5.out.below HB7.out)
            have HZ7 := Lib.hid (HZ5.out.below HB7.out)
            clear HT5 HE5 HB5' HM5 HZ5 HB7 CU HLd hc5
            go_wp2_with fail
            go_roundw
            case measure => have := HLJ.out; first | (simp [intOf]; done) | (simp [intOf]; omega)
            case rel => exact ⟨j + 1, by go_num, by have := HLJ.out; omega, HT7, Lib.hid (.inr trivial), HB8, HE7, HM7, HZ7⟩
          · obtain rfl : j = nz := by omega
            have hlz : ¬ ((j : Int) < j) := by omega
            have hTN : IB wr w2.heap.size n (fun k => if abv m k < i + 1 then 1 else 0) := HTj.out.congr fun k hk => by
              rw [← HNZ.out, List.take_length]
              have h9 := HMEM.out k
              rw [HML.out] at h9
              by_cases e : abv m k < i + 1
              · rw [if_pos e]
                by_cases e2 : abv m k < i
                · rw [if_pos (.inl e2)]
                · rw [if_pos (.inr (h9.2 ⟨hk, by omega⟩))]
              · rw [if_neg e, if_neg (by rintro (h | h); omega; have := (h9.1 h).2; omega)]
            have HTN := Lib.hid hTN
            clear hTN HTj hlj hj
            by_cases hi0 : 0 ≤ i
            · obtain ⟨k, rfl⟩ : ∃ k : Nat, i = k := ⟨i.toNat, by omega⟩
              have HKL := Lib.hid (show k < n by have := HIL.out; omega)
              go_wp2_with fail
              refine (twin_pro _ _ _ HMj.out HLN.out).mono ?_
              rintro e w5 ⟨v5, rfl, hR5, hb5⟩
              have HQ5 := Lib.hid (end_pro m v5 (k : Nat) w5 hR5)
              unfold endE at HQ5
              rw [lookE_ok HGZ.out ⟨by omega, by rw [HML.out]; have := HKL.out; omega⟩, if_pos rfl, Int.toNat_natCast] at HQ5
              have HB5 := Lib.hid hb5
              have hei := end_in (l := m) (k := k) (by rw [HML.out]; exact HKL.out)
              rw [HML.out] at hei
              obtain ⟨E, hE⟩ : ∃ E, endM m k = E := ⟨_, rfl⟩
              rw [hE] at hei HQ5
              have HEE := Lib.hid hE
              clear hR5 hb5 hE
              go_wp2_with fail
              refine HQ5.out.mono ?_
              rintro e w6 ⟨rfl, hb6⟩
              have hb7 := HB5.out.trans (hb6.mono HB5.out.size)
              have HT7 := Lib.hid (HTN.out.below hb7)
              have hE7 := HEj.out.below hb7
              have HB7 := Lib.hid (HBj.out.trans (hb7.mono HBj.out.size))
              have fE := hE7.free k
              have cE := hE7.cell HKL.out
              have hElt := hE7.lt
              have HE7 := Lib.hid hE7
              have k1 : (k : Int) < n := by have := HKL.out; omega
              have k2 : (k : Int) < E := by omega
              have k3 : (E : Int) ≤ n := by omega
              have k4 : ¬ (E : Int) ≤ k := by omega
              have k5 : ¬ (n : Int) < E := by omega
              clear hb6 hb7 hE7 HQ5 HB5 hei
              go_wp2_with fail
              go_roundw
              case measure => have := HIL.out; first | (simp [intOf]; done) | (simp [intOf]; omega)
              case rel =>
                refine ⟨(k : Int) + 1, by go_num, by omega, by have := HKL.out; omega, Lib.hid (HT7.out.other (by show w2.heap.size ≠ w2.heap.size + 1; omega) _), Lib.hid ((HE7.out.set k E).congr fun q _ => ?_), Lib.hid (HB7.out.setCell (p := ⟨w2.heap.size + 1, k, none⟩) (by show w2.heap.size ≤ w2.heap.size + 1; omega) _)⟩
                by_cases e : q = k
                · rw [if_pos e, if_pos (by omega), e, HEE.out]
                · rw [if_neg e]
                  by_cases h : (q : Int) < k
                  · rw [if_pos h, if_pos (by omega)]
                  · rw [if_neg h, if_neg (by omega)]
            · obtain rfl : i = -1 := by have := HIL.out; omega
              clear hi0
              go_wp2_with fail
              go_roundw
              case measure => first | (simp [intOf]; done) | (simp [intOf]; omega)
              case rel => exact ⟨0, by go_num, by omega, by omega, HTN, Lib.hid (HEj.out.congr fun q _ => by rw [if_neg (by omega), if_neg (by omega)]), HBj⟩
      · obtain rfl : i = n := by omega
        have hlz : ¬ ((n : Int) < n) := by omega
        have hTF : IB wr w2.heap.size n (fun _ => 1) := HT.out.congr fun k hk => by rw [if_pos (by have := abv_lt m k; omega)]
        have hEF : IB wr (w2.heap.size + 1) n (fun k => (endM m k : Nat)) := HE.out.congr fun k hk => by rw [if_pos (by omega)]
        have HTF := Lib.hid hTF
        have HEF := Lib.hid hEF
        obtain ⟨wo, rfl⟩ : ∃ wo : World, wo = wr := ⟨_, rfl⟩
        clear hTF hEF HT HE hlt hi1'
        go_wp2_with fail
        go_loopw [15] (fun s wr => ∃ a : Nat, s = .int .i64 (a : Nat) ∧ a ≤ n ∧ Hid (Below wo.heap.size wo wr)) (fun s _ => n - (intOf s).toNat)
        case atStart => exact ⟨0, rfl, Nat.zero_le _, Lib.hid (Below.refl _ _)⟩
        case round =>
          obtain ⟨a, rfl, ha, HBa⟩ := hrel
          by_cases hla : a < n
          · obtain ⟨wa, rfl⟩ : ∃ wa : World, wa = wr := ⟨_, rfl⟩
            have HLA := Lib.hid hla
            have cT := (HTF.out.below HBa.out).cell hla
            have HEa := Lib.hid (HEF.out.below HBa.out)
            have hen := end_in (l := m) (k := a) (by rw [HML.out]; exact hla)
            rw [HML.out] at hen
            have HNEST := Lib.hid (fun k (h1 : a < k) (h2 : k < endM m a) => end_nest (l := m) (by rw [HML.out]; exact hla) h1 h2)
            have hca := HEa.out.cell hla
            obtain ⟨E, hE⟩ : ∃ E, endM m a = E := ⟨_, rfl⟩
            rw [hE] at hen HNEST hca
            have HCA := Lib.hid hca
            have ha1 : (a : Int) < n := by omega
            have ha9 : (a : Int) ≤ 1000 := by omega
            have hEn : E ≤ n := hen.2
            clear hla hen hE
            go_wp2_with fail
            go_loopw [16] (fun s wr => ∃ k : Nat, s = .int .i64 (k : Nat) ∧ a < k ∧ k ≤ n + 1 ∧ Hid (Below wa.heap.size wa wr)) (fun s _ => n + 1 - (intOf s).toNat)
            case atStart => exact ⟨a + 1, by go_num, by omega, by have := HLA.out; omega, Lib.hid (Below.refl _ _)⟩
            case round =>
              obtain ⟨k, rfl, hk0, hk1, HBk⟩ := hrel
              have cA := (HBk.out.cell (p := ⟨w2.heap.size + 1, a, none⟩) (cellInL HCA.out)).trans HCA.out
              by_cases hlk : k < E
              · have hkn : k < n := by omega
                have cK := (HEa.out.below HBk.out).cell hkn
                have hne := HNEST.out k hk0 hlk
                obtain ⟨F, hF⟩ : ∃ F, endM m k = F := ⟨_, rfl⟩
                rw [hF] at cK hne
                have kr0 := cell_regrown cA
                have kr1 := cell_regrown cK
                have HK0 := Lib.hid hk0
                have HKN := Lib.hid hkn
                have e1 : (k : Int) < E := by omega
                have e2 : (k : Int) < n := by omega
                have e3 : ¬ (E : Int) < F := by omega
                clear cK hne hF hk0 hlk hkn
                go_wp2_with fail
                refine wp_region_quiet_below mixed (by kernel_rfl) ?_
                repeat (quiet_step (fail))
                refine wpQuiet_nil ?_
                intro _ hw'
                obtain ⟨⟨dq, osq⟩, hw''⟩ := hw'
                subst hw''
                have HBn := Lib.hid (HBk.out.trans ((below_regrown wr dq osq).mono HBk.out.size))
                clear kr0 kr1 cA
                go_wp2_with fail
                go_roundw
                case measure => have := HKN.out; first | (simp [intOf]; done) | (simp [intOf]; omega)
                case rel => exact ⟨k + 1, by go_num, by have := HK0.out; omega, by have := HKN.out; omega, HBn⟩
              · have e1 : ¬ (k : Int) < E := by omega
                have HBn := Lib.hid (HBa.out.trans (HBk.out.mono HBa.out.size))
                clear hlk
                go_wp2_with fail
                go_roundw
                case measure => have := HLA.out; first | (simp [intOf]; done) | (simp [intOf]; omega)
                case rel => exact ⟨a + 1, by go_num, by have := HLA.out; omega, HBn⟩
          · obtain rfl : a = n := by omega
            have hlz : ¬ ((a : Int) < a) := by omega
            have HF := Lib.hid (HB2.out.trans ((HB.out.trans (HBa.out.mono HB.out.size)).mono HB2.out.size))
            clear hla ha
            go_wp2_with fail
            go_ret
            exact ⟨rfl, HF.out⟩
  · have t1 : (g != 0) = true := by simpa using h0
    have hke : kidE m (-1) = g := by rw [kidE_bad (by rw [hg]; exact h0), hg]
    have HKE := Lib.hid hke
    clear hg hke
    have HM2 := Lib.hid (fun (w' : World) hb => HM1.out.below (w' := w') hb)
    go_wp2_with fail
    refine HGD.out.mono ?_
    rintro e w2 ⟨rfl, hb⟩
    have HB2 := Lib.hid (HB1.out.trans (hb.mono HB1.out.size))
    have HM3 := Lib.hid (HM2.out _ hb)
    clear hb
    go_wp2_with fail
    refine (twin_pro _ _ _ HM3.out HLN.out).mono ?_
    rintro e w3 ⟨v3, rfl, hR3, hb3⟩
    have HQ3 := Lib.hid (kids_pro m v3 (-1) w3 hR3)
    have HB3 := Lib.hid (HB2.out.trans (hb3.mono HB2.out.size))
    rw [HKE.out, if_neg h0] at HQ3
    clear hR3 hb3 h0
    go_wp2_with fail
    refine HQ3.out.mono ?_
    rintro e w4 ⟨vk, rfl, ho4, hb4⟩
    have HB4 := Lib.hid (HB3.out.trans (hb4.mono HB3.out.size))
    clear ho4 hb4
    go_wp2_with fail
    go_ret
    exact ⟨rfl, HB4.out⟩

set_option maxRecDepth 100000 in
theorem contract (H : Type) (enc : TypeId × Value → H) (W : World) (base : Nat) (args : Array Value) (ds gs : List (DataW H)) (before : List MemPlace)
    (hval : ∀ (j : Nat) t v, Try.f6.params[j]? = some t → args[j]? = some v → Value.okWide Try.prog W .any base t v)
    (hW : DataW.Whole enc Try.prog Try.f6.params.toList Rows.tocTreeSpec.vars false W args.toList ds gs before) (hsz0 : (DataW.weightsEach Try.prog (Try.f6.params.toList ++ Rows.tocTreeSpec.plain.varTypes Try.prog) (ds ++ gs)).all (· ≤ reachBytes) = true) :
    Calls Try.prog 6 args W fun e W' => ∃ v, e = .returned v ∧ Rows.tocTreeSpec.post enc Try.prog Try.f6 false true false false W args v W' := by
  have hW' := hW
  obtain ⟨p, q, hA0, hV, rfl, hfz, hnd⟩ := hW
  have hA : DataW.TrodAll enc Try.prog W 0 (fun _ => true) true Try.f6.params.toList args.toList ds p := hA0
  rw [Try.params6] at hA hval
  have hsz := hsz0
  rw [Try.params6] at hsz
  clear hsz0
  obtain ⟨v0, vs0, d0, ds0, p0, q0, hargs, rfl, rfl, h0, r0⟩ := trodAll_cons hA
  obtain ⟨rfl, rfl, rfl⟩ := trodAll_nil r0
  obtain rfl : args = #[v0] := by cases args; simp_all
  obtain ⟨rfl, rfl⟩ := trodVars_none hV
  have hk0 := h0
  obtain ⟨l0, hR0, hD0⟩ := ents_read h0 (okWide_slice Try.underlying34 (hval 0 34 v0 rfl rfl))
  clear hA0
  have size0 := ents_reach hsz (j := 0) rfl rfl hD0
  refine (walk v0 l0 W hR0 size0).mono fun e W' ⟨he, hg⟩ => ?_
  subst he
  have hlt := hW'.lt
  exact ⟨_, rfl, post_of_below (pa := (p0 ++ [])) (pv := []) hW' (fun _ _ _ => trodAll_cons_mk (shut_bool Try.underlying4 _) trodAll_mk0) (fun sp hsp => (trodAll_cons_mk (Go.WideElems.Trod_stays (by kernel_rfl) (by kernel_rfl) (of_decide_eq_true (by kernel_rfl)) hk0 (fun p hp => hg.same (hlt p (by simp [hp]))) (fun p hp => hsp p (by simp [hp]))) trodAll_mk0)) (fun _ _ => rfl) rfl hg (ok_one (by kernel_rfl) rfl (okWide_bool_mk Try.underlying4 _))⟩

theorem witness_row (os : Os) {H : Type} (enc : TypeId × Value → H) :
    (OpenSpec.ofChange Rows.tocTreeSpec).preRow enc Try.prog Try.f6 Rows.tocTreeRow.domain false Rows.tocTreeRow.laid ((laidWorld os).forCall (fun _ _ => 0) ⟨#[], #[.slice none 0 0], []⟩).memory #[.slice none 0 0] := by
  have hw : (DataW.whole enc Try.prog ((laidWorld os).forCall (fun _ _ => 0) ⟨#[], #[.slice none 0 0], []⟩).memory Try.f6.params.toList Rows.tocTreeSpec.vars false (#[.slice none 0 0] : Array Value).toList 8).map (fun x => (x.1, x.2.1)) =
      some ([.nil], []) := by kernel_rfl
  obtain ⟨⟨x1, x2, x3⟩, hx, hx1⟩ := Option.map_eq_some_iff.1 hw
  simp only [Prod.mk.injEq] at hx1
  obtain ⟨rfl, rfl⟩ := hx1
  exact OpenSpec.preRow_of_cond 8 hx (by kernel_rfl) (fun k hk => by cases hk) (by kernel_rfl) (laid_met _)

set_option maxRecDepth 100000 in
theorem lifted (os : Os) (started : os.Started) (H : Type) (enc : TypeId × Value → H) (F : Stop.Interp) :
    ReturnsInHanded {} Try.checked os 6 .any ((OpenSpec.ofChange Rows.tocTreeSpec).preRow enc Try.prog Try.f6 Rows.tocTreeRow.domain false Rows.tocTreeRow.laid) (((OpenSpec.ofChange Rows.tocTreeSpec).at F).post enc Try.prog Try.f6 false true false false) := by
  refine returnsInHanded_of_row (C := Try.checked) (s := (OpenSpec.ofChange Rows.tocTreeSpec)) own started (by kernel_rfl) Try.func6
    (witness_row_at (enc := enc) (C := Try.checked) false (laidWorld os) #[.slice none 0 0] rfl (by kernel_rfl) (by kernel_rfl) (by kernel_rfl) (witness_row os enc)) ?_
  intro W base args ds gs before hval hW _ hcond hsz hL hS _
  exact contract H enc W base args ds gs before hval hW hsz

set_option maxHeartbeats 16000000 in
theorem closed : joinedFacts Try.pinned.checked.prog 6 Try.f6 ((OpenSpec.ofChange Rows.tocTreeSpec)).bare Rows.tocTreeRow = true := by
  unfold joinedFacts
  repeat' (with_reducible refine Bool.and_eq_true_iff.2 ⟨?_, ?_⟩)
  all_goals (as_aux_lemma => kernel_rfl)
theorem named : Try.pinned.checked.prog.funcNamed Rows.tocTreeRow.func = some 6 := by kernel_rfl
theorem inst : (Try.f6).isInstance Try.pinned.checked.prog Rows.tocTreeRow.origin Rows.tocTreeRow.targs := of_decide_eq_true (by kernel_rfl)
theorem wrap : (Try.f6).isWrapper Try.pinned.checked.prog Rows.tocTreeRow.wrapper Rows.tocTreeRow.mainSum := by
  unfold Func.isWrapper
  first | (rw [if_pos (by decide +kernel)]; kernel_rfl) | (rw [if_neg (by decide +kernel)]; exact ⟨rfl, rfl⟩)
theorem row : Rows.TocTreeSaid :=
  OpenClaim.holds_of_cond 6 Try.f6 rfl rfl rfl rfl rfl rfl rfl ⟨rfl, rfl, rfl, rfl, rfl⟩ rfl rfl rfl rfl rfl named Try.func6 closed inst wrap
    (fun os started H enc _ F => by rw [OpenClaim.pre_eq_preRow]; exact lifted os started H enc F)

theorem proved : Rows.TocTreeSaid := row
end Go.Proofs.Ytjnnkelbedmccaa.tocTree
