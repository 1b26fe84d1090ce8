/- What is proved: TextKeeps holds of every text and every width: nothing is lost in cells, in cutting, among words. Its condition: what comes in is of bulk at most 1048576 (the statement's second form). -/
import Derived.Test.YthojhjimgfbcbaaDoorAwake
import Derived.Test.YthojhjimgfbcbaaDoorPost
import Derived.Test.YthojhjimgfbcbaaDoorKm
import Derived.Test.YthojhjimgfbcbaaDoorLft
import Derived.Test.YthojhjimgfbcbaaDoorCards
import Derived.Test.YthojhjimgfbcbaaDoorTie
import Derived.ProofKit
import Derived.OpenShut
import Derived.Deep.DeepHandedRow
import Derived.Deep.CutRange
import Derived.Lib.LazyBuf
import Derived.Laws.IdiomStrings
import Derived.Lib.ConvBytes
import Derived.Laws.AppendOwn
import Derived.Deep.RegionHeld3
namespace Go.Proofs.YthojhjimgfbcbaaDoor.textKeeps
open Go.ChangeShapes Go.WideShapes Go.ChangeAt Go.RowKit
open Go.ChangeMaps (open_string shut_string)
set_option linter.unusedVariables false

theorem drewN_b (w : World) (n : Nat) : Below w.heap.size w (w.drewN n) := ⟨rfl, rfl, rfl, Nat.le_refl _, fun _ _ => rfl⟩
theorem ext_size (s : ByteArray) (q : Nat) (h : q ≤ s.size) : (s.extract 0 q).size = q := by rw [ByteArray.size_extract]; omega
theorem len_law (B : Nat) (s : ByteArray) (q : Nat) (w : World) (h : BIs B B (bcs (s.extract 0 q)) w) (hq : q ≤ s.size) :
    Calls Tryd.prog 38 #[.pointer (some ⟨B, 0, none⟩)] w fun e w' => e = .returned (.int .i64 q) ∧ w' = w := by
  refine (Tryd.Builder_Len_f _ _ _ _ h).mono ?_
  rintro e w' ⟨rfl, rfl⟩
  rw [bcs_len, ext_size s q hq]
  exact ⟨rfl, rfl⟩
theorem ext_join (s : ByteArray) (p q : Nat) (hp : p ≤ q) (hq : q ≤ s.size) : s.extract 0 p ++ s.extract p q = s.extract 0 q := by
  apply data_inj
  rw [dataApp, Lib.extract_data, Lib.extract_data, Lib.extract_data]
  simp only [List.drop_zero, Nat.sub_zero]
  have h1 : s.data.toList.length = s.size := by rw [← Lib.size_eq]
  have h2 := List.take_append_drop p (s.data.toList.take q)
  rw [List.take_take, Nat.min_eq_left hp, List.drop_take] at h2
  exact h2
theorem ext_all (s : ByteArray) : s.extract 0 s.size = s := by
  apply data_inj
  rw [Lib.extract_data]
  simp only [List.drop_zero, Nat.sub_zero]
  exact List.take_of_length_le (Nat.le_of_eq (Lib.size_eq s).symm)
theorem ext_ne (s : ByteArray) (p q : Nat) (hp : p < q) (hq : q ≤ s.size) : (s.extract p q).toList.isEmpty = false ∧ ¬ (s.extract p q).toList = [] := by
  have h : 0 < (s.extract p q).size := by rw [ByteArray.size_extract]; omega
  have h2 := emptyB (s.extract p q)
  rw [decide_eq_true h] at h2
  have h3 : (s.extract p q).toList.isEmpty = false := by simpa using h2
  exact ⟨h3, fun h4 => by rw [h4] at h3; cases h3⟩
/-- What the first loop holds between two rounds. -/
def KeepsI (s : ByteArray) (B k : Nat) (vc : Value) (W wr : World) (base : Nat) : Prop :=
  ∃ q : Nat, Tiles q ((cells s).drop k) s.size ∧ q ≤ s.size ∧ BIs B B (bcs (s.extract 0 q)) wr ∧ wr.ownsRow base 36 3 vc (cells s).length (celsV s (cells s)) ∧ Below W.heap.size W wr ∧ B ≤ wr.heap.size
theorem keeps_step {s : ByteArray} {B k : Nat} {vc : Value} {W wr w' : World} {base : Nat} {y : Cel} (ht : Tiles y.2.1 ((cells s).drop (k + 1)) s.size) (h1 : y.1 < y.2.1)
    (hb : Built B B (bcs (s.extract 0 y.1) ++ Lib.strCells (s.extract y.1 y.2.1)) wr w') (ho : wr.ownsRow base 36 3 vc (cells s).length (celsV s (cells s))) (hB : B < base) (hW : Below W.heap.size W wr) (hWB : W.heap.size ≤ B) (hs : B ≤ wr.heap.size) : KeepsI s B (k + 1) vc W w' base := by
  obtain ⟨b1, b2, b3⟩ := hb
  have hq := tiles_le _ _ _ ht
  refine ⟨y.2.1, ht, hq, ?_, own_others ho hB (by decide) b3, hW.trans (b2.mono hWB), Nat.le_trans hs b2.size⟩
  rw [← ext_join s y.1 y.2.1 (Nat.le_of_lt h1) hq, bcs_app]
  exact .inr b1

theorem rep_blank : ∀ n : Nat, Lib.repeatL [32] n = List.replicate n 32
  | 0 => rfl
  | n + 1 => by rw [List.replicate_succ, ← rep_blank n]; simp [Lib.repeatL]
theorem s_next {W w' w8 : World} {g o : Nat} {v : Value} (h : w'.cell? ⟨g, o, none⟩ = some v ∧ Below W.heap.size W w' ∧ g < w'.heap.size) (h8 : Below w'.heap.size w' w8) :
    w8.cell? ⟨g, o, none⟩ = some v ∧ Below W.heap.size W w8 ∧ g < w8.heap.size :=
  ⟨(h8.cell (p := ⟨g, o, none⟩) h.2.2).trans h.1, h.2.1.trans (h8.mono h.2.1.size), Nat.lt_of_lt_of_le h.2.2 h8.size⟩
theorem bytes_back (s : ByteArray) : (⟨s.data.toList.toArray⟩ : ByteArray) = s := data_inj (by simp)
/-- A row of n bytes, whose cells are what f says. -/
def RowB (w : World) (g n : Nat) (f : Nat → UInt8) : Prop :=
  ∃ (C : Array Value) (k : Nat), w.heap[g]? = some (.cells C 5 (k, k + 1)) ∧ n ≤ k ∧ n ≤ C.size ∧ ∀ i, i < n → C[i]? = some (.int .u8 (f i).toNat)
theorem RowB.below {w w' : World} {g n : Nat} {f : Nat → UInt8} (h : RowB w g n f) (hb : Below w.heap.size w w') : RowB w' g n f := by
  obtain ⟨C, k, h1, h2⟩ := h
  exact ⟨C, k, (hb.block g (Array.getElem?_eq_some_iff.1 h1).1).trans h1, h2⟩
theorem RowB.congr {w : World} {g n : Nat} {f f' : Nat → UInt8} (h : RowB w g n f) (e : ∀ i, i < n → f i = f' i) : RowB w g n f' := by
  obtain ⟨C, k, h1, h2, h3, h4⟩ := h
  exact ⟨C, k, h1, h2, h3, fun i hi => by rw [← e i hi]; exact h4 i hi⟩
theorem row_cell {w w' : World} {g n : Nat} {f : Nat → UInt8} (h : RowB w g n f) (e : w'.heap = w.heap) {i : Nat} (hi : i < n) : w'.cell? ⟨g, i, none⟩ = some (.int .u8 (f i).toNat) ∧ w'.frozen? ⟨g, i, none⟩ = false := by
  obtain ⟨C, k, h1, h2, h3, h4⟩ := h
  rw [← e] at h1
  refine ⟨by rw [Lib.cell_of_heap h1]; exact h4 i hi, ?_⟩
  simp [World.frozen?, h1]
  omega
theorem RowB.set {w : World} {g n : Nat} {f : Nat → UInt8} (h : RowB w g n f) (o : Nat) (b : UInt8) : RowB (w.setCell ⟨g, o, none⟩ (.int .u8 b.toNat)) g n (fun j => if j = o then b else f j) := by
  obtain ⟨C, k, h1, h2, h3, h4⟩ := h
  refine ⟨C.setIfInBounds o (.int .u8 b.toNat), k, ?_, h2, by simpa using h3, fun j hj => ?_⟩
  · simp [World.setCell, Array.getElem?_modify, h1]
  · rw [Array.getElem?_setIfInBounds]
    by_cases e : j = o
    · subst e
      have : j < C.size := by omega
      simp [this]
    · rw [if_neg (fun h => e h.symm)]
      show C[j]? = some (.int .u8 ((if j = o then b else f j)).toNat)
      rw [if_neg e]
      exact h4 j hj
theorem RowB.copy {g n : Nat} : ∀ (l : List UInt8) (o : Nat) (w : World) (f : Nat → UInt8), RowB w g n f → RowB (w.setCells g o (l.map fun x => Value.int .u8 (x.toNat : Int))) g n (fun j => if o ≤ j ∧ j < o + l.length then l.getD (j - o) 0 else f j)
  | [], o, w, f, h => h.congr fun j _ => by rw [if_neg (by simp)]
  | b :: l, o, w, f, h => by
    have ih := RowB.copy l (o + 1) _ _ (h.set o b)
    refine ih.congr fun j _ => ?_
    by_cases h1 : j = o
    · subst h1
      rw [if_neg (by omega), if_pos rfl, if_pos (by simp), Nat.sub_self]
      rfl
    · by_cases h2 : o + 1 ≤ j ∧ j < o + 1 + l.length
      · rw [if_pos h2, if_pos (by simp; omega), show j - o = (j - (o + 1)) + 1 by omega]
        rfl
      · rw [if_neg h2, if_neg h1, if_neg (by simp; omega)]
theorem laid_snoc (s : ByteArray) (l : List (Nat × Nat)) (y : Nat × Nat) (i : Nat) : laid s (l ++ [y]) i = if y.1 ≤ i ∧ i < y.2 then s.data.toList.getD i 0 else laid s l i := by
  unfold laid inW
  rw [List.any_append]
  by_cases h : y.1 ≤ i ∧ i < y.2
  · have hd : decide (y.1 ≤ i ∧ i < y.2) = true := decide_eq_true h
    rw [if_pos h]
    simp only [List.any_cons, List.any_nil, hd, Bool.or_true, Bool.true_or, if_true]
  · have hd : decide (y.1 ≤ i ∧ i < y.2) = false := decide_eq_false h
    rw [if_neg h]
    simp only [List.any_cons, List.any_nil, hd, Bool.or_false]
theorem heap_sc (g j : Nat) (h : j ≠ g) : ∀ (vs : List Value) (o : Nat) (w : World), (w.setCells g o vs).heap[j]? = w.heap[j]?
  | [], _, _ => rfl
  | v :: r, o, w => (heap_sc g j h r (o + 1) _).trans (Below.heap_setCell w ⟨g, o, none⟩ v j h)
theorem own_set {w : World} {base : Nat} {e : TypeId} {size : Nat} {v : Value} {n : Nat} {xs : List Value} (h : w.ownsRow base e size v n xs) {g : Nat} (hg : g < base) (o : Nat) (vs : List Value) : (w.setCells g o vs).ownsRow base e size v n xs := by
  refine ⟨h.1, ?_⟩
  rcases h.2 with h0 | ⟨g', cap, cur, h1, h2, h3, h4⟩
  · exact .inl h0
  · exact .inr ⟨g', cap, cur, h1, h2, (heap_sc g g' (by omega) vs o w).trans h3, h4⟩
/-- What the second loop holds between two rounds. -/
def BareI (s : ByteArray) (g k : Nat) (vw : Value) (W wr : World) (base2 : Nat) : Prop :=
  RowB wr g s.size (laid s ((words s).take k)) ∧ wr.ownsRow base2 42 3 vw (words s).length (wrdsV s (words s)) ∧ Below W.heap.size W wr
theorem bare_step {s : ByteArray} {g k : Nat} {vw : Value} {W wr w' : World} {base2 : Nat} {y : Nat × Nat} {t : ByteArray} (h : RowB wr g s.size (laid s ((words s).take k))) (ho : wr.ownsRow base2 42 3 vw (words s).length (wrdsV s (words s))) (hW : Below W.heap.size W wr)
    (hw : Below wr.heap.size wr w') (he : w'.heap = wr.heap) (hy : (words s)[k]? = some y) (f1 : y.1 < y.2) (f2 : y.2 ≤ s.size) (ht : t.data.toList = (s.data.toList.drop y.1).take (y.2 - y.1)) (hg : W.heap.size ≤ g) (hb : g < base2) :
    BareI s g (k + 1) vw W (w'.setCells g y.1 (t.data.toList.map fun x => Value.int .u8 (x.toNat : Int))) base2 := by
  obtain ⟨hk, e⟩ := List.getElem?_eq_some_iff.1 hy
  have hsl : s.data.toList.length = s.size := by rw [← Lib.size_eq]
  have hl : t.data.toList.length = y.2 - y.1 := by rw [ht, List.length_take, List.length_drop]; omega
  refine ⟨((h.below hw).copy t.data.toList y.1).congr fun i hi => ?_, own_set (own_below ho hw) hb _ _, below_setCells hg _ _ _ (hW.trans (hw.mono hW.size))⟩
  rw [List.take_succ_eq_append_getElem hk, e, laid_snoc, hl, show y.1 + (y.2 - y.1) = y.2 by omega]
  by_cases hi2 : y.1 ≤ i ∧ i < y.2
  · rw [if_pos hi2, if_pos hi2, ht]
    simp only [List.getD]
    rw [List.getElem?_take_of_lt (by omega), List.getElem?_drop, show y.1 + (i - y.1) = i by omega]
  · rw [if_neg hi2, if_neg hi2]
theorem laid_all (s : ByteArray) (j : Nat) (hj : j < s.size) : laid s (words s) j = s[j] := by
  unfold laid
  cases h : inW (words s) j
  · rw [if_neg (by simp)]
    exact (words_cover s j hj h).symm
  · rw [if_pos rfl]
    have h1 := list_get s j hj
    simp only [List.getD]
    rw [h1]
    rfl
theorem conv_back (s : ByteArray) (w : World) (g cap : Nat) (h : RowB w g s.size (laid s (words s))) : (convert 51 9 (.slice (some ⟨g, 0, none⟩) s.size cap)).run Tryd.prog w = .ok (.string s) w := by
  have h1 := run_convert_bytes_back (P := Tryd.prog) w 51 9 5 ⟨g, 0, none⟩ cap s.data.toList Tryd.underlying51 Tryd.underlying5 Tryd.underlying9 (fun j hj => by
    have hj' : j < s.size := by rw [Lib.size_eq]; exact hj
    have h2 := (row_cell h rfl hj').1
    rw [laid_all s j hj'] at h2
    rw [show (⟨g, 0, none⟩ : Addr).add j = ⟨g, j, none⟩ by rw [Go.WideShapes.add_plain, Nat.zero_add]]
    exact h2)
  rw [← Lib.size_eq, bytes_back] at h1
  exact h1
theorem below_bytes (w : World) (s : ByteArray) : Below w.heap.size w (Lib.bytesWorld w 5 s) :=
  ⟨rfl, rfl, rfl, by rw [Lib.bytesWorld_size]; omega, fun k hk => Lib.bytesWorld_at_old w _ s k hk⟩
theorem row_new (w : World) (sp s : ByteArray) (h : sp.data.toList = List.replicate s.size 32) : RowB (Lib.bytesWorld w 5 sp) w.heap.size s.size (laid s []) := by
  have hs : sp.size = s.size := by rw [Lib.size_eq, h]; simp
  have hc : (Lib.bytesCells w 5 sp).size = s.size + (grownCap w sp.size 0 5 - sp.size) := by
    unfold Lib.bytesCells
    rw [Array.size_append, Array.size_map, Array.size_replicate]
    show sp.size + _ = _
    rw [hs]
  refine ⟨_, _, Lib.bytesWorld_at_new w _ sp, by omega, by omega, fun i hi => ?_⟩
  have h1 := Lib.bytesWorld_cell w 5 sp i (by omega)
  have h2 : sp.data.toList.getD i 0 = 32 := by rw [h]; simp [List.getD, hi]
  rw [h2] at h1
  rw [Lib.cell_of_heap (Lib.bytesWorld_at_new w _ sp)] at h1
  exact h1
theorem wide_ok {a : ByteArray} {m : Int} (e1 : (!a.toList.isEmpty) = true) (h : a.size = 0 ∨ wide a ≤ m) : wide a ≤ m := by
  rcases h with h9 | h9
  · exfalso
    have h8 := emptyB a
    rw [e1] at h8
    have h7 := of_decide_eq_true h8.symm
    omega
  · exact h9

set_option maxRecDepth 100000 in
set_option maxHeartbeats 8000000 in
theorem walk (s : ByteArray) (m : Int) (hs : s.size ≤ 1048576) (wm : (Lit.int .i64 m).wf = true) (W : World) (hT : Tabs W) :
    Calls Tryd.prog 8 #[.string s, .int .i64 m] W fun e W' => e = .returned (.bool true) ∧ Below W.heap.size W W' := by
  have HS := Lib.hid (show s.size ≤ 16777216 by omega)
  have HSS := Lib.hid hs
  have hl : (cells s).length ≤ 1048576 := Nat.le_trans (cells_len s) hs
  have HTW := Lib.hid hT
  have WM := Lib.hid wm
  clear hs hT wm
  go_enter Tryd.func8, Tryd.ntmps8
  go_wp2_with fail
  refine (awake_law _ HTW.out).mono ?_
  rintro e w3 ⟨rfl, h3⟩
  have Z3 := Lib.hid h3
  clear h3
  go_wp2_with fail
  refine (cells_pro s _ HS.out).mono ?_
  rintro e w4 ⟨v, rfl, how, hb⟩
  have BB := Lib.hid (bis_below (Lib.IsBuilderF.of (Lib.fresh_isBuilder 53 5 w3)) hb)
  have hsz := hb.size
  have Z4 := Lib.hid ((Z3.out.alloc Z3.out.size _).trans (hb.mono (by have := Z3.out.size; simp; omega)))
  have OW := Lib.hid how
  have SB := Lib.hid (show w3.heap.size < (w3.alloc (.cells #[.pointer none, .slice none 0 0] 53)).heap.size by simp)
  have SW := Lib.hid Z3.out.size
  have SZ := Lib.hid (show w3.heap.size ≤ w4.heap.size by simp at hsz; omega)
  obtain ⟨B, hB⟩ : ∃ B, w3.heap.size = B := ⟨_, rfl⟩
  obtain ⟨base, hbase⟩ : ∃ base, (w3.alloc (.cells #[.pointer none, .slice none 0 0] 53)).heap.size = base := ⟨_, rfl⟩
  rw [hbase] at OW SB
  rw [hB] at BB SB SW SZ ⊢
  clear how hb hsz hbase hB
  obtain ⟨pv, cv, rfl⟩ := lenOf OW.out
  go_wp2_with fail
  go_loopw [7] (fun i wr => ∃ k : Nat, i = .int .i64 k ∧ k ≤ (cells s).length ∧ KeepsI s B k (.slice pv (cells s).length cv) W wr base) (fun i _ => (cells s).length - (intOf i).toNat)
  case atStart => exact ⟨0, rfl, Nat.zero_le _, 0, tiles_cells s, Nat.zero_le _, (show bcs (s.extract 0 0) = [] by have : s.extract 0 0 = ByteArray.empty := (by apply data_inj; rw [Lib.extract_data]; simp); rw [this]; rfl) ▸ BB.out, OW.out, Z4.out, SZ.out⟩
  case round =>
    obtain ⟨k, rfl, hk, q, htl, hq, hbi, how, hbw, hsz⟩ := hrel
    have BI := Lib.hid hbi
    have HO := Lib.hid how
    have HBW := Lib.hid hbw
    have HZ := Lib.hid hsz
    have HQ := Lib.hid hq
    clear hbi how hbw hsz
    by_cases hlt : k < (cells s).length
    · obtain ⟨g, cap', e0, hg, hgl⟩ := World.ownsRow.form HO.out (by omega)
      cases e0
      obtain ⟨y, hy⟩ : ∃ y, (cells s)[k]? = some y := ⟨_, List.getElem?_eq_getElem hlt⟩
      have g0 := (World.ownsRow.cellAt HO.out (k * 3) (by omega)).trans (celsV_get s _ k y hy).1
      have g1 := (World.ownsRow.cellAt HO.out (k * 3 + 1) (by omega)).trans (celsV_get s _ k y hy).2.1
      have g2 := (World.ownsRow.cellAt HO.out (k * 3 + 2) (by omega)).trans (celsV_get s _ k y hy).2.2
      have hw := cel_wide (chars s) y (List.mem_of_getElem? hy)
      have w1 : ¬ y.2.2 < 1 := by omega
      have w2 : ¬ (2 : Int) < y.2.2 := by omega
      have hdr : (cells s).drop k = y :: (cells s).drop (k + 1) := by rw [List.drop_eq_getElem_cons hlt, (List.getElem?_eq_some_iff.1 hy).2]
      rw [hdr] at htl
      obtain ⟨t1, t2, t3⟩ := htl
      obtain rfl : q = y.1 := t1.symm
      have HTL := Lib.hid t3
      have HT2 := Lib.hid t2
      have hye := tiles_le _ _ _ t3
      obtain ⟨e1, e2⟩ := ext_ne s y.1 y.2.1 t2 hye
      have hes : (s.extract y.1 y.2.1).size ≤ 1048576 := by have := HSS.out; rw [ByteArray.size_extract]; omega
      have HES := Lib.hid hes
      clear hy hw hdr t1 t2 t3 hye hes
      go_wp2_with fail
      go_quiet ((go_at_call 38; exact Calls.quiet_of_same (len_law B s y.1 _ (bis_below BI.out (drewN_b _ _)) HQ.out)))
      go_wp2_with fail
      refine (str_pro B B _ _ _ (bis_below BI.out (drewN_b _ _)) (by rw [bcs_len, ext_size s _ HQ.out]; exact Nat.le_trans (Nat.add_le_add (Nat.le_trans HQ.out HSS.out) HES.out) (by decide)) HZ.out).mono ?_
      rintro e w5 ⟨rfl, hb5⟩
      have HN := Lib.hid (keeps_step HTL.out HT2.out hb5 (own_below HO.out (drewN_b _ _)) SB.out (HBW.out.trans ((drewN_b _ _).mono HBW.out.size)) SW.out HZ.out)
      clear hb5
      go_wp2_with fail
      go_roundw
      all_goals first | exact ⟨k + 1, by go_num, by omega, HN.out⟩ | (simp [intOf]; done) | (simp [intOf]; omega)
    · obtain rfl : k = (cells s).length := by omega
      rw [List.drop_length] at htl
      have hqs : q = s.size := htl
      have BF := Lib.hid (show BIs B B (Lib.byteCells s.data.toList) wr by have h9 := BI.out; rw [hqs, ext_all] at h9; exact h9)
      clear htl hqs BI HQ hq
      have hcs := cut_says s m
      go_wp2_with fail
      refine (cut_pro s m _ HS.out WM.out).mono ?_
      rintro e w5 ⟨rfl, h5⟩
      obtain ⟨a, ha⟩ : ∃ a, (cut s m).1 = a := ⟨_, rfl⟩
      obtain ⟨b, hb⟩ : ∃ b, (cut s m).2 = b := ⟨_, rfl⟩
      rw [ha, hb] at hcs ⊢
      obtain ⟨c1, c2, c3, c4⟩ := hcs
      have hsz : a.size + b.size = s.size := by rw [← c1, ByteArray.size_append]
      have AS := Lib.hid (show a.size ≤ 16777216 by have := HS.out; omega)
      have HN1 := Lib.hid (show (a ++ b).toList = s.toList by rw [c1])
      have habs : a.size + b.size ≤ 1048576 := by have := HSS.out; omega
      have C1 := Lib.hid c1
      have C2 := Lib.hid c2
      have C3 := Lib.hid c3
      have C4 := Lib.hid c4
      have B5 := Lib.hid (bis_below BF.out h5)
      have O5 := Lib.hid (own_below HO.out h5)
      have HZ5 := Lib.hid (Nat.le_trans HZ.out h5.size)
      have Z5 := Lib.hid (HBW.out.trans (h5.mono HBW.out.size))
      clear ha hb c1 c2 c3 c4 h5 BF HO HZ HBW hsz
      go_upto_region 12 with fail
      go_cut [86] from 67 to 86 (fun bb wx => bb = .bool false ∧ wx.ownsRow base 36 3 (.slice pv (cells s).length cv) (cells s).length (celsV s (cells s)) ∧ Below W.heap.size W wx)
      case first =>
        have hn1 := HN1.out
        by_cases ha0 : a.toList = []
        · have e2 : a.toList.isEmpty = true := by rw [ha0]; rfl
          have e1 : (!a.toList.isEmpty) = false := by rw [e2]; rfl
          go_wp2_with fail
          refine (Tryd.Builder_String_any_k B B s.data.toList _ B5.out HZ5.out).mono ?_
          rintro e w6 ⟨rfl, _, z6, k6⟩
          rw [bytes_back]
          have O6 := Lib.hid (own_others O5.out SB.out (by decide) k6)
          have Z6 := Lib.hid (Z5.out.trans (z6.mono SW.out))
          clear z6 k6 B5 O5
          go_wp2_with fail
          go_meet
          case rel => exact ⟨rfl, O6.out, Z6.out⟩
        · have e2 : a.toList.isEmpty = false := by simpa using ha0
          have e1 : (!a.toList.isEmpty) = true := by rw [e2]; rfl
          have hwa : wide a ≤ m := wide_ok e1 C2.out
          go_wp2_with fail
          refine (Tryd.Builder_String_any_k B B s.data.toList _ B5.out HZ5.out).mono ?_
          rintro e w6 ⟨rfl, _, z6, k6⟩
          rw [bytes_back]
          have O6 := Lib.hid (own_others O5.out SB.out (by decide) k6)
          have Z6 := Lib.hid (Z5.out.trans (z6.mono SW.out))
          clear z6 k6 B5 O5
          go_wp2_with fail
          refine (wide_pro a _ AS.out).mono ?_
          rintro e w7 ⟨rfl, h7⟩
          have O7 := Lib.hid (own_below O6.out h7)
          have Z7 := Lib.hid (Z6.out.trans (h7.mono Z6.out.size))
          clear h7
          go_wp2_with fail
          go_meet
          case rel => exact ⟨congrArg Value.bool (decide_eq_false (Int.not_lt.2 hwa)), O7.out, Z7.out⟩
      case rest =>
        obtain ⟨rfl, o6, z6⟩ := hcut
        have O6 := Lib.hid o6
        have Z6 := Lib.hid z6
        clear o6 z6 B5 O5 Z5 HZ5 HN1 C2
        go_wp2_with fail
        refine (cells_pro a _ AS.out).mono ?_
        rintro e w7 ⟨va, rfl, oa, h7⟩
        obtain ⟨pa, ca, rfl⟩ := lenOf oa
        have O7 := Lib.hid (own_below O6.out h7)
        have Z7 := Lib.hid (Z6.out.trans (h7.mono Z6.out.size))
        clear oa h7 O6 Z6
        go_upto_region 15 with fail
        go_cut [119] from 90 to 119 (fun bb wx => bb = .bool false ∧ Below W.heap.size W wx)
        case first =>
          have n1 : ¬ ((cells s).length : Int) < (cells a).length := by have := C3.out; omega
          by_cases hb0 : b.toList = []
          · have e2 : b.toList.isEmpty = true := by rw [hb0]; rfl
            have e1 : (!b.toList.isEmpty) = false := by rw [e2]; rfl
            go_quiet (fail)
            go_wp2_with fail
            go_meet
            case rel => exact ⟨rfl, Z7.out.trans ((drewN_b _ _).mono Z7.out.size)⟩
          · have e2 : b.toList.isEmpty = false := by simpa using hb0
            have e1 : (!b.toList.isEmpty) = true := by rw [e2]; rfl
            by_cases hm0 : (0 : Int) ≤ m
            · obtain ⟨y, hy, hym⟩ : ∃ y, (cells s)[(cells a).length]? = some y ∧ m < wide a + y.2.2 := by
                rcases C4.out with h9 | h9
                · exfalso
                  have h8 := emptyB b
                  rw [e1] at h8
                  have h7 := of_decide_eq_true h8.symm
                  omega
                · exact h9
              have hn := (List.getElem?_eq_some_iff.1 hy).1
              obtain ⟨g, cap', e0, hg, hgl⟩ := World.ownsRow.form O7.out (by omega)
              cases e0
              have g2 := (World.ownsRow.cellAt O7.out ((cells a).length * 3 + 2) (by omega)).trans (celsV_get s _ _ y hy).2.2
              have hw := cel_wide (chars s) y (List.mem_of_getElem? hy)
              have hwb := sumW_bd (cells a) (cel_wide (chars a))
              have hal := cells_len a
              have h1a : wide a = sumW (cells a) := rfl
              have hsa := AS.out
              have q1 : ¬ ((cells s).length : Int) ≤ (cells a).length := by omega
              have q2 : ((cells a).length : Int) < (cells s).length := by omega
              have q3 : (0 : Int) ≤ (cells a).length := by omega
              have q4 : ((cells a).length : Int).toNat = (cells a).length := by omega
              have q5 : ¬ wide a + y.2.2 ≤ m := by omega
              have V := Lib.hid (show IntKind.i64.wrap (wide a + y.2.2) = wide a + y.2.2 from IntWalk.i64_in _ (by omega))
              have HGL := Lib.hid hgl
              have G2 := Lib.hid g2
              clear hy hym hn hg hw hwb hal h1a hsa hgl
              have v := V.out
              go_region_held3 (fun w' => w'.cell? ⟨g, (cells a).length * 3 + 2, none⟩ = some (.int .i64 y.2.2) ∧ Below W.heap.size W w' ∧ g < w'.heap.size)
                (first
                  | exact ⟨G2.out, Z7.out.trans ⟨rfl, rfl, rfl, Nat.le_refl _, fun _ _ => rfl⟩, HGL.out⟩
                  | exact s_next (by assumption) h8)
                ((go_at_call 26; refine (wide_pro a _ AS.out).mono ?_; rintro e w8 ⟨rfl, h8⟩))
              all_goals go_wp2_with fail
              all_goals go_meet
              all_goals exact ⟨congrArg Value.bool (decide_eq_false (by omega)), (by assumption : _ ∧ _ ∧ _).2.1⟩
            · go_quiet (fail)
              go_wp2_with fail
              go_meet
              case rel => exact ⟨rfl, Z7.out.trans ((drewN_b _ _).mono Z7.out.size)⟩
        case rest =>
          obtain ⟨rfl, z8⟩ := hcut
          have Z8 := Lib.hid z8
          clear z8 O7 Z7 C3 C4
          have hsl := HSS.out
          go_wp2_with fail
          refine (Tryd.strings_Repeat _ s.size _ (by omega) (by show 1 * s.size ≤ _; omega)).mono ?_
          rintro e w9 ⟨rfl, h9⟩
          obtain ⟨sp, hsp⟩ : ∃ sp : ByteArray, (⟨(Lib.repeatL [32] s.size).toArray⟩ : ByteArray) = sp := ⟨_, rfl⟩
          have HSP := Lib.hid (show sp.data.toList = List.replicate s.size 32 by rw [← hsp]; simp [rep_blank])
          have hsz : sp.size = s.size := by rw [Lib.size_eq, HSP.out]; simp
          have HSZ := Lib.hid hsz
          have Z9 := Lib.hid (Z8.out.trans (h9.mono Z8.out.size))
          rw [show (⟨(Lib.repeatL (ByteArray.mk #[32]).data.toList s.size).toArray⟩ : ByteArray) = sp from hsp]
          clear hsp hsz h9
          go_wp2_with fail
          rw [Lib.run_convert_string_bytes w9 9 51 5 sp Tryd.underlying9 Tryd.underlying51 Tryd.underlying5]
          simp only [Result.andThen]
          rw [Oper.upon_value]
          have HR0 := Lib.hid (row_new w9 sp s HSP.out)
          have Z10 := Lib.hid (Z9.out.trans ((below_bytes w9 sp).mono Z9.out.size))
          have HG := Lib.hid Z9.out.size
          have GS := Lib.hid (show w9.heap.size < (Lib.bytesWorld w9 5 sp).heap.size by rw [Lib.bytesWorld_size]; omega)
          rw [HSZ.out]
          obtain ⟨cap, hcap⟩ : ∃ cap, grownCap w9 s.size 0 5 = cap := ⟨_, rfl⟩
          obtain ⟨w10, hw10⟩ : ∃ w10, Lib.bytesWorld w9 5 sp = w10 := ⟨_, rfl⟩
          obtain ⟨g, hgg⟩ : ∃ g, w9.heap.size = g := ⟨_, rfl⟩
          rw [hw10] at HR0 Z10 GS ⊢
          rw [hgg] at HR0 HG GS ⊢
          have CAP := Lib.hid (show s.size ≤ cap by rw [← hcap]; exact grownCap_ge w9 s.size 0 _)
          rw [hcap]
          clear hcap hw10 hgg Z9 Z8 HSP HSZ
          go_wp2_with fail
          refine (words_pro s _ HS.out (HTW.out.at Z10.out)).mono ?_
          rintro e w11 ⟨vw, rfl, ow, h11⟩
          obtain ⟨pw, cw, rfl⟩ := lenOf ow
          have OWW := Lib.hid ow
          have HR1 := Lib.hid (HR0.out.below h11)
          have Z11 := Lib.hid (Z10.out.trans (h11.mono Z10.out.size))
          have GB := Lib.hid (show g < w10.heap.size from GS.out)
          obtain ⟨base2, hb2⟩ : ∃ base2, w10.heap.size = base2 := ⟨_, rfl⟩
          rw [hb2] at OWW GB
          clear ow h11 HR0 hb2
          have hwl := words_len s
          go_wp2_with fail
          go_loopw [13] (fun i wr => ∃ k : Nat, i = .int .i64 k ∧ k ≤ (words s).length ∧ BareI s g k (.slice pw (words s).length cw) W wr base2) (fun i _ => (words s).length - (intOf i).toNat)
          case atStart => exact ⟨0, rfl, Nat.zero_le _, HR1.out, OWW.out, Z11.out⟩
          case round =>
            obtain ⟨k, rfl, hk, hrb, how, hbw⟩ := hrel
            have RB := Lib.hid hrb
            have HO := Lib.hid how
            have HBW := Lib.hid hbw
            clear hrb how hbw
            by_cases hlt : k < (words s).length
            · obtain ⟨gw, cap', e0, hg, hgl⟩ := World.ownsRow.form HO.out (by omega)
              cases e0
              obtain ⟨y, hy⟩ : ∃ y, (words s)[k]? = some y := ⟨_, List.getElem?_eq_getElem hlt⟩
              have g0 := (World.ownsRow.cellAt HO.out (k * 3) (by omega)).trans (wrdsV_get s _ k y hy).1
              have g1 := (World.ownsRow.cellAt HO.out (k * 3 + 1) (by omega)).trans (wrdsV_get s _ k y hy).2.1
              obtain ⟨f1, f2⟩ := words_fit s y (List.mem_of_getElem? hy)
              obtain ⟨e1, e2⟩ := ext_ne s y.1 y.2 f1 f2
              have tsz : (s.extract y.1 y.2).size = y.2 - y.1 := by rw [ByteArray.size_extract]; omega
              have HTD := Lib.hid (show (s.extract y.1 y.2).data.toList = (s.data.toList.drop y.1).take (y.2 - y.1) by rw [Lib.extract_data])
              obtain ⟨t, ht⟩ : ∃ t, s.extract y.1 y.2 = t := ⟨_, rfl⟩
              rw [ht] at g0 e1 e2 tsz HTD
              have q1 : ¬ (y.1 : Int) < 0 := by omega
              have q2 : ¬ (s.size : Int) < (y.1 : Int) + t.size := by omega
              have q3 : (0 : Int) ≤ y.1 := by omega
              have q4 : (y.1 : Int) ≤ s.size := by omega
              have V := Lib.hid (show IntKind.i64.wrap ((y.1 : Int) + t.size) = y.1 + t.size from IntWalk.i64_in _ (by omega))
              have HF1 := Lib.hid f1
              have HF2 := Lib.hid f2
              have TSZ := Lib.hid tsz
              have HY := Lib.hid hy
              clear hy ht f1 f2 tsz
              go_wp2_with fail
              have v := V.out
              go_quiet (fail)
              clear v
              go_wp2_with fail
              have HS1 := Lib.hid (bare_step RB.out HO.out HBW.out (drewN_b wr (nq + 1)) rfl HY.out HF1.out HF2.out HTD.out HG.out GB.out)
              have HC1 := Lib.hid (show ∀ j, j < t.size → ((wr.drewN (nq + 1)).cell? ⟨g, y.1 + j, none⟩).isSome = true from fun j hj => by
                have h9 := (row_cell (w' := wr.drewN (nq + 1)) RB.out rfl (i := y.1 + j) (by have := TSZ.out; have := HF2.out; omega)).1
                rw [h9]; rfl)
              have HC2 := Lib.hid (show ∀ j, j < t.size → (wr.drewN (nq + 1)).frozen? ⟨g, y.1 + j, none⟩ = false from fun j hj =>
                (row_cell (w' := wr.drewN (nq + 1)) RB.out rfl (i := y.1 + j) (by have := TSZ.out; have := HF2.out; omega)).2)
              have HLE := Lib.hid (show t.size ≤ s.size - y.1 by have := TSZ.out; have := HF2.out; omega)
              have hcy : ¬ cap = y.1 := by have := CAP.out; have := HF1.out; have := HF2.out; omega
              go_region_law (refine step_copy_string rfl (.tmp 169) (.tmp 174) 51 9 rfl 5 Tryd.underlying51 Tryd.sizeOf5 g y.1 (s.size - y.1) (cap - y.1) (by simp [Act.eval, Act.put]) t (by simp [Act.eval, Act.put]) HLE.out HC1.out HC2.out ?_)
              all_goals go_wp2_with fail
              all_goals go_roundw
              all_goals first | exact ⟨k + 1, by go_num, by omega, HS1.out⟩ | (simp [intOf]; done) | (simp [intOf]; omega)
            · obtain rfl : k = (words s).length := by omega
              have RF := RB.out
              rw [List.take_length] at RF
              go_wp2_with fail
              rw [conv_back s wr g cap RF]
              simp only [Result.andThen]
              rw [Oper.upon_value]
              clear RF
              go_wp2_with fail
              go_ret
              exact ⟨rfl, HBW.out⟩

set_option maxRecDepth 100000 in
theorem contract (H : Type) (enc : TypeId × Value → H) (W : World) (base : Nat) (args : Array Value) (ds gs : List (DataW H)) (before : List MemPlace)
    (hval : ∀ (j : Nat) t v, Tryd.f8.params[j]? = some t → args[j]? = some v → Value.okWide Tryd.prog W .any base t v)
    (hW : DataW.Whole enc Tryd.prog Tryd.f8.params.toList Rows.textKeepsSpec.vars false W args.toList ds gs before) (hk : Rows.uptoSmall H (ds ++ gs) = true) (hT : Tabs W) :
    Calls Tryd.prog 8 args W fun e W' => ∃ v, e = .returned v ∧ Rows.textKeepsSpec.post enc Tryd.prog Tryd.f8 false true false false W args v W' := by
  have hW' := hW
  obtain ⟨p, q, hA0, hV, rfl, hfz, hnd⟩ := hW
  have hA : DataW.TrodAll enc Tryd.prog W 0 (fun _ => true) true Tryd.f8.params.toList args.toList ds p := hA0
  rw [Tryd.params8] at hA hval
  obtain ⟨v0, vs0, d0, ds0, p0, q0, hargs, rfl, rfl, h0, r0⟩ := trodAll_cons hA
  obtain ⟨v1, vs1, d1, ds1, p1, q1, rfl, rfl, rfl, h1, r1⟩ := trodAll_cons r0
  obtain ⟨rfl, rfl, rfl⟩ := trodAll_nil r1
  obtain rfl : args = #[v0, v1] := by cases args; simp_all
  obtain ⟨rfl, rfl⟩ := trodVars_none hV
  obtain ⟨s0, rfl, rfl, rfl, hm0⟩ := open_string Tryd.underlying9 (hval 0 9 v0 rfl rfl) h0
  obtain ⟨a1, rfl, rfl, rfl, w1⟩ := open_int Tryd.underlying3 (hval 1 3 v1 rfl rfl) h1
  clear hA0
  simp only [List.append_nil] at hW' hk
  have hb0 := of_decide_eq_true hk
  simp only [Rows.uptoBulkAll, Rows.uptoBulk] at hb0
  have size0 : s0.size ≤ 1048576 := by
    have e : s0.data.toList.length = s0.size := by rw [Array.length_toList]; rfl
    omega
  refine (walk s0 a1 size0 w1 W  hT).mono fun e W' ⟨he, hg⟩ => ?_
  subst he
  exact ⟨_, rfl, post_of_below (pa := []) (pv := []) hW' (fun _ _ _ => trodAll_cons_mk (shut_bool Tryd.underlying4 _) trodAll_mk0) (fun _ _ => (trodAll_cons_mk (shut_string Tryd.underlying9 hm0) (trodAll_cons_mk (shut_int Tryd.underlying3 w1) trodAll_mk0))) (fun _ _ => rfl) rfl hg (ok_one (by kernel_rfl) rfl (okWide_bool_mk Tryd.underlying4 _))⟩

theorem witness_row (os : Os) {H : Type} (enc : TypeId × Value → H) :
    (Rows.OpenSpec.upto Rows.textKeepsSpec).preRow enc Tryd.prog Tryd.f8 Rows.textKeepsUptoRow.domain false Rows.textKeepsUptoRow.laid ((laidWorld os).forCall (fun _ _ => 0) ⟨#[], #[.string .empty, .int .i64 0], []⟩).memory #[.string .empty, .int .i64 0] := by
  have hw : (DataW.whole enc Tryd.prog ((laidWorld os).forCall (fun _ _ => 0) ⟨#[], #[.string .empty, .int .i64 0], []⟩).memory Tryd.f8.params.toList Rows.textKeepsSpec.vars false (#[.string .empty, .int .i64 0] : Array Value).toList 8).map (fun x => (x.1, x.2.1)) =
      some ([.lit (.string []), .lit (.int .i64 0)], []) := by kernel_rfl
  obtain ⟨⟨x1, x2, x3⟩, hx, hx1⟩ := Option.map_eq_some_iff.1 hw
  simp only [Prod.mk.injEq] at hx1
  obtain ⟨rfl, rfl⟩ := hx1
  exact OpenSpec.preRow_of_cond 8 hx (by kernel_rfl) (fun k hk => by cases hk; kernel_rfl) (by kernel_rfl) (laid_met os _)

set_option maxRecDepth 100000 in
theorem lifted (os : Os) (started : os.Started) (H : Type) (enc : TypeId × Value → H) (F : Stop.Interp) :
    ReturnsInHanded {} Tryd.checked os 8 .any ((Rows.OpenSpec.upto Rows.textKeepsSpec).preRow enc Tryd.prog Tryd.f8 Rows.textKeepsUptoRow.domain false Rows.textKeepsUptoRow.laid) (((Rows.OpenSpec.upto Rows.textKeepsSpec).at F).post enc Tryd.prog Tryd.f8 false true false false) := by
  refine returnsInHanded_of_row (C := Tryd.checked) (s := (Rows.OpenSpec.upto Rows.textKeepsSpec)) own started (by kernel_rfl) Tryd.func8
    (witness_row_at (enc := enc) (C := Tryd.checked) false (laidWorld os) #[.string .empty, .int .i64 0] rfl (by kernel_rfl) (by kernel_rfl) (by kernel_rfl) (witness_row os enc)) ?_
  intro W base args ds gs before hval hW _ hcond _ hL hS _
  exact contract H enc W base args ds gs before hval hW (hcond _ rfl) (tabs_of hL hS)

theorem row : Rows.TextKeepsUptoSaid :=
  OpenClaim.holds_of_cond 8 Tryd.f8 rfl rfl rfl rfl rfl rfl rfl ⟨rfl, rfl, rfl, rfl, rfl⟩ rfl rfl rfl rfl rfl (by kernel_rfl) Tryd.func8 (by kernel_rfl)
    (of_decide_eq_true (by kernel_rfl)) (by unfold Func.isWrapper; first | (rw [if_pos (by decide +kernel)]; kernel_rfl) | (rw [if_neg (by decide +kernel)]; exact ⟨rfl, rfl⟩))
    (fun os started H enc _ F => by rw [OpenClaim.pre_eq_preRow]; exact lifted os started H enc F)

theorem plain (f : FuncId) (fn : Func) (hf : Tryd.pinned.checked.prog.funcNamed Rows.textKeepsUptoRow.func = some f) (hfn : Tryd.pinned.checked.prog.funcs[f]? = some fn) :
    false = Tryd.pinned.checked.prog.looks [] ∧ ∀ (j : Nat) t, fn.params[j]? = some t → Tryd.pinned.checked.prog.wantsStandIn t = false := by
  obtain rfl : f = 8 := Option.some.inj ((show Tryd.prog.funcNamed Rows.textKeepsUptoRow.func = some 8 by kernel_rfl).symm.trans hf) |>.symm
  obtain rfl : fn = Tryd.f8 := (Option.some.inj (Tryd.func8.symm.trans hfn)).symm
  refine ⟨by kernel_rfl, fun j t ht => ?_⟩
  rw [Tryd.params8] at ht
  have hm : t ∈ [9, 3] := by simpa using Array.mem_of_getElem? ht
  simp only [List.mem_cons, List.mem_nil_iff, or_false] at hm
  rcases hm with rfl | rfl
  · exact (show Tryd.prog.wantsStandIn 9 = false by kernel_rfl)
  · exact (show Tryd.prog.wantsStandIn 3 = false by kernel_rfl)

theorem proved : Rows.TextKeepsUptoCardSaid :=
  Claim7.holds_tied_plain_at .later [] _ _ _ _ row (fun _ h => by cases h) (by kernel_rfl) (fun _ h => by cases h) textKeepsUpto_row_tie rfl ⟨rfl, rfl⟩ (by kernel_rfl) rfl plain (by kernel_rfl)
end Go.Proofs.YthojhjimgfbcbaaDoor.textKeeps
