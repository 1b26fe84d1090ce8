/- Plain: what is encoded is decoded, so a norm is told by its code points; a name is nearest to itself, and found by itself. Nothing of the program is in it. -/
import Derived.Test.YtaikecdafcmdaaaDoorNfa
import Derived.Test.YtaikecdafcmdaaaDoorNv
import Derived.Laws.Cover4
namespace Go.Proofs.YtaikecdafcmdaaaDoor
open Go.RowKit Go.Maps
set_option linter.unusedVariables false
set_option maxRecDepth 100000

/-- A code point that may be encoded. -/
def Okc (n : Nat) : Prop := n ≤ 1114111 ∧ ¬ (55296 ≤ n ∧ n ≤ 57343)
theorem byte_nat {n : Nat} (h : n < 256) : (UInt8.ofNat n).toNat = n := by rw [UInt8.toNat_ofNat']; omega
theorem enc_shape (r : Nat) (h : Okc r) :
    (r < 128 ∧ Utf8.encode (r : Int) = ⟨#[UInt8.ofNat r]⟩) ∨
    (128 ≤ r ∧ r < 2048 ∧ Utf8.encode (r : Int) = ⟨#[UInt8.ofNat (192 + r / 64), UInt8.ofNat (128 + r % 64)]⟩) ∨
    (2048 ≤ r ∧ r < 65536 ∧ Utf8.encode (r : Int) = ⟨#[UInt8.ofNat (224 + r / 4096), UInt8.ofNat (128 + r / 64 % 64), UInt8.ofNat (128 + r % 64)]⟩) ∨
    (65536 ≤ r ∧ r ≤ 1114111 ∧ Utf8.encode (r : Int) = ⟨#[UInt8.ofNat (240 + r / 262144), UInt8.ofNat (128 + r / 4096 % 64), UInt8.ofNat (128 + r / 64 % 64), UInt8.ofNat (128 + r % 64)]⟩) := by
  obtain ⟨h1, h2⟩ := h
  have hv : Utf8.valid (r : Int) = true := by
    simp only [Utf8.valid, Bool.or_eq_true, Bool.and_eq_true, decide_eq_true_eq]
    omega
  unfold Utf8.encode
  simp only [hv, if_true, Int.toNat_natCast]
  by_cases a : r < 128
  · rw [if_pos a]; exact .inl ⟨a, rfl⟩
  · rw [if_neg a]
    by_cases b : r < 2048
    · rw [if_pos b]; exact .inr (.inl ⟨by omega, b, rfl⟩)
    · rw [if_neg b]
      by_cases c : r < 65536
      · rw [if_pos c]; exact .inr (.inr (.inl ⟨by omega, c, rfl⟩))
      · rw [if_neg c]; exact .inr (.inr (.inr ⟨by omega, h1, rfl⟩))
theorem dec_enc (r : Nat) (h : Okc r) (t : ByteArray) : Utf8.decode (Utf8.encode (r : Int) ++ t) 0 = (r, (Utf8.encode (r : Int)).size) := by
  rw [Lib.decode_at]
  have g : ∀ i, i < (Utf8.encode (r : Int)).size → (Utf8.encode (r : Int) ++ t).get! i = (Utf8.encode (r : Int)).get! i := fun i hi => get_app_l hi
  have hz : (Utf8.encode (r : Int) ++ t).size = (Utf8.encode (r : Int)).size + t.size := ByteArray.size_append
  obtain ⟨h1, h2⟩ := h
  rcases enc_shape r ⟨h1, h2⟩ with ⟨a, e⟩ | ⟨a, b, e⟩ | ⟨a, b, e⟩ | ⟨a, b, e⟩
  · rw [e] at g hz ⊢
    rw [g 0 (show 0 < 1 by omega)]
    show Lib.decodeN _ (UInt8.ofNat r).toNat _ _ _ = (r, 1)
    rw [byte_nat (by omega)]
    unfold Lib.decodeN
    rw [if_pos a]
  · rw [e] at g hz ⊢
    rw [g 0 (show 0 < 2 by omega), g (0 + 1) (show 0 + 1 < 2 by omega)]
    show Lib.decodeN _ (UInt8.ofNat (192 + r / 64)).toNat (UInt8.ofNat (128 + r % 64)).toNat _ _ = (r, 2)
    rw [byte_nat (by omega), byte_nat (by omega)]
    have hs : 1 < ((⟨#[UInt8.ofNat (192 + r / 64), UInt8.ofNat (128 + r % 64)]⟩ : ByteArray) ++ t).size - 0 := by
      rw [hz]; show 1 < 2 + t.size - 0; omega
    unfold Lib.decodeN
    rw [if_neg (by omega), if_pos ⟨by omega, hs, by omega⟩, if_pos (by omega)]
    simp only [Prod.mk.injEq, and_true]
    omega
  · rw [e] at g hz ⊢
    rw [g 0 (show 0 < 3 by omega), g (0 + 1) (show 0 + 1 < 3 by omega), g (0 + 2) (show 0 + 2 < 3 by omega)]
    show Lib.decodeN _ (UInt8.ofNat (224 + r / 4096)).toNat (UInt8.ofNat (128 + r / 64 % 64)).toNat (UInt8.ofNat (128 + r % 64)).toNat _ = (r, 3)
    rw [byte_nat (by omega), byte_nat (by omega), byte_nat (by omega)]
    have hs : 2 < ((⟨#[UInt8.ofNat (224 + r / 4096), UInt8.ofNat (128 + r / 64 % 64), UInt8.ofNat (128 + r % 64)]⟩ : ByteArray) ++ t).size - 0 := by
      rw [hz]; show 2 < 3 + t.size - 0; omega
    unfold Lib.decodeN
    rw [if_neg (by omega), if_neg (by omega), if_pos ⟨by omega, ⟨by omega, by omega⟩, hs, by omega⟩, if_pos ⟨by omega, by omega⟩]
    simp only [Prod.mk.injEq, and_true]
    omega
  · rw [e] at g hz ⊢
    rw [g 0 (show 0 < 4 by omega), g (0 + 1) (show 0 + 1 < 4 by omega), g (0 + 2) (show 0 + 2 < 4 by omega), g (0 + 3) (show 0 + 3 < 4 by omega)]
    show Lib.decodeN _ (UInt8.ofNat (240 + r / 262144)).toNat (UInt8.ofNat (128 + r / 4096 % 64)).toNat (UInt8.ofNat (128 + r / 64 % 64)).toNat (UInt8.ofNat (128 + r % 64)).toNat = (r, 4)
    rw [byte_nat (by omega), byte_nat (by omega), byte_nat (by omega), byte_nat (by omega)]
    have hs : 3 < ((⟨#[UInt8.ofNat (240 + r / 262144), UInt8.ofNat (128 + r / 4096 % 64), UInt8.ofNat (128 + r / 64 % 64), UInt8.ofNat (128 + r % 64)]⟩ : ByteArray) ++ t).size - 0 := by
      rw [hz]; show 3 < 4 + t.size - 0; omega
    unfold Lib.decodeN
    rw [if_neg (by omega), if_neg (by omega), if_neg (by omega), if_pos ⟨by omega, ⟨by omega, by omega⟩, ⟨by omega, by omega⟩, hs, by omega⟩, if_pos ⟨by omega, by omega⟩]
    simp only [Prod.mk.injEq, and_true]
    omega
theorem enc_pos (r : Nat) (h : Okc r) : 0 < (Utf8.encode (r : Int)).size := by
  rcases enc_shape r h with ⟨a, e⟩ | ⟨a, b, e⟩ | ⟨a, b, e⟩ | ⟨a, b, e⟩
  · rw [e]; show 0 < 1; omega
  · rw [e]; show 0 < 2; omega
  · rw [e]; show 0 < 3; omega
  · rw [e]; show 0 < 4; omega
/-- So many code points' bytes. -/
def rbs : List Nat → ByteArray
  | [] => ByteArray.empty
  | r :: l => Utf8.encode (r : Int) ++ rbs l
theorem rbs_nil : rbs [] = ByteArray.empty := rfl
theorem rbs_cons (r : Nat) (l : List Nat) : rbs (r :: l) = Utf8.encode (r : Int) ++ rbs l := rfl
theorem behind_app (a b : ByteArray) : behind (a ++ b) a.size = b := by
  apply ByteArray.ext
  apply Array.ext'
  rw [behind_list]
  have : (a ++ b).data.toList = a.data.toList ++ b.data.toList := by simp
  rw [this, show a.size = a.data.toList.length by rw [Array.length_toList]; rfl, List.drop_left]
theorem cds_rbs : ∀ l : List Nat, (∀ r ∈ l, Okc r) → cds (rbs l) = l
  | [], _ => by kernel_rfl
  | r :: l, h => by
    have h1 := h r (by simp)
    have hp : 0 < (rbs (r :: l)).size := by
      have := enc_pos r h1
      show 0 < (Utf8.encode (r : Int) ++ rbs l).size
      rw [ByteArray.size_append]; omega
    rw [cds_cons hp, rbs_cons, dec_enc r h1]
    simp only []
    rw [behind_app, cds_rbs l fun q hq => h q (by simp [hq])]
theorem rbs_app : ∀ a b : List Nat, rbs (a ++ b) = rbs a ++ rbs b
  | [], b => by simp [rbs]
  | r :: a, b => by
    show Utf8.encode (r : Int) ++ rbs (a ++ b) = (Utf8.encode (r : Int) ++ rbs a) ++ rbs b
    rw [rbs_app a b, ByteArray.append_assoc]
theorem cds_okc (s : ByteArray) : ∀ c ∈ chars s, Okc c.2.1 := by
  intro c hc
  obtain ⟨_, h2⟩ := chars_at s c hc
  rw [h2, Lib.decode_at]
  have h1 := (s.get! (c.1 + 1)).toNat_lt
  have h3 := (s.get! c.1).toNat_lt
  rcases Lib.decodeN_shape (s.size - c.1) (s.get! c.1).toNat (s.get! (c.1 + 1)).toNat (s.get! (c.1 + 2)).toNat (s.get! (c.1 + 3)).toNat with ⟨_, e⟩ | ⟨_, _, _, _, e⟩ | ⟨_, _, _, _, _, _, e⟩ | ⟨_, _, _, _, _, _, _, e⟩ | e <;> rw [e] <;> unfold Okc <;> simp only [] <;> omega
theorem sml_okc {r : Nat} (h : Okc r) : ∃ q : Nat, sml (r : Int) = q ∧ Okc q := by
  obtain ⟨h1, h2⟩ := h
  unfold sml
  simp only [inB, Bool.or_eq_true, Bool.and_eq_true, decide_eq_true_eq, bne_iff_ne, ne_eq]
  split
  · exact ⟨r + 32, by omega, by unfold Okc; omega⟩
  · split
    · exact ⟨r + 80, by omega, by unfold Okc; omega⟩
    · exact ⟨r, rfl, h1, h2⟩
theorem enc32 : Utf8.encode ((32 : Nat) : Int) = ⟨#[32]⟩ := by kernel_rfl
theorem fold_rbs (s : ByteArray) (hp : ∀ c ∈ chars s, unplain c = false) : ∃ R, (∀ r ∈ R, Okc r) ∧ fold s = rbs R := by
  have key : ∀ (l : List Ch), (∀ c ∈ l, unplain c = false ∧ Okc c.2.1) → ∀ (st : ByteArray × Bool) (R : List Nat), (∀ r ∈ R, Okc r) → st.1 = rbs R → ∃ R', (∀ r ∈ R', Okc r) ∧ (l.foldl (foldStep s) st).1 = rbs R' := by
    intro l
    induction l with
    | nil => intro _ st R hR e; exact ⟨R, hR, e⟩
    | cons c l ih =>
      intro h st R hR e
      obtain ⟨hu, hc⟩ := h c (by simp)
      have hb : badB c = false := by
        unfold unplain at hu
        rw [Bool.or_eq_false_iff] at hu
        exact hu.1
      rw [List.foldl_cons]
      obtain ⟨q, hq, hqo⟩ := sml_okc hc
      have hblank : Okc 32 := by unfold Okc; omega
      by_cases h32 : c.2.1 = 32
      · refine ih (fun d hd => h d (by simp [hd])) _ R hR ?_
        unfold foldStep
        rw [if_pos h32]
        exact e
      · cases hw : st.2 with
        | false =>
          refine ih (fun d hd => h d (by simp [hd])) _ (R ++ [q]) (fun r hr => ?_) ?_
          · rcases List.mem_append.1 hr with h | h
            · exact hR r h
            · rw [List.mem_singleton.1 h]; exact hqo
          · unfold foldStep foldCh
            rw [if_neg h32, hw, hb, hq, rbs_app, ← e]
            simp only [Bool.false_eq_true, if_false]
            rw [rbs_cons, rbs_nil]
            simp
        | true =>
          refine ih (fun d hd => h d (by simp [hd])) _ (R ++ [32, q]) (fun r hr => ?_) ?_
          · rcases List.mem_append.1 hr with h | h
            · exact hR r h
            · rcases List.mem_cons.1 h with rfl | h
              · exact hblank
              · rw [List.mem_singleton.1 h]; exact hqo
          · unfold foldStep foldCh
            rw [if_neg h32, hw, hb, hq, rbs_app, ← e]
            simp only [Bool.false_eq_true, if_false, if_true]
            rw [rbs_cons, rbs_cons, rbs_nil, enc32, ByteArray.append_assoc]
            simp
  exact key (chars s) (fun c hc => ⟨hp c hc, cds_okc s c hc⟩) (ByteArray.empty, false) [] (fun r hr => by cases hr) rfl
/-- A norm is told by its code points. -/
theorem nm_cds {x y : ByteArray} (hx : (nrm x).2 = 0) (hy : (nrm y).2 = 0) (h : cds (nm x) = cds (nm y)) : nm x = nm y := by
  obtain ⟨R, hR, e1⟩ := fold_rbs x (nrm_plain hx)
  obtain ⟨Q, hQ, e2⟩ := fold_rbs y (nrm_plain hy)
  rw [(nrm_ok hx).2.1, (nrm_ok hy).2.1, e1, e2, cds_rbs R hR, cds_rbs Q hQ] at h
  rw [(nrm_ok hx).2.1, (nrm_ok hy).2.1, e1, e2, h]
theorem filter_one : ∀ (L : List Nat) (i : Nat), L.Nodup → i ∈ L → (L.filter fun j => j == i) = [i]
  | [], i, _, h => by cases h
  | a :: L, i, hn, h => by
    rw [List.nodup_cons] at hn
    rcases List.mem_cons.1 h with rfl | h
    · rw [List.filter_cons_of_pos (by simp)]
      congr 1
      rw [List.filter_eq_nil_iff]
      intro b hb e
      have : b = i := by simpa using e
      exact hn.1 (this ▸ hb)
    · have : a ≠ i := fun e => hn.1 (e ▸ h)
      rw [List.filter_cons_of_neg (by simpa using this)]
      exact filter_one L i hn.2 h
theorem srt_mem {l : List ByteArray} {i : Nat} (h : i < l.length) : i ∈ srt l := (srt_perm l).mem_iff.2 (List.mem_range.2 h)
theorem srt_nodup (l : List ByteArray) : (srt l).Nodup := (srt_perm l).nodup_iff.2 List.nodup_range
theorem near_self {l : List ByteArray} (hG : GoodTo l l.length) {i : Nat} (hi : i < l.length) : nearN l l[i] = [i] := by
  have hok := (hG.ok hi hi).1
  have hd : ∀ j, j < l.length → (dN l (nm l[i]) j = 0 ↔ j = i) := by
    intro j hj
    unfold dN apartN
    rw [getD_get hj, lev_eq]
    constructor
    · intro h
      have h2 : cds (nm l[j]) = cds (nm l[i]) := by
        have h3 := congrArg (List.map Int.toNat) (List.reverse_inj.1 h)
        simpa [ints, Function.comp_def] using h3
      exact hG.inj hj hi hj hi (nm_cds (hG.ok hj hj).1 hok h2)
    · rintro rfl; rfl
  have hm : mnN l (nm l[i]) (srt l) = 0 := by
    have := mnN_le (ns := l) (f := nm l[i]) (srt_mem hi)
    rw [(hd i hi).2 rfl] at this
    omega
  unfold nearN
  rw [if_pos hok, near_spec, hm]
  show (srt l).filter (fun j => dN l (nm l[i]) j == 0) = [i]
  rw [← filter_one (srt l) i (srt_nodup l) (srt_mem hi)]
  refine List.filter_congr fun j hj => ?_
  rw [Bool.eq_iff_iff]
  simp only [beq_iff_eq]
  exact hd j (srt_lt hj)
theorem find_self {l : List ByteArray} (hG : GoodTo l l.length) {i : Nat} (hi : i < l.length) : findN l l[i] = some i := by
  have hok := (hG.ok hi hi).1
  unfold findN
  rw [if_pos hok, List.find?_eq_some_iff_getElem]
  refine ⟨by rw [getD_get hi]; simp, i, by simpa using hi, by simp, fun j hj => ?_⟩
  have hjl : j < l.length := by omega
  simp only [List.getElem_range]
  rw [getD_get hjl]
  have hne : ¬ nm l[j] = nm l[i] := fun e => by
    have := hG.inj hjl hi hjl hi e
    omega
  rw [Bool.not_eq_true', Bool.eq_false_iff]
  intro e
  exact hne (bytes_eq.1 e)
theorem find_blank {l : List ByteArray} (hG : GoodTo l l.length) {i : Nat} (hi : i < l.length) (hs : l[i].size + 2 ≤ 64) : findN l (spB ++ l[i] ++ spB) = some i := by
  have e := nrm_blank (hG.ok hi hi).1 hs
  rw [← find_self hG hi]
  unfold findN nm
  rw [e]
theorem prefix_self {l : List ByteArray} (hG : GoodTo l l.length) {i : Nat} (hi : i < l.length) : i ∈ prefixN l l[i] := by
  have hok := (hG.ok hi hi).1
  have hp : plainB l[i] = true := by
    unfold plainB
    rw [Option.isNone_iff_eq_none, List.find?_eq_none]
    intro c hc
    rw [nrm_plain hok c hc]
    decide
  unfold prefixN fltP
  rw [if_pos hp, List.mem_filter]
  refine ⟨srt_mem hi, ?_⟩
  rw [getD_get hi, (nrm_ok hok).2.1]
  unfold beginsB Lib.hasPrefix
  exact List.isPrefixOf_iff_prefix.2 (List.prefix_refl _)
end Go.Proofs.YtaikecdafcmdaaaDoor
