/- Numbers by their values. Plain mathematics. -/
import Derived.Test.YthojhjimgfbcbaaDoorTkn
namespace Go.Proofs.YthojhjimgfbcbaaDoor
open Go
set_option linter.unusedVariables false

theorem dl_rng : ∀ (k n : Nat), n ≤ k → ∀ x ∈ dl n, 48 ≤ x ∧ x ≤ 57
  | k, n, hk, x, hx => by
    rw [dl] at hx
    split at hx
    · simp at hx; omega
    · simp only [List.mem_append, List.mem_singleton] at hx
      obtain ⟨k, rfl⟩ : ∃ k', k = k' + 1 := ⟨k - 1, by omega⟩
      rcases hx with hx | hx
      · exact dl_rng k (n / 10) (by omega) x hx
      · omega
  termination_by k => k
theorem dl_ne (n : Nat) : dl n ≠ [] := by rw [dl]; split <;> simp
/-- Digits, with noughts ahead. -/
def nd (z n : Nat) : List Nat := List.replicate z 48 ++ dl n
theorem nd_rng (z n : Nat) : ∀ x ∈ nd z n, 48 ≤ x ∧ x ≤ 57 := by
  intro x hx
  simp only [nd, List.mem_append, List.mem_replicate] at hx
  rcases hx with ⟨_, rfl⟩ | hx
  · omega
  · exact dl_rng n n (Nat.le_refl _) x hx
theorem join_good : ∀ l : List Nat, (∀ x ∈ l, x ≤ 57) → joinT (l.map Tk.good) = b8 l
  | [], _ => rfl
  | x :: l, h => by
    show Lib.encodeRune x ++ joinT (l.map Tk.good) = x.toUInt8 :: b8 l
    rw [enc_digit x (by have := h x (by simp); omega), join_good l fun y hy => h y (by simp [hy])]
    rfl
theorem snd_good : ∀ (l : List Nat) (m : List Tk), (∀ x ∈ l, x ≤ 57) → Snd m → Snd (l.map Tk.good ++ m)
  | [], m, _, h => h
  | x :: l, m, h, hm => ⟨by have := h x (by simp); unfold okR; omega, snd_good l m (fun y hy => h y (by simp [hy])) hm⟩
theorem cts_app : ∀ (a b : List Tk), ctsT b = [] → ctsT (a ++ b) = ctsT a
  | [], b, h => h
  | .good r :: a, b, _ => rfl
  | .bad c :: a, b, h => by simp only [List.cons_append, ctsT]; rw [cts_app a b h]
theorem snd_app : ∀ (a b : List Tk), Snd a → Snd b → ctsT b = [] → Snd (a ++ b)
  | [], b, _, h, _ => h
  | .good r :: a, b, h, hb, hc => ⟨h.1, snd_app a b h.2 hb hc⟩
  | .bad c :: a, b, h, hb, hc => ⟨by rw [show ctsT (a.append b) = ctsT a from cts_app a b hc]; exact h.1, snd_app a b h.2 hb hc⟩
theorem chOf_app : ∀ (a b : List Tk) (p : Nat), ∃ q, chOf p (a ++ b) = chOf p a ++ chOf q b
  | [], b, p => ⟨p, rfl⟩
  | t :: a, b, p => by
    obtain ⟨q, h⟩ := chOf_app a b (p + t.n)
    exact ⟨q, by simp only [List.cons_append, chOf]; rw [h]⟩
theorem map_good (l : List Nat) : (l.map Tk.good).map Tk.rn = l := by
  rw [List.map_map]
  exact List.map_id'' (fun x => rfl) l
theorem run_nd (z n : Nat) (p : Nat) : ((chOf p ((nd z n).map Tk.good)).foldl digStep ByteArray.empty).data.toList = b8 (sd n) := by
  unfold nd
  rw [List.map_append]
  obtain ⟨q, h⟩ := chOf_app ((List.replicate z 48).map Tk.good) ((dl n).map Tk.good) p
  rw [h, run_noughts]
  · exact run_dl n n _ (Nat.le_refl _) (by rw [chOf_runes, map_good])
  · intro c hc
    have h1 : c.2.1 ∈ (chOf p ((List.replicate z 48).map Tk.good)).map (·.2.1) := List.mem_map_of_mem hc
    rw [chOf_runes, map_good] at h1
    exact (List.mem_replicate.1 h1).2
theorem isDig_of (c : Ch) (h : 48 ≤ c.2.1 ∧ c.2.1 ≤ 57) : isDig c = true := by unfold isDig inB; simp; omega
theorem not_dig (c : Ch) (h : c.2.1 < 48 ∨ 57 < c.2.1) : isDig c = false := by unfold isDig inB; simp; omega
/-- The elements of a text with a number in it. -/
theorem elems_number (hd tl dg : ByteArray) (z n : Nat) (hdg : dg.data.toList = b8 (nd z n)) (hH : ∀ c, (chars hd).getLast? = some c → isDig c = false)
    (hT : ∀ b, tl.data.toList.head? = some b → b.toNat < 48 ∨ 57 < b.toNat) :
    ∃ d : ByteArray, d.data.toList = b8 (sd n) ∧ elems (hd ++ dg ++ tl) = elems hd ++ (⟨1, 0, d⟩ :: elems tl) := by
  obtain ⟨LH, h1, h2⟩ := text_pieces hd
  obtain ⟨LT, t1, t2⟩ := text_pieces tl
  have hr : ∀ x ∈ nd z n, x ≤ 57 := fun x hx => (nd_rng z n x hx).2
  have hne : nd z n ≠ [] := by unfold nd; intro h; exact dl_ne n (List.append_eq_nil_iff.1 h).2
  have hs1 := snd_good (nd z n) LT hr t1
  have hc : ctsT ((nd z n).map Tk.good ++ LT) = [] := by
    cases h : nd z n with
    | nil => exact absurd h hne
    | cons x l => rfl
  have hs2 := snd_app LH _ h1 hs1 hc
  have hj : (hd ++ dg ++ tl).data.toList = joinT (LH ++ ((nd z n).map Tk.good ++ LT)) := by
    rw [dataApp, dataApp, joinT_app, joinT_app, join_good _ hr, h2, t2, hdg, List.append_assoc]
  have hch := chars_pieces _ _ hs2 hj
  have hcH := chars_pieces hd LH h1 h2
  have hcT := chars_pieces tl LT t1 t2
  refine ⟨_, run_nd z n 0, ?_⟩
  have hlen : ∀ (l : List Tk) (p : Nat), (chOf p l).length = l.length := fun l p => by have := congrArg List.length (chOf_runes l p); simpa using this
  have hm : (chars (hd ++ dg ++ tl)).map (·.2.1) = (chars hd ++ (chOf 0 ((nd z n).map Tk.good) ++ chars tl)).map (·.2.1) := by
    rw [hch, hcH, hcT]
    simp only [List.map_append, chOf_runes]
  have hl2 := congrArg List.length hm
  simp only [List.length_map] at hl2
  unfold elems
  rw [elemsF_runes _ _ _ hm, elems_three (chars hd) _ (chars tl) hH ?_ ?_ ?_ _ (by omega)]
  · simp only [List.length_append] at hl2
    rw [elemsF_fuel _ ((chars hd).length + 1) (chars hd) (by omega) (by omega), elemsF_fuel _ ((chars tl).length + 1) (chars tl) (by omega) (by omega)]
  · intro c hc
    have h3 : c.2.1 ∈ (chOf 0 ((nd z n).map Tk.good)).map (·.2.1) := List.mem_map_of_mem hc
    rw [chOf_runes, map_good] at h3
    exact isDig_of c (nd_rng z n _ h3)
  · intro h
    have := congrArg List.length h
    rw [hlen] at this
    simp at this
    exact hne this
  · intro c hc
    rw [hcT] at hc
    apply not_dig
    cases LT with
    | nil => simp [chOf] at hc
    | cons t l =>
      simp only [chOf, List.head?_cons, Option.some.injEq] at hc
      subst hc
      show t.rn < 48 ∨ 57 < t.rn
      cases t with
      | bad b => right; show 57 < 65533; omega
      | good r =>
        show r < 48 ∨ 57 < r
        rcases Nat.lt_or_ge r 58 with h3 | h3
        · have h4 : tl.data.toList.head? = some r.toUInt8 := by
            rw [t2]
            show (Lib.encodeRune r ++ joinT l).head? = _
            rw [enc_digit r h3]
            rfl
          have := hT _ h4
          rw [toNat_toU8 _ (by omega)] at this
          exact this
        · right; omega
theorem elCmp_number (d e : ByteArray) (m n : Nat) (hd : d.data.toList = b8 (sd m)) (he : e.data.toList = b8 (sd n)) (h : n < m) : elCmp ⟨1, 0, d⟩ ⟨1, 0, e⟩ = 1 := by
  have s1 : d.size = (sd m).length := by rw [← b8_len (sd m), ← hd, ← Lib.size_eq]
  have s2 : e.size = (sd n).length := by rw [← b8_len (sd n), ← he, ← Lib.size_eq]
  have hb : bytesCmp d e = cmpL byteCmp (b8 (sd m)) (b8 (sd n)) := by unfold bytesCmp; rw [hd, he]
  unfold elCmp
  rcases sd_lt m m n (Nat.le_refl _) h with h1 | ⟨h1, h2⟩
  · rw [if_neg (by simp), if_neg (by simp), if_pos (show d.size ≠ e.size by omega)]
    unfold sgn
    rw [if_neg (show ¬ (d.size : Int) < e.size by omega), if_pos (show (e.size : Int) < d.size by omega)]
  · rw [if_neg (by simp), if_neg (by simp), if_neg (show ¬ d.size ≠ e.size by omega)]
    exact hb.trans h2
/-- The greater number stands behind. -/
theorem compare_number (hd tl dg eg : ByteArray) (z y m n : Nat) (hdg : dg.data.toList = b8 (nd z m)) (heg : eg.data.toList = b8 (nd y n)) (hH : ∀ c, (chars hd).getLast? = some c → isDig c = false)
    (hT : ∀ b, tl.data.toList.head? = some b → b.toNat < 48 ∨ 57 < b.toNat) (h : n < m) : compare (hd ++ dg ++ tl) (hd ++ eg ++ tl) = 1 := by
  obtain ⟨d, d1, d2⟩ := elems_number hd tl dg z m hdg hH hT
  obtain ⟨e, e1, e2⟩ := elems_number hd tl eg y n heg hH hT
  have hc := elCmp_number d e m n d1 e1 h
  have h1 : cmpL elCmp (elems (hd ++ dg ++ tl)) (elems (hd ++ eg ++ tl)) = 1 := by
    rw [d2, e2, cmpL_app _ _ _ _ _ rfl, cmpL_self elCmp_ord, if_neg (by simp)]
    show (if elCmp ⟨1, 0, d⟩ ⟨1, 0, e⟩ = 0 then _ else elCmp ⟨1, 0, d⟩ ⟨1, 0, e⟩) = 1
    rw [hc]
    rfl
  unfold compare
  rw [h1]
  simp
end Go.Proofs.YthojhjimgfbcbaaDoor
