/- Wide and Cut of the document's answer for layer 2. -/
import Derived.Test.YthojhjimgfbcbaaDoorCells
namespace Go.Proofs.YthojhjimgfbcbaaDoor
open Go.RowKit Go.Maps

theorem cells_len (s : ByteArray) : (cells s).length ≤ s.size := by
  have h := celsOf_len (chars s) (chars s).length
  rw [List.take_length] at h
  exact Nat.le_trans h (chars_len s)
theorem sumW_take_bd (s : ByteArray) (k : Nat) : 0 ≤ sumW ((cells s).take k) ∧ sumW ((cells s).take k) ≤ 2 * k := by
  have h := sumW_bd ((cells s).take k) fun y hy => cel_wide (chars s) y (List.mem_of_mem_take hy)
  have : ((cells s).take k).length ≤ k := by simp; omega
  omega
theorem sumW_take {l : List Cel} {k : Nat} {y : Cel} (h : l[k]? = some y) : sumW (l.take (k + 1)) = sumW (l.take k) + y.2.2 := by
  obtain ⟨hk, e⟩ := List.getElem?_eq_some_iff.1 h
  rw [List.take_succ_eq_append_getElem hk, sumW_snoc, e]
/-- How wide a text is. -/
def wide (s : ByteArray) : Int := sumW (cells s)

set_option maxRecDepth 100000 in
set_option maxHeartbeats 1000000 in
theorem wide_ref (s : ByteArray) (w : World) (hs : s.size ≤ 16777216) :
    Calls Tryd.prog 27 #[.string s] w fun e w' => e = .returned (.int .i64 (wide s)) ∧ Below w.heap.size w w' := by
  have HS := Lib.hid hs
  have hl : (cells s).length ≤ 16777216 := Nat.le_trans (cells_len s) hs
  clear hs
  go_enter Tryd.func27, Tryd.ntmps27
  go_wp2_with (go_at_call 25; refine (cells_ref s _ HS.out).mono ?_; rintro e w1 ⟨v, rfl, hown, hbw⟩; have HW := Lib.hid hown; have HB := Lib.hid hbw; clear hown hbw)
  go_loop [3, 5] (fun n i => ∃ k : Nat, i = .int .i64 k ∧ k ≤ (cells s).length ∧ n = .int .i64 (sumW ((cells s).take k))) (fun _ i => (cells s).length - (intOf i).toNat)
  case atStart => exact ⟨0, rfl, Nat.zero_le _, rfl⟩
  case round =>
    obtain ⟨k, rfl, hk, rfl⟩ := hrel
    have hb := sumW_take_bd s k
    by_cases hlt : k < (cells s).length
    · obtain ⟨g, cap, rfl, hg, hgl⟩ := World.ownsRow.form HW.out (by omega)
      obtain ⟨y, hc⟩ : ∃ y, (cells s)[k]? = some y := ⟨_, List.getElem?_eq_getElem hlt⟩
      have g2 := (World.ownsRow.cellAt HW.out (k * 3 + 2) (by omega)).trans (celsV_get s _ k y hc).2.2
      have hw := cel_wide (chars s) y (List.mem_of_getElem? hc)
      have hw1 : 1 ≤ y.2.2 := by omega
      have hw2 : y.2.2 ≤ 2 := by omega
      have HC := Lib.hid (sumW_take hc)
      clear hc hw
      go_wp2_with fail
      go_round
      case rel => exact ⟨k + 1, by go_num, by omega, by rw [HC.out]⟩
      case measure => simp [intOf]; omega
    · obtain rfl : k = (cells s).length := by omega
      rcases HW.out.2 with ⟨rfl, h0⟩ | ⟨g, cap, cur, rfl, _⟩
      · have hz : ((cells s).length : Int) ≤ 0 := by omega
        clear h0
        go_wp2_with fail
        go_ret
        exact ⟨by first | rfl | (rw [List.take_length]; rfl), HB.out⟩
      · go_wp2_with fail
        go_ret
        exact ⟨by first | rfl | (rw [List.take_length]; rfl), HB.out⟩

/-- How many whole cells fit, from the k-th on, n cells being taken. -/
def cutAt (wide : Int) : List Cel → Int → Option Cel
  | [], _ => none
  | y :: l, n => if n + y.2.2 > wide then some y else cutAt wide l (n + y.2.2)
def cut (s : ByteArray) (m : Int) : ByteArray × ByteArray :=
  match cutAt m (cells s) 0 with
  | some y => (s.extract 0 y.1, s.extract y.1 s.size)
  | none => (s, ByteArray.empty)
theorem cutAt_drop {l : List Cel} {k : Nat} {y : Cel} (h : l[k]? = some y) (m n : Int) : cutAt m (l.drop k) n = if n + y.2.2 > m then some y else cutAt m (l.drop (k + 1)) (n + y.2.2) := by
  obtain ⟨hk, e⟩ := List.getElem?_eq_some_iff.1 h
  rw [List.drop_eq_getElem_cons hk, e]
  rfl
theorem cel_place (s : ByteArray) (y : Cel) (h : y ∈ cells s) : y.1 ≤ s.size := by
  have key : ∀ (l : List Ch) (out : List Cel), (∀ c ∈ l, c.1 ≤ s.size) → (∀ y ∈ out, y.1 ≤ s.size) → ∀ y ∈ l.foldl celStep out, y.1 ≤ s.size := by
    intro l
    induction l with
    | nil => intro out _ h; exact h
    | cons c l ih =>
      intro out hc h
      apply ih _ fun c hm => hc c (by simp [hm])
      have hcs := hc c (by simp)
      rcases List.eq_nil_or_concat out with h0 | ⟨i0, y0, h0⟩
      · subst h0
        intro y hy
        rw [celStep_nil] at hy
        simp at hy
        subst hy; exact hcs
      · rw [List.concat_eq_append] at h0
        subst h0
        intro y hy
        by_cases hz : wid c.2.1 = 0
        · rw [celStep_more _ _ _ hz] at hy
          simp only [List.mem_append, List.mem_singleton] at hy
          rcases hy with hy | rfl
          · exact h y (by simp [hy])
          · exact h y0 (by simp)
        · rw [celStep_new _ _ hz] at hy
          simp only [List.mem_append, List.mem_singleton] at hy
          rcases hy with hy | rfl
          · exact h y (by simpa using hy)
          · exact hcs
  exact key (chars s) [] (fun c hc => by have := (chars_at s c hc).1; omega) (by simp) y h
def IsCut (s : ByteArray) (m : Int) (w : World) (e : Ending) (w' : World) : Prop :=
  e = .returned (.tuple #[.string (cut s m).1, .string (cut s m).2]) ∧ Below w.heap.size w w'
theorem isCut_some {s : ByteArray} {m : Int} {w w' : World} {y : Cel} (h : cutAt m (cells s) 0 = some y) (hb : Below w.heap.size w w') :
    IsCut s m w (.returned (.tuple #[.string (s.extract 0 y.1), .string (s.extract y.1 s.size)])) w' := by
  unfold IsCut cut; rw [h]; exact ⟨rfl, hb⟩
theorem isCut_none {s : ByteArray} {m : Int} {w w' : World} (h : cutAt m (cells s) 0 = none) (hb : Below w.heap.size w w') :
    IsCut s m w (.returned (.tuple #[.string s, .string ⟨#[]⟩])) w' := by
  unfold IsCut cut; rw [h]; exact ⟨rfl, hb⟩

set_option maxRecDepth 100000 in
set_option maxHeartbeats 1000000 in
theorem cut_ref (s : ByteArray) (m : Int) (w : World) (hs : s.size ≤ 16777216) :
    Calls Tryd.prog 31 #[.string s, .int .i64 m] w (IsCut s m w) := by
  have HS := Lib.hid hs
  have hl : (cells s).length ≤ 16777216 := Nat.le_trans (cells_len s) hs
  clear hs
  go_enter Tryd.func31, Tryd.ntmps31
  go_wp2_with (go_at_call 25; refine (cells_ref s _ HS.out).mono ?_; rintro e w1 ⟨v, rfl, hown, hbw⟩; have HW := Lib.hid hown; have HB := Lib.hid hbw; clear hown hbw)
  go_loop [7, 8] (fun n i => ∃ k : Nat, i = .int .i64 k ∧ k ≤ (cells s).length ∧ n = .int .i64 (sumW ((cells s).take k)) ∧ cutAt m (cells s) 0 = cutAt m ((cells s).drop k) (sumW ((cells s).take k))) (fun _ i => (cells s).length - (intOf i).toNat)
  case atStart => exact ⟨0, rfl, Nat.zero_le _, rfl, rfl⟩
  case round =>
    obtain ⟨k, rfl, hk, rfl, hcut⟩ := hrel
    have hb := sumW_take_bd s k
    have HK := Lib.hid hcut
    clear hcut
    by_cases hlt : k < (cells s).length
    · obtain ⟨g, cap, rfl, hg, hgl⟩ := World.ownsRow.form HW.out (by omega)
      obtain ⟨y, hc⟩ : ∃ y, (cells s)[k]? = some y := ⟨_, List.getElem?_eq_getElem hlt⟩
      have g1 := (World.ownsRow.cellAt HW.out (k * 3 + 1) (by omega)).trans (celsV_get s _ k y hc).2.1
      have g2 := (World.ownsRow.cellAt HW.out (k * 3 + 2) (by omega)).trans (celsV_get s _ k y hc).2.2
      have hw := cel_wide (chars s) y (List.mem_of_getElem? hc)
      have hp := cel_place s y (List.mem_of_getElem? hc)
      have hw1 : 1 ≤ y.2.2 := by omega
      have hw2 : y.2.2 ≤ 2 := by omega
      have hS := HS.out
      have hp1 : (y.1 : Int) ≤ s.size := by omega
      have hp2 : (s.size : Int) ≤ 16777216 := by omega
      have HC := Lib.hid (sumW_take hc)
      have HD := Lib.hid (HK.out.trans (cutAt_drop hc m _))
      clear hc hw hS
      by_cases hm : sumW ((cells s).take k) + y.2.2 > m
      · have HE := Lib.hid (show cutAt m (cells s) 0 = some y by rw [HD.out, if_pos hm])
        go_wp2_with fail
        go_quiet (fail)
        go_wp2_with fail
        go_ret2
        exact isCut_some HE.out (below_drewN HB.out _)
      · have HE := Lib.hid (show cutAt m (cells s) 0 = cutAt m ((cells s).drop (k + 1)) (sumW ((cells s).take (k + 1))) by rw [HD.out, if_neg hm, HC.out])
        go_wp2_with fail
        go_round
        case rel => exact ⟨k + 1, by go_num, by omega, by rw [HC.out], HE.out⟩
        case measure => simp [intOf]; omega
    · obtain rfl : k = (cells s).length := by omega
      have HE := Lib.hid (show cutAt m (cells s) 0 = none by rw [HK.out, List.drop_length]; rfl)
      rcases HW.out.2 with ⟨rfl, h0⟩ | ⟨g, cap, cur, rfl, _⟩
      · have hz : ((cells s).length : Int) ≤ 0 := by omega
        clear h0
        go_wp2_with fail
        go_ret2
        exact isCut_none HE.out HB.out
      · go_wp2_with fail
        go_ret2
        exact isCut_none HE.out HB.out
end Go.Proofs.YthojhjimgfbcbaaDoor
