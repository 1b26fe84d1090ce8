/- The law's first look at the chapter's example. -/
import Derived.Test.YtoeknophfcfahaaGreatDoorNy
namespace Go.Proofs.YtoeknophfcfahaaGreatDoor
open Go.RowKit Go.Maps Go.Sort
set_option linter.unusedVariables false

/-- The distance, reckoned row by row. -/
def tls : List Int → List (List Int)
  | [] => [[]]
  | b :: y => (b :: y) :: tls y
def stepR (a : Int) : List Int → List Nat → List Nat
  | [], r => [r.headD 0 + 1]
  | b :: y, r => min (r.tail.headD 0 + dif a b) (min (r.headD 0 + 1) ((stepR a y r.tail).headD 0 + 1)) :: stepR a y r.tail
def lenR : List Int → List Nat
  | [] => [0]
  | b :: y => (y.length + 1) :: lenR y
def levR : List Int → List Int → List Nat
  | [], y => lenR y
  | a :: x, y => stepR a y (levR x y)
theorem tls_head (y : List Int) (f : List Int → Nat) : ((tls y).map f).headD 0 = f y := by cases y <;> rfl
theorem lenR_eq : ∀ y : List Int, lenR y = (tls y).map (lev [])
  | [] => by simp [lenR, tls, lev_nil]
  | b :: y => by simp [lenR, tls, lev_nil, lenR_eq y]
theorem stepR_eq (a : Int) (x : List Int) : ∀ y : List Int, stepR a y ((tls y).map (lev x)) = (tls y).map (lev (a :: x))
  | [] => by simp [stepR, tls, lev_nil']
  | b :: y => by
    have ih := stepR_eq a x y
    have e1 : (List.map (lev x) (tls (b :: y))).tail = (tls y).map (lev x) := rfl
    have e2 : (List.map (lev x) (tls (b :: y))).headD 0 = lev x (b :: y) := rfl
    show min ((List.map (lev x) (tls (b :: y))).tail.headD 0 + dif a b) (min ((List.map (lev x) (tls (b :: y))).headD 0 + 1) ((stepR a y (List.map (lev x) (tls (b :: y))).tail).headD 0 + 1)) :: stepR a y (List.map (lev x) (tls (b :: y))).tail = lev (a :: x) (b :: y) :: (tls y).map (lev (a :: x))
    rw [e1, e2, ih, tls_head, tls_head, lev_cons]
theorem levR_eq : ∀ x y : List Int, levR x y = (tls y).map (lev x)
  | [], y => lenR_eq y
  | a :: x, y => by
    show stepR a y (levR x y) = _
    rw [levR_eq x y, stepR_eq]
theorem lev_run (x y : List Int) : lev x y = (levR x y).headD 0 := by rw [levR_eq, tls_head]
theorem apartN_run (a b : ByteArray) : apartN a b = (levR (ints (cds a)).reverse (ints (cds b)).reverse).headD 0 := by unfold apartN; exact lev_run _ _

theorem snoc_ind {α : Type} {P : List α → Prop} (h0 : P []) (hs : ∀ l x, P l → P (l ++ [x])) (l : List α) : P l := by
  have h : ∀ l : List α, P l.reverse := fun l => by
    induction l with
    | nil => exact h0
    | cons x l ih => rw [List.reverse_cons]; exact hs _ _ ih
  have := h l.reverse
  rwa [List.reverse_reverse] at this
/-- The least distance, and those that are so near. -/
def dN (ns : List ByteArray) (f : ByteArray) (i : Nat) : Nat := apartN (nm (ns.getD i ByteArray.empty)) f
def mnN (ns : List ByteArray) (f : ByteArray) (l : List Nat) : Nat := l.foldl (fun m i => min m (dN ns f i)) 3
theorem mnN_snoc (ns : List ByteArray) (f : ByteArray) (l : List Nat) (i : Nat) : mnN ns f (l ++ [i]) = min (mnN ns f l) (dN ns f i) := by simp [mnN]
theorem mnN_le {ns : List ByteArray} {f : ByteArray} : ∀ {l : List Nat} {i : Nat}, i ∈ l → mnN ns f l ≤ dN ns f i := by
  intro l
  refine snoc_ind (P := fun l => ∀ {i : Nat}, i ∈ l → mnN ns f l ≤ dN ns f i) (fun {i} h => by cases h) (fun l j ih => ?_) l
  · intro i h
    rw [mnN_snoc]
    rcases List.mem_append.1 h with h | h
    · exact Nat.le_trans (Nat.min_le_left _ _) (ih h)
    · rw [List.mem_singleton.1 h]; exact Nat.min_le_right _ _
theorem near_spec (ns : List ByteArray) (f : ByteArray) (l : List Nat) : nearOf ns f l = (mnN ns f l, l.filter fun i => dN ns f i == mnN ns f l) := by
  refine snoc_ind (P := fun l => nearOf ns f l = (mnN ns f l, l.filter fun i => dN ns f i == mnN ns f l)) rfl (fun l i ih => ?_) l
  · rw [nearOf_snoc, ih, mnN_snoc]
    unfold stepN
    show (if dN ns f i < mnN ns f l then (dN ns f i, [i]) else if dN ns f i = mnN ns f l then (mnN ns f l, (l.filter fun i => dN ns f i == mnN ns f l) ++ [i]) else (mnN ns f l, l.filter fun i => dN ns f i == mnN ns f l)) = _
    by_cases h1 : dN ns f i < mnN ns f l
    · rw [if_pos h1, Nat.min_eq_right (Nat.le_of_lt h1), List.filter_append]
      have e : l.filter (fun j => dN ns f j == dN ns f i) = [] := by
        rw [List.filter_eq_nil_iff]
        intro j hj e
        have := mnN_le (ns := ns) (f := f) hj
        simp at e
        omega
      rw [e]
      simp
    · rw [if_neg h1, Nat.min_eq_left (by omega), List.filter_append]
      by_cases h2 : dN ns f i = mnN ns f l
      · rw [if_pos h2]; simp [h2]
      · rw [if_neg h2]; simp [h2]
theorem mnN_perm {ns : List ByteArray} {f : ByteArray} {l l' : List Nat} (h : l.Perm l') : mnN ns f l = mnN ns f l' := by
  unfold mnN
  exact h.foldl_eq' (fun x _ y _ z => by omega) 3

/-- The chapter's second example. -/
def exHome : ByteArray := ⟨#[72, 111, 109, 101]⟩
def exIndex : ByteArray := ⟨#[73, 110, 100, 101, 120]⟩
def exIndices : ByteArray := ⟨#[73, 110, 100, 105, 99, 101, 115]⟩
def exL : List ByteArray := [exHome, exIndex, exIndices]
def exTopic : ByteArray := ⟨#[32, 32, 77, 121, 32, 32, 32, 84, 111, 112, 105, 99, 32]⟩
theorem ex_norm : nrm exTopic = (⟨#[109, 121, 32, 116, 111, 112, 105, 99]⟩, 0) := by kernel_rfl
theorem ex_good : GoodTo exL 3 := fun j hj => by
  rcases j with _ | _ | _ | j
  · kernel_rfl
  · kernel_rfl
  · kernel_rfl
  · omega
theorem ex_find : findN exL ⟨#[73, 78, 68, 69, 88]⟩ = some 1 := by kernel_rfl
theorem ex_prefix : (prefixN exL ⟨#[105, 110, 100]⟩).length = 2 := by
  unfold prefixN
  rw [if_pos (by kernel_rfl)]
  unfold fltP
  rw [((srt_perm exL).filter _).length_eq]
  kernel_rfl
theorem ex_apart : apartN ⟨#[107, 105, 116, 116, 101, 110]⟩ ⟨#[115, 105, 116, 116, 105, 110, 103]⟩ = 3 := by
  rw [apartN_run]
  kernel_rfl
def dR (ns : List ByteArray) (f : ByteArray) (i : Nat) : Nat := (levR (ints (cds (nm (ns.getD i ByteArray.empty)))).reverse (ints (cds f)).reverse).headD 0
theorem dN_run (ns : List ByteArray) (f : ByteArray) : dN ns f = dR ns f := by funext i; exact apartN_run _ _
theorem ex_near : (nearN exL ⟨#[104, 111, 101, 109]⟩).length = 1 := by
  unfold nearN
  rw [if_pos (by kernel_rfl), near_spec]
  show ((srt exL).filter _).length = 1
  rw [((srt_perm exL).filter _).length_eq, mnN_perm (srt_perm exL)]
  unfold mnN
  rw [dN_run]
  kernel_rfl
end Go.Proofs.YtoeknophfcfahaaGreatDoor
