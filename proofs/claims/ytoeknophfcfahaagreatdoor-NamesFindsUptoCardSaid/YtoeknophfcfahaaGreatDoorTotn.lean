/- The order of an index is total: plain mathematics. -/
import Derived.Test.YtoeknophfcfahaaGreatDoorCompn
namespace Go.Proofs.YtoeknophfcfahaaGreatDoor
open Go

/-- A way of comparing that is an order. -/
structure Ord3 {α : Type} (f : α → α → Int) : Prop where
  rng : ∀ x y, f x y = -1 ∨ f x y = 0 ∨ f x y = 1
  anti : ∀ x y, f y x = - f x y
  trans : ∀ x y z, f x y ≤ 0 → f y z ≤ 0 → f x z ≤ 0
theorem Ord3.self {α : Type} {f : α → α → Int} (h : Ord3 f) (x : α) : f x x = 0 := by have := h.anti x x; omega
theorem Ord3.congr {α : Type} {f : α → α → Int} (h : Ord3 f) {x y : α} (e : f x y = 0) (z : α) : f x z = f y z := by
  have a1 := h.anti x y
  have t1 := h.trans x y z
  have t2 := h.trans y x z
  have t3 := h.trans z y x
  have t4 := h.trans z x y
  have a2 := h.anti x z
  have a3 := h.anti y z
  have r1 := h.rng x z
  have r2 := h.rng y z
  omega
theorem Ord3.congr_r {α : Type} {f : α → α → Int} (h : Ord3 f) {x y : α} (e : f x y = 0) (z : α) : f z x = f z y := by
  have a1 := h.anti x z
  have a2 := h.anti y z
  have := h.congr e z
  omega
theorem sgn_ord : Ord3 sgn := by
  refine ⟨fun x y => ?_, fun x y => ?_, fun x y z => ?_⟩ <;> unfold sgn <;> repeat' split
  all_goals omega
theorem Ord3.on {α β : Type} {f : β → β → Int} (h : Ord3 f) (g : α → β) : Ord3 fun x y => f (g x) (g y) :=
  ⟨fun _ _ => h.rng _ _, fun _ _ => h.anti _ _, fun _ _ _ => h.trans _ _ _⟩
/-- One way of comparing, and where it says nothing another. -/
def andThen {α : Type} (f g : α → α → Int) (x y : α) : Int := if f x y ≠ 0 then f x y else g x y
theorem andThen_ord {α : Type} {f g : α → α → Int} (hf : Ord3 f) (rng : ∀ x y, f x y = 0 → g x y = -1 ∨ g x y = 0 ∨ g x y = 1) (anti : ∀ x y, f x y = 0 → g y x = - g x y)
    (trans : ∀ x y z, f x y = 0 → f y z = 0 → g x y ≤ 0 → g y z ≤ 0 → g x z ≤ 0) : Ord3 (andThen f g) := by
  refine ⟨fun x y => ?_, fun x y => ?_, fun x y z h1 h2 => ?_⟩
  · unfold andThen
    split
    · exact hf.rng x y
    · exact rng x y (by omega)
  · unfold andThen
    have := hf.anti x y
    by_cases h : f x y = 0
    · rw [if_neg (by omega), if_neg (by omega)]; exact anti x y h
    · rw [if_pos (by omega), if_pos (by omega)]; exact this
  · unfold andThen at *
    by_cases e1 : f x y = 0
    · rw [if_neg (by omega)] at h1
      rw [hf.congr e1 z]
      by_cases e2 : f y z = 0
      · rw [if_neg (by omega)] at h2 ⊢
        exact trans x y z e1 e2 h1 h2
      · rw [if_pos (by omega)] at h2 ⊢
        exact h2
    · rw [if_pos (by omega)] at h1
      by_cases e2 : f y z = 0
      · rw [← hf.congr_r e2 x, if_pos (by omega)]; exact h1
      · rw [if_pos (by omega)] at h2
        have h3 := hf.trans x y z h1 h2
        by_cases e3 : f x z = 0
        · exfalso
          have := hf.congr e3 y
          have := hf.anti y z
          have := hf.anti x y
          omega
        · rw [if_pos (by omega)]; exact h3
theorem Ord3.then {α : Type} {f g : α → α → Int} (hf : Ord3 f) (hg : Ord3 g) : Ord3 (andThen f g) :=
  andThen_ord hf (fun x y _ => hg.rng x y) (fun x y _ => hg.anti x y) (fun x y z _ _ => hg.trans x y z)
theorem cmpL_rng {α : Type} {f : α → α → Int} (h : Ord3 f) : ∀ l m : List α, cmpL f l m = -1 ∨ cmpL f l m = 0 ∨ cmpL f l m = 1
  | [], [] => by simp [cmpL]
  | [], _ :: _ => by simp [cmpL]
  | _ :: _, [] => by simp [cmpL]
  | x :: l, y :: m => by
    have := cmpL_rng h l m
    have := h.rng x y
    simp only [cmpL]
    split <;> omega
theorem cmpL_anti {α : Type} {f : α → α → Int} (h : Ord3 f) : ∀ l m : List α, cmpL f m l = - cmpL f l m
  | [], [] => by simp [cmpL]
  | [], _ :: _ => by simp [cmpL]
  | _ :: _, [] => by simp [cmpL]
  | x :: l, y :: m => by
    have := cmpL_anti h l m
    have := h.anti x y
    simp only [cmpL]
    by_cases e : f x y = 0
    · rw [if_pos (by omega), if_pos e]; omega
    · rw [if_neg (by omega), if_neg e]; omega
theorem cmpL_trans {α : Type} {f : α → α → Int} (h : Ord3 f) : ∀ l m n : List α, cmpL f l m ≤ 0 → cmpL f m n ≤ 0 → cmpL f l n ≤ 0
  | [], _, [], _, _ => by simp [cmpL]
  | [], _, _ :: _, _, _ => by simp [cmpL]
  | _ :: _, [], _, h1, _ => by simp [cmpL] at h1
  | _ :: _, _ :: _, [], _, h2 => by simp [cmpL] at h2
  | x :: l, y :: m, z :: n, h1, h2 => by
    have ih := cmpL_trans h l m n
    simp only [cmpL] at *
    by_cases e1 : f x y = 0
    · rw [if_pos e1] at h1
      rw [h.congr e1 z]
      by_cases e2 : f y z = 0
      · rw [if_pos e2] at h2 ⊢
        exact ih h1 h2
      · rw [if_neg e2] at h2 ⊢
        exact h2
    · rw [if_neg e1] at h1
      by_cases e2 : f y z = 0
      · rw [← h.congr_r e2 x, if_neg e1]; exact h1
      · rw [if_neg e2] at h2
        have h3 := h.trans x y z h1 h2
        by_cases e3 : f x z = 0
        · exfalso
          have := h.congr e3 y
          have := h.anti y z
          have := h.anti x y
          omega
        · rw [if_neg e3]; exact h3
theorem cmpL_ord {α : Type} {f : α → α → Int} (h : Ord3 f) : Ord3 (cmpL f) := ⟨cmpL_rng h, cmpL_anti h, cmpL_trans h⟩
theorem byteCmp_ord : Ord3 byteCmp := sgn_ord.on fun x : UInt8 => (x.toNat : Int)
theorem bytesCmp_ord : Ord3 bytesCmp := (cmpL_ord byteCmp_ord).on fun a : ByteArray => a.data.toList
theorem codeCmp_ord (b : Bool) : Ord3 (codeCmp b) := by
  cases b
  · exact sgn_ord.on fun x : Ch => (x.2.1 : Int)
  · exact sgn_ord.on fun x : Ch => sml x.2.1
theorem sgn_zeroT {a b : Int} (h : sgn a b = 0) : a = b := by unfold sgn at h; split at h <;> (try split at h) <;> omega
theorem elCmp_ord : Ord3 elCmp := by
  have e : elCmp = andThen (fun x y => sgn x.cls y.cls) fun x y => if x.cls ≠ 1 then sgn x.code y.code else andThen (fun x y => sgn x.digs.size y.digs.size) (fun x y => bytesCmp x.digs y.digs) x y := by
    funext x y
    unfold elCmp andThen
    dsimp only
    by_cases h1 : x.cls = y.cls
    · by_cases h2 : y.cls = 1
      · by_cases h3 : x.digs.size = y.digs.size
        · simp [h1, h2, h3, sgn_self]
        · have hs : sgn (x.digs.size : Int) y.digs.size ≠ 0 := sgn_ne (by omega)
          simp [h1, h2, h3, sgn_self, hs]
      · simp [h1, h2, sgn_self]
    · have hs : sgn x.cls y.cls ≠ 0 := sgn_ne h1
      simp [h1, hs]
  rw [e]
  have num : Ord3 (andThen (fun x y : El => sgn x.digs.size y.digs.size) (fun x y => bytesCmp x.digs y.digs)) := (sgn_ord.on fun x : El => (x.digs.size : Int)).then (bytesCmp_ord.on fun x : El => x.digs)
  have code : Ord3 (fun x y : El => sgn x.code y.code) := sgn_ord.on fun x : El => x.code
  refine andThen_ord (sgn_ord.on fun x : El => x.cls) (fun x y _ => ?_) (fun x y h => ?_) (fun x y z h1 h2 a b => ?_)
  · split
    · exact code.rng x y
    · exact num.rng x y
  · have hc := sgn_zeroT h
    by_cases h2 : x.cls = 1
    · rw [if_neg (by omega), if_neg (by omega)]; exact num.anti x y
    · rw [if_pos (by omega), if_pos (by omega)]; exact code.anti x y
  · have hc := sgn_zeroT h1
    have hd := sgn_zeroT h2
    by_cases h3 : x.cls = 1
    · rw [if_neg (by omega)] at a b ⊢; exact num.trans x y z a b
    · rw [if_pos (by omega)] at a b ⊢; exact code.trans x y z a b
theorem compare_ord : Ord3 compare := by
  have e : compare = andThen (fun a b => cmpL elCmp (elems a) (elems b)) (andThen (fun a b => cmpL (codeCmp true) (chars a) (chars b)) (andThen (fun a b => cmpL (codeCmp false) (chars a) (chars b)) bytesCmp)) := rfl
  rw [e]
  exact ((cmpL_ord elCmp_ord).on elems).then (((cmpL_ord (codeCmp_ord true)).on chars).then (((cmpL_ord (codeCmp_ord false)).on chars).then bytesCmp_ord))
theorem same_text {a b : ByteArray} (h : a.toList = b.toList) : a = b := by
  rw [ByteArray.toList_eq, ByteArray.toList_eq] at h
  cases a; cases b
  simpa using h
theorem cmpL_zero : ∀ l m : List UInt8, cmpL byteCmp l m = 0 → l = m
  | [], [], _ => rfl
  | [], _ :: _, h => by simp [cmpL] at h
  | _ :: _, [], h => by simp [cmpL] at h
  | x :: l, y :: m, h => by
    simp only [cmpL] at h
    by_cases e : byteCmp x y = 0
    · rw [if_pos e] at h
      have h1 := sgn_zeroT e
      rw [cmpL_zero l m h, UInt8.toNat_inj.1 (by omega : x.toNat = y.toNat)]
    · rw [if_neg e] at h; exact absurd h e
theorem compare_zero {a b : ByteArray} (h : compare a b = 0) : a = b := by
  unfold compare at h
  split at h
  · exact absurd h (by assumption)
  · split at h
    · exact absurd h (by assumption)
    · split at h
      · exact absurd h (by assumption)
      · have h1 := cmpL_zero _ _ h
        cases a; cases b
        simpa using h1
end Go.Proofs.YtoeknophfcfahaaGreatDoor
