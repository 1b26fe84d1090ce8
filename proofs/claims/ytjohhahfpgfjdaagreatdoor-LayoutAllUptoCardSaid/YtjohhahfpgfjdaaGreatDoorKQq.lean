/- Layer 13: the law LayoutAll. -/
import Derived.Test.YtjohhahfpgfjdaaGreatDoorK35
import Derived.Test.YtjohhahfpgfjdaaGreatDoorKQp
import Derived.Test.YtjohhahfpgfjdaaGreatDoorKQl
import Derived.BigQuiet
namespace Go.Proofs.YtjohhahfpgfjdaaGreatDoor.Tb
open Go.RowKit Go.Maps
open Go.Proofs.YtjohhahfpgfjdaaGreatDoor.Ly (Tabs2 Tabs2.below)
set_option linter.unusedVariables false
set_option linter.unusedSimpArgs false
theorem infoBo : (Tryz.prog.info? 4).map (fun i => (i.zero, i.size, i.bytes)) = some (some (.bool false), 1, 1) := by kernel_rfl
def boosV (l : List Bool) : List Value := l.map .bool
/-- The law's three lists. -/
structure Rws (B : Nat) (w : World) (v1 v2 v3 : Value) (ts : List ByteArray) (ks : List Int) (ds : List Bool) : Prop where
  t : w.ownsRow B 9 1 v1 ts.length (strsV ts)
  k : w.ownsRow B 3 1 v2 ks.length (numsZ ks)
  d : w.ownsRow B 4 1 v3 ds.length (boosV ds)
section
variable {B : Nat} {w w' : World} {v1 v2 v3 v' : Value} {ts : List ByteArray} {ks : List Int} {ds : List Bool}
theorem Rws.below (h : Rws B w v1 v2 v3 ts ks ds) (hb : Below w.heap.size w w') : Rws B w' v1 v2 v3 ts ks ds := ⟨own_below h.t hb, own_below h.k hb, own_below h.d hb⟩
theorem Rws.pushT (h : Rws B w v1 v2 v3 ts ks ds) {x : ByteArray} (hg : w.grownBy w' v1.ownBlock) (ho : w'.ownsRow B 9 1 v' (ts.length + 1) (strsV ts ++ [.string x])) : Rws B w' v' v2 v3 (ts ++ [x]) ks ds := by
  refine ⟨by rw [List.length_append]; simpa [strsV] using ho, own_stays h.k fun c hc => hg.block c (own_base h.k hc).2 fun e => own_ne h.t h.k (by decide) e.symm hc, own_stays h.d fun c hc => hg.block c (own_base h.d hc).2 fun e => own_ne h.t h.d (by decide) e.symm hc⟩
theorem Rws.pushK (h : Rws B w v1 v2 v3 ts ks ds) {x : Int} (hg : w.grownBy w' v2.ownBlock) (ho : w'.ownsRow B 3 1 v' (ks.length + 1) (numsZ ks ++ [.int .i64 x])) : Rws B w' v1 v' v3 ts (ks ++ [x]) ds := by
  refine ⟨own_stays h.t fun c hc => hg.block c (own_base h.t hc).2 fun e => own_ne h.t h.k (by decide) hc e.symm, by rw [List.length_append]; simpa [numsZ] using ho, own_stays h.d fun c hc => hg.block c (own_base h.d hc).2 fun e => own_ne h.k h.d (by decide) e.symm hc⟩
theorem Rws.pushD (h : Rws B w v1 v2 v3 ts ks ds) {x : Bool} (hg : w.grownBy w' v3.ownBlock) (ho : w'.ownsRow B 4 1 v' (ds.length + 1) (boosV ds ++ [.bool x])) : Rws B w' v1 v2 v' ts ks (ds ++ [x]) := by
  refine ⟨own_stays h.t fun c hc => hg.block c (own_base h.t hc).2 fun e => own_ne h.t h.d (by decide) hc e.symm, own_stays h.k fun c hc => hg.block c (own_base h.k hc).2 fun e => own_ne h.k h.d (by decide) hc e.symm, by rw [List.length_append]; simpa [boosV] using ho⟩
theorem Rws.cutD {g cap : Nat} {x : Bool} {m : Nat} (h : Rws B w v1 v2 (.slice (some ⟨g, 0, none⟩) m cap) ts ks (ds ++ [x])) : Rws B w v1 v2 (.slice (some ⟨g, 0, none⟩) ds.length cap) ts ks ds := by
  refine ⟨h.t, h.k, ?_⟩
  obtain ⟨h1, h2⟩ := h.d
  refine ⟨by simp [boosV], .inr ?_⟩
  rcases h2 with ⟨e, _⟩ | ⟨g2, cap2, cur, e, hb, hg, h3, h4, h5, h6⟩
  · cases e
  · cases e
    rw [List.length_append] at h3
    simp only [List.length_singleton] at h3
    refine ⟨g, cap, cur, rfl, hb, hg, by omega, h4, h5, ?_⟩
    have h7 := congrArg (List.take (ds.length * 1)) h6
    rw [List.take_take, List.length_append] at h7
    simp only [List.length_singleton, Nat.mul_one] at h7 ⊢
    rw [show min ds.length (ds.length + 1) = ds.length by omega] at h7
    rw [h7]
    simp [boosV]
end
theorem alT_succ {t : ByteArray} {lk : Int} {j : Nat} (h : j < (cells t).length) : alT t lk ((cells t).take (j + 1)) = alT t lk ((cells t).take j) ++ if notB (cutC t (cells t)[j]) then [(cutC t (cells t)[j], lk)] else [] := by
  rw [List.take_succ_eq_append_getElem h]
  unfold alT
  rw [List.filter_append, List.map_append]
  congr 1
  by_cases hb : notB (cutC t (cells t)[j]) = true
  · rw [if_pos hb]; simp [hb]
  · rw [if_neg hb]; simp [hb]
/-- The law's reckoning up to an operation. -/
def alK (l : List Opr) (k : Nat) : Al := alRun al0 (l.take k)
theorem alK_succ {l : List Opr} {k : Nat} (h : k < l.length) : alK l (k + 1) = alS (alK l k) l[k] := by
  unfold alK
  rw [List.take_succ_eq_append_getElem h]
  unfold alRun
  rw [List.foldl_append, List.foldl_cons, List.foldl_nil]
theorem alK_all {l : List Opr} {k : Nat} (h : l.length ≤ k) : alK l k = alRun al0 l := by unfold alK; rw [List.take_of_length_le h]
theorem alK_len (l : List Opr) (k : Nat) : (alK l k).want.length ≤ Ir.sumT l ∧ (alK l k).many ≤ k ∧ (alK l k).deep.length ≤ k := by
  have h1 := al_len (l.take k) al0
  have h2 := Ir.sumT_le l k
  simp only [al0, List.length_nil, List.length_take] at h1
  unfold alK
  simp only [al0]
  omega
def PopsOk (l : List Opr) : Prop := ∀ (j : Nat) (hj : j < l.length), l[j].k = 5 → 0 < deepN l j
/-- A sign among the signs. -/
theorem sk_at {ls : List (List Gl)} {W : List (ByteArray × Int)} (h : sk ls.flatten = W) {r j : Nat} (hr : r < ls.length) (hj : j < ls[r].length) (hs : sgn ls[r][j] = true) :
    W[(sk (ls.take r).flatten).length + (sk (ls[r].take j)).length]? = some (ls[r][j].t, ls[r][j].lk) := by
  have e1 : ls = ls.take r ++ ls[r] :: ls.drop (r + 1) := by rw [List.getElem_cons_drop, List.take_append_drop]
  have e2 : ls[r] = ls[r].take j ++ ls[r][j] :: ls[r].drop (j + 1) := by rw [List.getElem_cons_drop, List.take_append_drop]
  have e3 : sk ls.flatten = sk (ls.take r).flatten ++ (sk (ls[r].take j) ++ ((ls[r][j].t, ls[r][j].lk) :: (sk (ls[r].drop (j + 1)) ++ sk (ls.drop (r + 1)).flatten))) := by
    conv => lhs; rw [e1]
    rw [List.flatten_append, List.flatten_cons, sk_app, sk_app]
    congr 1
    conv => lhs; rw [e2]
    rw [sk_app, List.append_assoc]
    congr 1
    show sk ([ls[r][j]] ++ ls[r].drop (j + 1)) ++ _ = _
    rw [sk_app]
    have : sk [ls[r][j]] = [(ls[r][j].t, ls[r][j].lk)] := by unfold sk; rw [List.filter_cons_of_pos hs]; rfl
    rw [this]
    rfl
  rw [← h, e3, List.getElem?_append_right (by omega), List.getElem?_append_right (by omega)]
  rw [show (sk (ls.take r).flatten).length + (sk (ls[r].take j)).length - (sk (ls.take r).flatten).length - (sk (ls[r].take j)).length = 0 by omega]
  rfl
theorem sk_take {l : List Gl} {j : Nat} (h : j < l.length) : (sk (l.take (j + 1))).length = (sk (l.take j)).length + if sgn l[j] then 1 else 0 := by
  rw [List.take_succ_eq_append_getElem h, sk_app, List.length_append]
  congr 1
  unfold sk
  by_cases hs : sgn l[j] = true
  · rw [if_pos hs, List.filter_cons_of_pos hs]; rfl
  · rw [if_neg hs, List.filter_cons_of_neg hs]; rfl
theorem sks_take {ls : List (List Gl)} {r : Nat} (h : r < ls.length) : (sk (ls.take (r + 1)).flatten).length = (sk (ls.take r).flatten).length + (sk ls[r]).length := by
  rw [List.take_succ_eq_append_getElem h, List.flatten_append, sk_app, List.length_append]
  simp
end Go.Proofs.YtjohhahfpgfjdaaGreatDoor.Tb
