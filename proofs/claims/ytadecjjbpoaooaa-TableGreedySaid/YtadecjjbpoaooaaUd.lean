/- Layer 12: the first glyph of a kind, words, sums of widths; of the program. -/
import Derived.Test.YtadecjjbpoaooaaUc
namespace Go.Proofs.Ytadecjjbpoaooaa.Tb
open Go.RowKit Go.Maps
set_option linter.unusedVariables false
set_option linter.unusedSimpArgs false
/-- The place of the first glyph that p holds of, or -1. -/
def IdxIs (p : Gl → Bool) (l : List Gl) (i : Int) : Prop := (i = -1 ∧ ∀ g ∈ l, p g = false) ∨ ∃ (k : Nat) (h : k < l.length), i = k ∧ p l[k] = true ∧ ∀ j (hj : j < k), p (l[j]'(by omega)) = false
def IdxPost (p : Gl → Bool) (l : List Gl) (w : World) (e : Ending) (w' : World) : Prop := ∃ i, e = .returned (.int .i64 i) ∧ IdxIs p l i ∧ Below w.heap.size w w'
theorem glV_load {W : World} {b o : Nat} {g : Gl} (h : GlIs W b o g) : W.cell? ⟨b, o, none⟩ = some (.string g.t) ∧ W.cell? ⟨b, o + 1, none⟩ = some (.int .i64 g.wd) ∧ W.cell? ⟨b, o + 2, none⟩ = some (.int .i64 g.at_) ∧ W.cell? ⟨b, o + 3, none⟩ = some (.int .i64 g.co) ∧ W.cell? ⟨b, o + 4, none⟩ = some (.int .i64 g.lk) := h
theorem sliceG {P : Nat → Prop} {w : World} {v : Value} {l : List Gl} (h : RdG P w v l) : ∃ (pa : Option Addr) (cap : Nat), v = .slice pa l.length cap ∧ l.length ≤ cap ∧ cap ≤ 9223372036854775807 := by
  obtain ⟨pa, cap, e, h1, h2⟩ := h.form
  exact ⟨pa, cap, e, h1, by unfold maxLen at h2; omega⟩
/-- A function that is called as a value. -/
def Enters (f : FuncId) : Prop := ∀ (args : Array Value) (w : World), (callFunc f args).run Try.prog w = .ok (.enter f args) w
theorem enters {f : FuncId} {fn : Func} (hf : Try.prog.funcs[f]? = some fn) (hname : (fn.name == "runtime.NumGoroutine") = false) (hb : fn.body.isSome = true) : Enters f := fun args w => by
  obtain ⟨c, hb⟩ := Option.isSome_iff_exists.1 hb
  have h1 : fn.name ≠ "runtime.NumGoroutine" := by simpa using hname
  simp [callFunc, hf, h1, hb]
theorem enters_noSign : Enters 39 := enters Try.func39 (by kernel_rfl) (by kernel_rfl)
theorem enters_mayNot : Enters 30 := enters Try.func30 (by kernel_rfl) (by kernel_rfl)
set_option maxRecDepth 100000 in
set_option maxHeartbeats 1000000 in
theorem index_pro {P : Nat → Prop} (p : Gl → Bool) (f : FuncId) (he : Enters f) (hp : ∀ g w, Calls Try.prog f #[glV g] w (SaysL (.bool (p g)) w)) (l : List Gl) (v : Value) (w : World) (h : RdG P w v l) : Calls Try.prog 38 #[v, .func (.func f) #[] #[]] w (IdxPost p l w) := by
  obtain ⟨pa, cap, rfl, h1, h2⟩ := sliceG h
  have HH := Lib.hid h
  have HP := Lib.hid hp
  obtain ⟨n, hn⟩ : ∃ n, l.length = n := ⟨_, rfl⟩
  have HN := Lib.hid hn
  rw [hn] at HH h1 ⊢
  have hn62 : n ≤ 9223372036854775807 := by omega
  clear h hp hn h1
  go_enter Try.func38, Try.ntmps38
  go_wp2_with fail
  go_loopw [8] (fun i wr => ∃ k : Nat, i = .int .i64 k ∧ k ≤ n ∧ Hid (∀ j (hj : j < l.length), j < k → p l[j] = false) ∧ Hid (Below w.heap.size w wr)) (fun i _ => n - (intOf i).toNat)
  case atStart => exact ⟨0, rfl, Nat.zero_le _, Lib.hid (fun j _ h => absurd h (Nat.not_lt_zero _)), Lib.hid (Below.refl _ _)⟩
  case round =>
    obtain ⟨k, rfl, hk, HK, HB⟩ := hrel
    by_cases hlt : k < n
    · have hkl : k < l.length := by rw [HN.out]; exact hlt
      obtain ⟨b, off, rfl, _, hc⟩ := (HH.out.below HB.out).at_ hkl
      obtain ⟨x, hx⟩ : ∃ x, l[k] = x := ⟨_, rfl⟩
      rw [hx] at hc
      have HX := Lib.hid hx
      obtain ⟨c0, c1, c2, c3, c4⟩ := hc
      have HC := Lib.hid (HP.out x wr)
      obtain ⟨z, hz⟩ : ∃ z, p x = z := ⟨_, rfl⟩
      rw [hz] at HC
      have HZ := Lib.hid hz
      unfold glV at HC
      have hE := he #[.agg #[.string x.t, .int .i64 x.wd, .int .i64 x.at_, .int .i64 x.co, .int .i64 x.lk]] wr
      have k1 : (k : Int) < n := by omega
      have HLT := Lib.hid hlt
      clear hx hz hlt
      cases z with
      | true =>
        go_wp2_with fail
        refine HC.out.mono ?_
        rintro e w1 ⟨rfl, hb⟩
        have HB1 := Lib.hid (HB.out.trans (hb.mono HB.out.size))
        clear hb
        go_wp2_with fail
        go_ret
        exact ⟨_, rfl, .inr ⟨k, hkl, rfl, by rw [HX.out]; exact HZ.out, fun j hj => HK.out j (by omega) hj⟩, HB1.out⟩
      | false =>
        go_wp2_with fail
        refine HC.out.mono ?_
        rintro e w1 ⟨rfl, hb⟩
        have HB1 := Lib.hid (HB.out.trans (hb.mono HB.out.size))
        clear hb
        go_wp2_with fail
        go_roundw
        case measure => have := HLT.out; simp [intOf]; omega
        case rel =>
          refine ⟨k + 1, by go_num, HLT.out, Lib.hid (fun j hj hjk => ?_), HB1⟩
          rcases Nat.lt_or_ge j k with h | h
          · exact HK.out j hj h
          · obtain rfl : j = k := by omega
            rw [HX.out]; exact HZ.out
    · obtain rfl : k = n := by omega
      have hz1 : ¬ (k : Int) < k := by omega
      clear hlt
      go_wp2_with fail
      go_ret
      refine ⟨_, rfl, .inl ⟨rfl, fun g hg => ?_⟩, HB.out⟩
      obtain ⟨j, hj, rfl⟩ := List.mem_iff_getElem.1 hg
      exact HK.out j hj (by rw [← HN.out]; exact hj)
set_option maxRecDepth 100000 in
theorem contains_pro {P : Nat → Prop} (p : Gl → Bool) (f : FuncId) (he : Enters f) (hp : ∀ g w, Calls Try.prog f #[glV g] w (SaysL (.bool (p g)) w)) (l : List Gl) (v : Value) (w : World) (h : RdG P w v l) : Calls Try.prog 29 #[v, .func (.func f) #[] #[]] w (SaysL (.bool (l.any p)) w) := by
  obtain ⟨pa, cap, rfl, h1, h2⟩ := sliceG h
  have HI := Lib.hid (index_pro p f he hp l _ w h)
  clear h hp he h1 h2
  go_enter Try.func29, Try.ntmps29
  go_wp2_with fail
  refine HI.out.mono ?_
  rintro e w1 ⟨i, rfl, hi, hb⟩
  have HB := Lib.hid hb
  clear hb
  rcases hi with ⟨rfl, hall⟩ | ⟨k, hk, rfl, hpk, hq⟩
  · have e : l.any p = false := by rw [List.any_eq_false]; intro g hg; simp [hall g hg]
    have HE := Lib.hid e
    clear e hall
    go_wp2_with fail
    go_ret
    exact ⟨by rw [HE.out]; rfl, HB.out⟩
  · have e : l.any p = true := List.any_eq_true.2 ⟨_, List.getElem_mem hk, hpk⟩
    have HE := Lib.hid e
    have k0 : (0 : Int) ≤ k := by omega
    clear e hq hpk hk
    go_wp2_with fail
    go_ret
    exact ⟨by rw [HE.out]; rfl, HB.out⟩
theorem takeWhile_whole {p : Gl → Bool} : ∀ m : List Gl, (∀ g ∈ m, p g = true) → m.takeWhile p = m
  | [], _ => rfl
  | g :: m, h => by rw [List.takeWhile_cons, h g (by simp), takeWhile_whole m fun x hx => h x (List.mem_cons_of_mem _ hx)]; rfl
theorem firstW_idx {l : List Gl} {i : Int} (h : IdxIs noS l i) : (i = -1 ∧ firstW l = l) ∨ ∃ k : Nat, i = k ∧ k ≤ l.length ∧ (firstW l).length = k := by
  have hall : ∀ m : List Gl, (∀ g ∈ m, noS g = false) → firstW m = m := fun m h => takeWhile_whole m fun g hg => by simp [sgn, h g hg]
  rcases h with ⟨rfl, h⟩ | ⟨k, hk, rfl, h1, h2⟩
  · exact .inl ⟨rfl, hall l h⟩
  · refine .inr ⟨k, rfl, by omega, ?_⟩
    have e : l = l.take k ++ l[k] :: l.drop (k + 1) := by rw [List.getElem_cons_drop, List.take_append_drop]
    have hm : ∀ g ∈ l.take k, sgn g = true := fun g hg => by
      obtain ⟨j, hj, rfl⟩ := List.mem_iff_getElem.1 hg
      rw [List.length_take] at hj
      rw [List.getElem_take]
      simp [sgn, h2 j (by omega)]
    have h3 : firstW (l.take k ++ l[k] :: l.drop (k + 1)) = l.take k := by
      unfold firstW
      rw [List.takeWhile_append_of_pos hm, List.takeWhile_cons]
      simp [sgn, h1]
    rw [← e] at h3
    rw [h3, List.length_take]
    omega
/-- The word that a flow begins with. -/
def WordPost (pa : Option Addr) (cap : Nat) (l : List Gl) (w : World) (e : Ending) (w' : World) : Prop := e = .returned (.slice pa (firstW l).length cap) ∧ Below w.heap.size w w'
set_option maxRecDepth 100000 in
theorem beginning_pro {P : Nat → Prop} (l : List Gl) (pa : Option Addr) (cap : Nat) (w : World) (h : RdG P w (.slice pa l.length cap) l) : Calls Try.prog 43 #[.slice pa l.length cap] w (WordPost pa cap l w) := by
  have HI := Lib.hid (index_pro noS 39 enters_noSign noSign_pro l _ w h)
  obtain ⟨pa', cap', e, h1, h2⟩ := h.form
  cases e
  unfold maxLen at h2
  obtain ⟨n, hn⟩ : ∃ n, l.length = n := ⟨_, rfl⟩
  rw [hn] at HI h1 ⊢
  have HN := Lib.hid hn
  clear h hn
  go_enter Try.func43, Try.ntmps43
  go_wp2_with fail
  refine HI.out.mono ?_
  rintro e w1 ⟨i, rfl, hi, hb⟩
  have HB := Lib.hid hb
  clear hb
  rcases firstW_idx hi with ⟨rfl, hf⟩ | ⟨k, rfl, hk, hf⟩
  · have HF := Lib.hid hf
    clear hi hf
    go_wp2_with fail
    go_ret
    exact ⟨by rw [HF.out, HN.out]; rfl, HB.out⟩
  · have HF := Lib.hid hf
    have k0 : ¬ (k : Int) < 0 := by omega
    have k1 : (0 : Int) ≤ k := by omega
    have k2 : k ≤ cap := by rw [HN.out] at hk; omega
    have k3 : (k : Int) ≤ cap := by omega
    clear hi hf hk
    go_wp2_with fail
    go_ret
    exact ⟨by rw [HF.out]; rfl, HB.out⟩
theorem wid_take (l : List Gl) (k : Nat) (h : k < l.length) : wid (l.take (k + 1)) = wid (l.take k) + l[k].wd := by
  rw [List.take_succ_eq_append_getElem h, wid_app, wid_one]
def SmallW (l : List Gl) : Prop := ∀ g ∈ l, 0 ≤ g.wd ∧ g.wd ≤ 200
theorem wid_small : ∀ {l : List Gl}, SmallW l → 0 ≤ wid l ∧ wid l ≤ 200 * l.length
  | [], _ => by simp [wid]
  | g :: l, h => by
    have := wid_small (l := l) fun x hx => h x (List.mem_cons_of_mem _ hx)
    have := h g (by simp)
    simp only [wid, List.length_cons]
    omega
set_option maxRecDepth 100000 in
set_option maxHeartbeats 1000000 in
theorem wide_pro {P : Nat → Prop} (l : List Gl) (v : Value) (w : World) (h : RdG P w v l) (hl : l.length ≤ 140737488355328) (hs : SmallW l) : Calls Try.prog 15 #[v] w (SaysL (.int .i64 (wid l)) w) := by
  obtain ⟨pa, cap, rfl, h1, h2⟩ := sliceG h
  have HH := Lib.hid h
  obtain ⟨n, hn⟩ : ∃ n, l.length = n := ⟨_, rfl⟩
  have HN := Lib.hid hn
  have HS := Lib.hid hs
  rw [hn] at HH h1 ⊢
  have hn62 : n ≤ 140737488355328 := by omega
  clear h hn h1 hs hl
  go_enter Try.func15, Try.ntmps15
  go_wp2_with fail
  go_loopw [3, 8] (fun s i wr => ∃ k : Nat, i = .int .i64 k ∧ k ≤ n ∧ s = .int .i64 (wid (l.take k)) ∧ Hid (Below w.heap.size w wr)) (fun _ i _ => n - (intOf i).toNat)
  case atStart => exact ⟨0, rfl, Nat.zero_le _, rfl, Lib.hid (Below.refl _ _)⟩
  case round =>
    obtain ⟨k, rfl, hk, rfl, HB⟩ := hrel
    by_cases hlt : k < n
    · have hkl : k < l.length := by rw [HN.out]; exact hlt
      obtain ⟨b, off, rfl, _, hc⟩ := (HH.out.below HB.out).at_ hkl
      have hT := Lib.hid (wid_take l k hkl)
      have hsm := wid_small (l := l.take k) fun g hg => HS.out g (List.mem_of_mem_take hg)
      have hkk : (l.take k).length ≤ k := List.length_take_le _ _
      have hx1 := HS.out _ (List.getElem_mem hkl)
      obtain ⟨x, hx⟩ : ∃ x, l[k] = x := ⟨_, rfl⟩
      rw [hx] at hc hT hx1
      obtain ⟨c0, c1, c2, c3, c4⟩ := hc
      obtain ⟨s, hs⟩ : ∃ s, wid (l.take k) = s := ⟨_, rfl⟩
      rw [hs] at hT hsm ⊢
      have s1 : 0 ≤ s := hsm.1
      have s2 : s ≤ 200 * 140737488355328 := by omega
      have x1 := hx1.1
      have x2 := hx1.2
      have k1 : (k : Int) < n := by omega
      have HLT := Lib.hid hlt
      have HB1 := Lib.hid (HB.out.trans ((below_box wr (.cells #[.string x.t, .int .i64 x.wd, .int .i64 x.at_, .int .i64 x.co, .int .i64 x.lk] 40)).mono HB.out.size))
      clear hx hs hlt hsm hx1 hkk
      go_wp2_with fail
      go_roundw
      case measure => have := HLT.out; simp [intOf]; omega
      case rel => exact ⟨k + 1, by go_num, HLT.out, by rw [hT.out], HB1⟩
    · obtain rfl : k = n := by omega
      have hz1 : ¬ (k : Int) < k := by omega
      clear hlt
      go_wp2_with fail
      go_ret
      exact ⟨by rw [show l.take k = l by rw [← HN.out, List.take_length]]; rfl, HB.out⟩
end Go.Proofs.Ytadecjjbpoaooaa.Tb
