/- Layer 11: the program's block, lower and Lower, where nothing is wrong. -/
import Derived.Test.YtdagombmgcnofaaGreatDoorIo
import Derived.Test.YtdagombmgcnofaaGreatDoorIi
namespace Go.Proofs.YtdagombmgcnofaaGreatDoor.Ir
open Go.RowKit Go.Maps Go.Proofs.YtdagombmgcnofaaGreatDoor
set_option linter.unusedVariables false
set_option linter.unusedSimpArgs false
def blockL (sheet : List S6.Sty) (dir : List Nd) (s : Ls) (x : Bk) : Option Ls :=
  if x.k = 1 then paraL sheet dir s x
  else if x.k = 2 then some (putL s (op0 10 x.n))
  else if x.k = 3 then some (putL s (op0 11 0))
  else if x.k = 4 then some (putL s ⟨12, 0, ByteArray.empty, x.w⟩)
  else if x.k = 5 then some (putL s (op0 13 0))
  else if x.k = 6 then some (putL s (op0 14 0))
  else none
def blocksL (sheet : List S6.Sty) (dir : List Nd) : Ls → List Bk → Option Ls
  | s, [] => some s
  | s, x :: l => (blockL sheet dir s x).bind fun s' => blocksL sheet dir s' l
def wB (x : Bk) : Nat := 4 + wP x.ps + x.w.length
def wT : List Bk → Nat
  | [] => 0
  | x :: l => wB x + wT l
theorem wT_drop {l : List Bk} {k : Nat} (h : k < l.length) : wT (l.drop k) = wB l[k] + wT (l.drop (k + 1)) := by
  rw [List.drop_eq_getElem_cons h]
  rfl
theorem piecesL_sz {sheet : List S6.Sty} {dir : List Nd} : ∀ {l : List Pc} {s s' : Ls}, piecesL sheet dir s l = some s' → szL s' ≤ szL s + wP l
  | [], s, s', h => by obtain rfl := Option.some.inj h; exact Nat.le_add_right _ _
  | p :: l, s, s', h => by
    obtain ⟨s1, h1, h2⟩ := Option.bind_eq_some_iff.1 h
    have := pieceL_sz h1
    have := piecesL_sz h2
    simp only [wP]
    omega
theorem blockL_sz {sheet : List S6.Sty} {dir : List Nd} {s s' : Ls} {x : Bk} (h : blockL sheet dir s x = some s') : szL s' ≤ szL s + wB x := by
  unfold blockL at h
  unfold wB
  split at h
  · obtain ⟨n, _, h⟩ := Option.bind_eq_some_iff.1 h
    obtain ⟨s1, h1, rfl⟩ := Option.map_eq_some_iff.1 h
    have := piecesL_sz h1
    have := putL_sz s (op0 8 n)
    have := putL_sz s1 (op0 9 0)
    omega
  split at h
  · obtain rfl := Option.some.inj h; have := putL_sz s (op0 10 x.n); omega
  split at h
  · obtain rfl := Option.some.inj h; have := putL_sz s (op0 11 0); omega
  split at h
  · obtain rfl := Option.some.inj h; have := putL_sz s ⟨12, 0, ByteArray.empty, x.w⟩; omega
  split at h
  · obtain rfl := Option.some.inj h; have := putL_sz s (op0 13 0); omega
  split at h
  · obtain rfl := Option.some.inj h; have := putL_sz s (op0 14 0); omega
  · cases h
theorem blocksL_step {sheet : List S6.Sty} {dir : List Nd} {s r : Ls} {l : List Bk} {k : Nat} (h : k < l.length) (hr : blocksL sheet dir s (l.drop k) = some r) : ∃ s', blockL sheet dir s l[k] = some s' ∧ blocksL sheet dir s' (l.drop (k + 1)) = some r := by
  rw [List.drop_eq_getElem_cons h] at hr
  exact Option.bind_eq_some_iff.1 hr

set_option maxRecDepth 100000 in
set_option maxHeartbeats 4000000 in
theorem block_1 (w0 : World) (M K : Nat) (sv dv : Value) (sheet : List S6.Sty) (dir : List Nd) (hE : Env w0 sv dv sheet dir) (s s' : Ls) (x : Bk) (wv tv : Value) (W : World) (hb : Below w0.heap.size w0 W) (h : Low w0.heap.size M K sv dv dir s W) (hwv : RdZ Any1 w0 wv x.w) (htv : RdRow 5 InlIs w0 tv x.ps) (hsz : szL s + wB x ≤ 1000000000) (hp : paraL sheet dir s ⟨1, x.n, x.st, x.w, x.ps, x.line⟩ = some s') : Calls Tryz.prog 105 #[.pointer (some ⟨M, 0, none⟩), .agg #[.int .i64 1, .int .i64 x.n, .string x.st, wv, tv, .int .i64 x.line]] W (lowP w0.heap.size M K sv dv dir s' .nilIface W) := by
  obtain ⟨pw, cw, rfl, _, _⟩ := hwv.form
  obtain ⟨pt, ct, rfl, _, _⟩ := htv.form
  obtain ⟨cwl, hcwl⟩ : ∃ q, x.w.length = q := ⟨_, rfl⟩
  obtain ⟨ctl, hctl⟩ : ∃ q, x.ps.length = q := ⟨_, rfl⟩
  have hA0 : ∀ o, Below W.heap.size W (W.alloc o) := fun o => (Below.refl _ _).alloc (Nat.le_refl _) _
  rw [hcwl, hctl]
  have hA := hA0 (.cells #[.int .i64 1, .int .i64 x.n, .string x.st, .slice pw cwl cw, .slice pt ctl ct, .int .i64 x.line] 112)
  have HA := Lib.hid hA
  have HAB := Lib.hid (hA.mono hb.size)
  have hsl : s.ops.length ≤ 1000000000 := by unfold szL at hsz; omega
  have HPT := Lib.hid (para_pro w0 M K sv dv sheet dir hE s s' ⟨1, x.n, x.st, x.w, x.ps, x.line⟩ (.slice pw x.w.length cw) (.slice pt x.ps.length ct) _ (hb.trans (hA.mono hb.size)) (h.below hA) hwv htv (by unfold wB at hsz; dsimp only; omega) hp)
  dsimp only at HPT
  rw [hcwl, hctl] at HPT
  clear hp
  clear hE hb h hwv htv hsz hcwl hctl hA hA0 hsl
  go_enter Tryz.func105, Tryz.ntmps105
  go_wp2_with fail
  refine HPT.out.mono ?_
  rintro e w2 ⟨rfl, hl2, hb2, hk2⟩
  have HL2 := Lib.hid hl2
  have HB2 := Lib.hid (HAB.out.trans hb2)
  have HK2 := Lib.hid (Kp.trans (Kp.below HA.out) hk2)
  clear hl2 hb2 hk2
  go_wp2_with fail
  go_ret
  exact ⟨rfl, HL2.out, HB2.out, HK2.out⟩

set_option maxRecDepth 100000 in
set_option maxHeartbeats 4000000 in
theorem block_2 (w0 : World) (M K : Nat) (sv dv : Value) (sheet : List S6.Sty) (dir : List Nd) (hE : Env w0 sv dv sheet dir) (s s' : Ls) (x : Bk) (wv tv : Value) (W : World) (hb : Below w0.heap.size w0 W) (h : Low w0.heap.size M K sv dv dir s W) (hwv : RdZ Any1 w0 wv x.w) (htv : RdRow 5 InlIs w0 tv x.ps) (hsz : szL s + wB x ≤ 1000000000) : Calls Tryz.prog 105 #[.pointer (some ⟨M, 0, none⟩), .agg #[.int .i64 2, .int .i64 x.n, .string x.st, wv, tv, .int .i64 x.line]] W (lowP w0.heap.size M K sv dv dir (putL s (op0 10 x.n)) .nilIface W) := by
  obtain ⟨pw, cw, rfl, _, _⟩ := hwv.form
  obtain ⟨pt, ct, rfl, _, _⟩ := htv.form
  obtain ⟨cwl, hcwl⟩ : ∃ q, x.w.length = q := ⟨_, rfl⟩
  obtain ⟨ctl, hctl⟩ : ∃ q, x.ps.length = q := ⟨_, rfl⟩
  have hA0 : ∀ o, Below W.heap.size W (W.alloc o) := fun o => (Below.refl _ _).alloc (Nat.le_refl _) _
  rw [hcwl, hctl]
  have hA := hA0 (.cells #[.int .i64 2, .int .i64 x.n, .string x.st, .slice pw cwl cw, .slice pt ctl ct, .int .i64 x.line] 112)
  have HA := Lib.hid hA
  have HAB := Lib.hid (hA.mono hb.size)
  have hsl : s.ops.length ≤ 1000000000 := by unfold szL at hsz; omega
  have HPT := Lib.hid (put_bare w0.heap.size M K sv dv dir s 10 x.n _ (h.below hA) hsl)
  clear hE hb h hwv htv hsz hcwl hctl hA hA0 hsl
  go_enter Tryz.func105, Tryz.ntmps105
  go_wp2_with fail
  refine HPT.out.mono ?_
  rintro e w2 ⟨rfl, hl2, hb2, hk2⟩
  have HL2 := Lib.hid hl2
  have HB2 := Lib.hid (HAB.out.trans hb2)
  have HK2 := Lib.hid (Kp.trans (Kp.below HA.out) hk2)
  clear hl2 hb2 hk2
  go_wp2_with fail
  go_ret
  exact ⟨rfl, HL2.out, HB2.out, HK2.out⟩

set_option maxRecDepth 100000 in
set_option maxHeartbeats 4000000 in
theorem block_3 (w0 : World) (M K : Nat) (sv dv : Value) (sheet : List S6.Sty) (dir : List Nd) (hE : Env w0 sv dv sheet dir) (s s' : Ls) (x : Bk) (wv tv : Value) (W : World) (hb : Below w0.heap.size w0 W) (h : Low w0.heap.size M K sv dv dir s W) (hwv : RdZ Any1 w0 wv x.w) (htv : RdRow 5 InlIs w0 tv x.ps) (hsz : szL s + wB x ≤ 1000000000) : Calls Tryz.prog 105 #[.pointer (some ⟨M, 0, none⟩), .agg #[.int .i64 3, .int .i64 x.n, .string x.st, wv, tv, .int .i64 x.line]] W (lowP w0.heap.size M K sv dv dir (putL s (op0 11 0)) .nilIface W) := by
  obtain ⟨pw, cw, rfl, _, _⟩ := hwv.form
  obtain ⟨pt, ct, rfl, _, _⟩ := htv.form
  obtain ⟨cwl, hcwl⟩ : ∃ q, x.w.length = q := ⟨_, rfl⟩
  obtain ⟨ctl, hctl⟩ : ∃ q, x.ps.length = q := ⟨_, rfl⟩
  have hA0 : ∀ o, Below W.heap.size W (W.alloc o) := fun o => (Below.refl _ _).alloc (Nat.le_refl _) _
  rw [hcwl, hctl]
  have hA := hA0 (.cells #[.int .i64 3, .int .i64 x.n, .string x.st, .slice pw cwl cw, .slice pt ctl ct, .int .i64 x.line] 112)
  have HA := Lib.hid hA
  have HAB := Lib.hid (hA.mono hb.size)
  have hsl : s.ops.length ≤ 1000000000 := by unfold szL at hsz; omega
  have HPT := Lib.hid (put_bare w0.heap.size M K sv dv dir s 11 0 _ (h.below hA) hsl)
  clear hE hb h hwv htv hsz hcwl hctl hA hA0 hsl
  go_enter Tryz.func105, Tryz.ntmps105
  go_wp2_with fail
  refine HPT.out.mono ?_
  rintro e w2 ⟨rfl, hl2, hb2, hk2⟩
  have HL2 := Lib.hid hl2
  have HB2 := Lib.hid (HAB.out.trans hb2)
  have HK2 := Lib.hid (Kp.trans (Kp.below HA.out) hk2)
  clear hl2 hb2 hk2
  go_wp2_with fail
  go_ret
  exact ⟨rfl, HL2.out, HB2.out, HK2.out⟩

set_option maxRecDepth 100000 in
set_option maxHeartbeats 4000000 in
theorem block_5 (w0 : World) (M K : Nat) (sv dv : Value) (sheet : List S6.Sty) (dir : List Nd) (hE : Env w0 sv dv sheet dir) (s s' : Ls) (x : Bk) (wv tv : Value) (W : World) (hb : Below w0.heap.size w0 W) (h : Low w0.heap.size M K sv dv dir s W) (hwv : RdZ Any1 w0 wv x.w) (htv : RdRow 5 InlIs w0 tv x.ps) (hsz : szL s + wB x ≤ 1000000000) : Calls Tryz.prog 105 #[.pointer (some ⟨M, 0, none⟩), .agg #[.int .i64 5, .int .i64 x.n, .string x.st, wv, tv, .int .i64 x.line]] W (lowP w0.heap.size M K sv dv dir (putL s (op0 13 0)) .nilIface W) := by
  obtain ⟨pw, cw, rfl, _, _⟩ := hwv.form
  obtain ⟨pt, ct, rfl, _, _⟩ := htv.form
  obtain ⟨cwl, hcwl⟩ : ∃ q, x.w.length = q := ⟨_, rfl⟩
  obtain ⟨ctl, hctl⟩ : ∃ q, x.ps.length = q := ⟨_, rfl⟩
  have hA0 : ∀ o, Below W.heap.size W (W.alloc o) := fun o => (Below.refl _ _).alloc (Nat.le_refl _) _
  rw [hcwl, hctl]
  have hA := hA0 (.cells #[.int .i64 5, .int .i64 x.n, .string x.st, .slice pw cwl cw, .slice pt ctl ct, .int .i64 x.line] 112)
  have HA := Lib.hid hA
  have HAB := Lib.hid (hA.mono hb.size)
  have hsl : s.ops.length ≤ 1000000000 := by unfold szL at hsz; omega
  have HPT := Lib.hid (put_bare w0.heap.size M K sv dv dir s 13 0 _ (h.below hA) hsl)
  clear hE hb h hwv htv hsz hcwl hctl hA hA0 hsl
  go_enter Tryz.func105, Tryz.ntmps105
  go_wp2_with fail
  refine HPT.out.mono ?_
  rintro e w2 ⟨rfl, hl2, hb2, hk2⟩
  have HL2 := Lib.hid hl2
  have HB2 := Lib.hid (HAB.out.trans hb2)
  have HK2 := Lib.hid (Kp.trans (Kp.below HA.out) hk2)
  clear hl2 hb2 hk2
  go_wp2_with fail
  go_ret
  exact ⟨rfl, HL2.out, HB2.out, HK2.out⟩

set_option maxRecDepth 100000 in
set_option maxHeartbeats 4000000 in
theorem block_6 (w0 : World) (M K : Nat) (sv dv : Value) (sheet : List S6.Sty) (dir : List Nd) (hE : Env w0 sv dv sheet dir) (s s' : Ls) (x : Bk) (wv tv : Value) (W : World) (hb : Below w0.heap.size w0 W) (h : Low w0.heap.size M K sv dv dir s W) (hwv : RdZ Any1 w0 wv x.w) (htv : RdRow 5 InlIs w0 tv x.ps) (hsz : szL s + wB x ≤ 1000000000) : Calls Tryz.prog 105 #[.pointer (some ⟨M, 0, none⟩), .agg #[.int .i64 6, .int .i64 x.n, .string x.st, wv, tv, .int .i64 x.line]] W (lowP w0.heap.size M K sv dv dir (putL s (op0 14 0)) .nilIface W) := by
  obtain ⟨pw, cw, rfl, _, _⟩ := hwv.form
  obtain ⟨pt, ct, rfl, _, _⟩ := htv.form
  obtain ⟨cwl, hcwl⟩ : ∃ q, x.w.length = q := ⟨_, rfl⟩
  obtain ⟨ctl, hctl⟩ : ∃ q, x.ps.length = q := ⟨_, rfl⟩
  have hA0 : ∀ o, Below W.heap.size W (W.alloc o) := fun o => (Below.refl _ _).alloc (Nat.le_refl _) _
  rw [hcwl, hctl]
  have hA := hA0 (.cells #[.int .i64 6, .int .i64 x.n, .string x.st, .slice pw cwl cw, .slice pt ctl ct, .int .i64 x.line] 112)
  have HA := Lib.hid hA
  have HAB := Lib.hid (hA.mono hb.size)
  have hsl : s.ops.length ≤ 1000000000 := by unfold szL at hsz; omega
  have HPT := Lib.hid (put_bare w0.heap.size M K sv dv dir s 14 0 _ (h.below hA) hsl)
  clear hE hb h hwv htv hsz hcwl hctl hA hA0 hsl
  go_enter Tryz.func105, Tryz.ntmps105
  go_wp2_with fail
  refine HPT.out.mono ?_
  rintro e w2 ⟨rfl, hl2, hb2, hk2⟩
  have HL2 := Lib.hid hl2
  have HB2 := Lib.hid (HAB.out.trans hb2)
  have HK2 := Lib.hid (Kp.trans (Kp.below HA.out) hk2)
  clear hl2 hb2 hk2
  go_wp2_with fail
  go_ret
  exact ⟨rfl, HL2.out, HB2.out, HK2.out⟩

set_option maxRecDepth 100000 in
set_option maxHeartbeats 4000000 in
theorem block_4 (w0 : World) (M K : Nat) (sv dv : Value) (sheet : List S6.Sty) (dir : List Nd) (hE : Env w0 sv dv sheet dir) (s s' : Ls) (x : Bk) (wv tv : Value) (W : World) (hb : Below w0.heap.size w0 W) (h : Low w0.heap.size M K sv dv dir s W) (hwv : RdZ Any1 w0 wv x.w) (htv : RdRow 5 InlIs w0 tv x.ps) (hsz : szL s + wB x ≤ 1000000000) : Calls Tryz.prog 105 #[.pointer (some ⟨M, 0, none⟩), .agg #[.int .i64 4, .int .i64 x.n, .string x.st, wv, tv, .int .i64 x.line]] W (lowP w0.heap.size M K sv dv dir (putL s ⟨12, 0, ByteArray.empty, x.w⟩) .nilIface W) := by
  obtain ⟨pw, cw, rfl, _, _⟩ := hwv.form
  obtain ⟨pt, ct, rfl, _, _⟩ := htv.form
  obtain ⟨cwl, hcwl⟩ : ∃ q, x.w.length = q := ⟨_, rfl⟩
  obtain ⟨ctl, hctl⟩ : ∃ q, x.ps.length = q := ⟨_, rfl⟩
  have hA0 : ∀ o, Below W.heap.size W (W.alloc o) := fun o => (Below.refl _ _).alloc (Nat.le_refl _) _
  rw [hcwl, hctl]
  have hA := hA0 (.cells #[.int .i64 4, .int .i64 x.n, .string x.st, .slice pw cwl cw, .slice pt ctl ct, .int .i64 x.line] 112)
  have HA := Lib.hid hA
  have HAB := Lib.hid (hA.mono hb.size)
  have hsl : s.ops.length ≤ 1000000000 := by unfold szL at hsz; omega
  have HCl := Lib.hid (cloneZ_pro x.w (.slice pw x.w.length cw) _ ((hwv.below (hb.trans (hA.mono hb.size)))) (by unfold wB at hsz; omega))
  rw [hcwl] at HCl
  have HH := Lib.hid (h.below hA)
  have HSL := Lib.hid hsl
  have HBA := Lib.hid (hb.trans (hA.mono hb.size))
  have HCW := Lib.hid hcwl
  clear hE hb h hwv htv hsz hcwl hctl hA hA0 hsl
  go_enter Tryz.func105, Tryz.ntmps105
  go_wp2_with fail
  refine HCl.out.mono ?_
  rintro e w2 ⟨v2, rfl, ho, hb2⟩
  have HPT := Lib.hid (put_pro w0.heap.size M K sv dv dir s ⟨12, 0, ByteArray.empty, x.w⟩ v2 w2 (HH.out.below hb2) (own_lower (by dsimp only; rw [HCW.out]; exact ho) HBA.out.size) HSL.out)
  have HB2 := Lib.hid (HAB.out.trans (hb2.mono HBA.out.size))
  have HK2 := Lib.hid (Kp.trans (Kp.below HA.out) (Kp.below (M := M) hb2))
  obtain ⟨p2, c2, rfl⟩ := lenL ho
  unfold oprVal at HPT
  dsimp only at HPT
  clear ho hb2
  go_wp2_with fail
  refine HPT.out.mono ?_
  rintro e w3 ⟨rfl, hl3, hb3, hk3⟩
  have HL3 := Lib.hid hl3
  have HB3 := Lib.hid (HB2.out.trans hb3)
  have HK3 := Lib.hid (HK2.out.trans hk3)
  clear hl3 hb3 hk3
  go_wp2_with fail
  go_ret
  exact ⟨rfl, HL3.out, HB3.out, HK3.out⟩

theorem block_pro (w0 : World) (M K : Nat) (sv dv : Value) (sheet : List S6.Sty) (dir : List Nd) (hE : Env w0 sv dv sheet dir) (s s' : Ls) (x : Bk) (wv tv : Value) (W : World) (hb : Below w0.heap.size w0 W) (h : Low w0.heap.size M K sv dv dir s W) (hwv : RdZ Any1 w0 wv x.w) (htv : RdRow 5 InlIs w0 tv x.ps) (hsz : szL s + wB x ≤ 1000000000) (hp : blockL sheet dir s x = some s') :
    Calls Tryz.prog 105 #[.pointer (some ⟨M, 0, none⟩), .agg #[.int .i64 x.k, .int .i64 x.n, .string x.st, wv, tv, .int .i64 x.line]] W (lowP w0.heap.size M K sv dv dir s' .nilIface W) := by
  obtain ⟨k, n, st, ws, ps, line⟩ := x
  unfold blockL at hp
  dsimp only at hp ⊢
  by_cases h1 : k = 1
  · subst h1
    rw [if_pos rfl] at hp
    exact block_1 w0 M K sv dv sheet dir hE s s' ⟨1, n, st, ws, ps, line⟩ wv tv W hb h hwv htv hsz hp
  rw [if_neg h1] at hp
  by_cases h2 : k = 2
  · subst h2
    rw [if_pos rfl] at hp
    obtain rfl := Option.some.inj hp
    exact block_2 w0 M K sv dv sheet dir hE s s ⟨2, n, st, ws, ps, line⟩ wv tv W hb h hwv htv hsz
  rw [if_neg h2] at hp
  by_cases h3 : k = 3
  · subst h3
    rw [if_pos rfl] at hp
    obtain rfl := Option.some.inj hp
    exact block_3 w0 M K sv dv sheet dir hE s s ⟨3, n, st, ws, ps, line⟩ wv tv W hb h hwv htv hsz
  rw [if_neg h3] at hp
  by_cases h4 : k = 4
  · subst h4
    rw [if_pos rfl] at hp
    obtain rfl := Option.some.inj hp
    exact block_4 w0 M K sv dv sheet dir hE s s ⟨4, n, st, ws, ps, line⟩ wv tv W hb h hwv htv hsz
  rw [if_neg h4] at hp
  by_cases h5 : k = 5
  · subst h5
    rw [if_pos rfl] at hp
    obtain rfl := Option.some.inj hp
    exact block_5 w0 M K sv dv sheet dir hE s s ⟨5, n, st, ws, ps, line⟩ wv tv W hb h hwv htv hsz
  rw [if_neg h5] at hp
  by_cases h6 : k = 6
  · subst h6
    rw [if_pos rfl] at hp
    obtain rfl := Option.some.inj hp
    exact block_6 w0 M K sv dv sheet dir hE s s ⟨6, n, st, ws, ps, line⟩ wv tv W hb h hwv htv hsz
  rw [if_neg h6] at hp
  cases hp
end Go.Proofs.YtdagombmgcnofaaGreatDoor.Ir
