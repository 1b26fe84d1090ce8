/- The texts that the laws of layout stand on, part 26. -/
import Derived.Test.YtjohhahfpgfjdaaGreatDoorK5
import Derived.Test.YtjohhahfpgfjdaaGreatDoorK21
import Derived.Test.YtjohhahfpgfjdaaGreatDoorK22
import Derived.Test.YtjohhahfpgfjdaaGreatDoorK25
import Derived.BigRegion
import Derived.Deep.RegionLaw
section
namespace Go.Proofs.YtjohhahfpgfjdaaGreatDoor.Tb
open Go.RowKit Go.Maps
set_option linter.unusedVariables false
set_option linter.unusedSimpArgs false
/-- Styles' changes in memory. -/
def RdH (P : Nat → Prop) (w : World) (v : Value) (cs : List S6.Chg) : Prop :=
  ∃ (pa : Option Addr) (cap : Nat), v = .slice pa cs.length cap ∧ cs.length ≤ cap ∧ cap ≤ maxLen ∧ ∀ j (hj : j < cs.length), ∃ b off, pa = some ⟨b, off, none⟩ ∧ P b ∧ w.cell? ⟨b, off + j * 3, none⟩ = some (.int .i64 cs[j].on) ∧ w.cell? ⟨b, off + j * 3 + 1, none⟩ = some (.int .i64 cs[j].off) ∧ w.cell? ⟨b, off + j * 3 + 2, none⟩ = some (.int .i64 cs[j].col)
section
variable {P Q : Nat → Prop} {w w' : World} {v : Value}
theorem RdH.move {cs : List S6.Chg} (h : RdH P w v cs) (hk : ∀ b, P b → b < w.heap.size → w'.heap[b]? = w.heap[b]? ∧ Q b) : RdH Q w' v cs := by
  obtain ⟨pa, cap, e, h1, h2, h4⟩ := h
  refine ⟨pa, cap, e, h1, h2, fun j hj => ?_⟩
  obtain ⟨b, off, e, hp, c1, c2, c3⟩ := h4 j hj
  have hb := hk b hp (cellInL c1)
  exact ⟨b, off, e, hb.2, (World.cell?_of_block hb.1).trans c1, (World.cell?_of_block hb.1).trans c2, (World.cell?_of_block hb.1).trans c3⟩
theorem RdH.form {cs : List S6.Chg} (h : RdH P w v cs) : ∃ (pa : Option Addr) (cap : Nat), v = .slice pa cs.length cap ∧ cs.length ≤ cap ∧ cap ≤ maxLen := by
  obtain ⟨pa, cap, e, h1, h2, _⟩ := h
  exact ⟨pa, cap, e, h1, h2⟩
theorem RdH.at_ {cs : List S6.Chg} {pa : Option Addr} {n cap : Nat} (h : RdH P w (.slice pa n cap) cs) {j : Nat} (hj : j < cs.length) : ∃ b off, pa = some ⟨b, off, none⟩ ∧ P b ∧ w.cell? ⟨b, off + j * 3, none⟩ = some (.int .i64 cs[j].on) ∧ w.cell? ⟨b, off + j * 3 + 1, none⟩ = some (.int .i64 cs[j].off) ∧ w.cell? ⟨b, off + j * 3 + 2, none⟩ = some (.int .i64 cs[j].col) := by
  obtain ⟨pa', cap', e, _, _, h4⟩ := h
  cases e
  exact h4 j hj
theorem RdC.move {cs : List (Int × Int)} (h : RdC P w v cs) (hk : ∀ b, P b → b < w.heap.size → w'.heap[b]? = w.heap[b]? ∧ Q b) : RdC Q w' v cs := by
  obtain ⟨pa, cap, e, h1, h2, h4⟩ := h
  refine ⟨pa, cap, e, h1, h2, fun j hj => ?_⟩
  obtain ⟨b, off, e, hp, c1, c2⟩ := h4 j hj
  have hb := hk b hp (cellInL c1)
  exact ⟨b, off, e, hb.2, (World.cell?_of_block hb.1).trans c1, (World.cell?_of_block hb.1).trans c2⟩
theorem RdL.move {ls : List (List Gl)} (h : RdL P w v ls) (hk : ∀ b, P b → b < w.heap.size → w'.heap[b]? = w.heap[b]? ∧ Q b) : RdL Q w' v ls := by
  obtain ⟨pa, cap, e, h1, h2, h4⟩ := h
  refine ⟨pa, cap, e, h1, h2, fun j hj => ?_⟩
  obtain ⟨b, off, tv, e, hp, hc, hd⟩ := h4 j hj
  have hb := hk b hp (cellInL hc)
  exact ⟨b, off, tv, e, hb.2, (World.cell?_of_block hb.1).trans hc, hd.move hk⟩
theorem RdC.nilC (w : World) : RdC P w (.slice none 0 0) [] := ⟨none, 0, rfl, Nat.le_refl _, Nat.zero_le _, fun j hj => absurd hj (by simp)⟩
end
/-- Where what was told, the changes, the columns may lie. -/
def TlB (B M : Nat) (vl vk ve vo : Value) (b : Nat) : Prop := B ≤ b ∧ b ≠ M ∧ vl.ownBlock ≠ some b ∧ vk.ownBlock ≠ some b ∧ ve.ownBlock ≠ some b ∧ vo.ownBlock ≠ some b
def nilV : Value := .slice none 0 0
/-- A topic that is being laid out: its block, its lists. vf: what the field of the flow holds; vo: the row of the flow, if it is open. -/
structure LyM (B M : Nat) (K : Nat → Prop) (wd : Int) (ch : List S6.Chg) (y : Ly) (vh vl vk vc ve vf vo : Value) (vs cs : List Value) (c : Array Value) (W : World) : Prop where
  base : B ≤ M
  blk : W.heap[M]? = some (.cells c 93 (0, 0))
  cel : LyC c wd y vh vl vk vc ve vf
  chs : RdH (TlB B M vl vk ve vo) W vh ch
  ls : OwnL B (TlB B M vl vk ve vo) W vl y.ls vs
  lk : W.ownsRow B 39 2 vk y.lk.length (rowsC y.lk)
  co : RdC (TlB B M vl vk ve vo) W vc y.co
  ce : OwnL B (TlB B M vl vk ve vo) W ve y.ce cs
  fl : W.ownsRow B 44 5 vo y.fl.length (rowsG y.fl)
  lc : ∀ b, vl.ownBlock = some b → ve.ownBlock ≠ some b
  apart : ∀ b, K b → b < W.heap.size ∧ b ≠ M ∧ vl.ownBlock ≠ some b ∧ vk.ownBlock ≠ some b ∧ ve.ownBlock ≠ some b ∧ vo.ownBlock ≠ some b
section
variable {B M : Nat} {K K' : Nat → Prop} {wd : Int} {ch : List S6.Chg} {y : Ly} {vh vl vk vc ve vf vo : Value} {vs cs : List Value} {c c' : Array Value} {W W' W3 W4 : World}
theorem LyM.lt (h : LyM B M K wd ch y vh vl vk vc ve vf vo vs cs c W) : M < W.heap.size := (Array.getElem?_eq_some_iff.1 h.blk).1
theorem LyM.nM (h : LyM B M K wd ch y vh vl vk vc ve vf vo vs cs c W) : vl.ownBlock ≠ some M ∧ vk.ownBlock ≠ some M ∧ ve.ownBlock ≠ some M ∧ vo.ownBlock ≠ some M :=
  ⟨own_not h.ls.row h.blk (by decide), own_not h.lk h.blk (by decide), own_not h.ce.row h.blk (by decide), own_not h.fl h.blk (by decide)⟩
theorem LyM.notK (h : LyM B M K wd ch y vh vl vk vc ve vf vo vs cs c W) : ¬ K M := fun hc => (h.apart M hc).2.1 rfl
theorem LyM.cell (h : LyM B M K wd ch y vh vl vk vc ve vf vo vs cs c W) (j : Nat) : W.cell? ⟨M, j, none⟩ = c[j]? := by rw [cell_of_row _ _ _ _ _ _ h.blk]
theorem LyM.free (h : LyM B M K wd ch y vh vl vk vc ve vf vo vs cs c W) (j : Nat) : W.frozen? ⟨M, j, none⟩ = false := frozen_of_row W M j c _ h.blk
theorem LyM.less (h : LyM B M K wd ch y vh vl vk vc ve vf vo vs cs c W) (hk : ∀ b, K' b → K b) : LyM B M K' wd ch y vh vl vk vc ve vf vo vs cs c W :=
  ⟨h.base, h.blk, h.cel, h.chs, h.ls, h.lk, h.co, h.ce, h.fl, h.lc, fun b hb => h.apart b (hk b hb)⟩
/-- Behind a step that leaves all old blocks. -/
theorem LyM.below (h : LyM B M K wd ch y vh vl vk vc ve vf vo vs cs c W) (hb : Below W.heap.size W W') : LyM B M K wd ch y vh vl vk vc ve vf vo vs cs c W' := by
  have mv : ∀ b, TlB B M vl vk ve vo b → b < W.heap.size → W'.heap[b]? = W.heap[b]? ∧ TlB B M vl vk ve vo b := fun b h1 h2 => ⟨hb.block b h2, h1⟩
  exact ⟨h.base, (hb.block M h.lt).trans h.blk, h.cel, h.chs.move mv, h.ls.below hb, own_below h.lk hb, h.co.move mv, h.ce.below hb, own_below h.fl hb, h.lc, fun b hk => ⟨Nat.lt_of_lt_of_le (h.apart b hk).1 hb.size, (h.apart b hk).2⟩⟩
theorem LyM.drew (h : LyM B M K wd ch y vh vl vk vc ve vf vo vs cs c W) : LyM B M K wd ch y vh vl vk vc ve vf vo vs cs c W.drew :=
  h.below ((Below.refl _ W).drew)
/-- New blocks are left alone, too. -/
theorem LyM.grow (h : LyM B M K wd ch y vh vl vk vc ve vf vo vs cs c W) (hb : Below W.heap.size W W') : LyM B M (fun b => K b ∨ (W.heap.size ≤ b ∧ b < W'.heap.size)) wd ch y vh vl vk vc ve vf vo vs cs c W' := by
  have h' := h.below hb
  refine ⟨h'.base, h'.blk, h'.cel, h'.chs, h'.ls, h'.lk, h'.co, h'.ce, h'.fl, h'.lc, fun b hk => ?_⟩
  rcases hk with hk | ⟨h1, h2⟩
  · exact h'.apart b hk
  · have hm := h.lt
    refine ⟨h2, by omega, fun e => ?_, fun e => ?_, fun e => ?_, fun e => ?_⟩
    · have := (own_base h.ls.row e).2; omega
    · have := (own_base h.lk e).2; omega
    · have := (own_base h.ce.row e).2; omega
    · have := (own_base h.fl e).2; omega
/-- Only the block is another. -/
theorem LyM.rebox (h : LyM B M K wd ch y vh vl vk vc ve vf vo vs cs c W) {y' : Ly} (hs : W'.heap.size = W.heap.size) (hM : W'.heap[M]? = some (.cells c' 93 (0, 0))) (hk : ∀ b, b ≠ M → W'.heap[b]? = W.heap[b]?)
    (hc : LyC c' wd y' vh vl vk vc ve vf) (e1 : y'.ls = y.ls) (e2 : y'.lk = y.lk) (e3 : y'.co = y.co) (e4 : y'.ce = y.ce) (e5 : y'.fl = y.fl) : LyM B M K wd ch y' vh vl vk vc ve vf vo vs cs c' W' := by
  have n := h.nM
  have mv : ∀ b, TlB B M vl vk ve vo b → b < W.heap.size → W'.heap[b]? = W.heap[b]? ∧ TlB B M vl vk ve vo b := fun b h1 _ => ⟨hk b h1.2.1, h1⟩
  have kc : ∀ a : Addr, TlB B M vl vk ve vo a.block → a.block < W.heap.size → W'.cell? a = W.cell? a := fun a ha _ => World.cell?_of_block (hk _ ha.2.1)
  refine ⟨h.base, hM, hc, h.chs.move mv, ?_, ?_, ?_, ?_, ?_, h.lc, fun b hb => by rw [hs]; exact h.apart b hb⟩
  · rw [e1]; exact h.ls.keep (fun b e => hk b (fun e' => n.1 (by rw [← e']; exact e))) kc
  · rw [e2]; exact own_stays h.lk fun b e => hk b (fun e' => n.2.1 (by rw [← e']; exact e))
  · rw [e3]; exact h.co.move mv
  · rw [e4]; exact h.ce.keep (fun b e => hk b (fun e' => n.2.2.1 (by rw [← e']; exact e))) kc
  · rw [e5]; exact own_stays h.fl fun b e => hk b (fun e' => n.2.2.2 (by rw [← e']; exact e))
/-- The flow is nil, or nobody's any more. -/
theorem LyM.noFlow (h : LyM B M K wd ch y vh vl vk vc ve vf vo vs cs c W) {vf' : Value} (hc : LyC c wd { y with fl := [] } vh vl vk vc ve vf') : LyM B M K wd ch { y with fl := [] } vh vl vk vc ve vf' nilV vs cs c W := by
  have im : ∀ b, b < W.heap.size → TlB B M vl vk ve vo b → TlB B M vl vk ve nilV b := fun b _ h1 => ⟨h1.1, h1.2.1, h1.2.2.1, h1.2.2.2.1, h1.2.2.2.2.1, by simp [nilV, Value.ownBlock]⟩
  have mv : ∀ b, TlB B M vl vk ve vo b → b < W.heap.size → W.heap[b]? = W.heap[b]? ∧ TlB B M vl vk ve nilV b := fun b h1 h2 => ⟨rfl, im b h2 h1⟩
  exact ⟨h.base, h.blk, hc, h.chs.move mv, h.ls.imp im, h.lk, h.co.move mv, h.ce.imp im, World.ownsRow_nil _ _ _ _, h.lc, fun b hb => have a := h.apart b hb; ⟨a.1, a.2.1, a.2.2.1, a.2.2.2.1, a.2.2.2.2.1, by simp [nilV, Value.ownBlock]⟩⟩
/-- A row of its own has grown, or moved to a new block g'; and the block is another. -/
theorem grown_facts {row : Option Nat} {g' : Nat} (hg : W.grownBy W3 row) (hat : row = some g' ∨ g' = W.heap.size) (hk : ∀ b, b ≠ M → W4.heap[b]? = W3.heap[b]?) :
    (∀ b, b < W.heap.size → b ≠ M → row ≠ some b → W4.heap[b]? = W.heap[b]?) ∧ (∀ b, b < W.heap.size → row ≠ some b → g' ≠ b) := by
  refine ⟨fun b hb h1 h2 => (hk b h1).trans (hg.block b hb (fun e => h2 e.symm)), fun b hb hne e => ?_⟩
  rcases hat with e1 | e1
  · exact hne (by rw [e1, e])
  · omega
theorem LyM.pushFlow (h : LyM B M K wd ch y vh vl vk vc ve vf vo vs cs c W) {g' cap m : Nat} {xs : List Gl} {y' : Ly} (hm : m = y.fl.length + xs.length) (hg : W.grownBy W3 vo.ownBlock)
    (ho : W3.ownsRow B 44 5 (.slice (some ⟨g', 0, none⟩) m cap) m (rowsG y.fl ++ rowsG xs)) (hat : vo.ownBlock = some g' ∨ g' = W.heap.size)
    (hs : W4.heap.size = W3.heap.size) (hM : W4.heap[M]? = some (.cells c' 93 (0, 0))) (hk : ∀ b, b ≠ M → W4.heap[b]? = W3.heap[b]?)
    (hy : y' = { y with fl := y.fl ++ xs }) (hc : LyC c' wd y' vh vl vk vc ve (.slice (some ⟨g', 0, none⟩) m cap)) :
    LyM B M K wd ch y' vh vl vk vc ve (.slice (some ⟨g', 0, none⟩) m cap) (.slice (some ⟨g', 0, none⟩) m cap) vs cs c' W4 ∧ (∀ b, K b → W4.heap[b]? = W.heap[b]?) := by
  have n := h.nM
  obtain ⟨old, ne'⟩ := grown_facts (M := M) hg hat hk
  have og : g' ≠ M := by
    rcases hat with e1 | e1
    · intro e; exact n.2.2.2 (by rw [e1, e])
    · have := h.lt; omega
  have tl : ∀ b, b < W.heap.size → TlB B M vl vk ve vo b → TlB B M vl vk ve (.slice (some ⟨g', 0, none⟩) m cap) b := fun b hb hT => ⟨hT.1, hT.2.1, hT.2.2.1, hT.2.2.2.1, hT.2.2.2.2.1, fun e => ne' b hb hT.2.2.2.2.2 (Option.some.inj e)⟩
  have mv : ∀ b, TlB B M vl vk ve vo b → b < W.heap.size → W4.heap[b]? = W.heap[b]? ∧ TlB B M vl vk ve (.slice (some ⟨g', 0, none⟩) m cap) b := fun b hT hb => ⟨old b hb hT.2.1 hT.2.2.2.2.2, tl b hb hT⟩
  refine ⟨⟨h.base, hM, hc, h.chs.move mv, ?_, ?_, ?_, ?_, ?_, h.lc, fun b hb => ?_⟩, fun b hb => old b (h.apart b hb).1 (h.apart b hb).2.1 (h.apart b hb).2.2.2.2.2⟩
  · rw [hy]; exact ⟨h.ls.num, own_stays h.ls.row fun b e => old b (own_base h.ls.row e).2 (fun e' => n.1 (by rw [← e']; exact e)) (fun e2 => own_ne h.fl h.ls.row (by decide) e2 e), fun j hj => (h.ls.line j hj).move mv⟩
  · rw [hy]; exact own_stays h.lk fun b e => old b (own_base h.lk e).2 (fun e' => n.2.1 (by rw [← e']; exact e)) (fun e2 => own_ne h.fl h.lk (by decide) e2 e)
  · rw [hy]; exact h.co.move mv
  · rw [hy]; exact ⟨h.ce.num, own_stays h.ce.row fun b e => old b (own_base h.ce.row e).2 (fun e' => n.2.2.1 (by rw [← e']; exact e)) (fun e2 => own_ne h.fl h.ce.row (by decide) e2 e), fun j hj => (h.ce.line j hj).move mv⟩
  · rw [hy]
    dsimp only
    rw [rowsG_app]
    have := own_stays (W' := W4) ho fun b e => hk b (by simp [Value.ownBlock] at e; omega)
    rw [hm] at this ⊢
    simpa using this
  · have a := h.apart b hb
    refine ⟨?_, a.2.1, a.2.2.1, a.2.2.2.1, a.2.2.2.2.1, fun e => ne' b a.1 a.2.2.2.2.2 (Option.some.inj e)⟩
    rw [hs]
    exact Nat.lt_of_lt_of_le a.1 hg.size
theorem LyM.pushLink (h : LyM B M K wd ch y vh vl vk vc ve vf vo vs cs c W) {g' cap : Nat} {x : Int × Int} {y' : Ly} (hg : W.grownBy W3 vk.ownBlock)
    (ho : W3.ownsRow B 39 2 (.slice (some ⟨g', 0, none⟩) (y.lk.length + 1) cap) (y.lk.length + 1) (rowsC y.lk ++ colRow x)) (hat : vk.ownBlock = some g' ∨ g' = W.heap.size)
    (hs : W4.heap.size = W3.heap.size) (hM : W4.heap[M]? = some (.cells c' 93 (0, 0))) (hk : ∀ b, b ≠ M → W4.heap[b]? = W3.heap[b]?)
    (e1 : y'.ls = y.ls) (e2 : y'.lk = y.lk ++ [x]) (e3 : y'.co = y.co) (e4 : y'.ce = y.ce) (e5 : y'.fl = y.fl) (hc : LyC c' wd y' vh vl (.slice (some ⟨g', 0, none⟩) (y.lk.length + 1) cap) vc ve vf) :
    LyM B M K wd ch y' vh vl (.slice (some ⟨g', 0, none⟩) (y.lk.length + 1) cap) vc ve vf vo vs cs c' W4 ∧ (∀ b, K b → W4.heap[b]? = W.heap[b]?) := by
  have n := h.nM
  obtain ⟨old, ne'⟩ := grown_facts (M := M) hg hat hk
  have og : g' ≠ M := by
    rcases hat with e1 | e1
    · intro e; exact n.2.1 (by rw [e1, e])
    · have := h.lt; omega
  have tl : ∀ b, b < W.heap.size → TlB B M vl vk ve vo b → TlB B M vl (.slice (some ⟨g', 0, none⟩) (y.lk.length + 1) cap) ve vo b := fun b hb hT => ⟨hT.1, hT.2.1, hT.2.2.1, fun e => ne' b hb hT.2.2.2.1 (Option.some.inj e), hT.2.2.2.2.1, hT.2.2.2.2.2⟩
  have mv : ∀ b, TlB B M vl vk ve vo b → b < W.heap.size → W4.heap[b]? = W.heap[b]? ∧ TlB B M vl (.slice (some ⟨g', 0, none⟩) (y.lk.length + 1) cap) ve vo b := fun b hT hb => ⟨old b hb hT.2.1 hT.2.2.2.1, tl b hb hT⟩
  refine ⟨⟨h.base, hM, hc, h.chs.move mv, ?_, ?_, ?_, ?_, ?_, h.lc, fun b hb => ?_⟩, fun b hb => old b (h.apart b hb).1 (h.apart b hb).2.1 (h.apart b hb).2.2.2.1⟩
  · rw [e1]; exact ⟨h.ls.num, own_stays h.ls.row fun b e => old b (own_base h.ls.row e).2 (fun e' => n.1 (by rw [← e']; exact e)) (fun e2 => own_ne h.lk h.ls.row (by decide) e2 e), fun j hj => (h.ls.line j hj).move mv⟩
  · rw [e2, rowsC_snoc]
    have := own_stays (W' := W4) ho fun b e => hk b (by simp [Value.ownBlock] at e; omega)
    simpa using this
  · rw [e3]; exact h.co.move mv
  · rw [e4]; exact ⟨h.ce.num, own_stays h.ce.row fun b e => old b (own_base h.ce.row e).2 (fun e' => n.2.2.1 (by rw [← e']; exact e)) (fun e2 => own_ne h.lk h.ce.row (by decide) e2 e), fun j hj => (h.ce.line j hj).move mv⟩
  · rw [e5]; exact own_stays h.fl fun b e => old b (own_base h.fl e).2 (fun e' => n.2.2.2 (by rw [← e']; exact e)) (fun e2 => own_ne h.lk h.fl (by decide) e2 e)
  · have a := h.apart b hb
    refine ⟨?_, a.2.1, a.2.2.1, fun e => ne' b a.1 a.2.2.2.1 (Option.some.inj e), a.2.2.2.2.1, a.2.2.2.2.2⟩
    rw [hs]
    exact Nat.lt_of_lt_of_le a.1 hg.size
/-- A line, in blocks that are nobody's, is told. -/
theorem LyM.pushLine (h : LyM B M K wd ch y vh vl vk vc ve vf vo vs cs c W) {g' cap : Nat} {u : Value} {x : List Gl} {y' : Ly} (hu : RdG (TlB B M vl vk ve vo) W u x) (hg : W.grownBy W3 vl.ownBlock)
    (ho : W3.ownsRow B 34 1 (.slice (some ⟨g', 0, none⟩) (y.ls.length + 1) cap) (y.ls.length + 1) (vs ++ [u])) (hat : vl.ownBlock = some g' ∨ g' = W.heap.size)
    (hs : W4.heap.size = W3.heap.size) (hM : W4.heap[M]? = some (.cells c' 93 (0, 0))) (hk : ∀ b, b ≠ M → W4.heap[b]? = W3.heap[b]?)
    (hy : y' = { y with ls := y.ls ++ [x] }) (hc : LyC c' wd y' vh (.slice (some ⟨g', 0, none⟩) (y.ls.length + 1) cap) vk vc ve vf) :
    LyM B M K wd ch y' vh (.slice (some ⟨g', 0, none⟩) (y.ls.length + 1) cap) vk vc ve vf vo (vs ++ [u]) cs c' W4 ∧ (∀ b, K b → W4.heap[b]? = W.heap[b]?) := by
  have n := h.nM
  obtain ⟨old, ne'⟩ := grown_facts (M := M) hg hat hk
  have og : g' ≠ M := by
    rcases hat with e1 | e1
    · intro e; exact n.1 (by rw [e1, e])
    · have := h.lt; omega
  have tl : ∀ b, b < W.heap.size → TlB B M vl vk ve vo b → TlB B M (.slice (some ⟨g', 0, none⟩) (y.ls.length + 1) cap) vk ve vo b := fun b hb hT => ⟨hT.1, hT.2.1, fun e => ne' b hb hT.2.2.1 (Option.some.inj e), hT.2.2.2.1, hT.2.2.2.2.1, hT.2.2.2.2.2⟩
  have mv : ∀ b, TlB B M vl vk ve vo b → b < W.heap.size → W4.heap[b]? = W.heap[b]? ∧ TlB B M (.slice (some ⟨g', 0, none⟩) (y.ls.length + 1) cap) vk ve vo b := fun b hT hb => ⟨old b hb hT.2.1 hT.2.2.1, tl b hb hT⟩
  refine ⟨⟨h.base, hM, hc, h.chs.move mv, ?_, ?_, ?_, ?_, ?_, fun b e => ?_, fun b hb => ?_⟩, fun b hb => old b (h.apart b hb).1 (h.apart b hb).2.1 (h.apart b hb).2.2.1⟩
  · rw [hy]
    exact h.ls.push (hu.move mv) (own_stays ho fun b e => hk b (by simp [Value.ownBlock] at e; omega)) mv
  · rw [hy]; exact own_stays h.lk fun b e => old b (own_base h.lk e).2 (fun e' => n.2.1 (by rw [← e']; exact e)) (fun e2 => own_ne h.ls.row h.lk (by decide) e2 e)
  · rw [hy]; exact h.co.move mv
  · rw [hy]; exact ⟨h.ce.num, own_stays h.ce.row fun b e => old b (own_base h.ce.row e).2 (fun e' => n.2.2.1 (by rw [← e']; exact e)) (fun e2 => h.lc b e2 e), fun j hj => (h.ce.line j hj).move mv⟩
  · rw [hy]; exact own_stays h.fl fun b e => old b (own_base h.fl e).2 (fun e' => n.2.2.2 (by rw [← e']; exact e)) (fun e2 => own_ne h.ls.row h.fl (by decide) e2 e)
  · obtain rfl : g' = b := by simpa [Value.ownBlock] using e
    intro e2
    rcases hat with e1 | e1
    · exact h.lc _ e1 e2
    · have := (own_base h.ce.row e2).2; omega
  · have a := h.apart b hb
    refine ⟨?_, a.2.1, fun e => ne' b a.1 a.2.2.1 (Option.some.inj e), a.2.2.2.1, a.2.2.2.2.1, a.2.2.2.2.2⟩
    rw [hs]
    exact Nat.lt_of_lt_of_le a.1 hg.size
/-- The flow goes to the cells. -/
theorem LyM.pushCell (h : LyM B M K wd ch y vh vl vk vc ve vf vo vs cs c W) {g' cap : Nat} {y' : Ly} (hg : W.grownBy W3 ve.ownBlock)
    (ho : W3.ownsRow B 34 1 (.slice (some ⟨g', 0, none⟩) (y.ce.length + 1) cap) (y.ce.length + 1) (cs ++ [vo])) (hat : ve.ownBlock = some g' ∨ g' = W.heap.size)
    (hs : W4.heap.size = W3.heap.size) (hM : W4.heap[M]? = some (.cells c' 93 (0, 0))) (hk : ∀ b, b ≠ M → W4.heap[b]? = W3.heap[b]?)
    (hy : y' = { y with ce := y.ce ++ [y.fl], fl := [] }) {vf' : Value} (hc : LyC c' wd y' vh vl vk vc (.slice (some ⟨g', 0, none⟩) (y.ce.length + 1) cap) vf') :
    LyM B M K wd ch y' vh vl vk vc (.slice (some ⟨g', 0, none⟩) (y.ce.length + 1) cap) vf' nilV vs (cs ++ [vo]) c' W4 ∧ (∀ b, K b → W4.heap[b]? = W.heap[b]?) := by
  have n := h.nM
  obtain ⟨old, ne'⟩ := grown_facts (M := M) hg hat hk
  have og : g' ≠ M := by
    rcases hat with e1 | e1
    · intro e; exact n.2.2.1 (by rw [e1, e])
    · have := h.lt; omega
  have nn : ∀ b : Nat, nilV.ownBlock ≠ some b := fun b => by simp [nilV, Value.ownBlock]
  have tl : ∀ b, b < W.heap.size → TlB B M vl vk ve vo b → TlB B M vl vk (.slice (some ⟨g', 0, none⟩) (y.ce.length + 1) cap) nilV b := fun b hb hT => ⟨hT.1, hT.2.1, hT.2.2.1, hT.2.2.2.1, fun e => ne' b hb hT.2.2.2.2.1 (Option.some.inj e), nn b⟩
  have mv : ∀ b, TlB B M vl vk ve vo b → b < W.heap.size → W4.heap[b]? = W.heap[b]? ∧ TlB B M vl vk (.slice (some ⟨g', 0, none⟩) (y.ce.length + 1) cap) nilV b := fun b hT hb => ⟨old b hb hT.2.1 hT.2.2.2.2.1, tl b hb hT⟩
  have hfl : RdG (TlB B M vl vk (.slice (some ⟨g', 0, none⟩) (y.ce.length + 1) cap) nilV) W4 vo y.fl := (RdG.own h.fl rfl).move fun b hb hlt => by
    have h0 : b ≠ M := fun e => n.2.2.2 (by rw [← e]; exact hb.1)
    have h1 : vl.ownBlock ≠ some b := fun e => own_ne h.ls.row h.fl (by decide) e hb.1
    have h2 : vk.ownBlock ≠ some b := fun e => own_ne h.lk h.fl (by decide) e hb.1
    have h3 : ve.ownBlock ≠ some b := fun e => own_ne h.ce.row h.fl (by decide) e hb.1
    exact ⟨old b hlt h0 h3, hb.2, h0, h1, h2, fun e => ne' b hlt h3 (Option.some.inj e), nn b⟩
  refine ⟨⟨h.base, hM, hc, h.chs.move mv, ?_, ?_, ?_, ?_, ?_, fun b e => ?_, fun b hb => ?_⟩, fun b hb => old b (h.apart b hb).1 (h.apart b hb).2.1 (h.apart b hb).2.2.2.2.1⟩
  · rw [hy]; exact ⟨h.ls.num, own_stays h.ls.row fun b e => old b (own_base h.ls.row e).2 (fun e' => n.1 (by rw [← e']; exact e)) (fun e2 => h.lc b e e2), fun j hj => (h.ls.line j hj).move mv⟩
  · rw [hy]; exact own_stays h.lk fun b e => old b (own_base h.lk e).2 (fun e' => n.2.1 (by rw [← e']; exact e)) (fun e2 => own_ne h.ce.row h.lk (by decide) e2 e)
  · rw [hy]; exact h.co.move mv
  · rw [hy]
    exact h.ce.push hfl (own_stays ho fun b e => hk b (by simp [Value.ownBlock] at e; omega)) mv
  · rw [hy]; exact World.ownsRow_nil _ _ _ _
  · intro e2
    obtain rfl : g' = b := by simpa [Value.ownBlock] using e2
    rcases hat with e1 | e1
    · exact h.lc _ e e1
    · have := (own_base h.ls.row e).2; omega
  · have a := h.apart b hb
    refine ⟨?_, a.2.1, a.2.2.1, a.2.2.2.1, fun e => ne' b a.1 a.2.2.2.2.1 (Option.some.inj e), nn b⟩
    rw [hs]
    exact Nat.lt_of_lt_of_le a.1 hg.size
end
/-- A topic that is being laid out; its flow is open, or not. -/
def LyI (op : Bool) (B M : Nat) (K : Nat → Prop) (wd : Int) (ch : List S6.Chg) (y : Ly) (W : World) : Prop := ∃ vh vl vk vc ve vf vo vs cs c, LyM B M K wd ch y vh vl vk vc ve vf vo vs cs c W ∧ (op = true → vf = vo)
def LyPost (op : Bool) (B M : Nat) (K : Nat → Prop) (wd : Int) (ch : List S6.Chg) (y : Ly) (v : Value) (w : World) (e : Ending) (w' : World) : Prop := e = .returned v ∧ LyI op B M K wd ch y w' ∧ Kp K w w'
section
variable {op : Bool} {B M : Nat} {K K' : Nat → Prop} {wd : Int} {ch : List S6.Chg} {y : Ly} {W W' : World}
theorem LyI.below (h : LyI op B M K wd ch y W) (hb : Below W.heap.size W W') : LyI op B M K wd ch y W' := by
  obtain ⟨vh, vl, vk, vc, ve, vf, vo, vs, cs, c, h, h2⟩ := h
  exact ⟨_, _, _, _, _, _, _, _, _, _, h.below hb, h2⟩
theorem LyI.grow (h : LyI op B M K wd ch y W) (hb : Below W.heap.size W W') : LyI op B M (fun b => K b ∨ (W.heap.size ≤ b ∧ b < W'.heap.size)) wd ch y W' := by
  obtain ⟨vh, vl, vk, vc, ve, vf, vo, vs, cs, c, h, h2⟩ := h
  exact ⟨_, _, _, _, _, _, _, _, _, _, h.grow hb, h2⟩
theorem LyI.drew (h : LyI op B M K wd ch y W) : LyI op B M K wd ch y W.drew := h.below ((Below.refl _ W).drew)
theorem LyI.less (h : LyI op B M K wd ch y W) (hk : ∀ b, K' b → K b) : LyI op B M K' wd ch y W := by
  obtain ⟨vh, vl, vk, vc, ve, vf, vo, vs, cs, c, h, h2⟩ := h
  exact ⟨_, _, _, _, _, _, _, _, _, _, h.less hk, h2⟩
theorem LyI.lt (h : LyI op B M K wd ch y W) : ∀ b, K b → b < W.heap.size := by
  obtain ⟨vh, vl, vk, vc, ve, vf, vo, vs, cs, c, h, h2⟩ := h
  exact fun b hb => (h.apart b hb).1
theorem LyI.bounds (h : LyI op B M K wd ch y W) : B ≤ M ∧ M < W.heap.size ∧ y.lo.length ≤ 18 ∧ y.li.length ≤ 8 := by
  obtain ⟨vh, vl, vk, vc, ve, vf, vo, vs, cs, c, h, h2⟩ := h
  exact ⟨h.base, h.lt, h.cel.hlo, h.cel.hli⟩
end
end Go.Proofs.YtjohhahfpgfjdaaGreatDoor.Tb
end
section
namespace Go.Proofs.YtjohhahfpgfjdaaGreatDoor.Tb
open Go.RowKit Go.Maps
set_option linter.unusedVariables false
set_option linter.unusedSimpArgs false
theorem lplain_pro (w : World) : Calls Tryz.prog 55 #[] w (fun e w' => e = .returned (.agg #[.int .i64 0, .int .i64 7]) ∧ Below w.heap.size w w') := by
  go_enter Tryz.func55, Tryz.ntmps55
  go_wp2_with fail
  refine bodyPost_ret (v := .agg #[.int .i64 0, .int .i64 7]) ?_ rfl ⟨rfl, below_box _ _⟩
  exact results_cell_row rfl _ _ w.heap.size 42 #[.int .i64 0, .int .i64 7] _ _ rfl (heap_alloc_new w _) Tryz.underlying42 rfl (by kernel_rfl)
theorem empty_size {s : ByteArray} : s.toList.isEmpty = decide (s.size = 0) := by
  rw [ByteArray.toList_eq]
  have : s.size = s.data.toList.length := by simp
  rw [this]
  cases s.data.toList <;> simp
set_option maxRecDepth 100000 in
theorem waits_pro {op : Bool} {B M : Nat} {K : Nat → Prop} {wd : Int} {ch : List S6.Chg} {y : Ly} (w : World) (h : LyI op B M K wd ch y w) : Calls Tryz.prog 120 #[.pointer (some ⟨M, 0, none⟩)] w fun e w' => e = .returned (.bool (!decide (y.sg.size = 0))) ∧ w = w' := by
  obtain ⟨vh, vl, vk, vc, ve, vf, vo, vs, cs, c, h, h2⟩ := h
  have c0 : w.cell? ⟨M, 0, none⟩ = some (.string y.sg) := (h.cell 0).trans h.cel.sg
  rw [← empty_size]
  obtain ⟨t, ht⟩ : ∃ t, y.sg = t := ⟨_, rfl⟩
  rw [ht] at c0 ⊢
  clear h h2 ht
  go_enter Tryz.func120, Tryz.ntmps120
  go_wp2_with fail
  go_ret
  exact ⟨rfl, rfl⟩
set_option maxRecDepth 100000 in
theorem inTable_pro {op : Bool} {B M : Nat} {K : Nat → Prop} {wd : Int} {ch : List S6.Chg} {y : Ly} (w : World) (h : LyI op B M K wd ch y w) : Calls Tryz.prog 86 #[.pointer (some ⟨M, 0, none⟩)] w fun e w' => e = .returned (.bool (decide (0 < y.co.length))) ∧ w = w' := by
  obtain ⟨vh, vl, vk, vc, ve, vf, vo, vs, cs, c, h, h2⟩ := h
  obtain ⟨pa, cap, e, _, _⟩ := sliceC h.co
  have c0 : w.cell? ⟨M, 89, none⟩ = some (.slice pa y.co.length cap) := by rw [← e]; exact (h.cell 89).trans h.cel.co
  obtain ⟨n, hn⟩ : ∃ n, y.co.length = n := ⟨_, rfl⟩
  rw [hn] at c0 ⊢
  clear h h2 hn e
  by_cases h0 : 0 < n
  · have h1 : (0 : Int) < n := by omega
    rw [decide_eq_true h0]
    go_enter Tryz.func86, Tryz.ntmps86
    go_wp2_with fail
    go_ret
    exact ⟨rfl, rfl⟩
  · have h1 : ¬ (0 : Int) < n := by omega
    rw [decide_eq_false h0]
    go_enter Tryz.func86, Tryz.ntmps86
    go_wp2_with fail
    go_ret
    exact ⟨rfl, rfl⟩
theorem last_at {α : Type} {l : List α} {n : Nat} (h : l.length = n + 1) : l.getLast? = some (l[n]) := by
  rw [List.getLast?_eq_getElem?, show l.length - 1 = n by omega, List.getElem?_eq_getElem (by omega)]
set_option maxRecDepth 100000 in
set_option maxHeartbeats 1000000 in
theorem top_pro {op : Bool} {B M : Nat} {K : Nat → Prop} {wd : Int} {ch : List S6.Chg} {y : Ly} (w : World) (h : LyI op B M K wd ch y w) (h0 : 0 < y.lo.length) : Calls Tryz.prog 89 #[.pointer (some ⟨M, 8, none⟩)] w (fun e w' => e = .returned (.agg #[.int .i64 (topLk y).att, .int .i64 (topLk y).col]) ∧ Below w.heap.size w w') := by
  obtain ⟨vh, vl, vk, vc, ve, vf, vo, vs, cs, c, h, h2⟩ := h
  obtain ⟨n, hn⟩ : ∃ n, y.lo.length = n + 1 := ⟨y.lo.length - 1, by omega⟩
  have n18 : n < 18 := by have := h.cel.hlo; omega
  have c0 : w.cell? ⟨M, 62, none⟩ = some (.int .i64 ((n + 1 : Nat) : Int)) := by rw [← hn]; exact (h.cell 62).trans h.cel.hi
  have et : topLk y = (y.lo[n]).1 := by unfold topLk; rw [last_at hn]; rfl
  obtain ⟨d0, d1, d2⟩ := h.cel.lo n (by omega)
  rw [← h.cell, ← et] at d0 d1
  obtain ⟨k, hk⟩ : ∃ k, topLk y = k := ⟨_, rfl⟩
  rw [hk] at d0 d1 ⊢
  have e1 : wrap64 (((n + 1 : Nat) : Int) - 1) = (n : Int) := by unfold wrap64; omega
  have e2 : ((n + 1 : Nat) : Int) - 1 = (n : Int) := by omega
  have n8 : (n : Int) < 18 := by omega
  have hM := h.lt
  have HB := Lib.hid ((Below.refl w.heap.size w).alloc (Nat.le_refl _) (.cells #[.int .i64 k.att, .int .i64 k.col] 42))
  clear h h2 h0 hn et hk d2
  go_enter Tryz.func89, Tryz.ntmps89
  go_wp2_with fail
  go_region
  go_wp2_with fail
  refine bodyPost_ret (v := .agg #[.int .i64 k.att, .int .i64 k.col]) ?_ rfl ⟨rfl, HB.out.drew⟩
  exact results_cell_row rfl _ _ w.heap.size 42 #[.int .i64 k.att, .int .i64 k.col] _ _ rfl (heap_alloc_new w _) Tryz.underlying42 rfl (by kernel_rfl)
theorem one_newG {P : Nat → Prop} (w : World) (g : Gl) (hp : P w.heap.size) : RdG P (w.alloc (boxG g)) (.slice (some ⟨w.heap.size, 0, none⟩) 1 1) [g] := by
  refine ⟨_, 1, rfl, Nat.le_refl _, by unfold maxLen; omega, fun j hj => ?_⟩
  have hj0 : j = 0 := by simp at hj; omega
  subst hj0
  refine ⟨_, 0, rfl, hp, ?_⟩
  have h := box_cells w g
  simpa [GlIs] using h
set_option maxRecDepth 100000 in
set_option maxHeartbeats 1000000 in
theorem blanks_pro (n : Int) (h0 : 0 ≤ n) (h1 : n ≤ 1000) (w : World) : Calls Tryz.prog 94 #[.int .i64 n] w (MakesR (blk n) w) := by
  obtain ⟨m, rfl⟩ : ∃ m : Nat, n = m := ⟨n.toNat, by omega⟩
  have hm : m ≤ 1000 := by omega
  have e : blk (m : Int) = List.replicate m plainG := by unfold blk; simp
  rw [e]
  clear h0 h1 e
  go_enter Tryz.func94, Tryz.ntmps94
  go_wp2_with fail
  refine (lplain_pro _).mono ?_
  rintro e w1 ⟨rfl, hb⟩
  have HB := Lib.hid hb
  clear hb
  go_wp2_with fail
  have HR := Lib.hid (one_newG (P := fun _ => True) w1 plainG trivial)
  have HB2 := Lib.hid (HB.out.trans ((below_box w1 (boxG plainG)).mono HB.out.size))
  unfold boxG plainG bl1 at HR HB2
  refine (repeat_pro plainG _ m _ HR.out hm).mono ?_
  rintro e w2 ⟨v, rfl, ho, hb⟩
  have HO := Lib.hid ho
  have HB3 := Lib.hid (HB2.out.trans (hb.mono HB2.out.size))
  have HB2s := Lib.hid HB2.out.size
  clear ho hb
  go_wp2_with fail
  go_ret
  exact ⟨v, rfl, own_lower HO.out HB2s.out, HB3.out⟩
end Go.Proofs.YtjohhahfpgfjdaaGreatDoor.Tb
end
section
namespace Go.Proofs.YtjohhahfpgfjdaaGreatDoor.Tb
open Go.RowKit Go.Maps
set_option linter.unusedVariables false
set_option linter.unusedSimpArgs false
/-- Only the block M is another: its cells were stored into. -/
structure Ed (M : Nat) (c' : Array Value) (W W' : World) : Prop where
  blk : W'.heap[M]? = some (.cells c' 93 (0, 0))
  oth : ∀ b, b ≠ M → W'.heap[b]? = W.heap[b]?
  size : W'.heap.size = W.heap.size
  os : W'.os = W.os
  tape : W'.tape = W.tape
  output : W'.output = W.output
section
variable {op : Bool} {B M : Nat} {K K' : Nat → Prop} {wd : Int} {ch : List S6.Chg} {y y' : Ly} {vh vl vk vc ve vf vo : Value} {vs cs : List Value} {c c' : Array Value} {W W' : World}
theorem LyM.ed (h : LyM B M K wd ch y vh vl vk vc ve vf vo vs cs c W) : Ed M c W W := ⟨h.blk, fun _ _ => rfl, rfl, rfl, rfl, rfl⟩
theorem Ed.set (h : Ed M c' W W') (j : Nat) (u : Value) : Ed M (c'.setIfInBounds j u) W (W'.setCell ⟨M, j, none⟩ u) :=
  ⟨heap_setCell_same W' M j c' _ u h.blk, fun b hb => (Below.heap_setCell _ _ _ _ hb).trans (h.oth b hb), by simpa [World.setCell] using h.size, h.os, h.tape, h.output⟩
theorem Ed.kp (h : Ed M c' W W') (hK : ¬ K M) : Kp K W W' := ⟨h.os, h.tape, h.output, by rw [h.size]; exact Nat.le_refl _, fun b hb => h.oth b (fun e => hK (e ▸ hb))⟩
theorem Ed.cell (h : Ed M c' W W') (j : Nat) : W'.cell? ⟨M, j, none⟩ = c'[j]? := by rw [cell_of_row _ _ _ _ _ _ h.blk]
theorem Ed.free (h : Ed M c' W W') (j : Nat) : W'.frozen? ⟨M, j, none⟩ = false := frozen_of_row W' M j c' _ h.blk
theorem LyM.edit (h : LyM B M K wd ch y vh vl vk vc ve vf vo vs cs c W) (e : Ed M c' W W') (hc : LyC c' wd y' vh vl vk vc ve vf) (e1 : y'.ls = y.ls) (e2 : y'.lk = y.lk) (e3 : y'.co = y.co) (e4 : y'.ce = y.ce) (e5 : y'.fl = y.fl) : LyM B M K wd ch y' vh vl vk vc ve vf vo vs cs c' W' :=
  h.rebox e.size e.blk e.oth hc e1 e2 e3 e4 e5
theorem LyM.old (h : LyM B M K wd ch y vh vl vk vc ve vf vo vs cs c W) {j : Nat} (hj : j < 93) : ∃ u, W.cell? ⟨M, j, none⟩ = some u := by
  rw [h.cell]
  exact ⟨_, Array.getElem?_eq_getElem (by rw [h.cel.sz]; exact hj)⟩
end
set_option maxRecDepth 100000 in
set_option maxHeartbeats 1000000 in
theorem lay_pro {op : Bool} {B M : Nat} {K : Nat → Prop} {wd : Int} {ch : List S6.Chg} {y : Ly} (k : S6.Lk) (b : Bool) (w : World) (h : LyI op B M K wd ch y w) (hn : y.lo.length < 18) :
    Calls Tryz.prog 54 #[.pointer (some ⟨M, 8, none⟩), .agg #[.int .i64 k.att, .int .i64 k.col], .bool b] w (LyPost op B M K wd ch (layY y k b) (.tuple #[]) w) := by
  obtain ⟨vh, vl, vk, vc, ve, vf, vo, vs, cs, c, h, h2⟩ := h
  obtain ⟨m, hm⟩ : ∃ m, y.lo.length = m := ⟨_, rfl⟩
  have HC := Lib.hid (h.cel.pushLo k b hn)
  rw [hm, Int.natCast_succ] at HC
  rw [hm] at hn
  have c62 : w.cell? ⟨M, 62, none⟩ = some (.int .i64 (m : Int)) := by rw [← hm]; exact (h.cell 62).trans h.cel.hi
  have f62 := h.free 62
  obtain ⟨u0, q0⟩ := h.old (j := 8 + m * 3) (by omega)
  obtain ⟨u1, q1⟩ := h.old (j := 8 + m * 3 + 1) (by omega)
  obtain ⟨u2, q2⟩ := h.old (j := 8 + m * 3 + 2) (by omega)
  have f0 := h.free (8 + m * 3)
  have f1 := h.free (8 + m * 3 + 1)
  have f2 := h.free (8 + m * 3 + 2)
  have m18 : (m : Int) < 18 := by omega
  have wr : wrap64 ((m : Int) + 1) = ((m + 1 : Nat) : Int) := by unfold wrap64; omega
  have hM := h.lt
  have HH := Lib.hid h
  have HI := Lib.hid h2
  clear h h2 hm
  go_enter Tryz.func54, Tryz.ntmps54
  go_wp2_with fail
  go_region
  go_wp2_with fail
  go_end0
  have E := ((((HH.out.ed.set (8 + m * 3) (.int .i64 k.att)).set (8 + m * 3 + 1) (.int .i64 k.col)).set (8 + m * 3 + 2) (.bool b)).set 62 (.int .i64 ((m : Int) + 1)))
  have h5 := HH.out.edit E HC.out rfl rfl rfl rfl rfl
  exact ⟨rfl, LyI.drew ⟨_, _, _, _, _, _, _, _, _, _, h5.below (below_box _ _), HI.out⟩, ((E.kp HH.out.notK).alloc (fun b hb => (h5.apart b hb).1) _).drew⟩
set_option maxRecDepth 100000 in
set_option maxHeartbeats 1000000 in
theorem takeOff_pro {op : Bool} {B M : Nat} {K : Nat → Prop} {wd : Int} {ch : List S6.Chg} {y : Ly} (w : World) (h : LyI op B M K wd ch y w) (hn : 0 < y.lo.length) :
    Calls Tryz.prog 91 #[.pointer (some ⟨M, 8, none⟩)] w (LyPost op B M K wd ch (offY y) (.bool ((y.lo.getLast?.map (·.2)).getD false)) w) := by
  obtain ⟨vh, vl, vk, vc, ve, vf, vo, vs, cs, c, h, h2⟩ := h
  obtain ⟨n, hm⟩ : ∃ n, y.lo.length = n + 1 := ⟨y.lo.length - 1, by omega⟩
  have HC := Lib.hid (h.cel.popLo n hm)
  have c62 : w.cell? ⟨M, 62, none⟩ = some (.int .i64 ((n + 1 : Nat) : Int)) := by rw [← hm]; exact (h.cell 62).trans h.cel.hi
  have f62 := h.free 62
  have n18 : n < 18 := by have := h.cel.hlo; omega
  obtain ⟨d0, d1, d2⟩ := h.cel.lo n (by omega)
  rw [← h.cell] at d2
  have et : (y.lo.getLast?.map (·.2)).getD false = (y.lo[n]).2 := by rw [last_at hm]; rfl
  rw [et]
  obtain ⟨t, ht⟩ : ∃ t, (y.lo[n]).2 = t := ⟨_, rfl⟩
  rw [ht] at d2 ⊢
  have e1 : wrap64 (((n + 1 : Nat) : Int) - 1) = (n : Int) := by unfold wrap64; omega
  have e2 : ((n + 1 : Nat) : Int) - 1 = (n : Int) := by omega
  have n8 : (n : Int) < 18 := by omega
  have hM := h.lt
  have HH := Lib.hid h
  have HI := Lib.hid h2
  clear h h2 hm ht et d0 d1 hn
  go_enter Tryz.func91, Tryz.ntmps91
  go_wp2_with fail
  go_region
  go_wp2_with fail
  go_ret
  have E := HH.out.ed.set 62 (.int .i64 (n : Int))
  have h5 := HH.out.edit E HC.out rfl rfl rfl rfl rfl
  exact ⟨rfl, LyI.drew ⟨_, _, _, _, _, _, _, _, _, _, h5, HI.out⟩, (E.kp HH.out.notK).drew⟩
end Go.Proofs.YtjohhahfpgfjdaaGreatDoor.Tb
end
section
namespace Go.Proofs.YtjohhahfpgfjdaaGreatDoor.Tb
open Go.RowKit Go.Maps
set_option linter.unusedVariables false
set_option linter.unusedSimpArgs false
def RelPost (op : Bool) (B M : Nat) (K : Nat → Prop) (wd : Int) (ch : List S6.Chg) (y : Ly) (w : World) (e : Ending) (w' : World) : Prop :=
  ∃ v, e = .returned v ∧ w'.ownsRow w.heap.size 44 5 v (leadY y).length (rowsG (leadY y)) ∧ LyI op B M (fun b => K b ∨ (w.heap.size ≤ b ∧ b < w'.heap.size)) wd ch (freeY y) w' ∧ Kp K w w'
def leadK (y : Ly) (k : Nat) : List Gl := blk y.pl ++ letsK y.sg k
theorem leadK_len (y : Ly) (k : Nat) : (leadK y k).length = y.pl.toNat + k := by simp [leadK, blk, letsK_len]
theorem leadK_succ (y : Ly) (k : Nat) : rowsG (leadK y (k + 1)) = rowsG (leadK y k) ++ glRow (letG y.sg k) := by
  unfold leadK
  rw [rowsG_app, rowsG_app, letsK_succ, List.append_assoc]
set_option maxRecDepth 100000 in
set_option maxHeartbeats 4000000 in
theorem release_pro {op : Bool} {B M : Nat} {K : Nat → Prop} {wd : Int} {ch : List S6.Chg} {y : Ly} (w : World) (h : LyI op B M K wd ch y w) (hp : 0 ≤ y.pl ∧ y.pl ≤ 1000) (hs : y.sg.size ≤ 1000) :
    Calls Tryz.prog 95 #[.pointer (some ⟨M, 0, none⟩)] w (RelPost op B M K wd ch y w) := by
  obtain ⟨i0, hi0, hz0, hz1, hz2⟩ := info_parts infoG
  obtain ⟨vh, vl, vk, vc, ve, vf, vo, vs, cs, c, h, h2⟩ := h
  have HH := Lib.hid h
  have HI := Lib.hid h2
  have hM := h.lt
  have c0 : w.cell? ⟨M, 0, none⟩ = some (.string y.sg) := (h.cell 0).trans h.cel.sg
  have c1 : w.cell? ⟨M, 1, none⟩ = some (.int .i64 y.pl) := (h.cell 1).trans h.cel.pl
  have HBL := Lib.hid (fun W => blanks_pro y.pl hp.1 hp.2 W)
  obtain ⟨s, hsg⟩ : ∃ s, y.sg = s := ⟨_, rfl⟩
  have HSG := Lib.hid hsg
  rw [hsg] at c0 hs
  obtain ⟨z, hz⟩ : ∃ z, y.pl = z := ⟨_, rfl⟩
  have HZ := Lib.hid hz
  rw [hz] at c1 HBL hp
  obtain ⟨n, hn⟩ : ∃ n, s.size = n := ⟨_, rfl⟩
  have HN := Lib.hid hn
  rw [hn] at hs
  have HC0 : Hid (∀ W, Below w.heap.size w W → W.cell? ⟨M, 0, none⟩ = some (.string s)) := Lib.hid fun W hb => (hb.cell (p := ⟨M, 0, none⟩) (cellInL c0)).trans c0
  obtain ⟨p, hpn⟩ : ∃ p : Nat, z.toNat = p := ⟨_, rfl⟩
  have HPN := Lib.hid hpn
  have hp1 : p ≤ 1000 := by omega
  have mixed : Tryz.prog.follows .mixedOrders = true := by kernel_rfl
  clear h h2 hsg hz hpn hp
  go_enter Tryz.func95, Tryz.ntmps95
  go_wp2_with fail
  refine (HBL.out _).mono ?_
  rintro e w1 ⟨v1, rfl, ho1, hb1⟩
  have HO1 := Lib.hid (show w1.ownsRow w.heap.size 44 5 v1 (p + 0) (rowsG (leadK y 0)) by
    have e1 : (blk z).length = p + 0 := by unfold blk; rw [List.length_replicate, HPN.out]; rfl
    have e2 : leadK y 0 = blk z := by unfold leadK; rw [HZ.out]; simp [letsK]
    rw [e2, ← e1]; exact ho1)
  have HB1 := Lib.hid hb1
  have c0' := HC0.out w1 hb1
  clear ho1 hb1
  go_wp2_with fail
  try simp only [hn]
  go_loopw [3, 15] (fun v i wr => ∃ (k : Nat), i = .int .i64 k ∧ k ≤ n ∧ Hid (wr.ownsRow w.heap.size 44 5 v (p + k) (rowsG (leadK y k))) ∧ Hid (Below w.heap.size w wr)) (fun _ i _ => n - (intOf i).toNat)
  case atStart => exact ⟨0, rfl, Nat.zero_le _, HO1, HB1⟩
  case round =>
    obtain ⟨k, rfl, hk, HO, HB⟩ := hrel
    by_cases hlt : k < n
    · have HOD := Lib.hid (show wr.drew.ownsRow w.heap.size 44 5 u3 (p + k) (rowsG (leadK y k)) from HO.out)
      have k1 : (k : Int) < n := by omega
      have HLT := Lib.hid hlt
      have HBD := Lib.hid (show Below w.heap.size w wr.drew from HB.out.drew)
      have d0 := HC0.out wr HB.out
      have L1 := Lib.hid (show p + k + 1 ≤ maxLen by unfold maxLen; omega)
      have L2 := Lib.hid (show (p + k + 1) * 48 ≤ 140737488355328 by omega)
      have sw : IntKind.i64.wrap ((k : Int) + 1) = ((k + 1 : Nat) : Int) := by rw [IntWalk.i64_in _ (by omega)]; omega
      have kN : k + 1 ≤ n := hlt
      have kZ : ((k + 1 : Nat) : Int) ≤ (n : Int) := by omega
      have kk : (k : Int) ≤ ((k + 1 : Nat) : Int) := by omega
      have hsl : ∀ W : World, (Instr.slice 9 (.string s) (some (.int .i64 (k : Int))) (some (.int .i64 ((k : Int) + 1))) none).run Tryz.prog W = .ok (.string (s.extract k (k + 1))) W := fun W => by
        have h := run_slice_string (P := Tryz.prog) W 9 s .i64 .i64 (k : Int) ((k : Int) + 1) Tryz.underlying9 (by omega) (by omega) (by have := HN.out; omega)
        rw [show ((k : Int) + 1).toNat = k + 1 by omega, show (k : Int).toNat = k by omega] at h
        exact h
      clear c0 c0' c1
      go_upto_region 5 with fail
      go_region_law (first
        | (go_simp; go_at_call 55; refine (lplain_pro _).mono ?_; rintro e w2 ⟨rfl, h2⟩; have HB2 := Lib.hid (HBD.out.trans (h2.mono HBD.out.size)); have HO2 := Lib.hid (own_below HOD.out h2); have e0 := HC0.out w2 HB2.out; clear h2)
        | (refine step_append_lies _ rfl (.tmp 18) (.tmp 29) 34 rfl w.heap.size 44 i0 _ 5 48 Tryz.underlying34 hi0 hz0 hz1 hz2 rfl (by decide) u3 (p + k) (rowsG (leadK y k)) (by simp [Act.eval]) (own_below HO2.out (below_box w2 _)) ⟨w2.heap.size, 0, none⟩ 1 1 (glRow (letG s k)) (by simp [Act.eval]) rfl (cells_newL _ _ _) (glRow_one (letG s k)) (by decide) L1.out L2.out (Nat.le_trans HB2.out.size (below_box w2 _).size) _ rfl ?_; intro g' cap w3 hown' hgrow hat _; have HW3 := Lib.hid hown'; have HB3 := Lib.hid ((HB2.out.trans ((below_box w2 _).mono HB2.out.size)).grown hgrow (Nat.le_trans HB2.out.size (below_box w2 _).size) (fun c hc => (own_base HO2.out hc).1)); clear hown' hgrow hat))
      all_goals
        have HW4 := Lib.hid (show w3.ownsRow w.heap.size 44 5 (.slice (some ⟨g', 0, none⟩) (p + k + 1) cap) (p + (k + 1)) (rowsG (leadK y (k + 1))) by rw [leadK_succ, HSG.out]; exact HW3.out)
        go_wp2_with fail
        go_roundw
        case measure => have := HLT.out; simp [intOf]; omega
        case rel => exact ⟨k + 1, by go_num, HLT.out, HW4, HB3⟩
    · obtain rfl : k = n := by omega
      have hzk : ¬ (k : Int) < k := by omega
      have HF := Lib.hid (show leadY y = leadK y k by unfold leadY leadK letsL; rw [HSG.out, HN.out])
      have hL := HH.out.below HB.out
      have HL := Lib.hid hL
      have f0 := hL.free 0
      have f1 := hL.free 1
      obtain ⟨a0, q0⟩ := hL.old (j := 0) (by omega)
      obtain ⟨a1, q1⟩ := hL.old (j := 1) (by omega)
      clear hlt hL c0 c0' c1
      go_wp2_with fail
      go_ret
      have hC := (HL.out.cel.setSg .empty).setPl 0
      have hG := HH.out.grow HB.out
      have E := (hG.ed.set 0 (.string .empty)).set 1 (.int .i64 0)
      have h5 := hG.edit (y' := freeY y) E hC rfl rfl rfl rfl rfl
      refine ⟨u3, rfl, ?_, ⟨_, _, _, _, _, _, _, _, _, _, h5.less (fun b hb => ?_), HI.out⟩, (Kp.of HB.out (fun b hb => (HH.out.apart b hb).1)).trans (E.kp HH.out.notK)⟩
      · rw [HF.out, leadK_len, HZ.out, HPN.out]
        exact own_stays HO.out fun b hb => E.oth b (by have := (own_base HO.out hb).1; omega)
      · rcases hb with hb | hb
        · exact .inl hb
        · exact .inr ⟨hb.1, by have h9 := E.size; rw [← h9]; exact hb.2⟩
end Go.Proofs.YtjohhahfpgfjdaaGreatDoor.Tb
end
section
namespace Go.Proofs.YtjohhahfpgfjdaaGreatDoor.Tb
open Go.RowKit Go.Maps
set_option linter.unusedVariables false
set_option linter.unusedSimpArgs false
set_option maxRecDepth 100000 in
set_option maxHeartbeats 4000000 in
theorem tell_pro {op : Bool} {B M : Nat} {K P : Nat → Prop} {wd : Int} {ch : List S6.Chg} {y : Ly} (ps : List (List Gl)) (pv : Value) (w : World) (h : LyI op B M K wd ch y w) (hr : RdL P w pv ps) (hl : (flat ps).length ≤ 1000000) (hls : y.ls.length ≤ 2000) :
    Calls Tryz.prog 87 #[.pointer (some ⟨M, 0, none⟩), pv] w (LyPost op B M K wd ch (tellY y (flat ps)) (.tuple #[]) w) := by
  obtain ⟨i0, hi0, hz0, hz1, hz2⟩ := info_parts infoL
  obtain ⟨vh, vl, vk, vc, ve, vf, vo, vs, cs, c, h, h2⟩ := h
  have HI := Lib.hid h2
  have hM := h.lt
  obtain ⟨pl, cl, rfl⟩ := lenL h.ls.row
  have c4 : w.cell? ⟨M, 4, none⟩ = some (.slice pl y.ls.length cl) := (h.cell 4).trans h.cel.ls
  obtain ⟨pp, cp, rfl, _, _⟩ := hr.form
  obtain ⟨m, hm⟩ : ∃ m, ps.length = m := ⟨_, rfl⟩
  rw [hm] at hr ⊢
  obtain ⟨n, hn⟩ : ∃ n, y.ls.length = n := ⟨_, rfl⟩
  have HN := Lib.hid hn
  rw [hn] at c4 h hls
  by_cases h20 : n = 2000
  · have t1 : ((n : Int) == 2000) = true := by simp; omega
    have c5 : ∃ u, w.cell? ⟨M, 5, none⟩ = some u := h.old (by omega)
    obtain ⟨u5, q5⟩ := c5
    have f5 := h.free 5
    have hT : tellY y (flat ps) = { y with more := true } := by unfold tellY; rw [if_pos (by omega)]
    rw [hT]
    have HH := Lib.hid h
    clear h h2 hr hl hm hn hT h20
    go_enter Tryz.func87, Tryz.ntmps87
    go_wp2_with fail
    first | go_end0 | refine bodyPost_ret (results_none rfl _ _ _) rfl ?_
    have E := HH.out.ed.set 5 (.bool true)
    exact ⟨rfl, ⟨_, _, _, _, _, _, _, _, _, _, HH.out.edit E (HH.out.cel.setMo true) rfl rfl rfl rfl rfl, HI.out⟩, E.kp HH.out.notK⟩
  · have t1 : ((n : Int) == 2000) = false := by simp; omega
    have hT : tellY y (flat ps) = { y with ls := y.ls ++ [flat ps] } := by unfold tellY; rw [if_neg (by omega)]
    rw [hT]
    have hCC := Lib.hid (fun W (hb : Below w.heap.size w W) => concat_pro ps _ W (hr.below hb) (by omega))
    obtain ⟨fl, hfl⟩ : ∃ fl, flat ps = fl := ⟨_, rfl⟩
    rw [hfl] at hCC hl ⊢
    have HH := Lib.hid h
    have HCA := Lib.hid (fun W (hb : Below w.heap.size w W) => (show W.cell? ⟨M, 4, none⟩ = some (.slice pl n cl) from (hb.cell (p := ⟨M, 4, none⟩) hM).trans c4))
    have L1 := Lib.hid (show n + 1 ≤ maxLen by unfold maxLen; omega)
    have L2 := Lib.hid (show (n + 1) * 24 ≤ 140737488355328 by omega)
    have HBW := Lib.hid (show B ≤ w.heap.size by have := h.base; omega)
    have mixed : Tryz.prog.follows .mixedOrders = true := by kernel_rfl
    have HD := Lib.hid ((Below.refl w.heap.size w).drew)
    clear h h2 hr hl hm hn hT h20 hfl
    go_enter Tryz.func87, Tryz.ntmps87
    go_wp2_with fail
    go_region_law (first
      | (go_simp; go_at_call 112; refine (hCC.out _ HD.out).mono ?_; rintro e w2 ⟨v2, rfl, ho2, hb2⟩; obtain ⟨p2, k2, rfl⟩ := lenL ho2; have HO2 := Lib.hid ho2; have HB2 := Lib.hid (HD.out.trans (hb2.mono HD.out.size)); have e4 := HCA.out w2 HB2.out; have e5 := HCA.out (w2.alloc (.cells #[.slice p2 fl.length k2] 34)) (HB2.out.trans ((below_box w2 _).mono HB2.out.size)); have HL2 := Lib.hid (HH.out.below HB2.out); clear ho2 hb2)
      | (refine step_append_lies _ rfl (.tmp 17) (.tmp 20) 25 rfl B 34 i0 _ 1 24 Tryz.underlying25 hi0 hz0 hz1 hz2 rfl (by decide) (.slice pl n cl) n vs (by simp [Act.eval]) (by have h9 := (HL2.out.below (below_box w2 (.cells #[.slice p2 fl.length k2] 34))).ls.row; rw [HN.out] at h9; exact h9) ⟨w2.heap.size, 0, none⟩ 1 1 [.slice p2 fl.length k2] (by simp [Act.eval, Value.cells]) rfl (cells_newL _ _ _) (by intro u hu; rw [List.mem_singleton] at hu; rw [hu]; rfl) (by decide) L1.out L2.out (Nat.le_trans HBW.out (Nat.le_trans HB2.out.size (below_box w2 _).size)) _ rfl ?_; intro g' cap w3 hown' hgrow hat _; have HW3 := Lib.hid hown'; have HGR := Lib.hid hgrow; have HAT := Lib.hid hat; have hx := HL2.out.below (below_box w2 (.cells #[.slice p2 fl.length k2] 34)); have hgk := (hgrow.block M hx.lt (fun e => hx.nM.1 e.symm)).trans hx.blk; have r4 : w3.cell? ⟨M, 4, none⟩ = some (.slice pl n cl) := (by rw [cell_of_row _ _ _ _ _ _ hgk]; exact hx.cel.ls); have g4 : w3.frozen? ⟨M, 4, none⟩ = false := frozen_of_row w3 M 4 _ _ hgk; have HGK := Lib.hid hgk; clear hown' hgrow hat hx hgk))
    all_goals
      go_wp2_with fail
      first | go_end0 | refine bodyPost_ret (results_none rfl _ _ _) rfl ?_
      have hX := HL2.out.below (below_box w2 (.cells #[.slice p2 fl.length k2] 34))
      have hu : RdG (TlB B M (.slice pl n cl) vk ve vo) (w2.alloc (.cells #[.slice p2 fl.length k2] 34)) (.slice p2 fl.length k2) fl := ((RdG.own HO2.out rfl).imp fun b hb h9 => by
        have hm := HH.out.lt
        have a0 := h9.2
        refine ⟨Nat.le_trans HBW.out (Nat.le_trans HD.out.size a0), ?_, fun e => ?_, fun e => ?_, fun e => ?_, fun e => ?_⟩
        · have : w.heap.size ≤ b := Nat.le_trans HD.out.size a0
          omega
        · have := (own_base HH.out.ls.row e).2; have : w.heap.size ≤ b := Nat.le_trans HD.out.size a0; omega
        · have := (own_base HH.out.lk e).2; have : w.heap.size ≤ b := Nat.le_trans HD.out.size a0; omega
        · have := (own_base HH.out.ce.row e).2; have : w.heap.size ≤ b := Nat.le_trans HD.out.size a0; omega
        · have := (own_base HH.out.fl e).2; have : w.heap.size ≤ b := Nat.le_trans HD.out.size a0; omega).below (below_box w2 _)
      have ho : w3.ownsRow B 34 1 (.slice (some ⟨g', 0, none⟩) (y.ls.length + 1) cap) (y.ls.length + 1) (vs ++ [.slice p2 fl.length k2]) := by rw [HN.out]; exact HW3.out
      have hp := hX.pushLine (y' := { y with ls := y.ls ++ [fl] }) hu HGR.out ho HAT.out (W4 := w3.setCell ⟨M, 4, none⟩ (.slice (some ⟨g', 0, none⟩) (y.ls.length + 1) cap)) (by simp [World.setCell]) (heap_setCell_same w3 M 4 _ _ _ HGK.out) (fun b hb => Below.heap_setCell _ _ _ _ hb) rfl (hX.cel.setLs _ _)
      rw [HN.out] at hp
      have hk : ∀ b, K b → b < w.heap.size := fun b hb => (HH.out.apart b hb).1
      exact ⟨rfl, ⟨_, _, _, _, _, _, _, _, _, _, hp.1, HI.out⟩, ((((Kp.of HB2.out hk).alloc (fun b hb => Nat.lt_of_lt_of_le (hk b hb) HB2.out.size) _).grown HGR.out (fun b hb => ⟨(hX.apart b hb).1, (hX.apart b hb).2.2.1⟩)).set 4 HH.out.notK _)⟩
end Go.Proofs.YtjohhahfpgfjdaaGreatDoor.Tb
end
section
namespace Go.Proofs.YtjohhahfpgfjdaaGreatDoor.Tb
open Go.RowKit Go.Maps
set_option linter.unusedVariables false
set_option linter.unusedSimpArgs false
theorem LyPost.less {op : Bool} {B M : Nat} {K K' : Nat → Prop} {wd : Int} {ch : List S6.Chg} {y : Ly} {v : Value} {w w' : World} {e : Ending} (h : LyPost op B M K wd ch y v w e w') (hk : ∀ b, K' b → K b) : LyPost op B M K' wd ch y v w e w' :=
  ⟨h.1, h.2.1.less hk, h.2.2.mono hk⟩
theorem lists_new1 {P : Nat → Prop} (w : World) (v : Value) (l : List Gl) (h : RdG P w v l) (hp : P w.heap.size) : RdL P (w.alloc (.cells #[v] 34)) (.slice (some ⟨w.heap.size, 0, none⟩) 1 1) [l] := by
  have hb := below_box w (.cells #[v] 34)
  refine ⟨_, 1, rfl, Nat.le_refl _, by unfold maxLen; omega, fun j hj => ?_⟩
  obtain rfl : j = 0 := by simp at hj; omega
  refine ⟨_, _, v, rfl, hp, ?_, h.below hb⟩
  rw [Nat.add_zero, cell_of_row _ _ _ _ _ _ (heap_alloc_new w _)]
  rfl
theorem lead_len (y : Ly) : (leadY y).length = y.pl.toNat + y.sg.size := by simp [leadY, blk, letsL, letsK_len]
set_option maxRecDepth 100000 in
set_option maxHeartbeats 2000000 in
theorem tellMarker_pro {op : Bool} {B M : Nat} {K : Nat → Prop} {wd : Int} {ch : List S6.Chg} {y : Ly} (w : World) (h : LyI op B M K wd ch y w) (hp : 0 ≤ y.pl ∧ y.pl ≤ 1000) (hs : y.sg.size ≤ 1000) (hls : y.ls.length ≤ 2000) :
    Calls Tryz.prog 93 #[.pointer (some ⟨M, 0, none⟩)] w (LyPost op B M K wd ch (settleY y) (.tuple #[]) w) := by
  have HW := Lib.hid (waits_pro w h)
  by_cases h0 : y.sg.size = 0
  · rw [decide_eq_true h0] at HW
    have e : settleY y = y := by unfold settleY; rw [if_pos h0]
    rw [e]
    have HH := Lib.hid h
    clear h h0 e
    go_enter Tryz.func93, Tryz.ntmps93
    go_wp2_with fail
    refine HW.out.mono ?_
    rintro e w1 ⟨rfl, rfl⟩
    go_wp2_with fail
    first | go_end0 | refine bodyPost_ret (results_none rfl _ _ _) rfl ?_
    exact ⟨rfl, HH.out, Kp.refl _ _⟩
  · rw [decide_eq_false h0] at HW
    have e : settleY y = tellY (freeY y) (leadY y) := by unfold settleY; rw [if_neg h0]
    rw [e]
    have HR := Lib.hid (release_pro w h hp hs)
    have HL := Lib.hid h.lt
    have HLL := Lib.hid (show (flat [leadY y]).length ≤ 1000000 by simp [flat, lead_len]; omega)
    have HLS := Lib.hid (show (freeY y).ls.length ≤ 2000 from hls)
    clear h h0 e hp hs hls
    go_enter Tryz.func93, Tryz.ntmps93
    go_wp2_with fail
    refine HW.out.mono ?_
    rintro e w1 ⟨rfl, rfl⟩
    go_wp2_with fail
    refine HR.out.mono ?_
    rintro e w1 ⟨v, rfl, ho, hI, hK⟩
    obtain ⟨pv, cv, rfl⟩ := lenL ho
    have HP := Lib.hid (lists_new1 w1 _ _ ((RdG.own ho rfl).imp (Q := fun _ => True) fun _ _ _ => trivial) trivial)
    have HI1 := Lib.hid (hI.below (below_box w1 (.cells #[.slice pv (leadY y).length cv] 34)))
    have HK1 := Lib.hid (hK.alloc (fun b hb => Nat.lt_of_lt_of_le (HL.out b hb) hK.size) (.cells #[.slice pv (leadY y).length cv] 34))
    clear ho hI hK
    go_wp2_with fail
    refine (tell_pro [leadY y] _ _ HI1.out HP.out HLL.out HLS.out).mono ?_
    rintro e w2 ⟨rfl, h3, hk⟩
    have H3 := Lib.hid h3
    have HK2 := Lib.hid hk
    clear h3 hk
    go_wp2_with fail
    first | go_end0 | refine bodyPost_ret (results_none rfl _ _ _) rfl ?_
    have e : flat [leadY y] = leadY y := by simp [flat]
    rw [e] at H3
    exact ⟨rfl, H3.out.less (fun b hb => .inl hb), HK1.out.trans (HK2.out.mono fun b hb => .inl hb)⟩
end Go.Proofs.YtjohhahfpgfjdaaGreatDoor.Tb
end
