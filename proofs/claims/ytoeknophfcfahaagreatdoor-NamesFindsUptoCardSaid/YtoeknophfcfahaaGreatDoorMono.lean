/- No step of a run takes back what was asked of the tape: the count of draws never falls. Nothing of the program is in it. -/
import Derived.Lone
import Derived.RunT
import Derived.Calls
namespace Go.Proofs.YtoeknophfcfahaaGreatDoor
open Go
set_option linter.unusedVariables false
set_option linter.unusedSimpArgs false

theorem ask_low {α : Type} (a : Ask α) : ∀ w : World, w.drawn ≤ (w.ask a).2.drawn := by
  induction a with
  | done a => intro w; exact Nat.le_refl _
  | ask what range k ih =>
    intro w
    unfold World.ask
    dsimp only
    split
    · exact ih _ _
    · exact Nat.le_trans (Nat.le_succ w.drawn) (ih _ { w with drawn := w.drawn + 1 })
theorem sys_low (w : World) (c : Sys) : w.drawn ≤ (w.sys c).2.drawn := by
  unfold World.sys
  have h := ask_low (Kernel.perform c w.os) w
  split
  · exact Nat.le_refl _
  · rename_i e
    rw [e] at h
    exact h
theorem far_low {p : Program} {w w' : World} {a : Addr} {v : Value} {t : Bool} {l : List Addr} (h : w.farStore p a v t = .ok (w', l)) : w'.drawn = w.drawn := by
  unfold World.farStore at h
  split at h
  · split at h
    · rename_i e
      cases h
      unfold World.viewStore at e
      simp only [bind, Except.bind, pure, Except.pure, throw, throwThe, MonadExceptOf.throw] at e
      repeat' first
        | (cases e; rfl)
        | (cases e; done)
        | split at e
    · cases h
  · cases h
/-- The world that a run ends in. -/
def rworld {α : Type} : Result α → World
  | .ok _ w => w
  | .halt _ w => w
theorem freeze_drawn (w : World) (a : Addr) (n : Nat) : (w.freeze a n).drawn = w.drawn := by
  unfold World.freeze
  repeat' first
    | rfl
    | split
theorem run_low {α : Type} (p : Program) (s : Sem α) : ∀ w : World, w.drawn ≤ (rworld (s.run p w)).drawn := by
  induction s with
  | pure a => intro w; exact Nat.le_refl _
  | load m a k ih =>
    intro w
    unfold Sem.run
    split
    · exact ih _ _
    · split
      · exact ih _ _
      · exact Nat.le_refl _
  | store m a v k ih =>
    intro w
    have go : w.drawn ≤ (rworld (match w.cell? a with
        | some _ => if w.frozen? a then .halt (.unsupported (.unsafePointer "a write to bytes that a string shares")) w else k.run p (w.setCell a v)
        | none => match w.farStore p a v (m == .atomic) with
          | .ok (w, _) => k.run p w
          | .error h => .halt h w)).drawn := by
      split
      · split
        · exact Nat.le_refl _
        · exact Nat.le_trans (Nat.le_refl _) (ih (w.setCell a v))
      · split
        · rename_i e
          have := far_low e
          exact Nat.le_trans (by rw [this]; exact Nat.le_refl _) (ih _)
        · exact Nat.le_refl _
    cases v
    all_goals first
      | exact go
      | exact Nat.le_refl _
  | new o k ih => intro w; exact ih w.heap.size { w with heap := w.heap.push o }
  | shape r k ih => intro w; exact ih _ _
  | freeze a n k ih => intro w; exact Nat.le_trans (Nat.le_of_eq (freeze_drawn w a n).symm) (ih (w.freeze a n))
  | frozen a k ih => intro w; exact ih _ _
  | getObj r k ih =>
    intro w
    unfold Sem.run
    split
    · exact Nat.le_refl _
    · exact ih _ _
    · exact Nat.le_refl _
  | setObj r o k ih =>
    intro w
    unfold Sem.run
    split
    · exact Nat.le_refl _
    · exact ih { w with heap := w.heap.setIfInBounds r o }
    · exact Nat.le_refl _
  | choose q k ih =>
    intro w
    unfold Sem.run
    split
    · exact ih _ _
    · exact Nat.le_trans (Nat.le_succ w.drawn) (ih _ { w with drawn := w.drawn + 1 })
  | sys c k ih => intro w; exact Nat.le_trans (sys_low w c) (ih _ _)
  | program k ih => intro w; exact ih _ _
  | mark m k ih => intro w; exact ih _
  | halt h => intro w; exact Nat.le_refl _
theorem ok_low {α : Type} {p : Program} {s : Sem α} {w w' : World} {a : α} (h : s.run p w = .ok a w') : w.drawn ≤ w'.drawn := by
  have := run_low p s w
  rw [h] at this
  exact this
theorem halt_low {α : Type} {p : Program} {s : Sem α} {w w' : World} {a : Halt} (h : s.run p w = .halt a w') : w.drawn ≤ w'.drawn := by
  have := run_low p s w
  rw [h] at this
  exact this
theorem runT_low {α : Type} {p : Program} {s : Sem α} {w : World} {es es' : Array Event} {r : Result α} (h : s.runT p w es = (r, es')) : w.drawn ≤ (rworld r).drawn := by
  have e := Sem.runT_fst p s w es
  rw [h] at e
  have := run_low p s w
  rw [← e] at this
  exact this
/-- A step of one goroutine leaves the count at d or above. -/
def glow (d : Nat) : GStep → Prop
  | .go _ w _ => d ≤ w.drawn
  | .comm _ _ _ _ w _ => d ≤ w.drawn
  | .spawn _ _ w _ => d ≤ w.drawn
  | .count _ w _ => d ≤ w.drawn
  | .timer _ _ w _ => d ≤ w.drawn
  | .alone _ _ w _ => d ≤ w.drawn
  | .newcoro _ _ _ w _ => d ≤ w.drawn
  | .coroswitch _ _ _ w _ => d ≤ w.drawn
  | .collect _ w _ => d ≤ w.drawn
  | .watch _ w _ => d ≤ w.drawn
  | .ended _ _ _ => True
theorem glow_after {d : Nat} {es : Array Event} {s : GStep} (h : glow d s) : glow d (GStep.after es s) := by
  cases s <;> exact h
theorem glow_ite {d : Nat} {c : Prop} [Decidable c] {a b : GStep} (h1 : glow d a) (h2 : glow d b) : glow d (if c then a else b) := by
  split
  · exact h1
  · exact h2
theorem ok_le {α : Type} {p : Program} {s : Sem α} {w w' : World} {a : α} {d : Nat} (h : s.run p w = .ok a w') (hd : d ≤ w.drawn) : d ≤ w'.drawn := Nat.le_trans hd (ok_low h)
theorem halt_le {α : Type} {p : Program} {s : Sem α} {w w' : World} {a : Halt} {d : Nat} (h : s.run p w = .halt a w') (hd : d ≤ w.drawn) : d ≤ w'.drawn := Nat.le_trans hd (halt_low h)
theorem runT_ok {α : Type} {p : Program} {s : Sem α} {w w' : World} {es es' : Array Event} {a : α} {d : Nat} (h : s.runT p w es = (.ok a w', es')) (hd : d ≤ w.drawn) : d ≤ w'.drawn := Nat.le_trans hd (runT_low h)
theorem runT_halt {α : Type} {p : Program} {s : Sem α} {w w' : World} {es es' : Array Event} {a : Halt} {d : Nat} (h : s.runT p w es = (.halt a w', es')) (hd : d ≤ w.drawn) : d ≤ w'.drawn := Nat.le_trans hd (runT_low h)
theorem endWith_low (w : World) (c : Nat) (b : ByteArray) (o : Outcome) (d : Nat) (hd : d ≤ w.drawn) : glow d (endWith w c b o) := by
  unfold endWith
  dsimp only
  repeat' first
    | exact trivial
    | exact hd
    | (exact ok_le (by assumption) hd)
    | split
theorem dieOf_low (fr : Frame) (l : List ByteArray) (m : String) (b : Bool) (w : World) (d : Nat) (hd : d ≤ w.drawn) : glow d (dieOf fr l m b w) := hd
theorem throw_low (fr : Frame) (m : String) (w : World) (d : Nat) (hd : d ≤ w.drawn) : glow d (endThrow fr m w) := hd
theorem printing_low (p : Program) (fr : Frame) (v : Value) (w : World) (d : Nat) (hd : d ≤ w.drawn) : glow d (endPrinting p fr v w) := by
  unfold endPrinting
  dsimp only
  split
  · exact hd
  · exact trivial
theorem fatal_low (p : Program) (fr : Frame) (cs : List Frame) (dy : Option Dying) (m : String) (w : World) (d : Nat) (hd : d ≤ w.drawn) : glow d (endFatal p fr cs dy m w) := by
  unfold endFatal
  dsimp only
  generalize hr : Sem.run p _ w = r
  rcases r with ⟨a, w'⟩ | ⟨h, w'⟩
  · exact ok_le hr hd
  · have h2 := halt_le hr hd
    repeat' first
      | exact trivial
      | exact h2
      | exact printing_low _ _ _ _ _ h2
      | exact dieOf_low _ _ _ _ _ _ h2
      | (cases ‹Result.halt _ _ = Result.ok _ _›; done)
      | (cases ‹Result.ok _ _ = Result.halt _ _›; done)
      | (cases ‹Result.ok _ _ = Result.ok _ _›; first | exact trivial | exact h2)
      | (cases ‹Result.halt _ _ = Result.halt _ _›; first | exact trivial | exact h2 | exact printing_low _ _ _ _ _ h2)
      | split
theorem writeOn_low (p : Program) (fr : Frame) (dy : Dying) (f : Fatal) (w : World) (d : Nat) (hd : d ≤ w.drawn) : glow d (writeOn p fr dy f w) := by
  unfold writeOn
  dsimp only
  split
  · exact trivial
  · generalize hr : Sem.runT p _ w #[] = r
    obtain ⟨r, es⟩ := r
    rcases r with ⟨a, w'⟩ | ⟨h, w'⟩
    · exact runT_ok hr hd
    · have h2 := runT_halt hr hd
      cases h
      all_goals first
        | exact trivial
        | exact h2
theorem die_low (p : Program) (fr : Frame) (dy : Dying) (w : World) (d : Nat) (hd : d ≤ w.drawn) : glow d (die p fr dy w) := by
  unfold die
  dsimp only
  split
  · exact writeOn_low _ _ _ _ _ _ hd
  · split
    · split
      · exact hd
      · exact endWith_low _ _ _ _ _ hd
    · split
      · exact hd
      · generalize hr : Sem.run p _ w = r
        rcases r with ⟨a, w'⟩ | ⟨h, w'⟩
        · exact ok_le hr hd
        · exact trivial
      · generalize hr : Sem.runT p _ w #[] = r
        obtain ⟨r, es⟩ := r
        refine glow_after ?_
        dsimp only
        rcases r with ⟨a, w'⟩ | ⟨h, w'⟩
        · have h2 := runT_ok hr hd
          repeat' first
            | exact trivial
            | exact h2
            | exact printing_low _ _ _ _ _ h2
            | exact dieOf_low _ _ _ _ _ _ h2
            | exact fatal_low _ _ _ _ _ _ _ h2
            | (cases ‹Result.halt _ _ = Result.ok _ _›; done)
            | (cases ‹Result.ok _ _ = Result.halt _ _›; done)
            | (cases ‹Result.ok _ _ = Result.ok _ _›; first | exact trivial | exact h2)
            | (cases ‹Result.halt _ _ = Result.halt _ _›; first | exact trivial | exact h2 | exact printing_low _ _ _ _ _ h2)
            | split
        · have h2 := runT_halt hr hd
          repeat' first
            | exact trivial
            | exact h2
            | exact printing_low _ _ _ _ _ h2
            | exact dieOf_low _ _ _ _ _ _ h2
            | exact fatal_low _ _ _ _ _ _ _ h2
            | (cases ‹Result.halt _ _ = Result.ok _ _›; done)
            | (cases ‹Result.ok _ _ = Result.halt _ _›; done)
            | (cases ‹Result.ok _ _ = Result.ok _ _›; first | exact trivial | exact h2)
            | (cases ‹Result.halt _ _ = Result.halt _ _›; first | exact trivial | exact h2 | exact printing_low _ _ _ _ _ h2)
            | split
      · exact trivial
theorem doReturn_low (p : Program) (main : Bool) (fr : Frame) (cs : List Frame) (dy : Option Dying) (v : Value) (w : World) (d : Nat) (hd : d ≤ w.drawn) : glow d (doReturn p main fr cs dy v w) := by
  unfold doReturn
  dsimp only
  repeat' first
    | exact hd
    | exact trivial
    | split
theorem callDeferred_low (p : Program) (fr : Frame) (cs : List Frame) (dy : Option Dying) (df : Deferred) (w : World) (d : Nat) (hd : d ≤ w.drawn) : glow d (callDeferred p fr cs dy df w) := by
  unfold callDeferred
  dsimp only
  refine glow_ite trivial ?_
  · generalize hr : Sem.runT p _ w #[] = r
    obtain ⟨r, es⟩ := r
    refine glow_after ?_
    dsimp only
    rcases r with ⟨a, w'⟩ | ⟨h, w'⟩
    · have h2 := runT_ok hr hd
      cases a
      all_goals (try dsimp only)
      all_goals
        repeat' first
          | exact trivial
          | exact h2
          | (rename_i b; cases b <;> (first | exact trivial | exact h2))
          | (rename_i b v; cases b <;> (first | exact trivial | exact h2))
          | split
    · have h2 := runT_halt hr hd
      cases h
      all_goals (try dsimp only)
      all_goals
        repeat' first
          | exact trivial
          | exact h2
          | exact fatal_low _ _ _ _ _ _ _ h2
          | split
theorem unwind_low (p : Program) (main : Bool) (fr : Frame) (cs : List Frame) (dy : Option Dying) (w : World) (d : Nat) (hd : d ≤ w.drawn) : glow d (unwind p main fr cs dy w) := by
  unfold unwind
  dsimp only
  split
  · generalize hr : Sem.runT p _ w #[] = r
    obtain ⟨r, es⟩ := r
    refine glow_after ?_
    dsimp only
    rcases r with ⟨a, w'⟩ | ⟨h, w'⟩
    · exact runT_ok hr hd
    · exact trivial
  · exact callDeferred_low _ _ _ _ _ _ _ hd
  · split
    · exact trivial
    · refine glow_ite trivial ?_
      split
      · exact hd
      · split
        · refine glow_ite hd ?_
          generalize hr : Sem.run p _ w = r
          rcases r with ⟨a, w'⟩ | ⟨h, w'⟩
          · exact ok_le hr hd
          · cases h <;> exact trivial
        · split
          · exact printing_low _ _ _ _ _ hd
          · exact trivial
    · split
      · exact doReturn_low _ _ _ _ _ _ _ _ hd
      · generalize hr : Sem.runT p _ w #[] = r
        obtain ⟨r, es⟩ := r
        refine glow_after ?_
        dsimp only
        rcases r with ⟨a, w'⟩ | ⟨h, w'⟩
        · exact doReturn_low _ _ _ _ _ _ _ _ (runT_ok hr hd)
        · cases h <;> exact trivial
theorem early_low (p : Program) (fr : Frame) (cs : List Frame) (dy : Option Dying) (g : Nat) (w : World) (d : Nat) (hd : d ≤ w.drawn) : glow d (early p fr cs dy g w) := by
  have hn : ∀ w1 : World, d ≤ w1.drawn → glow d (match w1.heap[g]? with
    | some (.pending c elem) => .go { frame := fr, callers := cs, status := .running, dying := dy } { w1 with heap := w1.heap.setIfInBounds g (.cells c elem) }
    | _ => .ended (.stuck "early: the variable does not wait" (fr.pos p)) w1) := by
    intro w1 h1
    split
    · exact h1
    · exact trivial
  unfold early
  dsimp only
  refine glow_ite (hn _ hd) ?_
  split
  · exact trivial
  · refine glow_ite (hn _ hd) (glow_ite (hn _ hd) ?_)
    split
    · exact trivial
    · exact hd
    · exact trivial
    · exact hn _ hd
    · refine glow_ite hd (glow_ite (hn _ hd) ?_)
      generalize hr : Sem.run p _ w = r
      rcases r with ⟨a, w'⟩ | ⟨h, w'⟩
      · have h2 := ok_le hr hd
        cases a
        · exact hn _ h2
        · exact h2
      · exact trivial
theorem apply_low (p : Program) (listen : Bool) (fr : Frame) (cs : List Frame) (dy : Option Dying) (s : Sem Next) (w : World) (d : Nat) (hd : d ≤ w.drawn) : glow d (stepG.apply p listen fr cs dy s w) := by
  unfold stepG.apply
  dsimp only
  have hr : ∀ r es, (if listen then s.runT p w #[] else (s.run p w, #[])) = (r, es) → w.drawn ≤ (rworld r).drawn := by
    intro r es h
    split at h
    · exact runT_low h
    · cases h; exact run_low p s w
  generalize (if listen then s.runT p w #[] else (s.run p w, #[])) = r at hr ⊢
  obtain ⟨r, es⟩ := r
  have h1 := Nat.le_trans hd (hr r es rfl)
  clear hr
  refine glow_after ?_
  dsimp only
  rcases r with ⟨a, w'⟩ | ⟨h, w'⟩
  · have h2 : d ≤ w'.drawn := h1
    cases a
    all_goals (try dsimp only)
    all_goals
      repeat' first
      | exact trivial
      | exact h2
      | exact printing_low _ _ _ _ _ h2
      | exact dieOf_low _ _ _ _ _ _ h2
      | exact fatal_low _ _ _ _ _ _ _ h2
      | exact throw_low _ _ _ _ h2
      | exact doReturn_low _ _ _ _ _ _ _ _ h2
      | (cases ‹Result.halt _ _ = Result.ok _ _›; done)
      | (cases ‹Result.ok _ _ = Result.halt _ _›; done)
      | split
  · have h2 : d ≤ w'.drawn := h1
    cases h
    all_goals (try dsimp only)
    all_goals
      repeat' first
      | exact trivial
      | exact h2
      | exact printing_low _ _ _ _ _ h2
      | exact dieOf_low _ _ _ _ _ _ h2
      | exact fatal_low _ _ _ _ _ _ _ h2
      | exact throw_low _ _ _ _ h2
      | exact doReturn_low _ _ _ _ _ _ _ _ h2
      | exact early_low _ _ _ _ _ _ _ h2
      | (rename_i u; cases u <;> (first | exact trivial | exact early_low _ _ _ _ _ _ _ h2))
      | (cases ‹Result.halt _ _ = Result.ok _ _›; done)
      | (cases ‹Result.ok _ _ = Result.halt _ _›; done)
      | split
theorem oper_low (p : Program) (main listen : Bool) (fr : Frame) (cs : List Frame) (dy : Option Dying) (w : World) (d : Nat) (hd : d ≤ w.drawn) : glow d (stepG.oper p listen fr cs dy w) := by
  unfold stepG.oper
  split
  · exact trivial
  · split
    · exact apply_low _ _ _ _ _ _ _ _ hd
    · exact apply_low _ _ _ _ _ _ _ _ hd
theorem exec_low (p : Program) (main listen : Bool) (fr : Frame) (cs : List Frame) (dy : Option Dying) (w : World) (d : Nat) (hd : d ≤ w.drawn) : glow d (stepG.exec p main listen fr cs dy w) := by
  have hl : ∀ jump : Option Code, glow d (match fr.roundOf with
      | none => if jump matches none | some .ret then .go { frame := { fr with mode := .returning }, callers := cs, status := .running, dying := dy } w else .ended (.stuck "exit, goto: no such block or label" (fr.pos p)) w
      | some l =>
        let (r, es) := (Instr.endRound l jump).runT p w #[]
        GStep.after (seen p fr.fn es) <| match r with
        | .ok v w => doReturn p main fr cs dy v w
        | .halt _ w => .ended (.stuck "range over a function: no such loop" (fr.pos p)) w) := by
    intro jump
    split
    · exact glow_ite hd trivial
    · dsimp only
      generalize hr : Sem.runT p _ w #[] = r
      obtain ⟨r, es⟩ := r
      refine glow_after ?_
      dsimp only
      rcases r with ⟨a, w'⟩ | ⟨h, w'⟩
      · exact doReturn_low _ _ _ _ _ _ _ _ (runT_ok hr hd)
      · exact trivial
  unfold stepG.exec
  dsimp only
  split
  · exact hl none
  · exact hl (some .ret)
  · exact hd
  · exact hd
  · exact hd
  · exact hd
  · exact hd
  · split
    · exact hd
    · exact trivial
  · exact hd
  · exact hd
  · exact hd
  · exact hd
  · cases exitTo _ _ with
    | none => exact hl (some (.exit _))
    | some k => exact hd
  · cases gotoIn _ _ with
    | none => exact hl (some (.goto _))
    | some k => exact hd
  · generalize hr : Sem.runT p _ w #[] = r
    obtain ⟨r, es⟩ := r
    refine glow_after ?_
    dsimp only
    rcases r with ⟨a, w'⟩ | ⟨h, w'⟩
    · exact apply_low _ _ _ _ _ _ _ _ (runT_ok hr hd)
    · exact trivial
  · exact trivial
  · exact apply_low _ _ _ _ _ _ _ _ hd
  · generalize hr : Sem.runT p _ w #[] = r
    obtain ⟨r, es⟩ := r
    refine glow_after ?_
    dsimp only
    rcases r with ⟨a, w'⟩ | ⟨h, w'⟩
    · exact runT_ok hr hd
    · cases h
      all_goals first
        | exact trivial
        | exact runT_halt hr hd
  · exact trivial
  · exact apply_low _ _ _ _ _ _ _ _ hd
  · cases Extern.next _ with
    | none => exact trivial
    | some e => exact apply_low _ _ _ _ _ _ _ _ hd
  · refine glow_ite hd ?_
    generalize hr : Sem.run p _ w = r
    rcases r with ⟨a, w'⟩ | ⟨h, w'⟩
    · exact ok_le hr hd
    · exact trivial
  · exact hd
  · exact glow_ite (oper_low _ main _ _ _ _ _ _ hd) hd
theorem stepG_low (p : Program) (main listen : Bool) (g : Goroutine) (w : World) (d : Nat) (hd : d ≤ w.drawn) : glow d (stepG p main g w listen) := by
  unfold stepG
  dsimp only
  split
  · exact die_low _ _ _ _ _ hd
  · exact exec_low _ _ _ _ _ _ _ _ hd
  · exact unwind_low _ _ _ _ _ _ _ hd
/-- A step of the machine leaves the count at d or above. -/
def slow (d : Nat) : Stepped → Prop
  | .next m => d ≤ m.world.drawn
  | .ended _ _ => True
theorem slow_ite {d : Nat} {c : Prop} [Decidable c] {a b : Stepped} (h1 : slow d a) (h2 : slow d b) : slow d (if c then a else b) := by
  split
  · exact h1
  · exact h2
theorem waiting_low {rest : Rest} {cases : Array CommCase} {w w' : World} (h : waitingAt rest cases w = some w') : w'.drawn = w.drawn := by
  unfold waitingAt at h
  repeat' first
    | (cases h; rfl)
    | (cases h; done)
    | split at h
theorem comm_low (p : Program) (rest : Rest) (gs : Array Goroutine) (i : Nat) (g : Goroutine) (cases : Array CommCase) (blocking : Bool) (shape : CommShape) (w : World) (d : Nat) (hd : d ≤ w.drawn) :
    slow d (communicate p rest gs i g cases blocking shape w).1 := by
  unfold communicate
  dsimp only
  split
  · exact trivial
  · split
    · split
      · split
        · rename_i e
          show d ≤ _
          rw [waiting_low e]
          exact hd
        · exact trivial
      · exact hd
    · generalize hr : Sem.run p _ w = r
      rcases r with ⟨a, w'⟩ | ⟨h, w'⟩
      · have h2 := ok_le hr hd
        obtain ⟨k, c, way⟩ := a
        dsimp only
        repeat' first
          | exact trivial
          | exact h2
          | (have h3 := ok_le ‹Sem.run p (choose _) w' = Result.ok _ _› h2; exact h3)
          | (have h3 := halt_le ‹Sem.run p (runtimePanic _) w' = Result.halt _ _› h2; exact h3)
          | split
      · exact trivial
theorem look_low (p : Program) (gs : Array Goroutine) (rest : Rest) (w : World) (d : Nat) (hd : d ≤ w.drawn) : slow d (look p gs rest w) := by
  unfold look
  dsimp only
  split
  · refine slow_ite trivial ?_
    split
    · exact trivial
    · generalize hr : Sem.run p _ w = r
      rcases r with ⟨a, w'⟩ | ⟨h, w'⟩
      · have h3 := ok_le hr hd
        exact h3
      · cases h <;> exact trivial
  · exact trivial
theorem drain_low (w : World) (c : Nat) : (drain w c).2.drawn = w.drawn := by
  unfold drain
  split <;> rfl
theorem retime_low (m : Machine) (k : Nat) (t : Timer) (a b : Nat) : (retime m k t a b).2.world.drawn = m.world.drawn := by
  unfold retime
  dsimp only
  split
  · exact drain_low _ _
  · rfl
theorem timer_low {m m' : Machine} {op : TimerOp} {v : Value} (h : timerOp m op = .ok (v, m')) : m'.world.drawn = m.world.drawn := by
  have hn : ∀ (m1 : Machine) (var : Addr) (f : Nat → Timer → Value × Machine), (∀ k t, (f k t).2.world.drawn = m.world.drawn) → timerOp.named m1 var f = .ok (v, m') → m'.world.drawn = m.world.drawn := by
    intro m1 var f hf h
    unfold timerOp.named at h
    split at h
    · have := hf ‹Nat› (m1.rest.timers.getD ‹Nat› default)
      simp only [Except.ok.injEq] at h
      rw [h] at this
      exact this
    · cases h
  unfold timerOp at h
  split at h
  · split at h
    · cases h; rfl
    · split at h
      · split at h
        · cases h
        · cases h; rfl
      · cases h
  · exact hn _ _ _ (fun k t => retime_low _ _ _ _ _) h
  · split at h
    · rename_i m2 e
      refine hn _ _ _ (fun k t => ?_) h
      rw [retime_low]
      unfold timerOp.opened at e
      split at e
      · split at e
        · cases e; rfl
        · cases e
      · cases e; rfl
    · cases h
  · cases h; rfl
theorem runT_step_low (p : Program) (m : Machine) (i : Nat) (b : Bool) (d : Nat) (hd : d ≤ m.world.drawn) : slow d (runT p m i b).1 := by
  simp only [runT]
  generalize m.gs.swapAt! _ _ = gg
  have hg := stepG_low p (i == 0) b gg.1 m.world d hd
  revert hg
  generalize stepG p _ gg.1 m.world b = s
  intro hg
  cases s
  case comm => exact comm_low _ _ _ _ _ _ _ _ _ _ hg
  case collect => exact look_low _ _ _ _ _ hg
  case ended => exact trivial
  case count => exact slow_ite trivial hg
  case coroswitch g c ex w es =>
    have h1 : d ≤ w.drawn := hg
    dsimp only
    repeat' first
      | exact trivial
      | exact h1
      | (have h3 := throw_low g.frame "coroswitch on exited coro" w d h1; rw [‹endThrow _ _ _ = _›] at h3; exact h3)
      | split
  case timer g op w es =>
    have h1 : d ≤ w.drawn := hg
    dsimp only
    split
    · rename_i v m' e
      have h2 := timer_low e
      show d ≤ m'.world.drawn
      rw [h2]
      exact h1
    · rename_i msg e
      split
      · have h3 := throw_low g.frame msg w d h1
        rw [‹endThrow _ _ _ = _›] at h3
        exact h3
      · exact trivial
    · exact trivial
    · exact trivial
  all_goals exact hg
theorem serve_low (p : Program) (m : Machine) (k : Nat) (d : Nat) (hd : d ≤ m.world.drawn) : slow d (serve p m k) := by
  unfold serve
  dsimp only
  split
  · exact trivial
  · exact hd
  · split
    · exact trivial
    · exact hd
/-- What the machine does next has the count at d or above. -/
def mlow (d : Nat) : Move → Prop
  | .goroutine m _ => d ≤ m.world.drawn
  | .machine s _ => slow d s
theorem askOn_low (p : Program) (m : Machine) (d : Nat) (hd : d ≤ m.world.drawn) : mlow d (askOn p m) := by
  unfold askOn
  dsimp only
  generalize hr : Sem.run p _ m.world = r
  rcases r with ⟨a, w'⟩ | ⟨h, w'⟩
  · have h1 := ok_le hr hd
    clear hr
    dsimp only
    have hp : ∀ m1 : Machine, d ≤ m1.world.drawn → mlow d (match (choose (.sched (runnable m.gs m.world.os.mono).length)).run p m1.world with
      | .halt _ w => .machine (.ended (.stuck "sched" "") w)
      | .ok k world =>
        if (runnable m.gs m.world.os.mono).length ≤ 1 then .goroutine { m1 with world } ((runnable m.gs m.world.os.mono).getD k 0) else
        match (choose (.extern "sched.slice" 65536)).run p world with
        | .halt _ w => .machine (.ended (.stuck "sched.slice" "") w)
        | .ok n world => .goroutine { m1 with world, rest := { m1.rest with slice := if n = 0 then none else some ((runnable m.gs m.world.os.mono).getD k 0, n) } } ((runnable m.gs m.world.os.mono).getD k 0)) := by
      intro m1 hm
      generalize hr : Sem.run p _ m1.world = r
      rcases r with ⟨a, w1⟩ | ⟨h, w1⟩
      · have h2 := ok_le hr hm
        dsimp only
        split
        · exact h2
        · generalize hr2 : Sem.run p _ w1 = r2
          rcases r2 with ⟨a, w2⟩ | ⟨h, w2⟩
          · have h3 := ok_le hr2 h2
            exact h3
          · exact trivial
      · exact trivial
    split
    · exact serve_low _ _ _ _ h1
    · split
      · split
        · exact h1
        · split
          · exact h1
          · split
            · exact trivial
            · exact trivial
      · split
        · exact hp { m with world := w' } h1
        · generalize hr2 : Sem.run p _ w' = r2
          rcases r2 with ⟨a, w2⟩ | ⟨h, w2⟩
          · have h2 := ok_le hr2 h1
            rcases a with _ | _ | a
            · exact hp { m with world := w2 } h2
            · exact h2
            · exact hp _ h2
          · exact trivial
  · exact trivial
theorem move_low (p : Program) (m : Machine) (d : Nat) (hd : d ≤ m.world.drawn) : mlow d (move p m) := by
  have ha : ∀ m1 : Machine, d ≤ m1.world.drawn → mlow d (ask p m1) := by
    intro m1 h1
    unfold ask
    split
    · split
      · exact trivial
      · rename_i w1 e
        have h2 := ok_le e h1
        have h3 := look_low p m1.gs m1.rest w1 d h2
        split
        · rename_i e2
          rw [e2] at h3
          exact askOn_low _ _ _ h3
        · exact h3
      · rename_i w1 hx e
        have h2 := ok_le e h1
        exact askOn_low p { m1 with world := w1 } d h2
    · exact askOn_low _ _ _ h1
  unfold move
  split
  · split
    · exact hd
    · exact trivial
  · split
    · split
      · exact hd
      · exact ha _ hd
    · exact ha _ hd
theorem step_low (p : Program) (m : Machine) (d : Nat) (hd : d ≤ m.world.drawn) : slow d (step p m) := by
  unfold step stepT
  have h := move_low p m d hd
  split
  · rename_i e
    rw [e] at h
    exact runT_step_low _ _ _ _ _ h
  · rename_i e
    rw [e] at h
    exact h
theorem runN_low (p : Program) : ∀ (n : Nat) (m m' : Machine), runN p n m = .next m' → m.world.drawn ≤ m'.world.drawn
  | 0, m, m', h => by cases h; exact Nat.le_refl _
  | n + 1, m, m', h => by
    have h1 := step_low p m m.world.drawn (Nat.le_refl _)
    unfold runN at h
    split at h
    · rename_i e
      rw [e] at h1
      exact Nat.le_trans h1 (runN_low p n _ _ h)
    · rename_i e1 e2
      exact absurd h (e2 _)
theorem Calls.low {P : Program} {f : FuncId} {args : Array Value} {w : World} {R : Ending → World → Prop} (h : Calls P f args w R) :
    Calls P f args w fun e w' => R e w' ∧ (e ≠ .outgrown → w.drawn ≤ w'.drawn) := by
  intro cs
  obtain ⟨e, w', fr, hR, hc, h1, h2⟩ := h cs
  refine ⟨e, w', fr, ⟨hR, fun he => ?_⟩, hc, h1, h2⟩
  cases e with
  | outgrown => exact absurd rfl he
  | returned v => obtain ⟨n, hn⟩ := hc; exact runN_low P n _ _ hn
  | panicked c => obtain ⟨n, hn⟩ := hc; exact runN_low P n _ _ hn
end Go.Proofs.YtoeknophfcfahaaGreatDoor
