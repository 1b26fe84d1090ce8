/- Good and Plain of the document's answer for layer 2: the first character that is bad, or not plain. -/
import Derived.Test.YtoeknophfcfahaaGreatDoorCharsn
namespace Go.Proofs.YtoeknophfcfahaaGreatDoor
open Go.RowKit Go.Maps

theorem find_at {p : Ch → Bool} : ∀ {l : List Ch} {k : Nat} {c : Ch}, l[k]? = some c → p c = true → (∀ j d, j < k → l[j]? = some d → p d = false) → l.find? p = some c
  | [], k, c, h, _, _ => by simp at h
  | a :: l, 0, c, h, hp, _ => by simp at h; subst h; simp [hp]
  | a :: l, k + 1, c, h, hp, hn => by
    have ha : p a = false := hn 0 a (by omega) rfl
    rw [List.find?_cons, ha]
    exact find_at (by simpa using h) hp fun j d hj hd => hn (j + 1) d (by omega) (by simpa using hd)
theorem find_no {p : Ch → Bool} {l : List Ch} (hn : ∀ j d, j < l.length → l[j]? = some d → p d = false) : l.find? p = none := by
  rw [List.find?_eq_none]
  intro x hx
  obtain ⟨j, hj, e⟩ := List.getElem_of_mem hx
  have := hn j x hj (by rw [List.getElem?_eq_getElem hj, e])
  simp [this]
def placeOf (o : Option Ch) : Int := match o with | some c => c.1 | none => 0
def unplain (c : Ch) : Bool := badB c || ctl c.2.1
/-- What Good and Plain answer, by what is looked for. -/
def Finds (p : Ch → Bool) (s : ByteArray) (w : World) (e : Ending) (w' : World) : Prop :=
  e = .returned (.tuple #[.int .i64 (placeOf ((chars s).find? p)), .bool ((chars s).find? p).isNone]) ∧ Below w.heap.size w w'
theorem finds_at {p : Ch → Bool} {s : ByteArray} {w w' : World} {k : Nat} {c : Ch} (h : (chars s)[k]? = some c) (hp : p c = true) (hn : ∀ j d, j < k → (chars s)[j]? = some d → p d = false) (hb : Below w.heap.size w w') :
    Finds p s w (.returned (.tuple #[.int .i64 c.1, .bool false])) w' := by
  unfold Finds
  rw [find_at h hp hn]
  exact ⟨rfl, hb⟩
theorem finds_no {p : Ch → Bool} {s : ByteArray} {w w' : World} (hn : ∀ j d, j < (chars s).length → (chars s)[j]? = some d → p d = false) (hb : Below w.heap.size w w') :
    Finds p s w (.returned (.tuple #[.int .i64 0, .bool true])) w' := by
  unfold Finds
  rw [find_no hn]
  exact ⟨rfl, hb⟩

set_option maxRecDepth 100000 in
set_option maxHeartbeats 1000000 in
theorem plain_ref (s : ByteArray) (w : World) (hs : s.size ≤ 16777216) :
    Calls Tryz.prog 40 #[.string s] w (Finds unplain s w) := by
  have HS := Lib.hid hs
  have hl : (chars s).length ≤ 16777216 := Nat.le_trans (chars_len s) hs
  clear hs
  go_enter Tryz.func40, Tryz.ntmps40
  go_wp2_with (go_at_call 72; refine (chars_ref s _ HS.out).mono ?_; rintro e w1 ⟨v, xs, rfl, hown, hx, hbw⟩; have HW := Lib.hid hown; have HX := Lib.hid hx; have HB := Lib.hid hbw; clear hown hx hbw)
  go_loop [5] (fun i => ∃ k : Nat, i = .int .i64 k ∧ k ≤ (chars s).length ∧ ∀ j d, j < k → (chars s)[j]? = some d → unplain d = false) (fun i => (chars s).length - (intOf i).toNat)
  case atStart => exact ⟨0, rfl, Nat.zero_le _, fun j d h => absurd h (by omega)⟩
  case round =>
    obtain ⟨k, rfl, hk, hn⟩ := hrel
    have HN := Lib.hid hn
    clear hn
    by_cases hlt : k < (chars s).length
    · obtain ⟨g, cap, rfl, hg, hgl⟩ := World.ownsRow.form HW.out (by omega)
      obtain ⟨c, hc⟩ : ∃ c, (chars s)[k]? = some c := ⟨_, List.getElem?_eq_getElem hlt⟩
      obtain ⟨h0, h1, h2⟩ := HX.out.2 k c hc
      have hxl := HX.out.1
      have g0 := (World.ownsRow.cellAt HW.out (k * 4) (by omega)).trans h0
      have g1 := (World.ownsRow.cellAt HW.out (k * 4 + 1) (by omega)).trans h1
      have g3 := (World.ownsRow.cellAt HW.out (k * 4 + 3) (by omega)).trans (h2 hlt).2
      have HC := Lib.hid hc
      clear h0 h1 h2 hxl hc
      have next : unplain c = false → ∀ j d, j < k + 1 → (chars s)[j]? = some d → unplain d = false := by
        intro hb j d hj hd
        by_cases e : j = k
        · subst e; rw [HC.out] at hd; cases hd; exact hb
        · exact HN.out j d (by omega) hd
      have HT := Lib.hid next
      clear next
      by_cases hb : badB c = true
      · have hu : unplain c = true := by simp [unplain, hb]
        have HU := Lib.hid hu
        clear hu
        go_wp2_with fail
        go_ret2
        exact finds_at HC.out HU.out HN.out HB.out
      · have hb' : badB c = false := by simpa using hb
        clear hb
        by_cases hq : ctl c.2.1 = true
        · have hu : unplain c = true := by simp [unplain, hq]
          have HU := Lib.hid hu
          clear hu
          go_wp2_with (go_at_call 82; refine (control_ref _ _).mono ?_; rintro e w2 ⟨rfl, rfl⟩)
          go_ret2
          exact finds_at HC.out HU.out HN.out HB.out
        · have hq' : ctl c.2.1 = false := by simpa using hq
          clear hq
          have hu : unplain c = false := by simp [unplain, hb', hq']
          have HU := Lib.hid hu
          clear hu
          go_wp2_with (go_at_call 82; refine (control_ref _ _).mono ?_; rintro e w2 ⟨rfl, rfl⟩)
          go_round
          case rel => exact ⟨k + 1, by go_num, by omega, HT.out HU.out⟩
          case measure => simp [intOf]; omega
    · obtain rfl : k = (chars s).length := by omega
      rcases HW.out.2 with ⟨rfl, h0⟩ | ⟨g, cap, cur, rfl, _⟩
      · have hz : ((chars s).length : Int) ≤ 0 := by omega
        clear h0
        go_wp2_with fail
        go_ret2
        exact finds_no HN.out HB.out
      · go_wp2_with fail
        go_ret2
        exact finds_no HN.out HB.out
end Go.Proofs.YtoeknophfcfahaaGreatDoor
