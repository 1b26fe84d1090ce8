/- What the library's and the program's variables hold that the calls read. -/
import Derived.Test.YtceanagnkcejgaaGreatDoorS2
import Derived.Test.YtceanagnkcejgaaGreatDoorShelf
import Derived.Test.YtceanagnkcejgaaGreatDoorTb
import Derived.Lib.SmallJoins
import Derived.Shelf.Strings.SlTrimAscii
namespace Go.Proofs.YtceanagnkcejgaaGreatDoor
open Go.RowKit
set_option linter.unusedVariables false

structure Tabs (w : World) : Prop where
  len : ∃ m, w.cell? ⟨1, 0, none⟩ = some (.int .i64 m)
  pow : Lib.TabIs Tryz.prog w "internal/strconv.uint64pow10" .u64 Lib.pow10Tab
  syn : ∃ tp p, w.var? Tryz.prog "strconv.ErrSyntax" = some #[.iface tp p]
  rng : ∃ tp p, w.var? Tryz.prog "strconv.ErrRange" = some #[.iface tp p]
  att : ∀ k, k < 7 → w.cell? ⟨0, k, none⟩ = some (.string (bs (attrW.getD k [])))
theorem g_pow : Tryz.prog.globalNamed "internal/strconv.uint64pow10" = some 2 := by kernel_rfl
theorem g_syn : Tryz.prog.globalNamed "strconv.ErrSyntax" = some 3 := by kernel_rfl
theorem g_rng : Tryz.prog.globalNamed "strconv.ErrRange" = some 4 := by kernel_rfl
theorem Tabs.below {B : Nat} {w w' : World} (h : Tabs w) (hb : Below B w w') (hB : w.heap.size ≤ B) : Tabs w' := by
  have go : ∀ (b o : Nat) (v : Value), w.cell? ⟨b, o, none⟩ = some v → w'.cell? ⟨b, o, none⟩ = some v := fun b o v e => (hb.cell (p := ⟨b, o, none⟩) (Nat.lt_of_lt_of_le (cell_in e) hB)).trans e
  obtain ⟨⟨m, hm⟩, h2, ⟨t1, p1, h3⟩, ⟨t2, p2, h4⟩, h5⟩ := h
  exact ⟨⟨m, go _ _ _ hm⟩, Joins.tab_stays g_pow h2 hb hB, ⟨t1, p1, Joins.var_stays g_syn h3 hb hB⟩, ⟨t2, p2, Joins.var_stays g_rng h4 hb hB⟩, fun k hk => go _ _ _ (h5 k hk)⟩
theorem Tabs.at {w w' : World} (h : Tabs w) (hb : Below w.heap.size w w') : Tabs w' := h.below hb (Nat.le_refl _)
theorem Tabs.drewN {w : World} (h : Tabs w) (n : Nat) : Tabs (w.drewN n) := h.at ⟨rfl, rfl, rfl, Nat.le_refl _, fun _ _ => rfl⟩

theorem zeroSet : ∀ w, (zeroValue 120).run Tryz.prog w = .ok (.agg (Array.replicate 256 (.bool false))) w := fun w => by kernel_rfl
theorem infoSet : (Tryz.prog.info? 120).map (·.size) = some 256 := by kernel_rfl
theorem ascii_cut {cs : List UInt8} (h : cs.all (fun b => b.toNat < 128) = true) : ∀ (j : Nat) b, (bs cs).data.toList[j]? = some b → b.toNat < 128 := by
  intro j b hb
  have : b ∈ cs := List.mem_of_getElem? (by simpa [bs] using hb)
  have := List.all_eq_true.1 h b this
  simpa using this
theorem trim_pro (l cs : List UInt8) (w : World) (hl : l.length ≤ 9223372036854775807) (hc : cs.length < 4294967281) (ha : cs.all (fun b => b.toNat < 128) = true) :
    Calls Tryz.prog 63 #[.string (bs l), .string (bs cs)] w (Says (.string (bs (Lib.trimS l cs))) w) :=
  Any.strings_Trim_ascii Tryz.lays160 zeroSet infoSet (bs l) (bs cs) w (by show l.toArray.size ≤ _; simpa using hl) (by show cs.toArray.size < _; simpa using hc) (ascii_cut ha)
def azL : List UInt8 := [97, 98, 99, 100, 101, 102, 103, 104, 105, 106, 107, 108, 109, 110, 111, 112, 113, 114, 115, 116, 117, 118, 119, 120, 121, 122]
theorem az_is (c : UInt8) : azL.contains c = isL c := by
  have key : ∀ n, n < 256 → azL.contains (UInt8.ofNat n) = isL (UInt8.ofNat n) := by decide +kernel
  have := key c.toNat (UInt8.toNat_lt c)
  simpa using this
theorem drop_nil {p : UInt8 → Bool} : ∀ l : List UInt8, l.dropWhile p = [] ↔ l.all p = true
  | [] => by simp
  | a :: l => by
    by_cases h : p a = true
    · simp only [List.dropWhile_cons, h, if_true, List.all_cons, Bool.true_and]; exact drop_nil l
    · simp only [List.dropWhile_cons, h, List.all_cons]; simp
theorem drop_head {p : UInt8 → Bool} {l r : List UInt8} {a : UInt8} (h : l.dropWhile p = a :: r) : p a = false := by
  induction l with
  | nil => simp at h
  | cons b l ih =>
    by_cases hb : p b = true
    · rw [List.dropWhile_cons, if_pos hb] at h; exact ih h
    · rw [List.dropWhile_cons, if_neg hb] at h
      injection h with h1 h2
      subst h1
      simpa using hb
theorem trim_nil (l : List UInt8) : Lib.trimS l azL = [] ↔ l.all isL = true := by
  have e : (fun c => azL.contains c) = isL := funext az_is
  have hr : Lib.trimRightS l azL = (l.reverse.dropWhile isL).reverse := by unfold Lib.trimRightS; rw [← e]
  have hl : ∀ r, Lib.trimLeftS r azL = r.dropWhile isL := fun r => by unfold Lib.trimLeftS; rw [← e]
  unfold Lib.trimS
  rw [hl, hr, drop_nil, List.all_reverse]
  cases h : l.reverse.dropWhile isL with
  | nil =>
    have h2 := (drop_nil _).1 h
    rw [List.all_reverse] at h2
    simp [h2]
  | cons a r =>
    have ha := drop_head h
    have h2 : ¬ l.all isL = true := by
      intro h3
      have h4 := (drop_nil l.reverse).2 (by rw [List.all_reverse]; exact h3)
      rw [h4] at h; cases h
    simp only [List.all_cons, ha, Bool.false_and]
    exact ⟨fun h => absurd h (by decide), fun h => absurd h h2⟩
theorem bs_len (l : List UInt8) : (bs l).size = l.length := by show (l.toArray).size = _; simp
theorem bs_toList (l : List UInt8) : (bs l).toList = l := by rw [ByteArray.toList_eq]; show l.toArray.toList = l; simp

set_option maxRecDepth 100000 in
set_option maxHeartbeats 1000000 in
theorem isName_pro (l : List UInt8) (w : World) (hl : l.length ≤ 9223372036854775807) :
    Calls Tryz.prog 47 #[.string (bs l)] w (Says (.bool (nameB l)) w) := by
  have hz := bs_len l
  have ht := bs_toList l
  by_cases h0 : l = []
  · subst h0
    go_enter Tryz.func47, Tryz.ntmps47
    go_wp2_with fail
    go_ret
    exact ⟨rfl, Below.refl _ _⟩
  · have ne : l.isEmpty = false := by cases l with | nil => exact absurd rfl h0 | cons a r => rfl
    by_cases h12 : l.length ≤ 12
    · obtain ⟨r, hr⟩ : ∃ r, Lib.trimS l azL = r := ⟨_, rfl⟩
      have HT := Lib.hid (trim_pro l azL w hl (by decide) (by decide))
      rw [hr] at HT
      have hn := trim_nil l
      rw [hr] at hn
      have hy := bs_toList r
      have h12' : (l.length : Int) ≤ 12 := by omega
      by_cases he : r = []
      · have HB := Lib.hid (show nameB l = true by unfold nameB; rw [hn.1 he, ne]; simp [h12])
        subst he
        clear hn hr
        go_enter Tryz.func47, Tryz.ntmps47
        go_wp2_with fail
        refine HT.out.mono ?_
        rintro e w1 ⟨rfl, hb⟩
        have HB1 := Lib.hid hb
        clear hb
        go_wp2_with fail
        go_ret
        rw [HB.out]
        exact ⟨rfl, HB1.out⟩
      · have HB := Lib.hid (show nameB l = false by
          unfold nameB
          cases h : l.all isL with
          | true => exact absurd (hn.2 h) he
          | false => rfl)
        have hre : r.isEmpty = false := by cases r with | nil => exact absurd rfl he | cons a r => rfl
        clear hn hr
        go_enter Tryz.func47, Tryz.ntmps47
        go_wp2_with fail
        refine HT.out.mono ?_
        rintro e w1 ⟨rfl, hb⟩
        have HB1 := Lib.hid hb
        clear hb
        go_wp2_with fail
        go_ret
        rw [HB.out]
        exact ⟨rfl, HB1.out⟩
    · have HB := Lib.hid (show nameB l = false by unfold nameB; rw [ne]; simp [h12])
      have h12' : decide ((l.length : Int) ≤ 12) = false := by simp; omega
      clear h12
      go_enter Tryz.func47, Tryz.ntmps47
      go_wp2_with fail
      go_ret
      rw [HB.out]
      exact ⟨rfl, Below.refl _ _⟩
end Go.Proofs.YtceanagnkcejgaaGreatDoor
