/- Change. -/
import Derived.Test.YtkkcoajgpdpfkabDoorMsPrefix
namespace Go.Proofs.YtkkcoajgpdpfkabDoor
open Go.RowKit Go.PlainAid

def minusB (old : Int) (r : Ms.Res Int) : Ms.Res Int := match r with | .er e => .er e | .ok n => Ms.within (old + -n)
def plusB (old : Int) (r : Ms.Res Int) : Ms.Res Int := match r with | .er e => .er e | .ok n => Ms.within (old + n)
def changeM (old : Int) (s : ByteArray) (c z v h : Int) : Ms.Res Int :=
  if -1000000000 ≤ old ∧ old ≤ 1000000000 then
    (if bt s 0 = 45 then minusB old (evalM (s.extract 1 s.size) c z v h) else if bt s 0 = 43 then plusB old (evalM (s.extract 1 s.size) c z v h) else evalM s c z v h)
  else .er 1

theorem evalM_bd {s : ByteArray} {c z v h x : Int} (he : evalM s c z v h = .ok x) : -1000000000 ≤ x ∧ x ≤ 1000000000 := by
  unfold evalM at he
  split at he
  · split at he
    · rename_i u hu
      unfold Ms.eval at he
      split at he
      · cases he
      · rename_i y q hq
        have := sum_fine ⟨s, z, v, h, u, false⟩ _ (brk_fine _ 20) false 0 0 (Nat.zero_le _) y q hq
        split at he
        · cases he
        · injection he with he; subst he; exact ⟨this.1, this.2.1⟩
    · cases he
  · cases he

theorem isEmpty_no {s : ByteArray} (h : 0 < s.size) : s.toList.isEmpty = false := by
  rw [Lib.toList_data, List.isEmpty_eq_false_iff, ← List.length_pos_iff, ← Lib.size_eq]; exact h
theorem isEmpty_yes {s : ByteArray} (h : s.size = 0) : s.toList.isEmpty = true := by
  rw [Lib.toList_data, List.isEmpty_iff, ← List.length_eq_zero_iff, ← Lib.size_eq]; exact h

theorem change1_any (o n : Int) (b0 b1 : Nat) (w : World) (h0 : w.cell? ⟨b0, 0, none⟩ = some (.int .i64 o)) (h1 : w.cell? ⟨b1, 0, none⟩ = some (.int .i64 n))
    (o0 : -1000000000 ≤ o) (o1 : o ≤ 1000000000) (n0 : -1000000000 ≤ n) (n1 : n ≤ 1000000000) :
    Calls Tryd.prog 46 #[.pointer (some ⟨b0, 0, none⟩), .pointer (some ⟨b1, 0, none⟩)] w (KeptV (Ms.within (o + n)) w) := by
  have HW := Lib.hid (within_any (o + n))
  obtain ⟨r, hr⟩ : ∃ r, Ms.within (o + n) = r := ⟨_, rfl⟩
  rw [hr] at HW ⊢
  clear hr
  rcases r with v | c
  all_goals
    go_enter Tryd.func46, Tryd.ntmps46
    go_wp2_with fail
    refine (HW.out _).mono ?_
    rintro e w1 hp
    obtain ⟨rfl, rfl⟩ := hp
    go_wp2
    first
      | (go_ret; exact ⟨rfl, Below.refl _ _⟩)
      | exact ⟨rfl, rfl, Below.refl _ _⟩

theorem enters_change (cap : Array Value) (w : World) : (callFunc 46 cap).run Tryd.prog w = .ok (.enter 46 cap) w := by kernel_rfl

theorem two_boxes (w : World) (a c : Obj) : Kept w ((w.alloc a).alloc c) := ((Below.refl _ _).alloc (Nat.le_refl _) _).alloc (by simp) _

theorem far_set (w3 : World) (b : Nat) (u : Value) : (w3.setCell ⟨b + 1 + 1, 0, none⟩ u).cell? ⟨b, 0, none⟩ = w3.cell? ⟨b, 0, none⟩ := by
  simp only [World.cell?]
  rw [Below.heap_setCell _ ⟨b + 1 + 1, 0, none⟩ _ _ (by show b ≠ b + 1 + 1; omega)]
theorem kept_alloc {w w3 : World} (h : Kept w w3) (o : Obj) : Kept w (w3.alloc o) := Below.alloc h h.size o
theorem kept_set {w w3 : World} (h : Kept w w3) (u : Value) : Kept w (w3.setCell ⟨w.heap.size + 1 + 1, 0, none⟩ u) := Below.setCell h (p := ⟨w.heap.size + 1 + 1, 0, none⟩) (by show w.heap.size ≤ w.heap.size + 1 + 1; omega) u
theorem kept_then {w W w4 : World} (h : Kept w W) (k : Kept W w4) : Kept w w4 := h.trans (k.mono h.size)

set_option maxRecDepth 100000 in
set_option maxHeartbeats 1000000 in
theorem mchange_out (old : Int) (s : ByteArray) (c z v h : Int) (w : World) (hn : ¬ (-1000000000 ≤ old ∧ old ≤ 1000000000)) :
    Calls Tryd.prog 25 #[.int .i64 old, .string s, .int .u8 c, .agg #[.int .i64 z, .int .i64 v, .int .i64 h]] w (Edge (.er 1) w) := by
  by_cases h3 : -1000000000 ≤ old
  · have h4 : ¬ old ≤ 1000000000 := fun h => hn ⟨h3, h⟩
    clear hn
    go_enter Tryd.func25, Tryd.ntmps25
    go_wp2
    go_ret2
    exact ⟨rfl, two_boxes _ _ _⟩
  · clear hn
    go_enter Tryd.func25, Tryd.ntmps25
    go_wp2
    go_ret2
    exact ⟨rfl, two_boxes _ _ _⟩

set_option maxRecDepth 100000 in
set_option maxHeartbeats 1000000 in
theorem mchange_plain (old : Int) (s : ByteArray) (hs : s.size ≤ 4611686018427387904) (c z v h : Int) (w : World) (ho : OpsAt w) (hg : 0 < w.heap.size)
    (h3 : -1000000000 ≤ old) (h4 : old ≤ 1000000000) (h43 : ¬ bt s 0 = 43) (h45 : ¬ bt s 0 = 45) :
    Calls Tryd.prog 25 #[.int .i64 old, .string s, .int .u8 c, .agg #[.int .i64 z, .int .i64 v, .int .i64 h]] w (Edge (evalM s c z v h) w) := by
  have hgb := get_bt s
  obtain ⟨r, hr⟩ : ∃ r, evalM s c z v h = r := ⟨_, rfl⟩
  have hev := fun w ho hg => eval_any s hs c z v h w ho hg
  rw [hr] at hev ⊢
  have HE := Lib.hid hev
  have e1 : (bt s 0 != 43) = true := by rw [bne_iff_ne]; exact h43
  have e2 : (bt s 0 != 45) = true := by rw [bne_iff_ne]; exact h45
  clear hr hev
  rcases Nat.eq_zero_or_pos s.size with h0 | h0
  · have hne := isEmpty_yes h0
    rcases r with x | cc
    all_goals
      go_enter Tryd.func25, Tryd.ntmps25
      go_wp2_with fail
      refine (HE.out _ (ho.below (two_boxes w _ _) hg) (Nat.lt_of_lt_of_le hg (two_boxes w _ _).size)).mono ?_
      rintro e w1 ⟨rfl, hb⟩
      go_wp2_with fail
      go_ret2
      exact ⟨rfl, (two_boxes w _ _).trans (hb.mono (two_boxes w _ _).size)⟩
  · have hne := isEmpty_no h0
    rcases r with x | cc
    all_goals
      go_enter Tryd.func25, Tryd.ntmps25
      go_wp2_with fail
      refine (HE.out _ (ho.below (two_boxes w _ _) hg) (Nat.lt_of_lt_of_le hg (two_boxes w _ _).size)).mono ?_
      rintro e w1 ⟨rfl, hb⟩
      go_wp2_with fail
      go_ret2
      exact ⟨rfl, (two_boxes w _ _).trans (hb.mono (two_boxes w _ _).size)⟩
end Go.Proofs.YtkkcoajgpdpfkabDoor
