/- The leaves of package measure, walked: what each gives. -/
import Derived.Test.YtkkcoajgpdpfkabDoorProg
import Derived.Test.YtkkcoajgpdpfkabDoorMsModel
import Derived.WalkKit
import Derived.WalkSpells
import Derived.WalkLawsBesides
import Derived.Handy
import Derived.Lib.Hide
import Derived.Deep.QuietTactic
import Derived.BigQuiet
namespace Go.Proofs.YtkkcoajgpdpfkabDoor
open Go.RowKit Go.PlainAid

abbrev thrown (c : Int) : Ending := .panicked [{ v := .iface 31 (.int .i64 c), recovered := false }]

/-- A value, or a throw; the world as it was. -/
def PureV (r : Ms.Res Int) (w : World) (e : Ending) (w' : World) : Prop :=
  match r with
  | .ok v => e = .returned (.int .i64 v) ∧ w = w'
  | .er c => e = thrown c ∧ w = w'

set_option maxHeartbeats 400000 in
theorem within_any (n : Int) (w : World) :
    Calls Tryd.prog 47 #[.int .i64 n] w (PureV (Ms.within n) w) := by
  by_cases h : -1000000000 ≤ n
  · by_cases h2 : n ≤ 1000000000
    · rw [show Ms.within n = .ok n from if_pos ⟨h, h2⟩]
      go_enter Tryd.func47, Tryd.ntmps47
      go_wp2
      go_ret
      exact ⟨rfl, rfl⟩
    · rw [show Ms.within n = .er 5 from if_neg (by omega)]
      have h2' : 1000000000 < n := by omega
      go_enter Tryd.func47, Tryd.ntmps47
      go_wp2
      exact ⟨rfl, rfl, rfl⟩
  · rw [show Ms.within n = .er 5 from if_neg (by omega)]
    have h' : n < -1000000000 := by omega
    go_enter Tryd.func47, Tryd.ntmps47
    go_wp2
    exact ⟨rfl, rfl, rfl⟩

set_option maxHeartbeats 400000 in
theorem isDigit_any (c : Int) (w : World) :
    Calls Tryd.prog 84 #[.int .u8 c] w fun e w' => e = .returned (.bool (Ms.digB c)) ∧ w = w' := by
  by_cases h3 : 48 ≤ c
  all_goals by_cases h4 : c ≤ 57
  all_goals
    go_enter Tryd.func84, Tryd.ntmps84
    go_wp2
    go_ret
    exact ⟨by simp [Ms.digB, h3, h4], rfl⟩

set_option maxHeartbeats 400000 in
theorem isSign_any (c : Int) (w : World) :
    Calls Tryd.prog 76 #[.int .u8 c] w fun e w' => e = .returned (.bool (Ms.sgnB c)) ∧ w = w' := by
  by_cases h1 : c = 43
  · subst h1
    go_enter Tryd.func76, Tryd.ntmps76
    go_wp2
    go_ret
    exact ⟨by simp [Ms.sgnB], rfl⟩
  by_cases h2 : c = 45
  · subst h2
    go_enter Tryd.func76, Tryd.ntmps76
    go_wp2
    go_ret
    exact ⟨by simp [Ms.sgnB], rfl⟩
  by_cases h3 : c = 33
  · subst h3
    go_enter Tryd.func76, Tryd.ntmps76
    go_wp2
    go_ret
    exact ⟨by simp [Ms.sgnB], rfl⟩
  have g1 : (c == 43) = false := by simpa using h1
  have g2 : (c == 45) = false := by simpa using h2
  have g3 : (c == 33) = false := by simpa using h3
  go_enter Tryd.func76, Tryd.ntmps76
  go_wp2
  go_ret
  exact ⟨by simp [Ms.sgnB, g1, g2, g3], rfl⟩

theorem truth_any (b : Bool) (w : World) :
    Calls Tryd.prog 82 #[.bool b] w fun e w' => e = .returned (.int .i64 (Ms.truthI b)) ∧ w = w' := by
  cases b
  all_goals
    go_enter Tryd.func82, Tryd.ntmps82
    go_wp2
    go_ret
    exact ⟨rfl, rfl⟩

set_option maxHeartbeats 400000 in
theorem divisor_any (n : Int) (w : World) :
    Calls Tryd.prog 81 #[.int .i64 n] w (PureV (if n = 0 then .er 11 else .ok n) w) := by
  by_cases h : n = 0
  · subst h
    go_enter Tryd.func81, Tryd.ntmps81
    go_wp2
    exact ⟨rfl, rfl, rfl⟩
  · rw [if_neg h]
    have h' : (n == 0) = false := by simpa using h
    go_enter Tryd.func81, Tryd.ntmps81
    go_wp2
    go_ret
    exact ⟨rfl, rfl⟩

set_option maxHeartbeats 1000000 in
theorem valid_any (z v h : Int) (w : World) :
    Calls Tryd.prog 31 #[.agg #[.int .i64 z, .int .i64 v, .int .i64 h]] w fun e w' => e = .returned (.bool (Ms.validB z v h)) ∧ Below w.heap.size w w' := by
  by_cases h1 : 0 ≤ z
  case neg =>
    go_enter Tryd.func31, Tryd.ntmps31
    go_wp2
    go_ret
    exact ⟨by simp [Ms.validB]; omega, (Below.refl _ _).alloc (Nat.le_refl _) _⟩
  by_cases h2 : z ≤ 1000000
  case neg =>
    go_enter Tryd.func31, Tryd.ntmps31
    go_wp2
    go_ret
    exact ⟨by simp [Ms.validB]; omega, (Below.refl _ _).alloc (Nat.le_refl _) _⟩
  by_cases h3 : 0 ≤ v
  case neg =>
    go_enter Tryd.func31, Tryd.ntmps31
    go_wp2
    go_ret
    exact ⟨by simp [Ms.validB]; omega, (Below.refl _ _).alloc (Nat.le_refl _) _⟩
  by_cases h4 : v ≤ 1000000
  case neg =>
    go_enter Tryd.func31, Tryd.ntmps31
    go_wp2
    go_ret
    exact ⟨by simp [Ms.validB]; omega, (Below.refl _ _).alloc (Nat.le_refl _) _⟩
  by_cases h5 : -1000000000 ≤ h
  case neg =>
    go_enter Tryd.func31, Tryd.ntmps31
    go_wp2
    go_ret
    exact ⟨by simp [Ms.validB]; omega, (Below.refl _ _).alloc (Nat.le_refl _) _⟩
  by_cases h6 : h ≤ 1000000000
  all_goals
    go_enter Tryd.func31, Tryd.ntmps31
    go_wp2
    go_ret
    exact ⟨by simp [Ms.validB, h1, h2, h3, h4, h5, h6], (Below.refl _ _).alloc (Nat.le_refl _) _⟩

end Go.Proofs.YtkkcoajgpdpfkabDoor
