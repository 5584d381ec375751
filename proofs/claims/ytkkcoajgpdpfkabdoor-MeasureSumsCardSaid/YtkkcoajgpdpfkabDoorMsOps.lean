/- The reader's reckonings: values, signs, operators done. -/
import Derived.Test.YtkkcoajgpdpfkabDoorMsRd2
namespace Go.Proofs.YtkkcoajgpdpfkabDoor
open Go.RowKit Go.PlainAid

set_option maxHeartbeats 400000 in
theorem reckoned_any (E : Ms.Env) (b : Nat) (p d l n : Int) (w : World) (hr : Rd E b p d l w) :
    Calls Tryd.prog 62 #[.pointer (some ⟨b, 0, none⟩), .int .i64 n] w (PureV (Ms.reck E n) w) := by
  have k8 := hr.c8
  cases hb : E.bl with
  | true =>
    rw [show Ms.reck E n = .ok 0 from by simp [Ms.reck, hb]]
    rw [hb] at k8
    clear hb
    go_enter Tryd.func62, Tryd.ntmps62
    go_wp2
    go_ret
    exact ⟨rfl, rfl⟩
  | false =>
    rw [show Ms.reck E n = Ms.within n from by simp [Ms.reck, hb, Ms.within]]
    rw [hb] at k8
    clear hb
    cases hw : Ms.within n with
    | ok v =>
      have HW := Lib.hid hw
      clear hw
      go_enter Tryd.func62, Tryd.ntmps62
      go_wp2_with fail
      refine (within_any _ _).mono ?_
      rw [HW.out]
      rintro e w1 ⟨rfl, rfl⟩
      go_wp2
      go_ret
      exact ⟨rfl, rfl⟩
    | er c =>
      have HW := Lib.hid hw
      clear hw
      go_enter Tryd.func62, Tryd.ntmps62
      go_wp2_with fail
      refine (within_any _ _).mono ?_
      rw [HW.out]
      rintro e w1 ⟨rfl, rfl⟩
      go_wp2
      exact ⟨rfl, rfl, rfl⟩

set_option maxHeartbeats 1000000 in
theorem signed_any (E : Ms.Env) (g : E.Good) (b : Nat) (p d l c n : Int) (w : World) (hr : Rd E b p d l w) (h0 : -1000000000 ≤ n) (h1 : n ≤ 1000000000) :
    Calls Tryd.prog 79 #[.pointer (some ⟨b, 0, none⟩), .int .u8 c, .int .i64 n] w (PureV (Ms.signed E c n) w) := by
  have k6 := hr.c6
  have g0 := g.h0
  have g1 := g.h1
  by_cases c1 : c = 45
  · subst c1
    rw [show Ms.signed E 45 n = .ok (-n) from by simp [Ms.signed]]
    go_enter Tryd.func79, Tryd.ntmps79
    go_wp2
    go_ret
    exact ⟨rfl, rfl⟩
  by_cases c2 : c = 33
  · subst c2
    rw [show Ms.signed E 33 n = .ok (Ms.truthI (decide (n ≤ 0))) from by simp [Ms.signed]]
    go_enter Tryd.func79, Tryd.ntmps79
    go_wp2_with (go_at_call 82; refine (truth_any _ _).mono ?_; rintro e w1 ⟨rfl, rfl⟩)
    go_ret
    exact ⟨rfl, rfl⟩
  by_cases c3 : c = 124
  · subst c3
    rw [show Ms.signed E 124 n = Ms.reck E (n - E.h) from by simp [Ms.signed]]
    cases hw : Ms.reck E (n - E.h) with
    | ok v =>
      have HW := Lib.hid hw
      clear hw
      go_enter Tryd.func79, Tryd.ntmps79
      go_wp2_with fail
      refine (reckoned_any E b p d l _ _ hr).mono ?_
      rw [HW.out]
      rintro e w1 ⟨rfl, rfl⟩
      go_wp2
      go_ret
      exact ⟨rfl, rfl⟩
    | er c =>
      have HW := Lib.hid hw
      clear hw
      go_enter Tryd.func79, Tryd.ntmps79
      go_wp2_with fail
      refine (reckoned_any E b p d l _ _ hr).mono ?_
      rw [HW.out]
      rintro e w1 ⟨rfl, rfl⟩
      go_wp2
      exact ⟨rfl, rfl, rfl⟩
  rw [show Ms.signed E c n = .ok n from by simp [Ms.signed, c1, c2, c3]]
  have e1 : (c == 45) = false := by simpa using c1
  have e2 : (c == 33) = false := by simpa using c2
  have e3 : (c == 124) = false := by simpa using c3
  clear c1 c2 c3
  go_enter Tryd.func79, Tryd.ntmps79
  go_wp2
  go_ret
  exact ⟨rfl, rfl⟩

theorem ways13 {k : Nat} (h : k < 13) : k = 0 ∨ k = 1 ∨ k = 2 ∨ k = 3 ∨ k = 4 ∨ k = 5 ∨ k = 6 ∨ k = 7 ∨ k = 8 ∨ k = 9 ∨ k = 10 ∨ k = 11 ∨ k = 12 := by omega

set_option maxHeartbeats 4000000 in
theorem holds_any (k : Nat) (hk : k < 13) (h3 : ¬ (3 ≤ k ∧ k ≤ 7)) (x y : Int) (w : World) :
    Calls Tryd.prog 83 #[.string (Ms.opBytes k), .int .i64 x, .int .i64 y] w fun e w' => e = .returned (.bool (Ms.holds k x y)) ∧ w = w' := by
  rcases ways13 hk with rfl | rfl | rfl | rfl | rfl | rfl | rfl | rfl | rfl | rfl | rfl | rfl | rfl
  case inr.inr.inr.inl => omega
  case inr.inr.inr.inr.inl => omega
  case inr.inr.inr.inr.inr.inl => omega
  case inr.inr.inr.inr.inr.inr.inl => omega
  case inr.inr.inr.inr.inr.inr.inr.inl => omega
  case inr.inr.inr.inr.inr.inr.inr.inr.inr.inr.inr.inl =>
    clear hk h3
    by_cases hx : 0 < x
    all_goals
      simp only [Ms.opBytes]
      go_enter Tryd.func83, Tryd.ntmps83
      go_wp2
      go_ret
      exact ⟨by first | (simp [Ms.holds, hx]; done) | (simp [Ms.holds]; omega), rfl⟩
  case inr.inr.inr.inr.inr.inr.inr.inr.inr.inr.inr.inr =>
    clear hk h3
    by_cases hx : 0 < x
    all_goals
      simp only [Ms.opBytes]
      go_enter Tryd.func83, Tryd.ntmps83
      go_wp2
      go_ret
      exact ⟨by first | (simp [Ms.holds, hx]; done) | (simp [Ms.holds]; omega), rfl⟩
  all_goals
    clear hk h3
    simp only [Ms.opBytes]
    go_enter Tryd.func83, Tryd.ntmps83
    go_wp2
    go_ret
    exact ⟨rfl, rfl⟩
end Go.Proofs.YtkkcoajgpdpfkabDoor
