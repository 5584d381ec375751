/- An operator done; what stands behind a bracket, an operand, an expression. -/
import Derived.Test.YtkkcoajgpdpfkabDoorMsOps
import Derived.Test.YtkkcoajgpdpfkabDoorMsPre
import Derived.Test.YtkkcoajgpdpfkabDoorMsNum
namespace Go.Proofs.YtkkcoajgpdpfkabDoor
open Go.RowKit Go.PlainAid

theorem prod_bd {x y : Int} (h0 : -1000000000 ≤ x) (h1 : x ≤ 1000000000) (h2 : -1000000000 ≤ y) (h3 : y ≤ 1000000000) : -1000000000000000000 ≤ x * y ∧ x * y ≤ 1000000000000000000 := by
  have e : (x * y).natAbs = x.natAbs * y.natAbs := Int.natAbs_mul x y
  have m : x.natAbs * y.natAbs ≤ 1000000000 * 1000000000 := Nat.mul_le_mul (by omega) (by omega)
  omega

theorem wrap64_quo {x y : Int} (h0 : -1000000000 ≤ x) (h1 : x ≤ 1000000000) : wrap64 (x.tdiv y) = x.tdiv y := by
  refine IntWalk.wrap64_in _ ?_
  have e : (x.tdiv y).natAbs = x.natAbs / y.natAbs := Int.natAbs_tdiv x y
  have := Nat.div_le_self x.natAbs y.natAbs
  omega
theorem wrap64_rem {x y : Int} (h0 : -1000000000 ≤ x) (h1 : x ≤ 1000000000) : wrap64 (x.tmod y) = x.tmod y := by
  refine IntWalk.wrap64_in _ ?_
  have e : (x.tmod y).natAbs = x.natAbs % y.natAbs := Int.natAbs_tmod x y
  have := Nat.mod_le x.natAbs y.natAbs
  omega

set_option maxHeartbeats 8000000 in
theorem done_any (E : Ms.Env) (b : Nat) (p d l x y : Int) (k : Nat) (hk : k < 13) (w : World) (hr : Rd E b p d l w) (h0 : -1000000000 ≤ x) (h1 : x ≤ 1000000000) (h2 : -1000000000 ≤ y) (h3 : y ≤ 1000000000) :
    Calls Tryd.prog 58 #[.pointer (some ⟨b, 0, none⟩), .string (Ms.opBytes k), .int .i64 x, .int .i64 y] w (PureV (Ms.done E k x y) w) := by
  have k8 := hr.c8
  cases hb : E.bl with
  | true =>
    rw [show Ms.done E k x y = .ok 0 from by simp [Ms.done, hb]]
    rw [hb] at k8
    clear hb
    go_enter Tryd.func58, Tryd.ntmps58
    go_wp2
    go_ret
    exact ⟨rfl, rfl⟩
  | false =>
    rw [hb] at k8
    by_cases hko : 3 ≤ k ∧ k ≤ 5
    · obtain ⟨n, hn, hd⟩ : ∃ n, (k = 3 ∧ n = x + y ∨ k = 4 ∧ n = x - y ∨ k = 5 ∧ n = x * y) ∧ Ms.done E k x y = Ms.within n := by
        have : k = 3 ∨ k = 4 ∨ k = 5 := by omega
        rcases this with rfl | rfl | rfl
        · exact ⟨_, .inl ⟨rfl, rfl⟩, by simp [Ms.done, hb]⟩
        · exact ⟨_, .inr (.inl ⟨rfl, rfl⟩), by simp [Ms.done, hb]⟩
        · exact ⟨_, .inr (.inr ⟨rfl, rfl⟩), by simp [Ms.done, hb]⟩
      rw [hd]
      have hpb := prod_bd h0 h1 h2 h3
      obtain ⟨hp0, hp1⟩ := hpb
      obtain ⟨r, hr'⟩ : ∃ r, Ms.within n = r := ⟨_, rfl⟩
      rw [hr']
      have HR := Lib.hid hr'
      clear hr' hd hb hko hk
      rcases hn with ⟨rfl, rfl⟩ | ⟨rfl, rfl⟩ | ⟨rfl, rfl⟩
      all_goals
        cases r with
        | ok v =>
          simp only [Ms.opBytes]
          go_enter Tryd.func58, Tryd.ntmps58
          go_wp2_with fail
          refine (within_any _ _).mono ?_
          rw [HR.out]
          rintro e w1 ⟨rfl, rfl⟩
          go_wp2
          go_ret
          exact ⟨rfl, rfl⟩
        | er c =>
          simp only [Ms.opBytes]
          go_enter Tryd.func58, Tryd.ntmps58
          go_wp2_with fail
          refine (within_any _ _).mono ?_
          rw [HR.out]
          rintro e w1 ⟨rfl, rfl⟩
          go_wp2
          exact ⟨rfl, rfl, rfl⟩
    by_cases hkq : k = 6 ∨ k = 7
    · by_cases hy : y = 0
      · subst hy
        rcases hkq with rfl | rfl
        · rw [show Ms.done E 6 x 0 = .er 11 from by simp [Ms.done, hb]]
          clear hb hko hk
          simp only [Ms.opBytes]
          go_enter Tryd.func58, Tryd.ntmps58
          go_wp2_with fail
          refine (divisor_any _ _).mono ?_
          rw [if_pos rfl]
          rintro e w1 ⟨rfl, rfl⟩
          go_wp2
          exact ⟨rfl, rfl, rfl⟩
        · rw [show Ms.done E 7 x 0 = .er 11 from by simp [Ms.done, hb]]
          clear hb hko hk
          simp only [Ms.opBytes]
          go_enter Tryd.func58, Tryd.ntmps58
          go_wp2_with fail
          refine (divisor_any _ _).mono ?_
          rw [if_pos rfl]
          rintro e w1 ⟨rfl, rfl⟩
          go_wp2
          exact ⟨rfl, rfl, rfl⟩
      · rcases hkq with rfl | rfl
        · rw [show Ms.done E 6 x y = .ok (x.tdiv y) from by simp [Ms.done, hb, hy]]
          have HQ := Lib.hid (wrap64_quo (y := y) h0 h1)
          clear hb hko hk
          simp only [Ms.opBytes]
          go_enter Tryd.func58, Tryd.ntmps58
          go_wp2_with fail
          refine (divisor_any _ _).mono ?_
          rw [if_neg hy]
          rintro e w1 ⟨rfl, rfl⟩
          go_wp2
          go_ret
          exact ⟨by show Ending.returned (.int .i64 (wrap64 (x.tdiv y))) = _; rw [HQ.out], rfl⟩
        · rw [show Ms.done E 7 x y = .ok (x.tmod y) from by simp [Ms.done, hb, hy]]
          have hq := wrap64_rem (y := y) h0 h1
          clear hb hko hk
          simp only [Ms.opBytes]
          go_enter Tryd.func58, Tryd.ntmps58
          go_wp2_with fail
          refine (divisor_any _ _).mono ?_
          rw [if_neg hy]
          rintro e w1 ⟨rfl, rfl⟩
          go_wp2
          go_ret
          exact ⟨rfl, rfl⟩
    · have hd : Ms.done E k x y = .ok (Ms.truthI (Ms.holds k x y)) := by
        unfold Ms.done
        rw [if_neg (by rw [hb]; simp)]
        have : k = 0 ∨ k = 1 ∨ k = 2 ∨ k = 8 ∨ k = 9 ∨ k = 10 ∨ k = 11 ∨ k = 12 := by omega
        rcases this with rfl | rfl | rfl | rfl | rfl | rfl | rfl | rfl <;> rfl
      rw [hd]
      obtain ⟨t, ht⟩ : ∃ t, Ms.holds k x y = t := ⟨_, rfl⟩
      have hc := fun w => holds_any k hk (by omega) x y w
      rw [ht] at hc ⊢
      have HC := Lib.hid hc
      clear hc ht hd hb
      have hw : k = 0 ∨ k = 1 ∨ k = 2 ∨ k = 8 ∨ k = 9 ∨ k = 10 ∨ k = 11 ∨ k = 12 := by omega
      clear hko hkq hk
      rcases hw with rfl | rfl | rfl | rfl | rfl | rfl | rfl | rfl
      all_goals
        simp only [Ms.opBytes] at HC ⊢
        go_enter Tryd.func58, Tryd.ntmps58
        go_wp2_with fail
        refine (HC.out _).mono ?_
        rintro e w1 ⟨rfl, rfl⟩
        go_wp2_with fail
        refine (truth_any _ _).mono ?_
        rintro e w1 ⟨rfl, rfl⟩
        go_wp2
        go_ret
        exact ⟨rfl, rfl⟩
end Go.Proofs.YtkkcoajgpdpfkabDoor
