/- The reference's skip, operator, reckon. -/
import Derived.Test.YtkkcoajgpdpfkabDoorRfNum
import Derived.Test.YtkkcoajgpdpfkabDoorMsDone
import Derived.Test.YtkkcoajgpdpfkabDoorMsLeft
namespace Go.Proofs.YtkkcoajgpdpfkabDoor
open Go.RowKit Go.PlainAid

/-- The reference's reader, as a value. -/
abbrev RV (E : Ms.Env) (c : Int) : Value := .agg #[.string E.s, .int .u8 c, .int .i64 E.z, .int .i64 E.v, .int .i64 E.h, .bool E.bl]

set_option maxHeartbeats 1000000 in
theorem rskip_any (E : Ms.Env) (hs : E.s.size ≤ 4611686018427387904) (c d : Int) (p : Nat) (hp : p ≤ E.s.size) (w : World) :
    Calls Tryd.prog 68 #[RV E c, .int .i64 p, .int .i64 d] w fun e w' => e = .returned (.int .i64 (Ms.skp E.s (decide (0 < d)) p)) ∧ Below w.heap.size w w' := by
  have hgb := get_bt E.s
  by_cases hd : 0 < d
  · rw [show Ms.skp E.s (decide (0 < d)) p = Ms.blanks E.s p from by simp [Ms.skp, hd]]
    go_enter Tryd.func68, Tryd.ntmps68
    go_wp2
    go_loop [1] (fun a => ∃ k : Nat, k ≤ E.s.size ∧ a = .int .i64 k ∧ Hid (Ms.blanks E.s p = Ms.blanks E.s k)) (fun a => E.s.size - (intOf a).toNat)
    case atStart => exact ⟨p, hp, rfl, rfl⟩
    case round =>
      obtain ⟨k, hk, rfl, he⟩ := hrel
      cases hb : (bt E.s k == 32) with
      | true =>
        have hlt : k < E.s.size := Ms.lt_of_bt (by rw [beq_iff_eq.1 hb]; decide)
        go_wp2
        go_round
        case rel => exact ⟨k + 1, by omega, by go_num, by rw [he.out, blanks_at hlt (beq_iff_eq.1 hb)]; exact rfl⟩
        case measure => simp [intOf]; omega
      | false =>
        have hfin : Hid (Ms.blanks E.s p = k) := by rw [he.out, blanks_not (beq_eq_false_iff_ne.1 hb)]; exact rfl
        by_cases hlt : k < E.s.size
        · go_wp2
          go_ret
          rw [hfin.out]
          exact ⟨rfl, (Below.refl _ _).alloc (Nat.le_refl _) _⟩
        · go_wp2
          go_ret
          rw [hfin.out]
          exact ⟨rfl, (Below.refl _ _).alloc (Nat.le_refl _) _⟩
  · rw [show Ms.skp E.s (decide (0 < d)) p = p from by simp [Ms.skp, hd]]
    go_enter Tryd.func68, Tryd.ntmps68
    go_wp2
    refine wp_loop_rounds 1 ?_
    rw [rounds_succ]
    go_wp2
    go_ret
    exact ⟨rfl, (Below.refl _ _).alloc (Nat.le_refl _) _⟩

/-- An int and an error. -/
def EdgeW (r : Ms.Res Int) (w : World) (e : Ending) (w' : World) : Prop :=
  w = w' ∧ match r with
  | .ok v => e = .returned (.tuple #[.int .i64 v, .int .i64 0])
  | .er c => e = .returned (.tuple #[.int .i64 0, .int .i64 c])

set_option maxHeartbeats 8000000 in
theorem rreckon_any (E : Ms.Env) (hbl : E.bl = false) (k : Nat) (hk : k < 13) (x y : Int) (h0 : -1000000000 ≤ x) (h1 : x ≤ 1000000000) (h2 : -1000000000 ≤ y) (h3 : y ≤ 1000000000) (w : World) :
    Calls Tryd.prog 69 #[.string (Ms.opBytes k), .int .i64 x, .int .i64 y] w (EdgeW (Ms.done E k x y) w) := by
  by_cases hko : 3 ≤ k ∧ k ≤ 5
  · obtain ⟨n, hn, hd⟩ : ∃ n, (k = 3 ∧ n = x + y ∨ k = 4 ∧ n = x - y ∨ k = 5 ∧ n = x * y) ∧ Ms.done E k x y = Ms.within n := by
      have : k = 3 ∨ k = 4 ∨ k = 5 := by omega
      rcases this with rfl | rfl | rfl
      · exact ⟨_, .inl ⟨rfl, rfl⟩, by simp [Ms.done, hbl]⟩
      · exact ⟨_, .inr (.inl ⟨rfl, rfl⟩), by simp [Ms.done, hbl]⟩
      · exact ⟨_, .inr (.inr ⟨rfl, rfl⟩), by simp [Ms.done, hbl]⟩
    rw [hd]
    obtain ⟨hp0, hp1⟩ := prod_bd h0 h1 h2 h3
    obtain ⟨b, hb⟩ : ∃ b, wthB n = b := ⟨_, rfl⟩
    have hw : Ms.within n = (if b then .ok n else .er 5) := by
      cases b with
      | true => exact if_pos (wthB_yes hb)
      | false => exact wthB_no hb
    rw [hw]
    have HB := Lib.hid hb
    clear hb hd hbl hko hk hw
    rcases hn with ⟨rfl, rfl⟩ | ⟨rfl, rfl⟩ | ⟨rfl, rfl⟩
    all_goals
      cases b with
      | true =>
        simp only [Ms.opBytes]
        go_enter Tryd.func69, Tryd.ntmps69
        go_wp2_with fail
        refine (rwithin_any _ _).mono ?_
        rw [HB.out]
        rintro e w1 ⟨rfl, rfl⟩
        go_wp2
        go_ret2
        exact ⟨rfl, rfl⟩
      | false =>
        simp only [Ms.opBytes]
        go_enter Tryd.func69, Tryd.ntmps69
        go_wp2_with fail
        refine (rwithin_any _ _).mono ?_
        rw [HB.out]
        rintro e w1 ⟨rfl, rfl⟩
        go_wp2
        go_ret2
        exact ⟨rfl, rfl⟩
  by_cases hkq : k = 6 ∨ k = 7
  · by_cases hy : y = 0
    · subst hy
      have hd : Ms.done E k x 0 = .er 11 := by rcases hkq with rfl | rfl <;> simp [Ms.done, hbl]
      rw [hd]
      clear hbl hko hk hd
      rcases hkq with rfl | rfl
      all_goals
        simp only [Ms.opBytes]
        go_enter Tryd.func69, Tryd.ntmps69
        go_wp2
        go_ret2
        exact ⟨rfl, rfl⟩
    · have hy' : (y == 0) = false := by simpa using hy
      have q1 := IntWalk.wrap64_in (x.tdiv y) (by
        have e : (x.tdiv y).natAbs = x.natAbs / y.natAbs := Int.natAbs_tdiv x y
        have := Nat.div_le_self x.natAbs y.natAbs
        omega)
      have d1 : wthB (x.tdiv y) = true := by
        have e : (x.tdiv y).natAbs = x.natAbs / y.natAbs := Int.natAbs_tdiv x y
        have := Nat.div_le_self x.natAbs y.natAbs
        simp [wthB]; omega
      have d2 : wthB (x.tmod y) = true := by
        have e : (x.tmod y).natAbs = x.natAbs % y.natAbs := Int.natAbs_tmod x y
        have := Nat.mod_le x.natAbs y.natAbs
        simp [wthB]; omega
      rcases hkq with rfl | rfl
      · rw [show Ms.done E 6 x y = .ok (x.tdiv y) from by simp [Ms.done, hbl, hy]]
        rw [← q1] at d1
        have Q1 := Lib.hid q1
        have D1 := Lib.hid d1
        clear hbl hko hk d1 d2 q1
        simp only [Ms.opBytes]
        go_enter Tryd.func69, Tryd.ntmps69
        go_wp2_with fail
        refine (rwithin_any _ _).mono ?_
        rw [D1.out]
        rintro e w1 ⟨rfl, rfl⟩
        go_wp2
        go_ret2
        exact ⟨rfl, by show Ending.returned (.tuple #[.int .i64 (wrap64 (x.tdiv y)), .int .i64 0]) = _; rw [Q1.out]⟩
      · rw [show Ms.done E 7 x y = .ok (x.tmod y) from by simp [Ms.done, hbl, hy]]
        have D1 := Lib.hid d2
        clear hbl hko hk d1 d2 q1
        simp only [Ms.opBytes]
        go_enter Tryd.func69, Tryd.ntmps69
        go_wp2_with fail
        refine (rwithin_any _ _).mono ?_
        rw [D1.out]
        rintro e w1 ⟨rfl, rfl⟩
        go_wp2
        go_ret2
        exact ⟨rfl, rfl⟩
  · have hd : Ms.done E k x y = .ok (Ms.truthI (Ms.holds k x y)) := by
      unfold Ms.done
      rw [if_neg (by rw [hbl]; simp)]
      have : k = 0 ∨ k = 1 ∨ k = 2 ∨ k = 8 ∨ k = 9 ∨ k = 10 ∨ k = 11 ∨ k = 12 := by omega
      rcases this with rfl | rfl | rfl | rfl | rfl | rfl | rfl | rfl <;> rfl
    rw [hd]
    have hwt : ∀ b : Bool, wthB (Ms.truthI b) = true := fun b => by cases b <;> rfl
    have HW := Lib.hid hwt
    have hw : k = 0 ∨ k = 1 ∨ k = 2 ∨ k = 8 ∨ k = 9 ∨ k = 10 ∨ k = 11 ∨ k = 12 := by omega
    clear hko hkq hk hd hbl hwt
    rcases hw with rfl | rfl | rfl | rfl | rfl | rfl | rfl | rfl
    case inr.inr.inr.inr.inr.inr.inl =>
      by_cases hx : 0 < x
      all_goals
        simp only [Ms.opBytes]
        go_enter Tryd.func69, Tryd.ntmps69
        go_wp2_with fail
        refine (rtruth_any _ _).mono ?_
        rintro e w1 ⟨rfl, rfl⟩
        go_wp2_with fail
        refine (rwithin_any _ _).mono ?_
        rw [HW.out]
        rintro e w1 ⟨rfl, rfl⟩
        go_wp2
        go_ret2
        exact ⟨rfl, by first | (rw [show Ms.holds 11 x y = (decide (0 < x) && decide (0 < y)) from rfl, decide_eq_true (show 0 < x from by omega)]; rfl) | (rw [show Ms.holds 11 x y = (decide (0 < x) && decide (0 < y)) from rfl, decide_eq_false (show ¬ 0 < x from by omega)]; rfl)⟩
    case inr.inr.inr.inr.inr.inr.inr =>
      by_cases hx : 0 < x
      all_goals
        simp only [Ms.opBytes]
        go_enter Tryd.func69, Tryd.ntmps69
        go_wp2_with fail
        refine (rtruth_any _ _).mono ?_
        rintro e w1 ⟨rfl, rfl⟩
        go_wp2_with fail
        refine (rwithin_any _ _).mono ?_
        rw [HW.out]
        rintro e w1 ⟨rfl, rfl⟩
        go_wp2
        go_ret2
        exact ⟨rfl, by first | (rw [show Ms.holds 12 x y = (decide (0 < x) || decide (0 < y)) from rfl, decide_eq_true (show 0 < x from by omega)]; rfl) | (rw [show Ms.holds 12 x y = (decide (0 < x) || decide (0 < y)) from rfl, decide_eq_false (show ¬ 0 < x from by omega)]; rfl)⟩
    all_goals
      simp only [Ms.opBytes]
      go_enter Tryd.func69, Tryd.ntmps69
      go_wp2_with fail
      refine (rtruth_any _ _).mono ?_
      rintro e w1 ⟨rfl, rfl⟩
      go_wp2_with fail
      refine (rwithin_any _ _).mono ?_
      rw [HW.out]
      rintro e w1 ⟨rfl, rfl⟩
      go_wp2
      go_ret2
      exact ⟨rfl, rfl⟩

end Go.Proofs.YtkkcoajgpdpfkabDoor
