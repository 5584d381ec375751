/- The reader's digits, the part behind a point, the unit. -/
import Derived.Test.YtkkcoajgpdpfkabDoorMsRd2
import Derived.Deep.RegionWith
namespace Go.Proofs.YtkkcoajgpdpfkabDoor
open Go.RowKit Go.PlainAid

theorem dEnd_yes {s : ByteArray} {p n : Nat} (h : Ms.digB (bt s p) = true) : Ms.dEnd s p (n + 1) = Ms.dEnd s (p + 1) n := by rw [Ms.dEnd, if_pos h]
theorem dEnd_no {s : ByteArray} {p n : Nat} (h : Ms.digB (bt s p) = false) : Ms.dEnd s p n = p := by
  cases n with
  | zero => rfl
  | succ n => rw [Ms.dEnd, if_neg (by rw [h]; simp)]

set_option maxHeartbeats 1000000 in
theorem digits_any (E : Ms.Env) (b p : Nat) (d l : Int) (w : World) (hs : E.s.size ≤ 4611686018427387904) (hr : Rd E b p d l w) (hp : p ≤ E.s.size) :
    Calls Tryd.prog 59 #[.pointer (some ⟨b, 0, none⟩)] w fun e w' => e = .returned (.string (E.s.extract p (Ms.dEnd E.s p 9))) ∧ Moved E b (Ms.dEnd E.s p 9) d l w w' := by
  have k0 := hr.c1
  go_enter Tryd.func59, Tryd.ntmps59
  go_wp2
  go_loopw [] (fun wr => ∃ k : Nat, k ≤ E.s.size ∧ p ≤ k ∧ k ≤ p + 9 ∧ Ms.dEnd E.s p 9 = Ms.dEnd E.s k (9 - (k - p)) ∧ Moved E b k d l w wr) (fun wr => E.s.size - (match wr.cell? ⟨b, 1, none⟩ with | some v => (intOf v).toNat | none => 0))
  case atStart => exact ⟨p, hp, Nat.le_refl _, by omega, by simp, hr, Only.refl _ _⟩
  case round =>
    obtain ⟨k, hk, hpk, hk9, he, hm⟩ := hrel
    have HE := Lib.hid he
    clear he k0
    have k1 := hm.1.c1
    have k0 := hm.1.c0
    have kf := hm.1.fz 1
    by_cases h9 : k < p + 9
    · cases hd : Ms.digB (bt E.s k) with
      | true =>
        have HD := Lib.hid hd
        have hlt : k < E.s.size := Ms.lt_of_bt (by simp [Ms.digB] at hd; omega)
        clear hd
        go_wp2_with fail
        refine (peek_any E b k d l _ hs hm.1).mono ?_
        rintro e w1 ⟨rfl, n, rfl⟩
        go_wp2_with fail
        refine (isDigit_any _ _).mono ?_
        rw [HD.out]
        rintro e w1 ⟨rfl, rfl⟩
        go_wp2
        have hm1 : Moved E b (k + 1) d l w ((wr.drewN n).setCell ⟨b, 1, none⟩ (.int .i64 (k + 1))) := ⟨(hm.1.drewN _).set1 _, only_set (only_drewN hm.2 _) _⟩
        have k1' := hm1.1.c1
        go_roundw
        case rel => exact ⟨k + 1, by omega, by omega, by omega, by rw [HE.out, show 9 - (k - p) = (9 - (k + 1 - p)) + 1 from by omega, dEnd_yes HD.out], hm1⟩
        case measure => rw [k1']; simp only [k1, intOf, Int.toNat_natCast]; exact meas_lt hlt (Nat.lt_succ_self k)
      | false =>
        have HD := Lib.hid hd
        clear hd
        go_wp2_with fail
        refine (peek_any E b k d l _ hs hm.1).mono ?_
        rintro e w1 ⟨rfl, n, rfl⟩
        go_wp2_with fail
        refine (isDigit_any _ _).mono ?_
        rw [HD.out]
        rintro e w1 ⟨rfl, rfl⟩
        go_wp2
        go_quiet (fail)
        go_wp2
        go_ret
        rw [HE.out, dEnd_no HD.out]
        exact ⟨rfl, (hm.1.drewN _).drewN _, only_drewN (only_drewN hm.2 _) _⟩
    · have h9' : p + 9 ≤ k := by omega
      clear h9
      go_wp2
      go_quiet (fail)
      go_wp2
      go_ret
      rw [HE.out, show 9 - (k - p) = 0 from by omega]
      exact ⟨rfl, hm.1.drewN _, only_drewN hm.2 _⟩

theorem unitO_bd {c z v u : Int} (h : Ms.unitO c z v = some u) (hz0 : 0 ≤ z) (hz1 : z ≤ 1000000) (hv0 : 0 ≤ v) (hv1 : v ≤ 1000000) : 0 ≤ u ∧ u ≤ 10000000 := by
  rcases unitO_ways h with ⟨_, rfl⟩ | ⟨_, rfl⟩ | ⟨_, rfl⟩ | ⟨_, rfl⟩ | ⟨_, rfl⟩ | ⟨_, rfl⟩ | ⟨_, rfl⟩ | ⟨_, rfl⟩ <;> omega

theorem good_valid {E : Ms.Env} (g : E.Good) : Ms.validB E.z E.v E.h = true := by
  simp [Ms.validB, g.z0, g.z1, g.v0, g.v1, g.h0, g.h1]

end Go.Proofs.YtkkcoajgpdpfkabDoor
