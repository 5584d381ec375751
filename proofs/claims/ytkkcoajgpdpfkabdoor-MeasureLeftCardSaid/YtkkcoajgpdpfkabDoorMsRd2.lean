/- The reader's small methods: blanks, signs, digits. -/
import Derived.Test.YtkkcoajgpdpfkabDoorMsRd
import Derived.Deep.RegionWith
namespace Go.Proofs.YtkkcoajgpdpfkabDoor
open Go.RowKit Go.PlainAid

theorem meas_lt {n k k' : Nat} (h : k < n) (h2 : k < k') : n - k' < n - k := by omega
theorem blanks_at {s : ByteArray} {p : Nat} (h : p < s.size) (hb : bt s p = 32) : Ms.blanks s p = Ms.blanks s (p + 1) := by
  rw [Ms.blanks, dif_pos h, if_pos hb]
theorem blanks_not {s : ByteArray} {p : Nat} (hb : bt s p ≠ 32) : Ms.blanks s p = p := by
  rw [Ms.blanks]; simp [hb]
theorem blanks_size (s : ByteArray) (p : Nat) (h : p ≤ s.size) : Ms.blanks s p ≤ s.size := by
  fun_induction Ms.blanks s p <;> omega

set_option maxHeartbeats 1000000 in
theorem passBlanks_any (E : Ms.Env) (b p : Nat) (d l : Int) (w : World) (hs : E.s.size ≤ 4611686018427387904) (hr : Rd E b p d l w) (hp : p ≤ E.s.size) (hd0 : 0 ≤ d) :
    Calls Tryd.prog 75 #[.pointer (some ⟨b, 0, none⟩)] w fun e w' => e = .returned (.tuple #[]) ∧ Moved E b (Ms.skp E.s (decide (0 < d)) p) d l w w' := by
  by_cases hd : 0 < d
  · rw [show Ms.skp E.s (decide (0 < d)) p = Ms.blanks E.s p from by simp [Ms.skp, hd]]
    go_enter Tryd.func75, Tryd.ntmps75
    go_wp2
    go_loopw [] (fun wr => ∃ k : Nat, k ≤ E.s.size ∧ Ms.blanks E.s p = Ms.blanks E.s k ∧ Moved E b k d l w wr) (fun wr => E.s.size - (match wr.cell? ⟨b, 1, none⟩ with | some v => (intOf v).toNat | none => 0))
    case atStart => exact ⟨p, hp, rfl, hr, Only.refl _ _⟩
    case round =>
      obtain ⟨k, hk, he, hm⟩ := hrel
      have HE := Lib.hid he
      clear he
      have k2 := hm.1.c2
      by_cases hb : bt E.s k = 32
      · have hlt : k < E.s.size := Ms.lt_of_bt (by rw [hb]; decide)
        have k1 := hm.1.c1
        go_wp2_with fail
        refine (takes_yes E b k d l 32 _ hs hm.1 hlt hb).mono ?_
        rintro e w1 ⟨rfl, hm1⟩
        have k1' := hm1.1.c1
        go_wp2
        go_roundw
        case rel => exact ⟨k + 1, by omega, by rw [HE.out, blanks_at hlt hb], hm.trans hm1⟩
        case measure => simp only [k1, k1', intOf, Int.toNat_natCast]; exact meas_lt hlt (Nat.lt_succ_self k)
      · go_wp2_with fail
        refine (takes_no E b k d l 32 _ hs hm.1 hk hb).mono ?_
        rintro e w1 ⟨rfl, hm1⟩
        go_wp2
        go_end0
        exact ⟨rfl, by rw [HE.out, blanks_not hb]; exact ⟨hm1.rd hm.1, hm.2.trans (hm1.only _)⟩⟩
  · rw [show Ms.skp E.s (decide (0 < d)) p = p from by simp [Ms.skp, hd]]
    have k2 := hr.c2
    go_enter Tryd.func75, Tryd.ntmps75
    go_wp2
    refine wp_loop_rounds 1 ?_
    rw [rounds_succ]
    go_wp2
    go_end0
    exact ⟨rfl, hr, Only.refl _ _⟩
end Go.Proofs.YtkkcoajgpdpfkabDoor
