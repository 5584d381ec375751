/- The reader's unit. -/
import Derived.Test.YtkkcoajgpdpfkabDoorMsRd3
namespace Go.Proofs.YtkkcoajgpdpfkabDoor
open Go.RowKit Go.PlainAid

theorem below_after {B : Nat} {w W w1 : World} (hb : Below W.heap.size W w1) (hle : B ≤ W.heap.size) (h : Below B w W) : Below B w w1 := h.trans (hb.mono hle)

set_option maxHeartbeats 1000000 in
theorem unit_own (E : Ms.Env) (g : E.Good) (b p : Nat) (d l u : Int) (w : World) (hr : Rd E b p d l w) (hp : p < E.s.size) (hu : Ms.unitO (bt E.s p) E.z E.v = some u) :
    Calls Tryd.prog 61 #[.pointer (some ⟨b, 0, none⟩)] w fun e w' => e = .returned (.int .i64 u) ∧ Moved E b (p + 1) d l w w' := by
  have hs := g.sz
  have k4 := hr.c4
  have k5 := hr.c5
  have k6 := hr.c6
  have hlt := hr.lt
  have kf0 := Lib.hid hu
  clear hu
  go_enter Tryd.func61, Tryd.ntmps61
  go_wp2
  go_region_with (first | (go_at_call 77; refine (peek_any E b p d l _ hs (by exact hr)).mono ?_; rintro e w1 ⟨rfl, n, rfl⟩) | (go_at_call 15; refine (unit_some _ _ _ _ u (good_valid g) kf0.out _).mono ?_; rintro e w1 ⟨rfl, hb⟩))
  all_goals
    have hr1 := Rd.below (E := E) (p := p) (d := d) (l := l) (b := b) (by exact hr) hb
    have hB : Only b w w1 := only_after hb ⟨rfl, rfl, rfl, Nat.le_refl _, fun _ _ _ => rfl⟩
    have k1 := hr1.c1
    have kf := hr1.fz 1
    clear k4 k5 k6
    go_wp2
    go_ret
    exact ⟨rfl, hr1.set1 _, only_set hB _⟩

set_option maxHeartbeats 1000000 in
theorem unit_given (E : Ms.Env) (g : E.Good) (b p : Nat) (d l : Int) (w : World) (hr : Rd E b p d l w) (hu : Ms.unitO (bt E.s p) E.z E.v = none) :
    Calls Tryd.prog 61 #[.pointer (some ⟨b, 0, none⟩)] w fun e w' => e = .returned (.int .i64 E.one) ∧ Moved E b p d l w w' := by
  have hs := g.sz
  have k4 := hr.c4
  have k5 := hr.c5
  have k6 := hr.c6
  have hlt := hr.lt
  have kf0 := Lib.hid hu
  clear hu
  go_enter Tryd.func61, Tryd.ntmps61
  go_wp2
  go_region_with (first | (go_at_call 77; refine (peek_any E b p d l _ hs (by exact hr)).mono ?_; rintro e w1 ⟨rfl, n, rfl⟩) | (go_at_call 15; refine (unit_none _ _ _ _ (good_valid g) kf0.out _).mono ?_; rintro e w1 ⟨rfl, hb⟩))
  all_goals
    have hr1 := Rd.below (E := E) (p := p) (d := d) (l := l) (b := b) (by exact hr) hb
    have hB : Only b w w1 := only_after hb ⟨rfl, rfl, rfl, Nat.le_refl _, fun _ _ _ => rfl⟩
    have k7 := hr1.c7
    clear k4 k5 k6
    go_wp2
    go_ret
    exact ⟨rfl, hr1, hB⟩
end Go.Proofs.YtkkcoajgpdpfkabDoor
