/- The reference's sum. -/
import Derived.Test.YtkkcoajgpdpfkabDoorRfOperand
namespace Go.Proofs.YtkkcoajgpdpfkabDoor
open Go.RowKit Go.PlainAid

abbrev Sm (E : Ms.Env) (c d : Int) (p : Nat) (Q : Ending → World → Prop) (w : World) : Prop := Calls Tryd.prog 45 #[RV E c, .int .i64 p, .int .i64 d] w Q

set_option maxRecDepth 100000 in
set_option maxHeartbeats 400000 in
theorem sum_first_er {E : Ms.Env} {c d cc : Int} {p : Nat} {w : World} (hcc : (cc == 0) = false)
    (hop : ∀ w1, Opd E c d p (.er cc) w1) : Sm E c d p (fun e w' => ∃ n q : Int, e = ret3 n q cc ∧ Below w.heap.size w w') w := by
  have HOP := Lib.hid hop
  have hb0 := Box.new E c w
  have hal : Below w.heap.size w (w.alloc (boxO E c)) := (Below.refl _ _).alloc (Nat.le_refl _) _
  clear hop
  go_enter Tryd.func45, Tryd.ntmps45
  go_wp2_with fail
  refine (HOP.out _).mono ?_
  rintro e w1 ⟨n, q, rfl, hb⟩
  go_wp2_with fail
  refine wp_loop_rounds 1 ?_
  rw [rounds_succ]
  go_wp2_with fail
  go_ret3
  exact ⟨_, _, rfl, hal.trans (hb.mono (by simp))⟩
end Go.Proofs.YtkkcoajgpdpfkabDoor
