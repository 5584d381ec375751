/- The law's fixed example. -/
import Derived.Test.YtkkcoajgpdpfkabDoorMsTry
import Derived.KernelRfl
namespace Go.Proofs.YtkkcoajgpdpfkabDoor
open Go.RowKit Go.PlainAid

theorem sane_value : evalM ⟨#[49, 105, 43, 50, 112, 42, 51]⟩ 117 0 0 0 = .ok 2220 := by kernel_rfl

set_option maxHeartbeats 400000 in
theorem sane_any (w : World) (ho : OpsAt w) (hg : 0 < w.heap.size) :
    Calls Tryd.prog 9 #[] w fun e w' => e = .returned (.bool true) ∧ Kept w w' := by
  go_enter Tryd.func9, Tryd.ntmps9
  go_wp2_with fail
  refine (eval_any _ (by decide) 117 0 0 0 _ ho hg).mono ?_
  rw [sane_value]
  rintro e w1 ⟨rfl, hk⟩
  go_wp2_with fail
  go_ret
  exact ⟨rfl, hk⟩

theorem umod (a m : Int) (h0 : 0 < m) (h1 : m ≤ 1000000000000) : ∃ n : Nat, wrap64 ((IntKind.u64.wrap a).tmod m) = n ∧ (n : Int) < m := by
  have hu : 0 ≤ IntKind.u64.wrap a := by rw [IntKind.wrap_u64]; omega
  have e : (IntKind.u64.wrap a).tmod m = IntKind.u64.wrap a % m := Int.tmod_eq_emod_of_nonneg hu
  have l0 := Int.emod_nonneg (IntKind.u64.wrap a) (show m ≠ 0 from by omega)
  have l1 := Int.emod_lt_of_pos (IntKind.u64.wrap a) (show 0 < m from by omega)
  refine ⟨(IntKind.u64.wrap a % m).toNat, ?_, by omega⟩
  rw [e, IntWalk.wrap64_in _ (by omega)]; omega

end Go.Proofs.YtkkcoajgpdpfkabDoor
