/- A store's calls: New, Define, Text, Alias, Rename. -/
import Derived.Test.YtkocgedliakclaaDoorStChange
namespace Go.Proofs.YtkocgedliakclaaDoor
open Go.RowKit Go.PlainAid Go.Maps

theorem two_allocs (w : World) (a c : Obj) : Below w.heap.size w ((w.alloc a).alloc c) := ((Below.refl _ _).alloc (Nat.le_refl _) _).alloc (by simp) _
theorem step_below {B : Nat} {w w1 w2 : World} (h1 : Below B w w1) (h2 : Below w1.heap.size w1 w2) (hB : B ≤ w.heap.size := by exact Nat.le_refl _) : Below B w w2 := h1.trans (Below.mono h2 (Nat.le_trans hB h1.size))

/-- A new store. -/
theorem new_any (w : World) : Calls Tryd.prog 58 #[] w fun e w' => ∃ b mb : Nat, e = .returned (.pointer (some ⟨b, 0, none⟩)) ∧ StAt w.heap.size b mb 0 (.map []) (fun _ => none) w' ∧ Below w.heap.size w w' := by
  have hmm := @run_makeMap Tryd.prog
  go_enter Tryd.func58, Tryd.ntmps58
  go_wp2
  go_ret
  refine ⟨_, w.heap.size, rfl, ⟨?_, ?_, ?_, ?_, by simp⟩, two_allocs _ _ _⟩
  · exact heap_alloc2_new _ _ _
  · exact (World.ownsMap_made w Tryd.prog 9 ptrElem).alloc _
  · intro eb x h; cases h
  · intro k h; simp [has] at h

section
variable {B b mb n : Nat} {D : DataW Unit} {E : Nat → Option Ent} {w : World}

abbrev strE (t : ByteArray) : Ent := ⟨1, t, none, 0, 0⟩
theorem nameErr_size {s : ByteArray} (h : nameErr s = 0) : s.size ≤ 20 := by
  unfold nameErr at h
  split at h
  · rename_i hn; exact (nameB_yes hn).2.1
  · omega
theorem nameErr_max {s : ByteArray} (h : nameErr s = 0) : s.size ≤ maxLen := by have := nameErr_size h; unfold maxLen; omega

end
end Go.Proofs.YtkocgedliakclaaDoor
