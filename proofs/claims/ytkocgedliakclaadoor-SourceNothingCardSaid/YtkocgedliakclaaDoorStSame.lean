/- SameLines, of lines that are the same. -/
import Derived.Test.YtkocgedliakclaaDoorStDeep
import Derived.Deep.QuietTactic
import Derived.BigQuiet
import Derived.BigRegion
namespace Go.Proofs.YtkocgedliakclaaDoor
open Go.RowKit Go.PlainAid Go.Maps Go.Shelf

theorem below_drewN' {B : Nat} {w w' : World} (h : Below B w w') (q : Nat) : Below B w (w'.drewN q) := ⟨h.os, h.tape, h.output, h.size, h.block⟩
theorem numbers_same (v u : Value) (l : List Int) (w : World) (h : NumsRd (· < w.heap.size) v l w) (k : NumsRd (· < w.heap.size) u l w) : Calls Tryd.prog 45 #[v, u] w (Makes (.bool true) w) := by
  obtain ⟨ao, ac, rfl, hl, h1⟩ := h
  obtain ⟨uo, uc, rfl, _, k1⟩ := k
  unfold maxLen at hl
  have HA := Lib.hid h1
  have HB := Lib.hid k1
  clear h1 k1
  go_enter Tryd.func45, Tryd.ntmps45
  go_wp2_with fail
  go_loopw [5] (fun i wr => ∃ j : Nat, j ≤ l.length ∧ i = .int .i64 j ∧ Hid (Below w.heap.size w wr)) (fun i _ => l.length - (intOf i).toNat)
  case atStart => exact ⟨0, by omega, rfl, Below.refl _ _⟩
  case round =>
    obtain ⟨j, hj, rfl, hb⟩ := hrel
    by_cases hlt : j < l.length
    · obtain ⟨b, off, h1, h2⟩ := HA.out
      obtain ⟨c, ofg, k1, k2⟩ := HB.out
      obtain ⟨rfl, hbl⟩ := h1 (by omega)
      obtain ⟨rfl, hcl⟩ := k1 (by omega)
      have c0 := h2 j hlt
      have d0 := k2 j hlt
      rw [← hb.out.cell (p := ⟨b, _, none⟩) hbl] at c0
      rw [← hb.out.cell (p := ⟨c, _, none⟩) hcl] at d0
      obtain ⟨z, hz⟩ : ∃ z, l[j] = z := ⟨_, rfl⟩
      rw [hz] at c0 d0
      clear hz
      have hlz : (j : Int) < l.length := by omega
      have hjz : (0 : Int) ≤ j := by omega
      have hlt' := Lib.hid hlt
      clear h1 h2 k1 k2 hlt
      go_wp2_with fail
      go_quiet (fail)
      have hb1 := Lib.hid (below_drewN' hb.out nq)
      clear c0 d0 hb HA HB
      go_wp2_with fail
      go_roundw
      case rel => exact ⟨j + 1, by have := hlt'.out; omega, by go_num, hb1⟩
      case measure => have := hlt'.out; simp only [intOf]; omega
    · go_wp2_with fail
      go_ret
      exact ⟨rfl, hb.out⟩
end Go.Proofs.YtkocgedliakclaaDoor
