/- What the walks of numerals ask of the world. -/
import Derived.Test.YtopgbbkndkincaaGreatDoorRgRoman
namespace Go.Proofs.YtopgbbkndkincaaGreatDoor
open Go.RowKit Go.PlainAid Go.Shelf

theorem below_step {B : Nat} {w w1 w2 : World} (h1 : Below B w w1) (h2 : Below w1.heap.size w1 w2) (hB : B ≤ w.heap.size := by exact Nat.le_refl _) : Below B w w2 := h1.trans (Below.mono h2 (Nat.le_trans hB h1.size))
abbrev StrIs (S : ByteArray) (w : World) (e : Ending) (w' : World) : Prop := e = .returned (.string S) ∧ Below w.heap.size w w'
abbrev Ready (w : World) : Prop := NumsAt w ∧ 0 < w.heap.size
theorem Ready.below {w w' : World} (h : Ready w) (hb : Below w.heap.size w w') : Ready w' := ⟨h.1.below hb h.2, Nat.lt_of_lt_of_le h.2 hb.size⟩
end Go.Proofs.YtopgbbkndkincaaGreatDoor
