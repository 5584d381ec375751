/- MeasureReads's and MeasureBits's walks. -/
import Derived.Test.YtkkcoajgpdpfkabDoorReads
import Derived.Test.YtkkcoajgpdpfkabDoorLawAid
namespace Go.Proofs.YtkkcoajgpdpfkabDoor
open Go.RowKit Go.PlainAid

abbrev TrueP (w : World) (e : Ending) (w' : World) : Prop := e = .returned (.bool true) ∧ Kept w w'

set_option maxRecDepth 100000 in
set_option maxHeartbeats 1000000 in
theorem mreads_any (s : ByteArray) (z v h n : Int) (w : World) (ho : OpsAt w) (hg : 0 < w.heap.size) (hs : s.size ≤ 9223372036854775807) :
    Calls Tryd.prog 3 #[.string s, .agg #[.int .i64 z, .int .i64 v, .int .i64 h], .int .i64 n] w (TrueP w) := by
  have hal : Kept w (w.alloc (.cells #[.int .i64 z, .int .i64 v, .int .i64 h] 23)) := (Below.refl _ _).alloc (Nat.le_refl _) _
  have ho1 := ho.below hal hg
  have hg1 := Nat.lt_of_lt_of_le hg hal.size
  by_cases hl : s.size ≤ 600
  · have hl' : ¬ (600 : Int) < (s.size : Int) := by omega
    go_enter Tryd.func3, Tryd.ntmps3
    go_wp2_with fail
    refine (reads_any s (by omega) z v h n _ (by exact ho1) (by exact hg1)).mono ?_
    rintro e w1 ⟨rfl, hk1⟩
    have hK1 := hal.trans (hk1.mono hal.size)
    go_wp2_with fail
    refine (sane_any _ (ho.below hK1 hg) (Nat.lt_of_lt_of_le hg hK1.size)).mono ?_
    rintro e w2 ⟨rfl, hk2⟩
    go_wp2_with fail
    go_ret
    exact ⟨rfl, hK1.trans (hk2.mono hK1.size)⟩
  · have hl' : (600 : Int) < (s.size : Int) := by omega
    go_enter Tryd.func3, Tryd.ntmps3
    go_wp2_with fail
    refine (sane_any _ (by exact ho1) (by exact hg1)).mono ?_
    rintro e w2 ⟨rfl, hk2⟩
    go_wp2_with fail
    go_ret
    exact ⟨rfl, hal.trans (hk2.mono hal.size)⟩
end Go.Proofs.YtkkcoajgpdpfkabDoor
