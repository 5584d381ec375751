/- Change. -/
import Derived.Test.YtkkcoajgpdpfkabDoorMsChangeM
import Derived.Test.YtkkcoajgpdpfkabDoorMsChangeP
namespace Go.Proofs.YtkkcoajgpdpfkabDoor
open Go.RowKit Go.PlainAid

theorem mchange_any (old : Int) (s : ByteArray) (hs : s.size ≤ 4611686018427387904) (c z v h : Int) (w : World) (ho : OpsAt w) (hg : 0 < w.heap.size) :
    Calls Tryd.prog 25 #[.int .i64 old, .string s, .int .u8 c, .agg #[.int .i64 z, .int .i64 v, .int .i64 h]] w (Edge (changeM old s c z v h) w) := by
  by_cases hb : -1000000000 ≤ old ∧ old ≤ 1000000000
  · rw [show changeM old s c z v h = (if bt s 0 = 45 then minusB old (evalM (s.extract 1 s.size) c z v h) else if bt s 0 = 43 then plusB old (evalM (s.extract 1 s.size) c z v h) else evalM s c z v h) from if_pos hb]
    by_cases h45 : bt s 0 = 45
    · rw [if_pos h45]
      exact mchange_minus old s hs c z v h w ho hg hb.1 hb.2 h45 _ rfl
    · rw [if_neg h45]
      by_cases h43 : bt s 0 = 43
      · rw [if_pos h43]
        exact mchange_plus old s hs c z v h w ho hg hb.1 hb.2 h43 _ rfl
      · rw [if_neg h43]
        exact mchange_plain old s hs c z v h w ho hg hb.1 hb.2 h43 h45
  · rw [show changeM old s c z v h = .er 1 from if_neg hb]
    exact mchange_out old s c z v h w hb
end Go.Proofs.YtkkcoajgpdpfkabDoor
