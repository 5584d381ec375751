/- Whether two lines are the same. -/
import Derived.Test.YtkocgedliakclaaDoorStSame2
import Derived.Test.YtkocgedliakclaaDoorSoDo
namespace Go.Proofs.YtkocgedliakclaaDoor
open Go.RowKit Go.PlainAid Go.Maps Go.Shelf

set_option maxRecDepth 100000 in
set_option maxHeartbeats 4000000 in
theorem line_same (x : LineC) (ba ca : _) (bb cb : _) (w : World) (h : BoxesRd (· < w.heap.size) (.slice ba x.boxes.length ca) x.boxes w) (k : BoxesRd (· < w.heap.size) (.slice bb x.boxes.length cb) x.boxes w) :
    Calls Tryd.prog 10 #[.agg #[.string x.text, .bool x.made, .int .i64 x.up, .int .i64 x.down, .slice ba x.boxes.length ca], .agg #[.string x.text, .bool x.made, .int .i64 x.up, .int .i64 x.down, .slice bb x.boxes.length cb]] w (Makes (.bool true) w) := by
  have hb : Below w.heap.size w ((((w.alloc (.cells #[.string x.text, .bool x.made, .int .i64 x.up, .int .i64 x.down, .slice ba x.boxes.length ca] 37)).alloc (.cells #[.string x.text, .bool x.made, .int .i64 x.up, .int .i64 x.down, .slice bb x.boxes.length cb] 37)).alloc (.cells #[.string x.text, .bool x.made, .int .i64 x.up, .int .i64 x.down, .slice ba x.boxes.length ca] 37)).alloc (.cells #[.string x.text, .bool x.made, .int .i64 x.up, .int .i64 x.down, .slice bb x.boxes.length cb] 37)) := ((((Below.refl _ _).alloc (Nat.le_refl _) _).alloc (by simp) _).alloc (by simp; omega) _).alloc (by simp; omega) _
  have ra : ((((w.alloc (.cells #[.string x.text, .bool x.made, .int .i64 x.up, .int .i64 x.down, .slice ba x.boxes.length ca] 37)).alloc (.cells #[.string x.text, .bool x.made, .int .i64 x.up, .int .i64 x.down, .slice bb x.boxes.length cb] 37)).alloc (.cells #[.string x.text, .bool x.made, .int .i64 x.up, .int .i64 x.down, .slice ba x.boxes.length ca] 37)).alloc (.cells #[.string x.text, .bool x.made, .int .i64 x.up, .int .i64 x.down, .slice bb x.boxes.length cb] 37)).heap[w.heap.size + 1 + 1]? = some (.cells #[.string x.text, .bool x.made, .int .i64 x.up, .int .i64 x.down, .slice ba x.boxes.length ca] 37 (0, 0)) := by
    have h1 := heap_alloc_new ((w.alloc (.cells #[.string x.text, .bool x.made, .int .i64 x.up, .int .i64 x.down, .slice ba x.boxes.length ca] 37)).alloc (.cells #[.string x.text, .bool x.made, .int .i64 x.up, .int .i64 x.down, .slice bb x.boxes.length cb] 37)) (.cells #[.string x.text, .bool x.made, .int .i64 x.up, .int .i64 x.down, .slice ba x.boxes.length ca] 37)
    rw [World.size_alloc, World.size_alloc] at h1
    rw [heap_alloc_old _ _ (by simp)]
    exact h1
  have rb : ((((w.alloc (.cells #[.string x.text, .bool x.made, .int .i64 x.up, .int .i64 x.down, .slice ba x.boxes.length ca] 37)).alloc (.cells #[.string x.text, .bool x.made, .int .i64 x.up, .int .i64 x.down, .slice bb x.boxes.length cb] 37)).alloc (.cells #[.string x.text, .bool x.made, .int .i64 x.up, .int .i64 x.down, .slice ba x.boxes.length ca] 37)).alloc (.cells #[.string x.text, .bool x.made, .int .i64 x.up, .int .i64 x.down, .slice bb x.boxes.length cb] 37)).heap[w.heap.size + 1 + 1 + 1]? = some (.cells #[.string x.text, .bool x.made, .int .i64 x.up, .int .i64 x.down, .slice bb x.boxes.length cb] 37 (0, 0)) := by
    have h1 := heap_alloc_new (((w.alloc (.cells #[.string x.text, .bool x.made, .int .i64 x.up, .int .i64 x.down, .slice ba x.boxes.length ca] 37)).alloc (.cells #[.string x.text, .bool x.made, .int .i64 x.up, .int .i64 x.down, .slice bb x.boxes.length cb] 37)).alloc (.cells #[.string x.text, .bool x.made, .int .i64 x.up, .int .i64 x.down, .slice ba x.boxes.length ca] 37)) (.cells #[.string x.text, .bool x.made, .int .i64 x.up, .int .i64 x.down, .slice bb x.boxes.length cb] 37)
    rwa [World.size_alloc, World.size_alloc, World.size_alloc] at h1
  have ha := one_rd (S := (· < w.heap.size + 4)) ra ((h.stay (Stay.below hb fun _ h => h)).mono fun _ hk => by omega) (by omega)
  have hc := one_rd (S := (· < w.heap.size + 4)) rb ((k.stay (Stay.below hb fun _ h => h)).mono fun _ hk => by omega) (by omega)
  have HS := Lib.hid (same_any _ _ [x] _ (ha.mono fun _ hk => by simp; omega) (hc.mono fun _ hk => by simp; omega))
  have HB := Lib.hid hb
  clear h k ra rb ha hc hb
  go_enter Tryd.func10, Tryd.ntmps10
  go_wp2_with fail
  refine (HS.out).mono ?_
  rintro e w2 ⟨rfl, hb2⟩
  go_wp2_with fail
  go_ret
  exact ⟨rfl, HB.out.trans (Below.mono hb2 HB.out.size)⟩
end Go.Proofs.YtkocgedliakclaaDoor
