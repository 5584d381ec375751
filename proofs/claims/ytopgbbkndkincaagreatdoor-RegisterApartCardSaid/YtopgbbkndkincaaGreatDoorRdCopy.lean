/- Both books copied. -/
import Derived.Test.YtopgbbkndkincaaGreatDoorRdTwo
import Derived.Test.YtopgbbkndkincaaGreatDoorRgLay6
namespace Go.Proofs.YtopgbbkndkincaaGreatDoor
open Go.RowKit Go.PlainAid Go.Maps

/-- A copy of the program's book: all of it new. -/
def CopyP (n : Nat) (D : DataW Unit) (w : World) (e : Ending) (w' : World) : Prop := ∃ c mc, e = .returned (ptr c) ∧ w.heap.size ≤ c ∧ w.heap.size ≤ mc ∧ BookAt c mc n D w' ∧ Below w.heap.size w w'
set_option maxRecDepth 100000 in
set_option maxHeartbeats 1000000 in
theorem copy_any {b mb n : Nat} {D : DataW Unit} {w : World} (h : BookAt b mb n D w) : Calls Tryz.prog 7 #[ptr b] w (CopyP n D w) := by
  have hm := run_eql_map_some 39 mb
  have hc := h.cell
  have HC := Lib.hid (AnyW.maps_Clone_owns Tryz.cloneL 9 regElem mb n D w h.map)
  clear h
  go_enter Tryz.func7, Tryz.ntmps7
  go_wp2_with fail
  refine HC.out.mono ?_
  rintro e w1 ⟨rfl, h1, _, hb⟩
  have H1 := Lib.hid h1
  have HB := Lib.hid hb
  clear h1 hb
  go_wp2_with fail
  go_ret
  refine ⟨w1.heap.size, w.heap.size, rfl, HB.out.size, Nat.le_refl _, ⟨heap_alloc_new _ _, ?_⟩, HB.out.alloc HB.out.size _⟩
  exact H1.out.kept (row := none) ⟨rfl, rfl, rfl, by simp, fun k hk _ => Below.heap_alloc _ _ k hk⟩ (by simp)

/-- A copy of the document's. -/
def RCopyP (l : List Row) (w : World) (e : Ending) (w' : World) : Prop := ∃ y v, e = .returned (ptr y) ∧ RefAt w.heap.size y v l w' ∧ Below w.heap.size w w'
section
variable {B x : Nat} {v : Value} {l : List Row} {w : World}
theorem src_all (h : RefAt B x v l w) : SrcAt w v l.length (flat l) := by
  rcases h.ways with ⟨rfl, rfl⟩ | ⟨g, cap, rfl, _⟩
  · exact .inl ⟨rfl, rfl, rfl⟩
  · have := src_of h (i := 0) (m := l.length) cap (by omega)
    rw [Nat.zero_mul, List.drop_zero, List.take_length] at this
    exact this
theorem own_shape {W : World} {B n size : Nat} {e : TypeId} {v : Value} {xs : List Value} (h : W.ownsRow B e size v n xs) : ∃ ao c, v = .slice ao n c := by
  rcases h.2 with ⟨h1, h2⟩ | ⟨g, c, _, h1, _⟩
  · exact ⟨none, 0, by rw [h1, h2]⟩
  · exact ⟨_, c, h1⟩
set_option maxRecDepth 100000 in
set_option maxHeartbeats 1000000 in
theorem rcopy_any (h : RefAt B x v l w) : Calls Tryz.prog 8 #[ptr x] w (RCopyP l w) := by
  have hb0 : Below w.heap.size w (w.alloc (.cells #[] 62)) := (Below.refl _ _).alloc (Nat.le_refl _) _
  have h1 := h.below hb0
  have hc1 := h1.cell
  have hfew := h.few
  have O1 : Hid ((w.alloc (.cells #[] 62)).ownsRow w.heap.size 62 4 (.slice (some ⟨w.heap.size, 0, none⟩) 0 0) 0 []) := World.ownsRow_lit w #[] 0 (Nat.le_refl _) (by omega) rfl
  have HS := Lib.hid (src_all h1)
  have HB0 := Lib.hid hb0
  clear h h1 hb0
  go_enter Tryz.func8, Tryz.ntmps8
  go_wp2_with (at_builtin; refine wpList_app rfl (.tmp 3) (.tmp 7) rfl rfl rfl rfl O1.out HS.out (by omega) (by simp) ?_; intro v2 w2 own2 hg2; have HB2 := Lib.hid (below_of_new hg2); obtain ⟨ao, c, hv⟩ := own_shape own2; have O2 := Lib.hid own2; clear own2 hg2; subst hv)
  go_ret
  have hn : 0 + l.length = l.length := Nat.zero_add _
  have own := O2.out
  rw [List.nil_append, hn] at own
  exact ⟨w2.heap.size, .slice ao l.length c, rfl, ⟨heap_alloc_new _ _, own.alloc _, HB2.out.size, hfew⟩, HB2.out.alloc HB2.out.size _⟩
end
end Go.Proofs.YtopgbbkndkincaaGreatDoor
