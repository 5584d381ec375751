/- A deed is done to both books: Move, asking; any deed. -/
import Derived.Test.YtopgbbkndkincaaGreatDoorRdDeeds
namespace Go.Proofs.YtopgbbkndkincaaGreatDoor
open Go.RowKit Go.PlainAid Go.Maps

section
variable {A B b mb n x : Nat} {D : DataW Unit} {v : Value} {l : List Row} {w : World}
set_option maxRecDepth 100000 in
set_option maxHeartbeats 4000000 in
theorem does6 (h : Two A B b mb n D x v l w) (sm : Same D l) (a : Int) (nm fm : ByteArray) (z : Int) (ha : (IntKind.u64.wrap a).tmod 7 = 6) (hnm : nm.size ≤ 9223372036854775807) :
    Calls Tryz.prog 6 #[ptr b, ptr x, .agg (dcells a nm fm z)] w (DoesP A B b mb n x v l w) := by
  have hbw : Below w.heap.size w (w.alloc (.cells (dcells a nm fm z) 32)) := (Below.refl _ _).alloc (Nat.le_refl _) _
  have HA := Lib.hid (asked_any ((h.below hbw).both sm) nm hnm)
  have HH := Lib.hid h
  have HB := Lib.hid hbw
  have HSM := Lib.hid sm
  clear h sm hbw
  go_enter Tryz.func6, Tryz.ntmps6
  go_wp2_with fail
  refine HA.out.mono ?_
  rintro e w1 ⟨rfl, hb⟩
  have hbb := HB.out.trans (hb.mono HB.out.size)
  go_wp2_with fail
  go_ret
  exact ⟨rfl, n, D, v, l, HH.out.below hbb, HSM.out, by omega, by omega, hbb.mono HH.out.le, Apart.of_below hbb⟩
set_option maxRecDepth 100000 in
set_option maxHeartbeats 2000000 in
theorem does3 (h : Two A B b mb n D x v l w) (a : Int) (nm fm : ByteArray) (z : Int) (ha : (IntKind.u64.wrap a).tmod 7 = 3) {y k : Int} {n' : Nat} {D' : DataW Unit} {l' : List Row}
    (hP : Pair B b mb n x D l 17 18 #[ptr b, .string nm, .bool (decide (0 ≤ z))] #[ptr x, .string nm, .bool (decide (0 ≤ z))] (.tuple #[.int .i64 y, .int .i64 k]) n' D' l') :
    Calls Tryz.prog 6 #[ptr b, ptr x, .agg (dcells a nm fm z)] w (DoesP A B b mb n x v l w) := by
  have HP := Lib.hid hP
  have HH := Lib.hid h
  clear hP h
  by_cases hz : 0 ≤ z
  case' pos => rw [decide_eq_true hz] at HP
  case' neg => rw [decide_eq_false hz] at HP
  all_goals
    go_enter Tryz.func6, Tryz.ntmps6
    have hbw : Below w.heap.size w (w.alloc (.cells (dcells a nm fm z) 32)) := (Below.refl _ _).alloc (Nat.le_refl _) _
    have hT := HH.out.below hbw
    have hS : (w.alloc (.cells (dcells a nm fm z) 32)).heap[w.heap.size]? = some (.cells (dcells a nm fm z) 32 (0, 0)) := heap_alloc_new _ _
    have HT := Lib.hid hT
    have HB := Lib.hid hbw
    have HS := Lib.hid hS
    clear hbw hT hS
    go_wp2_with fail
    refine (HP.out.p _ HT.out.bk).mono ?_
    rintro e w4 ⟨rfl, hb4, hg4⟩
    obtain ⟨hT4, hA4⟩ := HT.out.turn hb4 hg4
    have hH4 := HH.out.box_turn (Nat.le_refl _) HS.out hg4
    have HT4 := Lib.hid hT4
    have HA4 := Lib.hid hA4
    have HG4 := Lib.hid hg4
    have c1 : w4.cell? ⟨w.heap.size, 1, none⟩ = some (.string nm) := cell_of hH4 rfl
    have c3 : w4.cell? ⟨w.heap.size, 3, none⟩ = some (.int .i64 z) := cell_of hH4 rfl
    clear hT4 hA4 hb4 hg4 hH4
    go_wp2_with fail
    try rw [show decide (0 ≤ z) = false from decide_eq_false (by omega)]
    refine (HP.out.r _ _ HT4.out.rf).mono ?_
    rintro e w5 ⟨rfl, ⟨v', hr5, hn5⟩, hk5⟩
    obtain ⟨hT5, hA5⟩ := HT4.out.keep hr5 hk5
    have HT5 := Lib.hid hT5
    have HA5 := Lib.hid hA5
    have HK5 := Lib.hid (And.intro hk5 hn5)
    clear hT5 hA5 hr5 hk5 hn5
    go_wp2_with fail
    go_ret
    exact ⟨by simp, n', D', v', l', HT5.out, HP.out.sm, HP.out.hn, HP.out.hl, ((HB.out.mono HH.out.le).trans HA4.out).trans HA5.out, apart_of HB.out HG4.out HK5.out.1 HK5.out.2⟩
end
/-- A deed that came in. -/
structure DeedV where
  what : Int
  name : ByteArray
  form : ByteArray
  num : Int
abbrev deedV (d : DeedV) : Value := .agg (dcells d.what d.name d.form d.num)
def DeedOk (d : DeedV) : Prop := d.name.size ≤ 9223372036854775807 ∧ d.form.size ≤ 9223372036854775807
section
variable {A B b mb n x : Nat} {D : DataW Unit} {v : Value} {l : List Row} {w : World}
theorem does_any (h : Two A B b mb n D x v l w) (sm : Same D l) (hn : n < 500) (hl : l.length < 500) (d : DeedV) (hd : DeedOk d) :
    Calls Tryz.prog 6 #[ptr b, ptr x, deedV d] w (DoesP A B b mb n x v l w) := by
  obtain ⟨a, nm, fm, z⟩ := d
  obtain ⟨hnm, hfm⟩ := hd
  have hD : IsMap D := h.bk.map.isMap
  have hsz : Maps.size D < 500 := Nat.lt_of_le_of_lt h.bk.map.size_le hn
  have hmx : n < maxLen := by unfold maxLen; omega
  obtain ⟨j, hj, j0, j6⟩ := umod7 a
  rcases (show j = 0 ∨ j = 1 ∨ j = 2 ∨ j = 3 ∨ j = 4 ∨ j = 5 ∨ j = 6 by omega) with rfl | rfl | rfl | rfl | rfl | rfl | rfl
  · obtain ⟨k, n', D', l', P⟩ := set_pair (B := B) (b := b) (mb := mb) (x := x) (nm := nm) sm hD hsz hl hmx hnm z
    exact does0 h a nm fm z hj P
  · obtain ⟨k, n', D', l', P⟩ := step_pair (B := B) (b := b) (mb := mb) (x := x) (nm := nm) sm hD hsz hl hmx hnm z
    exact does1 h a nm fm z hj P
  · obtain ⟨k, n', D', l', P⟩ := format_pair (B := B) (b := b) (mb := mb) (x := x) (nm := nm) sm hD hsz hl hmx hnm fm hfm
    exact does2 h a nm fm z hj P
  · obtain ⟨y, k, n', D', l', P⟩ := move_pair (B := B) (b := b) (mb := mb) (x := x) (nm := nm) sm hD hl hmx hnm (decide (0 ≤ z))
    exact does3 h a nm fm z hj P
  · obtain ⟨k, n', D', l', P⟩ := remove_pair (n := n) (B := B) (b := b) (mb := mb) (x := x) (nm := nm) sm hnm
    exact does4 h a nm fm z hj P
  · obtain ⟨k, n', D', l', P⟩ := rename_pair (B := B) (b := b) (mb := mb) (x := x) (nm := nm) sm hD hl hmx hnm fm hfm
    exact does5 h a nm fm z hj P
  · exact does6 h sm a nm fm z hj hnm
end
end Go.Proofs.YtopgbbkndkincaaGreatDoor
