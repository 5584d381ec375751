/- A deed is done to both books: Move, and asking. -/
import Derived.Test.YtghpcfodjacdpaaGreatDoorRdTwo
namespace Go.Proofs.YtghpcfodjacdpaaGreatDoor
open Go.RowKit Go.PlainAid Go.Maps

section
variable {A B b mb n x : Nat} {D : DataW Unit} {v : Value} {l : List Row} {w : World}
set_option maxRecDepth 100000 in
set_option maxHeartbeats 4000000 in
theorem does6 (h : Two A B b mb n D x v l w) (sm : Same D l) (a : Int) (nm fm : ByteArray) (z : Int) (ha : (IntKind.u64.wrap a).tmod 7 = 6) (hnm : nm.size ≤ 9223372036854775807) :
    Calls Tryz.prog 7 #[ptr b, ptr x, .agg (dcells a nm fm z)] w (DoesP A B b mb n x l w) := by
  have hbw : Below w.heap.size w (w.alloc (.cells (dcells a nm fm z) 32)) := (Below.refl _ _).alloc (Nat.le_refl _) _
  have HA := Lib.hid (asked_any ((h.below hbw).both sm) nm hnm)
  have HH := Lib.hid h
  have HB := Lib.hid hbw
  have HSM := Lib.hid sm
  clear h sm hbw
  go_enter Tryz.func7, Tryz.ntmps7
  go_wp2_with fail
  refine HA.out.mono ?_
  rintro e w1 ⟨rfl, hb⟩
  have hbb := HB.out.trans (hb.mono HB.out.size)
  go_wp2_with fail
  go_ret
  exact ⟨rfl, n, D, v, l, HH.out.below hbb, HSM.out, by omega, by omega, hbb.mono HH.out.le⟩
set_option maxRecDepth 100000 in
set_option maxHeartbeats 2000000 in
theorem does3 (h : Two A B b mb n D x v l w) (a : Int) (nm fm : ByteArray) (z : Int) (ha : (IntKind.u64.wrap a).tmod 7 = 3) {y k : Int} {n' : Nat} {D' : DataW Unit} {l' : List Row}
    (hP : Pair B b mb n x D l 18 19 #[ptr b, .string nm, .bool (decide (0 ≤ z))] #[ptr x, .string nm, .bool (decide (0 ≤ z))] (.tuple #[.int .i64 y, .int .i64 k]) n' D' l') :
    Calls Tryz.prog 7 #[ptr b, ptr x, .agg (dcells a nm fm z)] w (DoesP A B b mb n x l w) := by
  have HP := Lib.hid hP
  have HH := Lib.hid h
  clear hP h
  by_cases hz : 0 ≤ z
  case' pos => rw [decide_eq_true hz] at HP
  case' neg => rw [decide_eq_false hz] at HP
  all_goals
    go_enter Tryz.func7, Tryz.ntmps7
    have hbw : Below w.heap.size w (w.alloc (.cells (dcells a nm fm z) 32)) := (Below.refl _ _).alloc (Nat.le_refl _) _
    have hT := HH.out.below hbw
    have hS : (w.alloc (.cells (dcells a nm fm z) 32)).heap[w.heap.size]? = some (.cells (dcells a nm fm z) 32 (0, 0)) := heap_alloc_new _ _
    have HT := Lib.hid hT
    have HB := Lib.hid hbw
    have HS := Lib.hid hS
    clear hbw hT hS
    go_wp2_with fail
    refine (HP.out.p _ HT.out.bk).mono ?_
    rintro e w4 ⟨rfl, hb4, hg4⟩
    obtain ⟨hT4, hA4⟩ := HT.out.turn hb4 hg4
    have hH4 := HH.out.box_turn (Nat.le_refl _) HS.out hg4
    have HT4 := Lib.hid hT4
    have HA4 := Lib.hid hA4
    have c1 : w4.cell? ⟨w.heap.size, 1, none⟩ = some (.string nm) := cell_of hH4 rfl
    have c3 : w4.cell? ⟨w.heap.size, 3, none⟩ = some (.int .i64 z) := cell_of hH4 rfl
    clear hT4 hA4 hb4 hg4 hH4
    go_wp2_with fail
    try rw [show decide (0 ≤ z) = false from decide_eq_false (by omega)]
    refine (HP.out.r _ _ HT4.out.rf).mono ?_
    rintro e w5 ⟨rfl, ⟨v', hr5⟩, hk5⟩
    obtain ⟨hT5, hA5⟩ := HT4.out.keep hr5 hk5
    have HT5 := Lib.hid hT5
    have HA5 := Lib.hid hA5
    clear hT5 hA5 hr5 hk5
    go_wp2_with fail
    go_ret
    exact ⟨by simp, n', D', v', l', HT5.out, HP.out.sm, HP.out.hn, HP.out.hl, ((HB.out.mono HH.out.le).trans HA4.out).trans HA5.out⟩
end
end Go.Proofs.YtghpcfodjacdpaaGreatDoor
