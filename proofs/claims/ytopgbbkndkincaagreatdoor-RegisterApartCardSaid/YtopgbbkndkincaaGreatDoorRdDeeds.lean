/- A deed is done to both books: walked region by region (made by a script). -/
import Derived.Test.YtopgbbkndkincaaGreatDoorRdTwo
namespace Go.Proofs.YtopgbbkndkincaaGreatDoor
open Go.RowKit Go.PlainAid Go.Maps

section
variable {A B b mb n x : Nat} {D : DataW Unit} {v : Value} {l : List Row} {w : World}
set_option maxRecDepth 100000 in
set_option maxHeartbeats 4000000 in
theorem does0 (h : Two A B b mb n D x v l w) (a : Int) (nm fm : ByteArray) (z : Int) (ha : (IntKind.u64.wrap a).tmod 7 = 0) {k : Int} {n' : Nat} {D' : DataW Unit} {l' : List Row}
    (hP : Pair B b mb n x D l 11 12 #[ptr b, .string nm, .int .i64 z] #[ptr x, .string nm, .int .i64 z] (.int .i64 k) n' D' l') :
    Calls Tryz.prog 6 #[ptr b, ptr x, .agg (dcells a nm fm z)] w (DoesP A B b mb n x v l w) := by
  have HP := Lib.hid hP
  have HH := Lib.hid h
  clear hP h
  go_enter Tryz.func6, Tryz.ntmps6
  go_wp2_with fail
  have hbw : Below w.heap.size w (w.alloc (.cells (dcells a nm fm z) 32)).drew := below_drewN ((Below.refl _ _).alloc (Nat.le_refl _) _) 1
  have hT := HH.out.below hbw
  have hS : (w.alloc (.cells (dcells a nm fm z) 32)).drew.heap[w.heap.size]? = some (.cells (dcells a nm fm z) 32 (0, 0)) := heap_alloc_new _ _
  have HT := Lib.hid hT
  have HB := Lib.hid hbw
  clear hbw hT ha
  refine wp_region_held_drew (S := fun W => W.heap[w.heap.size]? = some (.cells (dcells a nm fm z) 32 (0, 0))) (by kernel_rfl) hS (fun hH => ?_)
  clear hS
  simp only [List.size_toArray, List.length_cons, List.length_nil, Nat.reduceAdd, Array.replicate_succ, Array.replicate_zero, List.push_toArray]
  refine take_at (i := 0) (v := ptr b) rfl rfl (by kernel_rfl) (by kernel_rfl) (by kernel_rfl) (fun _ _ _ h => h) (.inl ⟨by rfl, fun _ _ => by go_simp⟩) hH ?_
  simp only [List.setIfInBounds_toArray, List.set_cons_zero, List.set_cons_succ]
  refine take_at (i := 1) (v := .pointer (some ⟨w.heap.size, 1, none⟩)) rfl rfl (by kernel_rfl) (by kernel_rfl) (by kernel_rfl) (fun _ _ _ h => h) (.inl ⟨by rfl, fun _ _ => by go_simp⟩) hH ?_
  simp only [List.setIfInBounds_toArray, List.set_cons_zero, List.set_cons_succ]
  refine take_at (i := 2) (v := .string nm) rfl rfl (by kernel_rfl) (by kernel_rfl) (by kernel_rfl) (fun _ _ _ h => h) (.inl ⟨by rfl, fun _ hw => by have h := cell_of (k := 1) hw rfl; go_simp⟩) hH ?_
  simp only [List.setIfInBounds_toArray, List.set_cons_zero, List.set_cons_succ]
  refine take_at (i := 3) (v := .pointer (some ⟨w.heap.size, 3, none⟩)) rfl rfl (by kernel_rfl) (by kernel_rfl) (by kernel_rfl) (fun _ _ _ h => h) (.inl ⟨by rfl, fun _ _ => by go_simp⟩) hH ?_
  simp only [List.setIfInBounds_toArray, List.set_cons_zero, List.set_cons_succ]
  refine take_at (i := 4) (v := .int .i64 z) rfl rfl (by kernel_rfl) (by kernel_rfl) (by kernel_rfl) (fun _ _ _ h => h) (.inl ⟨by rfl, fun _ hw => by have h := cell_of (k := 3) hw rfl; go_simp⟩) hH ?_
  simp only [List.setIfInBounds_toArray, List.set_cons_zero, List.set_cons_succ]
  refine take_at (i := 6) (v := ptr x) rfl rfl (by kernel_rfl) (by kernel_rfl) (by kernel_rfl) (fun _ _ _ h => h) (.inl ⟨by rfl, fun _ _ => by go_simp⟩) hH ?_
  simp only [List.setIfInBounds_toArray, List.set_cons_zero, List.set_cons_succ]
  refine take_at (i := 7) (v := .pointer (some ⟨w.heap.size, 1, none⟩)) rfl rfl (by kernel_rfl) (by kernel_rfl) (by kernel_rfl) (fun _ _ _ h => h) (.inl ⟨by rfl, fun _ _ => by go_simp⟩) hH ?_
  simp only [List.setIfInBounds_toArray, List.set_cons_zero, List.set_cons_succ]
  refine take_at (i := 8) (v := .string nm) rfl rfl (by kernel_rfl) (by kernel_rfl) (by kernel_rfl) (fun _ _ _ h => h) (.inl ⟨by rfl, fun _ hw => by have h := cell_of (k := 1) hw rfl; go_simp⟩) hH ?_
  simp only [List.setIfInBounds_toArray, List.set_cons_zero, List.set_cons_succ]
  refine take_at (i := 9) (v := .pointer (some ⟨w.heap.size, 3, none⟩)) rfl rfl (by kernel_rfl) (by kernel_rfl) (by kernel_rfl) (fun _ _ _ h => h) (.inl ⟨by rfl, fun _ _ => by go_simp⟩) hH ?_
  simp only [List.setIfInBounds_toArray, List.set_cons_zero, List.set_cons_succ]
  refine take_at (i := 10) (v := .int .i64 z) rfl rfl (by kernel_rfl) (by kernel_rfl) (by kernel_rfl) (fun _ _ _ h => h) (.inl ⟨by rfl, fun _ hw => by have h := cell_of (k := 3) hw rfl; go_simp⟩) hH ?_
  simp only [List.setIfInBounds_toArray, List.set_cons_zero, List.set_cons_succ]
  refine call_at (i := 5) rfl (by kernel_rfl) (by rfl) (fun K hK => ?_)
  go_simp
  refine (HP.out.p _ HT.out.bk).mono ?_
  rintro e w4 ⟨rfl, hb4, hg4⟩
  obtain ⟨hT4, hA4⟩ := HT.out.turn hb4 hg4
  have hH4 := HH.out.box_turn (Nat.le_refl _) hH hg4
  have HT4 := Lib.hid hT4
  have HA4 := Lib.hid hA4
  have HG4 := Lib.hid hg4
  clear hH hT4 hA4 hb4 hg4
  go_wp2_with fail
  refine hK.out _ _ hH4 (fun hH => ?_)
  clear hK K hH4
  simp only [List.setIfInBounds_toArray]
  refine call_at (i := 11) rfl (by kernel_rfl) (by rfl) (fun K hK => ?_)
  go_simp
  refine (HP.out.r _ _ HT4.out.rf).mono ?_
  rintro e w5 ⟨rfl, ⟨v', hr5, hn5⟩, hk5⟩
  obtain ⟨hT5, hA5⟩ := HT4.out.keep hr5 hk5
  have hH5 := HH.out.box_keep (Nat.le_refl _) hH hk5
  have HT5 := Lib.hid hT5
  have HA5 := Lib.hid hA5
  have HK5 := Lib.hid (And.intro hk5 hn5)
  clear hH hT5 hA5 hr5 hk5 hn5
  go_wp2_with fail
  refine hK.out _ _ hH5 (fun hH => ?_)
  clear hK K hH5
  simp only [List.setIfInBounds_toArray]
  refine take_at (i := 12) (v := .bool true) rfl rfl (by kernel_rfl) (by kernel_rfl) (by kernel_rfl) (fun _ _ _ h => h) (.inl ⟨by rfl, fun _ _ => by go_simp⟩) hH ?_
  simp only [List.setIfInBounds_toArray, List.set_cons_zero, List.set_cons_succ]
  refine take_at (i := 13) (v := .bool true) rfl rfl (by kernel_rfl) (by kernel_rfl) (by kernel_rfl) (fun _ _ _ h => h) (.inl ⟨by rfl, fun _ _ => by go_simp⟩) hH ?_
  simp only [List.setIfInBounds_toArray, List.set_cons_zero, List.set_cons_succ]
  refine wpAnyH_done (by kernel_rfl) ?_ _
  clear hH
  go_wp2_with fail
  go_ret
  exact ⟨rfl, n', D', v', l', HT5.out, HP.out.sm, HP.out.hn, HP.out.hl, ((HB.out.mono HH.out.le).trans HA4.out).trans HA5.out, apart_of HB.out HG4.out HK5.out.1 HK5.out.2⟩
set_option maxRecDepth 100000 in
set_option maxHeartbeats 4000000 in
theorem does1 (h : Two A B b mb n D x v l w) (a : Int) (nm fm : ByteArray) (z : Int) (ha : (IntKind.u64.wrap a).tmod 7 = 1) {k : Int} {n' : Nat} {D' : DataW Unit} {l' : List Row}
    (hP : Pair B b mb n x D l 13 14 #[ptr b, .string nm, .int .i64 z] #[ptr x, .string nm, .int .i64 z] (.int .i64 k) n' D' l') :
    Calls Tryz.prog 6 #[ptr b, ptr x, .agg (dcells a nm fm z)] w (DoesP A B b mb n x v l w) := by
  have HP := Lib.hid hP
  have HH := Lib.hid h
  clear hP h
  go_enter Tryz.func6, Tryz.ntmps6
  go_wp2_with fail
  have hbw : Below w.heap.size w (w.alloc (.cells (dcells a nm fm z) 32)).drew := below_drewN ((Below.refl _ _).alloc (Nat.le_refl _) _) 1
  have hT := HH.out.below hbw
  have hS : (w.alloc (.cells (dcells a nm fm z) 32)).drew.heap[w.heap.size]? = some (.cells (dcells a nm fm z) 32 (0, 0)) := heap_alloc_new _ _
  have HT := Lib.hid hT
  have HB := Lib.hid hbw
  clear hbw hT ha
  refine wp_region_held_drew (S := fun W => W.heap[w.heap.size]? = some (.cells (dcells a nm fm z) 32 (0, 0))) (by kernel_rfl) hS (fun hH => ?_)
  clear hS
  simp only [List.size_toArray, List.length_cons, List.length_nil, Nat.reduceAdd, Array.replicate_succ, Array.replicate_zero, List.push_toArray]
  refine take_at (i := 0) (v := ptr b) rfl rfl (by kernel_rfl) (by kernel_rfl) (by kernel_rfl) (fun _ _ _ h => h) (.inl ⟨by rfl, fun _ _ => by go_simp⟩) hH ?_
  simp only [List.setIfInBounds_toArray, List.set_cons_zero, List.set_cons_succ]
  refine take_at (i := 1) (v := .pointer (some ⟨w.heap.size, 1, none⟩)) rfl rfl (by kernel_rfl) (by kernel_rfl) (by kernel_rfl) (fun _ _ _ h => h) (.inl ⟨by rfl, fun _ _ => by go_simp⟩) hH ?_
  simp only [List.setIfInBounds_toArray, List.set_cons_zero, List.set_cons_succ]
  refine take_at (i := 2) (v := .string nm) rfl rfl (by kernel_rfl) (by kernel_rfl) (by kernel_rfl) (fun _ _ _ h => h) (.inl ⟨by rfl, fun _ hw => by have h := cell_of (k := 1) hw rfl; go_simp⟩) hH ?_
  simp only [List.setIfInBounds_toArray, List.set_cons_zero, List.set_cons_succ]
  refine take_at (i := 3) (v := .pointer (some ⟨w.heap.size, 3, none⟩)) rfl rfl (by kernel_rfl) (by kernel_rfl) (by kernel_rfl) (fun _ _ _ h => h) (.inl ⟨by rfl, fun _ _ => by go_simp⟩) hH ?_
  simp only [List.setIfInBounds_toArray, List.set_cons_zero, List.set_cons_succ]
  refine take_at (i := 4) (v := .int .i64 z) rfl rfl (by kernel_rfl) (by kernel_rfl) (by kernel_rfl) (fun _ _ _ h => h) (.inl ⟨by rfl, fun _ hw => by have h := cell_of (k := 3) hw rfl; go_simp⟩) hH ?_
  simp only [List.setIfInBounds_toArray, List.set_cons_zero, List.set_cons_succ]
  refine take_at (i := 6) (v := ptr x) rfl rfl (by kernel_rfl) (by kernel_rfl) (by kernel_rfl) (fun _ _ _ h => h) (.inl ⟨by rfl, fun _ _ => by go_simp⟩) hH ?_
  simp only [List.setIfInBounds_toArray, List.set_cons_zero, List.set_cons_succ]
  refine take_at (i := 7) (v := .pointer (some ⟨w.heap.size, 1, none⟩)) rfl rfl (by kernel_rfl) (by kernel_rfl) (by kernel_rfl) (fun _ _ _ h => h) (.inl ⟨by rfl, fun _ _ => by go_simp⟩) hH ?_
  simp only [List.setIfInBounds_toArray, List.set_cons_zero, List.set_cons_succ]
  refine take_at (i := 8) (v := .string nm) rfl rfl (by kernel_rfl) (by kernel_rfl) (by kernel_rfl) (fun _ _ _ h => h) (.inl ⟨by rfl, fun _ hw => by have h := cell_of (k := 1) hw rfl; go_simp⟩) hH ?_
  simp only [List.setIfInBounds_toArray, List.set_cons_zero, List.set_cons_succ]
  refine take_at (i := 9) (v := .pointer (some ⟨w.heap.size, 3, none⟩)) rfl rfl (by kernel_rfl) (by kernel_rfl) (by kernel_rfl) (fun _ _ _ h => h) (.inl ⟨by rfl, fun _ _ => by go_simp⟩) hH ?_
  simp only [List.setIfInBounds_toArray, List.set_cons_zero, List.set_cons_succ]
  refine take_at (i := 10) (v := .int .i64 z) rfl rfl (by kernel_rfl) (by kernel_rfl) (by kernel_rfl) (fun _ _ _ h => h) (.inl ⟨by rfl, fun _ hw => by have h := cell_of (k := 3) hw rfl; go_simp⟩) hH ?_
  simp only [List.setIfInBounds_toArray, List.set_cons_zero, List.set_cons_succ]
  refine call_at (i := 5) rfl (by kernel_rfl) (by rfl) (fun K hK => ?_)
  go_simp
  refine (HP.out.p _ HT.out.bk).mono ?_
  rintro e w4 ⟨rfl, hb4, hg4⟩
  obtain ⟨hT4, hA4⟩ := HT.out.turn hb4 hg4
  have hH4 := HH.out.box_turn (Nat.le_refl _) hH hg4
  have HT4 := Lib.hid hT4
  have HA4 := Lib.hid hA4
  have HG4 := Lib.hid hg4
  clear hH hT4 hA4 hb4 hg4
  go_wp2_with fail
  refine hK.out _ _ hH4 (fun hH => ?_)
  clear hK K hH4
  simp only [List.setIfInBounds_toArray]
  refine call_at (i := 11) rfl (by kernel_rfl) (by rfl) (fun K hK => ?_)
  go_simp
  refine (HP.out.r _ _ HT4.out.rf).mono ?_
  rintro e w5 ⟨rfl, ⟨v', hr5, hn5⟩, hk5⟩
  obtain ⟨hT5, hA5⟩ := HT4.out.keep hr5 hk5
  have hH5 := HH.out.box_keep (Nat.le_refl _) hH hk5
  have HT5 := Lib.hid hT5
  have HA5 := Lib.hid hA5
  have HK5 := Lib.hid (And.intro hk5 hn5)
  clear hH hT5 hA5 hr5 hk5 hn5
  go_wp2_with fail
  refine hK.out _ _ hH5 (fun hH => ?_)
  clear hK K hH5
  simp only [List.setIfInBounds_toArray]
  refine take_at (i := 12) (v := .bool true) rfl rfl (by kernel_rfl) (by kernel_rfl) (by kernel_rfl) (fun _ _ _ h => h) (.inl ⟨by rfl, fun _ _ => by go_simp⟩) hH ?_
  simp only [List.setIfInBounds_toArray, List.set_cons_zero, List.set_cons_succ]
  refine take_at (i := 13) (v := .bool true) rfl rfl (by kernel_rfl) (by kernel_rfl) (by kernel_rfl) (fun _ _ _ h => h) (.inl ⟨by rfl, fun _ _ => by go_simp⟩) hH ?_
  simp only [List.setIfInBounds_toArray, List.set_cons_zero, List.set_cons_succ]
  refine wpAnyH_done (by kernel_rfl) ?_ _
  clear hH
  go_wp2_with fail
  go_ret
  exact ⟨rfl, n', D', v', l', HT5.out, HP.out.sm, HP.out.hn, HP.out.hl, ((HB.out.mono HH.out.le).trans HA4.out).trans HA5.out, apart_of HB.out HG4.out HK5.out.1 HK5.out.2⟩
set_option maxRecDepth 100000 in
set_option maxHeartbeats 4000000 in
theorem does2 (h : Two A B b mb n D x v l w) (a : Int) (nm fm : ByteArray) (z : Int) (ha : (IntKind.u64.wrap a).tmod 7 = 2) {k : Int} {n' : Nat} {D' : DataW Unit} {l' : List Row}
    (hP : Pair B b mb n x D l 15 16 #[ptr b, .string nm, .string fm] #[ptr x, .string nm, .string fm] (.int .i64 k) n' D' l') :
    Calls Tryz.prog 6 #[ptr b, ptr x, .agg (dcells a nm fm z)] w (DoesP A B b mb n x v l w) := by
  have HP := Lib.hid hP
  have HH := Lib.hid h
  clear hP h
  go_enter Tryz.func6, Tryz.ntmps6
  go_wp2_with fail
  have hbw : Below w.heap.size w (w.alloc (.cells (dcells a nm fm z) 32)).drew := below_drewN ((Below.refl _ _).alloc (Nat.le_refl _) _) 1
  have hT := HH.out.below hbw
  have hS : (w.alloc (.cells (dcells a nm fm z) 32)).drew.heap[w.heap.size]? = some (.cells (dcells a nm fm z) 32 (0, 0)) := heap_alloc_new _ _
  have HT := Lib.hid hT
  have HB := Lib.hid hbw
  clear hbw hT ha
  refine wp_region_held_drew (S := fun W => W.heap[w.heap.size]? = some (.cells (dcells a nm fm z) 32 (0, 0))) (by kernel_rfl) hS (fun hH => ?_)
  clear hS
  simp only [List.size_toArray, List.length_cons, List.length_nil, Nat.reduceAdd, Array.replicate_succ, Array.replicate_zero, List.push_toArray]
  refine take_at (i := 0) (v := ptr b) rfl rfl (by kernel_rfl) (by kernel_rfl) (by kernel_rfl) (fun _ _ _ h => h) (.inl ⟨by rfl, fun _ _ => by go_simp⟩) hH ?_
  simp only [List.setIfInBounds_toArray, List.set_cons_zero, List.set_cons_succ]
  refine take_at (i := 1) (v := .pointer (some ⟨w.heap.size, 1, none⟩)) rfl rfl (by kernel_rfl) (by kernel_rfl) (by kernel_rfl) (fun _ _ _ h => h) (.inl ⟨by rfl, fun _ _ => by go_simp⟩) hH ?_
  simp only [List.setIfInBounds_toArray, List.set_cons_zero, List.set_cons_succ]
  refine take_at (i := 2) (v := .string nm) rfl rfl (by kernel_rfl) (by kernel_rfl) (by kernel_rfl) (fun _ _ _ h => h) (.inl ⟨by rfl, fun _ hw => by have h := cell_of (k := 1) hw rfl; go_simp⟩) hH ?_
  simp only [List.setIfInBounds_toArray, List.set_cons_zero, List.set_cons_succ]
  refine take_at (i := 3) (v := .pointer (some ⟨w.heap.size, 2, none⟩)) rfl rfl (by kernel_rfl) (by kernel_rfl) (by kernel_rfl) (fun _ _ _ h => h) (.inl ⟨by rfl, fun _ _ => by go_simp⟩) hH ?_
  simp only [List.setIfInBounds_toArray, List.set_cons_zero, List.set_cons_succ]
  refine take_at (i := 4) (v := .string fm) rfl rfl (by kernel_rfl) (by kernel_rfl) (by kernel_rfl) (fun _ _ _ h => h) (.inl ⟨by rfl, fun _ hw => by have h := cell_of (k := 2) hw rfl; go_simp⟩) hH ?_
  simp only [List.setIfInBounds_toArray, List.set_cons_zero, List.set_cons_succ]
  refine take_at (i := 6) (v := ptr x) rfl rfl (by kernel_rfl) (by kernel_rfl) (by kernel_rfl) (fun _ _ _ h => h) (.inl ⟨by rfl, fun _ _ => by go_simp⟩) hH ?_
  simp only [List.setIfInBounds_toArray, List.set_cons_zero, List.set_cons_succ]
  refine take_at (i := 7) (v := .pointer (some ⟨w.heap.size, 1, none⟩)) rfl rfl (by kernel_rfl) (by kernel_rfl) (by kernel_rfl) (fun _ _ _ h => h) (.inl ⟨by rfl, fun _ _ => by go_simp⟩) hH ?_
  simp only [List.setIfInBounds_toArray, List.set_cons_zero, List.set_cons_succ]
  refine take_at (i := 8) (v := .string nm) rfl rfl (by kernel_rfl) (by kernel_rfl) (by kernel_rfl) (fun _ _ _ h => h) (.inl ⟨by rfl, fun _ hw => by have h := cell_of (k := 1) hw rfl; go_simp⟩) hH ?_
  simp only [List.setIfInBounds_toArray, List.set_cons_zero, List.set_cons_succ]
  refine take_at (i := 9) (v := .pointer (some ⟨w.heap.size, 2, none⟩)) rfl rfl (by kernel_rfl) (by kernel_rfl) (by kernel_rfl) (fun _ _ _ h => h) (.inl ⟨by rfl, fun _ _ => by go_simp⟩) hH ?_
  simp only [List.setIfInBounds_toArray, List.set_cons_zero, List.set_cons_succ]
  refine take_at (i := 10) (v := .string fm) rfl rfl (by kernel_rfl) (by kernel_rfl) (by kernel_rfl) (fun _ _ _ h => h) (.inl ⟨by rfl, fun _ hw => by have h := cell_of (k := 2) hw rfl; go_simp⟩) hH ?_
  simp only [List.setIfInBounds_toArray, List.set_cons_zero, List.set_cons_succ]
  refine call_at (i := 5) rfl (by kernel_rfl) (by rfl) (fun K hK => ?_)
  go_simp
  refine (HP.out.p _ HT.out.bk).mono ?_
  rintro e w4 ⟨rfl, hb4, hg4⟩
  obtain ⟨hT4, hA4⟩ := HT.out.turn hb4 hg4
  have hH4 := HH.out.box_turn (Nat.le_refl _) hH hg4
  have HT4 := Lib.hid hT4
  have HA4 := Lib.hid hA4
  have HG4 := Lib.hid hg4
  clear hH hT4 hA4 hb4 hg4
  go_wp2_with fail
  refine hK.out _ _ hH4 (fun hH => ?_)
  clear hK K hH4
  simp only [List.setIfInBounds_toArray]
  refine call_at (i := 11) rfl (by kernel_rfl) (by rfl) (fun K hK => ?_)
  go_simp
  refine (HP.out.r _ _ HT4.out.rf).mono ?_
  rintro e w5 ⟨rfl, ⟨v', hr5, hn5⟩, hk5⟩
  obtain ⟨hT5, hA5⟩ := HT4.out.keep hr5 hk5
  have hH5 := HH.out.box_keep (Nat.le_refl _) hH hk5
  have HT5 := Lib.hid hT5
  have HA5 := Lib.hid hA5
  have HK5 := Lib.hid (And.intro hk5 hn5)
  clear hH hT5 hA5 hr5 hk5 hn5
  go_wp2_with fail
  refine hK.out _ _ hH5 (fun hH => ?_)
  clear hK K hH5
  simp only [List.setIfInBounds_toArray]
  refine take_at (i := 12) (v := .bool true) rfl rfl (by kernel_rfl) (by kernel_rfl) (by kernel_rfl) (fun _ _ _ h => h) (.inl ⟨by rfl, fun _ _ => by go_simp⟩) hH ?_
  simp only [List.setIfInBounds_toArray, List.set_cons_zero, List.set_cons_succ]
  refine take_at (i := 13) (v := .bool true) rfl rfl (by kernel_rfl) (by kernel_rfl) (by kernel_rfl) (fun _ _ _ h => h) (.inl ⟨by rfl, fun _ _ => by go_simp⟩) hH ?_
  simp only [List.setIfInBounds_toArray, List.set_cons_zero, List.set_cons_succ]
  refine wpAnyH_done (by kernel_rfl) ?_ _
  clear hH
  go_wp2_with fail
  go_ret
  exact ⟨rfl, n', D', v', l', HT5.out, HP.out.sm, HP.out.hn, HP.out.hl, ((HB.out.mono HH.out.le).trans HA4.out).trans HA5.out, apart_of HB.out HG4.out HK5.out.1 HK5.out.2⟩
set_option maxRecDepth 100000 in
set_option maxHeartbeats 4000000 in
theorem does4 (h : Two A B b mb n D x v l w) (a : Int) (nm fm : ByteArray) (z : Int) (ha : (IntKind.u64.wrap a).tmod 7 = 4) {k : Int} {n' : Nat} {D' : DataW Unit} {l' : List Row}
    (hP : Pair B b mb n x D l 19 20 #[ptr b, .string nm] #[ptr x, .string nm] (.int .i64 k) n' D' l') :
    Calls Tryz.prog 6 #[ptr b, ptr x, .agg (dcells a nm fm z)] w (DoesP A B b mb n x v l w) := by
  have HP := Lib.hid hP
  have HH := Lib.hid h
  clear hP h
  go_enter Tryz.func6, Tryz.ntmps6
  go_wp2_with fail
  have hbw : Below w.heap.size w (w.alloc (.cells (dcells a nm fm z) 32)).drew := below_drewN ((Below.refl _ _).alloc (Nat.le_refl _) _) 1
  have hT := HH.out.below hbw
  have hS : (w.alloc (.cells (dcells a nm fm z) 32)).drew.heap[w.heap.size]? = some (.cells (dcells a nm fm z) 32 (0, 0)) := heap_alloc_new _ _
  have HT := Lib.hid hT
  have HB := Lib.hid hbw
  clear hbw hT ha
  refine wp_region_held_drew (S := fun W => W.heap[w.heap.size]? = some (.cells (dcells a nm fm z) 32 (0, 0))) (by kernel_rfl) hS (fun hH => ?_)
  clear hS
  simp only [List.size_toArray, List.length_cons, List.length_nil, Nat.reduceAdd, Array.replicate_succ, Array.replicate_zero, List.push_toArray]
  refine take_at (i := 0) (v := ptr b) rfl rfl (by kernel_rfl) (by kernel_rfl) (by kernel_rfl) (fun _ _ _ h => h) (.inl ⟨by rfl, fun _ _ => by go_simp⟩) hH ?_
  simp only [List.setIfInBounds_toArray, List.set_cons_zero, List.set_cons_succ]
  refine take_at (i := 1) (v := .pointer (some ⟨w.heap.size, 1, none⟩)) rfl rfl (by kernel_rfl) (by kernel_rfl) (by kernel_rfl) (fun _ _ _ h => h) (.inl ⟨by rfl, fun _ _ => by go_simp⟩) hH ?_
  simp only [List.setIfInBounds_toArray, List.set_cons_zero, List.set_cons_succ]
  refine take_at (i := 2) (v := .string nm) rfl rfl (by kernel_rfl) (by kernel_rfl) (by kernel_rfl) (fun _ _ _ h => h) (.inl ⟨by rfl, fun _ hw => by have h := cell_of (k := 1) hw rfl; go_simp⟩) hH ?_
  simp only [List.setIfInBounds_toArray, List.set_cons_zero, List.set_cons_succ]
  refine take_at (i := 4) (v := ptr x) rfl rfl (by kernel_rfl) (by kernel_rfl) (by kernel_rfl) (fun _ _ _ h => h) (.inl ⟨by rfl, fun _ _ => by go_simp⟩) hH ?_
  simp only [List.setIfInBounds_toArray, List.set_cons_zero, List.set_cons_succ]
  refine take_at (i := 5) (v := .pointer (some ⟨w.heap.size, 1, none⟩)) rfl rfl (by kernel_rfl) (by kernel_rfl) (by kernel_rfl) (fun _ _ _ h => h) (.inl ⟨by rfl, fun _ _ => by go_simp⟩) hH ?_
  simp only [List.setIfInBounds_toArray, List.set_cons_zero, List.set_cons_succ]
  refine take_at (i := 6) (v := .string nm) rfl rfl (by kernel_rfl) (by kernel_rfl) (by kernel_rfl) (fun _ _ _ h => h) (.inl ⟨by rfl, fun _ hw => by have h := cell_of (k := 1) hw rfl; go_simp⟩) hH ?_
  simp only [List.setIfInBounds_toArray, List.set_cons_zero, List.set_cons_succ]
  refine call_at (i := 3) rfl (by kernel_rfl) (by rfl) (fun K hK => ?_)
  go_simp
  refine (HP.out.p _ HT.out.bk).mono ?_
  rintro e w4 ⟨rfl, hb4, hg4⟩
  obtain ⟨hT4, hA4⟩ := HT.out.turn hb4 hg4
  have hH4 := HH.out.box_turn (Nat.le_refl _) hH hg4
  have HT4 := Lib.hid hT4
  have HA4 := Lib.hid hA4
  have HG4 := Lib.hid hg4
  clear hH hT4 hA4 hb4 hg4
  go_wp2_with fail
  refine hK.out _ _ hH4 (fun hH => ?_)
  clear hK K hH4
  simp only [List.setIfInBounds_toArray]
  refine call_at (i := 7) rfl (by kernel_rfl) (by rfl) (fun K hK => ?_)
  go_simp
  refine (HP.out.r _ _ HT4.out.rf).mono ?_
  rintro e w5 ⟨rfl, ⟨v', hr5, hn5⟩, hk5⟩
  obtain ⟨hT5, hA5⟩ := HT4.out.keep hr5 hk5
  have hH5 := HH.out.box_keep (Nat.le_refl _) hH hk5
  have HT5 := Lib.hid hT5
  have HA5 := Lib.hid hA5
  have HK5 := Lib.hid (And.intro hk5 hn5)
  clear hH hT5 hA5 hr5 hk5 hn5
  go_wp2_with fail
  refine hK.out _ _ hH5 (fun hH => ?_)
  clear hK K hH5
  simp only [List.setIfInBounds_toArray]
  refine take_at (i := 8) (v := .bool true) rfl rfl (by kernel_rfl) (by kernel_rfl) (by kernel_rfl) (fun _ _ _ h => h) (.inl ⟨by rfl, fun _ _ => by go_simp⟩) hH ?_
  simp only [List.setIfInBounds_toArray, List.set_cons_zero, List.set_cons_succ]
  refine take_at (i := 9) (v := .bool true) rfl rfl (by kernel_rfl) (by kernel_rfl) (by kernel_rfl) (fun _ _ _ h => h) (.inl ⟨by rfl, fun _ _ => by go_simp⟩) hH ?_
  simp only [List.setIfInBounds_toArray, List.set_cons_zero, List.set_cons_succ]
  refine wpAnyH_done (by kernel_rfl) ?_ _
  clear hH
  go_wp2_with fail
  go_ret
  exact ⟨rfl, n', D', v', l', HT5.out, HP.out.sm, HP.out.hn, HP.out.hl, ((HB.out.mono HH.out.le).trans HA4.out).trans HA5.out, apart_of HB.out HG4.out HK5.out.1 HK5.out.2⟩
set_option maxRecDepth 100000 in
set_option maxHeartbeats 4000000 in
theorem does5 (h : Two A B b mb n D x v l w) (a : Int) (nm fm : ByteArray) (z : Int) (ha : (IntKind.u64.wrap a).tmod 7 = 5) {k : Int} {n' : Nat} {D' : DataW Unit} {l' : List Row}
    (hP : Pair B b mb n x D l 21 22 #[ptr b, .string nm, .string fm] #[ptr x, .string nm, .string fm] (.int .i64 k) n' D' l') :
    Calls Tryz.prog 6 #[ptr b, ptr x, .agg (dcells a nm fm z)] w (DoesP A B b mb n x v l w) := by
  have HP := Lib.hid hP
  have HH := Lib.hid h
  clear hP h
  go_enter Tryz.func6, Tryz.ntmps6
  go_wp2_with fail
  have hbw : Below w.heap.size w (w.alloc (.cells (dcells a nm fm z) 32)).drew := below_drewN ((Below.refl _ _).alloc (Nat.le_refl _) _) 1
  have hT := HH.out.below hbw
  have hS : (w.alloc (.cells (dcells a nm fm z) 32)).drew.heap[w.heap.size]? = some (.cells (dcells a nm fm z) 32 (0, 0)) := heap_alloc_new _ _
  have HT := Lib.hid hT
  have HB := Lib.hid hbw
  clear hbw hT ha
  refine wp_region_held_drew (S := fun W => W.heap[w.heap.size]? = some (.cells (dcells a nm fm z) 32 (0, 0))) (by kernel_rfl) hS (fun hH => ?_)
  clear hS
  simp only [List.size_toArray, List.length_cons, List.length_nil, Nat.reduceAdd, Array.replicate_succ, Array.replicate_zero, List.push_toArray]
  refine take_at (i := 0) (v := ptr b) rfl rfl (by kernel_rfl) (by kernel_rfl) (by kernel_rfl) (fun _ _ _ h => h) (.inl ⟨by rfl, fun _ _ => by go_simp⟩) hH ?_
  simp only [List.setIfInBounds_toArray, List.set_cons_zero, List.set_cons_succ]
  refine take_at (i := 1) (v := .pointer (some ⟨w.heap.size, 1, none⟩)) rfl rfl (by kernel_rfl) (by kernel_rfl) (by kernel_rfl) (fun _ _ _ h => h) (.inl ⟨by rfl, fun _ _ => by go_simp⟩) hH ?_
  simp only [List.setIfInBounds_toArray, List.set_cons_zero, List.set_cons_succ]
  refine take_at (i := 2) (v := .string nm) rfl rfl (by kernel_rfl) (by kernel_rfl) (by kernel_rfl) (fun _ _ _ h => h) (.inl ⟨by rfl, fun _ hw => by have h := cell_of (k := 1) hw rfl; go_simp⟩) hH ?_
  simp only [List.setIfInBounds_toArray, List.set_cons_zero, List.set_cons_succ]
  refine take_at (i := 3) (v := .pointer (some ⟨w.heap.size, 2, none⟩)) rfl rfl (by kernel_rfl) (by kernel_rfl) (by kernel_rfl) (fun _ _ _ h => h) (.inl ⟨by rfl, fun _ _ => by go_simp⟩) hH ?_
  simp only [List.setIfInBounds_toArray, List.set_cons_zero, List.set_cons_succ]
  refine take_at (i := 4) (v := .string fm) rfl rfl (by kernel_rfl) (by kernel_rfl) (by kernel_rfl) (fun _ _ _ h => h) (.inl ⟨by rfl, fun _ hw => by have h := cell_of (k := 2) hw rfl; go_simp⟩) hH ?_
  simp only [List.setIfInBounds_toArray, List.set_cons_zero, List.set_cons_succ]
  refine take_at (i := 6) (v := ptr x) rfl rfl (by kernel_rfl) (by kernel_rfl) (by kernel_rfl) (fun _ _ _ h => h) (.inl ⟨by rfl, fun _ _ => by go_simp⟩) hH ?_
  simp only [List.setIfInBounds_toArray, List.set_cons_zero, List.set_cons_succ]
  refine take_at (i := 7) (v := .pointer (some ⟨w.heap.size, 1, none⟩)) rfl rfl (by kernel_rfl) (by kernel_rfl) (by kernel_rfl) (fun _ _ _ h => h) (.inl ⟨by rfl, fun _ _ => by go_simp⟩) hH ?_
  simp only [List.setIfInBounds_toArray, List.set_cons_zero, List.set_cons_succ]
  refine take_at (i := 8) (v := .string nm) rfl rfl (by kernel_rfl) (by kernel_rfl) (by kernel_rfl) (fun _ _ _ h => h) (.inl ⟨by rfl, fun _ hw => by have h := cell_of (k := 1) hw rfl; go_simp⟩) hH ?_
  simp only [List.setIfInBounds_toArray, List.set_cons_zero, List.set_cons_succ]
  refine take_at (i := 9) (v := .pointer (some ⟨w.heap.size, 2, none⟩)) rfl rfl (by kernel_rfl) (by kernel_rfl) (by kernel_rfl) (fun _ _ _ h => h) (.inl ⟨by rfl, fun _ _ => by go_simp⟩) hH ?_
  simp only [List.setIfInBounds_toArray, List.set_cons_zero, List.set_cons_succ]
  refine take_at (i := 10) (v := .string fm) rfl rfl (by kernel_rfl) (by kernel_rfl) (by kernel_rfl) (fun _ _ _ h => h) (.inl ⟨by rfl, fun _ hw => by have h := cell_of (k := 2) hw rfl; go_simp⟩) hH ?_
  simp only [List.setIfInBounds_toArray, List.set_cons_zero, List.set_cons_succ]
  refine call_at (i := 5) rfl (by kernel_rfl) (by rfl) (fun K hK => ?_)
  go_simp
  refine (HP.out.p _ HT.out.bk).mono ?_
  rintro e w4 ⟨rfl, hb4, hg4⟩
  obtain ⟨hT4, hA4⟩ := HT.out.turn hb4 hg4
  have hH4 := HH.out.box_turn (Nat.le_refl _) hH hg4
  have HT4 := Lib.hid hT4
  have HA4 := Lib.hid hA4
  have HG4 := Lib.hid hg4
  clear hH hT4 hA4 hb4 hg4
  go_wp2_with fail
  refine hK.out _ _ hH4 (fun hH => ?_)
  clear hK K hH4
  simp only [List.setIfInBounds_toArray]
  refine call_at (i := 11) rfl (by kernel_rfl) (by rfl) (fun K hK => ?_)
  go_simp
  refine (HP.out.r _ _ HT4.out.rf).mono ?_
  rintro e w5 ⟨rfl, ⟨v', hr5, hn5⟩, hk5⟩
  obtain ⟨hT5, hA5⟩ := HT4.out.keep hr5 hk5
  have hH5 := HH.out.box_keep (Nat.le_refl _) hH hk5
  have HT5 := Lib.hid hT5
  have HA5 := Lib.hid hA5
  have HK5 := Lib.hid (And.intro hk5 hn5)
  clear hH hT5 hA5 hr5 hk5 hn5
  go_wp2_with fail
  refine hK.out _ _ hH5 (fun hH => ?_)
  clear hK K hH5
  simp only [List.setIfInBounds_toArray]
  refine take_at (i := 12) (v := .bool true) rfl rfl (by kernel_rfl) (by kernel_rfl) (by kernel_rfl) (fun _ _ _ h => h) (.inl ⟨by rfl, fun _ _ => by go_simp⟩) hH ?_
  simp only [List.setIfInBounds_toArray, List.set_cons_zero, List.set_cons_succ]
  refine take_at (i := 13) (v := .bool true) rfl rfl (by kernel_rfl) (by kernel_rfl) (by kernel_rfl) (fun _ _ _ h => h) (.inl ⟨by rfl, fun _ _ => by go_simp⟩) hH ?_
  simp only [List.setIfInBounds_toArray, List.set_cons_zero, List.set_cons_succ]
  refine wpAnyH_done (by kernel_rfl) ?_ _
  clear hH
  go_wp2_with fail
  go_ret
  exact ⟨rfl, n', D', v', l', HT5.out, HP.out.sm, HP.out.hn, HP.out.hl, ((HB.out.mono HH.out.le).trans HA4.out).trans HA5.out, apart_of HB.out HG4.out HK5.out.1 HK5.out.2⟩
end
end Go.Proofs.YtopgbbkndkincaaGreatDoor
