/- The document's comparison of boxes: of equal ones. -/
import Derived.Test.YtboophfcakdlcaaGlRow
import Derived.Deep.RegionHeld3
import Derived.Deep.DeepCutAuto
namespace Go.Proofs.Ytboophfcakdlcaa
open Go.RowKit Go.PlainAid Go.Shelf

set_option maxRecDepth 100000 in
set_option maxHeartbeats 4000000 in
theorem sameBox_refl (k wd f z : Int) (sn : ByteArray) (w : World) : Calls Try.prog 60 #[.agg #[.int .i64 k, .int .i64 wd, .int .i64 f, .int .i64 z, .string sn, .string ⟨#[]⟩, .slice none 0 0], .agg #[.int .i64 k, .int .i64 wd, .int .i64 f, .int .i64 z, .string sn, .string ⟨#[]⟩, .slice none 0 0]] w (Makes (.bool true) w) := by
  have e1 : (sn.toList == sn.toList) = true := beq_self_eq_true _
  go_enter Try.func60, Try.ntmps60
  go_upto_region 1 with fail
  generalize hw1 : w.alloc _ = w1
  have hb1 : Below w.heap.size w w1 := by rw [← hw1]; exact (Below.refl _ _).alloc (Nat.le_refl _) _
  have t1 : w1.heap[w.heap.size]? = some (.cells #[.int .i64 k, .int .i64 wd, .int .i64 f, .int .i64 z, .string sn, .string ⟨#[]⟩, .slice none 0 0] 70 (0, 0)) := by rw [← hw1]; exact heap_alloc_new w _
  have hs1 : w1.heap.size = w.heap.size + 1 := by rw [← hw1]; simp
  generalize hw2 : w1.alloc _ = w2
  have hb2 : Below w1.heap.size w1 w2 := by rw [← hw2]; exact (Below.refl _ _).alloc (Nat.le_refl _) _
  have t2 : w2.heap[w1.heap.size]? = some (.cells #[.int .i64 k, .int .i64 wd, .int .i64 f, .int .i64 z, .string sn, .string ⟨#[]⟩, .slice none 0 0] 70 (0, 0)) := by rw [← hw2]; exact heap_alloc_new w1 _
  have t1' : w2.heap[w.heap.size]? = some (.cells #[.int .i64 k, .int .i64 wd, .int .i64 f, .int .i64 z, .string sn, .string ⟨#[]⟩, .slice none 0 0] 70 (0, 0)) := by rw [hb2.block _ (by omega)]; exact t1
  have HB := Lib.hid (hb1.trans (hb2.mono hb1.size))
  rw [hs1] at t2
  obtain ⟨p, hp⟩ : ∃ p, w.heap.size = p := ⟨_, rfl⟩
  obtain ⟨r, hr⟩ : ∃ r, p + 1 = r := ⟨_, rfl⟩
  rw [hp] at t1' t2
  rw [hr] at t2
  try simp only [hp, hr]
  have x0 := cell_of (j := 0) t1' rfl
  have y0 := cell_of (j := 0) t2 rfl
  have x1 := cell_of (j := 1) t1' rfl
  have y1 := cell_of (j := 1) t2 rfl
  have x2 := cell_of (j := 2) t1' rfl
  have y2 := cell_of (j := 2) t2 rfl
  have x3 := cell_of (j := 3) t1' rfl
  have y3 := cell_of (j := 3) t2 rfl
  have x4 := cell_of (j := 4) t1' rfl
  have y4 := cell_of (j := 4) t2 rfl
  have x5 := cell_of (j := 5) t1' rfl
  have y5 := cell_of (j := 5) t2 rfl
  have x6 := cell_of (j := 6) t1' rfl
  have y6 := cell_of (j := 6) t2 rfl
  clear hw1 hw2 hb1 hb2 t1 t2 t1' hs1 hp hr
  go_wp2_with fail
  go_loop [5] (fun i => i = .int .i64 0) (fun _ => 0)
  case atStart => rfl
  case round =>
    subst hrel
    go_wp2_with fail
    go_ret
    exact ⟨rfl, HB.out⟩
set_option maxRecDepth 100000 in
set_option maxHeartbeats 4000000 in
theorem same8_refl (a1 a2 : Option Addr) (bs : List Bx') (c1 c2 : Nat) (w : World) (h1 : RowK encB 7 a1 bs w) (h2 : RowK encB 7 a2 bs w) (hn : bs.length ≤ 1000000) : Calls Try.prog 23 #[.slice a1 bs.length c1, .slice a2 bs.length c2] w (Makes (.bool true) w) := by
  have H1 := Lib.hid h1
  have H2 := Lib.hid h2
  clear h1 h2
  go_enter Try.func23, Try.ntmps23
  go_wp2_with fail
  go_loopw [5] (fun i wr => ∃ k : Nat, k ≤ bs.length ∧ i = .int .i64 k ∧ Hid (Below w.heap.size w wr)) (fun i _ => bs.length - (intOf i).toNat)
  case atStart => exact ⟨0, by omega, rfl, Below.refl _ _⟩
  case round =>
    obtain ⟨k, hk, rfl, hbl⟩ := hrel
    by_cases hlt : k < bs.length
    · have HLT := Lib.hid hlt
      obtain ⟨b1, o1, ha1, hc1⟩ := H1.out.below hbl.out
      obtain ⟨rfl, hl1⟩ := ha1 (by omega)
      obtain ⟨b2, o2, ha2, hc2⟩ := H2.out.below hbl.out
      obtain ⟨rfl, hl2⟩ := ha2 (by omega)
      have hx := hc1 k hlt
      have hy := hc2 k hlt
      have hz1 : (k : Int) < bs.length := by omega
      have hz0 : (0 : Int) ≤ k := by omega
      obtain ⟨X, hX⟩ : ∃ X, bs[k]! = X := ⟨_, rfl⟩
      rw [hX] at hx hy
      clear hX hc1 hc2 ha1 ha2 hlt
      obtain ⟨kd, wd, f, z, nm⟩ := X
      have x0 := hx 0 _ rfl
      have y0 := hy 0 _ rfl
      have x1 := hx 1 _ rfl
      have y1 := hy 1 _ rfl
      have x2 := hx 2 _ rfl
      have y2 := hy 2 _ rfl
      have x3 := hx 3 _ rfl
      have y3 := hy 3 _ rfl
      have x4 := hx 4 _ rfl
      have y4 := hy 4 _ rfl
      have x5 := hx 5 _ rfl
      have y5 := hy 5 _ rfl
      have x6 := hx 6 _ rfl
      have y6 := hy 6 _ rfl
      simp only [Nat.add_zero] at x0 x1 x2 x3 x4 x5 x6 y0 y1 y2 y3 y4 y5 y6
      obtain ⟨sn, hsn⟩ : ∃ s, mk8 nm = s := ⟨_, rfl⟩
      rw [hsn] at x4 y4
      have HS := Lib.hid (fun W' => sameBox_refl kd wd f z sn W')
      clear hsn hx hy
      go_upto_region 6 with fail
      refine wp_region_held_drew (S := fun w' => Below wr.heap.size wr w') (by kernel_rfl) ?_ (fun hHeld => ?_)
      · exact (Below.refl _ _).drew
      refine' wpAnyH_take (i := 0) (oi := _) (v := _) ?hi1 (by kernel_rfl) (by kernel_rfl) (by kernel_rfl) ?hQ1 (Or.inl ⟨?hw1, ?hy1⟩) hHeld ?rest1
      case hi1 => simp only [List.getElem?_toArray, List.getElem?_cons_zero]; rfl
      case hQ1 => exact fun _ _ _ h => h
      case hw1 => rfl
      case hy1 =>
        intro w hSw
        try dsimp only at hSw
        go_simp
        all_goals with_reducible rfl
      try simp only [Act.put, List.setIfInBounds_toArray, List.set_cons_zero, List.set_cons_succ]
      refine' wpAnyH_take (i := 1) (oi := _) (v := _) ?hi2 (by kernel_rfl) (by kernel_rfl) (by kernel_rfl) ?hQ2 (Or.inl ⟨?hw2, ?hy2⟩) hHeld ?rest2
      case hi2 => simp only [List.getElem?_toArray, List.getElem?_cons_succ, List.getElem?_cons_zero]; rfl
      case hQ2 => exact fun _ _ _ h => h
      case hw2 => rfl
      case hy2 =>
        intro w hSw
        try dsimp only at hSw
        go_simp
        all_goals with_reducible rfl
      try simp only [Act.put, List.setIfInBounds_toArray, List.set_cons_zero, List.set_cons_succ]
      refine' wpAnyH_take (i := 2) (oi := _) (v := _) ?hi3 (by kernel_rfl) (by kernel_rfl) (by kernel_rfl) ?hQ3 (Or.inl ⟨?hw3, ?hy3⟩) hHeld ?rest3
      case hi3 => simp only [List.getElem?_toArray, List.getElem?_cons_succ, List.getElem?_cons_zero]; rfl
      case hQ3 => exact fun _ _ _ h => h
      case hw3 => rfl
      case hy3 =>
        intro w hSw
        try dsimp only at hSw
        go_simp
        all_goals with_reducible rfl
      try simp only [Act.put, List.setIfInBounds_toArray, List.set_cons_zero, List.set_cons_succ]
      refine' wpAnyH_take (i := 3) (oi := _) (v := _) ?hi4 (by kernel_rfl) (by kernel_rfl) (by kernel_rfl) ?hQ4 (Or.inl ⟨?hw4, ?hy4⟩) hHeld ?rest4
      case hi4 => simp only [List.getElem?_toArray, List.getElem?_cons_succ, List.getElem?_cons_zero]; rfl
      case hQ4 => exact fun _ _ _ h => h
      case hw4 => rfl
      case hy4 =>
        intro w hSw
        try dsimp only at hSw
        have x0' := (hSw.cell (p := ⟨b1, o1 + k * 7, none⟩) hl1).trans x0
        have x1' := (hSw.cell (p := ⟨b1, o1 + k * 7 + 1, none⟩) hl1).trans x1
        have x2' := (hSw.cell (p := ⟨b1, o1 + k * 7 + 2, none⟩) hl1).trans x2
        have x3' := (hSw.cell (p := ⟨b1, o1 + k * 7 + 3, none⟩) hl1).trans x3
        have x4' := (hSw.cell (p := ⟨b1, o1 + k * 7 + 4, none⟩) hl1).trans x4
        have x5' := (hSw.cell (p := ⟨b1, o1 + k * 7 + 5, none⟩) hl1).trans x5
        have x6' := (hSw.cell (p := ⟨b1, o1 + k * 7 + 6, none⟩) hl1).trans x6
        clear hSw
        go_simp
        all_goals with_reducible rfl
      try simp only [Act.put, List.setIfInBounds_toArray, List.set_cons_zero, List.set_cons_succ]
      refine' wpAnyH_take (i := 4) (oi := _) (v := _) ?hi5 (by kernel_rfl) (by kernel_rfl) (by kernel_rfl) ?hQ5 (Or.inl ⟨?hw5, ?hy5⟩) hHeld ?rest5
      case hi5 => simp only [List.getElem?_toArray, List.getElem?_cons_succ, List.getElem?_cons_zero]; rfl
      case hQ5 => exact fun _ _ _ h => h
      case hw5 => rfl
      case hy5 =>
        intro w hSw
        try dsimp only at hSw
        go_simp
        all_goals with_reducible rfl
      try simp only [Act.put, List.setIfInBounds_toArray, List.set_cons_zero, List.set_cons_succ]
      refine' wpAnyH_take (i := 5) (oi := _) (v := _) ?hi6 (by kernel_rfl) (by kernel_rfl) (by kernel_rfl) ?hQ6 (Or.inl ⟨?hw6, ?hy6⟩) hHeld ?rest6
      case hi6 => simp only [List.getElem?_toArray, List.getElem?_cons_succ, List.getElem?_cons_zero]; rfl
      case hQ6 => exact fun _ _ _ h => h
      case hw6 => rfl
      case hy6 =>
        intro w hSw
        try dsimp only at hSw
        go_simp
        all_goals with_reducible rfl
      try simp only [Act.put, List.setIfInBounds_toArray, List.set_cons_zero, List.set_cons_succ]
      refine' wpAnyH_take (i := 6) (oi := _) (v := _) ?hi7 (by kernel_rfl) (by kernel_rfl) (by kernel_rfl) ?hQ7 (Or.inl ⟨?hw7, ?hy7⟩) hHeld ?rest7
      case hi7 => simp only [List.getElem?_toArray, List.getElem?_cons_succ, List.getElem?_cons_zero]; rfl
      case hQ7 => exact fun _ _ _ h => h
      case hw7 => rfl
      case hy7 =>
        intro w hSw
        try dsimp only at hSw
        go_simp
        all_goals with_reducible rfl
      try simp only [Act.put, List.setIfInBounds_toArray, List.set_cons_zero, List.set_cons_succ]
      refine' wpAnyH_take (i := 7) (oi := _) (v := _) ?hi8 (by kernel_rfl) (by kernel_rfl) (by kernel_rfl) ?hQ8 (Or.inl ⟨?hw8, ?hy8⟩) hHeld ?rest8
      case hi8 => simp only [List.getElem?_toArray, List.getElem?_cons_succ, List.getElem?_cons_zero]; rfl
      case hQ8 => exact fun _ _ _ h => h
      case hw8 => rfl
      case hy8 =>
        intro w hSw
        try dsimp only at hSw
        have y0' := (hSw.cell (p := ⟨b2, o2 + k * 7, none⟩) hl2).trans y0
        have y1' := (hSw.cell (p := ⟨b2, o2 + k * 7 + 1, none⟩) hl2).trans y1
        have y2' := (hSw.cell (p := ⟨b2, o2 + k * 7 + 2, none⟩) hl2).trans y2
        have y3' := (hSw.cell (p := ⟨b2, o2 + k * 7 + 3, none⟩) hl2).trans y3
        have y4' := (hSw.cell (p := ⟨b2, o2 + k * 7 + 4, none⟩) hl2).trans y4
        have y5' := (hSw.cell (p := ⟨b2, o2 + k * 7 + 5, none⟩) hl2).trans y5
        have y6' := (hSw.cell (p := ⟨b2, o2 + k * 7 + 6, none⟩) hl2).trans y6
        clear hSw
        go_simp
        all_goals with_reducible rfl
      try simp only [Act.put, List.setIfInBounds_toArray, List.set_cons_zero, List.set_cons_succ]
      refine wpAnyH_ready (rs := [8]) (by kernel_rfl) (by simp) ?_
      refine' AllReadyH.cons (o := _) ?ha10 (fun K hK => ?sa10) ?ma10
      case ha10 => simp only [List.getElem?_toArray, List.getElem?_cons_succ, List.getElem?_cons_zero]; rfl
      case ma10 => exact AllReadyH.nil
      case sa10 =>
        go_simp
        go_at_call 60
        refine (HS.out _).mono ?_
        rintro e w2 ⟨rfl, hb2⟩
        have hbk := hHeld.trans (hb2.mono hHeld.size)
        clear hb2
        go_wp2_with fail
        refine hK.out _ _ ?_ (fun hHeld => ?_)
        · exact hbk
        clear hK K
        try simp only [Act.put, List.setIfInBounds_toArray, List.set_cons_zero, List.set_cons_succ]
        clear hbk
        refine' wpAnyH_take (i := 9) (oi := _) (v := _) ?hi9 (by kernel_rfl) (by kernel_rfl) (by kernel_rfl) ?hQ9 (Or.inl ⟨?hw9, ?hy9⟩) hHeld ?rest9
        case hi9 => simp only [List.getElem?_toArray, List.getElem?_cons_succ, List.getElem?_cons_zero]; rfl
        case hQ9 => exact fun _ _ _ h => h
        case hw9 => rfl
        case hy9 =>
          intro w hSw
          try dsimp only at hSw
          go_simp
          all_goals with_reducible rfl
        try simp only [Act.put, List.setIfInBounds_toArray, List.set_cons_zero, List.set_cons_succ]
        refine wpAnyH_done (by kernel_rfl) ?_ _
        have HBE := Lib.hid (hbl.out.trans (hHeld.mono hbl.out.size))
        clear hHeld
        go_wp2_with fail
        go_roundw
        case rel => exact ⟨k + 1, by have := HLT.out; omega, by go_num, HBE⟩
        case measure => have := HLT.out; simp only [intOf]; omega
    · obtain rfl : k = bs.length := by omega
      have hz1 : ¬ ((bs.length : Nat) : Int) < bs.length := by omega
      go_wp2_with fail
      go_ret
      exact ⟨rfl, hbl.out⟩
end Go.Proofs.Ytboophfcakdlcaa
