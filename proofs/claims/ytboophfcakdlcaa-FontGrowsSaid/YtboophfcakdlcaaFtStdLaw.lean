/- FontStandard's law, walked. -/
import Derived.Test.YtboophfcakdlcaaFrStd
import Derived.Test.YtboophfcakdlcaaFtBack
import Derived.Test.YtboophfcakdlcaaFtRSame
import Derived.Test.YtboophfcakdlcaaFtValid
import Derived.Test.YtboophfcakdlcaaFtSameLaw
import Derived.Deep.RegionHeld3
import Derived.Deep.DeepCutAuto
namespace Go.Proofs.Ytboophfcakdlcaa
open Go.RowKit Go.PlainAid Go.Shelf

/-- The standard fonts, each alone. -/
theorem std_all : ∀ F ∈ [FR, FI, FB, FM, FS], validB F = true ∧ F.gs.length ≤ 1000 ∧ F.ls.length ≤ 1000 ∧ F.ks.length ≤ 1000 := by
  intro F hF
  simp only [List.mem_cons, List.not_mem_nil, or_false] at hF
  rcases hF with rfl | rfl | rfl | rfl | rfl
  · exact ⟨valid_R, by decide +kernel⟩
  · exact ⟨valid_I, by decide +kernel⟩
  · exact ⟨valid_B, by decide +kernel⟩
  · exact ⟨valid_M, by decide +kernel⟩
  · exact ⟨valid_S, by decide +kernel⟩
theorem map_len {l : List FA} (h : l.map FA.F = [FR, FI, FB, FM, FS]) : l.length = 5 := by have := congrArg List.length h; simpa using this
theorem map_at {l x : List FA} (h : l.map FA.F = [FR, FI, FB, FM, FS]) (h' : x.map FA.F = [FR, FI, FB, FM, FS]) {k : Nat} (hk : k < 5) : l[k]!.F = x[k]!.F ∧ l[k]!.F ∈ [FR, FI, FB, FM, FS] := by
  have e1 := map_len h
  have e2 := map_len h'
  have a : (l.map FA.F)[k]? = some l[k]!.F := by rw [List.getElem?_map, List.getElem?_eq_getElem (by omega), getElem!_pos l k (by omega)]; rfl
  have b : (x.map FA.F)[k]? = some x[k]!.F := by rw [List.getElem?_map, List.getElem?_eq_getElem (by omega), getElem!_pos x k (by omega)]; rfl
  rw [h] at a
  rw [h'] at b
  exact ⟨Option.some.inj (a.symm.trans b), List.mem_of_getElem? a⟩

set_option maxRecDepth 100000 in
set_option maxHeartbeats 8000000 in
theorem law_fstd (w : World) : Calls Try.prog 3 #[] w (Makes (.bool true) w) := by
  have HS := Lib.hid (fun w' => sane_any w')
  have HP := Lib.hid (standard_any w)
  have HD := Lib.hid (fun w' => rstandard_any w')
  unfold StdP at HP HD
  go_enter Try.func3, Try.ntmps3
  go_wp2_with fail
  refine HP.out.mono ?_
  rintro e wa ⟨g1, l, rfl, hl, hr, hok, hb⟩
  have H1 := Lib.hid hl
  have H2 := Lib.hid hr
  have H3 := Lib.hid hok
  have H4 := Lib.hid hb
  clear hl hr hok hb HP
  go_wp2_with fail
  refine (HD.out wa).mono ?_
  rintro e wb ⟨g2, x, rfl, kl, kr, kok, kb⟩
  have K1 := Lib.hid kl
  have K2 := Lib.hid kr
  have K3 := Lib.hid kok
  have H2' := Lib.hid (H2.out.below kb)
  have H3' : Hid (∀ y ∈ l, y.ok wb) := fun y hy => (H3.out y hy).below kb
  have HB := Lib.hid (H4.out.trans (kb.mono H4.out.size))
  clear kl kr kok kb HD H2 H3 H4
  go_wp2_with fail
  go_loopw [3] (fun i wr => ∃ k : Nat, k ≤ 5 ∧ i = .int .i64 k ∧ Hid (Below wb.heap.size wb wr)) (fun i _ => 5 - (intOf i).toNat)
  case atStart => exact ⟨0, by omega, rfl, Below.refl _ _⟩
  case round =>
    obtain ⟨k, hk, rfl, hbl⟩ := hrel
    by_cases hlt : k < 5
    · have hz1 : (k : Int) < 5 := by omega
      have hz0 : (0 : Int) ≤ k := by omega
      have HLT := Lib.hid hlt
      obtain ⟨hF, hm⟩ := map_at H1.out K1.out hlt
      obtain ⟨hv, q1, q2, q3⟩ := std_all _ hm
      have n1 := map_len H1.out
      have n2 := map_len K1.out
      have ox := (H3'.out l[k]! (by rw [getElem!_pos l k (by omega)]; exact List.getElem_mem _)).below hbl.out
      have oy := (K3.out x[k]! (by rw [getElem!_pos x k (by omega)]; exact List.getElem_mem _)).below hbl.out
      have rx := H2'.out.below hbl.out
      have ry := K2.out.below hbl.out
      obtain ⟨b1, o1, ha1, hc1⟩ := rx
      obtain ⟨ea1, hl1⟩ := ha1 (by omega)
      obtain ⟨rfl, rfl⟩ : g1 = b1 ∧ 0 = o1 := by have := Option.some.inj ea1; simp only [Addr.mk.injEq] at this; exact ⟨this.1, this.2.1⟩
      obtain ⟨b2, o2, ha2, hc2⟩ := ry
      obtain ⟨ea2, hl2⟩ := ha2 (by omega)
      obtain ⟨rfl, rfl⟩ : g2 = b2 ∧ 0 = o2 := by have := Option.some.inj ea2; simp only [Addr.mk.injEq] at this; exact ⟨this.1, this.2.1⟩
      have hx := hc1 k (by omega)
      have hy := hc2 k (by omega)
      obtain ⟨X, hX⟩ : ∃ X, l[k]! = X := ⟨_, rfl⟩
      obtain ⟨Y, hY⟩ : ∃ Y, x[k]! = Y := ⟨_, rfl⟩
      rw [hX] at hF hv q1 q2 q3 ox hx
      rw [hY] at hF oy hy
      have HBw := Lib.hid (HB.out.trans (hbl.out.mono HB.out.size))
      have HAA : Hid (∀ w', Below wr.heap.size wr w' → Calls Try.prog 12 #[fontVal X] w' (AsP X w')) := fun w' h => as_any X w' (ox.below h) q1 q2 q3
      have HVA : Hid (∀ w', Below wr.heap.size wr w' → Calls Try.prog 13 #[fontVal X] w' (Makes (.bool true) w')) := fun w' h => by
        have := valid_any X w' (ox.below h)
        rwa [hv] at this
      have HBA : Hid (∀ w', Below wr.heap.size wr w' → Calls Try.prog 15 #[fontVal Y] w' (AsP Y w')) := fun w' h => back_any Y w' (oy.below h) (by rw [← hF]; exact q1) (by rw [← hF]; exact q2) (by rw [← hF]; exact q3)
      have HRS : Hid (∀ (ag al ak : Option Addr) (cg cl ck : Nat) (w' : World), Below wr.heap.size wr w' → FontV X.F ag al ak w' → Calls Try.prog 11 #[fontVal ⟨X.F, ag, al, ak, cg, cl, ck⟩, fontVal Y] w' (Makes (.bool true) w')) := fun ag al ak cg cl ck w' h h1 => by
        have := rsame_any ⟨X.F, ag, al, ak, cg, cl, ck⟩ Y w' h1 (oy.below h) ⟨by simp only; omega, by simp only; omega, by simp only; omega⟩
        rw [← hF, sameF_refl] at this
        exact this
      have HSA : Hid (∀ (ag al ak : Option Addr) (cg cl ck : Nat) (w' : World), Below wr.heap.size wr w' → FontV Y.F ag al ak w' → Calls Try.prog 14 #[fontVal X, fontVal ⟨Y.F, ag, al, ak, cg, cl, ck⟩] w' (Makes (.bool true) w')) := fun ag al ak cg cl ck w' h h1 => by
        have := same_any X ⟨Y.F, ag, al, ak, cg, cl, ck⟩ w' (ox.below h) h1 ⟨by omega, by omega, by omega⟩ ⟨by rw [← hF]; omega, by rw [← hF]; omega, by rw [← hF]; omega⟩
        rw [show sameF X.F Y.F = true by rw [← hF]; exact sameF_refl _] at this
        exact this
      unfold AsP at HAA HBA
      clear hF hv q1 q2 q3 hm ox oy ha1 ha2 hc1 hc2 ea1 ea2 hX hY n1 n2 hlt
      obtain ⟨⟨n1, s1, z1, gs1, ls1, ks1⟩, ag, al, ak, cg, cl, ck⟩ := X
      obtain ⟨⟨n2, s2, z2, gs2, ls2, ks2⟩, bg, bl, bk, dg, dl, dk⟩ := Y
      have x0 := hx 0 _ rfl
      have y0 := hy 0 _ rfl
      have x1 := hx 1 _ rfl
      have y1 := hy 1 _ rfl
      have x2 := hx 2 _ rfl
      have y2 := hy 2 _ rfl
      have x3 := hx 3 _ rfl
      have y3 := hy 3 _ rfl
      have x4 := hx 4 _ rfl
      have y4 := hy 4 _ rfl
      have x5 := hx 5 _ rfl
      have y5 := hy 5 _ rfl
      simp only [fontVal] at HAA HVA HBA HRS HSA
      simp only [Nat.zero_add, Nat.add_zero] at x0 x1 x2 x3 x4 x5 y0 y1 y2 y3 y4 y5
      obtain ⟨m1, hm1⟩ : ∃ m, mk8 n1 = m := ⟨_, rfl⟩
      obtain ⟨m2, hm2⟩ : ∃ m, mk8 n2 = m := ⟨_, rfl⟩
      simp only [hm1, hm2] at HAA HVA HBA HRS HSA x0 y0
      clear hm1 hm2 hx hy
      go_upto_region 7 with fail
      refine wp_region_held_drew (S := fun w' => Below wr.heap.size wr w') (by kernel_rfl) ?_ (fun hHeld => ?_)
      · exact (Below.refl _ _).drew
      refine' wpAnyH_take (i := 0) (oi := _) (v := _) ?hi25 (by kernel_rfl) (by kernel_rfl) (by kernel_rfl) ?hQ25 (Or.inl ⟨?hw25, ?hy25⟩) hHeld ?rest25
      case hi25 => simp only [List.getElem?_toArray, List.getElem?_cons_zero]; rfl
      case hQ25 => exact fun _ _ _ h => h
      case hw25 => rfl
      case hy25 =>
        intro w hSw
        try dsimp only at hSw
        go_simp
        all_goals with_reducible rfl
      try simp only [Act.put, List.setIfInBounds_toArray, List.set_cons_zero, List.set_cons_succ]
      refine' wpAnyH_take (i := 1) (oi := _) (v := _) ?hi26 (by kernel_rfl) (by kernel_rfl) (by kernel_rfl) ?hQ26 (Or.inl ⟨?hw26, ?hy26⟩) hHeld ?rest26
      case hi26 => simp only [List.getElem?_toArray, List.getElem?_cons_succ, List.getElem?_cons_zero]; rfl
      case hQ26 => exact fun _ _ _ h => h
      case hw26 => rfl
      case hy26 =>
        intro w hSw
        try dsimp only at hSw
        go_simp
        all_goals with_reducible rfl
      try simp only [Act.put, List.setIfInBounds_toArray, List.set_cons_zero, List.set_cons_succ]
      refine' wpAnyH_take (i := 2) (oi := _) (v := _) ?hi27 (by kernel_rfl) (by kernel_rfl) (by kernel_rfl) ?hQ27 (Or.inl ⟨?hw27, ?hy27⟩) hHeld ?rest27
      case hi27 => simp only [List.getElem?_toArray, List.getElem?_cons_succ, List.getElem?_cons_zero]; rfl
      case hQ27 => exact fun _ _ _ h => h
      case hw27 => rfl
      case hy27 =>
        intro w hSw
        try dsimp only at hSw
        go_simp
        all_goals with_reducible rfl
      try simp only [Act.put, List.setIfInBounds_toArray, List.set_cons_zero, List.set_cons_succ]
      refine' wpAnyH_take (i := 3) (oi := _) (v := _) ?hi28 (by kernel_rfl) (by kernel_rfl) (by kernel_rfl) ?hQ28 (Or.inl ⟨?hw28, ?hy28⟩) hHeld ?rest28
      case hi28 => simp only [List.getElem?_toArray, List.getElem?_cons_succ, List.getElem?_cons_zero]; rfl
      case hQ28 => exact fun _ _ _ h => h
      case hw28 => rfl
      case hy28 =>
        intro w hSw
        try dsimp only at hSw
        have x0' := (hSw.cell (p := ⟨g1, k * 6, none⟩) hl1).trans x0
        have x1' := (hSw.cell (p := ⟨g1, k * 6 + 1, none⟩) hl1).trans x1
        have x2' := (hSw.cell (p := ⟨g1, k * 6 + 2, none⟩) hl1).trans x2
        have x3' := (hSw.cell (p := ⟨g1, k * 6 + 3, none⟩) hl1).trans x3
        have x4' := (hSw.cell (p := ⟨g1, k * 6 + 4, none⟩) hl1).trans x4
        have x5' := (hSw.cell (p := ⟨g1, k * 6 + 5, none⟩) hl1).trans x5
        clear hSw
        go_simp
        all_goals with_reducible rfl
      try simp only [Act.put, List.setIfInBounds_toArray, List.set_cons_zero, List.set_cons_succ]
      refine' wpAnyH_take (i := 5) (oi := _) (v := _) ?hi29 (by kernel_rfl) (by kernel_rfl) (by kernel_rfl) ?hQ29 (Or.inl ⟨?hw29, ?hy29⟩) hHeld ?rest29
      case hi29 => simp only [List.getElem?_toArray, List.getElem?_cons_succ, List.getElem?_cons_zero]; rfl
      case hQ29 => exact fun _ _ _ h => h
      case hw29 => rfl
      case hy29 =>
        intro w hSw
        try dsimp only at hSw
        go_simp
        all_goals with_reducible rfl
      try simp only [Act.put, List.setIfInBounds_toArray, List.set_cons_zero, List.set_cons_succ]
      refine' wpAnyH_take (i := 6) (oi := _) (v := _) ?hi30 (by kernel_rfl) (by kernel_rfl) (by kernel_rfl) ?hQ30 (Or.inl ⟨?hw30, ?hy30⟩) hHeld ?rest30
      case hi30 => simp only [List.getElem?_toArray, List.getElem?_cons_succ, List.getElem?_cons_zero]; rfl
      case hQ30 => exact fun _ _ _ h => h
      case hw30 => rfl
      case hy30 =>
        intro w hSw
        try dsimp only at hSw
        go_simp
        all_goals with_reducible rfl
      try simp only [Act.put, List.setIfInBounds_toArray, List.set_cons_zero, List.set_cons_succ]
      refine' wpAnyH_take (i := 7) (oi := _) (v := _) ?hi31 (by kernel_rfl) (by kernel_rfl) (by kernel_rfl) ?hQ31 (Or.inl ⟨?hw31, ?hy31⟩) hHeld ?rest31
      case hi31 => simp only [List.getElem?_toArray, List.getElem?_cons_succ, List.getElem?_cons_zero]; rfl
      case hQ31 => exact fun _ _ _ h => h
      case hw31 => rfl
      case hy31 =>
        intro w hSw
        try dsimp only at hSw
        go_simp
        all_goals with_reducible rfl
      try simp only [Act.put, List.setIfInBounds_toArray, List.set_cons_zero, List.set_cons_succ]
      refine' wpAnyH_take (i := 8) (oi := _) (v := _) ?hi32 (by kernel_rfl) (by kernel_rfl) (by kernel_rfl) ?hQ32 (Or.inl ⟨?hw32, ?hy32⟩) hHeld ?rest32
      case hi32 => simp only [List.getElem?_toArray, List.getElem?_cons_succ, List.getElem?_cons_zero]; rfl
      case hQ32 => exact fun _ _ _ h => h
      case hw32 => rfl
      case hy32 =>
        intro w hSw
        try dsimp only at hSw
        have y0' := (hSw.cell (p := ⟨g2, k * 6, none⟩) hl2).trans y0
        have y1' := (hSw.cell (p := ⟨g2, k * 6 + 1, none⟩) hl2).trans y1
        have y2' := (hSw.cell (p := ⟨g2, k * 6 + 2, none⟩) hl2).trans y2
        have y3' := (hSw.cell (p := ⟨g2, k * 6 + 3, none⟩) hl2).trans y3
        have y4' := (hSw.cell (p := ⟨g2, k * 6 + 4, none⟩) hl2).trans y4
        have y5' := (hSw.cell (p := ⟨g2, k * 6 + 5, none⟩) hl2).trans y5
        clear hSw
        go_simp
        all_goals with_reducible rfl
      try simp only [Act.put, List.setIfInBounds_toArray, List.set_cons_zero, List.set_cons_succ]
      refine wpAnyH_ready (rs := [4]) (by kernel_rfl) (by simp) ?_
      refine' AllReadyH.cons (o := _) ?ha24 (fun K hK => ?sa24) ?ma24
      case ha24 => simp only [List.getElem?_toArray, List.getElem?_cons_succ, List.getElem?_cons_zero]; rfl
      case ma24 => exact AllReadyH.nil
      case sa24 =>
        go_simp
        go_at_call 12
        refine (HAA.out _ hHeld).mono ?_
        rintro e w1 ⟨ig, il, ik, jg, jl, jk, rfl, hv, hb⟩
        have HVa := Lib.hid hv
        have hbk := hHeld.trans (hb.mono hHeld.size)
        clear hb hv
        go_wp2_with fail
        refine hK.out _ _ ?_ (fun hHeld => ?_)
        · exact hbk
        clear hK K hbk
        try simp only [Act.put, List.setIfInBounds_toArray, List.set_cons_zero, List.set_cons_succ]
        refine wpAnyH_ready (rs := [9]) (by kernel_rfl) (by simp) ?_
        refine' AllReadyH.cons (o := _) ?ha23 (fun K hK => ?sa23) ?ma23
        case ha23 => simp only [List.getElem?_toArray, List.getElem?_cons_succ, List.getElem?_cons_zero]; rfl
        case ma23 => exact AllReadyH.nil
        case sa23 =>
          go_simp
          go_at_call 11
          refine (HRS.out _ _ _ _ _ _ _ hHeld HVa.out).mono ?_
          rintro e w2 ⟨rfl, hb⟩
          have hbk := hHeld.trans (hb.mono hHeld.size)
          clear hb HVa
          go_wp2_with fail
          refine hK.out _ _ ?_ (fun hHeld => ?_)
          · exact hbk
          clear hK K hbk
          try simp only [Act.put, List.setIfInBounds_toArray, List.set_cons_zero, List.set_cons_succ]
          refine' wpAnyH_take (i := 10) (oi := _) (v := _) ?hi17 (by kernel_rfl) (by kernel_rfl) (by kernel_rfl) ?hQ17 (Or.inl ⟨?hw17, ?hy17⟩) hHeld ?rest17
          case hi17 => simp only [List.getElem?_toArray, List.getElem?_cons_succ, List.getElem?_cons_zero]; rfl
          case hQ17 => exact fun _ _ _ h => h
          case hw17 => rfl
          case hy17 =>
            intro w hSw
            try dsimp only at hSw
            go_simp
            all_goals with_reducible rfl
          try simp only [Act.put, List.setIfInBounds_toArray, List.set_cons_zero, List.set_cons_succ]
          refine' wpAnyH_take (i := 11) (oi := _) (v := _) ?hi18 (by kernel_rfl) (by kernel_rfl) (by kernel_rfl) ?hQ18 (Or.inl ⟨?hw18, ?hy18⟩) hHeld ?rest18
          case hi18 => simp only [List.getElem?_toArray, List.getElem?_cons_succ, List.getElem?_cons_zero]; rfl
          case hQ18 => exact fun _ _ _ h => h
          case hw18 => rfl
          case hy18 =>
            intro w hSw
            try dsimp only at hSw
            go_simp
            all_goals with_reducible rfl
          try simp only [Act.put, List.setIfInBounds_toArray, List.set_cons_zero, List.set_cons_succ]
          refine' wpAnyH_take (i := 12) (oi := _) (v := _) ?hi19 (by kernel_rfl) (by kernel_rfl) (by kernel_rfl) ?hQ19 (Or.inl ⟨?hw19, ?hy19⟩) hHeld ?rest19
          case hi19 => simp only [List.getElem?_toArray, List.getElem?_cons_succ, List.getElem?_cons_zero]; rfl
          case hQ19 => exact fun _ _ _ h => h
          case hw19 => rfl
          case hy19 =>
            intro w hSw
            try dsimp only at hSw
            go_simp
            all_goals with_reducible rfl
          try simp only [Act.put, List.setIfInBounds_toArray, List.set_cons_zero, List.set_cons_succ]
          refine' wpAnyH_take (i := 13) (oi := _) (v := _) ?hi20 (by kernel_rfl) (by kernel_rfl) (by kernel_rfl) ?hQ20 (Or.inl ⟨?hw20, ?hy20⟩) hHeld ?rest20
          case hi20 => simp only [List.getElem?_toArray, List.getElem?_cons_succ, List.getElem?_cons_zero]; rfl
          case hQ20 => exact fun _ _ _ h => h
          case hw20 => rfl
          case hy20 =>
            intro w hSw
            try dsimp only at hSw
            go_simp
            all_goals with_reducible rfl
          try simp only [Act.put, List.setIfInBounds_toArray, List.set_cons_zero, List.set_cons_succ]
          refine' wpAnyH_take (i := 14) (oi := _) (v := _) ?hi21 (by kernel_rfl) (by kernel_rfl) (by kernel_rfl) ?hQ21 (Or.inl ⟨?hw21, ?hy21⟩) hHeld ?rest21
          case hi21 => simp only [List.getElem?_toArray, List.getElem?_cons_succ, List.getElem?_cons_zero]; rfl
          case hQ21 => exact fun _ _ _ h => h
          case hw21 => rfl
          case hy21 =>
            intro w hSw
            try dsimp only at hSw
            go_simp
            all_goals with_reducible rfl
          try simp only [Act.put, List.setIfInBounds_toArray, List.set_cons_zero, List.set_cons_succ]
          refine' wpAnyH_take (i := 15) (oi := _) (v := _) ?hi22 (by kernel_rfl) (by kernel_rfl) (by kernel_rfl) ?hQ22 (Or.inl ⟨?hw22, ?hy22⟩) hHeld ?rest22
          case hi22 => simp only [List.getElem?_toArray, List.getElem?_cons_succ, List.getElem?_cons_zero]; rfl
          case hQ22 => exact fun _ _ _ h => h
          case hw22 => rfl
          case hy22 =>
            intro w hSw
            try dsimp only at hSw
            have x0' := (hSw.cell (p := ⟨g1, k * 6, none⟩) hl1).trans x0
            have x1' := (hSw.cell (p := ⟨g1, k * 6 + 1, none⟩) hl1).trans x1
            have x2' := (hSw.cell (p := ⟨g1, k * 6 + 2, none⟩) hl1).trans x2
            have x3' := (hSw.cell (p := ⟨g1, k * 6 + 3, none⟩) hl1).trans x3
            have x4' := (hSw.cell (p := ⟨g1, k * 6 + 4, none⟩) hl1).trans x4
            have x5' := (hSw.cell (p := ⟨g1, k * 6 + 5, none⟩) hl1).trans x5
            clear hSw
            go_simp
            all_goals with_reducible rfl
          try simp only [Act.put, List.setIfInBounds_toArray, List.set_cons_zero, List.set_cons_succ]
          refine wpAnyH_ready (rs := [16]) (by kernel_rfl) (by simp) ?_
          refine' AllReadyH.cons (o := _) ?ha16 (fun K hK => ?sa16) ?ma16
          case ha16 => simp only [List.getElem?_toArray, List.getElem?_cons_succ, List.getElem?_cons_zero]; rfl
          case ma16 => exact AllReadyH.nil
          case sa16 =>
            go_simp
            go_at_call 13
            refine (HVA.out _ hHeld).mono ?_
            rintro e w3 ⟨rfl, hb⟩
            have hbk := hHeld.trans (hb.mono hHeld.size)
            clear hb
            go_wp2_with fail
            refine hK.out _ _ ?_ (fun hHeld => ?_)
            · exact hbk
            clear hK K hbk
            try simp only [Act.put, List.setIfInBounds_toArray, List.set_cons_zero, List.set_cons_succ]
            refine' wpAnyH_take (i := 17) (oi := _) (v := _) ?hi5 (by kernel_rfl) (by kernel_rfl) (by kernel_rfl) ?hQ5 (Or.inl ⟨?hw5, ?hy5⟩) hHeld ?rest5
            case hi5 => simp only [List.getElem?_toArray, List.getElem?_cons_succ, List.getElem?_cons_zero]; rfl
            case hQ5 => exact fun _ _ _ h => h
            case hw5 => rfl
            case hy5 =>
              intro w hSw
              try dsimp only at hSw
              go_simp
              all_goals with_reducible rfl
            try simp only [Act.put, List.setIfInBounds_toArray, List.set_cons_zero, List.set_cons_succ]
            refine' wpAnyH_take (i := 18) (oi := _) (v := _) ?hi6 (by kernel_rfl) (by kernel_rfl) (by kernel_rfl) ?hQ6 (Or.inl ⟨?hw6, ?hy6⟩) hHeld ?rest6
            case hi6 => simp only [List.getElem?_toArray, List.getElem?_cons_succ, List.getElem?_cons_zero]; rfl
            case hQ6 => exact fun _ _ _ h => h
            case hw6 => rfl
            case hy6 =>
              intro w hSw
              try dsimp only at hSw
              go_simp
              all_goals with_reducible rfl
            try simp only [Act.put, List.setIfInBounds_toArray, List.set_cons_zero, List.set_cons_succ]
            refine' wpAnyH_take (i := 19) (oi := _) (v := _) ?hi7 (by kernel_rfl) (by kernel_rfl) (by kernel_rfl) ?hQ7 (Or.inl ⟨?hw7, ?hy7⟩) hHeld ?rest7
            case hi7 => simp only [List.getElem?_toArray, List.getElem?_cons_succ, List.getElem?_cons_zero]; rfl
            case hQ7 => exact fun _ _ _ h => h
            case hw7 => rfl
            case hy7 =>
              intro w hSw
              try dsimp only at hSw
              go_simp
              all_goals with_reducible rfl
            try simp only [Act.put, List.setIfInBounds_toArray, List.set_cons_zero, List.set_cons_succ]
            refine' wpAnyH_take (i := 20) (oi := _) (v := _) ?hi8 (by kernel_rfl) (by kernel_rfl) (by kernel_rfl) ?hQ8 (Or.inl ⟨?hw8, ?hy8⟩) hHeld ?rest8
            case hi8 => simp only [List.getElem?_toArray, List.getElem?_cons_succ, List.getElem?_cons_zero]; rfl
            case hQ8 => exact fun _ _ _ h => h
            case hw8 => rfl
            case hy8 =>
              intro w hSw
              try dsimp only at hSw
              go_simp
              all_goals with_reducible rfl
            try simp only [Act.put, List.setIfInBounds_toArray, List.set_cons_zero, List.set_cons_succ]
            refine' wpAnyH_take (i := 21) (oi := _) (v := _) ?hi9 (by kernel_rfl) (by kernel_rfl) (by kernel_rfl) ?hQ9 (Or.inl ⟨?hw9, ?hy9⟩) hHeld ?rest9
            case hi9 => simp only [List.getElem?_toArray, List.getElem?_cons_succ, List.getElem?_cons_zero]; rfl
            case hQ9 => exact fun _ _ _ h => h
            case hw9 => rfl
            case hy9 =>
              intro w hSw
              try dsimp only at hSw
              go_simp
              all_goals with_reducible rfl
            try simp only [Act.put, List.setIfInBounds_toArray, List.set_cons_zero, List.set_cons_succ]
            refine' wpAnyH_take (i := 22) (oi := _) (v := _) ?hi10 (by kernel_rfl) (by kernel_rfl) (by kernel_rfl) ?hQ10 (Or.inl ⟨?hw10, ?hy10⟩) hHeld ?rest10
            case hi10 => simp only [List.getElem?_toArray, List.getElem?_cons_succ, List.getElem?_cons_zero]; rfl
            case hQ10 => exact fun _ _ _ h => h
            case hw10 => rfl
            case hy10 =>
              intro w hSw
              try dsimp only at hSw
              go_simp
              all_goals with_reducible rfl
            try simp only [Act.put, List.setIfInBounds_toArray, List.set_cons_zero, List.set_cons_succ]
            refine' wpAnyH_take (i := 23) (oi := _) (v := _) ?hi11 (by kernel_rfl) (by kernel_rfl) (by kernel_rfl) ?hQ11 (Or.inl ⟨?hw11, ?hy11⟩) hHeld ?rest11
            case hi11 => simp only [List.getElem?_toArray, List.getElem?_cons_succ, List.getElem?_cons_zero]; rfl
            case hQ11 => exact fun _ _ _ h => h
            case hw11 => rfl
            case hy11 =>
              intro w hSw
              try dsimp only at hSw
              have x0' := (hSw.cell (p := ⟨g1, k * 6, none⟩) hl1).trans x0
              have x1' := (hSw.cell (p := ⟨g1, k * 6 + 1, none⟩) hl1).trans x1
              have x2' := (hSw.cell (p := ⟨g1, k * 6 + 2, none⟩) hl1).trans x2
              have x3' := (hSw.cell (p := ⟨g1, k * 6 + 3, none⟩) hl1).trans x3
              have x4' := (hSw.cell (p := ⟨g1, k * 6 + 4, none⟩) hl1).trans x4
              have x5' := (hSw.cell (p := ⟨g1, k * 6 + 5, none⟩) hl1).trans x5
              clear hSw
              go_simp
              all_goals with_reducible rfl
            try simp only [Act.put, List.setIfInBounds_toArray, List.set_cons_zero, List.set_cons_succ]
            refine' wpAnyH_take (i := 24) (oi := _) (v := _) ?hi12 (by kernel_rfl) (by kernel_rfl) (by kernel_rfl) ?hQ12 (Or.inl ⟨?hw12, ?hy12⟩) hHeld ?rest12
            case hi12 => simp only [List.getElem?_toArray, List.getElem?_cons_succ, List.getElem?_cons_zero]; rfl
            case hQ12 => exact fun _ _ _ h => h
            case hw12 => rfl
            case hy12 =>
              intro w hSw
              try dsimp only at hSw
              go_simp
              all_goals with_reducible rfl
            try simp only [Act.put, List.setIfInBounds_toArray, List.set_cons_zero, List.set_cons_succ]
            refine' wpAnyH_take (i := 25) (oi := _) (v := _) ?hi13 (by kernel_rfl) (by kernel_rfl) (by kernel_rfl) ?hQ13 (Or.inl ⟨?hw13, ?hy13⟩) hHeld ?rest13
            case hi13 => simp only [List.getElem?_toArray, List.getElem?_cons_succ, List.getElem?_cons_zero]; rfl
            case hQ13 => exact fun _ _ _ h => h
            case hw13 => rfl
            case hy13 =>
              intro w hSw
              try dsimp only at hSw
              go_simp
              all_goals with_reducible rfl
            try simp only [Act.put, List.setIfInBounds_toArray, List.set_cons_zero, List.set_cons_succ]
            refine' wpAnyH_take (i := 26) (oi := _) (v := _) ?hi14 (by kernel_rfl) (by kernel_rfl) (by kernel_rfl) ?hQ14 (Or.inl ⟨?hw14, ?hy14⟩) hHeld ?rest14
            case hi14 => simp only [List.getElem?_toArray, List.getElem?_cons_succ, List.getElem?_cons_zero]; rfl
            case hQ14 => exact fun _ _ _ h => h
            case hw14 => rfl
            case hy14 =>
              intro w hSw
              try dsimp only at hSw
              go_simp
              all_goals with_reducible rfl
            try simp only [Act.put, List.setIfInBounds_toArray, List.set_cons_zero, List.set_cons_succ]
            refine' wpAnyH_take (i := 27) (oi := _) (v := _) ?hi15 (by kernel_rfl) (by kernel_rfl) (by kernel_rfl) ?hQ15 (Or.inl ⟨?hw15, ?hy15⟩) hHeld ?rest15
            case hi15 => simp only [List.getElem?_toArray, List.getElem?_cons_succ, List.getElem?_cons_zero]; rfl
            case hQ15 => exact fun _ _ _ h => h
            case hw15 => rfl
            case hy15 =>
              intro w hSw
              try dsimp only at hSw
              have y0' := (hSw.cell (p := ⟨g2, k * 6, none⟩) hl2).trans y0
              have y1' := (hSw.cell (p := ⟨g2, k * 6 + 1, none⟩) hl2).trans y1
              have y2' := (hSw.cell (p := ⟨g2, k * 6 + 2, none⟩) hl2).trans y2
              have y3' := (hSw.cell (p := ⟨g2, k * 6 + 3, none⟩) hl2).trans y3
              have y4' := (hSw.cell (p := ⟨g2, k * 6 + 4, none⟩) hl2).trans y4
              have y5' := (hSw.cell (p := ⟨g2, k * 6 + 5, none⟩) hl2).trans y5
              clear hSw
              go_simp
              all_goals with_reducible rfl
            try simp only [Act.put, List.setIfInBounds_toArray, List.set_cons_zero, List.set_cons_succ]
            refine wpAnyH_ready (rs := [28]) (by kernel_rfl) (by simp) ?_
            refine' AllReadyH.cons (o := _) ?ha4 (fun K hK => ?sa4) ?ma4
            case ha4 => simp only [List.getElem?_toArray, List.getElem?_cons_succ, List.getElem?_cons_zero]; rfl
            case ma4 => exact AllReadyH.nil
            case sa4 =>
              go_simp
              go_at_call 15
              refine (HBA.out _ hHeld).mono ?_
              rintro e w4 ⟨eg, el, ek, fg, fl, fk, rfl, hv, hb⟩
              have HVb := Lib.hid hv
              have hbk := hHeld.trans (hb.mono hHeld.size)
              clear hb hv
              go_wp2_with fail
              refine hK.out _ _ ?_ (fun hHeld => ?_)
              · exact hbk
              clear hK K hbk
              try simp only [Act.put, List.setIfInBounds_toArray, List.set_cons_zero, List.set_cons_succ]
              refine wpAnyH_ready (rs := [29]) (by kernel_rfl) (by simp) ?_
              refine' AllReadyH.cons (o := _) ?ha3 (fun K hK => ?sa3) ?ma3
              case ha3 => simp only [List.getElem?_toArray, List.getElem?_cons_succ, List.getElem?_cons_zero]; rfl
              case ma3 => exact AllReadyH.nil
              case sa3 =>
                go_simp
                go_at_call 14
                refine (HSA.out _ _ _ _ _ _ _ hHeld HVb.out).mono ?_
                rintro e w5 ⟨rfl, hb⟩
                have hbk := hHeld.trans (hb.mono hHeld.size)
                clear hb HVb
                go_wp2_with fail
                refine hK.out _ _ ?_ (fun hHeld => ?_)
                · exact hbk
                clear hK K hbk
                try simp only [Act.put, List.setIfInBounds_toArray, List.set_cons_zero, List.set_cons_succ]
                refine' wpAnyH_take (i := 30) (oi := _) (v := _) ?hi1 (by kernel_rfl) (by kernel_rfl) (by kernel_rfl) ?hQ1 (Or.inl ⟨?hw1, ?hy1⟩) hHeld ?rest1
                case hi1 => simp only [List.getElem?_toArray, List.getElem?_cons_succ, List.getElem?_cons_zero]; rfl
                case hQ1 => exact fun _ _ _ h => h
                case hw1 => rfl
                case hy1 =>
                  intro w hSw
                  try dsimp only at hSw
                  go_simp
                  all_goals with_reducible rfl
                try simp only [Act.put, List.setIfInBounds_toArray, List.set_cons_zero, List.set_cons_succ]
                refine' wpAnyH_take (i := 31) (oi := _) (v := _) ?hi2 (by kernel_rfl) (by kernel_rfl) (by kernel_rfl) ?hQ2 (Or.inl ⟨?hw2, ?hy2⟩) hHeld ?rest2
                case hi2 => simp only [List.getElem?_toArray, List.getElem?_cons_succ, List.getElem?_cons_zero]; rfl
                case hQ2 => exact fun _ _ _ h => h
                case hw2 => rfl
                case hy2 =>
                  intro w hSw
                  try dsimp only at hSw
                  go_simp
                  all_goals with_reducible rfl
                try simp only [Act.put, List.setIfInBounds_toArray, List.set_cons_zero, List.set_cons_succ]
                refine wpAnyH_done (by kernel_rfl) ?_ _
                have HBE := Lib.hid (hbl.out.trans (hHeld.mono hbl.out.size))
                clear hHeld
                go_wp2_with fail
                go_roundw
                case rel => exact ⟨k + 1, by have := HLT.out; omega, by go_num, HBE⟩
                case measure => have := HLT.out; simp only [intOf]; omega
    · obtain rfl : k = 5 := by omega
      have hz1 : ¬ ((5 : Nat) : Int) < 5 := by omega
      have HBw := Lib.hid (HB.out.trans (hbl.out.mono HB.out.size))
      clear hbl
      go_wp2_with fail
      refine (HS.out _).mono ?_
      rintro e w9 ⟨rfl, hb9⟩
      have HB9 := Lib.hid (HBw.out.trans (hb9.mono HBw.out.size))
      clear hb9
      go_wp2_with fail
      go_ret
      exact ⟨rfl, HB9.out⟩
end Go.Proofs.Ytboophfcakdlcaa
