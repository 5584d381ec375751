/- FontSame's law, walked. -/
import Derived.Test.YtboophfcakdlcaaFtAsW
import Derived.Test.YtboophfcakdlcaaFtRSame
import Derived.Deep.RegionHeld3
import Derived.Deep.DeepCutAuto
namespace Go.Proofs.Ytboophfcakdlcaa
open Go.RowKit Go.PlainAid Go.Shelf

theorem allEq_symm {α : Type} {eq : α → α → Bool} (h : ∀ x y, eq x y = eq y x) : ∀ xs ys : List α, Lib.allEq eq xs ys = Lib.allEq eq ys xs
  | [], [] => rfl
  | [], _ :: _ => rfl
  | _ :: _, [] => rfl
  | x :: xs, y :: ys => by simp only [Lib.allEq]; rw [h x y, allEq_symm h xs ys]
theorem allEq_refl {α : Type} {eq : α → α → Bool} (h : ∀ x, eq x x = true) : ∀ xs : List α, Lib.allEq eq xs xs = true
  | [] => rfl
  | x :: xs => by simp only [Lib.allEq]; rw [h x, allEq_refl h xs]; rfl
theorem sameF_symm (F G : FontL) : sameF F G = sameF G F := by
  unfold sameF
  rw [allEq_symm (eq := eqG) (fun x y => by unfold eqG; rw [BEq.comm (a := x.nm), BEq.comm (a := x.wd)]) F.gs, allEq_symm (eq := eqLg) (fun x y => by unfold eqLg; rw [BEq.comm (a := x.a), BEq.comm (a := x.b), BEq.comm (a := x.is)]) F.ls, allEq_symm (eq := eqKn) (fun x y => by unfold eqKn; rw [BEq.comm (a := x.a), BEq.comm (a := x.b), BEq.comm (a := x.more)]) F.ks, BEq.comm (a := F.name), BEq.comm (a := F.special), BEq.comm (a := F.space)]
theorem sameF_refl (F : FontL) : sameF F F = true := by
  unfold sameF
  rw [allEq_refl (eq := eqG) (fun x => by simp [eqG]) F.gs, allEq_refl (eq := eqLg) (fun x => by simp [eqLg]) F.ls, allEq_refl (eq := eqKn) (fun x => by simp [eqKn]) F.ks]
  simp
theorem FontV.drew {F : FontL} {ag al ak : Option Addr} {w : World} (h : FontV F ag al ak w) : FontV F ag al ak w.drew := h.below (Below.refl _ w).drew

abbrev FA.small (x : FA) : Prop := x.F.gs.length ≤ 1000000000000000000 ∧ x.F.ls.length ≤ 1000000000000000000 ∧ x.F.ks.length ≤ 1000000000000000000
set_option maxRecDepth 100000 in
set_option maxHeartbeats 8000000 in
theorem law_fsame (x y : FA) (w : World) (hx : x.ok w) (hy : y.ok w) (sx : x.small) (sy : y.small) : Calls Try.prog 5 #[fontVal x, fontVal y] w (Makes (.bool true) w) := by
  have HS := Lib.hid (fun w' => sane_any w')
  by_cases hbig : x.F.gs.length + y.F.gs.length ≤ 200 ∧ x.F.ls.length + y.F.ls.length ≤ 200 ∧ x.F.ks.length + y.F.ks.length ≤ 200
  · obtain ⟨q1, q2, q3⟩ := hbig
    obtain ⟨z, hz⟩ : ∃ z, sameF x.F y.F = z := ⟨_, rfl⟩
    have hz' : sameF y.F x.F = z := by rw [sameF_symm]; exact hz
    have HXY : Hid (∀ w', Below w.heap.size w w' → Calls Try.prog 14 #[fontVal x, fontVal y] w' (Makes (.bool z) w')) := fun w' hb => by
      have := same_any x y w' (hx.below hb) (hy.below hb) ⟨by omega, by omega, by omega⟩ ⟨by omega, by omega, by omega⟩
      rwa [hz] at this
    have HYX : Hid (∀ w', Below w.heap.size w w' → Calls Try.prog 14 #[fontVal y, fontVal x] w' (Makes (.bool z) w')) := fun w' hb => by
      have := same_any y x w' (hy.below hb) (hx.below hb) ⟨by omega, by omega, by omega⟩ ⟨by omega, by omega, by omega⟩
      rwa [hz'] at this
    have HXX : Hid (∀ w', Below w.heap.size w w' → Calls Try.prog 14 #[fontVal x, fontVal x] w' (Makes (.bool true) w')) := fun w' hb => by
      have := same_any x x w' (hx.below hb) (hx.below hb) ⟨by omega, by omega, by omega⟩ ⟨by omega, by omega, by omega⟩
      rwa [sameF_refl] at this
    have HAX : Hid (∀ w', Below w.heap.size w w' → Calls Try.prog 12 #[fontVal x] w' (AsP x w')) := fun w' hb => as_any x w' (hx.below hb) (by omega) (by omega) (by omega)
    have HAY : Hid (∀ w', Below w.heap.size w w' → Calls Try.prog 12 #[fontVal y] w' (AsP y w')) := fun w' hb => as_any y w' (hy.below hb) (by omega) (by omega) (by omega)
    have HRS : Hid (∀ (ag al ak : Option Addr) (cg cl ck : Nat) (bg bl bk : Option Addr) (dg dl dk : Nat) (w' : World), FontV x.F ag al ak w' → FontV y.F bg bl bk w' → Calls Try.prog 11 #[fontVal ⟨x.F, ag, al, ak, cg, cl, ck⟩, fontVal ⟨y.F, bg, bl, bk, dg, dl, dk⟩] w' (Makes (.bool z) w')) := fun ag al ak cg cl ck bg bl bk dg dl dk w' h1 h2 => by
      have := rsame_any ⟨x.F, ag, al, ak, cg, cl, ck⟩ ⟨y.F, bg, bl, bk, dg, dl, dk⟩ w' h1 h2 ⟨by simp only; omega, by simp only; omega, by simp only; omega⟩
      rwa [hz] at this
    unfold AsP at HAX HAY
    clear hz hz' hx hy sx sy
    obtain ⟨F1, ag, al, ak, cg, cl, ck⟩ := x
    obtain ⟨F2, bg, bl, bk, dg, dl, dk⟩ := y
    obtain ⟨n1, s1, z1, g1, l1, k1⟩ := F1
    obtain ⟨n2, s2, z2, g2, l2, k2⟩ := F2
    simp only [fontVal] at HXY HYX HXX HAX HAY HRS q1 q2 q3 ⊢
    obtain ⟨m1, hm1⟩ : ∃ m, mk8 n1 = m := ⟨_, rfl⟩
    obtain ⟨m2, hm2⟩ : ∃ m, mk8 n2 = m := ⟨_, rfl⟩
    simp only [hm1, hm2] at HXY HYX HXX HAX HAY HRS ⊢
    clear hm1 hm2
    have u1 : IntKind.i64.wrap ((g1.length : Int) + g2.length) = g1.length + g2.length := IntWalk.i64_in _ (by omega)
    have u2 : IntKind.i64.wrap ((l1.length : Int) + l2.length) = l1.length + l2.length := IntWalk.i64_in _ (by omega)
    have u3 : IntKind.i64.wrap ((k1.length : Int) + k2.length) = k1.length + k2.length := IntWalk.i64_in _ (by omega)
    have v1 : ¬ (200 : Int) < g1.length + g2.length := by omega
    have v2 : ¬ (200 : Int) < l1.length + l2.length := by omega
    have v3 : ¬ (200 : Int) < k1.length + k2.length := by omega
    clear q1 q2 q3
    go_enter Try.func5, Try.ntmps5
    go_upto_region 1 with fail
    generalize hw1 : w.alloc _ = w1
    have hb1 : Below w.heap.size w w1 := by rw [← hw1]; exact (Below.refl _ _).alloc (Nat.le_refl _) _
    have t1 : w1.heap[w.heap.size]? = some (.cells #[.string m1, .bool s1, .int .i64 z1, .slice ag g1.length cg, .slice al l1.length cl, .slice ak k1.length ck] 37 (0, 0)) := by rw [← hw1]; exact heap_alloc_new w _
    have hs1 : w1.heap.size = w.heap.size + 1 := by rw [← hw1]; simp
    generalize hw2 : w1.alloc _ = w2
    have hb2 : Below w1.heap.size w1 w2 := by rw [← hw2]; exact (Below.refl _ _).alloc (Nat.le_refl _) _
    have t2 : w2.heap[w1.heap.size]? = some (.cells #[.string m2, .bool s2, .int .i64 z2, .slice bg g2.length dg, .slice bl l2.length dl, .slice bk k2.length dk] 37 (0, 0)) := by rw [← hw2]; exact heap_alloc_new w1 _
    have HB := Lib.hid (hb1.trans (hb2.mono hb1.size))
    have t1' : w2.heap[w.heap.size]? = some (.cells #[.string m1, .bool s1, .int .i64 z1, .slice ag g1.length cg, .slice al l1.length cl, .slice ak k1.length ck] 37 (0, 0)) := by rw [hb2.block _ (by omega)]; exact t1
    rw [hs1] at t2
    obtain ⟨p, hp⟩ : ∃ p, w.heap.size = p := ⟨_, rfl⟩
    obtain ⟨r, hr⟩ : ∃ r, p + 1 = r := ⟨_, rfl⟩
    have HPW : Hid (w.heap.size = p) := hp
    rw [hp] at t1' t2
    rw [hr] at t2
    simp only [hp, hr]
    have hl1 : p < w2.heap.size := (Array.getElem?_eq_some_iff.1 t1').1
    have hl2 : r < w2.heap.size := (Array.getElem?_eq_some_iff.1 t2).1
    have x0 := cell_of (j := 0) t1' rfl
    have y0 := cell_of (j := 0) t2 rfl
    have x1 := cell_of (j := 1) t1' rfl
    have y1 := cell_of (j := 1) t2 rfl
    have x2 := cell_of (j := 2) t1' rfl
    have y2 := cell_of (j := 2) t2 rfl
    have x3 := cell_of (j := 3) t1' rfl
    have y3 := cell_of (j := 3) t2 rfl
    have x4 := cell_of (j := 4) t1' rfl
    have y4 := cell_of (j := 4) t2 rfl
    have x5 := cell_of (j := 5) t1' rfl
    have y5 := cell_of (j := 5) t2 rfl
    clear hw1 hw2 hb1 hb2 t1 t2 t1' hs1 hp hr
    go_upto_region 3 with fail
    clear u1 u2 u3 v1 v2 v3
    refine wp_region_held_drew (S := fun w' => Below w2.heap.size w2 w') (by kernel_rfl) ?_ (fun hHeld => ?_)
    · exact (Below.refl _ _).drew
    refine' wpAnyH_take (i := 0) (oi := _) (v := _) ?hi24 (by kernel_rfl) (by kernel_rfl) (by kernel_rfl) ?hQ24 (Or.inl ⟨?hw24, ?hy24⟩) hHeld ?rest24
    case hi24 => simp only [List.getElem?_toArray, List.getElem?_cons_zero]; rfl
    case hQ24 => exact fun _ _ _ h => h
    case hw24 => rfl
    case hy24 =>
      intro w hSw
      try dsimp only at hSw
      have x0' := (hSw.cell (p := ⟨p, 0, none⟩) hl1).trans x0
      have x1' := (hSw.cell (p := ⟨p, 1, none⟩) hl1).trans x1
      have x2' := (hSw.cell (p := ⟨p, 2, none⟩) hl1).trans x2
      have x3' := (hSw.cell (p := ⟨p, 3, none⟩) hl1).trans x3
      have x4' := (hSw.cell (p := ⟨p, 4, none⟩) hl1).trans x4
      have x5' := (hSw.cell (p := ⟨p, 5, none⟩) hl1).trans x5
      clear hSw
      go_simp
      all_goals with_reducible rfl
    try simp only [Act.put, List.setIfInBounds_toArray, List.set_cons_zero, List.set_cons_succ]
    refine' wpAnyH_take (i := 1) (oi := _) (v := _) ?hi25 (by kernel_rfl) (by kernel_rfl) (by kernel_rfl) ?hQ25 (Or.inl ⟨?hw25, ?hy25⟩) hHeld ?rest25
    case hi25 => simp only [List.getElem?_toArray, List.getElem?_cons_succ, List.getElem?_cons_zero]; rfl
    case hQ25 => exact fun _ _ _ h => h
    case hw25 => rfl
    case hy25 =>
      intro w hSw
      try dsimp only at hSw
      have y0' := (hSw.cell (p := ⟨r, 0, none⟩) hl2).trans y0
      have y1' := (hSw.cell (p := ⟨r, 1, none⟩) hl2).trans y1
      have y2' := (hSw.cell (p := ⟨r, 2, none⟩) hl2).trans y2
      have y3' := (hSw.cell (p := ⟨r, 3, none⟩) hl2).trans y3
      have y4' := (hSw.cell (p := ⟨r, 4, none⟩) hl2).trans y4
      have y5' := (hSw.cell (p := ⟨r, 5, none⟩) hl2).trans y5
      clear hSw
      go_simp
      all_goals with_reducible rfl
    try simp only [Act.put, List.setIfInBounds_toArray, List.set_cons_zero, List.set_cons_succ]
    refine' wpAnyH_take (i := 3) (oi := _) (v := _) ?hi26 (by kernel_rfl) (by kernel_rfl) (by kernel_rfl) ?hQ26 (Or.inl ⟨?hw26, ?hy26⟩) hHeld ?rest26
    case hi26 => simp only [List.getElem?_toArray, List.getElem?_cons_succ, List.getElem?_cons_zero]; rfl
    case hQ26 => exact fun _ _ _ h => h
    case hw26 => rfl
    case hy26 =>
      intro w hSw
      try dsimp only at hSw
      have x0' := (hSw.cell (p := ⟨p, 0, none⟩) hl1).trans x0
      have x1' := (hSw.cell (p := ⟨p, 1, none⟩) hl1).trans x1
      have x2' := (hSw.cell (p := ⟨p, 2, none⟩) hl1).trans x2
      have x3' := (hSw.cell (p := ⟨p, 3, none⟩) hl1).trans x3
      have x4' := (hSw.cell (p := ⟨p, 4, none⟩) hl1).trans x4
      have x5' := (hSw.cell (p := ⟨p, 5, none⟩) hl1).trans x5
      clear hSw
      go_simp
      all_goals with_reducible rfl
    try simp only [Act.put, List.setIfInBounds_toArray, List.set_cons_zero, List.set_cons_succ]
    refine' wpAnyH_take (i := 5) (oi := _) (v := _) ?hi27 (by kernel_rfl) (by kernel_rfl) (by kernel_rfl) ?hQ27 (Or.inl ⟨?hw27, ?hy27⟩) hHeld ?rest27
    case hi27 => simp only [List.getElem?_toArray, List.getElem?_cons_succ, List.getElem?_cons_zero]; rfl
    case hQ27 => exact fun _ _ _ h => h
    case hw27 => rfl
    case hy27 =>
      intro w hSw
      try dsimp only at hSw
      have y0' := (hSw.cell (p := ⟨r, 0, none⟩) hl2).trans y0
      have y1' := (hSw.cell (p := ⟨r, 1, none⟩) hl2).trans y1
      have y2' := (hSw.cell (p := ⟨r, 2, none⟩) hl2).trans y2
      have y3' := (hSw.cell (p := ⟨r, 3, none⟩) hl2).trans y3
      have y4' := (hSw.cell (p := ⟨r, 4, none⟩) hl2).trans y4
      have y5' := (hSw.cell (p := ⟨r, 5, none⟩) hl2).trans y5
      clear hSw
      go_simp
      all_goals with_reducible rfl
    try simp only [Act.put, List.setIfInBounds_toArray, List.set_cons_zero, List.set_cons_succ]
    refine wpAnyH_ready (rs := [2]) (by kernel_rfl) (by simp) ?_
    refine' AllReadyH.cons (o := _) ?ha23 (fun K hK => ?sa23) ?ma23
    case ha23 => simp only [List.getElem?_toArray, List.getElem?_cons_succ, List.getElem?_cons_zero]; rfl
    case ma23 => exact AllReadyH.nil
    case sa23 =>
      go_simp
      go_at_call 14
      refine (HXY.out _ (HB.out.trans (hHeld.mono HB.out.size))).mono ?_
      rintro e w3 ⟨rfl, hb⟩
      have hbk : Below w2.heap.size w2 w3 := hHeld.trans (hb.mono hHeld.size)
      clear hb
      go_wp2_with fail
      refine hK.out _ _ ?_ (fun hHeld => ?_)
      · exact hbk
      clear hK K
      try simp only [Act.put, List.setIfInBounds_toArray, List.set_cons_zero, List.set_cons_succ]
      clear hbk
      refine wpAnyH_ready (rs := [4]) (by kernel_rfl) (by simp) ?_
      refine' AllReadyH.cons (o := _) ?ha22 (fun K hK => ?sa22) ?ma22
      case ha22 => simp only [List.getElem?_toArray, List.getElem?_cons_succ, List.getElem?_cons_zero]; rfl
      case ma22 => exact AllReadyH.nil
      case sa22 =>
        go_simp
        go_at_call 12
        refine (HAX.out _ (HB.out.trans (hHeld.mono HB.out.size))).mono ?_
        rintro e w3' ⟨ig, il, ik, jg, jl, jk, rfl, hv, hb⟩
        have HV1 := Lib.hid hv
        have hbk : Below w2.heap.size w2 w3' := hHeld.trans (hb.mono hHeld.size)
        clear hb hv
        go_wp2_with fail
        refine hK.out _ _ ?_ (fun hHeld => ?_)
        · exact hbk
        clear hK K
        try simp only [Act.put, List.setIfInBounds_toArray, List.set_cons_zero, List.set_cons_succ]
        clear hbk
        refine wpAnyH_ready (rs := [6]) (by kernel_rfl) (by simp) ?_
        refine' AllReadyH.cons (o := _) ?ha21 (fun K hK => ?sa21) ?ma21
        case ha21 => simp only [List.getElem?_toArray, List.getElem?_cons_succ, List.getElem?_cons_zero]; rfl
        case ma21 => exact AllReadyH.nil
        case sa21 =>
          go_simp
          go_at_call 12
          refine (HAY.out _ (HB.out.trans (hHeld.mono HB.out.size))).mono ?_
          rintro e w4 ⟨eg, el, ek, fg, fl, fk, rfl, hv, hb⟩
          have HV2w4 := Lib.hid hv
          have HV1w4 := Lib.hid (HV1.out.below hb)
          have hbk : Below w2.heap.size w2 w4 := hHeld.trans (hb.mono hHeld.size)
          clear hb hv HV1
          go_wp2_with fail
          refine hK.out _ _ ?_ (fun hHeld => ?_)
          · exact hbk
          clear hK K
          try simp only [Act.put, List.setIfInBounds_toArray, List.set_cons_zero, List.set_cons_succ]
          clear hbk
          refine wpAnyH_ready (rs := [7]) (by kernel_rfl) (by simp) ?_
          refine' AllReadyH.cons (o := _) ?ha20 (fun K hK => ?sa20) ?ma20
          case ha20 => simp only [List.getElem?_toArray, List.getElem?_cons_succ, List.getElem?_cons_zero]; rfl
          case ma20 => exact AllReadyH.nil
          case sa20 =>
            go_simp
            go_at_call 11
            refine (HRS.out _ _ _ _ _ _ _ _ _ _ _ _ _ HV1w4.out HV2w4.out).mono ?_
            rintro e w5 ⟨rfl, hb⟩
            have hbk : Below w2.heap.size w2 w5 := hHeld.trans (hb.mono hHeld.size)
            clear hb HV1w4 HV2w4
            go_wp2_with fail
            refine hK.out _ _ ?_ (fun hHeld => ?_)
            · exact hbk
            clear hK K
            try simp only [Act.put, List.setIfInBounds_toArray, List.set_cons_zero, List.set_cons_succ]
            clear hbk
            refine' wpAnyH_take (i := 8) (oi := _) (v := _) ?hi18 (by kernel_rfl) (by kernel_rfl) (by kernel_rfl) ?hQ18 (Or.inl ⟨?hw18, ?hy18⟩) hHeld ?rest18
            case hi18 => simp only [List.getElem?_toArray, List.getElem?_cons_succ, List.getElem?_cons_zero]; rfl
            case hQ18 => exact fun _ _ _ h => h
            case hw18 => rfl
            case hy18 =>
              intro w hSw
              try dsimp only at hSw
              go_simp
              all_goals with_reducible rfl
            try simp only [Act.put, List.setIfInBounds_toArray, List.set_cons_zero, List.set_cons_succ]
            refine' wpAnyH_take (i := 9) (oi := _) (v := _) ?hi19 (by kernel_rfl) (by kernel_rfl) (by kernel_rfl) ?hQ19 (Or.inl ⟨?hw19, ?hy19⟩) hHeld ?rest19
            case hi19 => simp only [List.getElem?_toArray, List.getElem?_cons_succ, List.getElem?_cons_zero]; rfl
            case hQ19 => exact fun _ _ _ h => h
            case hw19 => rfl
            case hy19 =>
              intro w hSw
              try dsimp only at hSw
              go_simp
              all_goals with_reducible rfl
            try simp only [Act.put, List.setIfInBounds_toArray, List.set_cons_zero, List.set_cons_succ]
            refine' wpAnyH_take (i := 10) (oi := _) (v := _) ?hi13 (by kernel_rfl) (by kernel_rfl) (by kernel_rfl) ?hQ13 (Or.inl ⟨?hw13, ?hy13⟩) hHeld ?rest13
            case hi13 => simp only [List.getElem?_toArray, List.getElem?_cons_succ, List.getElem?_cons_zero]; rfl
            case hQ13 => exact fun _ _ _ h => h
            case hw13 => rfl
            case hy13 =>
              intro w hSw
              try dsimp only at hSw
              have y0' := (hSw.cell (p := ⟨r, 0, none⟩) hl2).trans y0
              have y1' := (hSw.cell (p := ⟨r, 1, none⟩) hl2).trans y1
              have y2' := (hSw.cell (p := ⟨r, 2, none⟩) hl2).trans y2
              have y3' := (hSw.cell (p := ⟨r, 3, none⟩) hl2).trans y3
              have y4' := (hSw.cell (p := ⟨r, 4, none⟩) hl2).trans y4
              have y5' := (hSw.cell (p := ⟨r, 5, none⟩) hl2).trans y5
              clear hSw
              go_simp
              all_goals with_reducible rfl
            try simp only [Act.put, List.setIfInBounds_toArray, List.set_cons_zero, List.set_cons_succ]
            refine' wpAnyH_take (i := 11) (oi := _) (v := _) ?hi14 (by kernel_rfl) (by kernel_rfl) (by kernel_rfl) ?hQ14 (Or.inl ⟨?hw14, ?hy14⟩) hHeld ?rest14
            case hi14 => simp only [List.getElem?_toArray, List.getElem?_cons_succ, List.getElem?_cons_zero]; rfl
            case hQ14 => exact fun _ _ _ h => h
            case hw14 => rfl
            case hy14 =>
              intro w hSw
              try dsimp only at hSw
              have x0' := (hSw.cell (p := ⟨p, 0, none⟩) hl1).trans x0
              have x1' := (hSw.cell (p := ⟨p, 1, none⟩) hl1).trans x1
              have x2' := (hSw.cell (p := ⟨p, 2, none⟩) hl1).trans x2
              have x3' := (hSw.cell (p := ⟨p, 3, none⟩) hl1).trans x3
              have x4' := (hSw.cell (p := ⟨p, 4, none⟩) hl1).trans x4
              have x5' := (hSw.cell (p := ⟨p, 5, none⟩) hl1).trans x5
              clear hSw
              go_simp
              all_goals with_reducible rfl
            try simp only [Act.put, List.setIfInBounds_toArray, List.set_cons_zero, List.set_cons_succ]
            refine' wpAnyH_take (i := 13) (oi := _) (v := _) ?hi15 (by kernel_rfl) (by kernel_rfl) (by kernel_rfl) ?hQ15 (Or.inl ⟨?hw15, ?hy15⟩) hHeld ?rest15
            case hi15 => simp only [List.getElem?_toArray, List.getElem?_cons_succ, List.getElem?_cons_zero]; rfl
            case hQ15 => exact fun _ _ _ h => h
            case hw15 => rfl
            case hy15 =>
              intro w hSw
              try dsimp only at hSw
              have x0' := (hSw.cell (p := ⟨p, 0, none⟩) hl1).trans x0
              have x1' := (hSw.cell (p := ⟨p, 1, none⟩) hl1).trans x1
              have x2' := (hSw.cell (p := ⟨p, 2, none⟩) hl1).trans x2
              have x3' := (hSw.cell (p := ⟨p, 3, none⟩) hl1).trans x3
              have x4' := (hSw.cell (p := ⟨p, 4, none⟩) hl1).trans x4
              have x5' := (hSw.cell (p := ⟨p, 5, none⟩) hl1).trans x5
              clear hSw
              go_simp
              all_goals with_reducible rfl
            try simp only [Act.put, List.setIfInBounds_toArray, List.set_cons_zero, List.set_cons_succ]
            refine' wpAnyH_take (i := 14) (oi := _) (v := _) ?hi16 (by kernel_rfl) (by kernel_rfl) (by kernel_rfl) ?hQ16 (Or.inl ⟨?hw16, ?hy16⟩) hHeld ?rest16
            case hi16 => simp only [List.getElem?_toArray, List.getElem?_cons_succ, List.getElem?_cons_zero]; rfl
            case hQ16 => exact fun _ _ _ h => h
            case hw16 => rfl
            case hy16 =>
              intro w hSw
              try dsimp only at hSw
              have y0' := (hSw.cell (p := ⟨r, 0, none⟩) hl2).trans y0
              have y1' := (hSw.cell (p := ⟨r, 1, none⟩) hl2).trans y1
              have y2' := (hSw.cell (p := ⟨r, 2, none⟩) hl2).trans y2
              have y3' := (hSw.cell (p := ⟨r, 3, none⟩) hl2).trans y3
              have y4' := (hSw.cell (p := ⟨r, 4, none⟩) hl2).trans y4
              have y5' := (hSw.cell (p := ⟨r, 5, none⟩) hl2).trans y5
              clear hSw
              go_simp
              all_goals with_reducible rfl
            try simp only [Act.put, List.setIfInBounds_toArray, List.set_cons_zero, List.set_cons_succ]
            refine wpAnyH_ready (rs := [12]) (by kernel_rfl) (by simp) ?_
            refine' AllReadyH.cons (o := _) ?ha17 (fun K hK => ?sa17) ?ma17
            case ha17 => simp only [List.getElem?_toArray, List.getElem?_cons_succ, List.getElem?_cons_zero]; rfl
            case ma17 => exact AllReadyH.nil
            case sa17 =>
              go_simp
              go_at_call 14
              refine (HYX.out _ (HB.out.trans (hHeld.mono HB.out.size))).mono ?_
              rintro e w5' ⟨rfl, hb⟩
              have hbk : Below w2.heap.size w2 w5' := hHeld.trans (hb.mono hHeld.size)
              clear hb
              go_wp2_with fail
              refine hK.out _ _ ?_ (fun hHeld => ?_)
              · exact hbk
              clear hK K
              try simp only [Act.put, List.setIfInBounds_toArray, List.set_cons_zero, List.set_cons_succ]
              clear hbk
              refine wpAnyH_ready (rs := [15]) (by kernel_rfl) (by simp) ?_
              refine' AllReadyH.cons (o := _) ?ha12 (fun K hK => ?sa12) ?ma12
              case ha12 => simp only [List.getElem?_toArray, List.getElem?_cons_succ, List.getElem?_cons_zero]; rfl
              case ma12 => exact AllReadyH.nil
              case sa12 =>
                go_simp
                go_at_call 14
                refine (HXY.out _ (HB.out.trans (hHeld.mono HB.out.size))).mono ?_
                rintro e w6 ⟨rfl, hb⟩
                have hbk : Below w2.heap.size w2 w6 := hHeld.trans (hb.mono hHeld.size)
                clear hb
                go_wp2_with fail
                refine hK.out _ _ ?_ (fun hHeld => ?_)
                · exact hbk
                clear hK K
                try simp only [Act.put, List.setIfInBounds_toArray, List.set_cons_zero, List.set_cons_succ]
                clear hbk
                refine' wpAnyH_take (i := 16) (oi := _) (v := _) ?hi9 (by kernel_rfl) (by kernel_rfl) (by kernel_rfl) ?hQ9 (Or.inl ⟨?hw9, ?hy9⟩) hHeld ?rest9
                case hi9 => simp only [List.getElem?_toArray, List.getElem?_cons_succ, List.getElem?_cons_zero]; rfl
                case hQ9 => exact fun _ _ _ h => h
                case hw9 => rfl
                case hy9 =>
                  intro w hSw
                  try dsimp only at hSw
                  go_simp
                  all_goals with_reducible rfl
                try simp only [Act.put, List.setIfInBounds_toArray, List.set_cons_zero, List.set_cons_succ]
                refine' wpAnyH_take (i := 17) (oi := _) (v := _) ?hi10 (by kernel_rfl) (by kernel_rfl) (by kernel_rfl) ?hQ10 (Or.inl ⟨?hw10, ?hy10⟩) hHeld ?rest10
                case hi10 => simp only [List.getElem?_toArray, List.getElem?_cons_succ, List.getElem?_cons_zero]; rfl
                case hQ10 => exact fun _ _ _ h => h
                case hw10 => rfl
                case hy10 =>
                  intro w hSw
                  try dsimp only at hSw
                  go_simp
                  all_goals with_reducible rfl
                try simp only [Act.put, List.setIfInBounds_toArray, List.set_cons_zero, List.set_cons_succ]
                refine' wpAnyH_take (i := 18) (oi := _) (v := _) ?hi11 (by kernel_rfl) (by kernel_rfl) (by kernel_rfl) ?hQ11 (Or.inl ⟨?hw11, ?hy11⟩) hHeld ?rest11
                case hi11 => simp only [List.getElem?_toArray, List.getElem?_cons_succ, List.getElem?_cons_zero]; rfl
                case hQ11 => exact fun _ _ _ h => h
                case hw11 => rfl
                case hy11 =>
                  intro w hSw
                  try dsimp only at hSw
                  go_simp
                  all_goals with_reducible rfl
                try simp only [Act.put, List.setIfInBounds_toArray, List.set_cons_zero, List.set_cons_succ]
                refine' wpAnyH_take (i := 19) (oi := _) (v := _) ?hi4 (by kernel_rfl) (by kernel_rfl) (by kernel_rfl) ?hQ4 (Or.inl ⟨?hw4, ?hy4⟩) hHeld ?rest4
                case hi4 => simp only [List.getElem?_toArray, List.getElem?_cons_succ, List.getElem?_cons_zero]; rfl
                case hQ4 => exact fun _ _ _ h => h
                case hw4 => rfl
                case hy4 =>
                  intro w hSw
                  try dsimp only at hSw
                  have x0' := (hSw.cell (p := ⟨p, 0, none⟩) hl1).trans x0
                  have x1' := (hSw.cell (p := ⟨p, 1, none⟩) hl1).trans x1
                  have x2' := (hSw.cell (p := ⟨p, 2, none⟩) hl1).trans x2
                  have x3' := (hSw.cell (p := ⟨p, 3, none⟩) hl1).trans x3
                  have x4' := (hSw.cell (p := ⟨p, 4, none⟩) hl1).trans x4
                  have x5' := (hSw.cell (p := ⟨p, 5, none⟩) hl1).trans x5
                  clear hSw
                  go_simp
                  all_goals with_reducible rfl
                try simp only [Act.put, List.setIfInBounds_toArray, List.set_cons_zero, List.set_cons_succ]
                refine' wpAnyH_take (i := 20) (oi := _) (v := _) ?hi5 (by kernel_rfl) (by kernel_rfl) (by kernel_rfl) ?hQ5 (Or.inl ⟨?hw5, ?hy5⟩) hHeld ?rest5
                case hi5 => simp only [List.getElem?_toArray, List.getElem?_cons_succ, List.getElem?_cons_zero]; rfl
                case hQ5 => exact fun _ _ _ h => h
                case hw5 => rfl
                case hy5 =>
                  intro w hSw
                  try dsimp only at hSw
                  have x0' := (hSw.cell (p := ⟨p, 0, none⟩) hl1).trans x0
                  have x1' := (hSw.cell (p := ⟨p, 1, none⟩) hl1).trans x1
                  have x2' := (hSw.cell (p := ⟨p, 2, none⟩) hl1).trans x2
                  have x3' := (hSw.cell (p := ⟨p, 3, none⟩) hl1).trans x3
                  have x4' := (hSw.cell (p := ⟨p, 4, none⟩) hl1).trans x4
                  have x5' := (hSw.cell (p := ⟨p, 5, none⟩) hl1).trans x5
                  clear hSw
                  go_simp
                  all_goals with_reducible rfl
                try simp only [Act.put, List.setIfInBounds_toArray, List.set_cons_zero, List.set_cons_succ]
                refine wpAnyH_ready (rs := [21]) (by kernel_rfl) (by simp) ?_
                refine' AllReadyH.cons (o := _) ?ha8 (fun K hK => ?sa8) ?ma8
                case ha8 => simp only [List.getElem?_toArray, List.getElem?_cons_succ, List.getElem?_cons_zero]; rfl
                case ma8 => exact AllReadyH.nil
                case sa8 =>
                  go_simp
                  go_at_call 14
                  refine (HXX.out _ (HB.out.trans (hHeld.mono HB.out.size))).mono ?_
                  rintro e w7 ⟨rfl, hb⟩
                  have hbk : Below w2.heap.size w2 w7 := hHeld.trans (hb.mono hHeld.size)
                  clear hb
                  go_wp2_with fail
                  refine hK.out _ _ ?_ (fun hHeld => ?_)
                  · exact hbk
                  clear hK K
                  try simp only [Act.put, List.setIfInBounds_toArray, List.set_cons_zero, List.set_cons_succ]
                  clear hbk
                  refine' wpAnyH_take (i := 22) (oi := _) (v := _) ?hi6 (by kernel_rfl) (by kernel_rfl) (by kernel_rfl) ?hQ6 (Or.inl ⟨?hw6, ?hy6⟩) hHeld ?rest6
                  case hi6 => simp only [List.getElem?_toArray, List.getElem?_cons_succ, List.getElem?_cons_zero]; rfl
                  case hQ6 => exact fun _ _ _ h => h
                  case hw6 => rfl
                  case hy6 =>
                    intro w hSw
                    try dsimp only at hSw
                    go_simp
                    all_goals with_reducible rfl
                  try simp only [Act.put, List.setIfInBounds_toArray, List.set_cons_zero, List.set_cons_succ]
                  refine' wpAnyH_take (i := 23) (oi := _) (v := _) ?hi7 (by kernel_rfl) (by kernel_rfl) (by kernel_rfl) ?hQ7 (Or.inl ⟨?hw7, ?hy7⟩) hHeld ?rest7
                  case hi7 => simp only [List.getElem?_toArray, List.getElem?_cons_succ, List.getElem?_cons_zero]; rfl
                  case hQ7 => exact fun _ _ _ h => h
                  case hw7 => rfl
                  case hy7 =>
                    intro w hSw
                    try dsimp only at hSw
                    go_simp
                    all_goals with_reducible rfl
                  try simp only [Act.put, List.setIfInBounds_toArray, List.set_cons_zero, List.set_cons_succ]
                  refine wpAnyH_ready (rs := [24]) (by kernel_rfl) (by simp) ?_
                  refine' AllReadyH.cons (o := _) ?ha3 (fun K hK => ?sa3) ?ma3
                  case ha3 => simp only [List.getElem?_toArray, List.getElem?_cons_succ, List.getElem?_cons_zero]; rfl
                  case ma3 => exact AllReadyH.nil
                  case sa3 =>
                    go_simp
                    go_at_call 16
                    refine (HS.out _).mono ?_
                    rintro e w8 ⟨rfl, hb⟩
                    have hbk : Below w2.heap.size w2 w8 := hHeld.trans (hb.mono hHeld.size)
                    clear hb
                    go_wp2_with fail
                    refine hK.out _ _ ?_ (fun hHeld => ?_)
                    · exact hbk
                    clear hK K
                    try simp only [Act.put, List.setIfInBounds_toArray, List.set_cons_zero, List.set_cons_succ]
                    clear hbk
                    refine' wpAnyH_take (i := 25) (oi := _) (v := _) ?hi1 (by kernel_rfl) (by kernel_rfl) (by kernel_rfl) ?hQ1 (Or.inl ⟨?hw1, ?hy1⟩) hHeld ?rest1
                    case hi1 => simp only [List.getElem?_toArray, List.getElem?_cons_succ, List.getElem?_cons_zero]; rfl
                    case hQ1 => exact fun _ _ _ h => h
                    case hw1 => rfl
                    case hy1 =>
                      intro w hSw
                      try dsimp only at hSw
                      go_simp
                      all_goals with_reducible rfl
                    try simp only [Act.put, List.setIfInBounds_toArray, List.set_cons_zero, List.set_cons_succ]
                    refine' wpAnyH_take (i := 26) (oi := _) (v := _) ?hi2 (by kernel_rfl) (by kernel_rfl) (by kernel_rfl) ?hQ2 (Or.inl ⟨?hw2, ?hy2⟩) hHeld ?rest2
                    case hi2 => simp only [List.getElem?_toArray, List.getElem?_cons_succ, List.getElem?_cons_zero]; rfl
                    case hQ2 => exact fun _ _ _ h => h
                    case hw2 => rfl
                    case hy2 =>
                      intro w hSw
                      try dsimp only at hSw
                      go_simp
                      all_goals with_reducible rfl
                    try simp only [Act.put, List.setIfInBounds_toArray, List.set_cons_zero, List.set_cons_succ]
                    refine wpAnyH_done (by kernel_rfl) ?_ _
                    have HBE := Lib.hid (HB.out.trans (hHeld.mono HB.out.size))
                    clear hHeld
                    go_wp2_with fail
                    go_ret
                    exact ⟨rfl, HBE.out⟩
  · obtain ⟨⟨n1, s1, z1, g1, l1, k1⟩, ag, al, ak, cg, cl, ck⟩ := x
    obtain ⟨⟨n2, s2, z2, g2, l2, k2⟩, bg, bl, bk, dg, dl, dk⟩ := y
    obtain ⟨f1, f2, f3⟩ := sx
    obtain ⟨h1, h2, h3⟩ := sy
    simp only at f1 f2 f3 h1 h2 h3 hbig
    clear hx hy
    have u1 : IntKind.i64.wrap ((g1.length : Int) + g2.length) = g1.length + g2.length := IntWalk.i64_in _ (by omega)
    have u2 : IntKind.i64.wrap ((l1.length : Int) + l2.length) = l1.length + l2.length := IntWalk.i64_in _ (by omega)
    have u3 : IntKind.i64.wrap ((k1.length : Int) + k2.length) = k1.length + k2.length := IntWalk.i64_in _ (by omega)
    simp only [fontVal]
    generalize mk8 n1 = m1
    generalize mk8 n2 = m2
    by_cases v1 : (200 : Int) < g1.length + g2.length
    · clear f1 f2 f3 h1 h2 h3 hbig
      go_enter Try.func5, Try.ntmps5
      go_upto_region 1 with fail
      generalize hw1 : w.alloc _ = w1
      have hb1 : Below w.heap.size w w1 := by rw [← hw1]; exact (Below.refl _ _).alloc (Nat.le_refl _) _
      have t1 : w1.heap[w.heap.size]? = some (.cells #[.string m1, .bool s1, .int .i64 z1, .slice ag g1.length cg, .slice al l1.length cl, .slice ak k1.length ck] 37 (0, 0)) := by rw [← hw1]; exact heap_alloc_new w _
      have hs1 : w1.heap.size = w.heap.size + 1 := by rw [← hw1]; simp
      generalize hw2 : w1.alloc _ = w2
      have hb2 : Below w1.heap.size w1 w2 := by rw [← hw2]; exact (Below.refl _ _).alloc (Nat.le_refl _) _
      have t2 : w2.heap[w1.heap.size]? = some (.cells #[.string m2, .bool s2, .int .i64 z2, .slice bg g2.length dg, .slice bl l2.length dl, .slice bk k2.length dk] 37 (0, 0)) := by rw [← hw2]; exact heap_alloc_new w1 _
      have HB := Lib.hid (hb1.trans (hb2.mono hb1.size))
      have t1' : w2.heap[w.heap.size]? = some (.cells #[.string m1, .bool s1, .int .i64 z1, .slice ag g1.length cg, .slice al l1.length cl, .slice ak k1.length ck] 37 (0, 0)) := by rw [hb2.block _ (by omega)]; exact t1
      rw [hs1] at t2
      obtain ⟨p, hp⟩ : ∃ p, w.heap.size = p := ⟨_, rfl⟩
      obtain ⟨r, hr⟩ : ∃ r, p + 1 = r := ⟨_, rfl⟩
      have HPW : Hid (w.heap.size = p) := hp
      rw [hp] at t1' t2
      rw [hr] at t2
      simp only [hp, hr]
      have hl1 : p < w2.heap.size := (Array.getElem?_eq_some_iff.1 t1').1
      have hl2 : r < w2.heap.size := (Array.getElem?_eq_some_iff.1 t2).1
      have x0 := cell_of (j := 0) t1' rfl
      have y0 := cell_of (j := 0) t2 rfl
      have x1 := cell_of (j := 1) t1' rfl
      have y1 := cell_of (j := 1) t2 rfl
      have x2 := cell_of (j := 2) t1' rfl
      have y2 := cell_of (j := 2) t2 rfl
      have x3 := cell_of (j := 3) t1' rfl
      have y3 := cell_of (j := 3) t2 rfl
      have x4 := cell_of (j := 4) t1' rfl
      have y4 := cell_of (j := 4) t2 rfl
      have x5 := cell_of (j := 5) t1' rfl
      have y5 := cell_of (j := 5) t2 rfl
      clear hw1 hw2 hb1 hb2 t1 t2 t1' hs1 hp hr
      go_wp2_with fail
      refine (HS.out _).mono ?_
      rintro e w3 ⟨rfl, hb3⟩
      have HB3 := Lib.hid (HB.out.trans (hb3.mono HB.out.size))
      clear hb3
      go_wp2_with fail
      go_ret
      exact ⟨rfl, HB3.out⟩
    by_cases v2 : (200 : Int) < l1.length + l2.length
    · clear f1 f2 f3 h1 h2 h3 hbig
      go_enter Try.func5, Try.ntmps5
      go_upto_region 1 with fail
      generalize hw1 : w.alloc _ = w1
      have hb1 : Below w.heap.size w w1 := by rw [← hw1]; exact (Below.refl _ _).alloc (Nat.le_refl _) _
      have t1 : w1.heap[w.heap.size]? = some (.cells #[.string m1, .bool s1, .int .i64 z1, .slice ag g1.length cg, .slice al l1.length cl, .slice ak k1.length ck] 37 (0, 0)) := by rw [← hw1]; exact heap_alloc_new w _
      have hs1 : w1.heap.size = w.heap.size + 1 := by rw [← hw1]; simp
      generalize hw2 : w1.alloc _ = w2
      have hb2 : Below w1.heap.size w1 w2 := by rw [← hw2]; exact (Below.refl _ _).alloc (Nat.le_refl _) _
      have t2 : w2.heap[w1.heap.size]? = some (.cells #[.string m2, .bool s2, .int .i64 z2, .slice bg g2.length dg, .slice bl l2.length dl, .slice bk k2.length dk] 37 (0, 0)) := by rw [← hw2]; exact heap_alloc_new w1 _
      have HB := Lib.hid (hb1.trans (hb2.mono hb1.size))
      have t1' : w2.heap[w.heap.size]? = some (.cells #[.string m1, .bool s1, .int .i64 z1, .slice ag g1.length cg, .slice al l1.length cl, .slice ak k1.length ck] 37 (0, 0)) := by rw [hb2.block _ (by omega)]; exact t1
      rw [hs1] at t2
      obtain ⟨p, hp⟩ : ∃ p, w.heap.size = p := ⟨_, rfl⟩
      obtain ⟨r, hr⟩ : ∃ r, p + 1 = r := ⟨_, rfl⟩
      have HPW : Hid (w.heap.size = p) := hp
      rw [hp] at t1' t2
      rw [hr] at t2
      simp only [hp, hr]
      have hl1 : p < w2.heap.size := (Array.getElem?_eq_some_iff.1 t1').1
      have hl2 : r < w2.heap.size := (Array.getElem?_eq_some_iff.1 t2).1
      have x0 := cell_of (j := 0) t1' rfl
      have y0 := cell_of (j := 0) t2 rfl
      have x1 := cell_of (j := 1) t1' rfl
      have y1 := cell_of (j := 1) t2 rfl
      have x2 := cell_of (j := 2) t1' rfl
      have y2 := cell_of (j := 2) t2 rfl
      have x3 := cell_of (j := 3) t1' rfl
      have y3 := cell_of (j := 3) t2 rfl
      have x4 := cell_of (j := 4) t1' rfl
      have y4 := cell_of (j := 4) t2 rfl
      have x5 := cell_of (j := 5) t1' rfl
      have y5 := cell_of (j := 5) t2 rfl
      clear hw1 hw2 hb1 hb2 t1 t2 t1' hs1 hp hr
      go_wp2_with fail
      refine (HS.out _).mono ?_
      rintro e w3 ⟨rfl, hb3⟩
      have HB3 := Lib.hid (HB.out.trans (hb3.mono HB.out.size))
      clear hb3
      go_wp2_with fail
      go_ret
      exact ⟨rfl, HB3.out⟩
    have v3 : (200 : Int) < k1.length + k2.length := by omega
    clear f1 f2 f3 h1 h2 h3 hbig
    go_enter Try.func5, Try.ntmps5
    go_upto_region 1 with fail
    generalize hw1 : w.alloc _ = w1
    have hb1 : Below w.heap.size w w1 := by rw [← hw1]; exact (Below.refl _ _).alloc (Nat.le_refl _) _
    have t1 : w1.heap[w.heap.size]? = some (.cells #[.string m1, .bool s1, .int .i64 z1, .slice ag g1.length cg, .slice al l1.length cl, .slice ak k1.length ck] 37 (0, 0)) := by rw [← hw1]; exact heap_alloc_new w _
    have hs1 : w1.heap.size = w.heap.size + 1 := by rw [← hw1]; simp
    generalize hw2 : w1.alloc _ = w2
    have hb2 : Below w1.heap.size w1 w2 := by rw [← hw2]; exact (Below.refl _ _).alloc (Nat.le_refl _) _
    have t2 : w2.heap[w1.heap.size]? = some (.cells #[.string m2, .bool s2, .int .i64 z2, .slice bg g2.length dg, .slice bl l2.length dl, .slice bk k2.length dk] 37 (0, 0)) := by rw [← hw2]; exact heap_alloc_new w1 _
    have HB := Lib.hid (hb1.trans (hb2.mono hb1.size))
    have t1' : w2.heap[w.heap.size]? = some (.cells #[.string m1, .bool s1, .int .i64 z1, .slice ag g1.length cg, .slice al l1.length cl, .slice ak k1.length ck] 37 (0, 0)) := by rw [hb2.block _ (by omega)]; exact t1
    rw [hs1] at t2
    obtain ⟨p, hp⟩ : ∃ p, w.heap.size = p := ⟨_, rfl⟩
    obtain ⟨r, hr⟩ : ∃ r, p + 1 = r := ⟨_, rfl⟩
    have HPW : Hid (w.heap.size = p) := hp
    rw [hp] at t1' t2
    rw [hr] at t2
    simp only [hp, hr]
    have hl1 : p < w2.heap.size := (Array.getElem?_eq_some_iff.1 t1').1
    have hl2 : r < w2.heap.size := (Array.getElem?_eq_some_iff.1 t2).1
    have x0 := cell_of (j := 0) t1' rfl
    have y0 := cell_of (j := 0) t2 rfl
    have x1 := cell_of (j := 1) t1' rfl
    have y1 := cell_of (j := 1) t2 rfl
    have x2 := cell_of (j := 2) t1' rfl
    have y2 := cell_of (j := 2) t2 rfl
    have x3 := cell_of (j := 3) t1' rfl
    have y3 := cell_of (j := 3) t2 rfl
    have x4 := cell_of (j := 4) t1' rfl
    have y4 := cell_of (j := 4) t2 rfl
    have x5 := cell_of (j := 5) t1' rfl
    have y5 := cell_of (j := 5) t2 rfl
    clear hw1 hw2 hb1 hb2 t1 t2 t1' hs1 hp hr
    go_wp2_with fail
    refine (HS.out _).mono ?_
    rintro e w3 ⟨rfl, hb3⟩
    have HB3 := Lib.hid (HB.out.trans (hb3.mono HB.out.size))
    clear hb3
    go_wp2_with fail
    go_ret
    exact ⟨rfl, HB3.out⟩
end Go.Proofs.Ytboophfcakdlcaa
