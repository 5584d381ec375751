/- Names become boxes. -/
import Derived.Test.YtboophfcakdlcaaGlRow
import Derived.Test.YtboophfcakdlcaaFrPut
import Derived.Deep.RegionHeld3
import Derived.Deep.DeepCutAuto
namespace Go.Proofs.Ytboophfcakdlcaa
open Go.RowKit Go.PlainAid Go.Shelf

/-- What placed gives. -/
def PlacedP (l : List FA) (own : Nat) (z : Int) (names : List (List UInt8)) (W : World) (e : Ending) (w : World) : Prop :=
  ∃ vb vm, e = .returned (.tuple #[vb, vm]) ∧ OwnB W.heap.size vb (placeL l own z names).1 w ∧ OwnS W.heap.size vm (placeL l own z names).2 w ∧ Below W.heap.size W w
set_option maxRecDepth 100000 in
set_option maxHeartbeats 8000000 in
theorem placed_any (ao : Option Addr) (l : List FA) (c : Nat) (own : Nat) (z : Int) (lg kn : Bool) (an : Option Addr) (names : List (List UInt8)) (cn : Nat) (W : World) (h : Fonts ao l W) (hv : ∀ x ∈ l, validB x.F = true) (ho : own < l.length) (hz : sizeB z = true) (hn : RowK encS 1 an names W) (hnl : names.length ≤ 2000) :
    Calls Try.prog 55 #[.slice ao l.length c, .agg #[.int .i64 own, .int .i64 z, .bool lg, .bool kn], .slice an names.length cn] W (PlacedP l own z names W) := by
  have HF := Lib.hid h
  have HV := Lib.hid hv
  have HZ := Lib.hid hz
  have HN := Lib.hid hn
  have HO := Lib.hid ho
  have hfew := h.few
  unfold PlacedP
  clear h hv hz hn ho
  go_enter Try.func55, Try.ntmps55
  go_upto_region 1 with fail
  generalize hw1 : W.alloc _ = w1
  have hb1 : Below W.heap.size W w1 := by rw [← hw1]; exact (Below.refl _ _).alloc (Nat.le_refl _) _
  have t1 : w1.heap[W.heap.size]? = some (.cells #[.int .i64 own, .int .i64 z, .bool lg, .bool kn] 52 (0, 0)) := by rw [← hw1]; exact heap_alloc_new W _
  have hpl := (Array.getElem?_eq_some_iff.1 t1).1
  obtain ⟨p, hp⟩ : ∃ p, W.heap.size = p := ⟨_, rfl⟩
  have HPW : Hid (W.heap.size = p) := hp
  have HB1 := Lib.hid hb1
  rw [hp] at t1 hpl
  rw [hp]
  have HT1 := Lib.hid t1
  clear hw1 hb1 t1 hp
  go_wp2_with fail
  go_loopw [6, 7, 14] (fun u v i wr => ∃ k : Nat, k ≤ names.length ∧ i = .int .i64 k ∧ Hid (OwnB w1.heap.size u (placeL l own z (names.take k)).1 wr) ∧ Hid (OwnS w1.heap.size v (placeL l own z (names.take k)).2 wr) ∧ Hid (Apart2 u v) ∧ Hid (Below w1.heap.size w1 wr)) (fun _ _ i _ => names.length - (intOf i).toNat)
  case atStart => exact ⟨0, by omega, rfl, World.ownsRow_nil _ _ _ _, World.ownsRow_nil _ _ _ _, fun k hk => (by cases hk), Below.refl _ _⟩
  case round =>
    obtain ⟨k, hk, rfl, hob, hom, hap, hbl⟩ := hrel
    by_cases hlt : k < names.length
    · have HLT := Lib.hid hlt
      have HBW := Lib.hid (HB1.out.trans (hbl.out.mono HB1.out.size))
      obtain ⟨b2, o2, ha2, hc2⟩ := HN.out.below HBW.out
      obtain ⟨rfl, hl2⟩ := ha2 (by omega)
      have HS := Lib.hid (place_succ l own z names hlt)
      have hnm := hc2 k hlt 0 _ rfl
      rw [Nat.mul_one, Nat.add_zero] at hnm
      obtain ⟨nm, hnme⟩ : ∃ nm, names[k]! = nm := ⟨_, rfl⟩
      rw [hnme] at HS hnm
      have s0 := (hbl.out.cell (p := ⟨p, 0, none⟩) hpl).trans (cell_of HT1.out rfl)
      have s1 := (hbl.out.cell (p := ⟨p, 1, none⟩) hpl).trans (cell_of HT1.out rfl)
      have hpw : p < wr.heap.size := Nat.lt_of_lt_of_le hpl hbl.out.size
      have hz1 : (k : Int) < names.length := by omega
      have hz0 : (0 : Int) ≤ k := by omega
      have hlen := place_len l own z (names.take k) ([], [])
      have hlen2 : (placeL l own z (names.take k)).1.length + (placeL l own z (names.take k)).2.length ≤ 2000 := by
        have : (names.take k).length ≤ names.length := by rw [List.length_take]; omega
        unfold placeL
        rw [hlen]
        simp only [List.length_nil]
        omega
      have HFw := Lib.hid (HF.out.below HBW.out)
      have HHm : Hid (∀ W', Below wr.heap.size wr W' → Calls Try.prog 85 #[.slice ao l.length c, .int .i64 own, .string (mk8 nm)] W' (Makes (.int .i64 (homeL l own nm)) W')) := fun W' hb => home_any ao l c own nm W' (HFw.out.below hb) HO.out
      obtain ⟨BS, hBS⟩ : ∃ B, (placeL l own z (names.take k)).1 = B := ⟨_, rfl⟩
      obtain ⟨MS, hMS⟩ : ∃ M, (placeL l own z (names.take k)).2 = M := ⟨_, rfl⟩
      have hPr : placeL l own z (names.take k) = (BS, MS) := by rw [← hBS, ← hMS]
      rw [hPr] at HS
      rw [hBS] at hob hlen2
      rw [hMS] at hom hlen2
      clear hlen hBS hMS hPr hlt hc2 ha2 hnme
      obtain ⟨sn, hsn⟩ : ∃ s, mk8 nm = s := ⟨_, rfl⟩
      have HSN := Lib.hid hsn
      rw [hsn] at hnm
      simp only [hsn] at HHm
      clear hsn
      obtain ⟨Nw, hNw⟩ : ∃ N, wr.heap.size = N := ⟨_, rfl⟩
      obtain hw | ⟨h, hhl, hw, hhas⟩ := home_ways l own nm HO.out
      · have HSt : Hid (placeL l own z (names.take (k + 1)) = (BS, MS ++ [nm])) := by
          show _ = _
          rw [HS.out]
          unfold stepP
          rw [hw, if_pos (by omega)]
        have HSz : Hid (∀ W', Below wr.heap.size wr W' → Calls Try.prog 58 #[.agg #[.int .i64 0, .int .i64 0, .int .i64 (-1), .int .i64 0, .string sn, .string ⟨#[]⟩, .slice none 0 0], .slice ao l.length c, .int .i64 z] W' (Makes (.tuple #[.agg #[.int .i64 0, .int .i64 0, .int .i64 0, .int .i64 0, .string ⟨#[]⟩, .string ⟨#[]⟩, .slice none 0 0], .int .i64 1]) W')) := fun W' hb => sized_out 0 (-1) 0 z sn ⟨#[]⟩ none 0 0 ao l.length c W' (by omega)
        rw [hw] at HHm
        clear hw HS
        simp only [hNw] at HHm HSz hpw
        have HNW := Lib.hid hNw
        clear hNw
        go_upto_region 4 with fail
        go_cut [10, 11] (fun s10 s11 wx => ∃ q : Nat, s10 = .pointer (some ⟨q, 0, none⟩) ∧ s11 = .int .i64 1 ∧ Hid (Below Nw wr wx))
        case first =>
          refine wp_region_held_drew (S := fun w' => Below Nw wr w') (by kernel_rfl) ?_ (fun hHeld => ?_)
          · exact (by rw [← HNW.out]; exact (Below.refl _ _).drew)
          refine' wpAnyH_take (i := 0) (oi := _) (v := _) ?hi1 (by kernel_rfl) (by kernel_rfl) (by kernel_rfl) ?hQ1 (Or.inl ⟨?hw1, ?hy1⟩) hHeld ?rest1
          case hi1 => simp only [List.getElem?_toArray, List.getElem?_cons_zero]; rfl
          case hQ1 => exact fun _ _ _ h => h
          case hw1 => rfl
          case hy1 =>
            intro w hSw
            try dsimp only at hSw
            go_simp
            all_goals with_reducible rfl
          try simp only [Act.put, List.setIfInBounds_toArray, List.set_cons_zero, List.set_cons_succ]
          refine' wpAnyH_take (i := 1) (oi := _) (v := _) ?hi2 (by kernel_rfl) (by kernel_rfl) (by kernel_rfl) ?hQ2 (Or.inl ⟨?hw2, ?hy2⟩) hHeld ?rest2
          case hi2 => simp only [List.getElem?_toArray, List.getElem?_cons_succ, List.getElem?_cons_zero]; rfl
          case hQ2 => exact fun _ _ _ h => h
          case hw2 => rfl
          case hy2 =>
            intro w hSw
            try dsimp only at hSw
            go_simp
            all_goals with_reducible rfl
          try simp only [Act.put, List.setIfInBounds_toArray, List.set_cons_zero, List.set_cons_succ]
          refine' wpAnyH_take (i := 2) (oi := _) (v := _) ?hi3 (by kernel_rfl) (by kernel_rfl) (by kernel_rfl) ?hQ3 (Or.inl ⟨?hw3, ?hy3⟩) hHeld ?rest3
          case hi3 => simp only [List.getElem?_toArray, List.getElem?_cons_succ, List.getElem?_cons_zero]; rfl
          case hQ3 => exact fun _ _ _ h => h
          case hw3 => rfl
          case hy3 =>
            intro w hSw
            try dsimp only at hSw
            have s0' := (hSw.cell (p := ⟨p, 0, none⟩) hpw).trans s0
            clear hSw
            go_simp
            all_goals with_reducible rfl
          try simp only [Act.put, List.setIfInBounds_toArray, List.set_cons_zero, List.set_cons_succ]
          refine' wpAnyH_take (i := 3) (oi := _) (v := _) ?hi4 (by kernel_rfl) (by kernel_rfl) (by kernel_rfl) ?hQ4 (Or.inl ⟨?hw4, ?hy4⟩) hHeld ?rest4
          case hi4 => simp only [List.getElem?_toArray, List.getElem?_cons_succ, List.getElem?_cons_zero]; rfl
          case hQ4 => exact fun _ _ _ h => h
          case hw4 => rfl
          case hy4 =>
            intro w hSw
            try dsimp only at hSw
            go_simp
            all_goals with_reducible rfl
          try simp only [Act.put, List.setIfInBounds_toArray, List.set_cons_zero, List.set_cons_succ]
          refine' wpAnyH_take (i := 5) (oi := _) (v := _) ?hi5 (by kernel_rfl) (by kernel_rfl) (by kernel_rfl) ?hQ5 (Or.inl ⟨?hw5, ?hy5⟩) hHeld ?rest5
          case hi5 => simp only [List.getElem?_toArray, List.getElem?_cons_succ, List.getElem?_cons_zero]; rfl
          case hQ5 => exact fun _ _ _ h => h
          case hw5 => rfl
          case hy5 =>
            intro w hSw
            try dsimp only at hSw
            go_simp
            all_goals with_reducible rfl
          try simp only [Act.put, List.setIfInBounds_toArray, List.set_cons_zero, List.set_cons_succ]
          refine' wpAnyH_take (i := 7) (oi := _) (v := _) ?hi6 (by kernel_rfl) (by kernel_rfl) (by kernel_rfl) ?hQ6 (Or.inl ⟨?hw6, ?hy6⟩) hHeld ?rest6
          case hi6 => simp only [List.getElem?_toArray, List.getElem?_cons_succ, List.getElem?_cons_zero]; rfl
          case hQ6 => exact fun _ _ _ h => h
          case hw6 => rfl
          case hy6 =>
            intro w hSw
            try dsimp only at hSw
            go_simp
            all_goals with_reducible rfl
          try simp only [Act.put, List.setIfInBounds_toArray, List.set_cons_zero, List.set_cons_succ]
          refine' wpAnyH_take (i := 8) (oi := _) (v := _) ?hi7 (by kernel_rfl) (by kernel_rfl) (by kernel_rfl) ?hQ7 (Or.inl ⟨?hw7, ?hy7⟩) hHeld ?rest7
          case hi7 => simp only [List.getElem?_toArray, List.getElem?_cons_succ, List.getElem?_cons_zero]; rfl
          case hQ7 => exact fun _ _ _ h => h
          case hw7 => rfl
          case hy7 =>
            intro w hSw
            try dsimp only at hSw
            go_simp
            all_goals with_reducible rfl
          try simp only [Act.put, List.setIfInBounds_toArray, List.set_cons_zero, List.set_cons_succ]
          refine' wpAnyH_take (i := 9) (oi := _) (v := _) ?hi8 (by kernel_rfl) (by kernel_rfl) (by kernel_rfl) ?hQ8 (Or.inl ⟨?hw8, ?hy8⟩) hHeld ?rest8
          case hi8 => simp only [List.getElem?_toArray, List.getElem?_cons_succ, List.getElem?_cons_zero]; rfl
          case hQ8 => exact fun _ _ _ h => h
          case hw8 => rfl
          case hy8 =>
            intro w hSw
            try dsimp only at hSw
            have s1' := (hSw.cell (p := ⟨p, 1, none⟩) hpw).trans s1
            clear hSw
            go_simp
            all_goals with_reducible rfl
          try simp only [Act.put, List.setIfInBounds_toArray, List.set_cons_zero, List.set_cons_succ]
          refine wpAnyH_ready (rs := [4, 14]) (by kernel_rfl) (by simp) ?_
          refine' AllReadyH.cons (o := _) ?ha38 (fun K hK => ?sa38) ?ma38
          case ha38 => simp only [List.getElem?_toArray, List.getElem?_cons_succ, List.getElem?_cons_zero]; rfl
          case sa38 =>
            go_simp
            go_at_call 85
            refine (HHm.out _ hHeld).mono ?_
            rintro e v1 ⟨rfl, hb⟩
            have hbk := hHeld.trans (hb.mono (by have := hHeld.size; have := HNW.out; omega))
            clear hb
            go_wp2_with fail
            refine hK.out _ _ ?_ (fun hHeld => ?_)
            · exact hbk
            clear hK K
            try simp only [Act.put, List.setIfInBounds_toArray, List.set_cons_zero, List.set_cons_succ]
            clear hbk
            refine' wpAnyH_take (i := 6) (oi := _) (v := _) ?hi9 (by kernel_rfl) (by kernel_rfl) (by kernel_rfl) ?hQ9 (Or.inl ⟨?hw9, ?hy9⟩) hHeld ?rest9
            case hi9 => simp only [List.getElem?_toArray, List.getElem?_cons_succ, List.getElem?_cons_zero]; rfl
            case hQ9 => exact fun _ _ _ h => h
            case hw9 => rfl
            case hy9 =>
              intro w hSw
              try dsimp only at hSw
              go_simp
              all_goals with_reducible rfl
            try simp only [Act.put, List.setIfInBounds_toArray, List.set_cons_zero, List.set_cons_succ]
            refine wpAnyH_ready (rs := [10, 14]) (by kernel_rfl) (by simp) ?_
            refine' AllReadyH.cons (o := _) ?ha25 (fun K hK => ?sa25) ?ma25
            case ha25 => simp only [List.getElem?_toArray, List.getElem?_cons_succ, List.getElem?_cons_zero]; rfl
            case sa25 =>
              go_simp
              go_at_call 58
              refine (HSz.out _ hHeld).mono ?_
              rintro e v2 ⟨rfl, hb⟩
              have hbk := hHeld.trans (hb.mono (by have := hHeld.size; have := HNW.out; omega))
              clear hb
              go_wp2_with fail
              refine hK.out _ _ ?_ (fun hHeld => ?_)
              · exact hbk
              clear hK K
              try simp only [Act.put, List.setIfInBounds_toArray, List.set_cons_zero, List.set_cons_succ]
              clear hbk
              refine' wpAnyH_take (i := 11) (oi := _) (v := _) ?hi10 (by kernel_rfl) (by kernel_rfl) (by kernel_rfl) ?hQ10 (Or.inl ⟨?hw10, ?hy10⟩) hHeld ?rest10
              case hi10 => simp only [List.getElem?_toArray, List.getElem?_cons_succ, List.getElem?_cons_zero]; rfl
              case hQ10 => exact fun _ _ _ h => h
              case hw10 => rfl
              case hy10 =>
                intro w hSw
                try dsimp only at hSw
                go_simp
                all_goals with_reducible rfl
              try simp only [Act.put, List.setIfInBounds_toArray, List.set_cons_zero, List.set_cons_succ]
              refine' wpAnyH_take (i := 12) (oi := _) (v := _) ?hi11 (by kernel_rfl) (by kernel_rfl) (by kernel_rfl) ?hQ11 (Or.inl ⟨?hw11, ?hy11⟩) hHeld ?rest11
              case hi11 => simp only [List.getElem?_toArray, List.getElem?_cons_succ, List.getElem?_cons_zero]; rfl
              case hQ11 => exact fun _ _ _ h => h
              case hw11 => rfl
              case hy11 =>
                intro w hSw
                try dsimp only at hSw
                go_simp
                all_goals with_reducible rfl
              try simp only [Act.put, List.setIfInBounds_toArray, List.set_cons_zero, List.set_cons_succ]
              refine' wpAnyH_take (i := 13) (oi := _) (v := _) ?hi12 (by kernel_rfl) (by kernel_rfl) (by kernel_rfl) ?hQ12 (Or.inl ⟨?hw12, ?hy12⟩) hHeld ?rest12
              case hi12 => simp only [List.getElem?_toArray, List.getElem?_cons_succ, List.getElem?_cons_zero]; rfl
              case hQ12 => exact fun _ _ _ h => h
              case hw12 => rfl
              case hy12 =>
                intro w hSw
                try dsimp only at hSw
                go_simp
                all_goals with_reducible rfl
              try simp only [Act.put, List.setIfInBounds_toArray, List.set_cons_zero, List.set_cons_succ]
              refine wpAnyH_ready (rs := [14]) (by kernel_rfl) (by simp) ?_
              refine' AllReadyH.cons (o := _) ?ha16 (fun K hK => ?sa16) ?ma16
              case ha16 => simp only [List.getElem?_toArray, List.getElem?_cons_succ, List.getElem?_cons_zero]; rfl
              case sa16 =>
                have hHeld0 := hHeld
                go_simp
                refine hK.out _ _ ?_ (fun hHeld => ?_)
                · exact hHeld.alloc (by have := hHeld.size; have := HNW.out; omega) _
                clear hK K
                try simp only [Act.put, List.setIfInBounds_toArray, List.set_cons_zero, List.set_cons_succ]
                have hqw : Nw ≤ v2.heap.size := by rw [← HNW.out]; exact hHeld0.size
                obtain ⟨q, hq⟩ : ∃ q, v2.heap.size = q := ⟨_, rfl⟩
                have tq : (v2.alloc (.cells #[.int .i64 0, .int .i64 0, .int .i64 0, .int .i64 0, .string ⟨#[]⟩, .string ⟨#[]⟩, .slice none 0 0] 70)).heap[q]? = some (.cells #[.int .i64 0, .int .i64 0, .int .i64 0, .int .i64 0, .string ⟨#[]⟩, .string ⟨#[]⟩, .slice none 0 0] 70 (0, 0)) := by rw [← hq]; exact heap_alloc_new v2 _
                rw [hq] at hqw
                rw [hq]
                clear hq hHeld0
                generalize (v2.alloc (.cells #[.int .i64 0, .int .i64 0, .int .i64 0, .int .i64 0, .string ⟨#[]⟩, .string ⟨#[]⟩, .slice none 0 0] 70)) = v3 at tq hHeld ⊢
                have hcur := hHeld
                have e0 := cell_of (j := 0) tq rfl
                have d0 := frozen_of (j := 0) tq
                have e1 := cell_of (j := 1) tq rfl
                have d1 := frozen_of (j := 1) tq
                have e2 := cell_of (j := 2) tq rfl
                have d2 := frozen_of (j := 2) tq
                have e3 := cell_of (j := 3) tq rfl
                have d3 := frozen_of (j := 3) tq
                have e4 := cell_of (j := 4) tq rfl
                have d4 := frozen_of (j := 4) tq
                have e5 := cell_of (j := 5) tq rfl
                have d5 := frozen_of (j := 5) tq
                have e6 := cell_of (j := 6) tq rfl
                have d6 := frozen_of (j := 6) tq
                refine wpAnyH_ready (rs := [15]) (by kernel_rfl) (by simp) ?_
                refine' AllReadyH.cons (o := _) ?ha14 (fun K hK => ?sa14) ?ma14
                case ha14 => simp only [List.getElem?_toArray, List.getElem?_cons_succ, List.getElem?_cons_zero]; rfl
                case ma14 => exact AllReadyH.nil
                case sa14 =>
                  go_simp
                  refine hK.out _ _ ?_ (fun hHeld => ?_)
                  · exact (below_setA (below_setA (below_setA (below_setA (below_setA (below_setA (below_setA hHeld hqw) hqw) hqw) hqw) hqw) hqw) hqw)
                  clear hK K
                  try simp only [Act.put, List.setIfInBounds_toArray, List.set_cons_zero, List.set_cons_succ]
                  refine' wpAnyH_take (i := 16) (oi := _) (v := _) ?hi13 (by kernel_rfl) (by kernel_rfl) (by kernel_rfl) ?hQ13 (Or.inl ⟨?hw13, ?hy13⟩) hHeld ?rest13
                  case hi13 => simp only [List.getElem?_toArray, List.getElem?_cons_succ, List.getElem?_cons_zero]; rfl
                  case hQ13 => exact fun _ _ _ h => h
                  case hw13 => rfl
                  case hy13 =>
                    intro w hSw
                    try dsimp only at hSw
                    go_simp
                    all_goals with_reducible rfl
                  try simp only [Act.put, List.setIfInBounds_toArray, List.set_cons_zero, List.set_cons_succ]
                  refine wpAnyH_done (by kernel_rfl) ?_ _
                  have HZ : (((((((v3.setCell ⟨q, 0, none⟩ (.int .i64 0)).setCell ⟨q, 1, none⟩ (.int .i64 0)).setCell ⟨q, 2, none⟩ (.int .i64 0)).setCell ⟨q, 3, none⟩ (.int .i64 0)).setCell ⟨q, 4, none⟩ (.string ⟨#[]⟩)).setCell ⟨q, 5, none⟩ (.string ⟨#[]⟩)).setCell ⟨q, 6, none⟩ (.slice none 0 0)).heap[q]? = some (.cells #[.int .i64 0, .int .i64 0, .int .i64 0, .int .i64 0, .string ⟨#[]⟩, .string ⟨#[]⟩, .slice none 0 0] 70 (0, 0)) := by
                    have q0 := heap_setCell_c tq 0 (.int .i64 0)
                    have q1 := heap_setCell_c q0 1 (.int .i64 0)
                    have q2 := heap_setCell_c q1 2 (.int .i64 0)
                    have q3 := heap_setCell_c q2 3 (.int .i64 0)
                    have q4 := heap_setCell_c q3 4 (.string ⟨#[]⟩)
                    have q5 := heap_setCell_c q4 5 (.string ⟨#[]⟩)
                    have q6 := heap_setCell_c q5 6 (.slice none 0 0)
                    simpa using q6
                  have HBZ : Below Nw wr (((((((v3.setCell ⟨q, 0, none⟩ (.int .i64 0)).setCell ⟨q, 1, none⟩ (.int .i64 0)).setCell ⟨q, 2, none⟩ (.int .i64 0)).setCell ⟨q, 3, none⟩ (.int .i64 0)).setCell ⟨q, 4, none⟩ (.string ⟨#[]⟩)).setCell ⟨q, 5, none⟩ (.string ⟨#[]⟩)).setCell ⟨q, 6, none⟩ (.slice none 0 0)) := (below_setA (below_setA (below_setA (below_setA (below_setA (below_setA (below_setA hcur hqw) hqw) hqw) hqw) hqw) hqw) hqw)
                  clear hHeld e0 e1 e2 e3 e4 e5 e6 d0 d1 d2 d3 d4 d5 d6 tq
                  go_wp2_with fail
                  go_meet
                  case rel => exact ⟨q, rfl, rfl, HBZ⟩
              case ma16 =>
                exact AllReadyH.nil
            case ma25 =>
              refine' AllReadyH.cons (o := _) ?ha26 (fun K hK => ?sa26) ?ma26
              case ha26 => simp only [List.getElem?_toArray, List.getElem?_cons_succ, List.getElem?_cons_zero]; rfl
              case sa26 =>
                have hHeld0 := hHeld
                go_simp
                refine hK.out _ _ ?_ (fun hHeld => ?_)
                · exact hHeld.alloc (by have := hHeld.size; have := HNW.out; omega) _
                clear hK K
                try simp only [Act.put, List.setIfInBounds_toArray, List.set_cons_zero, List.set_cons_succ]
                have hqw : Nw ≤ v1.heap.size := by rw [← HNW.out]; exact hHeld0.size
                obtain ⟨q, hq⟩ : ∃ q, v1.heap.size = q := ⟨_, rfl⟩
                have tq : (v1.alloc (.cells #[.int .i64 0, .int .i64 0, .int .i64 0, .int .i64 0, .string ⟨#[]⟩, .string ⟨#[]⟩, .slice none 0 0] 70)).heap[q]? = some (.cells #[.int .i64 0, .int .i64 0, .int .i64 0, .int .i64 0, .string ⟨#[]⟩, .string ⟨#[]⟩, .slice none 0 0] 70 (0, 0)) := by rw [← hq]; exact heap_alloc_new v1 _
                rw [hq] at hqw
                rw [hq]
                clear hq hHeld0
                generalize (v1.alloc (.cells #[.int .i64 0, .int .i64 0, .int .i64 0, .int .i64 0, .string ⟨#[]⟩, .string ⟨#[]⟩, .slice none 0 0] 70)) = v4 at tq hHeld ⊢
                refine wpAnyH_ready (rs := [10]) (by kernel_rfl) (by simp) ?_
                refine' AllReadyH.cons (o := _) ?ha23 (fun K hK => ?sa23) ?ma23
                case ha23 => simp only [List.getElem?_toArray, List.getElem?_cons_succ, List.getElem?_cons_zero]; rfl
                case sa23 =>
                  go_simp
                  go_at_call 58
                  refine (HSz.out _ hHeld).mono ?_
                  rintro e v5 ⟨rfl, hb⟩
                  have hbk := hHeld.trans (hb.mono (by have := hHeld.size; have := HNW.out; omega))
                  have tq' : v5.heap[q]? = some (.cells #[.int .i64 0, .int .i64 0, .int .i64 0, .int .i64 0, .string ⟨#[]⟩, .string ⟨#[]⟩, .slice none 0 0] 70 (0, 0)) := by rw [hb.block q (Array.getElem?_eq_some_iff.1 tq).1]; exact tq
                  clear tq
                  have tq := tq'
                  clear tq'
                  clear hb
                  go_wp2_with fail
                  refine hK.out _ _ ?_ (fun hHeld => ?_)
                  · exact hbk
                  clear hK K
                  try simp only [Act.put, List.setIfInBounds_toArray, List.set_cons_zero, List.set_cons_succ]
                  clear hbk
                  refine' wpAnyH_take (i := 11) (oi := _) (v := _) ?hi17 (by kernel_rfl) (by kernel_rfl) (by kernel_rfl) ?hQ17 (Or.inl ⟨?hw17, ?hy17⟩) hHeld ?rest17
                  case hi17 => simp only [List.getElem?_toArray, List.getElem?_cons_succ, List.getElem?_cons_zero]; rfl
                  case hQ17 => exact fun _ _ _ h => h
                  case hw17 => rfl
                  case hy17 =>
                    intro w hSw
                    try dsimp only at hSw
                    go_simp
                    all_goals with_reducible rfl
                  try simp only [Act.put, List.setIfInBounds_toArray, List.set_cons_zero, List.set_cons_succ]
                  refine' wpAnyH_take (i := 12) (oi := _) (v := _) ?hi18 (by kernel_rfl) (by kernel_rfl) (by kernel_rfl) ?hQ18 (Or.inl ⟨?hw18, ?hy18⟩) hHeld ?rest18
                  case hi18 => simp only [List.getElem?_toArray, List.getElem?_cons_succ, List.getElem?_cons_zero]; rfl
                  case hQ18 => exact fun _ _ _ h => h
                  case hw18 => rfl
                  case hy18 =>
                    intro w hSw
                    try dsimp only at hSw
                    go_simp
                    all_goals with_reducible rfl
                  try simp only [Act.put, List.setIfInBounds_toArray, List.set_cons_zero, List.set_cons_succ]
                  refine' wpAnyH_take (i := 13) (oi := _) (v := _) ?hi19 (by kernel_rfl) (by kernel_rfl) (by kernel_rfl) ?hQ19 (Or.inl ⟨?hw19, ?hy19⟩) hHeld ?rest19
                  case hi19 => simp only [List.getElem?_toArray, List.getElem?_cons_succ, List.getElem?_cons_zero]; rfl
                  case hQ19 => exact fun _ _ _ h => h
                  case hw19 => rfl
                  case hy19 =>
                    intro w hSw
                    try dsimp only at hSw
                    go_simp
                    all_goals with_reducible rfl
                  try simp only [Act.put, List.setIfInBounds_toArray, List.set_cons_zero, List.set_cons_succ]
                  have hcur := hHeld
                  have e0 := cell_of (j := 0) tq rfl
                  have d0 := frozen_of (j := 0) tq
                  have e1 := cell_of (j := 1) tq rfl
                  have d1 := frozen_of (j := 1) tq
                  have e2 := cell_of (j := 2) tq rfl
                  have d2 := frozen_of (j := 2) tq
                  have e3 := cell_of (j := 3) tq rfl
                  have d3 := frozen_of (j := 3) tq
                  have e4 := cell_of (j := 4) tq rfl
                  have d4 := frozen_of (j := 4) tq
                  have e5 := cell_of (j := 5) tq rfl
                  have d5 := frozen_of (j := 5) tq
                  have e6 := cell_of (j := 6) tq rfl
                  have d6 := frozen_of (j := 6) tq
                  refine wpAnyH_ready (rs := [15]) (by kernel_rfl) (by simp) ?_
                  refine' AllReadyH.cons (o := _) ?ha21 (fun K hK => ?sa21) ?ma21
                  case ha21 => simp only [List.getElem?_toArray, List.getElem?_cons_succ, List.getElem?_cons_zero]; rfl
                  case ma21 => exact AllReadyH.nil
                  case sa21 =>
                    go_simp
                    refine hK.out _ _ ?_ (fun hHeld => ?_)
                    · exact (below_setA (below_setA (below_setA (below_setA (below_setA (below_setA (below_setA hHeld hqw) hqw) hqw) hqw) hqw) hqw) hqw)
                    clear hK K
                    try simp only [Act.put, List.setIfInBounds_toArray, List.set_cons_zero, List.set_cons_succ]
                    refine' wpAnyH_take (i := 16) (oi := _) (v := _) ?hi20 (by kernel_rfl) (by kernel_rfl) (by kernel_rfl) ?hQ20 (Or.inl ⟨?hw20, ?hy20⟩) hHeld ?rest20
                    case hi20 => simp only [List.getElem?_toArray, List.getElem?_cons_succ, List.getElem?_cons_zero]; rfl
                    case hQ20 => exact fun _ _ _ h => h
                    case hw20 => rfl
                    case hy20 =>
                      intro w hSw
                      try dsimp only at hSw
                      go_simp
                      all_goals with_reducible rfl
                    try simp only [Act.put, List.setIfInBounds_toArray, List.set_cons_zero, List.set_cons_succ]
                    refine wpAnyH_done (by kernel_rfl) ?_ _
                    have HZ : (((((((v5.setCell ⟨q, 0, none⟩ (.int .i64 0)).setCell ⟨q, 1, none⟩ (.int .i64 0)).setCell ⟨q, 2, none⟩ (.int .i64 0)).setCell ⟨q, 3, none⟩ (.int .i64 0)).setCell ⟨q, 4, none⟩ (.string ⟨#[]⟩)).setCell ⟨q, 5, none⟩ (.string ⟨#[]⟩)).setCell ⟨q, 6, none⟩ (.slice none 0 0)).heap[q]? = some (.cells #[.int .i64 0, .int .i64 0, .int .i64 0, .int .i64 0, .string ⟨#[]⟩, .string ⟨#[]⟩, .slice none 0 0] 70 (0, 0)) := by
                      have q0 := heap_setCell_c tq 0 (.int .i64 0)
                      have q1 := heap_setCell_c q0 1 (.int .i64 0)
                      have q2 := heap_setCell_c q1 2 (.int .i64 0)
                      have q3 := heap_setCell_c q2 3 (.int .i64 0)
                      have q4 := heap_setCell_c q3 4 (.string ⟨#[]⟩)
                      have q5 := heap_setCell_c q4 5 (.string ⟨#[]⟩)
                      have q6 := heap_setCell_c q5 6 (.slice none 0 0)
                      simpa using q6
                    have HBZ : Below Nw wr (((((((v5.setCell ⟨q, 0, none⟩ (.int .i64 0)).setCell ⟨q, 1, none⟩ (.int .i64 0)).setCell ⟨q, 2, none⟩ (.int .i64 0)).setCell ⟨q, 3, none⟩ (.int .i64 0)).setCell ⟨q, 4, none⟩ (.string ⟨#[]⟩)).setCell ⟨q, 5, none⟩ (.string ⟨#[]⟩)).setCell ⟨q, 6, none⟩ (.slice none 0 0)) := (below_setA (below_setA (below_setA (below_setA (below_setA (below_setA (below_setA hcur hqw) hqw) hqw) hqw) hqw) hqw) hqw)
                    clear hHeld e0 e1 e2 e3 e4 e5 e6 d0 d1 d2 d3 d4 d5 d6 tq
                    go_wp2_with fail
                    go_meet
                    case rel => exact ⟨q, rfl, rfl, HBZ⟩
                case ma23 =>
                  exact AllReadyH.nil
              case ma26 =>
                exact AllReadyH.nil
          case ma38 =>
            refine' AllReadyH.cons (o := _) ?ha39 (fun K hK => ?sa39) ?ma39
            case ha39 => simp only [List.getElem?_toArray, List.getElem?_cons_succ, List.getElem?_cons_zero]; rfl
            case sa39 =>
              have hHeld0 := hHeld
              go_simp
              refine hK.out _ _ ?_ (fun hHeld => ?_)
              · exact hHeld.alloc (by have := hHeld.size; have := HNW.out; omega) _
              clear hK K
              try simp only [Act.put, List.setIfInBounds_toArray, List.set_cons_zero, List.set_cons_succ]
              have hqw : Nw ≤ wr.heap.size := by rw [← HNW.out]; exact hHeld0.size
              obtain ⟨q, hq⟩ : ∃ q, wr.heap.size = q := ⟨_, rfl⟩
              have tq : (wr.alloc (.cells #[.int .i64 0, .int .i64 0, .int .i64 0, .int .i64 0, .string ⟨#[]⟩, .string ⟨#[]⟩, .slice none 0 0] 70)).drew.heap[q]? = some (.cells #[.int .i64 0, .int .i64 0, .int .i64 0, .int .i64 0, .string ⟨#[]⟩, .string ⟨#[]⟩, .slice none 0 0] 70 (0, 0)) := by rw [← hq]; exact heap_alloc_new wr _
              rw [hq] at hqw
              rw [hq]
              clear hq hHeld0
              generalize (wr.alloc (.cells #[.int .i64 0, .int .i64 0, .int .i64 0, .int .i64 0, .string ⟨#[]⟩, .string ⟨#[]⟩, .slice none 0 0] 70)).drew = v6 at tq hHeld ⊢
              refine wpAnyH_ready (rs := [4]) (by kernel_rfl) (by simp) ?_
              refine' AllReadyH.cons (o := _) ?ha36 (fun K hK => ?sa36) ?ma36
              case ha36 => simp only [List.getElem?_toArray, List.getElem?_cons_succ, List.getElem?_cons_zero]; rfl
              case sa36 =>
                go_simp
                go_at_call 85
                refine (HHm.out _ hHeld).mono ?_
                rintro e v7 ⟨rfl, hb⟩
                have hbk := hHeld.trans (hb.mono (by have := hHeld.size; have := HNW.out; omega))
                have tq' : v7.heap[q]? = some (.cells #[.int .i64 0, .int .i64 0, .int .i64 0, .int .i64 0, .string ⟨#[]⟩, .string ⟨#[]⟩, .slice none 0 0] 70 (0, 0)) := by rw [hb.block q (Array.getElem?_eq_some_iff.1 tq).1]; exact tq
                clear tq
                have tq := tq'
                clear tq'
                clear hb
                go_wp2_with fail
                refine hK.out _ _ ?_ (fun hHeld => ?_)
                · exact hbk
                clear hK K
                try simp only [Act.put, List.setIfInBounds_toArray, List.set_cons_zero, List.set_cons_succ]
                clear hbk
                refine' wpAnyH_take (i := 6) (oi := _) (v := _) ?hi27 (by kernel_rfl) (by kernel_rfl) (by kernel_rfl) ?hQ27 (Or.inl ⟨?hw27, ?hy27⟩) hHeld ?rest27
                case hi27 => simp only [List.getElem?_toArray, List.getElem?_cons_succ, List.getElem?_cons_zero]; rfl
                case hQ27 => exact fun _ _ _ h => h
                case hw27 => rfl
                case hy27 =>
                  intro w hSw
                  try dsimp only at hSw
                  go_simp
                  all_goals with_reducible rfl
                try simp only [Act.put, List.setIfInBounds_toArray, List.set_cons_zero, List.set_cons_succ]
                refine wpAnyH_ready (rs := [10]) (by kernel_rfl) (by simp) ?_
                refine' AllReadyH.cons (o := _) ?ha34 (fun K hK => ?sa34) ?ma34
                case ha34 => simp only [List.getElem?_toArray, List.getElem?_cons_succ, List.getElem?_cons_zero]; rfl
                case sa34 =>
                  go_simp
                  go_at_call 58
                  refine (HSz.out _ hHeld).mono ?_
                  rintro e v8 ⟨rfl, hb⟩
                  have hbk := hHeld.trans (hb.mono (by have := hHeld.size; have := HNW.out; omega))
                  have tq' : v8.heap[q]? = some (.cells #[.int .i64 0, .int .i64 0, .int .i64 0, .int .i64 0, .string ⟨#[]⟩, .string ⟨#[]⟩, .slice none 0 0] 70 (0, 0)) := by rw [hb.block q (Array.getElem?_eq_some_iff.1 tq).1]; exact tq
                  clear tq
                  have tq := tq'
                  clear tq'
                  clear hb
                  go_wp2_with fail
                  refine hK.out _ _ ?_ (fun hHeld => ?_)
                  · exact hbk
                  clear hK K
                  try simp only [Act.put, List.setIfInBounds_toArray, List.set_cons_zero, List.set_cons_succ]
                  clear hbk
                  refine' wpAnyH_take (i := 11) (oi := _) (v := _) ?hi28 (by kernel_rfl) (by kernel_rfl) (by kernel_rfl) ?hQ28 (Or.inl ⟨?hw28, ?hy28⟩) hHeld ?rest28
                  case hi28 => simp only [List.getElem?_toArray, List.getElem?_cons_succ, List.getElem?_cons_zero]; rfl
                  case hQ28 => exact fun _ _ _ h => h
                  case hw28 => rfl
                  case hy28 =>
                    intro w hSw
                    try dsimp only at hSw
                    go_simp
                    all_goals with_reducible rfl
                  try simp only [Act.put, List.setIfInBounds_toArray, List.set_cons_zero, List.set_cons_succ]
                  refine' wpAnyH_take (i := 12) (oi := _) (v := _) ?hi29 (by kernel_rfl) (by kernel_rfl) (by kernel_rfl) ?hQ29 (Or.inl ⟨?hw29, ?hy29⟩) hHeld ?rest29
                  case hi29 => simp only [List.getElem?_toArray, List.getElem?_cons_succ, List.getElem?_cons_zero]; rfl
                  case hQ29 => exact fun _ _ _ h => h
                  case hw29 => rfl
                  case hy29 =>
                    intro w hSw
                    try dsimp only at hSw
                    go_simp
                    all_goals with_reducible rfl
                  try simp only [Act.put, List.setIfInBounds_toArray, List.set_cons_zero, List.set_cons_succ]
                  refine' wpAnyH_take (i := 13) (oi := _) (v := _) ?hi30 (by kernel_rfl) (by kernel_rfl) (by kernel_rfl) ?hQ30 (Or.inl ⟨?hw30, ?hy30⟩) hHeld ?rest30
                  case hi30 => simp only [List.getElem?_toArray, List.getElem?_cons_succ, List.getElem?_cons_zero]; rfl
                  case hQ30 => exact fun _ _ _ h => h
                  case hw30 => rfl
                  case hy30 =>
                    intro w hSw
                    try dsimp only at hSw
                    go_simp
                    all_goals with_reducible rfl
                  try simp only [Act.put, List.setIfInBounds_toArray, List.set_cons_zero, List.set_cons_succ]
                  have hcur := hHeld
                  have e0 := cell_of (j := 0) tq rfl
                  have d0 := frozen_of (j := 0) tq
                  have e1 := cell_of (j := 1) tq rfl
                  have d1 := frozen_of (j := 1) tq
                  have e2 := cell_of (j := 2) tq rfl
                  have d2 := frozen_of (j := 2) tq
                  have e3 := cell_of (j := 3) tq rfl
                  have d3 := frozen_of (j := 3) tq
                  have e4 := cell_of (j := 4) tq rfl
                  have d4 := frozen_of (j := 4) tq
                  have e5 := cell_of (j := 5) tq rfl
                  have d5 := frozen_of (j := 5) tq
                  have e6 := cell_of (j := 6) tq rfl
                  have d6 := frozen_of (j := 6) tq
                  refine wpAnyH_ready (rs := [15]) (by kernel_rfl) (by simp) ?_
                  refine' AllReadyH.cons (o := _) ?ha32 (fun K hK => ?sa32) ?ma32
                  case ha32 => simp only [List.getElem?_toArray, List.getElem?_cons_succ, List.getElem?_cons_zero]; rfl
                  case ma32 => exact AllReadyH.nil
                  case sa32 =>
                    go_simp
                    refine hK.out _ _ ?_ (fun hHeld => ?_)
                    · exact (below_setA (below_setA (below_setA (below_setA (below_setA (below_setA (below_setA hHeld hqw) hqw) hqw) hqw) hqw) hqw) hqw)
                    clear hK K
                    try simp only [Act.put, List.setIfInBounds_toArray, List.set_cons_zero, List.set_cons_succ]
                    refine' wpAnyH_take (i := 16) (oi := _) (v := _) ?hi31 (by kernel_rfl) (by kernel_rfl) (by kernel_rfl) ?hQ31 (Or.inl ⟨?hw31, ?hy31⟩) hHeld ?rest31
                    case hi31 => simp only [List.getElem?_toArray, List.getElem?_cons_succ, List.getElem?_cons_zero]; rfl
                    case hQ31 => exact fun _ _ _ h => h
                    case hw31 => rfl
                    case hy31 =>
                      intro w hSw
                      try dsimp only at hSw
                      go_simp
                      all_goals with_reducible rfl
                    try simp only [Act.put, List.setIfInBounds_toArray, List.set_cons_zero, List.set_cons_succ]
                    refine wpAnyH_done (by kernel_rfl) ?_ _
                    have HZ : (((((((v8.setCell ⟨q, 0, none⟩ (.int .i64 0)).setCell ⟨q, 1, none⟩ (.int .i64 0)).setCell ⟨q, 2, none⟩ (.int .i64 0)).setCell ⟨q, 3, none⟩ (.int .i64 0)).setCell ⟨q, 4, none⟩ (.string ⟨#[]⟩)).setCell ⟨q, 5, none⟩ (.string ⟨#[]⟩)).setCell ⟨q, 6, none⟩ (.slice none 0 0)).heap[q]? = some (.cells #[.int .i64 0, .int .i64 0, .int .i64 0, .int .i64 0, .string ⟨#[]⟩, .string ⟨#[]⟩, .slice none 0 0] 70 (0, 0)) := by
                      have q0 := heap_setCell_c tq 0 (.int .i64 0)
                      have q1 := heap_setCell_c q0 1 (.int .i64 0)
                      have q2 := heap_setCell_c q1 2 (.int .i64 0)
                      have q3 := heap_setCell_c q2 3 (.int .i64 0)
                      have q4 := heap_setCell_c q3 4 (.string ⟨#[]⟩)
                      have q5 := heap_setCell_c q4 5 (.string ⟨#[]⟩)
                      have q6 := heap_setCell_c q5 6 (.slice none 0 0)
                      simpa using q6
                    have HBZ : Below Nw wr (((((((v8.setCell ⟨q, 0, none⟩ (.int .i64 0)).setCell ⟨q, 1, none⟩ (.int .i64 0)).setCell ⟨q, 2, none⟩ (.int .i64 0)).setCell ⟨q, 3, none⟩ (.int .i64 0)).setCell ⟨q, 4, none⟩ (.string ⟨#[]⟩)).setCell ⟨q, 5, none⟩ (.string ⟨#[]⟩)).setCell ⟨q, 6, none⟩ (.slice none 0 0)) := (below_setA (below_setA (below_setA (below_setA (below_setA (below_setA (below_setA hcur hqw) hqw) hqw) hqw) hqw) hqw) hqw)
                    clear hHeld e0 e1 e2 e3 e4 e5 e6 d0 d1 d2 d3 d4 d5 d6 tq
                    go_wp2_with fail
                    go_meet
                    case rel => exact ⟨q, rfl, rfl, HBZ⟩
                case ma34 =>
                  exact AllReadyH.nil
              case ma36 =>
                exact AllReadyH.nil
            case ma39 =>
              exact AllReadyH.nil
        case rest =>
          obtain ⟨q, rfl, rfl, hbc⟩ := hcut
          rw [← HNW.out] at hbc
          have HBN0 := Lib.hid (hbl.out.trans (hbc.out.mono hbl.out.size))
          have HOB := Lib.hid (owns_below hob.out hbc.out)
          have HOM := Lib.hid (owns_below hom.out hbc.out)
          have hsz := HBN0.out.size
          have hlb : ∀ j, u6.ownBlock = some j → w1.heap.size ≤ j ∧ j < wc.heap.size := fun j hj => HOB.out.lt j hj
          have hlm : ∀ j, u7.ownBlock = some j → w1.heap.size ≤ j ∧ j < wc.heap.size := fun j hj => HOM.out.lt j hj
          clear hob hom hbl hbc s0 s1 hpw hnm HHm HSz
          go_wp2_with (at_builtin; refine wpList_str (v := u7) (xs := MS) (e := nm) rfl (.tmp 34) (.tmp 36) rfl rfl ⟨wc.heap.size, 0, none⟩ rfl (by rw [HSN.out]; exact cell_of (heap_alloc_new wc _) rfl) (HOM.out.alloc _) (by omega) (by simp; omega) ?_; intro v' w' h1 h2 h3; have G1 := Lib.hid h1; have G2 := Lib.hid h2; have G3 := Lib.hid h3; clear h1 h2 h3)
          have N1 : Hid (OwnB w1.heap.size u6 (placeL l own z (names.take (k + 1))).1 w') := by rw [HSt.out]; exact owns_grow HOB.out hap.out.symm G2.out
          have N2 : Hid (OwnS w1.heap.size v' (placeL l own z (names.take (k + 1))).2 w') := by rw [HSt.out]; exact G1.out
          have N3 : Hid (Apart2 u6 v') := (Apart2.grow (W := wc.alloc (.cells #[.string sn] 9)) hap.out.symm (fun j hj => by have := (hlb j hj).2; simp; omega) G3.out).symm
          have N4 : Hid (Below w1.heap.size w1 w') := grown_base HBN0.out hsz (fun j hj => (hlm j hj).1) G2.out
          clear hap HSt
          go_roundw
          case rel => exact ⟨k + 1, by have := HLT.out; omega, by go_num, N1, N2, N3, N4⟩
          case measure => have := HLT.out; simp only [intOf]; omega
      · have HSt : Hid (placeL l own z (names.take (k + 1)) = (BS ++ [⟨0, scaleZ (widL l[h]!.F.gs nm) z, h, z, nm⟩], MS)) := by
          show _ = _
          rw [HS.out]
          unfold stepP
          rw [hw, if_neg (by omega), Int.toNat_natCast]
        have HSz : Hid (∀ W', Below wr.heap.size wr W' → Calls Try.prog 58 #[.agg #[.int .i64 0, .int .i64 0, .int .i64 h, .int .i64 0, .string sn, .string ⟨#[]⟩, .slice none 0 0], .slice ao l.length c, .int .i64 z] W' (Makes (.tuple #[.agg #[.int .i64 0, .int .i64 (scaleZ (widL l[h]!.F.gs nm) z), .int .i64 h, .int .i64 z, .string sn, .string ⟨#[]⟩, .slice none 0 0], .int .i64 0]) W')) := fun W' hb => by
          rw [← HSN.out]
          exact sized_has 0 0 z h nm ⟨#[]⟩ none 0 0 ao l c W' (HFw.out.below hb) HV.out hhl HZ.out hhas
        obtain ⟨Wd, hWd⟩ : ∃ Wd, scaleZ (widL l[h]!.F.gs nm) z = Wd := ⟨_, rfl⟩
        rw [hWd] at HSt HSz
        rw [hw] at HHm
        clear hWd hw hhl hhas HS
        simp only [hNw] at HHm HSz hpw
        have HNW := Lib.hid hNw
        clear hNw
        go_upto_region 4 with fail
        go_cut [10, 11] (fun s10 s11 wx => ∃ q : Nat, s10 = .pointer (some ⟨q, 0, none⟩) ∧ s11 = .int .i64 0 ∧ Hid (wx.heap[q]? = some (.cells #[.int .i64 0, .int .i64 Wd, .int .i64 h, .int .i64 z, .string sn, .string ⟨#[]⟩, .slice none 0 0] 70 (0, 0))) ∧ Hid (Below Nw wr wx))
        case first =>
          refine wp_region_held_drew (S := fun w' => Below Nw wr w') (by kernel_rfl) ?_ (fun hHeld => ?_)
          · exact (by rw [← HNW.out]; exact (Below.refl _ _).drew)
          refine' wpAnyH_take (i := 0) (oi := _) (v := _) ?hi40 (by kernel_rfl) (by kernel_rfl) (by kernel_rfl) ?hQ40 (Or.inl ⟨?hw40, ?hy40⟩) hHeld ?rest40
          case hi40 => simp only [List.getElem?_toArray, List.getElem?_cons_zero]; rfl
          case hQ40 => exact fun _ _ _ h => h
          case hw40 => rfl
          case hy40 =>
            intro w hSw
            try dsimp only at hSw
            go_simp
            all_goals with_reducible rfl
          try simp only [Act.put, List.setIfInBounds_toArray, List.set_cons_zero, List.set_cons_succ]
          refine' wpAnyH_take (i := 1) (oi := _) (v := _) ?hi41 (by kernel_rfl) (by kernel_rfl) (by kernel_rfl) ?hQ41 (Or.inl ⟨?hw41, ?hy41⟩) hHeld ?rest41
          case hi41 => simp only [List.getElem?_toArray, List.getElem?_cons_succ, List.getElem?_cons_zero]; rfl
          case hQ41 => exact fun _ _ _ h => h
          case hw41 => rfl
          case hy41 =>
            intro w hSw
            try dsimp only at hSw
            go_simp
            all_goals with_reducible rfl
          try simp only [Act.put, List.setIfInBounds_toArray, List.set_cons_zero, List.set_cons_succ]
          refine' wpAnyH_take (i := 2) (oi := _) (v := _) ?hi42 (by kernel_rfl) (by kernel_rfl) (by kernel_rfl) ?hQ42 (Or.inl ⟨?hw42, ?hy42⟩) hHeld ?rest42
          case hi42 => simp only [List.getElem?_toArray, List.getElem?_cons_succ, List.getElem?_cons_zero]; rfl
          case hQ42 => exact fun _ _ _ h => h
          case hw42 => rfl
          case hy42 =>
            intro w hSw
            try dsimp only at hSw
            have s0' := (hSw.cell (p := ⟨p, 0, none⟩) hpw).trans s0
            clear hSw
            go_simp
            all_goals with_reducible rfl
          try simp only [Act.put, List.setIfInBounds_toArray, List.set_cons_zero, List.set_cons_succ]
          refine' wpAnyH_take (i := 3) (oi := _) (v := _) ?hi43 (by kernel_rfl) (by kernel_rfl) (by kernel_rfl) ?hQ43 (Or.inl ⟨?hw43, ?hy43⟩) hHeld ?rest43
          case hi43 => simp only [List.getElem?_toArray, List.getElem?_cons_succ, List.getElem?_cons_zero]; rfl
          case hQ43 => exact fun _ _ _ h => h
          case hw43 => rfl
          case hy43 =>
            intro w hSw
            try dsimp only at hSw
            go_simp
            all_goals with_reducible rfl
          try simp only [Act.put, List.setIfInBounds_toArray, List.set_cons_zero, List.set_cons_succ]
          refine' wpAnyH_take (i := 5) (oi := _) (v := _) ?hi44 (by kernel_rfl) (by kernel_rfl) (by kernel_rfl) ?hQ44 (Or.inl ⟨?hw44, ?hy44⟩) hHeld ?rest44
          case hi44 => simp only [List.getElem?_toArray, List.getElem?_cons_succ, List.getElem?_cons_zero]; rfl
          case hQ44 => exact fun _ _ _ h => h
          case hw44 => rfl
          case hy44 =>
            intro w hSw
            try dsimp only at hSw
            go_simp
            all_goals with_reducible rfl
          try simp only [Act.put, List.setIfInBounds_toArray, List.set_cons_zero, List.set_cons_succ]
          refine' wpAnyH_take (i := 7) (oi := _) (v := _) ?hi45 (by kernel_rfl) (by kernel_rfl) (by kernel_rfl) ?hQ45 (Or.inl ⟨?hw45, ?hy45⟩) hHeld ?rest45
          case hi45 => simp only [List.getElem?_toArray, List.getElem?_cons_succ, List.getElem?_cons_zero]; rfl
          case hQ45 => exact fun _ _ _ h => h
          case hw45 => rfl
          case hy45 =>
            intro w hSw
            try dsimp only at hSw
            go_simp
            all_goals with_reducible rfl
          try simp only [Act.put, List.setIfInBounds_toArray, List.set_cons_zero, List.set_cons_succ]
          refine' wpAnyH_take (i := 8) (oi := _) (v := _) ?hi46 (by kernel_rfl) (by kernel_rfl) (by kernel_rfl) ?hQ46 (Or.inl ⟨?hw46, ?hy46⟩) hHeld ?rest46
          case hi46 => simp only [List.getElem?_toArray, List.getElem?_cons_succ, List.getElem?_cons_zero]; rfl
          case hQ46 => exact fun _ _ _ h => h
          case hw46 => rfl
          case hy46 =>
            intro w hSw
            try dsimp only at hSw
            go_simp
            all_goals with_reducible rfl
          try simp only [Act.put, List.setIfInBounds_toArray, List.set_cons_zero, List.set_cons_succ]
          refine' wpAnyH_take (i := 9) (oi := _) (v := _) ?hi47 (by kernel_rfl) (by kernel_rfl) (by kernel_rfl) ?hQ47 (Or.inl ⟨?hw47, ?hy47⟩) hHeld ?rest47
          case hi47 => simp only [List.getElem?_toArray, List.getElem?_cons_succ, List.getElem?_cons_zero]; rfl
          case hQ47 => exact fun _ _ _ h => h
          case hw47 => rfl
          case hy47 =>
            intro w hSw
            try dsimp only at hSw
            have s1' := (hSw.cell (p := ⟨p, 1, none⟩) hpw).trans s1
            clear hSw
            go_simp
            all_goals with_reducible rfl
          try simp only [Act.put, List.setIfInBounds_toArray, List.set_cons_zero, List.set_cons_succ]
          refine wpAnyH_ready (rs := [4, 14]) (by kernel_rfl) (by simp) ?_
          refine' AllReadyH.cons (o := _) ?ha77 (fun K hK => ?sa77) ?ma77
          case ha77 => simp only [List.getElem?_toArray, List.getElem?_cons_succ, List.getElem?_cons_zero]; rfl
          case sa77 =>
            go_simp
            go_at_call 85
            refine (HHm.out _ hHeld).mono ?_
            rintro e v1 ⟨rfl, hb⟩
            have hbk := hHeld.trans (hb.mono (by have := hHeld.size; have := HNW.out; omega))
            clear hb
            go_wp2_with fail
            refine hK.out _ _ ?_ (fun hHeld => ?_)
            · exact hbk
            clear hK K
            try simp only [Act.put, List.setIfInBounds_toArray, List.set_cons_zero, List.set_cons_succ]
            clear hbk
            refine' wpAnyH_take (i := 6) (oi := _) (v := _) ?hi48 (by kernel_rfl) (by kernel_rfl) (by kernel_rfl) ?hQ48 (Or.inl ⟨?hw48, ?hy48⟩) hHeld ?rest48
            case hi48 => simp only [List.getElem?_toArray, List.getElem?_cons_succ, List.getElem?_cons_zero]; rfl
            case hQ48 => exact fun _ _ _ h => h
            case hw48 => rfl
            case hy48 =>
              intro w hSw
              try dsimp only at hSw
              go_simp
              all_goals with_reducible rfl
            try simp only [Act.put, List.setIfInBounds_toArray, List.set_cons_zero, List.set_cons_succ]
            refine wpAnyH_ready (rs := [10, 14]) (by kernel_rfl) (by simp) ?_
            refine' AllReadyH.cons (o := _) ?ha64 (fun K hK => ?sa64) ?ma64
            case ha64 => simp only [List.getElem?_toArray, List.getElem?_cons_succ, List.getElem?_cons_zero]; rfl
            case sa64 =>
              go_simp
              go_at_call 58
              refine (HSz.out _ hHeld).mono ?_
              rintro e v2 ⟨rfl, hb⟩
              have hbk := hHeld.trans (hb.mono (by have := hHeld.size; have := HNW.out; omega))
              clear hb
              go_wp2_with fail
              refine hK.out _ _ ?_ (fun hHeld => ?_)
              · exact hbk
              clear hK K
              try simp only [Act.put, List.setIfInBounds_toArray, List.set_cons_zero, List.set_cons_succ]
              clear hbk
              refine' wpAnyH_take (i := 11) (oi := _) (v := _) ?hi49 (by kernel_rfl) (by kernel_rfl) (by kernel_rfl) ?hQ49 (Or.inl ⟨?hw49, ?hy49⟩) hHeld ?rest49
              case hi49 => simp only [List.getElem?_toArray, List.getElem?_cons_succ, List.getElem?_cons_zero]; rfl
              case hQ49 => exact fun _ _ _ h => h
              case hw49 => rfl
              case hy49 =>
                intro w hSw
                try dsimp only at hSw
                go_simp
                all_goals with_reducible rfl
              try simp only [Act.put, List.setIfInBounds_toArray, List.set_cons_zero, List.set_cons_succ]
              refine' wpAnyH_take (i := 12) (oi := _) (v := _) ?hi50 (by kernel_rfl) (by kernel_rfl) (by kernel_rfl) ?hQ50 (Or.inl ⟨?hw50, ?hy50⟩) hHeld ?rest50
              case hi50 => simp only [List.getElem?_toArray, List.getElem?_cons_succ, List.getElem?_cons_zero]; rfl
              case hQ50 => exact fun _ _ _ h => h
              case hw50 => rfl
              case hy50 =>
                intro w hSw
                try dsimp only at hSw
                go_simp
                all_goals with_reducible rfl
              try simp only [Act.put, List.setIfInBounds_toArray, List.set_cons_zero, List.set_cons_succ]
              refine' wpAnyH_take (i := 13) (oi := _) (v := _) ?hi51 (by kernel_rfl) (by kernel_rfl) (by kernel_rfl) ?hQ51 (Or.inl ⟨?hw51, ?hy51⟩) hHeld ?rest51
              case hi51 => simp only [List.getElem?_toArray, List.getElem?_cons_succ, List.getElem?_cons_zero]; rfl
              case hQ51 => exact fun _ _ _ h => h
              case hw51 => rfl
              case hy51 =>
                intro w hSw
                try dsimp only at hSw
                go_simp
                all_goals with_reducible rfl
              try simp only [Act.put, List.setIfInBounds_toArray, List.set_cons_zero, List.set_cons_succ]
              refine wpAnyH_ready (rs := [14]) (by kernel_rfl) (by simp) ?_
              refine' AllReadyH.cons (o := _) ?ha55 (fun K hK => ?sa55) ?ma55
              case ha55 => simp only [List.getElem?_toArray, List.getElem?_cons_succ, List.getElem?_cons_zero]; rfl
              case sa55 =>
                have hHeld0 := hHeld
                go_simp
                refine hK.out _ _ ?_ (fun hHeld => ?_)
                · exact hHeld.alloc (by have := hHeld.size; have := HNW.out; omega) _
                clear hK K
                try simp only [Act.put, List.setIfInBounds_toArray, List.set_cons_zero, List.set_cons_succ]
                have hqw : Nw ≤ v2.heap.size := by rw [← HNW.out]; exact hHeld0.size
                obtain ⟨q, hq⟩ : ∃ q, v2.heap.size = q := ⟨_, rfl⟩
                have tq : (v2.alloc (.cells #[.int .i64 0, .int .i64 0, .int .i64 0, .int .i64 0, .string ⟨#[]⟩, .string ⟨#[]⟩, .slice none 0 0] 70)).heap[q]? = some (.cells #[.int .i64 0, .int .i64 0, .int .i64 0, .int .i64 0, .string ⟨#[]⟩, .string ⟨#[]⟩, .slice none 0 0] 70 (0, 0)) := by rw [← hq]; exact heap_alloc_new v2 _
                rw [hq] at hqw
                rw [hq]
                clear hq hHeld0
                generalize (v2.alloc (.cells #[.int .i64 0, .int .i64 0, .int .i64 0, .int .i64 0, .string ⟨#[]⟩, .string ⟨#[]⟩, .slice none 0 0] 70)) = v3 at tq hHeld ⊢
                have hcur := hHeld
                have e0 := cell_of (j := 0) tq rfl
                have d0 := frozen_of (j := 0) tq
                have e1 := cell_of (j := 1) tq rfl
                have d1 := frozen_of (j := 1) tq
                have e2 := cell_of (j := 2) tq rfl
                have d2 := frozen_of (j := 2) tq
                have e3 := cell_of (j := 3) tq rfl
                have d3 := frozen_of (j := 3) tq
                have e4 := cell_of (j := 4) tq rfl
                have d4 := frozen_of (j := 4) tq
                have e5 := cell_of (j := 5) tq rfl
                have d5 := frozen_of (j := 5) tq
                have e6 := cell_of (j := 6) tq rfl
                have d6 := frozen_of (j := 6) tq
                refine wpAnyH_ready (rs := [15]) (by kernel_rfl) (by simp) ?_
                refine' AllReadyH.cons (o := _) ?ha53 (fun K hK => ?sa53) ?ma53
                case ha53 => simp only [List.getElem?_toArray, List.getElem?_cons_succ, List.getElem?_cons_zero]; rfl
                case ma53 => exact AllReadyH.nil
                case sa53 =>
                  go_simp
                  refine hK.out _ _ ?_ (fun hHeld => ?_)
                  · exact (below_setA (below_setA (below_setA (below_setA (below_setA (below_setA (below_setA hHeld hqw) hqw) hqw) hqw) hqw) hqw) hqw)
                  clear hK K
                  try simp only [Act.put, List.setIfInBounds_toArray, List.set_cons_zero, List.set_cons_succ]
                  refine' wpAnyH_take (i := 16) (oi := _) (v := _) ?hi52 (by kernel_rfl) (by kernel_rfl) (by kernel_rfl) ?hQ52 (Or.inl ⟨?hw52, ?hy52⟩) hHeld ?rest52
                  case hi52 => simp only [List.getElem?_toArray, List.getElem?_cons_succ, List.getElem?_cons_zero]; rfl
                  case hQ52 => exact fun _ _ _ h => h
                  case hw52 => rfl
                  case hy52 =>
                    intro w hSw
                    try dsimp only at hSw
                    go_simp
                    all_goals with_reducible rfl
                  try simp only [Act.put, List.setIfInBounds_toArray, List.set_cons_zero, List.set_cons_succ]
                  refine wpAnyH_done (by kernel_rfl) ?_ _
                  have HZ : (((((((v3.setCell ⟨q, 0, none⟩ (.int .i64 0)).setCell ⟨q, 1, none⟩ (.int .i64 Wd)).setCell ⟨q, 2, none⟩ (.int .i64 h)).setCell ⟨q, 3, none⟩ (.int .i64 z)).setCell ⟨q, 4, none⟩ (.string sn)).setCell ⟨q, 5, none⟩ (.string ⟨#[]⟩)).setCell ⟨q, 6, none⟩ (.slice none 0 0)).heap[q]? = some (.cells #[.int .i64 0, .int .i64 Wd, .int .i64 h, .int .i64 z, .string sn, .string ⟨#[]⟩, .slice none 0 0] 70 (0, 0)) := by
                    have q0 := heap_setCell_c tq 0 (.int .i64 0)
                    have q1 := heap_setCell_c q0 1 (.int .i64 Wd)
                    have q2 := heap_setCell_c q1 2 (.int .i64 h)
                    have q3 := heap_setCell_c q2 3 (.int .i64 z)
                    have q4 := heap_setCell_c q3 4 (.string sn)
                    have q5 := heap_setCell_c q4 5 (.string ⟨#[]⟩)
                    have q6 := heap_setCell_c q5 6 (.slice none 0 0)
                    simpa using q6
                  have HBZ : Below Nw wr (((((((v3.setCell ⟨q, 0, none⟩ (.int .i64 0)).setCell ⟨q, 1, none⟩ (.int .i64 Wd)).setCell ⟨q, 2, none⟩ (.int .i64 h)).setCell ⟨q, 3, none⟩ (.int .i64 z)).setCell ⟨q, 4, none⟩ (.string sn)).setCell ⟨q, 5, none⟩ (.string ⟨#[]⟩)).setCell ⟨q, 6, none⟩ (.slice none 0 0)) := (below_setA (below_setA (below_setA (below_setA (below_setA (below_setA (below_setA hcur hqw) hqw) hqw) hqw) hqw) hqw) hqw)
                  clear hHeld e0 e1 e2 e3 e4 e5 e6 d0 d1 d2 d3 d4 d5 d6 tq
                  go_wp2_with fail
                  go_meet
                  case rel => exact ⟨q, rfl, rfl, HZ, HBZ⟩
              case ma55 =>
                exact AllReadyH.nil
            case ma64 =>
              refine' AllReadyH.cons (o := _) ?ha65 (fun K hK => ?sa65) ?ma65
              case ha65 => simp only [List.getElem?_toArray, List.getElem?_cons_succ, List.getElem?_cons_zero]; rfl
              case sa65 =>
                have hHeld0 := hHeld
                go_simp
                refine hK.out _ _ ?_ (fun hHeld => ?_)
                · exact hHeld.alloc (by have := hHeld.size; have := HNW.out; omega) _
                clear hK K
                try simp only [Act.put, List.setIfInBounds_toArray, List.set_cons_zero, List.set_cons_succ]
                have hqw : Nw ≤ v1.heap.size := by rw [← HNW.out]; exact hHeld0.size
                obtain ⟨q, hq⟩ : ∃ q, v1.heap.size = q := ⟨_, rfl⟩
                have tq : (v1.alloc (.cells #[.int .i64 0, .int .i64 0, .int .i64 0, .int .i64 0, .string ⟨#[]⟩, .string ⟨#[]⟩, .slice none 0 0] 70)).heap[q]? = some (.cells #[.int .i64 0, .int .i64 0, .int .i64 0, .int .i64 0, .string ⟨#[]⟩, .string ⟨#[]⟩, .slice none 0 0] 70 (0, 0)) := by rw [← hq]; exact heap_alloc_new v1 _
                rw [hq] at hqw
                rw [hq]
                clear hq hHeld0
                generalize (v1.alloc (.cells #[.int .i64 0, .int .i64 0, .int .i64 0, .int .i64 0, .string ⟨#[]⟩, .string ⟨#[]⟩, .slice none 0 0] 70)) = v4 at tq hHeld ⊢
                refine wpAnyH_ready (rs := [10]) (by kernel_rfl) (by simp) ?_
                refine' AllReadyH.cons (o := _) ?ha62 (fun K hK => ?sa62) ?ma62
                case ha62 => simp only [List.getElem?_toArray, List.getElem?_cons_succ, List.getElem?_cons_zero]; rfl
                case sa62 =>
                  go_simp
                  go_at_call 58
                  refine (HSz.out _ hHeld).mono ?_
                  rintro e v5 ⟨rfl, hb⟩
                  have hbk := hHeld.trans (hb.mono (by have := hHeld.size; have := HNW.out; omega))
                  have tq' : v5.heap[q]? = some (.cells #[.int .i64 0, .int .i64 0, .int .i64 0, .int .i64 0, .string ⟨#[]⟩, .string ⟨#[]⟩, .slice none 0 0] 70 (0, 0)) := by rw [hb.block q (Array.getElem?_eq_some_iff.1 tq).1]; exact tq
                  clear tq
                  have tq := tq'
                  clear tq'
                  clear hb
                  go_wp2_with fail
                  refine hK.out _ _ ?_ (fun hHeld => ?_)
                  · exact hbk
                  clear hK K
                  try simp only [Act.put, List.setIfInBounds_toArray, List.set_cons_zero, List.set_cons_succ]
                  clear hbk
                  refine' wpAnyH_take (i := 11) (oi := _) (v := _) ?hi56 (by kernel_rfl) (by kernel_rfl) (by kernel_rfl) ?hQ56 (Or.inl ⟨?hw56, ?hy56⟩) hHeld ?rest56
                  case hi56 => simp only [List.getElem?_toArray, List.getElem?_cons_succ, List.getElem?_cons_zero]; rfl
                  case hQ56 => exact fun _ _ _ h => h
                  case hw56 => rfl
                  case hy56 =>
                    intro w hSw
                    try dsimp only at hSw
                    go_simp
                    all_goals with_reducible rfl
                  try simp only [Act.put, List.setIfInBounds_toArray, List.set_cons_zero, List.set_cons_succ]
                  refine' wpAnyH_take (i := 12) (oi := _) (v := _) ?hi57 (by kernel_rfl) (by kernel_rfl) (by kernel_rfl) ?hQ57 (Or.inl ⟨?hw57, ?hy57⟩) hHeld ?rest57
                  case hi57 => simp only [List.getElem?_toArray, List.getElem?_cons_succ, List.getElem?_cons_zero]; rfl
                  case hQ57 => exact fun _ _ _ h => h
                  case hw57 => rfl
                  case hy57 =>
                    intro w hSw
                    try dsimp only at hSw
                    go_simp
                    all_goals with_reducible rfl
                  try simp only [Act.put, List.setIfInBounds_toArray, List.set_cons_zero, List.set_cons_succ]
                  refine' wpAnyH_take (i := 13) (oi := _) (v := _) ?hi58 (by kernel_rfl) (by kernel_rfl) (by kernel_rfl) ?hQ58 (Or.inl ⟨?hw58, ?hy58⟩) hHeld ?rest58
                  case hi58 => simp only [List.getElem?_toArray, List.getElem?_cons_succ, List.getElem?_cons_zero]; rfl
                  case hQ58 => exact fun _ _ _ h => h
                  case hw58 => rfl
                  case hy58 =>
                    intro w hSw
                    try dsimp only at hSw
                    go_simp
                    all_goals with_reducible rfl
                  try simp only [Act.put, List.setIfInBounds_toArray, List.set_cons_zero, List.set_cons_succ]
                  have hcur := hHeld
                  have e0 := cell_of (j := 0) tq rfl
                  have d0 := frozen_of (j := 0) tq
                  have e1 := cell_of (j := 1) tq rfl
                  have d1 := frozen_of (j := 1) tq
                  have e2 := cell_of (j := 2) tq rfl
                  have d2 := frozen_of (j := 2) tq
                  have e3 := cell_of (j := 3) tq rfl
                  have d3 := frozen_of (j := 3) tq
                  have e4 := cell_of (j := 4) tq rfl
                  have d4 := frozen_of (j := 4) tq
                  have e5 := cell_of (j := 5) tq rfl
                  have d5 := frozen_of (j := 5) tq
                  have e6 := cell_of (j := 6) tq rfl
                  have d6 := frozen_of (j := 6) tq
                  refine wpAnyH_ready (rs := [15]) (by kernel_rfl) (by simp) ?_
                  refine' AllReadyH.cons (o := _) ?ha60 (fun K hK => ?sa60) ?ma60
                  case ha60 => simp only [List.getElem?_toArray, List.getElem?_cons_succ, List.getElem?_cons_zero]; rfl
                  case ma60 => exact AllReadyH.nil
                  case sa60 =>
                    go_simp
                    refine hK.out _ _ ?_ (fun hHeld => ?_)
                    · exact (below_setA (below_setA (below_setA (below_setA (below_setA (below_setA (below_setA hHeld hqw) hqw) hqw) hqw) hqw) hqw) hqw)
                    clear hK K
                    try simp only [Act.put, List.setIfInBounds_toArray, List.set_cons_zero, List.set_cons_succ]
                    refine' wpAnyH_take (i := 16) (oi := _) (v := _) ?hi59 (by kernel_rfl) (by kernel_rfl) (by kernel_rfl) ?hQ59 (Or.inl ⟨?hw59, ?hy59⟩) hHeld ?rest59
                    case hi59 => simp only [List.getElem?_toArray, List.getElem?_cons_succ, List.getElem?_cons_zero]; rfl
                    case hQ59 => exact fun _ _ _ h => h
                    case hw59 => rfl
                    case hy59 =>
                      intro w hSw
                      try dsimp only at hSw
                      go_simp
                      all_goals with_reducible rfl
                    try simp only [Act.put, List.setIfInBounds_toArray, List.set_cons_zero, List.set_cons_succ]
                    refine wpAnyH_done (by kernel_rfl) ?_ _
                    have HZ : (((((((v5.setCell ⟨q, 0, none⟩ (.int .i64 0)).setCell ⟨q, 1, none⟩ (.int .i64 Wd)).setCell ⟨q, 2, none⟩ (.int .i64 h)).setCell ⟨q, 3, none⟩ (.int .i64 z)).setCell ⟨q, 4, none⟩ (.string sn)).setCell ⟨q, 5, none⟩ (.string ⟨#[]⟩)).setCell ⟨q, 6, none⟩ (.slice none 0 0)).heap[q]? = some (.cells #[.int .i64 0, .int .i64 Wd, .int .i64 h, .int .i64 z, .string sn, .string ⟨#[]⟩, .slice none 0 0] 70 (0, 0)) := by
                      have q0 := heap_setCell_c tq 0 (.int .i64 0)
                      have q1 := heap_setCell_c q0 1 (.int .i64 Wd)
                      have q2 := heap_setCell_c q1 2 (.int .i64 h)
                      have q3 := heap_setCell_c q2 3 (.int .i64 z)
                      have q4 := heap_setCell_c q3 4 (.string sn)
                      have q5 := heap_setCell_c q4 5 (.string ⟨#[]⟩)
                      have q6 := heap_setCell_c q5 6 (.slice none 0 0)
                      simpa using q6
                    have HBZ : Below Nw wr (((((((v5.setCell ⟨q, 0, none⟩ (.int .i64 0)).setCell ⟨q, 1, none⟩ (.int .i64 Wd)).setCell ⟨q, 2, none⟩ (.int .i64 h)).setCell ⟨q, 3, none⟩ (.int .i64 z)).setCell ⟨q, 4, none⟩ (.string sn)).setCell ⟨q, 5, none⟩ (.string ⟨#[]⟩)).setCell ⟨q, 6, none⟩ (.slice none 0 0)) := (below_setA (below_setA (below_setA (below_setA (below_setA (below_setA (below_setA hcur hqw) hqw) hqw) hqw) hqw) hqw) hqw)
                    clear hHeld e0 e1 e2 e3 e4 e5 e6 d0 d1 d2 d3 d4 d5 d6 tq
                    go_wp2_with fail
                    go_meet
                    case rel => exact ⟨q, rfl, rfl, HZ, HBZ⟩
                case ma62 =>
                  exact AllReadyH.nil
              case ma65 =>
                exact AllReadyH.nil
          case ma77 =>
            refine' AllReadyH.cons (o := _) ?ha78 (fun K hK => ?sa78) ?ma78
            case ha78 => simp only [List.getElem?_toArray, List.getElem?_cons_succ, List.getElem?_cons_zero]; rfl
            case sa78 =>
              have hHeld0 := hHeld
              go_simp
              refine hK.out _ _ ?_ (fun hHeld => ?_)
              · exact hHeld.alloc (by have := hHeld.size; have := HNW.out; omega) _
              clear hK K
              try simp only [Act.put, List.setIfInBounds_toArray, List.set_cons_zero, List.set_cons_succ]
              have hqw : Nw ≤ wr.heap.size := by rw [← HNW.out]; exact hHeld0.size
              obtain ⟨q, hq⟩ : ∃ q, wr.heap.size = q := ⟨_, rfl⟩
              have tq : (wr.alloc (.cells #[.int .i64 0, .int .i64 0, .int .i64 0, .int .i64 0, .string ⟨#[]⟩, .string ⟨#[]⟩, .slice none 0 0] 70)).drew.heap[q]? = some (.cells #[.int .i64 0, .int .i64 0, .int .i64 0, .int .i64 0, .string ⟨#[]⟩, .string ⟨#[]⟩, .slice none 0 0] 70 (0, 0)) := by rw [← hq]; exact heap_alloc_new wr _
              rw [hq] at hqw
              rw [hq]
              clear hq hHeld0
              generalize (wr.alloc (.cells #[.int .i64 0, .int .i64 0, .int .i64 0, .int .i64 0, .string ⟨#[]⟩, .string ⟨#[]⟩, .slice none 0 0] 70)).drew = v6 at tq hHeld ⊢
              refine wpAnyH_ready (rs := [4]) (by kernel_rfl) (by simp) ?_
              refine' AllReadyH.cons (o := _) ?ha75 (fun K hK => ?sa75) ?ma75
              case ha75 => simp only [List.getElem?_toArray, List.getElem?_cons_succ, List.getElem?_cons_zero]; rfl
              case sa75 =>
                go_simp
                go_at_call 85
                refine (HHm.out _ hHeld).mono ?_
                rintro e v7 ⟨rfl, hb⟩
                have hbk := hHeld.trans (hb.mono (by have := hHeld.size; have := HNW.out; omega))
                have tq' : v7.heap[q]? = some (.cells #[.int .i64 0, .int .i64 0, .int .i64 0, .int .i64 0, .string ⟨#[]⟩, .string ⟨#[]⟩, .slice none 0 0] 70 (0, 0)) := by rw [hb.block q (Array.getElem?_eq_some_iff.1 tq).1]; exact tq
                clear tq
                have tq := tq'
                clear tq'
                clear hb
                go_wp2_with fail
                refine hK.out _ _ ?_ (fun hHeld => ?_)
                · exact hbk
                clear hK K
                try simp only [Act.put, List.setIfInBounds_toArray, List.set_cons_zero, List.set_cons_succ]
                clear hbk
                refine' wpAnyH_take (i := 6) (oi := _) (v := _) ?hi66 (by kernel_rfl) (by kernel_rfl) (by kernel_rfl) ?hQ66 (Or.inl ⟨?hw66, ?hy66⟩) hHeld ?rest66
                case hi66 => simp only [List.getElem?_toArray, List.getElem?_cons_succ, List.getElem?_cons_zero]; rfl
                case hQ66 => exact fun _ _ _ h => h
                case hw66 => rfl
                case hy66 =>
                  intro w hSw
                  try dsimp only at hSw
                  go_simp
                  all_goals with_reducible rfl
                try simp only [Act.put, List.setIfInBounds_toArray, List.set_cons_zero, List.set_cons_succ]
                refine wpAnyH_ready (rs := [10]) (by kernel_rfl) (by simp) ?_
                refine' AllReadyH.cons (o := _) ?ha73 (fun K hK => ?sa73) ?ma73
                case ha73 => simp only [List.getElem?_toArray, List.getElem?_cons_succ, List.getElem?_cons_zero]; rfl
                case sa73 =>
                  go_simp
                  go_at_call 58
                  refine (HSz.out _ hHeld).mono ?_
                  rintro e v8 ⟨rfl, hb⟩
                  have hbk := hHeld.trans (hb.mono (by have := hHeld.size; have := HNW.out; omega))
                  have tq' : v8.heap[q]? = some (.cells #[.int .i64 0, .int .i64 0, .int .i64 0, .int .i64 0, .string ⟨#[]⟩, .string ⟨#[]⟩, .slice none 0 0] 70 (0, 0)) := by rw [hb.block q (Array.getElem?_eq_some_iff.1 tq).1]; exact tq
                  clear tq
                  have tq := tq'
                  clear tq'
                  clear hb
                  go_wp2_with fail
                  refine hK.out _ _ ?_ (fun hHeld => ?_)
                  · exact hbk
                  clear hK K
                  try simp only [Act.put, List.setIfInBounds_toArray, List.set_cons_zero, List.set_cons_succ]
                  clear hbk
                  refine' wpAnyH_take (i := 11) (oi := _) (v := _) ?hi67 (by kernel_rfl) (by kernel_rfl) (by kernel_rfl) ?hQ67 (Or.inl ⟨?hw67, ?hy67⟩) hHeld ?rest67
                  case hi67 => simp only [List.getElem?_toArray, List.getElem?_cons_succ, List.getElem?_cons_zero]; rfl
                  case hQ67 => exact fun _ _ _ h => h
                  case hw67 => rfl
                  case hy67 =>
                    intro w hSw
                    try dsimp only at hSw
                    go_simp
                    all_goals with_reducible rfl
                  try simp only [Act.put, List.setIfInBounds_toArray, List.set_cons_zero, List.set_cons_succ]
                  refine' wpAnyH_take (i := 12) (oi := _) (v := _) ?hi68 (by kernel_rfl) (by kernel_rfl) (by kernel_rfl) ?hQ68 (Or.inl ⟨?hw68, ?hy68⟩) hHeld ?rest68
                  case hi68 => simp only [List.getElem?_toArray, List.getElem?_cons_succ, List.getElem?_cons_zero]; rfl
                  case hQ68 => exact fun _ _ _ h => h
                  case hw68 => rfl
                  case hy68 =>
                    intro w hSw
                    try dsimp only at hSw
                    go_simp
                    all_goals with_reducible rfl
                  try simp only [Act.put, List.setIfInBounds_toArray, List.set_cons_zero, List.set_cons_succ]
                  refine' wpAnyH_take (i := 13) (oi := _) (v := _) ?hi69 (by kernel_rfl) (by kernel_rfl) (by kernel_rfl) ?hQ69 (Or.inl ⟨?hw69, ?hy69⟩) hHeld ?rest69
                  case hi69 => simp only [List.getElem?_toArray, List.getElem?_cons_succ, List.getElem?_cons_zero]; rfl
                  case hQ69 => exact fun _ _ _ h => h
                  case hw69 => rfl
                  case hy69 =>
                    intro w hSw
                    try dsimp only at hSw
                    go_simp
                    all_goals with_reducible rfl
                  try simp only [Act.put, List.setIfInBounds_toArray, List.set_cons_zero, List.set_cons_succ]
                  have hcur := hHeld
                  have e0 := cell_of (j := 0) tq rfl
                  have d0 := frozen_of (j := 0) tq
                  have e1 := cell_of (j := 1) tq rfl
                  have d1 := frozen_of (j := 1) tq
                  have e2 := cell_of (j := 2) tq rfl
                  have d2 := frozen_of (j := 2) tq
                  have e3 := cell_of (j := 3) tq rfl
                  have d3 := frozen_of (j := 3) tq
                  have e4 := cell_of (j := 4) tq rfl
                  have d4 := frozen_of (j := 4) tq
                  have e5 := cell_of (j := 5) tq rfl
                  have d5 := frozen_of (j := 5) tq
                  have e6 := cell_of (j := 6) tq rfl
                  have d6 := frozen_of (j := 6) tq
                  refine wpAnyH_ready (rs := [15]) (by kernel_rfl) (by simp) ?_
                  refine' AllReadyH.cons (o := _) ?ha71 (fun K hK => ?sa71) ?ma71
                  case ha71 => simp only [List.getElem?_toArray, List.getElem?_cons_succ, List.getElem?_cons_zero]; rfl
                  case ma71 => exact AllReadyH.nil
                  case sa71 =>
                    go_simp
                    refine hK.out _ _ ?_ (fun hHeld => ?_)
                    · exact (below_setA (below_setA (below_setA (below_setA (below_setA (below_setA (below_setA hHeld hqw) hqw) hqw) hqw) hqw) hqw) hqw)
                    clear hK K
                    try simp only [Act.put, List.setIfInBounds_toArray, List.set_cons_zero, List.set_cons_succ]
                    refine' wpAnyH_take (i := 16) (oi := _) (v := _) ?hi70 (by kernel_rfl) (by kernel_rfl) (by kernel_rfl) ?hQ70 (Or.inl ⟨?hw70, ?hy70⟩) hHeld ?rest70
                    case hi70 => simp only [List.getElem?_toArray, List.getElem?_cons_succ, List.getElem?_cons_zero]; rfl
                    case hQ70 => exact fun _ _ _ h => h
                    case hw70 => rfl
                    case hy70 =>
                      intro w hSw
                      try dsimp only at hSw
                      go_simp
                      all_goals with_reducible rfl
                    try simp only [Act.put, List.setIfInBounds_toArray, List.set_cons_zero, List.set_cons_succ]
                    refine wpAnyH_done (by kernel_rfl) ?_ _
                    have HZ : (((((((v8.setCell ⟨q, 0, none⟩ (.int .i64 0)).setCell ⟨q, 1, none⟩ (.int .i64 Wd)).setCell ⟨q, 2, none⟩ (.int .i64 h)).setCell ⟨q, 3, none⟩ (.int .i64 z)).setCell ⟨q, 4, none⟩ (.string sn)).setCell ⟨q, 5, none⟩ (.string ⟨#[]⟩)).setCell ⟨q, 6, none⟩ (.slice none 0 0)).heap[q]? = some (.cells #[.int .i64 0, .int .i64 Wd, .int .i64 h, .int .i64 z, .string sn, .string ⟨#[]⟩, .slice none 0 0] 70 (0, 0)) := by
                      have q0 := heap_setCell_c tq 0 (.int .i64 0)
                      have q1 := heap_setCell_c q0 1 (.int .i64 Wd)
                      have q2 := heap_setCell_c q1 2 (.int .i64 h)
                      have q3 := heap_setCell_c q2 3 (.int .i64 z)
                      have q4 := heap_setCell_c q3 4 (.string sn)
                      have q5 := heap_setCell_c q4 5 (.string ⟨#[]⟩)
                      have q6 := heap_setCell_c q5 6 (.slice none 0 0)
                      simpa using q6
                    have HBZ : Below Nw wr (((((((v8.setCell ⟨q, 0, none⟩ (.int .i64 0)).setCell ⟨q, 1, none⟩ (.int .i64 Wd)).setCell ⟨q, 2, none⟩ (.int .i64 h)).setCell ⟨q, 3, none⟩ (.int .i64 z)).setCell ⟨q, 4, none⟩ (.string sn)).setCell ⟨q, 5, none⟩ (.string ⟨#[]⟩)).setCell ⟨q, 6, none⟩ (.slice none 0 0)) := (below_setA (below_setA (below_setA (below_setA (below_setA (below_setA (below_setA hcur hqw) hqw) hqw) hqw) hqw) hqw) hqw)
                    clear hHeld e0 e1 e2 e3 e4 e5 e6 d0 d1 d2 d3 d4 d5 d6 tq
                    go_wp2_with fail
                    go_meet
                    case rel => exact ⟨q, rfl, rfl, HZ, HBZ⟩
                case ma73 =>
                  exact AllReadyH.nil
              case ma75 =>
                exact AllReadyH.nil
            case ma78 =>
              exact AllReadyH.nil
        case rest =>
          obtain ⟨q, rfl, rfl, hqb, hbc⟩ := hcut
          rw [← HNW.out] at hbc
          have HBN0 := Lib.hid (hbl.out.trans (hbc.out.mono hbl.out.size))
          have HOB := Lib.hid (owns_below hob.out hbc.out)
          have HOM := Lib.hid (owns_below hom.out hbc.out)
          have hsz := HBN0.out.size
          have hlb : ∀ j, u6.ownBlock = some j → w1.heap.size ≤ j ∧ j < wc.heap.size := fun j hj => HOB.out.lt j hj
          have hlm : ∀ j, u7.ownBlock = some j → w1.heap.size ≤ j ∧ j < wc.heap.size := fun j hj => HOM.out.lt j hj
          clear hob hom hbl hbc s0 s1 hpw hnm HHm HSz
          have q0 := hqb.out
          have c0 := cell_of (j := 0) q0 rfl
          have c1 := cell_of (j := 1) q0 rfl
          have c2 := cell_of (j := 2) q0 rfl
          have c3 := cell_of (j := 3) q0 rfl
          have c4 := cell_of (j := 4) q0 rfl
          have c5 := cell_of (j := 5) q0 rfl
          have c6 := cell_of (j := 6) q0 rfl
          clear q0
          go_wp2_with (at_builtin; refine wpList_box (v := u6) (xs := BS) (e := ⟨0, Wd, h, z, nm⟩) rfl (.tmp 38) (.tmp 40) rfl rfl ⟨wc.heap.size, 0, none⟩ rfl (fun j u hu => World.news_of_block (heap_alloc_new wc _) j u (by rw [← HSN.out]; simpa [encB] using hu)) (HOB.out.alloc _) (by omega) (by simp; omega) ?_; intro v' w' h1 h2 h3; have G1 := Lib.hid h1; have G2 := Lib.hid h2; have G3 := Lib.hid h3; clear h1 h2 h3)
          have N1 : Hid (OwnB w1.heap.size v' (placeL l own z (names.take (k + 1))).1 w') := by rw [HSt.out]; exact G1.out
          have N2 : Hid (OwnS w1.heap.size u7 (placeL l own z (names.take (k + 1))).2 w') := by rw [HSt.out]; exact owns_grow HOM.out hap.out G2.out
          have N3 : Hid (Apart2 v' u7) := Apart2.grow (W := wc.alloc (.cells #[.int .i64 0, .int .i64 Wd, .int .i64 h, .int .i64 z, .string sn, .string ⟨#[]⟩, .slice none 0 0] 70)) hap.out (fun j hj => by have := (hlm j hj).2; simp; omega) G3.out
          have N4 : Hid (Below w1.heap.size w1 w') := grown_base HBN0.out hsz (fun j hj => (hlb j hj).1) G2.out
          clear c0 c1 c2 c3 c4 c5 c6 hqb hap HSt
          go_roundw
          case rel => exact ⟨k + 1, by have := HLT.out; omega, by go_num, N1, N2, N3, N4⟩
          case measure => have := HLT.out; simp only [intOf]; omega
    · obtain rfl : k = names.length := by omega
      have hz1 : ¬ ((names.length : Nat) : Int) < names.length := by omega
      rw [List.take_length] at hob hom
      have hsz : p ≤ w1.heap.size := by rw [← HPW.out]; exact HB1.out.size
      have N1 := Lib.hid (own_base hob.out hsz)
      have N2 := Lib.hid (own_base hom.out hsz)
      have N3 := Lib.hid (HB1.out.trans (hbl.out.mono HB1.out.size))
      clear hob hom hbl hap
      go_wp2_with fail
      go_ret2
      exact ⟨u6, u7, rfl, by rw [HPW.out]; exact N1.out, by rw [HPW.out]; exact N2.out, N3.out⟩
end Go.Proofs.Ytboophfcakdlcaa
