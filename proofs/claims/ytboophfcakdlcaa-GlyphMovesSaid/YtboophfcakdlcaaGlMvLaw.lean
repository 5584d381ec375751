/- GlyphMoves's law, walked. -/
import Derived.Test.YtboophfcakdlcaaGlBad
import Derived.Test.YtboophfcakdlcaaGlSame8
import Derived.BigQuiet
import Derived.Deep.RegionHeld3
import Derived.Deep.DeepCutAuto
namespace Go.Proofs.Ytboophfcakdlcaa
open Go.RowKit Go.PlainAid Go.Shelf

theorem below_dN8 {B : Nat} {w w' : World} (h : Below B w w') (q : Nat) : Below B w (w'.drewN q) := ⟨h.os, h.tape, h.output, h.size, h.block⟩
theorem charsL_len (L : List UInt8) : (charsL L).length = L.length := by unfold charsL; rw [List.length_map]
set_option maxRecDepth 100000 in
set_option maxHeartbeats 8000000 in
theorem law_moves (L : List UInt8) (fr tt wh : Int) (hf0 : 0 ≤ fr) (hf1 : fr ≤ 255) (ht0 : 0 ≤ tt) (ht1 : tt ≤ 255) (hw0 : 0 ≤ wh) (_hw1 : wh ≤ 255) (hL : L.length ≤ 1000000000000000000) (W : World) :
    Calls Try.prog 6 #[.agg #[.string (mk8 L), .int .u8 fr, .int .u8 tt, .int .u8 wh]] W (Makes (.bool true) W) := by
  have HS := Lib.hid (fun w' => sane8_any w')
  have hsz : ((mk8 L).size : Int) = L.length := by rw [mk8_size]
  have hsn : (mk8 L).size = L.length := mk8_size L
  obtain ⟨own, hown, hol⟩ : ∃ own : Nat, wh.tmod 5 = own ∧ own < 5 := by
    have e : wh.tmod 5 = wh % 5 := Int.tmod_eq_emod_of_nonneg hw0
    have l0 := Int.emod_nonneg wh (show (5 : Int) ≠ 0 by omega)
    have l1 := Int.emod_lt_of_pos wh (show (0 : Int) < 5 by omega)
    exact ⟨(wh % 5).toNat, by rw [e]; exact (Int.toNat_of_nonneg l0).symm, by omega⟩
  by_cases hbig : 200 < L.length
  · obtain ⟨s, hs⟩ : ∃ s, mk8 L = s := ⟨_, rfl⟩
    rw [hs] at hsz hsn ⊢
    have hgt : (200 : Int) < L.length := by omega
    clear hs
    go_enter Try.func6, Try.ntmps6
    go_upto_region 1 with fail
    generalize hwa : W.alloc _ = wa
    have hba : Below W.heap.size W wa := by rw [← hwa]; exact (Below.refl _ _).alloc (Nat.le_refl _) _
    have ta : wa.heap[W.heap.size]? = some (.cells #[.string s, .int .u8 fr, .int .u8 tt, .int .u8 wh] 50 (0, 0)) := by rw [← hwa]; exact heap_alloc_new W _
    have i0 := cell_of (j := 0) ta rfl
    have i1 := cell_of (j := 1) ta rfl
    have i2 := cell_of (j := 2) ta rfl
    have i3 := cell_of (j := 3) ta rfl
    have HBA := Lib.hid hba
    clear hwa hba ta
    go_quiet (fail)
    obtain ⟨wb, hwb⟩ : ∃ wb, wb = wa.drewN nq := ⟨_, rfl⟩
    have HBB : Hid (Below W.heap.size W wb) := by rw [hwb]; exact below_dN8 HBA.out _
    rw [← hwb]
    clear hwb i0 i1 i2 i3 HBA
    go_wp2_with fail
    refine (HS.out _).mono ?_
    rintro e w9 ⟨rfl, hb9⟩
    have HB9 := Lib.hid (HBB.out.trans (hb9.mono HBB.out.size))
    clear hb9
    go_wp2_with fail
    go_ret
    exact ⟨rfl, HB9.out⟩
  · cases hg : (charsL L).all glyphNameB with
    | false =>
      have hle : ¬ (200 : Int) < L.length := by omega
      have hn2 : L.length ≤ 2000 := by omega
      have HC := Lib.hid (fun W' => chars_any L W' hn2)
      have hcl := charsL_len L
      obtain ⟨CH, hCH⟩ : ∃ C, charsL L = C := ⟨_, rfl⟩
      rw [hCH] at hcl hg
      simp only [hCH] at HC
      have hcn : CH.length ≤ 2000 := by omega
      clear hcl
      have HSt := Lib.hid (fun W' => standard_any W')
      unfold StdP at HSt
      have HBX : Hid (∀ (g : Nat) (l : List FA) (w' : World), l.map FA.F = [FR, FI, FB, FM, FS] → Fonts (some ⟨g, 0, none⟩) l w' → ∀ (av : Option Addr) (cv : Nat), RowK encS 1 av CH w' → (∀ a, av = some a → ∃ b off, a = ⟨b, off, none⟩) → Calls Try.prog 20 #[.slice (some ⟨g, 0, none⟩) 5 5, .agg #[.int .i64 own, .int .i64 (1 + fr), .bool false, .bool false], .slice av CH.length cv, .slice none 0 0] w' (Makes (.tuple #[.slice none 0 0, .slice none 0 0, .int .i64 1]) w')) := fun g l w' hl hF av cv hr _ => by
        have h5 := std_len hl
        have := boxes_bad (some ⟨g, 0, none⟩) l 5 own (1 + fr) false av CH cv w' hF (std_valid hl) (by omega) (by unfold sizeB; rw [decide_eq_true (show 1 ≤ 1 + fr by omega), decide_eq_true (show 1 + fr ≤ 1000 by omega)]; rfl) hr hcn hg
        rw [h5] at this
        exact this
      obtain ⟨s, hs⟩ : ∃ s, mk8 L = s := ⟨_, rfl⟩
      simp only [hs] at HC
      rw [hs] at hsz hsn ⊢
      clear hs hCH hg
      go_enter Try.func6, Try.ntmps6
      go_upto_region 1 with fail
      generalize hwa : W.alloc _ = wa
      have hba : Below W.heap.size W wa := by rw [← hwa]; exact (Below.refl _ _).alloc (Nat.le_refl _) _
      have ta : wa.heap[W.heap.size]? = some (.cells #[.string s, .int .u8 fr, .int .u8 tt, .int .u8 wh] 50 (0, 0)) := by rw [← hwa]; exact heap_alloc_new W _
      have i0 := cell_of (j := 0) ta rfl
      have i1 := cell_of (j := 1) ta rfl
      have i2 := cell_of (j := 2) ta rfl
      have i3 := cell_of (j := 3) ta rfl
      have HBA := Lib.hid hba
      clear hwa hba ta
      go_quiet (fail)
      obtain ⟨wb, hwb⟩ : ∃ wb, wb = wa.drewN nq := ⟨_, rfl⟩
      have HBB : Hid (Below W.heap.size W wb) := by rw [hwb]; exact below_dN8 HBA.out _
      rw [← hwb]
      clear hwb i0 i1 i2 i3 HBA
      go_upto_region 5 with fail
      generalize hwc : wb.alloc _ = wc
      have hbc : Below wb.heap.size wb wc := by rw [← hwc]; exact (Below.refl _ _).alloc (Nat.le_refl _) _
      have tc : wc.heap[wb.heap.size]? = some (.cells #[.int .i64 own, .int .i64 (1 + fr), .bool false, .bool false] 52 (0, 0)) := by rw [← hwc]; exact heap_alloc_new wb _
      have hpl := (Array.getElem?_eq_some_iff.1 tc).1
      have HBC := Lib.hid (HBB.out.trans (hbc.mono HBB.out.size))
      obtain ⟨p, hp⟩ : ∃ p, wb.heap.size = p := ⟨_, rfl⟩
      have HPB : Hid (W.heap.size ≤ p) := by rw [← hp]; exact HBB.out.size
      rw [hp] at tc hpl
      rw [hp]
      have HTC := Lib.hid tc
      have s0 := cell_of (j := 0) tc rfl
      have s1 := cell_of (j := 1) tc rfl
      have s2 := cell_of (j := 2) tc rfl
      have s3 := cell_of (j := 3) tc rfl
      clear hwc hbc tc hp HBB
      refine wp_region_held_drew (S := fun w' => Below wc.heap.size wc w') (by kernel_rfl) ?_ (fun hHeld => ?_)
      · exact (Below.refl _ _).drew
      refine' wpAnyH_take (i := 1) (oi := _) (v := _) ?hi1 (by kernel_rfl) (by kernel_rfl) (by kernel_rfl) ?hQ1 (Or.inl ⟨?hw1, ?hy1⟩) hHeld ?rest1
      case hi1 => simp only [List.getElem?_toArray, List.getElem?_cons_succ, List.getElem?_cons_zero]; rfl
      case hQ1 => exact fun _ _ _ h => h
      case hw1 => rfl
      case hy1 =>
        intro w hSw
        try dsimp only at hSw
        have s0' := (hSw.cell (p := ⟨p, 0, none⟩) hpl).trans s0
        have s1' := (hSw.cell (p := ⟨p, 1, none⟩) hpl).trans s1
        have s2' := (hSw.cell (p := ⟨p, 2, none⟩) hpl).trans s2
        have s3' := (hSw.cell (p := ⟨p, 3, none⟩) hpl).trans s3
        clear hSw
        go_simp
        all_goals with_reducible rfl
      try simp only [Act.put, List.setIfInBounds_toArray, List.set_cons_zero, List.set_cons_succ]
      refine' wpAnyH_take (i := 2) (oi := _) (v := _) ?hi2 (by kernel_rfl) (by kernel_rfl) (by kernel_rfl) ?hQ2 (Or.inl ⟨?hw2, ?hy2⟩) hHeld ?rest2
      case hi2 => simp only [List.getElem?_toArray, List.getElem?_cons_succ, List.getElem?_cons_zero]; rfl
      case hQ2 => exact fun _ _ _ h => h
      case hw2 => rfl
      case hy2 =>
        intro w hSw
        try dsimp only at hSw
        go_simp
        all_goals with_reducible rfl
      try simp only [Act.put, List.setIfInBounds_toArray, List.set_cons_zero, List.set_cons_succ]
      refine wpAnyH_ready (rs := [0]) (by kernel_rfl) (by simp) ?_
      refine' AllReadyH.cons (o := _) ?ha12 (fun K hK => ?sa12) ?ma12
      case ha12 => simp only [List.getElem?_toArray, List.getElem?_cons_zero]; rfl
      case ma12 => exact AllReadyH.nil
      case sa12 =>
        go_simp
        go_at_call 9
        refine (HSt.out _).mono ?_
        rintro e v1 ⟨g, l, rfl, hl, hr, hok, hb⟩
        have HL := Lib.hid hl
        have HFo := Lib.hid (std_fonts hl hr hok)
        have hbk := hHeld.trans (hb.mono hHeld.size)
        clear hl hr hok hb
        go_wp2_with fail
        refine hK.out _ _ ?_ (fun hHeld => ?_)
        · exact hbk
        clear hK K
        try simp only [Act.put, List.setIfInBounds_toArray, List.set_cons_zero, List.set_cons_succ]
        clear hbk
        refine wpAnyH_ready (rs := [3]) (by kernel_rfl) (by simp) ?_
        refine' AllReadyH.cons (o := _) ?ha11 (fun K hK => ?sa11) ?ma11
        case ha11 => simp only [List.getElem?_toArray, List.getElem?_cons_succ, List.getElem?_cons_zero]; rfl
        case ma11 => exact AllReadyH.nil
        case sa11 =>
          go_simp
          go_at_call 21
          refine (HC.out _).mono ?_
          rintro e v2 ⟨vc, rfl, hoc, hb⟩
          obtain ⟨ac, cc, e0, hrc⟩ := own_row encS_len (by decide) hoc
          subst e0
          have HPc := Lib.hid (own_plain hoc)
          have HRc := Lib.hid hrc
          have HFo2 := Lib.hid (HFo.out.below hb)
          have hbk := hHeld.trans (hb.mono hHeld.size)
          clear hoc hrc hb HFo
          go_wp2_with fail
          refine hK.out _ _ ?_ (fun hHeld => ?_)
          · exact hbk
          clear hK K
          try simp only [Act.put, List.setIfInBounds_toArray, List.set_cons_zero, List.set_cons_succ]
          clear hbk
          refine wpAnyH_ready (rs := [4]) (by kernel_rfl) (by simp) ?_
          refine' AllReadyH.cons (o := _) ?ha10 (fun K hK => ?sa10) ?ma10
          case ha10 => simp only [List.getElem?_toArray, List.getElem?_cons_succ, List.getElem?_cons_zero]; rfl
          case ma10 => exact AllReadyH.nil
          case sa10 =>
            go_simp
            go_at_call 20
            refine (HBX.out g l _ HL.out HFo2.out ac cc HRc.out HPc.out).mono ?_
            rintro e v3 ⟨rfl, hb⟩
            have hbk := hHeld.trans (hb.mono hHeld.size)
            clear hb HPc HRc HFo2 HL
            go_wp2_with fail
            refine hK.out _ _ ?_ (fun hHeld => ?_)
            · exact hbk
            clear hK K
            try simp only [Act.put, List.setIfInBounds_toArray, List.set_cons_zero, List.set_cons_succ]
            clear hbk
            refine' wpAnyH_take (i := 5) (oi := _) (v := _) ?hi3 (by kernel_rfl) (by kernel_rfl) (by kernel_rfl) ?hQ3 (Or.inl ⟨?hw3, ?hy3⟩) hHeld ?rest3
            case hi3 => simp only [List.getElem?_toArray, List.getElem?_cons_succ, List.getElem?_cons_zero]; rfl
            case hQ3 => exact fun _ _ _ h => h
            case hw3 => rfl
            case hy3 =>
              intro w hSw
              try dsimp only at hSw
              go_simp
              all_goals with_reducible rfl
            try simp only [Act.put, List.setIfInBounds_toArray, List.set_cons_zero, List.set_cons_succ]
            refine' wpAnyH_take (i := 6) (oi := _) (v := _) ?hi4 (by kernel_rfl) (by kernel_rfl) (by kernel_rfl) ?hQ4 (Or.inl ⟨?hw4, ?hy4⟩) hHeld ?rest4
            case hi4 => simp only [List.getElem?_toArray, List.getElem?_cons_succ, List.getElem?_cons_zero]; rfl
            case hQ4 => exact fun _ _ _ h => h
            case hw4 => rfl
            case hy4 =>
              intro w hSw
              try dsimp only at hSw
              go_simp
              all_goals with_reducible rfl
            try simp only [Act.put, List.setIfInBounds_toArray, List.set_cons_zero, List.set_cons_succ]
            refine' wpAnyH_take (i := 7) (oi := _) (v := _) ?hi5 (by kernel_rfl) (by kernel_rfl) (by kernel_rfl) ?hQ5 (Or.inl ⟨?hw5, ?hy5⟩) hHeld ?rest5
            case hi5 => simp only [List.getElem?_toArray, List.getElem?_cons_succ, List.getElem?_cons_zero]; rfl
            case hQ5 => exact fun _ _ _ h => h
            case hw5 => rfl
            case hy5 =>
              intro w hSw
              try dsimp only at hSw
              go_simp
              all_goals with_reducible rfl
            try simp only [Act.put, List.setIfInBounds_toArray, List.set_cons_zero, List.set_cons_succ]
            refine' wpAnyH_take (i := 8) (oi := _) (v := _) ?hi6 (by kernel_rfl) (by kernel_rfl) (by kernel_rfl) ?hQ6 (Or.inl ⟨?hw6, ?hy6⟩) hHeld ?rest6
            case hi6 => simp only [List.getElem?_toArray, List.getElem?_cons_succ, List.getElem?_cons_zero]; rfl
            case hQ6 => exact fun _ _ _ h => h
            case hw6 => rfl
            case hy6 =>
              intro w hSw
              try dsimp only at hSw
              go_simp
              all_goals with_reducible rfl
            try simp only [Act.put, List.setIfInBounds_toArray, List.set_cons_zero, List.set_cons_succ]
            refine' wpAnyH_take (i := 9) (oi := _) (v := _) ?hi7 (by kernel_rfl) (by kernel_rfl) (by kernel_rfl) ?hQ7 (Or.inl ⟨?hw7, ?hy7⟩) hHeld ?rest7
            case hi7 => simp only [List.getElem?_toArray, List.getElem?_cons_succ, List.getElem?_cons_zero]; rfl
            case hQ7 => exact fun _ _ _ h => h
            case hw7 => rfl
            case hy7 =>
              intro w hSw
              try dsimp only at hSw
              go_simp
              all_goals with_reducible rfl
            try simp only [Act.put, List.setIfInBounds_toArray, List.set_cons_zero, List.set_cons_succ]
            refine' wpAnyH_take (i := 10) (oi := _) (v := _) ?hi8 (by kernel_rfl) (by kernel_rfl) (by kernel_rfl) ?hQ8 (Or.inl ⟨?hw8, ?hy8⟩) hHeld ?rest8
            case hi8 => simp only [List.getElem?_toArray, List.getElem?_cons_succ, List.getElem?_cons_zero]; rfl
            case hQ8 => exact fun _ _ _ h => h
            case hw8 => rfl
            case hy8 =>
              intro w hSw
              try dsimp only at hSw
              go_simp
              all_goals with_reducible rfl
            try simp only [Act.put, List.setIfInBounds_toArray, List.set_cons_zero, List.set_cons_succ]
            refine' wpAnyH_take (i := 11) (oi := _) (v := _) ?hi9 (by kernel_rfl) (by kernel_rfl) (by kernel_rfl) ?hQ9 (Or.inl ⟨?hw9, ?hy9⟩) hHeld ?rest9
            case hi9 => simp only [List.getElem?_toArray, List.getElem?_cons_succ, List.getElem?_cons_zero]; rfl
            case hQ9 => exact fun _ _ _ h => h
            case hw9 => rfl
            case hy9 =>
              intro w hSw
              try dsimp only at hSw
              go_simp
              all_goals with_reducible rfl
            try simp only [Act.put, List.setIfInBounds_toArray, List.set_cons_zero, List.set_cons_succ]
            refine wpAnyH_done (by kernel_rfl) ?_ _
            have HBE := Lib.hid (HBC.out.trans (hHeld.mono HBC.out.size))
            clear hHeld s0 s1 s2 s3
            go_wp2_with fail
            refine (HS.out _).mono ?_
            rintro e w9 ⟨rfl, hb9⟩
            have HB9 := Lib.hid (HBE.out.trans (hb9.mono HBE.out.size))
            clear hb9
            go_wp2_with fail
            go_ret
            exact ⟨rfl, HB9.out⟩
    | true =>
      have hle : ¬ (200 : Int) < L.length := by omega
      have hn2 : L.length ≤ 2000 := by omega
      have HC := Lib.hid (fun W' => chars_any L W' hn2)
      have hcl := charsL_len L
      obtain ⟨CH, hCH⟩ : ∃ C, charsL L = C := ⟨_, rfl⟩
      rw [hCH] at hcl hg
      simp only [hCH] at HC
      have hcn : CH.length ≤ 2000 := by omega
      clear hcl
      have HSt := Lib.hid (fun W' => standard_any W')
      unfold StdP at HSt
      have HBX : Hid (∀ (g : Nat) (l : List FA) (w' : World), l.map FA.F = [FR, FI, FB, FM, FS] → Fonts (some ⟨g, 0, none⟩) l w' → ∀ (av : Option Addr) (cv : Nat), RowK encS 1 av CH w' → (∀ a, av = some a → ∃ b off, a = ⟨b, off, none⟩) → Calls Try.prog 20 #[.slice (some ⟨g, 0, none⟩) 5 5, .agg #[.int .i64 own, .int .i64 (1 + fr), .bool false, .bool false], .slice av CH.length cv, .slice none 0 0] w' (fun e w'' => ∃ vb vm, e = .returned (.tuple #[vb, vm, .int .i64 0]) ∧ OwnB w'.heap.size vb (placeL L0 own (1 + fr) CH).1 w'' ∧ Below w'.heap.size w' w'')) := fun g l w' hl hF av cv hr hs => by
        have h5 := std_len hl
        have := boxes_ok (some ⟨g, 0, none⟩) l 5 own (1 + fr) false av CH cv w' hF (std_valid hl) (by omega) (by unfold sizeB; rw [decide_eq_true (show 1 ≤ 1 + fr by omega), decide_eq_true (show 1 + fr ≤ 1000 by omega)]; rfl) hr hcn hs hg
        rw [h5] at this
        refine this.mono fun e w'' ⟨vb, vm, h1, h2, _, h4⟩ => ⟨vb, vm, h1, ?_, h4⟩
        have e : placeL l own (1 + fr) (setL l own false CH) = placeL L0 own (1 + fr) CH := place_same (hl.trans L0_map.symm) own (by omega) (1 + fr) CH
        rw [e] at h2
        exact h2
      have HBY : Hid (∀ (g : Nat) (l : List FA) (w' : World), l.map FA.F = [FR, FI, FB, FM, FS] → Fonts (some ⟨g, 0, none⟩) l w' → ∀ (av : Option Addr) (cv : Nat), RowK encS 1 av CH w' → (∀ a, av = some a → ∃ b off, a = ⟨b, off, none⟩) → Calls Try.prog 20 #[.slice (some ⟨g, 0, none⟩) 5 5, .agg #[.int .i64 own, .int .i64 (1 + tt), .bool false, .bool false], .slice av CH.length cv, .slice none 0 0] w' (fun e w'' => ∃ vb vm, e = .returned (.tuple #[vb, vm, .int .i64 0]) ∧ OwnB w'.heap.size vb (placeL L0 own (1 + tt) CH).1 w'' ∧ Below w'.heap.size w' w'')) := fun g l w' hl hF av cv hr hs => by
        have h5 := std_len hl
        have := boxes_ok (some ⟨g, 0, none⟩) l 5 own (1 + tt) false av CH cv w' hF (std_valid hl) (by omega) (by unfold sizeB; rw [decide_eq_true (show 1 ≤ 1 + tt by omega), decide_eq_true (show 1 + tt ≤ 1000 by omega)]; rfl) hr hcn hs hg
        rw [h5] at this
        refine this.mono fun e w'' ⟨vb, vm, h1, h2, _, h4⟩ => ⟨vb, vm, h1, ?_, h4⟩
        have e : placeL l own (1 + tt) (setL l own false CH) = placeL L0 own (1 + tt) CH := place_same (hl.trans L0_map.symm) own (by omega) (1 + tt) CH
        rw [e] at h2
        exact h2
      have HSH : Hid (∀ (a1 : Option Addr) (c1 g : Nat) (l : List FA) (w' : World), l.map FA.F = [FR, FI, FB, FM, FS] → Fonts (some ⟨g, 0, none⟩) l w' → RowK encB 7 a1 (placeL L0 own (1 + fr) CH).1 w' → Calls Try.prog 22 #[.slice a1 (placeL L0 own (1 + fr) CH).1.length c1, .int .i64 (1 + tt), .slice (some ⟨g, 0, none⟩) 5 5] w' (fun e w'' => ∃ v, e = .returned (.tuple #[v, .int .i64 0]) ∧ OwnB w'.heap.size v (placeL L0 own (1 + tt) CH).1 w'' ∧ Below w'.heap.size w' w'')) := fun a1 c1 g l w' hl hF hr => by
        have h5 := std_len hl
        have hl0 : L0.map FA.F = l.map FA.F := L0_map.trans hl.symm
        have hfine : ∀ b ∈ (placeL L0 own (1 + fr) CH).1, Fine L0 b := place_fine L0 own (by rw [L0_len]; omega) (1 + fr) CH _ (fun b hb => absurd hb (by simp))
        have hlen : (placeL L0 own (1 + fr) CH).1.length ≤ 2000 := by have := place_len L0 own (1 + fr) CH ([], []); unfold placeL; simp only [List.length_nil] at this; omega
        have := shift_any a1 (placeL L0 own (1 + fr) CH).1 c1 (1 + tt) (some ⟨g, 0, none⟩) l 5 w' hr hlen (by unfold sizeB; rw [decide_eq_true (show 1 ≤ 1 + tt by omega), decide_eq_true (show 1 + tt ≤ 1000 by omega)]; rfl) hF (std_valid hl) (fun b hb => fine_same hl0 (hfine b hb))
        rw [h5] at this
        refine this.mono fun e w'' ⟨v, h1, h2, h3⟩ => ⟨v, h1, ?_, h3⟩
        have e : (placeL L0 own (1 + fr) CH).1.map (shiftB l (1 + tt)) = (placeL L0 own (1 + tt) CH).1 := by
          have e0 : (placeL L0 own (1 + fr) CH).1.map (shiftB L0 (1 + tt)) = (placeL L0 own (1 + tt) CH).1 := place_shift L0 own (1 + fr) (1 + tt) CH ([], []) ([], []) rfl
          rw [← e0]
          exact List.map_congr_left fun b hb => (shift_same hl0 (1 + tt) b (hfine b hb)).symm
        rw [e] at h2
        exact h2
      obtain ⟨P1, hP1⟩ : ∃ P, (placeL L0 own (1 + fr) CH).1 = P := ⟨_, rfl⟩
      have hp2 : (placeL L0 own (1 + tt) CH).1.length ≤ 1000000 := by have := place_len L0 own (1 + tt) CH ([], []); unfold placeL; simp only [List.length_nil] at this; omega
      obtain ⟨P2, hP2⟩ : ∃ P, (placeL L0 own (1 + tt) CH).1 = P := ⟨_, rfl⟩
      simp only [hP1, hP2] at HBX HBY HSH
      rw [hP2] at hp2
      clear hP1 hP2
      obtain ⟨s, hs⟩ : ∃ s, mk8 L = s := ⟨_, rfl⟩
      simp only [hs] at HC
      rw [hs] at hsz hsn ⊢
      clear hs hCH hg
      go_enter Try.func6, Try.ntmps6
      go_upto_region 1 with fail
      generalize hwa : W.alloc _ = wa
      have hba : Below W.heap.size W wa := by rw [← hwa]; exact (Below.refl _ _).alloc (Nat.le_refl _) _
      have ta : wa.heap[W.heap.size]? = some (.cells #[.string s, .int .u8 fr, .int .u8 tt, .int .u8 wh] 50 (0, 0)) := by rw [← hwa]; exact heap_alloc_new W _
      have i0 := cell_of (j := 0) ta rfl
      have i1 := cell_of (j := 1) ta rfl
      have i2 := cell_of (j := 2) ta rfl
      have i3 := cell_of (j := 3) ta rfl
      have HBA := Lib.hid hba
      clear hwa hba ta
      go_quiet (fail)
      obtain ⟨wb, hwb⟩ : ∃ wb, wb = wa.drewN nq := ⟨_, rfl⟩
      have HBB : Hid (Below W.heap.size W wb) := by rw [hwb]; exact below_dN8 HBA.out _
      rw [← hwb]
      clear hwb i0 i1 i2 i3 HBA
      go_upto_region 5 with fail
      generalize hwc : wb.alloc _ = wc
      have hbc : Below wb.heap.size wb wc := by rw [← hwc]; exact (Below.refl _ _).alloc (Nat.le_refl _) _
      have tc : wc.heap[wb.heap.size]? = some (.cells #[.int .i64 own, .int .i64 (1 + fr), .bool false, .bool false] 52 (0, 0)) := by rw [← hwc]; exact heap_alloc_new wb _
      have hpl := (Array.getElem?_eq_some_iff.1 tc).1
      have HBC := Lib.hid (HBB.out.trans (hbc.mono HBB.out.size))
      obtain ⟨p, hp⟩ : ∃ p, wb.heap.size = p := ⟨_, rfl⟩
      have HPB : Hid (W.heap.size ≤ p) := by rw [← hp]; exact HBB.out.size
      rw [hp] at tc hpl
      rw [hp]
      have HTC := Lib.hid tc
      have s0 := cell_of (j := 0) tc rfl
      have s1 := cell_of (j := 1) tc rfl
      have s2 := cell_of (j := 2) tc rfl
      have s3 := cell_of (j := 3) tc rfl
      clear hwc hbc tc hp HBB
      refine wp_region_held_drew (S := fun w' => Below wc.heap.size wc w') (by kernel_rfl) ?_ (fun hHeld => ?_)
      · exact (Below.refl _ _).drew
      refine' wpAnyH_take (i := 1) (oi := _) (v := _) ?hi13 (by kernel_rfl) (by kernel_rfl) (by kernel_rfl) ?hQ13 (Or.inl ⟨?hw13, ?hy13⟩) hHeld ?rest13
      case hi13 => simp only [List.getElem?_toArray, List.getElem?_cons_succ, List.getElem?_cons_zero]; rfl
      case hQ13 => exact fun _ _ _ h => h
      case hw13 => rfl
      case hy13 =>
        intro w hSw
        try dsimp only at hSw
        have s0' := (hSw.cell (p := ⟨p, 0, none⟩) hpl).trans s0
        have s1' := (hSw.cell (p := ⟨p, 1, none⟩) hpl).trans s1
        have s2' := (hSw.cell (p := ⟨p, 2, none⟩) hpl).trans s2
        have s3' := (hSw.cell (p := ⟨p, 3, none⟩) hpl).trans s3
        clear hSw
        go_simp
        all_goals with_reducible rfl
      try simp only [Act.put, List.setIfInBounds_toArray, List.set_cons_zero, List.set_cons_succ]
      refine' wpAnyH_take (i := 2) (oi := _) (v := _) ?hi14 (by kernel_rfl) (by kernel_rfl) (by kernel_rfl) ?hQ14 (Or.inl ⟨?hw14, ?hy14⟩) hHeld ?rest14
      case hi14 => simp only [List.getElem?_toArray, List.getElem?_cons_succ, List.getElem?_cons_zero]; rfl
      case hQ14 => exact fun _ _ _ h => h
      case hw14 => rfl
      case hy14 =>
        intro w hSw
        try dsimp only at hSw
        go_simp
        all_goals with_reducible rfl
      try simp only [Act.put, List.setIfInBounds_toArray, List.set_cons_zero, List.set_cons_succ]
      refine wpAnyH_ready (rs := [0]) (by kernel_rfl) (by simp) ?_
      refine' AllReadyH.cons (o := _) ?ha24 (fun K hK => ?sa24) ?ma24
      case ha24 => simp only [List.getElem?_toArray, List.getElem?_cons_zero]; rfl
      case ma24 => exact AllReadyH.nil
      case sa24 =>
        go_simp
        go_at_call 9
        refine (HSt.out _).mono ?_
        rintro e v1 ⟨g, l, rfl, hl, hr, hok, hb⟩
        have HL := Lib.hid hl
        have HFo := Lib.hid (std_fonts hl hr hok)
        have hbk := hHeld.trans (hb.mono hHeld.size)
        clear hl hr hok hb
        go_wp2_with fail
        refine hK.out _ _ ?_ (fun hHeld => ?_)
        · exact hbk
        clear hK K
        try simp only [Act.put, List.setIfInBounds_toArray, List.set_cons_zero, List.set_cons_succ]
        clear hbk
        refine wpAnyH_ready (rs := [3]) (by kernel_rfl) (by simp) ?_
        refine' AllReadyH.cons (o := _) ?ha23 (fun K hK => ?sa23) ?ma23
        case ha23 => simp only [List.getElem?_toArray, List.getElem?_cons_succ, List.getElem?_cons_zero]; rfl
        case ma23 => exact AllReadyH.nil
        case sa23 =>
          go_simp
          go_at_call 21
          refine (HC.out _).mono ?_
          rintro e v2 ⟨vc, rfl, hoc, hb⟩
          obtain ⟨ac, cc, e0, hrc⟩ := own_row encS_len (by decide) hoc
          subst e0
          have HPc := Lib.hid (own_plain hoc)
          have HRc := Lib.hid hrc
          have HFo2 := Lib.hid (HFo.out.below hb)
          have hbk := hHeld.trans (hb.mono hHeld.size)
          clear hoc hrc hb HFo
          go_wp2_with fail
          refine hK.out _ _ ?_ (fun hHeld => ?_)
          · exact hbk
          clear hK K
          try simp only [Act.put, List.setIfInBounds_toArray, List.set_cons_zero, List.set_cons_succ]
          clear hbk
          refine wpAnyH_ready (rs := [4]) (by kernel_rfl) (by simp) ?_
          refine' AllReadyH.cons (o := _) ?ha22 (fun K hK => ?sa22) ?ma22
          case ha22 => simp only [List.getElem?_toArray, List.getElem?_cons_succ, List.getElem?_cons_zero]; rfl
          case ma22 => exact AllReadyH.nil
          case sa22 =>
            go_simp
            go_at_call 20
            refine (HBX.out g l _ HL.out HFo2.out ac cc HRc.out HPc.out).mono ?_
            rintro e v3 ⟨vb, vm, rfl, hob, hb⟩
            obtain ⟨ab, cb, e0, hrb⟩ := own_row encB_len (by decide) hob
            subst e0
            have HRB := Lib.hid hrb
            clear hob hrb
            have hbk := hHeld.trans (hb.mono hHeld.size)
            clear hb HPc HRc HFo2 HL
            go_wp2_with fail
            refine hK.out _ _ ?_ (fun hHeld => ?_)
            · exact hbk
            clear hK K
            try simp only [Act.put, List.setIfInBounds_toArray, List.set_cons_zero, List.set_cons_succ]
            clear hbk
            refine' wpAnyH_take (i := 5) (oi := _) (v := _) ?hi15 (by kernel_rfl) (by kernel_rfl) (by kernel_rfl) ?hQ15 (Or.inl ⟨?hw15, ?hy15⟩) hHeld ?rest15
            case hi15 => simp only [List.getElem?_toArray, List.getElem?_cons_succ, List.getElem?_cons_zero]; rfl
            case hQ15 => exact fun _ _ _ h => h
            case hw15 => rfl
            case hy15 =>
              intro w hSw
              try dsimp only at hSw
              go_simp
              all_goals with_reducible rfl
            try simp only [Act.put, List.setIfInBounds_toArray, List.set_cons_zero, List.set_cons_succ]
            refine' wpAnyH_take (i := 6) (oi := _) (v := _) ?hi16 (by kernel_rfl) (by kernel_rfl) (by kernel_rfl) ?hQ16 (Or.inl ⟨?hw16, ?hy16⟩) hHeld ?rest16
            case hi16 => simp only [List.getElem?_toArray, List.getElem?_cons_succ, List.getElem?_cons_zero]; rfl
            case hQ16 => exact fun _ _ _ h => h
            case hw16 => rfl
            case hy16 =>
              intro w hSw
              try dsimp only at hSw
              go_simp
              all_goals with_reducible rfl
            try simp only [Act.put, List.setIfInBounds_toArray, List.set_cons_zero, List.set_cons_succ]
            refine' wpAnyH_take (i := 7) (oi := _) (v := _) ?hi17 (by kernel_rfl) (by kernel_rfl) (by kernel_rfl) ?hQ17 (Or.inl ⟨?hw17, ?hy17⟩) hHeld ?rest17
            case hi17 => simp only [List.getElem?_toArray, List.getElem?_cons_succ, List.getElem?_cons_zero]; rfl
            case hQ17 => exact fun _ _ _ h => h
            case hw17 => rfl
            case hy17 =>
              intro w hSw
              try dsimp only at hSw
              go_simp
              all_goals with_reducible rfl
            try simp only [Act.put, List.setIfInBounds_toArray, List.set_cons_zero, List.set_cons_succ]
            refine' wpAnyH_take (i := 8) (oi := _) (v := _) ?hi18 (by kernel_rfl) (by kernel_rfl) (by kernel_rfl) ?hQ18 (Or.inl ⟨?hw18, ?hy18⟩) hHeld ?rest18
            case hi18 => simp only [List.getElem?_toArray, List.getElem?_cons_succ, List.getElem?_cons_zero]; rfl
            case hQ18 => exact fun _ _ _ h => h
            case hw18 => rfl
            case hy18 =>
              intro w hSw
              try dsimp only at hSw
              go_simp
              all_goals with_reducible rfl
            try simp only [Act.put, List.setIfInBounds_toArray, List.set_cons_zero, List.set_cons_succ]
            refine' wpAnyH_take (i := 9) (oi := _) (v := _) ?hi19 (by kernel_rfl) (by kernel_rfl) (by kernel_rfl) ?hQ19 (Or.inl ⟨?hw19, ?hy19⟩) hHeld ?rest19
            case hi19 => simp only [List.getElem?_toArray, List.getElem?_cons_succ, List.getElem?_cons_zero]; rfl
            case hQ19 => exact fun _ _ _ h => h
            case hw19 => rfl
            case hy19 =>
              intro w hSw
              try dsimp only at hSw
              go_simp
              all_goals with_reducible rfl
            try simp only [Act.put, List.setIfInBounds_toArray, List.set_cons_zero, List.set_cons_succ]
            refine' wpAnyH_take (i := 10) (oi := _) (v := _) ?hi20 (by kernel_rfl) (by kernel_rfl) (by kernel_rfl) ?hQ20 (Or.inl ⟨?hw20, ?hy20⟩) hHeld ?rest20
            case hi20 => simp only [List.getElem?_toArray, List.getElem?_cons_succ, List.getElem?_cons_zero]; rfl
            case hQ20 => exact fun _ _ _ h => h
            case hw20 => rfl
            case hy20 =>
              intro w hSw
              try dsimp only at hSw
              go_simp
              all_goals with_reducible rfl
            try simp only [Act.put, List.setIfInBounds_toArray, List.set_cons_zero, List.set_cons_succ]
            refine' wpAnyH_take (i := 11) (oi := _) (v := _) ?hi21 (by kernel_rfl) (by kernel_rfl) (by kernel_rfl) ?hQ21 (Or.inl ⟨?hw21, ?hy21⟩) hHeld ?rest21
            case hi21 => simp only [List.getElem?_toArray, List.getElem?_cons_succ, List.getElem?_cons_zero]; rfl
            case hQ21 => exact fun _ _ _ h => h
            case hw21 => rfl
            case hy21 =>
              intro w hSw
              try dsimp only at hSw
              go_simp
              all_goals with_reducible rfl
            try simp only [Act.put, List.setIfInBounds_toArray, List.set_cons_zero, List.set_cons_succ]
            refine wpAnyH_done (by kernel_rfl) ?_ _
            have HB3 := Lib.hid (HBC.out.trans (hHeld.mono HBC.out.size))
            have HT3 : Hid (v3.heap[p]? = some (.cells #[.int .i64 own, .int .i64 (1 + fr), .bool false, .bool false] 52 (0, 0))) := by show _ = _; rw [hHeld.block p hpl]; exact HTC.out
            clear hHeld s0 s1 s2 s3 HTC hpl HBC
            go_wp2_with fail
            refine (HSt.out _).mono ?_
            rintro e w4 ⟨g, l, rfl, hl, hr, hok, hb4⟩
            have HL := Lib.hid hl
            have HFo := Lib.hid (std_fonts hl hr hok)
            have HRB4 := Lib.hid (HRB.out.below hb4)
            have HB4 := Lib.hid (HB3.out.trans (hb4.mono HB3.out.size))
            have HT4 : Hid (w4.heap[p]? = some (.cells #[.int .i64 own, .int .i64 (1 + fr), .bool false, .bool false] 52 (0, 0))) := by show _ = _; rw [hb4.block p (Array.getElem?_eq_some_iff.1 HT3.out).1]; exact HT3.out
            clear hl hr hok hb4 HRB HB3 HT3
            go_wp2_with fail
            refine (HSH.out ab cb g l w4 HL.out HFo.out HRB4.out).mono ?_
            rintro e w5 ⟨vs, rfl, hos, hb5⟩
            obtain ⟨as', cs, e0, hrs⟩ := own_row encB_len (by decide) hos
            subst e0
            have HOS := Lib.hid hos
            have hp4 : p < w4.heap.size := (Array.getElem?_eq_some_iff.1 HT4.out).1
            have HAP : Hid (RowK encB 7 as' P2 (w5.setCell ⟨p, 1, none⟩ (.int .i64 (1 + tt)))) := by
              obtain ⟨a2, c2, e, hr⟩ := own_row encB_len (by decide) (owns_of_block HOS.out (W1 := w5.setCell ⟨p, 1, none⟩ (.int .i64 (1 + tt))) (fun j hj => Below.heap_setCell _ _ _ _ (by have := (HOS.out.lt j hj).1; simp; omega)))
              injection e with e1 _ _
              rw [e1]
              exact hr
            have HB5 := Lib.hid (HB4.out.trans (hb5.mono HB4.out.size))
            have t5 : w5.heap[p]? = some (.cells #[.int .i64 own, .int .i64 (1 + fr), .bool false, .bool false] 52 (0, 0)) := by rw [hb5.block p (Array.getElem?_eq_some_iff.1 HT4.out).1]; exact HT4.out
            have HT5 := Lib.hid t5
            have s1 := cell_of (j := 1) t5 rfl
            have d1 := frozen_of (j := 1) t5
            clear hos hrs hb5 HB4 HT4 HL HFo HRB4 t5 HOS hp4
            go_upto_region 10 with fail
            have k1 : (w5.setCell ⟨p, 1, none⟩ (.int .i64 (1 + tt))).heap[p]? = some (.cells #[.int .i64 own, .int .i64 (1 + tt), .bool false, .bool false] 52 (0, 0)) := by simpa using heap_setCell_c HT5.out 1 (.int .i64 (1 + tt))
            have HB6 : Hid (Below W.heap.size W (w5.setCell ⟨p, 1, none⟩ (.int .i64 (1 + tt)))) := below_setA HB5.out HPB.out
            have HRS6 : Hid (RowK encB 7 as' P2 (w5.setCell ⟨p, 1, none⟩ (.int .i64 (1 + tt)))) := HAP.out
            clear s1 d1 HT5 HB5 HAP
            generalize w5.setCell ⟨p, 1, none⟩ (.int .i64 (1 + tt)) = w6 at k1 HB6 HRS6 ⊢
            have hpl := (Array.getElem?_eq_some_iff.1 k1).1
            have s0 := cell_of (j := 0) k1 rfl
            have s1 := cell_of (j := 1) k1 rfl
            have s2 := cell_of (j := 2) k1 rfl
            have s3 := cell_of (j := 3) k1 rfl
            clear k1
            refine wp_region_held_drew (S := fun w' => Below w6.heap.size w6 w') (by kernel_rfl) ?_ (fun hHeld => ?_)
            · exact (Below.refl _ _).drew
            refine' wpAnyH_take (i := 1) (oi := _) (v := _) ?hi25 (by kernel_rfl) (by kernel_rfl) (by kernel_rfl) ?hQ25 (Or.inl ⟨?hw25, ?hy25⟩) hHeld ?rest25
            case hi25 => simp only [List.getElem?_toArray, List.getElem?_cons_succ, List.getElem?_cons_zero]; rfl
            case hQ25 => exact fun _ _ _ h => h
            case hw25 => rfl
            case hy25 =>
              intro w hSw
              try dsimp only at hSw
              have s0' := (hSw.cell (p := ⟨p, 0, none⟩) hpl).trans s0
              have s1' := (hSw.cell (p := ⟨p, 1, none⟩) hpl).trans s1
              have s2' := (hSw.cell (p := ⟨p, 2, none⟩) hpl).trans s2
              have s3' := (hSw.cell (p := ⟨p, 3, none⟩) hpl).trans s3
              clear hSw
              go_simp
              all_goals with_reducible rfl
            try simp only [Act.put, List.setIfInBounds_toArray, List.set_cons_zero, List.set_cons_succ]
            refine' wpAnyH_take (i := 2) (oi := _) (v := _) ?hi26 (by kernel_rfl) (by kernel_rfl) (by kernel_rfl) ?hQ26 (Or.inl ⟨?hw26, ?hy26⟩) hHeld ?rest26
            case hi26 => simp only [List.getElem?_toArray, List.getElem?_cons_succ, List.getElem?_cons_zero]; rfl
            case hQ26 => exact fun _ _ _ h => h
            case hw26 => rfl
            case hy26 =>
              intro w hSw
              try dsimp only at hSw
              go_simp
              all_goals with_reducible rfl
            try simp only [Act.put, List.setIfInBounds_toArray, List.set_cons_zero, List.set_cons_succ]
            refine wpAnyH_ready (rs := [0]) (by kernel_rfl) (by simp) ?_
            refine' AllReadyH.cons (o := _) ?ha36 (fun K hK => ?sa36) ?ma36
            case ha36 => simp only [List.getElem?_toArray, List.getElem?_cons_zero]; rfl
            case ma36 => exact AllReadyH.nil
            case sa36 =>
              go_simp
              go_at_call 9
              refine (HSt.out _).mono ?_
              rintro e v1 ⟨g, l, rfl, hl, hr, hok, hb⟩
              have HL := Lib.hid hl
              have HFo := Lib.hid (std_fonts hl hr hok)
              have hbk := hHeld.trans (hb.mono hHeld.size)
              clear hl hr hok hb
              go_wp2_with fail
              refine hK.out _ _ ?_ (fun hHeld => ?_)
              · exact hbk
              clear hK K
              try simp only [Act.put, List.setIfInBounds_toArray, List.set_cons_zero, List.set_cons_succ]
              clear hbk
              refine wpAnyH_ready (rs := [3]) (by kernel_rfl) (by simp) ?_
              refine' AllReadyH.cons (o := _) ?ha35 (fun K hK => ?sa35) ?ma35
              case ha35 => simp only [List.getElem?_toArray, List.getElem?_cons_succ, List.getElem?_cons_zero]; rfl
              case ma35 => exact AllReadyH.nil
              case sa35 =>
                go_simp
                go_at_call 21
                refine (HC.out _).mono ?_
                rintro e v2 ⟨vc, rfl, hoc, hb⟩
                obtain ⟨ac, cc, e0, hrc⟩ := own_row encS_len (by decide) hoc
                subst e0
                have HPc := Lib.hid (own_plain hoc)
                have HRc := Lib.hid hrc
                have HFo2 := Lib.hid (HFo.out.below hb)
                have hbk := hHeld.trans (hb.mono hHeld.size)
                clear hoc hrc hb HFo
                go_wp2_with fail
                refine hK.out _ _ ?_ (fun hHeld => ?_)
                · exact hbk
                clear hK K
                try simp only [Act.put, List.setIfInBounds_toArray, List.set_cons_zero, List.set_cons_succ]
                clear hbk
                refine wpAnyH_ready (rs := [4]) (by kernel_rfl) (by simp) ?_
                refine' AllReadyH.cons (o := _) ?ha34 (fun K hK => ?sa34) ?ma34
                case ha34 => simp only [List.getElem?_toArray, List.getElem?_cons_succ, List.getElem?_cons_zero]; rfl
                case ma34 => exact AllReadyH.nil
                case sa34 =>
                  go_simp
                  go_at_call 20
                  refine (HBY.out g l _ HL.out HFo2.out ac cc HRc.out HPc.out).mono ?_
                  rintro e v3 ⟨vb, vm, rfl, hob, hb⟩
                  obtain ⟨ay, cy, e0, hry⟩ := own_row encB_len (by decide) hob
                  subst e0
                  have HRY := Lib.hid hry
                  clear hob hry
                  have hbk := hHeld.trans (hb.mono hHeld.size)
                  clear hb HPc HRc HFo2 HL
                  go_wp2_with fail
                  refine hK.out _ _ ?_ (fun hHeld => ?_)
                  · exact hbk
                  clear hK K
                  try simp only [Act.put, List.setIfInBounds_toArray, List.set_cons_zero, List.set_cons_succ]
                  clear hbk
                  refine' wpAnyH_take (i := 5) (oi := _) (v := _) ?hi27 (by kernel_rfl) (by kernel_rfl) (by kernel_rfl) ?hQ27 (Or.inl ⟨?hw27, ?hy27⟩) hHeld ?rest27
                  case hi27 => simp only [List.getElem?_toArray, List.getElem?_cons_succ, List.getElem?_cons_zero]; rfl
                  case hQ27 => exact fun _ _ _ h => h
                  case hw27 => rfl
                  case hy27 =>
                    intro w hSw
                    try dsimp only at hSw
                    go_simp
                    all_goals with_reducible rfl
                  try simp only [Act.put, List.setIfInBounds_toArray, List.set_cons_zero, List.set_cons_succ]
                  refine' wpAnyH_take (i := 6) (oi := _) (v := _) ?hi28 (by kernel_rfl) (by kernel_rfl) (by kernel_rfl) ?hQ28 (Or.inl ⟨?hw28, ?hy28⟩) hHeld ?rest28
                  case hi28 => simp only [List.getElem?_toArray, List.getElem?_cons_succ, List.getElem?_cons_zero]; rfl
                  case hQ28 => exact fun _ _ _ h => h
                  case hw28 => rfl
                  case hy28 =>
                    intro w hSw
                    try dsimp only at hSw
                    go_simp
                    all_goals with_reducible rfl
                  try simp only [Act.put, List.setIfInBounds_toArray, List.set_cons_zero, List.set_cons_succ]
                  refine' wpAnyH_take (i := 7) (oi := _) (v := _) ?hi29 (by kernel_rfl) (by kernel_rfl) (by kernel_rfl) ?hQ29 (Or.inl ⟨?hw29, ?hy29⟩) hHeld ?rest29
                  case hi29 => simp only [List.getElem?_toArray, List.getElem?_cons_succ, List.getElem?_cons_zero]; rfl
                  case hQ29 => exact fun _ _ _ h => h
                  case hw29 => rfl
                  case hy29 =>
                    intro w hSw
                    try dsimp only at hSw
                    go_simp
                    all_goals with_reducible rfl
                  try simp only [Act.put, List.setIfInBounds_toArray, List.set_cons_zero, List.set_cons_succ]
                  refine' wpAnyH_take (i := 8) (oi := _) (v := _) ?hi30 (by kernel_rfl) (by kernel_rfl) (by kernel_rfl) ?hQ30 (Or.inl ⟨?hw30, ?hy30⟩) hHeld ?rest30
                  case hi30 => simp only [List.getElem?_toArray, List.getElem?_cons_succ, List.getElem?_cons_zero]; rfl
                  case hQ30 => exact fun _ _ _ h => h
                  case hw30 => rfl
                  case hy30 =>
                    intro w hSw
                    try dsimp only at hSw
                    go_simp
                    all_goals with_reducible rfl
                  try simp only [Act.put, List.setIfInBounds_toArray, List.set_cons_zero, List.set_cons_succ]
                  refine' wpAnyH_take (i := 9) (oi := _) (v := _) ?hi31 (by kernel_rfl) (by kernel_rfl) (by kernel_rfl) ?hQ31 (Or.inl ⟨?hw31, ?hy31⟩) hHeld ?rest31
                  case hi31 => simp only [List.getElem?_toArray, List.getElem?_cons_succ, List.getElem?_cons_zero]; rfl
                  case hQ31 => exact fun _ _ _ h => h
                  case hw31 => rfl
                  case hy31 =>
                    intro w hSw
                    try dsimp only at hSw
                    go_simp
                    all_goals with_reducible rfl
                  try simp only [Act.put, List.setIfInBounds_toArray, List.set_cons_zero, List.set_cons_succ]
                  refine' wpAnyH_take (i := 10) (oi := _) (v := _) ?hi32 (by kernel_rfl) (by kernel_rfl) (by kernel_rfl) ?hQ32 (Or.inl ⟨?hw32, ?hy32⟩) hHeld ?rest32
                  case hi32 => simp only [List.getElem?_toArray, List.getElem?_cons_succ, List.getElem?_cons_zero]; rfl
                  case hQ32 => exact fun _ _ _ h => h
                  case hw32 => rfl
                  case hy32 =>
                    intro w hSw
                    try dsimp only at hSw
                    go_simp
                    all_goals with_reducible rfl
                  try simp only [Act.put, List.setIfInBounds_toArray, List.set_cons_zero, List.set_cons_succ]
                  refine' wpAnyH_take (i := 11) (oi := _) (v := _) ?hi33 (by kernel_rfl) (by kernel_rfl) (by kernel_rfl) ?hQ33 (Or.inl ⟨?hw33, ?hy33⟩) hHeld ?rest33
                  case hi33 => simp only [List.getElem?_toArray, List.getElem?_cons_succ, List.getElem?_cons_zero]; rfl
                  case hQ33 => exact fun _ _ _ h => h
                  case hw33 => rfl
                  case hy33 =>
                    intro w hSw
                    try dsimp only at hSw
                    go_simp
                    all_goals with_reducible rfl
                  try simp only [Act.put, List.setIfInBounds_toArray, List.set_cons_zero, List.set_cons_succ]
                  refine wpAnyH_done (by kernel_rfl) ?_ _
                  have HB7 := Lib.hid (HB6.out.trans (hHeld.mono HB6.out.size))
                  have HRS7 := Lib.hid (HRS6.out.below hHeld)
                  have HSM := Lib.hid (same8_refl as' ay P2 cs cy v3 HRS7.out HRY.out hp2)
                  clear hHeld s0 s1 s2 s3 hpl HRS7 HRY HB6 HRS6
                  go_wp2_with fail
                  refine HSM.out.mono ?_
                  rintro e w8 ⟨rfl, hb8⟩
                  have HB8 := Lib.hid (HB7.out.trans (hb8.mono HB7.out.size))
                  clear hb8 HSM HB7
                  go_wp2_with fail
                  refine (HS.out _).mono ?_
                  rintro e w9 ⟨rfl, hb9⟩
                  have HB9 := Lib.hid (HB8.out.trans (hb9.mono HB8.out.size))
                  clear hb9
                  go_wp2_with fail
                  go_ret
                  exact ⟨rfl, HB9.out⟩
end Go.Proofs.Ytboophfcakdlcaa
