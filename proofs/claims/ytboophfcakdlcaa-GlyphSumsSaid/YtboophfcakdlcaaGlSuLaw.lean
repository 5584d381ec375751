/- GlyphSums's law, walked. -/
import Derived.Test.YtboophfcakdlcaaGlBoxesK
import Derived.BigQuiet
import Derived.Deep.RegionHeld3
import Derived.Deep.DeepCutAuto
namespace Go.Proofs.Ytboophfcakdlcaa
open Go.RowKit Go.PlainAid Go.Shelf

theorem modZ (a : Int) (m : Nat) (hm : 0 < m) (hm2 : m ≤ 1000000) : ∃ n : Nat, wrap64 ((IntKind.u64.wrap a).tmod m) = n ∧ n < m := by
  have hu : 0 ≤ IntKind.u64.wrap a := by rw [IntKind.wrap_u64]; omega
  have e : (IntKind.u64.wrap a).tmod m = IntKind.u64.wrap a % m := Int.tmod_eq_emod_of_nonneg hu
  have l0 := Int.emod_nonneg (IntKind.u64.wrap a) (show (m : Int) ≠ 0 by omega)
  have l1 := Int.emod_lt_of_pos (IntKind.u64.wrap a) (show (0 : Int) < m by omega)
  refine ⟨(IntKind.u64.wrap a % m).toNat, ?_, by omega⟩
  rw [e, IntWalk.wrap64_in _ (by omega)]
  exact (Int.toNat_of_nonneg l0).symm
theorem below_dNs {B : Nat} {w w' : World} (h : Below B w w') (q : Nat) : Below B w (w'.drewN q) := ⟨h.os, h.tape, h.output, h.size, h.block⟩
theorem near_facts (k len : Nat) (hl : len ≤ 600) (h0 : 0 < k) (h1 : k + 1 < len) : ∃ m n : Nat, m + 1 = k ∧ k + 1 = n ∧ IntKind.i64.wrap ((k : Int) - 1) = (m : Int) ∧ IntKind.i64.wrap ((k : Int) + 1) = (n : Int) ∧ wrap64 ((k : Int) - 1) = (m : Int) ∧ wrap64 ((k : Int) + 1) = (n : Int) ∧ (0 : Int) ≤ m ∧ (m : Int) < len ∧ (0 : Int) ≤ n ∧ (n : Int) < len ∧ ((k : Int) == 0) = false ∧ ((n : Int) == (len : Int)) = false := by
  have a1 : IntKind.i64.wrap ((k : Int) - 1) = (k : Int) - 1 := IntWalk.i64_in _ (by omega)
  have a2 : IntKind.i64.wrap ((k : Int) + 1) = (k : Int) + 1 := IntWalk.i64_in _ (by omega)
  have a3 : wrap64 ((k : Int) - 1) = (k : Int) - 1 := IntWalk.wrap64_in _ (by omega)
  have a4 : wrap64 ((k : Int) + 1) = (k : Int) + 1 := IntWalk.wrap64_in _ (by omega)
  refine ⟨k - 1, k + 1, by omega, rfl, by rw [a1]; omega, by rw [a2]; omega, by rw [a3]; omega, by rw [a4]; omega, by omega, by omega, by omega, by omega, ?_, ?_⟩
  · rw [beq_eq_false_iff_ne]; omega
  · rw [beq_eq_false_iff_ne]; omega
theorem charsS_len (L : List UInt8) : (charsL L).length = L.length := by unfold charsL; rw [List.length_map]
set_option maxRecDepth 100000 in
set_option maxHeartbeats 8000000 in
theorem law_sums (L : List UInt8) (fo si : Int) (lg kn : Bool) (W : World) :
    Calls Try.prog 8 #[.string (mk8 L), .agg #[.int .i64 fo, .int .i64 si, .bool lg, .bool kn]] W (Makes (.bool true) W) := by
  have HS := Lib.hid (fun w' => sane8_any w')
  have hsz : ((mk8 L).size : Int) = L.length := by rw [mk8_size]
  have hsn : (mk8 L).size = L.length := mk8_size L
  obtain ⟨own, hown, hol⟩ := modZ fo 5 (by decide) (by decide)
  obtain ⟨z0, hz0, hzl⟩ := modZ si 1000 (by decide) (by decide)
  have hz1 : wrap64 (1 + (z0 : Int)) = 1 + z0 := IntWalk.wrap64_in _ (by omega)
  obtain ⟨z, hz, hza, hzb⟩ : ∃ z : Int, wrap64 (1 + (z0 : Int)) = z ∧ 1 ≤ z ∧ z ≤ 1000 := ⟨1 + z0, hz1, by omega, by omega⟩
  clear hz1 hzl
  have hzz : sizeB z = true := by unfold sizeB; rw [decide_eq_true hza, decide_eq_true hzb]; rfl
  simp only [Int.cast_ofNat_Int] at hown hz0
  by_cases hbig : 300 < L.length
  · obtain ⟨s, hs⟩ : ∃ s, mk8 L = s := ⟨_, rfl⟩
    rw [hs] at hsz hsn ⊢
    have hgt : (300 : Int) < L.length := by omega
    clear hs hown hz0 hz hzz
    go_enter Try.func8, Try.ntmps8
    go_upto_region 2 with fail
    generalize hwb : W.alloc _ = wb
    have HBB : Hid (Below W.heap.size W wb) := by rw [← hwb]; exact (Below.refl _ _).alloc (Nat.le_refl _) _
    clear hwb
    go_wp2_with fail
    refine (HS.out _).mono ?_
    rintro e w9 ⟨rfl, hb9⟩
    have HB9 := Lib.hid (HBB.out.trans (hb9.mono HBB.out.size))
    clear hb9
    go_wp2_with fail
    go_ret
    exact ⟨rfl, HB9.out⟩
  · cases hg : (charsL L).all glyphNameB with
    | false =>
      have hle : ¬ (300 : Int) < L.length := by omega
      have hn2 : L.length ≤ 2000 := by omega
      have HC := Lib.hid (fun W' => chars_any L W' hn2)
      have hcl := charsS_len L
      obtain ⟨CH, hCH⟩ : ∃ C, charsL L = C := ⟨_, rfl⟩
      rw [hCH] at hcl hg
      simp only [hCH] at HC
      have hcn : CH.length ≤ 300 := by omega
      clear hcl
      have HSt := Lib.hid (fun W' => standard_any W')
      unfold StdP at HSt
      have HBX : Hid (∀ (g : Nat) (l : List FA) (w' : World), l.map FA.F = [FR, FI, FB, FM, FS] → Fonts (some ⟨g, 0, none⟩) l w' → ∀ (av : Option Addr) (cv : Nat), RowK encS 1 av CH w' → (∀ a, av = some a → ∃ b off, a = ⟨b, off, none⟩) → Calls Try.prog 20 #[.slice (some ⟨g, 0, none⟩) 5 5, .agg #[.int .i64 own, .int .i64 z, .bool lg, .bool kn], .slice av CH.length cv, .slice none 0 0] w' (Makes (.tuple #[.slice none 0 0, .slice none 0 0, .int .i64 1]) w')) := fun g l w' hl hF av cv hr _ => by
        have h5 := std_len hl
        have := boxesK_bad (some ⟨g, 0, none⟩) l 5 own z lg kn av CH cv w' hF (std_valid hl) (by omega) hzz hr (by omega) hg
        rw [h5] at this
        exact this
      obtain ⟨s, hs⟩ : ∃ s, mk8 L = s := ⟨_, rfl⟩
      simp only [hs] at HC
      rw [hs] at hsz hsn ⊢
      have HZZ := Lib.hid hzz
      clear hs hCH hg hza hzb hzz
      go_enter Try.func8, Try.ntmps8
      go_upto_region 5 with fail
      generalize hwb : W.alloc _ = wb
      have hbb : Below W.heap.size W wb := by rw [← hwb]; exact (Below.refl _ _).alloc (Nat.le_refl _) _
      have tb : wb.heap[W.heap.size]? = some (.cells #[.int .i64 own, .int .i64 z, .bool lg, .bool kn] 52 (0, 0)) := by rw [← hwb]; exact heap_alloc_new W _
      obtain ⟨p, hp⟩ : ∃ p, W.heap.size = p := ⟨_, rfl⟩
      rw [hp] at tb
      rw [hp]
      have HBB := Lib.hid hbb
      have HTB := Lib.hid tb
      have HPW : Hid (W.heap.size = p) := hp
      clear hwb hbb tb hp hown hz0 hz
      go_wp2_with fail
      refine (HSt.out _).mono ?_
      rintro e wc ⟨g, l, rfl, hl, hr, hok, hbc⟩
      have HL := Lib.hid hl
      have HFo := Lib.hid (std_fonts hl hr hok)
      have HBC := Lib.hid (HBB.out.trans (hbc.mono HBB.out.size))
      have tc : wc.heap[p]? = some (.cells #[.int .i64 own, .int .i64 z, .bool lg, .bool kn] 52 (0, 0)) := by rw [hbc.block p (Array.getElem?_eq_some_iff.1 HTB.out).1]; exact HTB.out
      have hpl := (Array.getElem?_eq_some_iff.1 tc).1
      have HTC := Lib.hid tc
      have s0 := cell_of (j := 0) tc rfl
      have s1 := cell_of (j := 1) tc rfl
      have s2 := cell_of (j := 2) tc rfl
      have s3 := cell_of (j := 3) tc rfl
      clear hl hr hok hbc tc HTB HBB
      go_upto_region 6 with fail
      refine wp_region_held_drew (S := fun w' => Below wc.heap.size wc w') (by kernel_rfl) ?_ (fun hHeld => ?_)
      · exact (Below.refl _ _).drew
      refine' wpAnyH_take (i := 0) (oi := _) (v := _) ?hi1 (by kernel_rfl) (by kernel_rfl) (by kernel_rfl) ?hQ1 (Or.inl ⟨?hw1, ?hy1⟩) hHeld ?rest1
      case hi1 => simp only [List.getElem?_toArray, List.getElem?_cons_zero]; rfl
      case hQ1 => exact fun _ _ _ h => h
      case hw1 => rfl
      case hy1 =>
        intro w hSw
        try dsimp only at hSw
        go_simp
        all_goals with_reducible rfl
      try simp only [Act.put, List.setIfInBounds_toArray, List.set_cons_zero, List.set_cons_succ]
      refine' wpAnyH_take (i := 1) (oi := _) (v := _) ?hi2 (by kernel_rfl) (by kernel_rfl) (by kernel_rfl) ?hQ2 (Or.inl ⟨?hw2, ?hy2⟩) hHeld ?rest2
      case hi2 => simp only [List.getElem?_toArray, List.getElem?_cons_succ, List.getElem?_cons_zero]; rfl
      case hQ2 => exact fun _ _ _ h => h
      case hw2 => rfl
      case hy2 =>
        intro w hSw
        try dsimp only at hSw
        have s0' := (hSw.cell (p := ⟨p, 0, none⟩) hpl).trans s0
        have s1' := (hSw.cell (p := ⟨p, 1, none⟩) hpl).trans s1
        have s2' := (hSw.cell (p := ⟨p, 2, none⟩) hpl).trans s2
        have s3' := (hSw.cell (p := ⟨p, 3, none⟩) hpl).trans s3
        clear hSw
        go_simp
        all_goals with_reducible rfl
      try simp only [Act.put, List.setIfInBounds_toArray, List.set_cons_zero, List.set_cons_succ]
      refine' wpAnyH_take (i := 2) (oi := _) (v := _) ?hi3 (by kernel_rfl) (by kernel_rfl) (by kernel_rfl) ?hQ3 (Or.inl ⟨?hw3, ?hy3⟩) hHeld ?rest3
      case hi3 => simp only [List.getElem?_toArray, List.getElem?_cons_succ, List.getElem?_cons_zero]; rfl
      case hQ3 => exact fun _ _ _ h => h
      case hw3 => rfl
      case hy3 =>
        intro w hSw
        try dsimp only at hSw
        go_simp
        all_goals with_reducible rfl
      try simp only [Act.put, List.setIfInBounds_toArray, List.set_cons_zero, List.set_cons_succ]
      refine wpAnyH_ready (rs := [3]) (by kernel_rfl) (by simp) ?_
      refine' AllReadyH.cons (o := _) ?ha12 (fun K hK => ?sa12) ?ma12
      case ha12 => simp only [List.getElem?_toArray, List.getElem?_cons_succ, List.getElem?_cons_zero]; rfl
      case ma12 => exact AllReadyH.nil
      case sa12 =>
        go_simp
        go_at_call 21
        refine (HC.out _).mono ?_
        rintro e v2 ⟨vc, rfl, hoc, hb⟩
        obtain ⟨ac, cc, e0, hrc⟩ := own_row encS_len (by decide) hoc
        subst e0
        have HPc := Lib.hid (own_plain hoc)
        have HRc := Lib.hid hrc
        have hbk := hHeld.trans (hb.mono hHeld.size)
        have HFo2 := Lib.hid (HFo.out.below hbk)
        clear hoc hrc hb
        go_wp2_with fail
        refine hK.out _ _ ?_ (fun hHeld => ?_)
        · exact hbk
        clear hK K
        try simp only [Act.put, List.setIfInBounds_toArray, List.set_cons_zero, List.set_cons_succ]
        clear hbk
        refine wpAnyH_ready (rs := [4]) (by kernel_rfl) (by simp) ?_
        refine' AllReadyH.cons (o := _) ?ha11 (fun K hK => ?sa11) ?ma11
        case ha11 => simp only [List.getElem?_toArray, List.getElem?_cons_succ, List.getElem?_cons_zero]; rfl
        case ma11 => exact AllReadyH.nil
        case sa11 =>
          go_simp
          go_at_call 20
          refine (HBX.out g l _ HL.out HFo2.out ac cc HRc.out HPc.out).mono ?_
          rintro e v3 ⟨rfl, hb⟩
          have hbk := hHeld.trans (hb.mono hHeld.size)
          clear hb HPc HRc HFo2
          go_wp2_with fail
          refine hK.out _ _ ?_ (fun hHeld => ?_)
          · exact hbk
          clear hK K
          try simp only [Act.put, List.setIfInBounds_toArray, List.set_cons_zero, List.set_cons_succ]
          clear hbk
          refine' wpAnyH_take (i := 5) (oi := _) (v := _) ?hi4 (by kernel_rfl) (by kernel_rfl) (by kernel_rfl) ?hQ4 (Or.inl ⟨?hw4, ?hy4⟩) hHeld ?rest4
          case hi4 => simp only [List.getElem?_toArray, List.getElem?_cons_succ, List.getElem?_cons_zero]; rfl
          case hQ4 => exact fun _ _ _ h => h
          case hw4 => rfl
          case hy4 =>
            intro w hSw
            try dsimp only at hSw
            go_simp
            all_goals with_reducible rfl
          try simp only [Act.put, List.setIfInBounds_toArray, List.set_cons_zero, List.set_cons_succ]
          refine' wpAnyH_take (i := 6) (oi := _) (v := _) ?hi5 (by kernel_rfl) (by kernel_rfl) (by kernel_rfl) ?hQ5 (Or.inl ⟨?hw5, ?hy5⟩) hHeld ?rest5
          case hi5 => simp only [List.getElem?_toArray, List.getElem?_cons_succ, List.getElem?_cons_zero]; rfl
          case hQ5 => exact fun _ _ _ h => h
          case hw5 => rfl
          case hy5 =>
            intro w hSw
            try dsimp only at hSw
            go_simp
            all_goals with_reducible rfl
          try simp only [Act.put, List.setIfInBounds_toArray, List.set_cons_zero, List.set_cons_succ]
          refine' wpAnyH_take (i := 7) (oi := _) (v := _) ?hi6 (by kernel_rfl) (by kernel_rfl) (by kernel_rfl) ?hQ6 (Or.inl ⟨?hw6, ?hy6⟩) hHeld ?rest6
          case hi6 => simp only [List.getElem?_toArray, List.getElem?_cons_succ, List.getElem?_cons_zero]; rfl
          case hQ6 => exact fun _ _ _ h => h
          case hw6 => rfl
          case hy6 =>
            intro w hSw
            try dsimp only at hSw
            go_simp
            all_goals with_reducible rfl
          try simp only [Act.put, List.setIfInBounds_toArray, List.set_cons_zero, List.set_cons_succ]
          refine' wpAnyH_take (i := 8) (oi := _) (v := _) ?hi7 (by kernel_rfl) (by kernel_rfl) (by kernel_rfl) ?hQ7 (Or.inl ⟨?hw7, ?hy7⟩) hHeld ?rest7
          case hi7 => simp only [List.getElem?_toArray, List.getElem?_cons_succ, List.getElem?_cons_zero]; rfl
          case hQ7 => exact fun _ _ _ h => h
          case hw7 => rfl
          case hy7 =>
            intro w hSw
            try dsimp only at hSw
            go_simp
            all_goals with_reducible rfl
          try simp only [Act.put, List.setIfInBounds_toArray, List.set_cons_zero, List.set_cons_succ]
          refine' wpAnyH_take (i := 9) (oi := _) (v := _) ?hi8 (by kernel_rfl) (by kernel_rfl) (by kernel_rfl) ?hQ8 (Or.inl ⟨?hw8, ?hy8⟩) hHeld ?rest8
          case hi8 => simp only [List.getElem?_toArray, List.getElem?_cons_succ, List.getElem?_cons_zero]; rfl
          case hQ8 => exact fun _ _ _ h => h
          case hw8 => rfl
          case hy8 =>
            intro w hSw
            try dsimp only at hSw
            go_simp
            all_goals with_reducible rfl
          try simp only [Act.put, List.setIfInBounds_toArray, List.set_cons_zero, List.set_cons_succ]
          refine' wpAnyH_take (i := 10) (oi := _) (v := _) ?hi9 (by kernel_rfl) (by kernel_rfl) (by kernel_rfl) ?hQ9 (Or.inl ⟨?hw9, ?hy9⟩) hHeld ?rest9
          case hi9 => simp only [List.getElem?_toArray, List.getElem?_cons_succ, List.getElem?_cons_zero]; rfl
          case hQ9 => exact fun _ _ _ h => h
          case hw9 => rfl
          case hy9 =>
            intro w hSw
            try dsimp only at hSw
            go_simp
            all_goals with_reducible rfl
          try simp only [Act.put, List.setIfInBounds_toArray, List.set_cons_zero, List.set_cons_succ]
          refine' wpAnyH_take (i := 11) (oi := _) (v := _) ?hi10 (by kernel_rfl) (by kernel_rfl) (by kernel_rfl) ?hQ10 (Or.inl ⟨?hw10, ?hy10⟩) hHeld ?rest10
          case hi10 => simp only [List.getElem?_toArray, List.getElem?_cons_succ, List.getElem?_cons_zero]; rfl
          case hQ10 => exact fun _ _ _ h => h
          case hw10 => rfl
          case hy10 =>
            intro w hSw
            try dsimp only at hSw
            go_simp
            all_goals with_reducible rfl
          try simp only [Act.put, List.setIfInBounds_toArray, List.set_cons_zero, List.set_cons_succ]
          refine wpAnyH_done (by kernel_rfl) ?_ _
          have HBE := Lib.hid (HBC.out.trans (hHeld.mono HBC.out.size))
          clear hHeld s0 s1 s2 s3
          go_wp2_with fail
          refine (HS.out _).mono ?_
          rintro e w9 ⟨rfl, hb9⟩
          have HB9 := Lib.hid (HBE.out.trans (hb9.mono HBE.out.size))
          clear hb9
          go_wp2_with fail
          go_ret
          exact ⟨rfl, HB9.out⟩
    | true =>
      have hle : ¬ (300 : Int) < L.length := by omega
      have hn2 : L.length ≤ 2000 := by omega
      have HC := Lib.hid (fun W' => chars_any L W' hn2)
      have hcl := charsS_len L
      obtain ⟨CH, hCH⟩ : ∃ C, charsL L = C := ⟨_, rfl⟩
      rw [hCH] at hcl hg
      simp only [hCH] at HC
      have hcn : CH.length ≤ 300 := by omega
      clear hcl
      have HSt := Lib.hid (fun W' => standard_any W')
      unfold StdP at HSt
      have HBX : Hid (∀ (g : Nat) (l : List FA) (w' : World), l.map FA.F = [FR, FI, FB, FM, FS] → Fonts (some ⟨g, 0, none⟩) l w' → ∀ (av : Option Addr) (cv : Nat), RowK encS 1 av CH w' → (∀ a, av = some a → ∃ b off, a = ⟨b, off, none⟩) → Calls Try.prog 20 #[.slice (some ⟨g, 0, none⟩) 5 5, .agg #[.int .i64 own, .int .i64 z, .bool lg, .bool kn], .slice av CH.length cv, .slice none 0 0] w' (fun e w'' => ∃ vb vm, e = .returned (.tuple #[vb, vm, .int .i64 0]) ∧ OwnB w'.heap.size vb (boxK l own z lg kn CH) w'' ∧ Below w'.heap.size w' w'')) := fun g l w' hl hF av cv hr hs => by
        have h5 := std_len hl
        have := boxesK_ok (some ⟨g, 0, none⟩) l 5 own z lg kn av CH cv w' hF (std_valid hl) (by omega) hzz hr (by omega) hs hg
        rw [h5] at this
        exact this.mono fun e w'' ⟨vb, vm, h1, h2, _, h4⟩ => ⟨vb, vm, h1, h2, h4⟩
      have HGd : Hid (∀ l : List FA, l.map FA.F = [FR, FI, FB, FM, FS] → ∀ i, i < (boxK l own z lg kn CH).length → KGood l z (boxK l own z lg kn CH) i ∧ ((boxK l own z lg kn CH)[i]!.kind = 2 → kn = true)) := fun l hl => boxK_good l own (by have := std_len hl; omega) z lg kn CH
      have HLn : Hid (∀ l : List FA, (boxK l own z lg kn CH).length ≤ 600) := fun l => Nat.le_trans (boxK_len l own z lg kn CH) (by omega)
      have HKd : Hid (∀ l : List FA, l.map FA.F = [FR, FI, FB, FM, FS] → ∀ b ∈ boxK l own z lg kn CH, b.kind = 0 ∨ b.kind = 2) := fun l hl => boxK_kinds l own (by have := std_len hl; omega) z lg kn CH
      obtain ⟨s, hs⟩ : ∃ s, mk8 L = s := ⟨_, rfl⟩
      simp only [hs] at HC
      rw [hs] at hsz hsn ⊢
      have HZZ := Lib.hid hzz
      clear hs hCH hg hza hzb hzz
      go_enter Try.func8, Try.ntmps8
      go_upto_region 5 with fail
      generalize hwb : W.alloc _ = wb
      have hbb : Below W.heap.size W wb := by rw [← hwb]; exact (Below.refl _ _).alloc (Nat.le_refl _) _
      have tb : wb.heap[W.heap.size]? = some (.cells #[.int .i64 own, .int .i64 z, .bool lg, .bool kn] 52 (0, 0)) := by rw [← hwb]; exact heap_alloc_new W _
      obtain ⟨p, hp⟩ : ∃ p, W.heap.size = p := ⟨_, rfl⟩
      rw [hp] at tb
      rw [hp]
      have HBB := Lib.hid hbb
      have HTB := Lib.hid tb
      have HPW : Hid (W.heap.size = p) := hp
      clear hwb hbb tb hp hown hz0 hz
      go_wp2_with fail
      refine (HSt.out _).mono ?_
      rintro e wc ⟨g, l, rfl, hl, hr, hok, hbc⟩
      have HL := Lib.hid hl
      have HFo := Lib.hid (std_fonts hl hr hok)
      have HBC := Lib.hid (HBB.out.trans (hbc.mono HBB.out.size))
      have tc : wc.heap[p]? = some (.cells #[.int .i64 own, .int .i64 z, .bool lg, .bool kn] 52 (0, 0)) := by rw [hbc.block p (Array.getElem?_eq_some_iff.1 HTB.out).1]; exact HTB.out
      have hpl := (Array.getElem?_eq_some_iff.1 tc).1
      have HTC := Lib.hid tc
      have s0 := cell_of (j := 0) tc rfl
      have s1 := cell_of (j := 1) tc rfl
      have s2 := cell_of (j := 2) tc rfl
      have s3 := cell_of (j := 3) tc rfl
      clear hl hr hok hbc tc HTB HBB
      go_upto_region 6 with fail
      refine wp_region_held_drew (S := fun w' => Below wc.heap.size wc w') (by kernel_rfl) ?_ (fun hHeld => ?_)
      · exact (Below.refl _ _).drew
      refine' wpAnyH_take (i := 0) (oi := _) (v := _) ?hi63 (by kernel_rfl) (by kernel_rfl) (by kernel_rfl) ?hQ63 (Or.inl ⟨?hw63, ?hy63⟩) hHeld ?rest63
      case hi63 => simp only [List.getElem?_toArray, List.getElem?_cons_zero]; rfl
      case hQ63 => exact fun _ _ _ h => h
      case hw63 => rfl
      case hy63 =>
        intro w hSw
        try dsimp only at hSw
        go_simp
        all_goals with_reducible rfl
      try simp only [Act.put, List.setIfInBounds_toArray, List.set_cons_zero, List.set_cons_succ]
      refine' wpAnyH_take (i := 1) (oi := _) (v := _) ?hi64 (by kernel_rfl) (by kernel_rfl) (by kernel_rfl) ?hQ64 (Or.inl ⟨?hw64, ?hy64⟩) hHeld ?rest64
      case hi64 => simp only [List.getElem?_toArray, List.getElem?_cons_succ, List.getElem?_cons_zero]; rfl
      case hQ64 => exact fun _ _ _ h => h
      case hw64 => rfl
      case hy64 =>
        intro w hSw
        try dsimp only at hSw
        have s0' := (hSw.cell (p := ⟨p, 0, none⟩) hpl).trans s0
        have s1' := (hSw.cell (p := ⟨p, 1, none⟩) hpl).trans s1
        have s2' := (hSw.cell (p := ⟨p, 2, none⟩) hpl).trans s2
        have s3' := (hSw.cell (p := ⟨p, 3, none⟩) hpl).trans s3
        clear hSw
        go_simp
        all_goals with_reducible rfl
      try simp only [Act.put, List.setIfInBounds_toArray, List.set_cons_zero, List.set_cons_succ]
      refine' wpAnyH_take (i := 2) (oi := _) (v := _) ?hi65 (by kernel_rfl) (by kernel_rfl) (by kernel_rfl) ?hQ65 (Or.inl ⟨?hw65, ?hy65⟩) hHeld ?rest65
      case hi65 => simp only [List.getElem?_toArray, List.getElem?_cons_succ, List.getElem?_cons_zero]; rfl
      case hQ65 => exact fun _ _ _ h => h
      case hw65 => rfl
      case hy65 =>
        intro w hSw
        try dsimp only at hSw
        go_simp
        all_goals with_reducible rfl
      try simp only [Act.put, List.setIfInBounds_toArray, List.set_cons_zero, List.set_cons_succ]
      refine wpAnyH_ready (rs := [3]) (by kernel_rfl) (by simp) ?_
      refine' AllReadyH.cons (o := _) ?ha74 (fun K hK => ?sa74) ?ma74
      case ha74 => simp only [List.getElem?_toArray, List.getElem?_cons_succ, List.getElem?_cons_zero]; rfl
      case ma74 => exact AllReadyH.nil
      case sa74 =>
        go_simp
        go_at_call 21
        refine (HC.out _).mono ?_
        rintro e v2 ⟨vc, rfl, hoc, hb⟩
        obtain ⟨ac, cc, e0, hrc⟩ := own_row encS_len (by decide) hoc
        subst e0
        have HPc := Lib.hid (own_plain hoc)
        have HRc := Lib.hid hrc
        have hbk := hHeld.trans (hb.mono hHeld.size)
        have HFo2 := Lib.hid (HFo.out.below hbk)
        clear hoc hrc hb
        go_wp2_with fail
        refine hK.out _ _ ?_ (fun hHeld => ?_)
        · exact hbk
        clear hK K
        try simp only [Act.put, List.setIfInBounds_toArray, List.set_cons_zero, List.set_cons_succ]
        clear hbk
        refine wpAnyH_ready (rs := [4]) (by kernel_rfl) (by simp) ?_
        refine' AllReadyH.cons (o := _) ?ha73 (fun K hK => ?sa73) ?ma73
        case ha73 => simp only [List.getElem?_toArray, List.getElem?_cons_succ, List.getElem?_cons_zero]; rfl
        case ma73 => exact AllReadyH.nil
        case sa73 =>
          go_simp
          go_at_call 20
          refine (HBX.out g l _ HL.out HFo2.out ac cc HRc.out HPc.out).mono ?_
          rintro e v3 ⟨vb, vm, rfl, hob, hb⟩
          obtain ⟨ab, cb, e0, hrb⟩ := own_row encB_len (by decide) hob
          subst e0
          have HR := Lib.hid hrb
          have HFo3 := Lib.hid (HFo2.out.below hb)
          clear hob hrb
          have hbk := hHeld.trans (hb.mono hHeld.size)
          clear hb HPc HRc HFo2
          go_wp2_with fail
          refine hK.out _ _ ?_ (fun hHeld => ?_)
          · exact hbk
          clear hK K
          try simp only [Act.put, List.setIfInBounds_toArray, List.set_cons_zero, List.set_cons_succ]
          clear hbk
          refine' wpAnyH_take (i := 5) (oi := _) (v := _) ?hi66 (by kernel_rfl) (by kernel_rfl) (by kernel_rfl) ?hQ66 (Or.inl ⟨?hw66, ?hy66⟩) hHeld ?rest66
          case hi66 => simp only [List.getElem?_toArray, List.getElem?_cons_succ, List.getElem?_cons_zero]; rfl
          case hQ66 => exact fun _ _ _ h => h
          case hw66 => rfl
          case hy66 =>
            intro w hSw
            try dsimp only at hSw
            go_simp
            all_goals with_reducible rfl
          try simp only [Act.put, List.setIfInBounds_toArray, List.set_cons_zero, List.set_cons_succ]
          refine' wpAnyH_take (i := 6) (oi := _) (v := _) ?hi67 (by kernel_rfl) (by kernel_rfl) (by kernel_rfl) ?hQ67 (Or.inl ⟨?hw67, ?hy67⟩) hHeld ?rest67
          case hi67 => simp only [List.getElem?_toArray, List.getElem?_cons_succ, List.getElem?_cons_zero]; rfl
          case hQ67 => exact fun _ _ _ h => h
          case hw67 => rfl
          case hy67 =>
            intro w hSw
            try dsimp only at hSw
            go_simp
            all_goals with_reducible rfl
          try simp only [Act.put, List.setIfInBounds_toArray, List.set_cons_zero, List.set_cons_succ]
          refine' wpAnyH_take (i := 7) (oi := _) (v := _) ?hi68 (by kernel_rfl) (by kernel_rfl) (by kernel_rfl) ?hQ68 (Or.inl ⟨?hw68, ?hy68⟩) hHeld ?rest68
          case hi68 => simp only [List.getElem?_toArray, List.getElem?_cons_succ, List.getElem?_cons_zero]; rfl
          case hQ68 => exact fun _ _ _ h => h
          case hw68 => rfl
          case hy68 =>
            intro w hSw
            try dsimp only at hSw
            go_simp
            all_goals with_reducible rfl
          try simp only [Act.put, List.setIfInBounds_toArray, List.set_cons_zero, List.set_cons_succ]
          refine' wpAnyH_take (i := 8) (oi := _) (v := _) ?hi69 (by kernel_rfl) (by kernel_rfl) (by kernel_rfl) ?hQ69 (Or.inl ⟨?hw69, ?hy69⟩) hHeld ?rest69
          case hi69 => simp only [List.getElem?_toArray, List.getElem?_cons_succ, List.getElem?_cons_zero]; rfl
          case hQ69 => exact fun _ _ _ h => h
          case hw69 => rfl
          case hy69 =>
            intro w hSw
            try dsimp only at hSw
            go_simp
            all_goals with_reducible rfl
          try simp only [Act.put, List.setIfInBounds_toArray, List.set_cons_zero, List.set_cons_succ]
          refine' wpAnyH_take (i := 9) (oi := _) (v := _) ?hi70 (by kernel_rfl) (by kernel_rfl) (by kernel_rfl) ?hQ70 (Or.inl ⟨?hw70, ?hy70⟩) hHeld ?rest70
          case hi70 => simp only [List.getElem?_toArray, List.getElem?_cons_succ, List.getElem?_cons_zero]; rfl
          case hQ70 => exact fun _ _ _ h => h
          case hw70 => rfl
          case hy70 =>
            intro w hSw
            try dsimp only at hSw
            go_simp
            all_goals with_reducible rfl
          try simp only [Act.put, List.setIfInBounds_toArray, List.set_cons_zero, List.set_cons_succ]
          refine' wpAnyH_take (i := 10) (oi := _) (v := _) ?hi71 (by kernel_rfl) (by kernel_rfl) (by kernel_rfl) ?hQ71 (Or.inl ⟨?hw71, ?hy71⟩) hHeld ?rest71
          case hi71 => simp only [List.getElem?_toArray, List.getElem?_cons_succ, List.getElem?_cons_zero]; rfl
          case hQ71 => exact fun _ _ _ h => h
          case hw71 => rfl
          case hy71 =>
            intro w hSw
            try dsimp only at hSw
            go_simp
            all_goals with_reducible rfl
          try simp only [Act.put, List.setIfInBounds_toArray, List.set_cons_zero, List.set_cons_succ]
          refine' wpAnyH_take (i := 11) (oi := _) (v := _) ?hi72 (by kernel_rfl) (by kernel_rfl) (by kernel_rfl) ?hQ72 (Or.inl ⟨?hw72, ?hy72⟩) hHeld ?rest72
          case hi72 => simp only [List.getElem?_toArray, List.getElem?_cons_succ, List.getElem?_cons_zero]; rfl
          case hQ72 => exact fun _ _ _ h => h
          case hw72 => rfl
          case hy72 =>
            intro w hSw
            try dsimp only at hSw
            go_simp
            all_goals with_reducible rfl
          try simp only [Act.put, List.setIfInBounds_toArray, List.set_cons_zero, List.set_cons_succ]
          refine wpAnyH_done (by kernel_rfl) ?_ _
          have HB3 := Lib.hid (HBC.out.trans (hHeld.mono HBC.out.size))
          have HT3 : Hid (v3.heap[p]? = some (.cells #[.int .i64 own, .int .i64 z, .bool lg, .bool kn] 52 (0, 0))) := by show _ = _; rw [hHeld.block p hpl]; exact HTC.out
          have HG := Lib.hid (HGd.out l HL.out)
          have HK2 := Lib.hid (HKd.out l HL.out)
          have HN := Lib.hid (HLn.out l)
          obtain ⟨BS, hBS⟩ : ∃ B, boxK l own z lg kn CH = B := ⟨_, rfl⟩
          simp only [hBS] at HR HG HK2 HN ⊢
          have HL5 := Lib.hid (std_len HL.out)
          have HV := Lib.hid (std_valid HL.out)
          have HKe : Hid (∀ (x : FA), x ∈ l → ∀ (a b : List UInt8) (W' : World), Below v3.heap.size v3 W' → Calls Try.prog 27 #[fontVal x, .string (mk8 a), .string (mk8 b), .int .i64 z] W' (Makes (.tuple #[.int .i64 (kernL x.F.ks a b z), .int .i64 0]) W')) := fun x hx a b W' hb => kern_any x a b z W' ((HFo3.out.ok x hx).below hb) (HV.out x hx) HZZ.out
          have HWi : Hid (∀ (x : FA), x ∈ l → ∀ (a : List UInt8) (W' : World), Below v3.heap.size v3 W' → hasB x.F.gs a = true → Calls Try.prog 18 #[fontVal x, .string (mk8 a), .int .i64 z] W' (Makes (.tuple #[.int .i64 (scaleZ (widL x.F.gs a) z), .int .i64 0]) W')) := fun x hx a W' hb hh => width_has x a z W' ((HFo3.out.ok x hx).below hb) (HV.out x hx) HZZ.out hh
          have HWs : Hid (∀ W', Below v3.heap.size v3 W' → Calls Try.prog 28 #[.slice ab BS.length cb] W' (Makes (.int .i64 (sumW BS BS.length)) W')) := fun W' hb => width_row ab BS cb W' (HR.out.below hb) (Nat.le_trans HN.out (by decide)) HK2.out
          obtain ⟨fb, f0, hge, hfb, hfc⟩ := HFo3.out.at_
          injection hge with hge
          injection hge with e1 e2 _
          subst fb f0
          have HFC := Lib.hid hfc
          have hgn := HN.out
          clear hHeld s0 s1 s2 s3 hBS HTC hpl HBC HBX HGd HKd HLn HC HSt HFo HFo3 HL hfc HV HZZ hcn hn2 hle
          go_wp2_with fail
          go_loopw [9, 10] (fun n i wr => ∃ k : Nat, k ≤ BS.length ∧ n = .int .i64 (sumW BS k) ∧ i = .int .i64 k ∧ Hid (Below v3.heap.size v3 wr)) (fun _ i _ => BS.length - (intOf i).toNat)
          case atStart => exact ⟨0, by omega, rfl, rfl, Below.refl _ _⟩
          case round =>
            obtain ⟨k, hk, rfl, rfl, hbl⟩ := hrel
            have HBL := Lib.hid hbl.out
            replace hbl := hbl.out
            by_cases hlt : k < BS.length
            · have HLT := Lib.hid hlt
              obtain ⟨b2, o2, ha2, hc2⟩ := HR.out.below hbl
              obtain ⟨rfl, hb2⟩ := ha2 (by omega)
              have hp2 : p < wr.heap.size := Nat.lt_of_lt_of_le (Array.getElem?_eq_some_iff.1 HT3.out).1 hbl.size
              have hgd := HG.out k hlt
              have hx := hc2 k hlt
              have hz1 : (k : Int) < BS.length := by omega
              have hz0 : (0 : Int) ≤ k := by omega
              have hse : sumW BS (k + 1) = wrap64 (sumW BS k + BS[k]!.wd) := rfl
              obtain ⟨S0, hS0⟩ : ∃ S, sumW BS k = S := ⟨_, rfl⟩
              rw [hS0] at hse ⊢
              unfold KGood at hgd
              have tr : wr.heap[p]? = some (.cells #[.int .i64 own, .int .i64 z, .bool lg, .bool kn] 52 (0, 0)) := by rw [hbl.block p (Array.getElem?_eq_some_iff.1 HT3.out).1]; exact HT3.out
              have y1 := cell_of (j := 1) tr rfl
              have y3 := cell_of (j := 3) tr rfl
              clear ha2 hS0 tr
              rcases hgd with ⟨⟨e1, e2, e3, e4, e5, e6⟩ | ⟨e1, e2, e3⟩, ekn⟩
              · have ekn := ekn e1
                subst kn
                obtain ⟨m, n, hm, hn, hkm, hkn, hkm', hkn', hm0, hm1, hn0, hn1, hk0, hk3⟩ := near_facts k BS.length hgn e2 e3
                have hmk : k - 1 = m := by rw [← hm, Nat.add_sub_cancel]
                rw [hmk] at e4 e5
                rw [hn] at e3 e5
                clear hmk
                obtain ⟨_, h, ef, hhl, _⟩ := e4
                have hpx := hc2 m (Int.ofNat_lt.1 hm1)
                have hnx := hc2 n e3
                obtain ⟨Y, hY⟩ : ∃ Y, BS[k]! = Y := ⟨_, rfl⟩
                obtain ⟨P, hP⟩ : ∃ Y, BS[m]! = Y := ⟨_, rfl⟩
                obtain ⟨M, hM⟩ : ∃ Y, BS[n]! = Y := ⟨_, rfl⟩
                rw [hY] at hx hse e1 e5 e6
                rw [hP] at hpx ef e5
                rw [hM] at hnx e5
                obtain ⟨kd, wd, fv, sz, nm⟩ := Y
                obtain ⟨pk, pw, pf, pz, pn⟩ := P
                obtain ⟨nk, nw, nf, nz, nn⟩ := M
                simp only at hse e1 e5 e6 ef
                subst kd pf
                simp only [Int.toNat_natCast] at e5
                have HSE := Lib.hid hse
                have HKx := Lib.hid (fun (W' : World) (hb : Below v3.heap.size v3 W') => HKe.out l[h]! (by rw [getElem!_pos l h hhl]; exact List.getElem_mem hhl) pn nn W' hb)
                simp only [← e5] at HKx
                obtain ⟨spn, hspn⟩ : ∃ s, mk8 pn = s := ⟨_, rfl⟩
                obtain ⟨snn, hsnn⟩ : ∃ s, mk8 nn = s := ⟨_, rfl⟩
                simp only [hspn, hsnn] at HKx
                have x0 := hx 0 _ rfl
                have x1 := hx 1 _ rfl
                have p2 := hpx 2 _ rfl
                have p4 := hpx 4 _ rfl
                have n4 := hnx 4 _ rfl
                simp only [Nat.add_zero] at x0 x1 p2 p4 n4
                rw [hspn] at p4
                rw [hsnn] at n4
                clear hm hn hY hP hM hx hpx hnx hc2 hse ekn hlt e2 e3 e5 hspn hsnn
                obtain ⟨X, hX⟩ : ∃ X, l[h]! = X := ⟨_, rfl⟩
                have hfx := HFC.out h hhl
                simp only [hX] at HKx
                rw [hX] at hfx
                clear hX
                obtain ⟨⟨fn, fs, fz, gs, ls, ks⟩, ag, al, ak, cg, cl, ck⟩ := X
                have g0 := hfx 0 _ rfl
                have g1 := hfx 1 _ rfl
                have g2 := hfx 2 _ rfl
                have g3 := hfx 3 _ rfl
                have g4 := hfx 4 _ rfl
                have g5 := hfx 5 _ rfl
                simp only [fontVal] at HKx
                simp only [Nat.add_zero] at g0
                generalize mk8 fn = m1 at HKx g0
                have hhz0 : (0 : Int) ≤ h := by omega
                have hhz1 : (h : Int) < 5 := by have := HL5.out; omega
                have hf2 : g < wr.heap.size := Nat.lt_of_lt_of_le hfb hbl.size
                have f0 := (hbl.cell (p := ⟨g, 0 + h * 6, none⟩) hfb).trans g0
                have f1 := (hbl.cell (p := ⟨g, 0 + h * 6 + 1, none⟩) hfb).trans g1
                have f2 := (hbl.cell (p := ⟨g, 0 + h * 6 + 2, none⟩) hfb).trans g2
                have f3 := (hbl.cell (p := ⟨g, 0 + h * 6 + 3, none⟩) hfb).trans g3
                have f4 := (hbl.cell (p := ⟨g, 0 + h * 6 + 4, none⟩) hfb).trans g4
                have f5 := (hbl.cell (p := ⟨g, 0 + h * 6 + 5, none⟩) hfb).trans g5
                simp only [Nat.zero_add] at f0 f1 f2 f3 f4 f5
                clear hfx g0 g1 g2 g3 g4 g5
                go_upto_region 16 with fail
                clear hk0 hk3
                refine wp_region_held_drew (S := fun w' => Below wr.heap.size wr w') (by kernel_rfl) ?_ (fun hHeld => ?_)
                · exact (Below.refl _ _).drew
                refine' wpAnyH_take (i := 0) (oi := _) (v := _) ?hi13 (by kernel_rfl) (by kernel_rfl) (by kernel_rfl) ?hQ13 (Or.inl ⟨?hw13, ?hy13⟩) hHeld ?rest13
                case hi13 => simp only [List.getElem?_toArray, List.getElem?_cons_zero]; rfl
                case hQ13 => exact fun _ _ _ h => h
                case hw13 => rfl
                case hy13 =>
                  intro w hSw
                  try dsimp only at hSw
                  go_simp
                  all_goals with_reducible rfl
                try simp only [Act.put, List.setIfInBounds_toArray, List.set_cons_zero, List.set_cons_succ]
                refine' wpAnyH_take (i := 1) (oi := _) (v := _) ?hi14 (by kernel_rfl) (by kernel_rfl) (by kernel_rfl) ?hQ14 (Or.inl ⟨?hw14, ?hy14⟩) hHeld ?rest14
                case hi14 => simp only [List.getElem?_toArray, List.getElem?_cons_succ, List.getElem?_cons_zero]; rfl
                case hQ14 => exact fun _ _ _ h => h
                case hw14 => rfl
                case hy14 =>
                  intro w hSw
                  try dsimp only at hSw
                  go_simp
                  all_goals with_reducible rfl
                try simp only [Act.put, List.setIfInBounds_toArray, List.set_cons_zero, List.set_cons_succ]
                refine' wpAnyH_take (i := 2) (oi := _) (v := _) ?hi15 (by kernel_rfl) (by kernel_rfl) (by kernel_rfl) ?hQ15 (Or.inl ⟨?hw15, ?hy15⟩) hHeld ?rest15
                case hi15 => simp only [List.getElem?_toArray, List.getElem?_cons_succ, List.getElem?_cons_zero]; rfl
                case hQ15 => exact fun _ _ _ h => h
                case hw15 => rfl
                case hy15 =>
                  intro w hSw
                  try dsimp only at hSw
                  go_simp
                  all_goals with_reducible rfl
                try simp only [Act.put, List.setIfInBounds_toArray, List.set_cons_zero, List.set_cons_succ]
                refine' wpAnyH_take (i := 3) (oi := _) (v := _) ?hi16 (by kernel_rfl) (by kernel_rfl) (by kernel_rfl) ?hQ16 (Or.inl ⟨?hw16, ?hy16⟩) hHeld ?rest16
                case hi16 => simp only [List.getElem?_toArray, List.getElem?_cons_succ, List.getElem?_cons_zero]; rfl
                case hQ16 => exact fun _ _ _ h => h
                case hw16 => rfl
                case hy16 =>
                  intro w hSw
                  try dsimp only at hSw
                  go_simp
                  all_goals with_reducible rfl
                try simp only [Act.put, List.setIfInBounds_toArray, List.set_cons_zero, List.set_cons_succ]
                refine' wpAnyH_take (i := 4) (oi := _) (v := _) ?hi17 (by kernel_rfl) (by kernel_rfl) (by kernel_rfl) ?hQ17 (Or.inl ⟨?hw17, ?hy17⟩) hHeld ?rest17
                case hi17 => simp only [List.getElem?_toArray, List.getElem?_cons_succ, List.getElem?_cons_zero]; rfl
                case hQ17 => exact fun _ _ _ h => h
                case hw17 => rfl
                case hy17 =>
                  intro w hSw
                  try dsimp only at hSw
                  go_simp
                  all_goals with_reducible rfl
                try simp only [Act.put, List.setIfInBounds_toArray, List.set_cons_zero, List.set_cons_succ]
                refine' wpAnyH_take (i := 5) (oi := _) (v := _) ?hi18 (by kernel_rfl) (by kernel_rfl) (by kernel_rfl) ?hQ18 (Or.inl ⟨?hw18, ?hy18⟩) hHeld ?rest18
                case hi18 => simp only [List.getElem?_toArray, List.getElem?_cons_succ, List.getElem?_cons_zero]; rfl
                case hQ18 => exact fun _ _ _ h => h
                case hw18 => rfl
                case hy18 =>
                  intro w hSw
                  try dsimp only at hSw
                  go_simp
                  all_goals with_reducible rfl
                try simp only [Act.put, List.setIfInBounds_toArray, List.set_cons_zero, List.set_cons_succ]
                refine' wpAnyH_take (i := 6) (oi := _) (v := _) ?hi19 (by kernel_rfl) (by kernel_rfl) (by kernel_rfl) ?hQ19 (Or.inl ⟨?hw19, ?hy19⟩) hHeld ?rest19
                case hi19 => simp only [List.getElem?_toArray, List.getElem?_cons_succ, List.getElem?_cons_zero]; rfl
                case hQ19 => exact fun _ _ _ h => h
                case hw19 => rfl
                case hy19 =>
                  intro w hSw
                  try dsimp only at hSw
                  have p2' := (hSw.cell (p := ⟨b2, o2 + m * 7 + 2, none⟩) hb2).trans p2
                  clear hSw
                  go_simp
                  all_goals with_reducible rfl
                try simp only [Act.put, List.setIfInBounds_toArray, List.set_cons_zero, List.set_cons_succ]
                refine' wpAnyH_take (i := 7) (oi := _) (v := _) ?hi20 (by kernel_rfl) (by kernel_rfl) (by kernel_rfl) ?hQ20 (Or.inl ⟨?hw20, ?hy20⟩) hHeld ?rest20
                case hi20 => simp only [List.getElem?_toArray, List.getElem?_cons_succ, List.getElem?_cons_zero]; rfl
                case hQ20 => exact fun _ _ _ h => h
                case hw20 => rfl
                case hy20 =>
                  intro w hSw
                  try dsimp only at hSw
                  go_simp
                  all_goals with_reducible rfl
                try simp only [Act.put, List.setIfInBounds_toArray, List.set_cons_zero, List.set_cons_succ]
                refine' wpAnyH_take (i := 8) (oi := _) (v := _) ?hi21 (by kernel_rfl) (by kernel_rfl) (by kernel_rfl) ?hQ21 (Or.inl ⟨?hw21, ?hy21⟩) hHeld ?rest21
                case hi21 => simp only [List.getElem?_toArray, List.getElem?_cons_succ, List.getElem?_cons_zero]; rfl
                case hQ21 => exact fun _ _ _ h => h
                case hw21 => rfl
                case hy21 =>
                  intro w hSw
                  try dsimp only at hSw
                  have f0' := (hSw.cell (p := ⟨g, h * 6, none⟩) hf2).trans f0
                  have f1' := (hSw.cell (p := ⟨g, h * 6 + 1, none⟩) hf2).trans f1
                  have f2' := (hSw.cell (p := ⟨g, h * 6 + 2, none⟩) hf2).trans f2
                  have f3' := (hSw.cell (p := ⟨g, h * 6 + 3, none⟩) hf2).trans f3
                  have f4' := (hSw.cell (p := ⟨g, h * 6 + 4, none⟩) hf2).trans f4
                  have f5' := (hSw.cell (p := ⟨g, h * 6 + 5, none⟩) hf2).trans f5
                  clear hSw
                  go_simp
                  all_goals with_reducible rfl
                try simp only [Act.put, List.setIfInBounds_toArray, List.set_cons_zero, List.set_cons_succ]
                refine' wpAnyH_take (i := 9) (oi := _) (v := _) ?hi22 (by kernel_rfl) (by kernel_rfl) (by kernel_rfl) ?hQ22 (Or.inl ⟨?hw22, ?hy22⟩) hHeld ?rest22
                case hi22 => simp only [List.getElem?_toArray, List.getElem?_cons_succ, List.getElem?_cons_zero]; rfl
                case hQ22 => exact fun _ _ _ h => h
                case hw22 => rfl
                case hy22 =>
                  intro w hSw
                  try dsimp only at hSw
                  go_simp
                  all_goals with_reducible rfl
                try simp only [Act.put, List.setIfInBounds_toArray, List.set_cons_zero, List.set_cons_succ]
                refine' wpAnyH_take (i := 10) (oi := _) (v := _) ?hi23 (by kernel_rfl) (by kernel_rfl) (by kernel_rfl) ?hQ23 (Or.inl ⟨?hw23, ?hy23⟩) hHeld ?rest23
                case hi23 => simp only [List.getElem?_toArray, List.getElem?_cons_succ, List.getElem?_cons_zero]; rfl
                case hQ23 => exact fun _ _ _ h => h
                case hw23 => rfl
                case hy23 =>
                  intro w hSw
                  try dsimp only at hSw
                  go_simp
                  all_goals with_reducible rfl
                try simp only [Act.put, List.setIfInBounds_toArray, List.set_cons_zero, List.set_cons_succ]
                refine' wpAnyH_take (i := 11) (oi := _) (v := _) ?hi24 (by kernel_rfl) (by kernel_rfl) (by kernel_rfl) ?hQ24 (Or.inl ⟨?hw24, ?hy24⟩) hHeld ?rest24
                case hi24 => simp only [List.getElem?_toArray, List.getElem?_cons_succ, List.getElem?_cons_zero]; rfl
                case hQ24 => exact fun _ _ _ h => h
                case hw24 => rfl
                case hy24 =>
                  intro w hSw
                  try dsimp only at hSw
                  go_simp
                  all_goals with_reducible rfl
                try simp only [Act.put, List.setIfInBounds_toArray, List.set_cons_zero, List.set_cons_succ]
                refine' wpAnyH_take (i := 12) (oi := _) (v := _) ?hi25 (by kernel_rfl) (by kernel_rfl) (by kernel_rfl) ?hQ25 (Or.inl ⟨?hw25, ?hy25⟩) hHeld ?rest25
                case hi25 => simp only [List.getElem?_toArray, List.getElem?_cons_succ, List.getElem?_cons_zero]; rfl
                case hQ25 => exact fun _ _ _ h => h
                case hw25 => rfl
                case hy25 =>
                  intro w hSw
                  try dsimp only at hSw
                  go_simp
                  all_goals with_reducible rfl
                try simp only [Act.put, List.setIfInBounds_toArray, List.set_cons_zero, List.set_cons_succ]
                refine' wpAnyH_take (i := 13) (oi := _) (v := _) ?hi26 (by kernel_rfl) (by kernel_rfl) (by kernel_rfl) ?hQ26 (Or.inl ⟨?hw26, ?hy26⟩) hHeld ?rest26
                case hi26 => simp only [List.getElem?_toArray, List.getElem?_cons_succ, List.getElem?_cons_zero]; rfl
                case hQ26 => exact fun _ _ _ h => h
                case hw26 => rfl
                case hy26 =>
                  intro w hSw
                  try dsimp only at hSw
                  go_simp
                  all_goals with_reducible rfl
                try simp only [Act.put, List.setIfInBounds_toArray, List.set_cons_zero, List.set_cons_succ]
                refine' wpAnyH_take (i := 14) (oi := _) (v := _) ?hi27 (by kernel_rfl) (by kernel_rfl) (by kernel_rfl) ?hQ27 (Or.inl ⟨?hw27, ?hy27⟩) hHeld ?rest27
                case hi27 => simp only [List.getElem?_toArray, List.getElem?_cons_succ, List.getElem?_cons_zero]; rfl
                case hQ27 => exact fun _ _ _ h => h
                case hw27 => rfl
                case hy27 =>
                  intro w hSw
                  try dsimp only at hSw
                  have p4' := (hSw.cell (p := ⟨b2, o2 + m * 7 + 4, none⟩) hb2).trans p4
                  clear hSw
                  go_simp
                  all_goals with_reducible rfl
                try simp only [Act.put, List.setIfInBounds_toArray, List.set_cons_zero, List.set_cons_succ]
                refine' wpAnyH_take (i := 15) (oi := _) (v := _) ?hi28 (by kernel_rfl) (by kernel_rfl) (by kernel_rfl) ?hQ28 (Or.inl ⟨?hw28, ?hy28⟩) hHeld ?rest28
                case hi28 => simp only [List.getElem?_toArray, List.getElem?_cons_succ, List.getElem?_cons_zero]; rfl
                case hQ28 => exact fun _ _ _ h => h
                case hw28 => rfl
                case hy28 =>
                  intro w hSw
                  try dsimp only at hSw
                  go_simp
                  all_goals with_reducible rfl
                try simp only [Act.put, List.setIfInBounds_toArray, List.set_cons_zero, List.set_cons_succ]
                refine' wpAnyH_take (i := 16) (oi := _) (v := _) ?hi29 (by kernel_rfl) (by kernel_rfl) (by kernel_rfl) ?hQ29 (Or.inl ⟨?hw29, ?hy29⟩) hHeld ?rest29
                case hi29 => simp only [List.getElem?_toArray, List.getElem?_cons_succ, List.getElem?_cons_zero]; rfl
                case hQ29 => exact fun _ _ _ h => h
                case hw29 => rfl
                case hy29 =>
                  intro w hSw
                  try dsimp only at hSw
                  go_simp
                  all_goals with_reducible rfl
                try simp only [Act.put, List.setIfInBounds_toArray, List.set_cons_zero, List.set_cons_succ]
                refine' wpAnyH_take (i := 17) (oi := _) (v := _) ?hi30 (by kernel_rfl) (by kernel_rfl) (by kernel_rfl) ?hQ30 (Or.inl ⟨?hw30, ?hy30⟩) hHeld ?rest30
                case hi30 => simp only [List.getElem?_toArray, List.getElem?_cons_succ, List.getElem?_cons_zero]; rfl
                case hQ30 => exact fun _ _ _ h => h
                case hw30 => rfl
                case hy30 =>
                  intro w hSw
                  try dsimp only at hSw
                  go_simp
                  all_goals with_reducible rfl
                try simp only [Act.put, List.setIfInBounds_toArray, List.set_cons_zero, List.set_cons_succ]
                refine' wpAnyH_take (i := 18) (oi := _) (v := _) ?hi31 (by kernel_rfl) (by kernel_rfl) (by kernel_rfl) ?hQ31 (Or.inl ⟨?hw31, ?hy31⟩) hHeld ?rest31
                case hi31 => simp only [List.getElem?_toArray, List.getElem?_cons_succ, List.getElem?_cons_zero]; rfl
                case hQ31 => exact fun _ _ _ h => h
                case hw31 => rfl
                case hy31 =>
                  intro w hSw
                  try dsimp only at hSw
                  go_simp
                  all_goals with_reducible rfl
                try simp only [Act.put, List.setIfInBounds_toArray, List.set_cons_zero, List.set_cons_succ]
                refine' wpAnyH_take (i := 19) (oi := _) (v := _) ?hi32 (by kernel_rfl) (by kernel_rfl) (by kernel_rfl) ?hQ32 (Or.inl ⟨?hw32, ?hy32⟩) hHeld ?rest32
                case hi32 => simp only [List.getElem?_toArray, List.getElem?_cons_succ, List.getElem?_cons_zero]; rfl
                case hQ32 => exact fun _ _ _ h => h
                case hw32 => rfl
                case hy32 =>
                  intro w hSw
                  try dsimp only at hSw
                  go_simp
                  all_goals with_reducible rfl
                try simp only [Act.put, List.setIfInBounds_toArray, List.set_cons_zero, List.set_cons_succ]
                refine' wpAnyH_take (i := 20) (oi := _) (v := _) ?hi33 (by kernel_rfl) (by kernel_rfl) (by kernel_rfl) ?hQ33 (Or.inl ⟨?hw33, ?hy33⟩) hHeld ?rest33
                case hi33 => simp only [List.getElem?_toArray, List.getElem?_cons_succ, List.getElem?_cons_zero]; rfl
                case hQ33 => exact fun _ _ _ h => h
                case hw33 => rfl
                case hy33 =>
                  intro w hSw
                  try dsimp only at hSw
                  have n4' := (hSw.cell (p := ⟨b2, o2 + n * 7 + 4, none⟩) hb2).trans n4
                  clear hSw
                  go_simp
                  all_goals with_reducible rfl
                try simp only [Act.put, List.setIfInBounds_toArray, List.set_cons_zero, List.set_cons_succ]
                refine' wpAnyH_take (i := 21) (oi := _) (v := _) ?hi34 (by kernel_rfl) (by kernel_rfl) (by kernel_rfl) ?hQ34 (Or.inl ⟨?hw34, ?hy34⟩) hHeld ?rest34
                case hi34 => simp only [List.getElem?_toArray, List.getElem?_cons_succ, List.getElem?_cons_zero]; rfl
                case hQ34 => exact fun _ _ _ h => h
                case hw34 => rfl
                case hy34 =>
                  intro w hSw
                  try dsimp only at hSw
                  go_simp
                  all_goals with_reducible rfl
                try simp only [Act.put, List.setIfInBounds_toArray, List.set_cons_zero, List.set_cons_succ]
                refine' wpAnyH_take (i := 22) (oi := _) (v := _) ?hi35 (by kernel_rfl) (by kernel_rfl) (by kernel_rfl) ?hQ35 (Or.inl ⟨?hw35, ?hy35⟩) hHeld ?rest35
                case hi35 => simp only [List.getElem?_toArray, List.getElem?_cons_succ, List.getElem?_cons_zero]; rfl
                case hQ35 => exact fun _ _ _ h => h
                case hw35 => rfl
                case hy35 =>
                  intro w hSw
                  try dsimp only at hSw
                  have y1' := (hSw.cell (p := ⟨p, 1, none⟩) hp2).trans y1
                  clear hSw
                  go_simp
                  all_goals with_reducible rfl
                try simp only [Act.put, List.setIfInBounds_toArray, List.set_cons_zero, List.set_cons_succ]
                refine wpAnyH_ready (rs := [23]) (by kernel_rfl) (by simp) ?_
                refine' AllReadyH.cons (o := _) ?ha41 (fun K hK => ?sa41) ?ma41
                case ha41 => simp only [List.getElem?_toArray, List.getElem?_cons_succ, List.getElem?_cons_zero]; rfl
                case ma41 => exact AllReadyH.nil
                case sa41 =>
                  go_simp
                  go_at_call 27
                  refine (HKx.out _ (HBL.out.trans (hHeld.mono HBL.out.size))).mono ?_
                  rintro e w6 ⟨rfl, hb⟩
                  have hbk := hHeld.trans (hb.mono hHeld.size)
                  clear hb
                  go_wp2_with fail
                  refine hK.out _ _ ?_ (fun hHeld => ?_)
                  · exact hbk
                  clear hK K
                  try simp only [Act.put, List.setIfInBounds_toArray, List.set_cons_zero, List.set_cons_succ]
                  clear hbk
                  refine' wpAnyH_take (i := 24) (oi := _) (v := _) ?hi36 (by kernel_rfl) (by kernel_rfl) (by kernel_rfl) ?hQ36 (Or.inl ⟨?hw36, ?hy36⟩) hHeld ?rest36
                  case hi36 => simp only [List.getElem?_toArray, List.getElem?_cons_succ, List.getElem?_cons_zero]; rfl
                  case hQ36 => exact fun _ _ _ h => h
                  case hw36 => rfl
                  case hy36 =>
                    intro w hSw
                    try dsimp only at hSw
                    go_simp
                    all_goals with_reducible rfl
                  try simp only [Act.put, List.setIfInBounds_toArray, List.set_cons_zero, List.set_cons_succ]
                  refine' wpAnyH_take (i := 25) (oi := _) (v := _) ?hi37 (by kernel_rfl) (by kernel_rfl) (by kernel_rfl) ?hQ37 (Or.inl ⟨?hw37, ?hy37⟩) hHeld ?rest37
                  case hi37 => simp only [List.getElem?_toArray, List.getElem?_cons_succ, List.getElem?_cons_zero]; rfl
                  case hQ37 => exact fun _ _ _ h => h
                  case hw37 => rfl
                  case hy37 =>
                    intro w hSw
                    try dsimp only at hSw
                    go_simp
                    all_goals with_reducible rfl
                  try simp only [Act.put, List.setIfInBounds_toArray, List.set_cons_zero, List.set_cons_succ]
                  refine' wpAnyH_take (i := 26) (oi := _) (v := _) ?hi38 (by kernel_rfl) (by kernel_rfl) (by kernel_rfl) ?hQ38 (Or.inl ⟨?hw38, ?hy38⟩) hHeld ?rest38
                  case hi38 => simp only [List.getElem?_toArray, List.getElem?_cons_succ, List.getElem?_cons_zero]; rfl
                  case hQ38 => exact fun _ _ _ h => h
                  case hw38 => rfl
                  case hy38 =>
                    intro w hSw
                    try dsimp only at hSw
                    go_simp
                    all_goals with_reducible rfl
                  try simp only [Act.put, List.setIfInBounds_toArray, List.set_cons_zero, List.set_cons_succ]
                  refine' wpAnyH_take (i := 27) (oi := _) (v := _) ?hi39 (by kernel_rfl) (by kernel_rfl) (by kernel_rfl) ?hQ39 (Or.inl ⟨?hw39, ?hy39⟩) hHeld ?rest39
                  case hi39 => simp only [List.getElem?_toArray, List.getElem?_cons_succ, List.getElem?_cons_zero]; rfl
                  case hQ39 => exact fun _ _ _ h => h
                  case hw39 => rfl
                  case hy39 =>
                    intro w hSw
                    try dsimp only at hSw
                    go_simp
                    all_goals with_reducible rfl
                  try simp only [Act.put, List.setIfInBounds_toArray, List.set_cons_zero, List.set_cons_succ]
                  refine' wpAnyH_take (i := 28) (oi := _) (v := _) ?hi40 (by kernel_rfl) (by kernel_rfl) (by kernel_rfl) ?hQ40 (Or.inl ⟨?hw40, ?hy40⟩) hHeld ?rest40
                  case hi40 => simp only [List.getElem?_toArray, List.getElem?_cons_succ, List.getElem?_cons_zero]; rfl
                  case hQ40 => exact fun _ _ _ h => h
                  case hw40 => rfl
                  case hy40 =>
                    intro w hSw
                    try dsimp only at hSw
                    go_simp
                    all_goals with_reducible rfl
                  try simp only [Act.put, List.setIfInBounds_toArray, List.set_cons_zero, List.set_cons_succ]
                  refine wpAnyH_done (by kernel_rfl) ?_ _
                  have HB6 := Lib.hid (HBL.out.trans (hHeld.mono HBL.out.size))
                  have q1 := (hHeld.cell (p := ⟨b2, o2 + k * 7 + 1, none⟩) hb2).trans x1
                  clear hkm hkn hkm' hkn' hm0 hm1 hn0 hn1 hHeld x0 x1 p2 p4 n4 y1 y3 f0 f1 f2 f3 f4 f5 hb2 hp2 hf2 hbl HBL
                  have dw : (wd == wd) = true := beq_self_eq_true wd
                  have dw0 : (wd == 0) = false := by rw [beq_eq_false_iff_ne]; exact e6
                  go_wp2_with fail
                  go_roundw
                  case rel => exact ⟨k + 1, by have := HLT.out; omega, by rw [HSE.out], by go_num, HB6⟩
                  case measure => have := HLT.out; simp only [intOf]; omega
              · obtain ⟨ek, h, ef, hhl, eh⟩ := e1
                obtain ⟨Y, hY⟩ : ∃ Y, BS[k]! = Y := ⟨_, rfl⟩
                rw [hY] at hx hse ek ef eh e2 e3
                obtain ⟨kd, wd, fv, sz, nm⟩ := Y
                simp only at hse ek ef eh e2 e3
                subst kd fv sz
                simp only [Int.toNat_natCast] at e2
                have HSE := Lib.hid hse
                have HKx := Lib.hid (fun (W' : World) (hb : Below v3.heap.size v3 W') => HWi.out l[h]! (by rw [getElem!_pos l h hhl]; exact List.getElem_mem hhl) nm W' hb eh)
                simp only [← e2] at HKx
                obtain ⟨sn, hsn⟩ : ∃ s, mk8 nm = s := ⟨_, rfl⟩
                simp only [hsn] at HKx
                have x0 := hx 0 _ rfl
                have x1 := hx 1 _ rfl
                have x2 := hx 2 _ rfl
                have x3 := hx 3 _ rfl
                have x4 := hx 4 _ rfl
                simp only [Nat.add_zero] at x0 x1 x2 x3 x4
                rw [hsn] at x4
                clear hY hx hc2 hse ekn hlt e2 eh hsn
                obtain ⟨X, hX⟩ : ∃ X, l[h]! = X := ⟨_, rfl⟩
                have hfx := HFC.out h hhl
                simp only [hX] at HKx
                rw [hX] at hfx
                clear hX
                obtain ⟨⟨fn, fs, fz, gs, ls, ks⟩, ag, al, ak, cg, cl, ck⟩ := X
                have g0 := hfx 0 _ rfl
                have g1 := hfx 1 _ rfl
                have g2 := hfx 2 _ rfl
                have g3 := hfx 3 _ rfl
                have g4 := hfx 4 _ rfl
                have g5 := hfx 5 _ rfl
                simp only [fontVal] at HKx
                simp only [Nat.add_zero] at g0
                generalize mk8 fn = m1 at HKx g0
                have hhz0 : (0 : Int) ≤ h := by omega
                have hhz1 : (h : Int) < 5 := by have := HL5.out; omega
                have hf2 : g < wr.heap.size := Nat.lt_of_lt_of_le hfb hbl.size
                have f0 := (hbl.cell (p := ⟨g, 0 + h * 6, none⟩) hfb).trans g0
                have f1 := (hbl.cell (p := ⟨g, 0 + h * 6 + 1, none⟩) hfb).trans g1
                have f2 := (hbl.cell (p := ⟨g, 0 + h * 6 + 2, none⟩) hfb).trans g2
                have f3 := (hbl.cell (p := ⟨g, 0 + h * 6 + 3, none⟩) hfb).trans g3
                have f4 := (hbl.cell (p := ⟨g, 0 + h * 6 + 4, none⟩) hfb).trans g4
                have f5 := (hbl.cell (p := ⟨g, 0 + h * 6 + 5, none⟩) hfb).trans g5
                simp only [Nat.zero_add] at f0 f1 f2 f3 f4 f5
                clear hfx g0 g1 g2 g3 g4 g5
                go_upto_region 20 with fail
                refine wp_region_held_drew (S := fun w' => Below wr.heap.size wr w') (by kernel_rfl) ?_ (fun hHeld => ?_)
                · exact (Below.refl _ _).drew
                refine' wpAnyH_take (i := 0) (oi := _) (v := _) ?hi42 (by kernel_rfl) (by kernel_rfl) (by kernel_rfl) ?hQ42 (Or.inl ⟨?hw42, ?hy42⟩) hHeld ?rest42
                case hi42 => simp only [List.getElem?_toArray, List.getElem?_cons_zero]; rfl
                case hQ42 => exact fun _ _ _ h => h
                case hw42 => rfl
                case hy42 =>
                  intro w hSw
                  try dsimp only at hSw
                  go_simp
                  all_goals with_reducible rfl
                try simp only [Act.put, List.setIfInBounds_toArray, List.set_cons_zero, List.set_cons_succ]
                refine' wpAnyH_take (i := 1) (oi := _) (v := _) ?hi43 (by kernel_rfl) (by kernel_rfl) (by kernel_rfl) ?hQ43 (Or.inl ⟨?hw43, ?hy43⟩) hHeld ?rest43
                case hi43 => simp only [List.getElem?_toArray, List.getElem?_cons_succ, List.getElem?_cons_zero]; rfl
                case hQ43 => exact fun _ _ _ h => h
                case hw43 => rfl
                case hy43 =>
                  intro w hSw
                  try dsimp only at hSw
                  go_simp
                  all_goals with_reducible rfl
                try simp only [Act.put, List.setIfInBounds_toArray, List.set_cons_zero, List.set_cons_succ]
                refine' wpAnyH_take (i := 2) (oi := _) (v := _) ?hi44 (by kernel_rfl) (by kernel_rfl) (by kernel_rfl) ?hQ44 (Or.inl ⟨?hw44, ?hy44⟩) hHeld ?rest44
                case hi44 => simp only [List.getElem?_toArray, List.getElem?_cons_succ, List.getElem?_cons_zero]; rfl
                case hQ44 => exact fun _ _ _ h => h
                case hw44 => rfl
                case hy44 =>
                  intro w hSw
                  try dsimp only at hSw
                  go_simp
                  all_goals with_reducible rfl
                try simp only [Act.put, List.setIfInBounds_toArray, List.set_cons_zero, List.set_cons_succ]
                refine' wpAnyH_take (i := 3) (oi := _) (v := _) ?hi45 (by kernel_rfl) (by kernel_rfl) (by kernel_rfl) ?hQ45 (Or.inl ⟨?hw45, ?hy45⟩) hHeld ?rest45
                case hi45 => simp only [List.getElem?_toArray, List.getElem?_cons_succ, List.getElem?_cons_zero]; rfl
                case hQ45 => exact fun _ _ _ h => h
                case hw45 => rfl
                case hy45 =>
                  intro w hSw
                  try dsimp only at hSw
                  go_simp
                  all_goals with_reducible rfl
                try simp only [Act.put, List.setIfInBounds_toArray, List.set_cons_zero, List.set_cons_succ]
                refine' wpAnyH_take (i := 4) (oi := _) (v := _) ?hi46 (by kernel_rfl) (by kernel_rfl) (by kernel_rfl) ?hQ46 (Or.inl ⟨?hw46, ?hy46⟩) hHeld ?rest46
                case hi46 => simp only [List.getElem?_toArray, List.getElem?_cons_succ, List.getElem?_cons_zero]; rfl
                case hQ46 => exact fun _ _ _ h => h
                case hw46 => rfl
                case hy46 =>
                  intro w hSw
                  try dsimp only at hSw
                  go_simp
                  all_goals with_reducible rfl
                try simp only [Act.put, List.setIfInBounds_toArray, List.set_cons_zero, List.set_cons_succ]
                refine' wpAnyH_take (i := 5) (oi := _) (v := _) ?hi47 (by kernel_rfl) (by kernel_rfl) (by kernel_rfl) ?hQ47 (Or.inl ⟨?hw47, ?hy47⟩) hHeld ?rest47
                case hi47 => simp only [List.getElem?_toArray, List.getElem?_cons_succ, List.getElem?_cons_zero]; rfl
                case hQ47 => exact fun _ _ _ h => h
                case hw47 => rfl
                case hy47 =>
                  intro w hSw
                  try dsimp only at hSw
                  have x2' := (hSw.cell (p := ⟨b2, o2 + k * 7 + 2, none⟩) hb2).trans x2
                  clear hSw
                  go_simp
                  all_goals with_reducible rfl
                try simp only [Act.put, List.setIfInBounds_toArray, List.set_cons_zero, List.set_cons_succ]
                refine' wpAnyH_take (i := 6) (oi := _) (v := _) ?hi48 (by kernel_rfl) (by kernel_rfl) (by kernel_rfl) ?hQ48 (Or.inl ⟨?hw48, ?hy48⟩) hHeld ?rest48
                case hi48 => simp only [List.getElem?_toArray, List.getElem?_cons_succ, List.getElem?_cons_zero]; rfl
                case hQ48 => exact fun _ _ _ h => h
                case hw48 => rfl
                case hy48 =>
                  intro w hSw
                  try dsimp only at hSw
                  go_simp
                  all_goals with_reducible rfl
                try simp only [Act.put, List.setIfInBounds_toArray, List.set_cons_zero, List.set_cons_succ]
                refine' wpAnyH_take (i := 7) (oi := _) (v := _) ?hi49 (by kernel_rfl) (by kernel_rfl) (by kernel_rfl) ?hQ49 (Or.inl ⟨?hw49, ?hy49⟩) hHeld ?rest49
                case hi49 => simp only [List.getElem?_toArray, List.getElem?_cons_succ, List.getElem?_cons_zero]; rfl
                case hQ49 => exact fun _ _ _ h => h
                case hw49 => rfl
                case hy49 =>
                  intro w hSw
                  try dsimp only at hSw
                  have f0' := (hSw.cell (p := ⟨g, h * 6, none⟩) hf2).trans f0
                  have f1' := (hSw.cell (p := ⟨g, h * 6 + 1, none⟩) hf2).trans f1
                  have f2' := (hSw.cell (p := ⟨g, h * 6 + 2, none⟩) hf2).trans f2
                  have f3' := (hSw.cell (p := ⟨g, h * 6 + 3, none⟩) hf2).trans f3
                  have f4' := (hSw.cell (p := ⟨g, h * 6 + 4, none⟩) hf2).trans f4
                  have f5' := (hSw.cell (p := ⟨g, h * 6 + 5, none⟩) hf2).trans f5
                  clear hSw
                  go_simp
                  all_goals with_reducible rfl
                try simp only [Act.put, List.setIfInBounds_toArray, List.set_cons_zero, List.set_cons_succ]
                refine' wpAnyH_take (i := 8) (oi := _) (v := _) ?hi50 (by kernel_rfl) (by kernel_rfl) (by kernel_rfl) ?hQ50 (Or.inl ⟨?hw50, ?hy50⟩) hHeld ?rest50
                case hi50 => simp only [List.getElem?_toArray, List.getElem?_cons_succ, List.getElem?_cons_zero]; rfl
                case hQ50 => exact fun _ _ _ h => h
                case hw50 => rfl
                case hy50 =>
                  intro w hSw
                  try dsimp only at hSw
                  go_simp
                  all_goals with_reducible rfl
                try simp only [Act.put, List.setIfInBounds_toArray, List.set_cons_zero, List.set_cons_succ]
                refine' wpAnyH_take (i := 9) (oi := _) (v := _) ?hi51 (by kernel_rfl) (by kernel_rfl) (by kernel_rfl) ?hQ51 (Or.inl ⟨?hw51, ?hy51⟩) hHeld ?rest51
                case hi51 => simp only [List.getElem?_toArray, List.getElem?_cons_succ, List.getElem?_cons_zero]; rfl
                case hQ51 => exact fun _ _ _ h => h
                case hw51 => rfl
                case hy51 =>
                  intro w hSw
                  try dsimp only at hSw
                  go_simp
                  all_goals with_reducible rfl
                try simp only [Act.put, List.setIfInBounds_toArray, List.set_cons_zero, List.set_cons_succ]
                refine' wpAnyH_take (i := 10) (oi := _) (v := _) ?hi52 (by kernel_rfl) (by kernel_rfl) (by kernel_rfl) ?hQ52 (Or.inl ⟨?hw52, ?hy52⟩) hHeld ?rest52
                case hi52 => simp only [List.getElem?_toArray, List.getElem?_cons_succ, List.getElem?_cons_zero]; rfl
                case hQ52 => exact fun _ _ _ h => h
                case hw52 => rfl
                case hy52 =>
                  intro w hSw
                  try dsimp only at hSw
                  go_simp
                  all_goals with_reducible rfl
                try simp only [Act.put, List.setIfInBounds_toArray, List.set_cons_zero, List.set_cons_succ]
                refine' wpAnyH_take (i := 11) (oi := _) (v := _) ?hi53 (by kernel_rfl) (by kernel_rfl) (by kernel_rfl) ?hQ53 (Or.inl ⟨?hw53, ?hy53⟩) hHeld ?rest53
                case hi53 => simp only [List.getElem?_toArray, List.getElem?_cons_succ, List.getElem?_cons_zero]; rfl
                case hQ53 => exact fun _ _ _ h => h
                case hw53 => rfl
                case hy53 =>
                  intro w hSw
                  try dsimp only at hSw
                  go_simp
                  all_goals with_reducible rfl
                try simp only [Act.put, List.setIfInBounds_toArray, List.set_cons_zero, List.set_cons_succ]
                refine' wpAnyH_take (i := 12) (oi := _) (v := _) ?hi54 (by kernel_rfl) (by kernel_rfl) (by kernel_rfl) ?hQ54 (Or.inl ⟨?hw54, ?hy54⟩) hHeld ?rest54
                case hi54 => simp only [List.getElem?_toArray, List.getElem?_cons_succ, List.getElem?_cons_zero]; rfl
                case hQ54 => exact fun _ _ _ h => h
                case hw54 => rfl
                case hy54 =>
                  intro w hSw
                  try dsimp only at hSw
                  have x4' := (hSw.cell (p := ⟨b2, o2 + k * 7 + 4, none⟩) hb2).trans x4
                  clear hSw
                  go_simp
                  all_goals with_reducible rfl
                try simp only [Act.put, List.setIfInBounds_toArray, List.set_cons_zero, List.set_cons_succ]
                refine' wpAnyH_take (i := 13) (oi := _) (v := _) ?hi55 (by kernel_rfl) (by kernel_rfl) (by kernel_rfl) ?hQ55 (Or.inl ⟨?hw55, ?hy55⟩) hHeld ?rest55
                case hi55 => simp only [List.getElem?_toArray, List.getElem?_cons_succ, List.getElem?_cons_zero]; rfl
                case hQ55 => exact fun _ _ _ h => h
                case hw55 => rfl
                case hy55 =>
                  intro w hSw
                  try dsimp only at hSw
                  go_simp
                  all_goals with_reducible rfl
                try simp only [Act.put, List.setIfInBounds_toArray, List.set_cons_zero, List.set_cons_succ]
                refine' wpAnyH_take (i := 14) (oi := _) (v := _) ?hi56 (by kernel_rfl) (by kernel_rfl) (by kernel_rfl) ?hQ56 (Or.inl ⟨?hw56, ?hy56⟩) hHeld ?rest56
                case hi56 => simp only [List.getElem?_toArray, List.getElem?_cons_succ, List.getElem?_cons_zero]; rfl
                case hQ56 => exact fun _ _ _ h => h
                case hw56 => rfl
                case hy56 =>
                  intro w hSw
                  try dsimp only at hSw
                  have y1' := (hSw.cell (p := ⟨p, 1, none⟩) hp2).trans y1
                  clear hSw
                  go_simp
                  all_goals with_reducible rfl
                try simp only [Act.put, List.setIfInBounds_toArray, List.set_cons_zero, List.set_cons_succ]
                refine wpAnyH_ready (rs := [15]) (by kernel_rfl) (by simp) ?_
                refine' AllReadyH.cons (o := _) ?ha62 (fun K hK => ?sa62) ?ma62
                case ha62 => simp only [List.getElem?_toArray, List.getElem?_cons_succ, List.getElem?_cons_zero]; rfl
                case ma62 => exact AllReadyH.nil
                case sa62 =>
                  go_simp
                  go_at_call 18
                  refine (HKx.out _ (HBL.out.trans (hHeld.mono HBL.out.size))).mono ?_
                  rintro e w6 ⟨rfl, hb⟩
                  have hbk := hHeld.trans (hb.mono hHeld.size)
                  clear hb
                  go_wp2_with fail
                  refine hK.out _ _ ?_ (fun hHeld => ?_)
                  · exact hbk
                  clear hK K
                  try simp only [Act.put, List.setIfInBounds_toArray, List.set_cons_zero, List.set_cons_succ]
                  clear hbk
                  refine' wpAnyH_take (i := 16) (oi := _) (v := _) ?hi57 (by kernel_rfl) (by kernel_rfl) (by kernel_rfl) ?hQ57 (Or.inl ⟨?hw57, ?hy57⟩) hHeld ?rest57
                  case hi57 => simp only [List.getElem?_toArray, List.getElem?_cons_succ, List.getElem?_cons_zero]; rfl
                  case hQ57 => exact fun _ _ _ h => h
                  case hw57 => rfl
                  case hy57 =>
                    intro w hSw
                    try dsimp only at hSw
                    go_simp
                    all_goals with_reducible rfl
                  try simp only [Act.put, List.setIfInBounds_toArray, List.set_cons_zero, List.set_cons_succ]
                  refine' wpAnyH_take (i := 17) (oi := _) (v := _) ?hi58 (by kernel_rfl) (by kernel_rfl) (by kernel_rfl) ?hQ58 (Or.inl ⟨?hw58, ?hy58⟩) hHeld ?rest58
                  case hi58 => simp only [List.getElem?_toArray, List.getElem?_cons_succ, List.getElem?_cons_zero]; rfl
                  case hQ58 => exact fun _ _ _ h => h
                  case hw58 => rfl
                  case hy58 =>
                    intro w hSw
                    try dsimp only at hSw
                    go_simp
                    all_goals with_reducible rfl
                  try simp only [Act.put, List.setIfInBounds_toArray, List.set_cons_zero, List.set_cons_succ]
                  refine' wpAnyH_take (i := 18) (oi := _) (v := _) ?hi59 (by kernel_rfl) (by kernel_rfl) (by kernel_rfl) ?hQ59 (Or.inl ⟨?hw59, ?hy59⟩) hHeld ?rest59
                  case hi59 => simp only [List.getElem?_toArray, List.getElem?_cons_succ, List.getElem?_cons_zero]; rfl
                  case hQ59 => exact fun _ _ _ h => h
                  case hw59 => rfl
                  case hy59 =>
                    intro w hSw
                    try dsimp only at hSw
                    go_simp
                    all_goals with_reducible rfl
                  try simp only [Act.put, List.setIfInBounds_toArray, List.set_cons_zero, List.set_cons_succ]
                  refine' wpAnyH_take (i := 19) (oi := _) (v := _) ?hi60 (by kernel_rfl) (by kernel_rfl) (by kernel_rfl) ?hQ60 (Or.inl ⟨?hw60, ?hy60⟩) hHeld ?rest60
                  case hi60 => simp only [List.getElem?_toArray, List.getElem?_cons_succ, List.getElem?_cons_zero]; rfl
                  case hQ60 => exact fun _ _ _ h => h
                  case hw60 => rfl
                  case hy60 =>
                    intro w hSw
                    try dsimp only at hSw
                    go_simp
                    all_goals with_reducible rfl
                  try simp only [Act.put, List.setIfInBounds_toArray, List.set_cons_zero, List.set_cons_succ]
                  refine' wpAnyH_take (i := 20) (oi := _) (v := _) ?hi61 (by kernel_rfl) (by kernel_rfl) (by kernel_rfl) ?hQ61 (Or.inl ⟨?hw61, ?hy61⟩) hHeld ?rest61
                  case hi61 => simp only [List.getElem?_toArray, List.getElem?_cons_succ, List.getElem?_cons_zero]; rfl
                  case hQ61 => exact fun _ _ _ h => h
                  case hw61 => rfl
                  case hy61 =>
                    intro w hSw
                    try dsimp only at hSw
                    go_simp
                    all_goals with_reducible rfl
                  try simp only [Act.put, List.setIfInBounds_toArray, List.set_cons_zero, List.set_cons_succ]
                  refine wpAnyH_done (by kernel_rfl) ?_ _
                  have HB6 := Lib.hid (HBL.out.trans (hHeld.mono HBL.out.size))
                  have q0 := (hHeld.cell (p := ⟨b2, o2 + k * 7, none⟩) hb2).trans x0
                  have q1 := (hHeld.cell (p := ⟨b2, o2 + k * 7 + 1, none⟩) hb2).trans x1
                  have q3 := (hHeld.cell (p := ⟨b2, o2 + k * 7 + 3, none⟩) hb2).trans x3
                  have q5 := (hHeld.cell (p := ⟨p, 1, none⟩) hp2).trans y1
                  clear hHeld x0 x1 x2 x3 x4 y1 y3 f0 f1 f2 f3 f4 f5 hb2 hp2 hf2 hbl HBL
                  have dw : (wd == wd) = true := beq_self_eq_true wd
                  have dz : (z == z) = true := beq_self_eq_true z
                  go_upto_region 21 with fail
                  go_quiet (fail)
                  obtain ⟨w7, hw7⟩ : ∃ w7, w7 = w6.drewN nq := ⟨_, rfl⟩
                  rw [← hw7]
                  have HB7 : Hid (Below v3.heap.size v3 w7) := by rw [hw7]; exact below_dNs HB6.out _
                  clear hw7 q0 q1 q3 q5 dw dz HB6
                  go_wp2_with fail
                  go_roundw
                  case rel => exact ⟨k + 1, by have := HLT.out; omega, by rw [HSE.out], by go_num, HB7⟩
                  case measure => have := HLT.out; simp only [intOf]; omega
            · obtain rfl : k = BS.length := by omega
              have hz1 : ¬ ((BS.length : Nat) : Int) < BS.length := by omega
              obtain ⟨SW, hSW⟩ : ∃ S, sumW BS BS.length = S := ⟨_, rfl⟩
              simp only [hSW] at HWs ⊢
              clear hSW
              go_wp2_with fail
              refine (HWs.out _ HBL.out).mono ?_
              rintro e w7 ⟨rfl, hb7⟩
              have HB7 := Lib.hid (HB3.out.trans ((HBL.out.trans (hb7.mono HBL.out.size)).mono HB3.out.size))
              have dS : (SW == SW) = true := beq_self_eq_true SW
              clear hb7
              go_wp2_with fail
              refine (HS.out _).mono ?_
              rintro e w9 ⟨rfl, hb9⟩
              have HB9 := Lib.hid (HB7.out.trans (hb9.mono HB7.out.size))
              clear hb9
              go_wp2_with fail
              go_ret
              exact ⟨rfl, HB9.out⟩
end Go.Proofs.Ytboophfcakdlcaa
