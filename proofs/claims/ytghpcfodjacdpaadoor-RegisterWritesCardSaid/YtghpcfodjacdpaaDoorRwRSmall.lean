/- The document's Roman on a text that is small throughout. -/
import Derived.Test.YtghpcfodjacdpaaDoorRwRWalk
import Derived.Test.YtghpcfodjacdpaaDoorRegionAid
namespace Go.Proofs.YtghpcfodjacdpaaDoor
open Go.RowKit Go.PlainAid Go.Shelf

theorem run_lss (a b : Int) (W : World) : (binOp .lss 3 (.int .i64 a) (.int .i64 b)).run Tryd.prog W = .ok (.bool (decide (a < b))) W := by kernel_rfl
theorem run_gtr (a b : Int) (W : World) : (binOp .gtr 3 (.int .i64 a) (.int .i64 b)).run Tryd.prog W = .ok (.bool (decide (b < a))) W := by kernel_rfl
theorem below_drew {B : Nat} {w w' : World} (h : Below B w w') : Below B w w'.drew := ⟨h.os, h.tape, h.output, h.size, h.block⟩
set_option maxRecDepth 100000 in
set_option maxHeartbeats 4000000 in
theorem rr_small (S L : ByteArray) (h0 : 0 < S.size) (hS : S.size ≤ 200) (hL : loS S = L) (h1 : S = L) (hSL : S = L ∨ S = upS L) (w : World) : Calls Tryd.prog 8 #[.string S] w (RdQ S L w) := by
  have hLs : L.size = S.size := by rw [← hL]; exact loS_size S
  have he := isEmpty_no h0
  have q1 : (S.toList == L.toList) = true := by rw [h1]; exact beq_self_eq_true _
  have q2 : (S.toList != L.toList) = false := by rw [bne, q1]; rfl
  clear h1
  have HSL := Lib.hid hSL
  clear hSL
  have hcv := fun w => run_bytes_of_string (P := Tryd.prog) w 9 37 5 S Tryd.underlying9 Tryd.underlying37 Tryd.underlying5
  obtain ⟨cap, hcap⟩ : ∃ cap, grownCap w S.size 0 5 = cap := ⟨_, rfl⟩
  have hcv1 := hcv w
  rw [hcap] at hcv1
  have hst : RowLo S w.heap.size 0 (w.drew.alloc (.cells (bytesRow S cap) 5 ((bytesRow S cap).size, (bytesRow S cap).size + 1))) := RowLo.start S w.drew cap 5
  have hk0 : Below w.heap.size w (w.drew.alloc (.cells (bytesRow S cap) 5 ((bytesRow S cap).size, (bytesRow S cap).size + 1))) := Below.alloc (show Below w.heap.size w w.drew from ⟨rfl, rfl, rfl, Nat.le_refl _, fun _ _ => rfl⟩) (Nat.le_refl _) _
  have hl0 : w.heap.size < (w.drew.alloc (.cells (bytesRow S cap) 5 ((bytesRow S cap).size, (bytesRow S cap).size + 1))).heap.size := by simp
  clear hcv hcap
  go_enter Tryd.func8, Tryd.ntmps8
  go_wp2_with fail
  go_loopw [5] (fun i wr => ∃ k : Nat, k ≤ S.size ∧ i = .int .i64 k ∧ RowLo S w.heap.size k wr ∧ Below w.heap.size w wr ∧ w.heap.size < wr.heap.size) (fun i _ => S.size - (intOf i).toNat)
  case atStart => exact ⟨0, Nat.zero_le _, rfl, hst, hk0, hl0⟩
  case round =>
    obtain ⟨k, hk, rfl, hr, hb, hlt0⟩ := hrel
    clear hcv1 hst hk0 hl0
    by_cases hlt : k < S.size
    · have hc := hr.cells k hlt
      rw [if_neg (Nat.lt_irrefl _)] at hc
      have hz := hr.free k hlt
      by_cases h1 : 65 ≤ bt S k ∧ bt S k ≤ 90
      · have hn := hr.set hlt
        rw [show loI (bt S k) = bt S k + 32 from if_pos h1] at hn
        obtain ⟨h1, h2⟩ := h1
        have e8 : IntKind.u8.wrap (bt S k + 32) = bt S k + 32 := by rw [IntKind.wrap_u8]; omega
        have HR := Lib.hid hn
        clear hr hn
        go_wp2_with fail
        go_roundw
        case rel => exact ⟨k + 1, by omega, by go_num, HR.out, hb.setCell (p := ⟨w.heap.size, k, none⟩) (Nat.le_refl _) _, by simpa using hlt0⟩
        case measure => simp only [intOf]; omega
      · have hn := hr.same (show loI (bt S k) = bt S k from if_neg h1)
        have HR := Lib.hid hn
        clear hr hn
        by_cases h2 : 65 ≤ bt S k
        case' pos => have h3 : 90 < bt S k := by omega
        all_goals
          clear h1
          go_wp2_with fail
          go_roundw
          case rel => exact ⟨k + 1, by omega, by go_num, HR.out, hb, hlt0⟩
          case measure => simp only [intOf]; omega
    · obtain rfl : k = S.size := by omega
      have hri := hr.row hlt0
      rw [hL] at hri
      have hbk := hri.back hLs cap
      have HRI := Lib.hid hri
      clear hr hri hlt
      have hbj := hb
      have HRJ := HRI
      clear hb HRI
      go_wp2_with fail
      go_loopw [6, 7] (fun x y wr => ∃ (k : Nat) (acc : Int), k ≤ S.size ∧ y = .int .i64 k ∧ x = .int .i64 acc ∧ Hid (SgnAt L k acc) ∧ -(1000 * (k : Int)) ≤ acc ∧ acc ≤ 1000 * (k : Int) ∧ Hid (RowIs L w.heap.size wr) ∧ Below w.heap.size w wr) (fun _ y _ => S.size - (intOf y).toNat)
      case atStart => exact ⟨0, 0, Nat.zero_le _, rfl, rfl, sgnAt_zero L, by omega, by omega, HRJ, hbj⟩
      case round =>
        obtain ⟨k, acc, hk, rfl, rfl, hs, a0, a1, hri, hb2⟩ := hrel
        clear hbj HRJ
        by_cases hlt : k < S.size
        · have hkL : k < L.size := by omega
          have hc := hri.out.cells k hkL
          have hd01 := digV_le (bt L k)
          have HD := Lib.hid (rdigit_any (bt L k))
          by_cases hd0 : digV (bt L k) = 0
          · rw [hd0] at HD
            have HN : Hid (¬ OkR S L) := fun h => h.dig k hkL hd0
            clear hs hd0 hd01
            go_wp2_with fail
            refine (HD.out _).mono ?_
            rintro e v1 ⟨rfl, b1⟩
            go_wp2_with fail
            go_ret2
            exact .inr ⟨HN.out, rfl, step_below hb2 b1⟩
          · have hnx := sgnAt_next hs.out hkL hd0
            obtain ⟨d, hd⟩ : ∃ d, digV (bt L k) = d := ⟨_, rfl⟩
            rw [hd] at HD hd0 hd01 hnx
            have hdz : (d == 0) = false := by rw [beq_eq_false_iff_ne]; exact hd0
            by_cases h1 : k + 1 < S.size
            · have h1L : k + 1 < L.size := by omega
              have HD2 := Lib.hid (rdigit_any (bt L (k + 1)))
              have hd2 := digV_le (bt L (k + 1))
              obtain ⟨d2, hd2e⟩ : ∃ d2, digV (bt L (k + 1)) = d2 := ⟨_, rfl⟩
              rw [hd2e] at HD2 hd2 hnx
              by_cases hlt2 : d < d2
              · rw [if_pos ⟨h1L, hlt2⟩] at hnx
                have HX := Lib.hid hnx
                clear hs hd hd2e hnx
                go_wp2_with fail
                refine (HD.out _).mono ?_
                rintro e v1 ⟨rfl, b1⟩
                have hr1 := Lib.hid (hri.out.below b1)
                have hc1 := hr1.out.cells (k + 1) h1L
                go_wp2_with fail
                refine (HD2.out _).mono ?_
                rintro e v2 ⟨rfl, b2⟩
                have hr2 := Lib.hid (hr1.out.below b2)
                go_wp2_with fail
                go_roundw
                case rel => exact ⟨k + 1, acc + -d, by omega, by go_num, by go_num, HX, by omega, by omega, hr2, step_below (step_below hb2 b1) b2⟩
                case measure => simp only [intOf]; omega
              · rw [if_neg (fun h => hlt2 h.2)] at hnx
                have HX := Lib.hid hnx
                clear hs hd hd2e hnx
                go_wp2_with fail
                refine (HD.out _).mono ?_
                rintro e v1 ⟨rfl, b1⟩
                have hr1 := Lib.hid (hri.out.below b1)
                have hc1 := hr1.out.cells (k + 1) h1L
                go_wp2_with fail
                refine (HD2.out _).mono ?_
                rintro e v2 ⟨rfl, b2⟩
                have hr2 := Lib.hid (hr1.out.below b2)
                go_wp2_with fail
                go_roundw
                case rel => exact ⟨k + 1, acc + d, by omega, by go_num, by go_num, HX, by omega, by omega, hr2, step_below (step_below hb2 b1) b2⟩
                case measure => simp only [intOf]; omega
            · rw [if_neg (fun h => h1 (by omega))] at hnx
              have HX := Lib.hid hnx
              clear hs hd hnx
              go_wp2_with fail
              refine (HD.out _).mono ?_
              rintro e v1 ⟨rfl, b1⟩
              have hr1 := Lib.hid (hri.out.below b1)
              go_wp2_with fail
              go_roundw
              case rel => exact ⟨k + 1, acc + d, by omega, by go_num, by go_num, HX, by omega, by omega, hr1, step_below hb2 b1⟩
              case measure => simp only [intOf]; omega
        · obtain rfl : k = S.size := by omega
          rw [← hLs] at hs
          have hacc := sgnAt_end hs.out
          have hdg := Lib.hid hs.out.dig
          have HACC := Lib.hid hacc
          clear hs hacc
          have HNG : Hid (acc < 1 → ¬ OkR S L) := fun g h => by have := h.ge; rw [← HACC.out] at this; omega
          have HNL : Hid (39999 < acc → ¬ OkR S L) := fun g h => by have := h.le; rw [← HACC.out] at this; omega
          by_cases g1 : acc < 1
          · have HN := Lib.hid (HNG.out g1)
            have d1 : decide (acc < 1) = true := decide_eq_true g1
            clear g1 hdg HACC a0 a1 HNG HNL
            go_wp2_with fail
            refine wp_region_held_drew (S := fun w2 => RowIs L w.heap.size w2 ∧ Below w.heap.size w w2) (by kernel_rfl) ⟨hri.out.drew, below_drew hb2⟩ (fun hH => ?_)
            simp only [List.size_toArray, List.length_cons, List.length_nil, Nat.reduceAdd, Array.replicate_succ, Array.replicate_zero, List.push_toArray]
            refine take_at (i := 0) (v := .int .i64 acc) rfl rfl (by kernel_rfl) (by kernel_rfl) (by kernel_rfl) (fun _ _ _ h => h) (.inl ⟨by rfl, fun _ _ => by go_simp⟩) hH ?_
            simp only [List.setIfInBounds_toArray, List.set_cons_zero, List.set_cons_succ]
            refine take_at (i := 1) (v := .bool true) rfl rfl (by kernel_rfl) (by kernel_rfl) (by kernel_rfl) (fun _ _ _ h => h) (.inl ⟨by rfl, fun _ _ => by go_simp⟩) hH ?_
            simp only [List.setIfInBounds_toArray, List.set_cons_zero, List.set_cons_succ]
            refine take_at (i := 2) (v := .bool true) rfl rfl (by kernel_rfl) (by kernel_rfl) (by kernel_rfl) (fun _ _ _ h => h) (.inl ⟨by rfl, fun _ _ => by go_simp⟩) hH ?_
            simp only [List.setIfInBounds_toArray, List.set_cons_zero, List.set_cons_succ]
            refine skip_at (i := 3) (got := true) rfl rfl rfl rfl (by simp) (by kernel_rfl) (by kernel_rfl) (by kernel_rfl) (fun _ _ _ h => h) hH ?_
            simp only [List.setIfInBounds_toArray, List.set_cons_zero, List.set_cons_succ]
            refine skip_at (i := 4) (got := true) rfl rfl rfl rfl (by simp) (by kernel_rfl) (by kernel_rfl) (by kernel_rfl) (fun _ _ _ h => h) hH ?_
            simp only [List.setIfInBounds_toArray, List.set_cons_zero, List.set_cons_succ]
            refine take_at (i := 5) (v := .bool true) rfl rfl (by kernel_rfl) (by kernel_rfl) (by kernel_rfl) (fun _ _ _ h => h) (.inl ⟨by rfl, fun _ _ => by go_simp⟩) hH ?_
            simp only [List.setIfInBounds_toArray, List.set_cons_zero, List.set_cons_succ]
            refine take_at (i := 6) (v := .bool true) rfl rfl (by kernel_rfl) (by kernel_rfl) (by kernel_rfl) (fun _ _ _ h => h) (.inl ⟨by rfl, fun _ _ => by go_simp⟩) hH ?_
            simp only [List.setIfInBounds_toArray, List.set_cons_zero, List.set_cons_succ]
            refine skip_at (i := 7) (got := true) rfl rfl rfl rfl (by simp) (by kernel_rfl) (by kernel_rfl) (by kernel_rfl) (fun _ _ _ h => h) hH ?_
            simp only [List.setIfInBounds_toArray, List.set_cons_zero, List.set_cons_succ]
            refine skip_at (i := 8) (got := true) rfl rfl rfl rfl (by simp) (by kernel_rfl) (by kernel_rfl) (by kernel_rfl) (fun _ _ _ h => h) hH ?_
            simp only [List.setIfInBounds_toArray, List.set_cons_zero, List.set_cons_succ]
            refine skip_at (i := 9) (got := true) rfl rfl rfl rfl (by simp) (by kernel_rfl) (by kernel_rfl) (by kernel_rfl) (fun _ _ _ h => h) hH ?_
            simp only [List.setIfInBounds_toArray, List.set_cons_zero, List.set_cons_succ]
            refine skip_at (i := 10) (got := true) rfl rfl rfl rfl (by simp) (by kernel_rfl) (by kernel_rfl) (by kernel_rfl) (fun _ _ _ h => h) hH ?_
            simp only [List.setIfInBounds_toArray, List.set_cons_zero, List.set_cons_succ]
            refine skip_at (i := 11) (got := true) rfl rfl rfl rfl (by simp) (by kernel_rfl) (by kernel_rfl) (by kernel_rfl) (fun _ _ _ h => h) hH ?_
            simp only [List.setIfInBounds_toArray, List.set_cons_zero, List.set_cons_succ]
            refine take_at (i := 12) (v := .bool true) rfl rfl (by kernel_rfl) (by kernel_rfl) (by kernel_rfl) (fun _ _ _ h => h) (.inl ⟨by rfl, fun _ _ => by go_simp⟩) hH ?_
            simp only [List.setIfInBounds_toArray, List.set_cons_zero, List.set_cons_succ]
            refine wpAnyH_done (by kernel_rfl) ?_ _
            go_wp2_with fail
            go_ret2
            exact .inr ⟨HN.out, rfl, hH.2⟩
          have d1 : decide (acc < 1) = false := decide_eq_false g1
          by_cases g2 : 39999 < acc
          · have HN := Lib.hid (HNL.out g2)
            have d2 : decide (39999 < acc) = true := decide_eq_true g2
            clear g1 g2 hdg HACC a0 a1 HNG HNL
            go_wp2_with fail
            refine wp_region_held_drew (S := fun w2 => RowIs L w.heap.size w2 ∧ Below w.heap.size w w2) (by kernel_rfl) ⟨hri.out.drew, below_drew hb2⟩ (fun hH => ?_)
            simp only [List.size_toArray, List.length_cons, List.length_nil, Nat.reduceAdd, Array.replicate_succ, Array.replicate_zero, List.push_toArray]
            refine take_at (i := 0) (v := .int .i64 acc) rfl rfl (by kernel_rfl) (by kernel_rfl) (by kernel_rfl) (fun _ _ _ h => h) (.inl ⟨by rfl, fun _ _ => by go_simp⟩) hH ?_
            simp only [List.setIfInBounds_toArray, List.set_cons_zero, List.set_cons_succ]
            refine take_at (i := 1) (v := .bool false) rfl rfl (by kernel_rfl) (by kernel_rfl) (by kernel_rfl) (fun _ _ _ h => h) (.inl ⟨by rfl, fun _ _ => by go_simp⟩) hH ?_
            simp only [List.setIfInBounds_toArray, List.set_cons_zero, List.set_cons_succ]
            refine take_at (i := 2) (v := .bool false) rfl rfl (by kernel_rfl) (by kernel_rfl) (by kernel_rfl) (fun _ _ _ h => h) (.inl ⟨by rfl, fun _ _ => by go_simp⟩) hH ?_
            simp only [List.setIfInBounds_toArray, List.set_cons_zero, List.set_cons_succ]
            refine take_at (i := 3) (v := .int .i64 acc) rfl rfl (by kernel_rfl) (by kernel_rfl) (by kernel_rfl) (fun _ _ _ h => h) (.inl ⟨by rfl, fun _ _ => by go_simp⟩) hH ?_
            simp only [List.setIfInBounds_toArray, List.set_cons_zero, List.set_cons_succ]
            refine take_at (i := 4) (v := .bool true) rfl rfl (by kernel_rfl) (by kernel_rfl) (by kernel_rfl) (fun _ _ _ h => h) (.inl ⟨by rfl, fun _ _ => by go_simp⟩) hH ?_
            simp only [List.setIfInBounds_toArray, List.set_cons_zero, List.set_cons_succ]
            refine take_at (i := 5) (v := .bool true) rfl rfl (by kernel_rfl) (by kernel_rfl) (by kernel_rfl) (fun _ _ _ h => h) (.inl ⟨by rfl, fun _ _ => by go_simp⟩) hH ?_
            simp only [List.setIfInBounds_toArray, List.set_cons_zero, List.set_cons_succ]
            refine take_at (i := 6) (v := .bool true) rfl rfl (by kernel_rfl) (by kernel_rfl) (by kernel_rfl) (fun _ _ _ h => h) (.inl ⟨by rfl, fun _ _ => by go_simp⟩) hH ?_
            simp only [List.setIfInBounds_toArray, List.set_cons_zero, List.set_cons_succ]
            refine skip_at (i := 7) (got := true) rfl rfl rfl rfl (by simp) (by kernel_rfl) (by kernel_rfl) (by kernel_rfl) (fun _ _ _ h => h) hH ?_
            simp only [List.setIfInBounds_toArray, List.set_cons_zero, List.set_cons_succ]
            refine skip_at (i := 8) (got := true) rfl rfl rfl rfl (by simp) (by kernel_rfl) (by kernel_rfl) (by kernel_rfl) (fun _ _ _ h => h) hH ?_
            simp only [List.setIfInBounds_toArray, List.set_cons_zero, List.set_cons_succ]
            refine skip_at (i := 9) (got := true) rfl rfl rfl rfl (by simp) (by kernel_rfl) (by kernel_rfl) (by kernel_rfl) (fun _ _ _ h => h) hH ?_
            simp only [List.setIfInBounds_toArray, List.set_cons_zero, List.set_cons_succ]
            refine skip_at (i := 10) (got := true) rfl rfl rfl rfl (by simp) (by kernel_rfl) (by kernel_rfl) (by kernel_rfl) (fun _ _ _ h => h) hH ?_
            simp only [List.setIfInBounds_toArray, List.set_cons_zero, List.set_cons_succ]
            refine skip_at (i := 11) (got := true) rfl rfl rfl rfl (by simp) (by kernel_rfl) (by kernel_rfl) (by kernel_rfl) (fun _ _ _ h => h) hH ?_
            simp only [List.setIfInBounds_toArray, List.set_cons_zero, List.set_cons_succ]
            refine take_at (i := 12) (v := .bool true) rfl rfl (by kernel_rfl) (by kernel_rfl) (by kernel_rfl) (fun _ _ _ h => h) (.inl ⟨by rfl, fun _ _ => by go_simp⟩) hH ?_
            simp only [List.setIfInBounds_toArray, List.set_cons_zero, List.set_cons_succ]
            refine wpAnyH_done (by kernel_rfl) ?_ _
            go_wp2_with fail
            go_ret2
            exact .inr ⟨HN.out, rfl, hH.2⟩
          have d2 : decide (39999 < acc) = false := decide_eq_false g2
          obtain ⟨N, rfl⟩ : ∃ N : Nat, acc = N := ⟨acc.toNat, by omega⟩
          obtain ⟨R, hR⟩ : ∃ R : ByteArray, (⟨(romL romT N).toArray⟩ : ByteArray) = R := ⟨_, rfl⟩
          have HROM : Hid (∀ (W : World), (RowIs L w.heap.size W ∧ Below w.heap.size w W) → Calls Tryd.prog 15 #[.int .i64 N] W fun e w' => e = .returned (.string R) ∧ (RowIs L w.heap.size w' ∧ Below w.heap.size w w')) := fun W hW => (rroman_any N (by omega) W).mono fun e w' ⟨h1, h2⟩ => ⟨by rw [← hR]; exact h1, hW.1.below h2, step_below hW.2 h2⟩
          have HOK : Hid (R = L ↔ OkR S L) := by
            rw [← hR]
            exact ⟨fun h => ⟨h0, HSL.out, hdg.out, by rw [← HACC.out]; omega, by rw [← HACC.out]; omega, by rw [← HACC.out]; exact h⟩, fun h => by have := h.rom; rw [← HACC.out] at this; exact this⟩
          have HSG : Hid (sgnL L.data.toList = N) := HACC.out.symm
          clear hR g1 g2 hdg HACC HNG HNL a0 a1
          by_cases hRL : R = L
          · have HY := Lib.hid (HOK.out.1 hRL)
            have HRT : Hid (R.toList = L.toList) := by rw [hRL]; rfl
            clear HOK hRL
            go_wp2_with fail
            refine wp_region_held_drew (S := fun w2 => RowIs L w.heap.size w2 ∧ Below w.heap.size w w2) (by kernel_rfl) ⟨hri.out.drew, below_drew hb2⟩ (fun hH => ?_)
            simp only [List.size_toArray, List.length_cons, List.length_nil, Nat.reduceAdd, Array.replicate_succ, Array.replicate_zero, List.push_toArray]
            refine take_at (i := 0) (v := .int .i64 N) rfl rfl (by kernel_rfl) (by kernel_rfl) (by kernel_rfl) (fun _ _ _ h => h) (.inl ⟨by rfl, fun _ _ => by go_simp⟩) hH ?_
            simp only [List.setIfInBounds_toArray, List.set_cons_zero, List.set_cons_succ]
            refine take_at (i := 1) (v := .bool false) rfl rfl (by kernel_rfl) (by kernel_rfl) (by kernel_rfl) (fun _ _ _ h => h) (.inl ⟨by rfl, fun _ _ => by go_simp⟩) hH ?_
            simp only [List.setIfInBounds_toArray, List.set_cons_zero, List.set_cons_succ]
            refine take_at (i := 2) (v := .bool false) rfl rfl (by kernel_rfl) (by kernel_rfl) (by kernel_rfl) (fun _ _ _ h => h) (.inl ⟨by rfl, fun _ _ => by go_simp⟩) hH ?_
            simp only [List.setIfInBounds_toArray, List.set_cons_zero, List.set_cons_succ]
            refine take_at (i := 3) (v := .int .i64 N) rfl rfl (by kernel_rfl) (by kernel_rfl) (by kernel_rfl) (fun _ _ _ h => h) (.inl ⟨by rfl, fun _ _ => by go_simp⟩) hH ?_
            simp only [List.setIfInBounds_toArray, List.set_cons_zero, List.set_cons_succ]
            refine take_at (i := 4) (v := .bool false) rfl rfl (by kernel_rfl) (by kernel_rfl) (by kernel_rfl) (fun _ _ _ h => h) (.inl ⟨by rfl, fun _ _ => by go_simp⟩) hH ?_
            simp only [List.setIfInBounds_toArray, List.set_cons_zero, List.set_cons_succ]
            refine take_at (i := 5) (v := .bool false) rfl rfl (by kernel_rfl) (by kernel_rfl) (by kernel_rfl) (fun _ _ _ h => h) (.inl ⟨by rfl, fun _ _ => by go_simp⟩) hH ?_
            simp only [List.setIfInBounds_toArray, List.set_cons_zero, List.set_cons_succ]
            refine take_at (i := 6) (v := .bool false) rfl rfl (by kernel_rfl) (by kernel_rfl) (by kernel_rfl) (fun _ _ _ h => h) (.inl ⟨by rfl, fun _ _ => by go_simp⟩) hH ?_
            simp only [List.setIfInBounds_toArray, List.set_cons_zero, List.set_cons_succ]
            refine take_at (i := 7) (v := .int .i64 N) rfl rfl (by kernel_rfl) (by kernel_rfl) (by kernel_rfl) (fun _ _ _ h => h) (.inl ⟨by rfl, fun _ _ => by go_simp⟩) hH ?_
            simp only [List.setIfInBounds_toArray, List.set_cons_zero, List.set_cons_succ]
            refine take_at (i := 9) (v := .slice (some ⟨w.heap.size, 0, none⟩) S.size cap) rfl rfl (by kernel_rfl) (by kernel_rfl) (by kernel_rfl) (fun _ _ _ h => h) (.inl ⟨by rfl, fun _ _ => by go_simp⟩) hH ?_
            simp only [List.setIfInBounds_toArray, List.set_cons_zero, List.set_cons_succ]
            refine take_at (i := 10) (v := .string L) rfl rfl (by kernel_rfl) (by kernel_rfl) (by kernel_rfl) (fun _ _ _ h => h) (.inl ⟨by rfl, fun _ hw => by have hbk := hw.1.back hLs cap; go_simp⟩) hH ?_
            simp only [List.setIfInBounds_toArray, List.set_cons_zero, List.set_cons_succ]
            refine call_at (i := 8) rfl (by kernel_rfl) (by rfl) (fun K hK => ?_)
            go_simp
            refine (HROM.out _ hH).mono ?_
            rintro e w4 ⟨rfl, hH4⟩
            clear hH
            go_wp2_with fail
            refine hK.out _ _ hH4 (fun hH => ?_)
            clear hK K hH4
            simp only [List.setIfInBounds_toArray]
            refine take_at (i := 11) (v := .bool false) rfl rfl (by kernel_rfl) (by kernel_rfl) (by kernel_rfl) (fun _ _ _ h => h) (.inl ⟨by rfl, fun _ _ => by go_simp; exact HRT.out⟩) hH ?_
            simp only [List.setIfInBounds_toArray, List.set_cons_zero, List.set_cons_succ]
            refine take_at (i := 12) (v := .bool false) rfl rfl (by kernel_rfl) (by kernel_rfl) (by kernel_rfl) (fun _ _ _ h => h) (.inl ⟨by rfl, fun _ _ => by go_simp⟩) hH ?_
            simp only [List.setIfInBounds_toArray, List.set_cons_zero, List.set_cons_succ]
            refine wpAnyH_done (by kernel_rfl) ?_ _
            go_wp2_with fail
            go_ret2
            exact .inl ⟨HY.out, by rw [HSG.out]; exact ⟨rfl, hH.2⟩⟩
          · have HN := Lib.hid (fun h => hRL (HOK.out.2 h))
            have HRT : Hid (¬ R.toList = L.toList) := fun h => hRL (ba_ext (by rw [← Lib.toList_data, ← Lib.toList_data, h]))
            clear HOK hRL
            go_wp2_with fail
            refine wp_region_held_drew (S := fun w2 => RowIs L w.heap.size w2 ∧ Below w.heap.size w w2) (by kernel_rfl) ⟨hri.out.drew, below_drew hb2⟩ (fun hH => ?_)
            simp only [List.size_toArray, List.length_cons, List.length_nil, Nat.reduceAdd, Array.replicate_succ, Array.replicate_zero, List.push_toArray]
            refine take_at (i := 0) (v := .int .i64 N) rfl rfl (by kernel_rfl) (by kernel_rfl) (by kernel_rfl) (fun _ _ _ h => h) (.inl ⟨by rfl, fun _ _ => by go_simp⟩) hH ?_
            simp only [List.setIfInBounds_toArray, List.set_cons_zero, List.set_cons_succ]
            refine take_at (i := 1) (v := .bool false) rfl rfl (by kernel_rfl) (by kernel_rfl) (by kernel_rfl) (fun _ _ _ h => h) (.inl ⟨by rfl, fun _ _ => by go_simp⟩) hH ?_
            simp only [List.setIfInBounds_toArray, List.set_cons_zero, List.set_cons_succ]
            refine take_at (i := 2) (v := .bool false) rfl rfl (by kernel_rfl) (by kernel_rfl) (by kernel_rfl) (fun _ _ _ h => h) (.inl ⟨by rfl, fun _ _ => by go_simp⟩) hH ?_
            simp only [List.setIfInBounds_toArray, List.set_cons_zero, List.set_cons_succ]
            refine take_at (i := 3) (v := .int .i64 N) rfl rfl (by kernel_rfl) (by kernel_rfl) (by kernel_rfl) (fun _ _ _ h => h) (.inl ⟨by rfl, fun _ _ => by go_simp⟩) hH ?_
            simp only [List.setIfInBounds_toArray, List.set_cons_zero, List.set_cons_succ]
            refine take_at (i := 4) (v := .bool false) rfl rfl (by kernel_rfl) (by kernel_rfl) (by kernel_rfl) (fun _ _ _ h => h) (.inl ⟨by rfl, fun _ _ => by go_simp⟩) hH ?_
            simp only [List.setIfInBounds_toArray, List.set_cons_zero, List.set_cons_succ]
            refine take_at (i := 5) (v := .bool false) rfl rfl (by kernel_rfl) (by kernel_rfl) (by kernel_rfl) (fun _ _ _ h => h) (.inl ⟨by rfl, fun _ _ => by go_simp⟩) hH ?_
            simp only [List.setIfInBounds_toArray, List.set_cons_zero, List.set_cons_succ]
            refine take_at (i := 6) (v := .bool false) rfl rfl (by kernel_rfl) (by kernel_rfl) (by kernel_rfl) (fun _ _ _ h => h) (.inl ⟨by rfl, fun _ _ => by go_simp⟩) hH ?_
            simp only [List.setIfInBounds_toArray, List.set_cons_zero, List.set_cons_succ]
            refine take_at (i := 7) (v := .int .i64 N) rfl rfl (by kernel_rfl) (by kernel_rfl) (by kernel_rfl) (fun _ _ _ h => h) (.inl ⟨by rfl, fun _ _ => by go_simp⟩) hH ?_
            simp only [List.setIfInBounds_toArray, List.set_cons_zero, List.set_cons_succ]
            refine take_at (i := 9) (v := .slice (some ⟨w.heap.size, 0, none⟩) S.size cap) rfl rfl (by kernel_rfl) (by kernel_rfl) (by kernel_rfl) (fun _ _ _ h => h) (.inl ⟨by rfl, fun _ _ => by go_simp⟩) hH ?_
            simp only [List.setIfInBounds_toArray, List.set_cons_zero, List.set_cons_succ]
            refine take_at (i := 10) (v := .string L) rfl rfl (by kernel_rfl) (by kernel_rfl) (by kernel_rfl) (fun _ _ _ h => h) (.inl ⟨by rfl, fun _ hw => by have hbk := hw.1.back hLs cap; go_simp⟩) hH ?_
            simp only [List.setIfInBounds_toArray, List.set_cons_zero, List.set_cons_succ]
            refine call_at (i := 8) rfl (by kernel_rfl) (by rfl) (fun K hK => ?_)
            go_simp
            refine (HROM.out _ hH).mono ?_
            rintro e w4 ⟨rfl, hH4⟩
            clear hH
            go_wp2_with fail
            refine hK.out _ _ hH4 (fun hH => ?_)
            clear hK K hH4
            simp only [List.setIfInBounds_toArray]
            refine take_at (i := 11) (v := .bool true) rfl rfl (by kernel_rfl) (by kernel_rfl) (by kernel_rfl) (fun _ _ _ h => h) (.inl ⟨by rfl, fun _ _ => by go_simp; exact HRT.out⟩) hH ?_
            simp only [List.setIfInBounds_toArray, List.set_cons_zero, List.set_cons_succ]
            refine take_at (i := 12) (v := .bool true) rfl rfl (by kernel_rfl) (by kernel_rfl) (by kernel_rfl) (fun _ _ _ h => h) (.inl ⟨by rfl, fun _ _ => by go_simp⟩) hH ?_
            simp only [List.setIfInBounds_toArray, List.set_cons_zero, List.set_cons_succ]
            refine wpAnyH_done (by kernel_rfl) ?_ _
            go_wp2_with fail
            go_ret2
            exact .inr ⟨HN.out, rfl, hH.2⟩
end Go.Proofs.YtghpcfodjacdpaaDoor
