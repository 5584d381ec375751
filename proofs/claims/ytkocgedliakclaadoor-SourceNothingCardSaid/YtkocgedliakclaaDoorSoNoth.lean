/- SourceNothing's walk. -/
import Derived.Test.YtkocgedliakclaaDoorSoBig
import Derived.Test.YtkocgedliakclaaDoorSoLine
import Derived.Test.YtkocgedliakclaaDoorSoSane2
import Derived.Deep.RegionWith
import Derived.Deep.DeepCutAuto
namespace Go.Proofs.YtkocgedliakclaaDoor
open Go.RowKit Go.PlainAid Go.Maps Go.Shelf

theorem mod8 (a : Int) : ∃ n : Nat, wrap64 ((IntKind.u64.wrap a).tmod 8) = n ∧ n < 8 := by
  have hu : 0 ≤ IntKind.u64.wrap a := by rw [IntKind.wrap_u64]; omega
  have e : (IntKind.u64.wrap a).tmod 8 = IntKind.u64.wrap a % 8 := Int.tmod_eq_emod_of_nonneg hu
  have l0 := Int.emod_nonneg (IntKind.u64.wrap a) (show (8 : Int) ≠ 0 by omega)
  have l1 := Int.emod_lt_of_pos (IntKind.u64.wrap a) (show (0 : Int) < 8 by omega)
  rw [e, IntWalk.wrap64_in _ (by omega)]
  exact ⟨(IntKind.u64.wrap a % 8).toNat, (Int.toNat_of_nonneg l0).symm, by omega⟩

theorem line_box {w : World} {g : Nat} {t : ByteArray} {m : Bool} {up dn : Int} {v : Value} (h : w.heap[g]? = some (.cells #[.string t, .bool m, .int .i64 up, .int .i64 dn, v] 37 (0, 0))) : LineBox g t m up dn v w := by
  obtain ⟨⟨r0, r1, r2, r3, r4⟩, _⟩ := cells5 h
  exact ⟨r0, r1, r2, r3, r4, (Array.getElem?_eq_some_iff.1 h).1⟩
theorem nil_boxes (w : World) : BoxesRd (· < w.heap.size) (.slice none 0 0) [] w := ⟨none, 0, rfl, Nat.zero_le _, 0, 0, fun h => absurd h (Nat.lt_irrefl _), fun i hi => absurd hi (Nat.not_lt_zero _)⟩
theorem line_zero (w : World) : Calls Tryd.prog 10 #[.agg #[.string ⟨#[]⟩, .bool false, .int .i64 0, .int .i64 0, .slice none 0 0], .agg #[.string ⟨#[]⟩, .bool false, .int .i64 0, .int .i64 0, .slice none 0 0]] w (Makes (.bool true) w) :=
  line_same ⟨⟨#[]⟩, false, 0, 0, []⟩ none 0 none 0 w (nil_boxes w) (nil_boxes w)

set_option maxRecDepth 100000 in
set_option maxHeartbeats 8000000 in
theorem nothing_any (k z : Int) (s t : ByteArray) (ao : Option Addr) (c : Nat) (l : List LineC) (aa : Option Addr) (ac : Nat) (xs : List ByteArray) (w : World)
    (hr : LinesRd (· < w.heap.size) (.slice ao l.length c) l w) (hf : Fit l) (hx : ∀ x ∈ l, x.text.size ≤ 140737488355328) (ht : t.size ≤ 140737488355328) (ha : StrsRd (· < w.heap.size) (.slice aa xs.length ac) xs w) (hal : xs.length * 16 ≤ 140737488355328) :
    Calls Tryd.prog 3 #[.agg #[.int .i64 k, .string s, .string t, .slice ao l.length c, .slice aa xs.length ac, .int .i64 z]] w (Makes (.bool true) w) := by
  obtain ⟨n, hn, hn8⟩ := mod8 k
  have hb1 : Below w.heap.size w ((w.alloc (.cells #[.int .i64 k, .string s, .string t, .slice ao l.length c, .slice aa xs.length ac, .int .i64 z] 25)).alloc (.cells #[.int .i64 k, .string s, .string t, .slice ao l.length c, .slice aa xs.length ac, .int .i64 z] 25)) := ((Below.refl _ _).alloc (Nat.le_refl _) _).alloc (by simp) _
  have r1 : ((w.alloc (.cells #[.int .i64 k, .string s, .string t, .slice ao l.length c, .slice aa xs.length ac, .int .i64 z] 25)).alloc (.cells #[.int .i64 k, .string s, .string t, .slice ao l.length c, .slice aa xs.length ac, .int .i64 z] 25)).heap[w.heap.size + 1]? = some (.cells #[.int .i64 k, .string s, .string t, .slice ao l.length c, .slice aa xs.length ac, .int .i64 z] 25 (0, 0)) := by
    have h1 := heap_alloc_new (w.alloc (.cells #[.int .i64 k, .string s, .string t, .slice ao l.length c, .slice aa xs.length ac, .int .i64 z] 25)) (.cells #[.int .i64 k, .string s, .string t, .slice ao l.length c, .slice aa xs.length ac, .int .i64 z] 25)
    rwa [World.size_alloc] at h1
  have r0 : ((w.alloc (.cells #[.int .i64 k, .string s, .string t, .slice ao l.length c, .slice aa xs.length ac, .int .i64 z] 25)).alloc (.cells #[.int .i64 k, .string s, .string t, .slice ao l.length c, .slice aa xs.length ac, .int .i64 z] 25)).heap[w.heap.size]? = some (.cells #[.int .i64 k, .string s, .string t, .slice ao l.length c, .slice aa xs.length ac, .int .i64 z] 25 (0, 0)) := by
    rw [heap_alloc_old _ _ (by simp)]
    exact heap_alloc_new _ _
  have HB := Lib.hid (big_one (w.heap.size + 1) k z s t ao c l aa ac xs.length _ r1 (hr.lift hb1) hf hx ht (by omega))
  have HR0 := Lib.hid r0
  have HB1 := Lib.hid hb1
  have HL := Lib.hid hr
  have HA := Lib.hid ha
  have HF := Lib.hid hf
  have HN := Lib.hid hn
  clear hr ha hb1 r1 r0 hf hx hn
  go_enter Tryd.func3, Tryd.ntmps3
  go_wp2_with fail
  refine (HB.out).mono ?_
  rintro e w2 ⟨q, rfl, hb2, hq⟩
  have HB2 := Lib.hid (HB1.out.trans (Below.mono hb2 HB1.out.size))
  cases q with
  | true =>
    clear hq HB HR0 HL HA HN
    go_wp2_with fail
    refine (soSane_any _).mono ?_
    rintro e w5 ⟨rfl, hb5⟩
    go_wp2_with fail
    go_ret
    exact ⟨rfl, HB2.out.trans (Below.mono hb5 HB2.out.size)⟩
  | false =>
    have HT := Lib.hid (hq rfl)
    have hr2 := (hb2.block w.heap.size (by simp; omega)).trans HR0.out
    have hw2 : w.heap.size + 2 ≤ w2.heap.size := by have := hb2.size; simpa using this
    have d0 : w2.cell? ⟨w.heap.size, 0, none⟩ = some (.int .i64 k) := by simp [World.cell?, hr2]
    have f0 : w2.frozen? ⟨w.heap.size, 0, none⟩ = false := by simp [World.frozen?, hr2]
    have HR2 := Lib.hid hr2
    clear hq HB HR0 hr2 hb2 HB1
    go_wp2_with fail
    simp only [HN.out]
    obtain ⟨W0, hW0⟩ : ∃ W0, (((w2.setCell ⟨w.heap.size, 0, none⟩ (.int .i64 (n : Int))).alloc (.cells #[.bool false, .slice none 0 0] 33)).alloc (.cells #[.pointer none, .pointer (some ⟨w2.heap.size, 0, none⟩)] 30)) = W0 := ⟨_, rfl⟩
    rw [hW0]
    have HB0 := Lib.hid (show Below w.heap.size w W0 by
      rw [← hW0]
      exact ((HB2.out.setCell (p := ⟨w.heap.size, 0, none⟩) (by simp) _).alloc (by simp; omega) _).alloc (by simp; omega) _)
    have HSZ := Lib.hid (show W0.heap.size = w2.heap.size + 2 by rw [← hW0]; simp)
    have HD := Lib.hid (show W0.heap[w.heap.size]? = some (.cells #[.int .i64 (n : Int), .string s, .string t, .slice ao l.length c, .slice aa xs.length ac, .int .i64 z] 25 (0, 0)) by
      rw [← hW0, heap_alloc_old _ _ (by simp; omega), heap_alloc_old _ _ (by simp; omega)]
      exact heap_set_at HR2.out 0 _)
    have HK := Lib.hid (show W0.heap[w2.heap.size]? = some (.cells #[.bool false, .slice none 0 0] 33 (0, 0)) by
      rw [← hW0, heap_alloc_old _ _ (by simp)]
      have h1 := heap_alloc_new (w2.setCell ⟨w.heap.size, 0, none⟩ (.int .i64 (n : Int))) (.cells #[.bool false, .slice none 0 0] 33)
      simpa using h1)
    have HW := Lib.hid (show W0.heap[w2.heap.size + 1]? = some (.cells #[.pointer none, .pointer (some ⟨w2.heap.size, 0, none⟩)] 30 (0, 0)) by
      rw [← hW0]
      have h1 := heap_alloc_new ((w2.setCell ⟨w.heap.size, 0, none⟩ (.int .i64 (n : Int))).alloc (.cells #[.bool false, .slice none 0 0] 33)) (.cells #[.pointer none, .pointer (some ⟨w2.heap.size, 0, none⟩)] 30)
      simpa using h1)
    clear hW0 d0 f0 HR2 HN
    have hws : w.heap.size < W0.heap.size := by have := HSZ.out; omega
    go_loopw [5, 6, 7] (fun i _ _ wr => ∃ j : Nat, j ≤ 2 ∧ i = .int .i64 j ∧ Hid (Below W0.heap.size W0 wr)) (fun i _ _ _ => 2 - (intOf i).toNat)
    case atStart => exact ⟨0, by omega, rfl, Below.refl _ _⟩
    case round =>
      obtain ⟨j, hj, rfl, hb⟩ := hrel
      by_cases hlt : j < 2
      · have hD := (hb.out.block _ hws).trans HD.out
        have hW := (hb.out.block (w2.heap.size + 1) (by have := HSZ.out; omega)).trans HW.out
        have hK := (hb.out.block w2.heap.size (by have := HSZ.out; omega)).trans HK.out
        obtain ⟨p, hp, hnone⟩ : ∃ p, wr.cell? ⟨w2.heap.size + 1, j, none⟩ = some (.pointer p) ∧ NoneSk p wr := by
          have hj2 : j = 0 ∨ j = 1 := by omega
          rcases hj2 with rfl | rfl
          · exact ⟨none, by simp [World.cell?, hW], .inl rfl⟩
          · exact ⟨some ⟨w2.heap.size, 0, none⟩, by simp [World.cell?, hW], .inr ⟨_, rfl, (Array.getElem?_eq_some_iff.1 hK).1, by simp [World.cell?, hK]⟩⟩
        have HNO := Lib.hid hnone
        have HBW := Lib.hid (HB0.out.trans (Below.mono hb.out (Nat.le_of_lt hws)))
        have HC := Lib.hid (fun W (hW : Below wr.heap.size wr W) => do_nil (hnone.below hW) n ⟨by omega, by omega⟩ s t (by have := HT.out; omega) ao c l aa ac xs ((HL.out.lift HBW.out).lift hW) HF.out ((HA.out.lift HBW.out).lift hW) hal z)
        have d0 : wr.cell? ⟨w.heap.size, 0, none⟩ = some (.int .i64 (n : Int)) := by simp [World.cell?, hD]
        have d1 : wr.cell? ⟨w.heap.size, 1, none⟩ = some (.string s) := by simp [World.cell?, hD]
        have d2 : wr.cell? ⟨w.heap.size, 2, none⟩ = some (.string t) := by simp [World.cell?, hD]
        have d3 : wr.cell? ⟨w.heap.size, 3, none⟩ = some (.slice ao l.length c) := by simp [World.cell?, hD]
        have d4 : wr.cell? ⟨w.heap.size, 4, none⟩ = some (.slice aa xs.length ac) := by simp [World.cell?, hD]
        have d5 : wr.cell? ⟨w.heap.size, 5, none⟩ = some (.int .i64 z) := by simp [World.cell?, hD]
        have hjz : (j : Int) < 2 := by omega
        have hjn : (0 : Int) ≤ j := by omega
        have HDR := Lib.hid (show Below wr.heap.size wr wr.drew from below_drewN' (Below.refl _ _) 1)
        unfold zeroLn at HC
        have HAL := Lib.hid (show ∀ o, Below wr.heap.size wr (wr.alloc o).drew from fun o => have h := (Below.refl wr.heap.size wr).alloc (Nat.le_refl _) o; ⟨h.os, h.tape, h.output, h.size, h.block⟩)
        have HLT := Lib.hid (show ∀ o, wr.heap.size < (wr.alloc o).drew.heap.size from fun o => by simp)
        have HNW := Lib.hid (show ∀ o, (wr.alloc o).drew.heap[wr.heap.size]? = some o from fun o => heap_alloc_new wr o)
        have hq1 : w.heap.size < wr.heap.size := (Array.getElem?_eq_some_iff.1 hD).1
        have hq2 : w2.heap.size + 1 < wr.heap.size := (Array.getElem?_eq_some_iff.1 hW).1
        have hq3 : ¬ w.heap.size = wr.heap.size := by omega
        have hq4 : ¬ w2.heap.size + 1 = wr.heap.size := by omega
        clear hD hW hK hnone
        go_upto_region 9 with fail
        go_cut [6, 7] (fun s6 s7 wx => ∃ q : Nat, s6 = .pointer (some ⟨q, 0, none⟩) ∧ s7 = .int .i64 1 ∧ Hid (Below wr.heap.size wr wx) ∧ Hid (LineBox q ⟨#[]⟩ false 0 0 (.slice none 0 0) wx))
        case first =>
          go_region_with (go_at_call 9; first | (refine (HC.out _ HDR.out).mono ?_; rintro e w3 ⟨rfl, hb3⟩) | (refine (HC.out _ (HAL.out _)).mono ?_; rintro e w3 ⟨rfl, hb3⟩; have hR3 : w3.heap[wr.heap.size]? = some (.cells #[.string ⟨#[]⟩, .bool false, .int .i64 0, .int .i64 0, .slice none 0 0] 37 (0, 0)) := (hb3.block wr.heap.size (HLT.out _)).trans (HNW.out _); obtain ⟨⟨r0, r1, r2, r3, r4⟩, f0, f1, f2, f3, f4⟩ := cells5 hR3))
          all_goals
            go_wp2_with fail
            go_meet
            case rel =>
              first
                | (obtain ⟨hset, hgs⟩ := set5 (c0 := .string ⟨#[]⟩) (c1 := .bool false) (c2 := .int .i64 0) (c3 := .int .i64 0) (c4 := .slice none 0 0) hR3
                   have hbb := Lib.hid (((HAL.out _).trans (Below.mono hb3 (HAL.out _).size)).trans (grown_to_below hgs (Nat.le_refl _) (Nat.le_trans (HAL.out _).size hb3.size)))
                   have hll := Lib.hid (line_box hset)
                   exact ⟨_, rfl, rfl, hbb, hll⟩)
                | (have hbb := Lib.hid ((HDR.out.trans (Below.mono hb3 HDR.out.size)).alloc (Nat.le_trans HDR.out.size hb3.size) (.cells #[.string ⟨#[]⟩, .bool false, .int .i64 0, .int .i64 0, .slice none 0 0] 37))
                   have hll := Lib.hid (line_box (heap_alloc_new w3 (.cells #[.string ⟨#[]⟩, .bool false, .int .i64 0, .int .i64 0, .slice none 0 0] 37)))
                   exact ⟨_, rfl, rfl, hbb, hll⟩)
        case rest =>
          obtain ⟨p6, rfl, rfl, HB3, HP6⟩ := hcut
          obtain ⟨a0, a1, a2, a3, a4, h6l⟩ := HP6.out
          have hp3 := (HB3.out.cell (p := ⟨w2.heap.size + 1, j, none⟩) hq2).trans hp
          have HNC := Lib.hid (fun W (h : Below wr.heap.size wr W) => HNO.out.below h)
          clear d0 d1 d2 d3 d4 d5 HC HDR HAL HLT HNW HP6 HNO HL HA HF
          go_wp2_with fail
          refine (line_zero _).mono ?_
          rintro e w4 ⟨rfl, hb4⟩
          have HB4 := Lib.hid (HB3.out.trans (Below.mono hb4 HB3.out.size))
          have hp4 := (HB4.out.cell (p := ⟨w2.heap.size + 1, j, none⟩) hq2).trans hp
          clear hb4 a0 a1 a2 a3 a4 h6l hp3
          go_wp2_with fail
          refine (depth_nil (HNC.out _ HB4.out)).mono ?_
          rintro e w5 ⟨rfl, rfl⟩
          go_wp2_with fail
          refine (line_nil (HNC.out _ HB4.out)).mono ?_
          rintro e w6 ⟨rfl, hb6⟩
          have HB6 := Lib.hid (HB4.out.trans (Below.mono hb6 HB4.out.size))
          have hp6 := (HB6.out.cell (p := ⟨w2.heap.size + 1, j, none⟩) hq2).trans hp
          clear hb6
          go_wp2_with fail
          refine (name_nil (HNC.out _ HB6.out)).mono ?_
          rintro e w7 ⟨rfl, hb7⟩
          have HB7 := Lib.hid (HB6.out.trans (Below.mono hb7 HB6.out.size))
          have hp7 := (HB7.out.cell (p := ⟨w2.heap.size + 1, j, none⟩) hq2).trans hp
          clear hb7
          go_wp2_with fail
          refine (args_nil (HNC.out _ HB7.out)).mono ?_
          rintro e w8 ⟨rfl, hb8⟩
          have HB8 := Lib.hid (HB7.out.trans (Below.mono hb8 HB7.out.size))
          have hp8 := (HB8.out.cell (p := ⟨w2.heap.size + 1, j, none⟩) hq2).trans hp
          clear hb8
          go_wp2_with fail
          refine (copy_nil (HNC.out _ HB8.out)).mono ?_
          rintro e w9 ⟨rfl, rfl⟩
          have HB9 := Lib.hid (hb.out.trans (Below.mono HB8.out hb.out.size))
          go_wp2_with fail
          go_roundw
          case rel => exact ⟨j + 1, by omega, by go_num, HB9⟩
          case measure => simp only [intOf]; omega
      · obtain rfl : j = 2 := by omega
        go_wp2_with fail
        refine (soSane_any _).mono ?_
        rintro e w5 ⟨rfl, hb5⟩
        go_wp2_with fail
        go_ret
        have hb6 := hb.out.trans (Below.mono hb5 hb.out.size)
        exact ⟨rfl, HB0.out.trans (Below.mono hb6 (Nat.le_of_lt hws))⟩
end Go.Proofs.YtkocgedliakclaaDoor
