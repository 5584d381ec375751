/- RegisterFull's walk. -/
import Derived.Test.YtkkcoajgpdpfkaaGreatDoorRgNames
namespace Go.Proofs.YtkkcoajgpdpfkaaGreatDoor
open Go.RowKit Go.PlainAid Go.Maps Go.Sort

theorem umod (a m : Int) (h0 : 0 < m) (h1 : m ≤ 1000000000000) : ∃ n : Nat, wrap64 ((IntKind.u64.wrap a).tmod m) = n ∧ (n : Int) < m := by
  have hu : 0 ≤ IntKind.u64.wrap a := by rw [IntKind.wrap_u64]; omega
  have e : (IntKind.u64.wrap a).tmod m = IntKind.u64.wrap a % m := Int.tmod_eq_emod_of_nonneg hu
  have l0 := Int.emod_nonneg (IntKind.u64.wrap a) (show m ≠ 0 from by omega)
  have l1 := Int.emod_lt_of_pos (IntKind.u64.wrap a) (show 0 < m from by omega)
  refine ⟨(IntKind.u64.wrap a % m).toNat, ?_, by omega⟩
  rw [e, IntWalk.wrap64_in _ (by omega)]; omega

/-- i registers, of the names from r and F on. -/
structure Filled (F i : Nat) (D : DataW Unit) : Prop where
  tidy : Tidy D
  size : Maps.size D = i
  mem : ∀ k : Lit, has D k = true ↔ ∃ j, j < i ∧ k = bkey (rName (F + j))
theorem filled_zero (F : Nat) : Filled F 0 (.map []) :=
  ⟨tidy_empty, rfl, fun k => ⟨fun h => by simp [has] at h, fun ⟨j, hj, _⟩ => absurd hj (Nat.not_lt_zero _)⟩⟩
theorem bkey_key (s : ByteArray) : WideAt.IsKeyLit (bkey s) := trivial
theorem bkey_inj {a c : ByteArray} (h : bkey a = bkey c) : a.data.toList = c.data.toList := by injection h
theorem filled_new {F i : Nat} {D : DataW Unit} (h : Filled F i D) : has D (bkey (rName (F + i))) = false := by
  cases hh : has D (bkey (rName (F + i))) with
  | false => rfl
  | true =>
    obtain ⟨j, hj, he⟩ := (h.mem _).1 hh
    have := rName_inj (bkey_inj he)
    omega
theorem filled_next {F i : Nat} {D : DataW Unit} (h : Filled F i D) (d : DataW Unit) : Filled F (i + 1) (D.put (bkey (rName (F + i))) d) := by
  have hn := filled_new h
  refine ⟨h.tidy.put (bkey_key _) d, by rw [size_put h.tidy, hn, h.size]; rfl, fun k => ?_⟩
  by_cases e : k = bkey (rName (F + i))
  · subst e
    exact ⟨fun _ => ⟨i, by omega, rfl⟩, fun _ => has_put_same h.tidy.isMap (bkey_key _) d⟩
  · rw [has_put_other e, h.mem k]
    exact ⟨fun ⟨j, hj, he⟩ => ⟨j, by omega, he⟩, fun ⟨j, hj, he⟩ => ⟨j, by
      rcases Nat.lt_or_ge j i with h1 | h1
      · exact h1
      · exact absurd (by rw [he, show j = i from by omega]) e, he⟩⟩
theorem filled_more {F i : Nat} {D : DataW Unit} (h : Filled F i D) : has D (bkey ⟨#[109, 111, 114, 101]⟩) = false := by
  cases hh : has D (bkey ⟨#[109, 111, 114, 101]⟩) with
  | false => rfl
  | true =>
    obtain ⟨j, hj, he⟩ := (h.mem _).1 hh
    have h1 := bkey_inj he
    rw [rName_list] at h1
    exact absurd (List.cons.inj h1).1 (by decide)
theorem strKeys_length {D : DataW Unit} : (strKeys D).length = Maps.size D := by
  cases D <;> simp [strKeys, Maps.size]
theorem more_ok : nameErr ⟨#[109, 111, 114, 101]⟩ = 0 := by
  unfold nameErr
  rw [nameB_of (by decide) (by decide) (by decide)]
  rfl
theorem rName_err {u : Nat} (h : u < 1000000) : nameErr (rName u) = 0 := by unfold nameErr; rw [rName_ok h]; rfl

set_option maxRecDepth 100000 in
set_option maxHeartbeats 4000000 in
theorem full_in (seed v : Int) (w : World) (h3 : -1000000000 ≤ v) (h4 : v ≤ 1000000000) : Calls Tryz.prog 6 #[.int .i64 seed, .int .i64 v] w fun e w' => e = .returned (.bool true) ∧ Below w.heap.size w w' := by
  obtain ⟨F, eF, hF⟩ := umod seed 100000 (by omega) (by omega)
  obtain ⟨G, eG, hG⟩ := umod seed 500 (by omega) (by omega)
  obtain ⟨f, hf⟩ : ∃ f : Int, f = F := ⟨_, rfl⟩
  obtain ⟨g, hg⟩ : ∃ g : Int, g = G := ⟨_, rfl⟩
  rw [← hf] at eF hF
  rw [← hg] at eG hG
  have f0 : 0 ≤ f := by omega
  have g0 : 0 ≤ g := by omega
  have HF := Lib.hid hf
  have HG := Lib.hid hg
  clear hf hg
  go_enter Tryz.func6, Tryz.ntmps6
  go_wp2_with fail
  refine (new_any _).mono ?_
  rintro e w1 ⟨b, mb, rfl, hb, hmb, hB, hw⟩
  go_wp2_with fail
  simp only [eF]
  clear eF
  go_loopw [7] (fun i wr => ∃ (k : Nat) (D : DataW Unit), k ≤ 500 ∧ i = .int .i64 k ∧ BookAt b mb k D wr ∧ Hid (Filled F k D) ∧ Below w.heap.size w wr) (fun i _ => 500 - (intOf i).toNat)
  case atStart => exact ⟨0, _, by omega, rfl, hB, filled_zero F, hw⟩
  case round =>
    obtain ⟨k, D, hk, rfl, hBk, hfl, hbk⟩ := hrel
    by_cases hlt : k < 500
    · have hfk := HF.out
      have hd := decimal_any (F + k) (by omega)
      rw [show ((F + k : Nat) : Int) = f + k from by omega] at hd
      have HD := Lib.hid hd
      have hz : (decS (F + k)).size ≤ 6 := by rw [Lib.size_eq, decS_list]; exact dec_six (by omega)
      have hne : nameErr (rName (F + k)) = 0 := rName_err (by omega)
      have HN := Lib.hid hne
      clear hd hfk hne
      go_wp2_with fail
      refine (HD.out _).mono ?_
      rintro e w2 ⟨rfl, hb2⟩
      go_wp2_with fail
      refine (set_ok (hBk.below hb2) (rName (F + k)) v (if_pos ⟨h3, h4⟩) HN.out (.inr (by rw [hfl.out.size]; omega)) (by unfold maxLen; omega)).mono ?_
      rintro e w3 ⟨rfl, r, _, hB3, hg3⟩
      go_wp2_with fail
      go_roundw
      case rel => exact ⟨k + 1, _, by omega, by go_num, hB3, filled_next hfl.out _, hbk.trans ((grown_to_below (grown_trans (grown_below hb2 _) hg3) hmb hbk.size))⟩
      case measure => simp only [intOf]; omega
    · obtain rfl : k = 500 := by omega
      have hfk := HF.out
      have hgk := HG.out
      have hd := decimal_any (F + G) (by omega)
      rw [show ((F + G : Nat) : Int) = f + g from by omega] at hd
      have HD := Lib.hid hd
      have hz : (decS (F + G)).size ≤ 6 := by rw [Lib.size_eq, decS_list]; exact dec_six (by omega)
      have HO := Lib.hid (rName_err (u := F + G) (by omega))
      have HM := Lib.hid (filled_more hfl.out)
      have HS := Lib.hid hfl.out.size
      have HI := Lib.hid ((hfl.out.mem _).2 ⟨G, by omega, rfl⟩)
      have HT := Lib.hid hfl.out.tidy
      clear hd hfk hgk
      go_wp2_with fail
      refine (HD.out _).mono ?_
      rintro e w2 ⟨rfl, hb2⟩
      have hB2 := hBk.below hb2
      have hk2 := hbk.trans (hb2.mono hbk.size)
      go_wp2_with fail
      refine (set_full hB2 _ v (if_pos ⟨h3, h4⟩) more_ok HM.out HS.out).mono ?_
      rintro e w3 ⟨rfl, hb3⟩
      have hB3 := hB2.below hb3
      have hk3 := hk2.trans (hb3.mono hk2.size)
      go_wp2_with fail
      refine (step_full hB3 _ 1 rfl more_ok HM.out HS.out).mono ?_
      rintro e w4 ⟨rfl, hb4⟩
      have hB4 := hB3.below hb4
      have hk4 := hk3.trans (hb4.mono hk3.size)
      go_wp2_with fail
      refine (format_full hB4 _ _ formError_i more_ok HM.out HS.out).mono ?_
      rintro e w5 ⟨rfl, hb5⟩
      have hB5 := hB4.below hb5
      have hk5 := hk4.trans (hb5.mono hk4.size)
      go_wp2_with fail
      refine (set_ok hB5 (rName (F + G)) 1 rfl HO.out (.inl HI.out) (by unfold maxLen; omega)).mono ?_
      rintro e w6 ⟨rfl, r, _, hB6, hg6⟩
      have hk6 := hk5.trans (grown_to_below hg6 hmb hk5.size)
      have hh6 : has (D.put (bkey (rName (F + G))) (setV 1 r).data) (bkey ⟨#[109, 111, 114, 101]⟩) = false := by
        rw [has_put_other (fun e => by have := bkey_inj e; rw [rName_list] at this; exact absurd (List.cons.inj this).1 (by decide))]
        exact HM.out
      have hs6 : Maps.size (D.put (bkey (rName (F + G))) (setV 1 r).data) = 500 := by rw [size_put HT.out, HI.out, HS.out]; rfl
      have HA := Lib.hid (has_any hB6 ⟨#[109, 111, 114, 101]⟩ (by decide))
      rw [hh6] at HA
      have H6 := Lib.hid hs6
      clear hh6 hs6
      go_wp2_with fail
      refine (HA.out).mono ?_
      rintro e w7 ⟨rfl, hb7⟩
      have hB7 := hB6.below hb7
      have hk7 := hk6.trans (hb7.mono hk6.size)
      go_wp2_with fail
      refine (names_any hB7 (by rw [H6.out]; omega)).mono ?_
      rintro e w8 ⟨vv, ss, rfl, hS, hrow, _, hb8⟩
      have hl : ss.length = 500 := by rw [hS.length_eq, strKeys_length, H6.out]
      have hk8 := hk7.trans (hb8.mono hk7.size)
      rcases hrow.2 with ⟨_, h0⟩ | ⟨gg, cap, cur, rfl, _⟩
      · exact absurd h0 (by rw [hl]; omega)
      rw [hl]
      clear hrow hS
      go_wp2_with fail
      refine (sane_any _).mono ?_
      rintro e w9 ⟨rfl, rfl⟩
      go_wp2_with fail
      go_ret
      exact ⟨rfl, hk8⟩

set_option maxRecDepth 100000 in
set_option maxHeartbeats 4000000 in
theorem full_under (seed v : Int) (w : World) (h3 : v < -1000000000) : Calls Tryz.prog 6 #[.int .i64 seed, .int .i64 v] w fun e w' => e = .returned (.bool true) ∧ Below w.heap.size w w' := by
  obtain ⟨F, eF, hF⟩ := umod seed 100000 (by omega) (by omega)
  obtain ⟨G, eG, hG⟩ := umod seed 500 (by omega) (by omega)
  obtain ⟨f, hf⟩ : ∃ f : Int, f = F := ⟨_, rfl⟩
  obtain ⟨g, hg⟩ : ∃ g : Int, g = G := ⟨_, rfl⟩
  rw [← hf] at eF hF
  rw [← hg] at eG hG
  have f0 : 0 ≤ f := by omega
  have g0 : 0 ≤ g := by omega
  have HF := Lib.hid hf
  have HG := Lib.hid hg
  clear hf hg
  go_enter Tryz.func6, Tryz.ntmps6
  go_wp2_with fail
  refine (new_any _).mono ?_
  rintro e w1 ⟨b, mb, rfl, hb, hmb, hB, hw⟩
  go_wp2_with fail
  simp only [eF]
  clear eF
  go_loopw [7] (fun i wr => ∃ (k : Nat) (D : DataW Unit), k ≤ 500 ∧ i = .int .i64 k ∧ BookAt b mb k D wr ∧ Hid (Filled F k D) ∧ Below w.heap.size w wr) (fun i _ => 500 - (intOf i).toNat)
  case atStart => exact ⟨0, _, by omega, rfl, hB, filled_zero F, hw⟩
  case round =>
    obtain ⟨k, D, hk, rfl, hBk, hfl, hbk⟩ := hrel
    by_cases hlt : k < 500
    · have hfk := HF.out
      have hd := decimal_any (F + k) (by omega)
      rw [show ((F + k : Nat) : Int) = f + k from by omega] at hd
      have HD := Lib.hid hd
      have hz : (decS (F + k)).size ≤ 6 := by rw [Lib.size_eq, decS_list]; exact dec_six (by omega)
      have hne : nameErr (rName (F + k)) = 0 := rName_err (by omega)
      have HN := Lib.hid hne
      clear hd hfk hne
      go_wp2_with fail
      refine (HD.out _).mono ?_
      rintro e w2 ⟨rfl, hb2⟩
      go_wp2_with fail
      refine (set_ok (hBk.below hb2) (rName (F + k)) 7 rfl HN.out (.inr (by rw [hfl.out.size]; omega)) (by unfold maxLen; omega)).mono ?_
      rintro e w3 ⟨rfl, r, _, hB3, hg3⟩
      go_wp2_with fail
      go_roundw
      case rel => exact ⟨k + 1, _, by omega, by go_num, hB3, filled_next hfl.out _, hbk.trans ((grown_to_below (grown_trans (grown_below hb2 _) hg3) hmb hbk.size))⟩
      case measure => simp only [intOf]; omega
    · obtain rfl : k = 500 := by omega
      have hfk := HF.out
      have hgk := HG.out
      have hd := decimal_any (F + G) (by omega)
      rw [show ((F + G : Nat) : Int) = f + g from by omega] at hd
      have HD := Lib.hid hd
      have hz : (decS (F + G)).size ≤ 6 := by rw [Lib.size_eq, decS_list]; exact dec_six (by omega)
      have HO := Lib.hid (rName_err (u := F + G) (by omega))
      have HM := Lib.hid (filled_more hfl.out)
      have HS := Lib.hid hfl.out.size
      have HI := Lib.hid ((hfl.out.mem _).2 ⟨G, by omega, rfl⟩)
      have HT := Lib.hid hfl.out.tidy
      clear hd hfk hgk
      go_wp2_with fail
      refine (HD.out _).mono ?_
      rintro e w2 ⟨rfl, hb2⟩
      have hB2 := hBk.below hb2
      have hk2 := hbk.trans (hb2.mono hbk.size)
      go_wp2_with fail
      refine (set_full hB2 _ 7 rfl more_ok HM.out HS.out).mono ?_
      rintro e w3 ⟨rfl, hb3⟩
      have hB3 := hB2.below hb3
      have hk3 := hk2.trans (hb3.mono hk2.size)
      go_wp2_with fail
      refine (step_full hB3 _ 1 rfl more_ok HM.out HS.out).mono ?_
      rintro e w4 ⟨rfl, hb4⟩
      have hB4 := hB3.below hb4
      have hk4 := hk3.trans (hb4.mono hk3.size)
      go_wp2_with fail
      refine (format_full hB4 _ _ formError_i more_ok HM.out HS.out).mono ?_
      rintro e w5 ⟨rfl, hb5⟩
      have hB5 := hB4.below hb5
      have hk5 := hk4.trans (hb5.mono hk4.size)
      go_wp2_with fail
      refine (set_ok hB5 (rName (F + G)) 1 rfl HO.out (.inl HI.out) (by unfold maxLen; omega)).mono ?_
      rintro e w6 ⟨rfl, r, _, hB6, hg6⟩
      have hk6 := hk5.trans (grown_to_below hg6 hmb hk5.size)
      have hh6 : has (D.put (bkey (rName (F + G))) (setV 1 r).data) (bkey ⟨#[109, 111, 114, 101]⟩) = false := by
        rw [has_put_other (fun e => by have := bkey_inj e; rw [rName_list] at this; exact absurd (List.cons.inj this).1 (by decide))]
        exact HM.out
      have hs6 : Maps.size (D.put (bkey (rName (F + G))) (setV 1 r).data) = 500 := by rw [size_put HT.out, HI.out, HS.out]; rfl
      have HA := Lib.hid (has_any hB6 ⟨#[109, 111, 114, 101]⟩ (by decide))
      rw [hh6] at HA
      have H6 := Lib.hid hs6
      clear hh6 hs6
      go_wp2_with fail
      refine (HA.out).mono ?_
      rintro e w7 ⟨rfl, hb7⟩
      have hB7 := hB6.below hb7
      have hk7 := hk6.trans (hb7.mono hk6.size)
      go_wp2_with fail
      refine (names_any hB7 (by rw [H6.out]; omega)).mono ?_
      rintro e w8 ⟨vv, ss, rfl, hS, hrow, _, hb8⟩
      have hl : ss.length = 500 := by rw [hS.length_eq, strKeys_length, H6.out]
      have hk8 := hk7.trans (hb8.mono hk7.size)
      rcases hrow.2 with ⟨_, h0⟩ | ⟨gg, cap, cur, rfl, _⟩
      · exact absurd h0 (by rw [hl]; omega)
      rw [hl]
      clear hrow hS
      go_wp2_with fail
      refine (sane_any _).mono ?_
      rintro e w9 ⟨rfl, rfl⟩
      go_wp2_with fail
      go_ret
      exact ⟨rfl, hk8⟩

set_option maxRecDepth 100000 in
set_option maxHeartbeats 4000000 in
theorem full_over (seed v : Int) (w : World) (h3 : -1000000000 ≤ v) (h4 : 1000000000 < v) : Calls Tryz.prog 6 #[.int .i64 seed, .int .i64 v] w fun e w' => e = .returned (.bool true) ∧ Below w.heap.size w w' := by
  obtain ⟨F, eF, hF⟩ := umod seed 100000 (by omega) (by omega)
  obtain ⟨G, eG, hG⟩ := umod seed 500 (by omega) (by omega)
  obtain ⟨f, hf⟩ : ∃ f : Int, f = F := ⟨_, rfl⟩
  obtain ⟨g, hg⟩ : ∃ g : Int, g = G := ⟨_, rfl⟩
  rw [← hf] at eF hF
  rw [← hg] at eG hG
  have f0 : 0 ≤ f := by omega
  have g0 : 0 ≤ g := by omega
  have HF := Lib.hid hf
  have HG := Lib.hid hg
  clear hf hg
  go_enter Tryz.func6, Tryz.ntmps6
  go_wp2_with fail
  refine (new_any _).mono ?_
  rintro e w1 ⟨b, mb, rfl, hb, hmb, hB, hw⟩
  go_wp2_with fail
  simp only [eF]
  clear eF
  go_loopw [7] (fun i wr => ∃ (k : Nat) (D : DataW Unit), k ≤ 500 ∧ i = .int .i64 k ∧ BookAt b mb k D wr ∧ Hid (Filled F k D) ∧ Below w.heap.size w wr) (fun i _ => 500 - (intOf i).toNat)
  case atStart => exact ⟨0, _, by omega, rfl, hB, filled_zero F, hw⟩
  case round =>
    obtain ⟨k, D, hk, rfl, hBk, hfl, hbk⟩ := hrel
    by_cases hlt : k < 500
    · have hfk := HF.out
      have hd := decimal_any (F + k) (by omega)
      rw [show ((F + k : Nat) : Int) = f + k from by omega] at hd
      have HD := Lib.hid hd
      have hz : (decS (F + k)).size ≤ 6 := by rw [Lib.size_eq, decS_list]; exact dec_six (by omega)
      have hne : nameErr (rName (F + k)) = 0 := rName_err (by omega)
      have HN := Lib.hid hne
      clear hd hfk hne
      go_wp2_with fail
      refine (HD.out _).mono ?_
      rintro e w2 ⟨rfl, hb2⟩
      go_wp2_with fail
      refine (set_ok (hBk.below hb2) (rName (F + k)) 7 rfl HN.out (.inr (by rw [hfl.out.size]; omega)) (by unfold maxLen; omega)).mono ?_
      rintro e w3 ⟨rfl, r, _, hB3, hg3⟩
      go_wp2_with fail
      go_roundw
      case rel => exact ⟨k + 1, _, by omega, by go_num, hB3, filled_next hfl.out _, hbk.trans ((grown_to_below (grown_trans (grown_below hb2 _) hg3) hmb hbk.size))⟩
      case measure => simp only [intOf]; omega
    · obtain rfl : k = 500 := by omega
      have hfk := HF.out
      have hgk := HG.out
      have hd := decimal_any (F + G) (by omega)
      rw [show ((F + G : Nat) : Int) = f + g from by omega] at hd
      have HD := Lib.hid hd
      have hz : (decS (F + G)).size ≤ 6 := by rw [Lib.size_eq, decS_list]; exact dec_six (by omega)
      have HO := Lib.hid (rName_err (u := F + G) (by omega))
      have HM := Lib.hid (filled_more hfl.out)
      have HS := Lib.hid hfl.out.size
      have HI := Lib.hid ((hfl.out.mem _).2 ⟨G, by omega, rfl⟩)
      have HT := Lib.hid hfl.out.tidy
      clear hd hfk hgk
      go_wp2_with fail
      refine (HD.out _).mono ?_
      rintro e w2 ⟨rfl, hb2⟩
      have hB2 := hBk.below hb2
      have hk2 := hbk.trans (hb2.mono hbk.size)
      go_wp2_with fail
      refine (set_full hB2 _ 7 rfl more_ok HM.out HS.out).mono ?_
      rintro e w3 ⟨rfl, hb3⟩
      have hB3 := hB2.below hb3
      have hk3 := hk2.trans (hb3.mono hk2.size)
      go_wp2_with fail
      refine (step_full hB3 _ 1 rfl more_ok HM.out HS.out).mono ?_
      rintro e w4 ⟨rfl, hb4⟩
      have hB4 := hB3.below hb4
      have hk4 := hk3.trans (hb4.mono hk3.size)
      go_wp2_with fail
      refine (format_full hB4 _ _ formError_i more_ok HM.out HS.out).mono ?_
      rintro e w5 ⟨rfl, hb5⟩
      have hB5 := hB4.below hb5
      have hk5 := hk4.trans (hb5.mono hk4.size)
      go_wp2_with fail
      refine (set_ok hB5 (rName (F + G)) 1 rfl HO.out (.inl HI.out) (by unfold maxLen; omega)).mono ?_
      rintro e w6 ⟨rfl, r, _, hB6, hg6⟩
      have hk6 := hk5.trans (grown_to_below hg6 hmb hk5.size)
      have hh6 : has (D.put (bkey (rName (F + G))) (setV 1 r).data) (bkey ⟨#[109, 111, 114, 101]⟩) = false := by
        rw [has_put_other (fun e => by have := bkey_inj e; rw [rName_list] at this; exact absurd (List.cons.inj this).1 (by decide))]
        exact HM.out
      have hs6 : Maps.size (D.put (bkey (rName (F + G))) (setV 1 r).data) = 500 := by rw [size_put HT.out, HI.out, HS.out]; rfl
      have HA := Lib.hid (has_any hB6 ⟨#[109, 111, 114, 101]⟩ (by decide))
      rw [hh6] at HA
      have H6 := Lib.hid hs6
      clear hh6 hs6
      go_wp2_with fail
      refine (HA.out).mono ?_
      rintro e w7 ⟨rfl, hb7⟩
      have hB7 := hB6.below hb7
      have hk7 := hk6.trans (hb7.mono hk6.size)
      go_wp2_with fail
      refine (names_any hB7 (by rw [H6.out]; omega)).mono ?_
      rintro e w8 ⟨vv, ss, rfl, hS, hrow, _, hb8⟩
      have hl : ss.length = 500 := by rw [hS.length_eq, strKeys_length, H6.out]
      have hk8 := hk7.trans (hb8.mono hk7.size)
      rcases hrow.2 with ⟨_, h0⟩ | ⟨gg, cap, cur, rfl, _⟩
      · exact absurd h0 (by rw [hl]; omega)
      rw [hl]
      clear hrow hS
      go_wp2_with fail
      refine (sane_any _).mono ?_
      rintro e w9 ⟨rfl, rfl⟩
      go_wp2_with fail
      go_ret
      exact ⟨rfl, hk8⟩

theorem full_any (seed v : Int) (w : World) : Calls Tryz.prog 6 #[.int .i64 seed, .int .i64 v] w fun e w' => e = .returned (.bool true) ∧ Below w.heap.size w w' := by
  by_cases h3 : -1000000000 ≤ v
  · by_cases h4 : v ≤ 1000000000
    · exact full_in seed v w h3 h4
    · exact full_over seed v w h3 (by omega)
  · exact full_under seed v w (by omega)
end Go.Proofs.YtkkcoajgpdpfkaaGreatDoor
