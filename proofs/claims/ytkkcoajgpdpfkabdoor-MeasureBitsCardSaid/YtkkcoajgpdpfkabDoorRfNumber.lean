/- The reference's Number. -/
import Derived.Test.YtkkcoajgpdpfkabDoorRfPrefix
import Derived.Test.YtkkcoajgpdpfkabDoorMsNumber
namespace Go.Proofs.YtkkcoajgpdpfkabDoor
open Go.RowKit Go.PlainAid

set_option maxRecDepth 100000 in
set_option maxHeartbeats 400000 in
theorem rnum_bad {s : ByteArray} {c z v h : Int} (w : World) (hb : (Ms.validB z v h && sclB c) = false) :
    Calls Tryd.prog 22 #[.string s, .int .u8 c, .agg #[.int .i64 z, .int .i64 v, .int .i64 h]] w (EvP (.er 1) w) := by
  have HA := Lib.hid (rarg_any c z v h)
  have HB := Lib.hid hb
  have hal : Below w.heap.size w (w.alloc (ctxO z v h)) := (Below.refl _ _).alloc (Nat.le_refl _) _
  clear hb
  go_enter Tryd.func22, Tryd.ntmps22
  go_wp2_with fail
  refine (HA.out _).mono ?_
  rintro e w1 ⟨rfl, hb⟩
  rw [HB.out]
  go_wp2_with fail
  go_ret2
  exact ⟨hal.trans (hb.mono (by simp)), rfl⟩

/-- What is known where Number's arguments can be; p: behind the sign. -/
structure NuAt (s : ByteArray) (c z v h : Int) (p : Nat) (r : Ms.Res (Int × Nat)) : Prop where
  ok : (Ms.validB z v h && sclB c) = true
  hs : s.size ≤ 4611686018427387904
  nm : ∀ w, Calls Tryd.prog 44 #[.string s, .int .i64 p, .int .u8 c, .agg #[.int .i64 z, .int .i64 v, .int .i64 h]] w (NumW r false w)
  nz : ∀ e, r = .er e → (e != 0) = true
  fi : ∀ x q, r = .ok (x, q) → -1000000000 ≤ x ∧ x ≤ 1000000000 ∧ q ≤ s.size

set_option maxRecDepth 100000 in
set_option maxHeartbeats 1000000 in
theorem rnum_minus {s : ByteArray} {c z v h : Int} (w : World) (h45 : bt s 0 = 45) {r : Ms.Res (Int × Nat)} (H : NuAt s c z v h 1 r) :
    Calls Tryd.prog 22 #[.string s, .int .u8 c, .agg #[.int .i64 z, .int .i64 v, .int .i64 h]] w (EvP (numB s r) w) := by
  have hgb := get_bt s
  have HA := Lib.hid (rarg_any c z v h)
  have HB := Lib.hid H.ok
  have HM := Lib.hid H.nm
  have HZ := Lib.hid H.nz
  have HF := Lib.hid H.fi
  have hs := H.hs
  have hb0 := CBox.new z v h w
  have hal : Below w.heap.size w (w.alloc (ctxO z v h)) := (Below.refl _ _).alloc (Nat.le_refl _) _
  have hpos : 0 < s.size := Ms.lt_of_bt (by omega)
  have hne : s.toList.isEmpty = false := by rw [Lib.toList_data, List.isEmpty_eq_false_iff, ← List.length_pos_iff, ← Lib.size_eq]; exact hpos
  have e2 : (bt s 0 == 43) = false := by rw [h45]; rfl
  have e1 : (bt s 0 == 45) = true := by rw [h45]; rfl
  clear H
  go_enter Tryd.func22, Tryd.ntmps22
  go_wp2_with fail
  refine (HA.out _).mono ?_
  rintro e w1 ⟨rfl, hb⟩
  rw [HB.out]
  have hB := hb0.below hb
  obtain ⟨k0, k1, k2, kl⟩ := hB
  have hsz : w.heap.size < w1.heap.size := kl
  have hk1 := hal.trans (hb.mono hal.size)
  go_wp2_with fail
  refine (HM.out _).mono ?_
  rintro e w2 hw
  rcases hw with ⟨m, q, x, rfl, hr, hv, hb2⟩ | ⟨q, x, rfl, _, hr, hb2⟩ | ⟨m, q, c', rfl, hr, _, hb2⟩
  · obtain rfl := hv rfl
    obtain ⟨x0, x1, q1⟩ := HF.out _ _ hr
    subst hr
    by_cases hq : q < s.size
    · have hz2 := Lib.hid (show numB s (.ok (m, q)) = .er 4 from if_pos hq)
      go_wp2_with fail
      go_ret2
      exact ⟨hk1.trans (hb2.mono hk1.size), by rw [hz2.out]; rfl⟩
    · have hz2 := Lib.hid (show numB s (.ok (m, q)) = .ok (-m) from by simp [numB, hq, h45])
      go_wp2_with fail
      go_ret2
      exact ⟨hk1.trans (hb2.mono hk1.size), by rw [hz2.out]; rfl⟩
  · have hz2 := Lib.hid (show numB s r = .er 5 from by rw [hr rfl]; rfl)
    go_wp2_with fail
    go_ret2
    exact ⟨hk1.trans (hb2.mono hk1.size), by rw [hz2.out]; rfl⟩
  · have hz := HZ.out _ hr
    subst hr
    have hz2 := Lib.hid (show numB s (.er c') = .er c' from rfl)
    go_wp2_with fail
    go_ret2
    exact ⟨hk1.trans (hb2.mono hk1.size), by rw [hz2.out]; rfl⟩

set_option maxRecDepth 100000 in
set_option maxHeartbeats 1000000 in
theorem rnum_plus {s : ByteArray} {c z v h : Int} (w : World) (h43 : bt s 0 = 43) {r : Ms.Res (Int × Nat)} (H : NuAt s c z v h 1 r) :
    Calls Tryd.prog 22 #[.string s, .int .u8 c, .agg #[.int .i64 z, .int .i64 v, .int .i64 h]] w (EvP (numB s r) w) := by
  have hgb := get_bt s
  have HA := Lib.hid (rarg_any c z v h)
  have HB := Lib.hid H.ok
  have HM := Lib.hid H.nm
  have HZ := Lib.hid H.nz
  have HF := Lib.hid H.fi
  have hs := H.hs
  have hb0 := CBox.new z v h w
  have hal : Below w.heap.size w (w.alloc (ctxO z v h)) := (Below.refl _ _).alloc (Nat.le_refl _) _
  have hpos : 0 < s.size := Ms.lt_of_bt (by omega)
  have hne : s.toList.isEmpty = false := by rw [Lib.toList_data, List.isEmpty_eq_false_iff, ← List.length_pos_iff, ← Lib.size_eq]; exact hpos
  have h45 : ¬ bt s 0 = 45 := by omega
  have e2 : (bt s 0 == 43) = true := by rw [h43]; rfl
  have e1 : (bt s 0 == 45) = false := by rw [h43]; rfl
  clear H
  go_enter Tryd.func22, Tryd.ntmps22
  go_wp2_with fail
  refine (HA.out _).mono ?_
  rintro e w1 ⟨rfl, hb⟩
  rw [HB.out]
  have hB := hb0.below hb
  obtain ⟨k0, k1, k2, kl⟩ := hB
  have hsz : w.heap.size < w1.heap.size := kl
  have hk1 := hal.trans (hb.mono hal.size)
  go_wp2_with fail
  refine (HM.out _).mono ?_
  rintro e w2 hw
  rcases hw with ⟨m, q, x, rfl, hr, hv, hb2⟩ | ⟨q, x, rfl, _, hr, hb2⟩ | ⟨m, q, c', rfl, hr, _, hb2⟩
  · obtain rfl := hv rfl
    obtain ⟨x0, x1, q1⟩ := HF.out _ _ hr
    subst hr
    by_cases hq : q < s.size
    · have hz2 := Lib.hid (show numB s (.ok (m, q)) = .er 4 from if_pos hq)
      go_wp2_with fail
      go_ret2
      exact ⟨hk1.trans (hb2.mono hk1.size), by rw [hz2.out]; rfl⟩
    · have hz2 := Lib.hid (show numB s (.ok (m, q)) = .ok (m) from by simp [numB, hq, h45])
      go_wp2_with fail
      go_ret2
      exact ⟨hk1.trans (hb2.mono hk1.size), by rw [hz2.out]; rfl⟩
  · have hz2 := Lib.hid (show numB s r = .er 5 from by rw [hr rfl]; rfl)
    go_wp2_with fail
    go_ret2
    exact ⟨hk1.trans (hb2.mono hk1.size), by rw [hz2.out]; rfl⟩
  · have hz := HZ.out _ hr
    subst hr
    have hz2 := Lib.hid (show numB s (.er c') = .er c' from rfl)
    go_wp2_with fail
    go_ret2
    exact ⟨hk1.trans (hb2.mono hk1.size), by rw [hz2.out]; rfl⟩

set_option maxRecDepth 100000 in
set_option maxHeartbeats 1000000 in
theorem rnum_none {s : ByteArray} {c z v h : Int} (w : World) (h45 : ¬ bt s 0 = 45) (h43 : ¬ bt s 0 = 43) (hpos : 0 < s.size) {r : Ms.Res (Int × Nat)} (H : NuAt s c z v h 0 r) :
    Calls Tryd.prog 22 #[.string s, .int .u8 c, .agg #[.int .i64 z, .int .i64 v, .int .i64 h]] w (EvP (numB s r) w) := by
  have hgb := get_bt s
  have HA := Lib.hid (rarg_any c z v h)
  have HB := Lib.hid H.ok
  have HM := Lib.hid H.nm
  have HZ := Lib.hid H.nz
  have HF := Lib.hid H.fi
  have hs := H.hs
  have hb0 := CBox.new z v h w
  have hal : Below w.heap.size w (w.alloc (ctxO z v h)) := (Below.refl _ _).alloc (Nat.le_refl _) _
  have hne : s.toList.isEmpty = false := by rw [Lib.toList_data, List.isEmpty_eq_false_iff, ← List.length_pos_iff, ← Lib.size_eq]; exact hpos
  have e2 : (bt s 0 == 43) = false := by rw [beq_eq_false_iff_ne]; exact h43
  have e1 : (bt s 0 == 45) = false := by rw [beq_eq_false_iff_ne]; exact h45
  clear H
  go_enter Tryd.func22, Tryd.ntmps22
  go_wp2_with fail
  refine (HA.out _).mono ?_
  rintro e w1 ⟨rfl, hb⟩
  rw [HB.out]
  have hB := hb0.below hb
  obtain ⟨k0, k1, k2, kl⟩ := hB
  have hsz : w.heap.size < w1.heap.size := kl
  have hk1 := hal.trans (hb.mono hal.size)
  go_wp2_with fail
  refine (HM.out _).mono ?_
  rintro e w2 hw
  rcases hw with ⟨m, q, x, rfl, hr, hv, hb2⟩ | ⟨q, x, rfl, _, hr, hb2⟩ | ⟨m, q, c', rfl, hr, _, hb2⟩
  · obtain rfl := hv rfl
    obtain ⟨x0, x1, q1⟩ := HF.out _ _ hr
    subst hr
    by_cases hq : q < s.size
    · have hz2 := Lib.hid (show numB s (.ok (m, q)) = .er 4 from if_pos hq)
      go_wp2_with fail
      go_ret2
      exact ⟨hk1.trans (hb2.mono hk1.size), by rw [hz2.out]; rfl⟩
    · have hz2 := Lib.hid (show numB s (.ok (m, q)) = .ok (m) from by simp [numB, hq, h45])
      go_wp2_with fail
      go_ret2
      exact ⟨hk1.trans (hb2.mono hk1.size), by rw [hz2.out]; rfl⟩
  · have hz2 := Lib.hid (show numB s r = .er 5 from by rw [hr rfl]; rfl)
    go_wp2_with fail
    go_ret2
    exact ⟨hk1.trans (hb2.mono hk1.size), by rw [hz2.out]; rfl⟩
  · have hz := HZ.out _ hr
    subst hr
    have hz2 := Lib.hid (show numB s (.er c') = .er c' from rfl)
    go_wp2_with fail
    go_ret2
    exact ⟨hk1.trans (hb2.mono hk1.size), by rw [hz2.out]; rfl⟩

set_option maxRecDepth 100000 in
set_option maxHeartbeats 1000000 in
theorem rnum_empty {s : ByteArray} {c z v h : Int} (w : World) (hpos : s.size = 0) {r : Ms.Res (Int × Nat)} (H : NuAt s c z v h 0 r) :
    Calls Tryd.prog 22 #[.string s, .int .u8 c, .agg #[.int .i64 z, .int .i64 v, .int .i64 h]] w (EvP (numB s r) w) := by
  have hgb := get_bt s
  have HA := Lib.hid (rarg_any c z v h)
  have HB := Lib.hid H.ok
  have HM := Lib.hid H.nm
  have HZ := Lib.hid H.nz
  have HF := Lib.hid H.fi
  have hs := H.hs
  have hb0 := CBox.new z v h w
  have hal : Below w.heap.size w (w.alloc (ctxO z v h)) := (Below.refl _ _).alloc (Nat.le_refl _) _
  have hne : s.toList.isEmpty = true := by rw [Lib.toList_data, List.isEmpty_iff, ← List.length_eq_zero_iff, ← Lib.size_eq]; exact hpos
  have h45 : ¬ bt s 0 = 45 := by rw [bt_end s (by omega)]; omega
  clear H
  go_enter Tryd.func22, Tryd.ntmps22
  go_wp2_with fail
  refine (HA.out _).mono ?_
  rintro e w1 ⟨rfl, hb⟩
  rw [HB.out]
  have hB := hb0.below hb
  obtain ⟨k0, k1, k2, kl⟩ := hB
  have hsz : w.heap.size < w1.heap.size := kl
  have hk1 := hal.trans (hb.mono hal.size)
  go_wp2_with fail
  refine (HM.out _).mono ?_
  rintro e w2 hw
  rcases hw with ⟨m, q, x, rfl, hr, hv, hb2⟩ | ⟨q, x, rfl, _, hr, hb2⟩ | ⟨m, q, c', rfl, hr, _, hb2⟩
  · obtain rfl := hv rfl
    obtain ⟨x0, x1, q1⟩ := HF.out _ _ hr
    subst hr
    by_cases hq : q < s.size
    · exact absurd hq (by omega)
    · have hz2 := Lib.hid (show numB s (.ok (m, q)) = .ok (m) from by simp [numB, hq, h45])
      go_wp2_with fail
      go_ret2
      exact ⟨hk1.trans (hb2.mono hk1.size), by rw [hz2.out]; rfl⟩
  · have hz2 := Lib.hid (show numB s r = .er 5 from by rw [hr rfl]; rfl)
    go_wp2_with fail
    go_ret2
    exact ⟨hk1.trans (hb2.mono hk1.size), by rw [hz2.out]; rfl⟩
  · have hz := HZ.out _ hr
    subst hr
    have hz2 := Lib.hid (show numB s (.er c') = .er c' from rfl)
    go_wp2_with fail
    go_ret2
    exact ⟨hk1.trans (hb2.mono hk1.size), by rw [hz2.out]; rfl⟩

theorem rnum_any (s : ByteArray) (hs : s.size ≤ 4611686018427387904) (c z v h : Int) (w : World) :
    Calls Tryd.prog 22 #[.string s, .int .u8 c, .agg #[.int .i64 z, .int .i64 v, .int .i64 h]] w (EvP (numberM s c z v h) w) := by
  cases hb : (Ms.validB z v h && sclB c) with
  | false =>
    have he : numberM s c z v h = .er 1 := by
      unfold numberM
      cases hv : Ms.validB z v h with
      | false => rfl
      | true =>
        rw [hv, Bool.true_and] at hb
        have hn : Ms.unitO c z v = none := Option.not_isSome_iff_eq_none.1 (by rw [sclB_iff, hb]; simp)
        simp [hn]
    rw [he]
    exact rnum_bad w hb
  | true =>
    have hb2 := hb
    rw [Bool.and_eq_true] at hb2
    obtain ⟨hv, hsc⟩ := hb2
    obtain ⟨u, hu⟩ := sclB_some (z := z) (v := v) hsc
    have g := good_of hv hu hs
    have H : ∀ p, p ≤ s.size → NuAt s c z v h p (Ms.number ⟨s, z, v, h, u, false⟩ p) := fun p hp =>
      ⟨hb, hs, fun w => (rnumber_any ⟨s, z, v, h, u, false⟩ g c hu p hp w).mono fun e w' h => num_ways h,
        fun e he => nz3 (nz_number ⟨s, z, v, h, u, false⟩ p) he,
        fun x q hx => have := number_fine ⟨s, z, v, h, u, false⟩ p hp x q hx; ⟨this.1, this.2.1, this.2.2.2⟩⟩
    rw [show numberM s c z v h = numB s (Ms.number ⟨s, z, v, h, u, false⟩ (numFrom s)) from by unfold numberM; rw [if_pos hv, hu]]
    have hle := numFrom_le s
    by_cases h45 : bt s 0 = 45
    · have e1 : numFrom s = 1 := if_pos (.inl h45)
      rw [e1] at hle ⊢
      exact rnum_minus w h45 (H 1 hle)
    · by_cases h43 : bt s 0 = 43
      · have e1 : numFrom s = 1 := if_pos (.inr h43)
        rw [e1] at hle ⊢
        exact rnum_plus w h43 (H 1 hle)
      · rw [show numFrom s = 0 from if_neg (by omega)]
        rcases Nat.eq_zero_or_pos s.size with h0 | h0
        · exact rnum_empty w h0 (H 0 (Nat.zero_le _))
        · exact rnum_none w h45 h43 h0 (H 0 (Nat.zero_le _))
end Go.Proofs.YtkkcoajgpdpfkabDoor
