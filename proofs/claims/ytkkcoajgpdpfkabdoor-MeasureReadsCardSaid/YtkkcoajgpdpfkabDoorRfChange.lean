/- The reference's Change. -/
import Derived.Test.YtkkcoajgpdpfkabDoorRfPrefix
import Derived.Test.YtkkcoajgpdpfkabDoorMsChange
namespace Go.Proofs.YtkkcoajgpdpfkabDoor
open Go.RowKit Go.PlainAid

theorem evalM_bad {c z v h : Int} (hb : (Ms.validB z v h && sclB c) = false) (s : ByteArray) : evalM s c z v h = .er 1 := by
  unfold evalM
  cases hv : Ms.validB z v h with
  | false => rfl
  | true =>
    rw [hv, Bool.true_and] at hb
    have hn : Ms.unitO c z v = none := Option.not_isSome_iff_eq_none.1 (by rw [sclB_iff, hb]; simp)
    simp [hn]

theorem changeM_bad {old c z v h : Int} (hb : (Ms.validB z v h && sclB c) = false) (s : ByteArray) : changeM old s c z v h = .er 1 := by
  unfold changeM
  rw [evalM_bad hb, evalM_bad hb]
  split
  · split
    · rfl
    · split <;> rfl
  · rfl

abbrev RChg (old : Int) (s : ByteArray) (c z v h : Int) (w : World) (r : Ms.Res Int) : Prop :=
  Calls Tryd.prog 26 #[.int .i64 old, .string s, .int .u8 c, .agg #[.int .i64 z, .int .i64 v, .int .i64 h]] w (EvP r w)

set_option maxRecDepth 100000 in
set_option maxHeartbeats 400000 in
theorem rchange_bad {s : ByteArray} {old c z v h : Int} (w : World) (hb : (Ms.validB z v h && sclB c) = false) : RChg old s c z v h w (.er 1) := by
  have HA := Lib.hid (rarg_any c z v h)
  have HB := Lib.hid hb
  have hal : Below w.heap.size w (w.alloc (ctxO z v h)) := (Below.refl _ _).alloc (Nat.le_refl _) _
  clear hb
  unfold RChg
  go_enter Tryd.func26, Tryd.ntmps26
  go_wp2_with fail
  refine (HA.out _).mono ?_
  rintro e w1 ⟨rfl, hb⟩
  rw [HB.out]
  go_wp2_with fail
  go_ret2
  exact ⟨hal.trans (hb.mono (by simp)), rfl⟩

set_option maxRecDepth 100000 in
set_option maxHeartbeats 400000 in
theorem rchange_out {s : ByteArray} {old c z v h : Int} (w : World) (hok : (Ms.validB z v h && sclB c) = true) (ho : wthB old = false) : RChg old s c z v h w (.er 1) := by
  have HA := Lib.hid (rarg_any c z v h)
  have HB := Lib.hid hok
  have HW := Lib.hid (rwithin_any old)
  rw [ho] at HW
  have hal : Below w.heap.size w (w.alloc (ctxO z v h)) := (Below.refl _ _).alloc (Nat.le_refl _) _
  clear hok ho
  unfold RChg
  go_enter Tryd.func26, Tryd.ntmps26
  go_wp2_with fail
  refine (HA.out _).mono ?_
  rintro e w1 ⟨rfl, hb⟩
  rw [HB.out]
  go_wp2_with fail
  refine (HW.out _).mono ?_
  rintro e w2 ⟨rfl, rfl⟩
  go_wp2_with fail
  go_ret2
  exact ⟨hal.trans (hb.mono (by simp)), rfl⟩

set_option maxRecDepth 100000 in
set_option maxHeartbeats 1000000 in
theorem rchange_plain {s : ByteArray} {old c z v h : Int} (w : World) (hs : s.size ≤ 4611686018427387904) (hok : (Ms.validB z v h && sclB c) = true) (ho : wthB old = true) (h43 : ¬ bt s 0 = 43) (h45 : ¬ bt s 0 = 45)
    (r : Ms.Res Int) (hr : evalM s c z v h = r) : RChg old s c z v h w r := by
  have hgb := get_bt s
  have hev := fun w => reval_any s hs c z v h w
  rw [hr] at hev
  have HE := Lib.hid hev
  have HA := Lib.hid (rarg_any c z v h)
  have HB := Lib.hid hok
  have HW := Lib.hid (rwithin_any old)
  rw [ho] at HW
  have hb0 := CBox.new z v h w
  have hal : Below w.heap.size w (w.alloc (ctxO z v h)) := (Below.refl _ _).alloc (Nat.le_refl _) _
  have e1 : (bt s 0 != 43) = true := by rw [bne_iff_ne]; exact h43
  have e2 : (bt s 0 != 45) = true := by rw [bne_iff_ne]; exact h45
  clear hok ho hr hev
  unfold RChg
  rcases Nat.eq_zero_or_pos s.size with h0 | h0
  case' inl => have hne := isEmpty_yes h0
  case' inr => have hne := isEmpty_no h0
  all_goals
    rcases r with x | cc
    all_goals
      go_enter Tryd.func26, Tryd.ntmps26
      go_wp2_with fail
      refine (HA.out _).mono ?_
      rintro e w1 ⟨rfl, hb⟩
      rw [HB.out]
      have hB := hb0.below hb
      obtain ⟨k0, k1, k2, kl⟩ := hB
      have hk1 := hal.trans (hb.mono hal.size)
      go_wp2_with fail
      refine (HW.out _).mono ?_
      rintro e w2 ⟨rfl, rfl⟩
      go_wp2_with fail
      refine (HE.out _).mono ?_
      rintro e w3 ⟨hb3, rfl⟩
      go_wp2_with fail
      go_ret2
      exact ⟨hk1.trans (hb3.mono hk1.size), rfl⟩

set_option maxRecDepth 100000 in
set_option maxHeartbeats 2000000 in
theorem rchange_minus {s : ByteArray} {old c z v h : Int} (w : World) (hs : s.size ≤ 4611686018427387904) (hok : (Ms.validB z v h && sclB c) = true) (ho : wthB old = true) (hc : bt s 0 = 45)
    (r : Ms.Res Int) (hr : evalM (s.extract 1 s.size) c z v h = r) : RChg old s c z v h w (minusB old r) := by
  have hgb := get_bt s
  have h0 : 0 < s.size := Ms.lt_of_bt (by omega)
  have hne := isEmpty_no h0
  have hI : (1 : Int) ≤ (s.size : Int) := by omega
  have hev2 := fun w => reval_any (s.extract 1 s.size) (by rw [ByteArray.size_extract]; omega) c z v h w
  rw [hr] at hev2
  have hev3 := fun (W : World) (hW : CBox z v h w.heap.size W) => (hev2 W).mono (fun e w' (hh : EvP r W e w') => (⟨hh, hW.below hh.1⟩ : EvP r W e w' ∧ CBox z v h w.heap.size w'))
  have HE := Lib.hid hev3
  have HA := Lib.hid (rarg_any c z v h)
  have HB := Lib.hid hok
  have HW := Lib.hid (rwithin_any old)
  rw [ho] at HW
  have hb0 := CBox.new z v h w
  have hal : Below w.heap.size w (w.alloc (ctxO z v h)) := (Below.refl _ _).alloc (Nat.le_refl _) _
  have e1 : (bt s 0 != 43) = true := by rw [hc]; rfl
  have e2 : (bt s 0 != 45) = false := by rw [hc]; rfl
  have e3 : (bt s 0 == 45) = true := by rw [hc]; rfl
  have o2 := wthB_yes ho
  clear hok ho hev2 hev3 hc
  unfold RChg
  rcases r with x | cc
  · obtain ⟨x0, x1⟩ := evalM_bd hr
    have HX := Lib.hid (rwithin_any (old + -x))
    obtain ⟨wb, hwb⟩ : ∃ b, wthB (old + -x) = b := ⟨_, rfl⟩
    rw [hwb] at HX
    have HY := Lib.hid hwb
    clear hwb hr
    cases wb
    all_goals
      go_enter Tryd.func26, Tryd.ntmps26
      go_wp2_with fail
      refine (HA.out _).mono ?_
      rintro e w1 ⟨rfl, hb⟩
      rw [HB.out]
      have hB := hb0.below hb
      obtain ⟨q0, q1, q2, ql⟩ := hB
      have hk1 := hal.trans (hb.mono hal.size)
      go_wp2_with fail
      refine (HW.out _).mono ?_
      rintro e w2 ⟨rfl, rfl⟩
      go_wp2_with fail
      go_region_held3 (fun w' => w'.cell? ⟨w.heap.size, 0, none⟩ = some (.int .i64 z) ∧ w'.cell? ⟨w.heap.size, 1, none⟩ = some (.int .i64 v) ∧ w'.cell? ⟨w.heap.size, 2, none⟩ = some (.int .i64 h)) (simp [*])
        (first | (go_at_call 23; refine (HE.out _ ⟨by simp [*], by simp [*], by simp [*], by simp [*]⟩).mono ?_; rintro e w3 ⟨⟨hb3, rfl⟩, j0, j1, j2, jl⟩))
      go_wp2_with fail
      refine (HX.out _).mono ?_
      rintro e w4 ⟨rfl, rfl⟩
      go_wp2_with fail
      go_ret2
      refine ⟨?_, ?_⟩
      · first | exact hk1.trans (hb3.mono hk1.size) | exact Below.trans (show Below w.heap.size w w1.drew from below_drewN hk1 1) (hb3.mono hk1.size)
      · first
          | (show match Ms.within (old + -x) with | .ok v => _ | .er c => _; rw [show Ms.within (old + -x) = .ok (old + -x) from if_pos (wthB_yes HY.out)]; rfl)
          | (show match Ms.within (old + -x) with | .ok v => _ | .er c => _; rw [wthB_no HY.out]; rfl)
  · have hz := evalM_nz hr
    have hcz : (cc != 0) = true := by rw [bne_iff_ne]; omega
    clear hr hz
    go_enter Tryd.func26, Tryd.ntmps26
    go_wp2_with fail
    refine (HA.out _).mono ?_
    rintro e w1 ⟨rfl, hb⟩
    rw [HB.out]
    have hB := hb0.below hb
    obtain ⟨q0, q1, q2, ql⟩ := hB
    have hk1 := hal.trans (hb.mono hal.size)
    go_wp2_with fail
    refine (HW.out _).mono ?_
    rintro e w2 ⟨rfl, rfl⟩
    go_wp2_with fail
    go_region_held3 (fun w' => w'.cell? ⟨w.heap.size, 0, none⟩ = some (.int .i64 z) ∧ w'.cell? ⟨w.heap.size, 1, none⟩ = some (.int .i64 v) ∧ w'.cell? ⟨w.heap.size, 2, none⟩ = some (.int .i64 h)) (simp [*])
      (first | (go_at_call 23; refine (HE.out _ ⟨by simp [*], by simp [*], by simp [*], by simp [*]⟩).mono ?_; rintro e w3 ⟨⟨hb3, rfl⟩, j0, j1, j2, jl⟩))
    go_wp2_with fail
    go_ret2
    exact ⟨by first | exact hk1.trans (hb3.mono hk1.size) | exact Below.trans (show Below w.heap.size w w1.drew from below_drewN hk1 1) (hb3.mono hk1.size), rfl⟩

set_option maxRecDepth 100000 in
set_option maxHeartbeats 2000000 in
theorem rchange_plus {s : ByteArray} {old c z v h : Int} (w : World) (hs : s.size ≤ 4611686018427387904) (hok : (Ms.validB z v h && sclB c) = true) (ho : wthB old = true) (hc : bt s 0 = 43)
    (r : Ms.Res Int) (hr : evalM (s.extract 1 s.size) c z v h = r) : RChg old s c z v h w (plusB old r) := by
  have hgb := get_bt s
  have h0 : 0 < s.size := Ms.lt_of_bt (by omega)
  have hne := isEmpty_no h0
  have hI : (1 : Int) ≤ (s.size : Int) := by omega
  have hev2 := fun w => reval_any (s.extract 1 s.size) (by rw [ByteArray.size_extract]; omega) c z v h w
  rw [hr] at hev2
  have hev3 := fun (W : World) (hW : CBox z v h w.heap.size W) => (hev2 W).mono (fun e w' (hh : EvP r W e w') => (⟨hh, hW.below hh.1⟩ : EvP r W e w' ∧ CBox z v h w.heap.size w'))
  have HE := Lib.hid hev3
  have HA := Lib.hid (rarg_any c z v h)
  have HB := Lib.hid hok
  have HW := Lib.hid (rwithin_any old)
  rw [ho] at HW
  have hb0 := CBox.new z v h w
  have hal : Below w.heap.size w (w.alloc (ctxO z v h)) := (Below.refl _ _).alloc (Nat.le_refl _) _
  have e1 : (bt s 0 != 43) = false := by rw [hc]; rfl
  have e2 : (bt s 0 != 45) = true := by rw [hc]; rfl
  have e3 : (bt s 0 == 45) = false := by rw [hc]; rfl
  have o2 := wthB_yes ho
  clear hok ho hev2 hev3 hc
  unfold RChg
  rcases r with x | cc
  · obtain ⟨x0, x1⟩ := evalM_bd hr
    have HX := Lib.hid (rwithin_any (old + x))
    obtain ⟨wb, hwb⟩ : ∃ b, wthB (old + x) = b := ⟨_, rfl⟩
    rw [hwb] at HX
    have HY := Lib.hid hwb
    clear hwb hr
    cases wb
    all_goals
      go_enter Tryd.func26, Tryd.ntmps26
      go_wp2_with fail
      refine (HA.out _).mono ?_
      rintro e w1 ⟨rfl, hb⟩
      rw [HB.out]
      have hB := hb0.below hb
      obtain ⟨q0, q1, q2, ql⟩ := hB
      have hk1 := hal.trans (hb.mono hal.size)
      go_wp2_with fail
      refine (HW.out _).mono ?_
      rintro e w2 ⟨rfl, rfl⟩
      go_wp2_with fail
      go_region_held3 (fun w' => w'.cell? ⟨w.heap.size, 0, none⟩ = some (.int .i64 z) ∧ w'.cell? ⟨w.heap.size, 1, none⟩ = some (.int .i64 v) ∧ w'.cell? ⟨w.heap.size, 2, none⟩ = some (.int .i64 h)) (simp [*])
        (first | (go_at_call 23; refine (HE.out _ ⟨by simp [*], by simp [*], by simp [*], by simp [*]⟩).mono ?_; rintro e w3 ⟨⟨hb3, rfl⟩, j0, j1, j2, jl⟩))
      go_wp2_with fail
      refine (HX.out _).mono ?_
      rintro e w4 ⟨rfl, rfl⟩
      go_wp2_with fail
      go_ret2
      refine ⟨?_, ?_⟩
      · first | exact hk1.trans (hb3.mono hk1.size) | exact Below.trans (show Below w.heap.size w w1.drew from below_drewN hk1 1) (hb3.mono hk1.size)
      · first
          | (show match Ms.within (old + x) with | .ok v => _ | .er c => _; rw [show Ms.within (old + x) = .ok (old + x) from if_pos (wthB_yes HY.out)]; rfl)
          | (show match Ms.within (old + x) with | .ok v => _ | .er c => _; rw [wthB_no HY.out]; rfl)
  · have hz := evalM_nz hr
    have hcz : (cc != 0) = true := by rw [bne_iff_ne]; omega
    clear hr hz
    go_enter Tryd.func26, Tryd.ntmps26
    go_wp2_with fail
    refine (HA.out _).mono ?_
    rintro e w1 ⟨rfl, hb⟩
    rw [HB.out]
    have hB := hb0.below hb
    obtain ⟨q0, q1, q2, ql⟩ := hB
    have hk1 := hal.trans (hb.mono hal.size)
    go_wp2_with fail
    refine (HW.out _).mono ?_
    rintro e w2 ⟨rfl, rfl⟩
    go_wp2_with fail
    go_region_held3 (fun w' => w'.cell? ⟨w.heap.size, 0, none⟩ = some (.int .i64 z) ∧ w'.cell? ⟨w.heap.size, 1, none⟩ = some (.int .i64 v) ∧ w'.cell? ⟨w.heap.size, 2, none⟩ = some (.int .i64 h)) (simp [*])
      (first | (go_at_call 23; refine (HE.out _ ⟨by simp [*], by simp [*], by simp [*], by simp [*]⟩).mono ?_; rintro e w3 ⟨⟨hb3, rfl⟩, j0, j1, j2, jl⟩))
    go_wp2_with fail
    go_ret2
    exact ⟨by first | exact hk1.trans (hb3.mono hk1.size) | exact Below.trans (show Below w.heap.size w w1.drew from below_drewN hk1 1) (hb3.mono hk1.size), rfl⟩

theorem rchange_any (old : Int) (s : ByteArray) (hs : s.size ≤ 4611686018427387904) (c z v h : Int) (w : World) : RChg old s c z v h w (changeM old s c z v h) := by
  cases hb : (Ms.validB z v h && sclB c) with
  | false => rw [changeM_bad hb]; exact rchange_bad w hb
  | true =>
    cases ho : wthB old with
    | false =>
      rw [show changeM old s c z v h = .er 1 from if_neg (fun hh => by
        have : wthB old = true := by simp only [wthB, Bool.and_eq_true, decide_eq_true_eq]; exact hh
        rw [ho] at this; cases this)]
      exact rchange_out w hb ho
    | true =>
      rw [show changeM old s c z v h = (if bt s 0 = 45 then minusB old (evalM (s.extract 1 s.size) c z v h) else if bt s 0 = 43 then plusB old (evalM (s.extract 1 s.size) c z v h) else evalM s c z v h) from if_pos (wthB_yes ho)]
      by_cases h45 : bt s 0 = 45
      · rw [if_pos h45]
        exact rchange_minus w hs hb ho h45 _ rfl
      · rw [if_neg h45]
        by_cases h43 : bt s 0 = 43
        · rw [if_pos h43]
          exact rchange_plus w hs hb ho h43 _ rfl
        · rw [if_neg h43]
          exact rchange_plain w hs hb ho h43 h45 _ rfl
end Go.Proofs.YtkkcoajgpdpfkabDoor
