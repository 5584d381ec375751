/- The reference's argument check and its Eval. -/
import Derived.Test.YtkkcoajgpdpfkabDoorRfSum4
namespace Go.Proofs.YtkkcoajgpdpfkabDoor
open Go.RowKit Go.PlainAid

set_option maxRecDepth 100000 in
set_option maxHeartbeats 400000 in
theorem rarg_any (c z v h : Int) (w : World) :
    Calls Tryd.prog 43 #[.int .u8 c, .agg #[.int .i64 z, .int .i64 v, .int .i64 h]] w fun e w' => e = .returned (.bool (Ms.validB z v h && sclB c)) ∧ Below w.heap.size w w' := by
  have HF := Lib.hid (rfits_any z v h)
  have HS := Lib.hid (risScale_any c)
  cases hv : Ms.validB z v h
  all_goals
    have HV := Lib.hid hv
    clear hv
    go_enter Tryd.func43, Tryd.ntmps43
    go_wp2_with fail
    refine (HF.out _).mono ?_
    rintro e w1 ⟨rfl, hb⟩
    rw [HV.out]
    go_wp2_with fail
    have hB := ((Below.refl w.heap.size w).alloc (Nat.le_refl _) (.cells #[.int .i64 z, .int .i64 v, .int .i64 h] 38)).trans (hb.mono (by simp))
    first
      | (go_ret; exact ⟨by simp, hB⟩)
      | (refine (HS.out _).mono ?_; rintro e w2 ⟨rfl, rfl⟩; go_wp2_with fail; go_ret; exact ⟨by simp, hB⟩)

/-- The cells of a context in a box. -/
structure CBox (z v h : Int) (b : Nat) (w : World) : Prop where
  c0 : w.cell? ⟨b, 0, none⟩ = some (.int .i64 z)
  c1 : w.cell? ⟨b, 1, none⟩ = some (.int .i64 v)
  c2 : w.cell? ⟨b, 2, none⟩ = some (.int .i64 h)
  lt : b < w.heap.size
theorem CBox.below {z v h : Int} {b : Nat} {w w' : World} (k : CBox z v h b w) (hb : Below w.heap.size w w') : CBox z v h b w' := by
  obtain ⟨h0, h1, h2, hl⟩ := k
  obtain ⟨hc, _⟩ := bcell hb
  exact ⟨by rw [hc _ _ hl, h0], by rw [hc _ _ hl, h1], by rw [hc _ _ hl, h2], Nat.lt_of_lt_of_le hl hb.size⟩
abbrev ctxO (z v h : Int) : Obj := .cells #[.int .i64 z, .int .i64 v, .int .i64 h] 38
theorem CBox.new (z v h : Int) (w : World) : CBox z v h w.heap.size (w.alloc (ctxO z v h)) := by
  refine ⟨?_, ?_, ?_, ?_⟩ <;> simp [go_sem]

/-- What the reference's Eval gives. -/
def EvP (r : Ms.Res Int) (w : World) (e : Ending) (w' : World) : Prop :=
  Below w.heap.size w w' ∧ match r with
  | .ok v => e = .returned (.tuple #[.int .i64 v, .int .i64 0])
  | .er c => e = .returned (.tuple #[.int .i64 0, .int .i64 c])

theorem sclB_some {c z v : Int} (h : sclB c = true) : ∃ u, Ms.unitO c z v = some u := Option.isSome_iff_exists.1 ((sclB_iff c z v).trans h)

set_option maxRecDepth 100000 in
set_option maxHeartbeats 400000 in
theorem reval_bad {s : ByteArray} {c z v h : Int} (w : World) (hb : (Ms.validB z v h && sclB c) = false) :
    Calls Tryd.prog 23 #[.string s, .int .u8 c, .agg #[.int .i64 z, .int .i64 v, .int .i64 h]] w (EvP (.er 1) w) := by
  have HA := Lib.hid (rarg_any c z v h)
  have HB := Lib.hid hb
  have hal : Below w.heap.size w (w.alloc (ctxO z v h)) := (Below.refl _ _).alloc (Nat.le_refl _) _
  clear hb
  go_enter Tryd.func23, Tryd.ntmps23
  go_wp2_with fail
  refine (HA.out _).mono ?_
  rintro e w1 ⟨rfl, hb⟩
  rw [HB.out]
  go_wp2_with fail
  go_ret2
  exact ⟨hal.trans (hb.mono (by simp)), rfl⟩

/-- What is known where Eval's arguments can be. -/
structure EvAt (s : ByteArray) (c z v h : Int) (r : Ms.Res (Int × Nat) × Nat) : Prop where
  ok : (Ms.validB z v h && sclB c) = true
  hs : s.size ≤ 4611686018427387904
  sm : ∀ w, Calls Tryd.prog 45 #[.agg #[.string s, .int .u8 c, .int .i64 z, .int .i64 v, .int .i64 h, .bool false], .int .i64 0, .int .i64 0] w (SOut r false w)

set_option maxRecDepth 100000 in
set_option maxHeartbeats 400000 in
theorem reval_er {s : ByteArray} {c z v h cc : Int} {l : Nat} (w : World) (H : EvAt s c z v h (.er cc, l)) (hcc : (cc != 0) = true) :
    Calls Tryd.prog 23 #[.string s, .int .u8 c, .agg #[.int .i64 z, .int .i64 v, .int .i64 h]] w (EvP (.er cc) w) := by
  have HA := Lib.hid (rarg_any c z v h)
  have HB := Lib.hid H.ok
  have HS := Lib.hid H.sm
  have hb0 := CBox.new z v h w
  have hal : Below w.heap.size w (w.alloc (ctxO z v h)) := (Below.refl _ _).alloc (Nat.le_refl _) _
  clear H
  go_enter Tryd.func23, Tryd.ntmps23
  go_wp2_with fail
  refine (HA.out _).mono ?_
  rintro e w1 ⟨rfl, hb⟩
  rw [HB.out]
  have hB := hb0.below hb
  obtain ⟨k0, k1, k2, kl⟩ := hB
  have hsz : w.heap.size < w1.heap.size := kl
  go_wp2_with fail
  refine (HS.out _).mono ?_
  rintro e w2 ⟨n, q, rfl, hb2⟩
  go_wp2_with fail
  go_ret2
  exact ⟨((hal.trans (hb.mono (by simp))).alloc (Nat.le_of_lt kl) _).trans (hb2.mono (by simp; omega)), rfl⟩

set_option maxRecDepth 100000 in
set_option maxHeartbeats 400000 in
theorem reval_ok {s : ByteArray} {c z v h n : Int} {q : Nat} (w : World) (H : EvAt s c z v h (.ok (n, q), q)) :
    Calls Tryd.prog 23 #[.string s, .int .u8 c, .agg #[.int .i64 z, .int .i64 v, .int .i64 h]] w (EvP (if q < s.size then .er 4 else .ok n) w) := by
  have HA := Lib.hid (rarg_any c z v h)
  have HB := Lib.hid H.ok
  have HS := Lib.hid H.sm
  have hs := H.hs
  have hb0 := CBox.new z v h w
  have hal : Below w.heap.size w (w.alloc (ctxO z v h)) := (Below.refl _ _).alloc (Nat.le_refl _) _
  clear H
  by_cases hq : q < s.size
  all_goals
    first
      | rw [if_pos hq]
      | rw [if_neg hq]
    go_enter Tryd.func23, Tryd.ntmps23
    go_wp2_with fail
    refine (HA.out _).mono ?_
    rintro e w1 ⟨rfl, hb⟩
    rw [HB.out]
    have hB := hb0.below hb
    obtain ⟨k0, k1, k2, kl⟩ := hB
    have hsz : w.heap.size < w1.heap.size := kl
    go_wp2_with fail
    refine (HS.out _).mono ?_
    rintro e w2 ⟨m, rfl, hm, hb2⟩
    obtain rfl := hm rfl
    clear hm
    go_wp2_with fail
    go_ret2
    exact ⟨((hal.trans (hb.mono (by simp))).alloc (Nat.le_of_lt kl) _).trans (hb2.mono (by simp; omega)), rfl⟩

theorem reval_any (s : ByteArray) (hs : s.size ≤ 4611686018427387904) (c z v h : Int) (w : World) :
    Calls Tryd.prog 23 #[.string s, .int .u8 c, .agg #[.int .i64 z, .int .i64 v, .int .i64 h]] w (EvP (evalM s c z v h) w) := by
  cases hb : (Ms.validB z v h && sclB c) with
  | false =>
    have he : evalM s c z v h = .er 1 := by
      unfold evalM
      cases hv : Ms.validB z v h with
      | false => rfl
      | true =>
        rw [hv, Bool.true_and] at hb
        have hn : Ms.unitO c z v = none := Option.not_isSome_iff_eq_none.1 (by rw [sclB_iff, hb]; simp)
        simp [hn]
    rw [he]
    exact reval_bad w hb
  | true =>
    have hb2 := hb
    rw [Bool.and_eq_true] at hb2
    obtain ⟨hv, hsc⟩ := hb2
    obtain ⟨u, hu⟩ := sclB_some (z := z) (v := v) hsc
    have g := good_of hv hu hs
    have hsm := fun w => rsum_top ⟨s, z, v, h, u, false⟩ c 0 w g hu (Nat.zero_le _) rfl
    have he : evalM s c z v h = endB s (Ms.sum ⟨s, z, v, h, u, false⟩ (Ms.brk ⟨s, z, v, h, u, false⟩ 20) false 0 0).1 := by
      unfold evalM; rw [if_pos hv, hu]; rfl
    have hnz := nz_sum ⟨s, z, v, h, u, false⟩ (Ms.brk ⟨s, z, v, h, u, false⟩ 20) (nz_brk ⟨s, z, v, h, u, false⟩ 20) false 0 0
    have hsk := sum_skip ⟨s, z, v, h, u, false⟩ (Ms.brk ⟨s, z, v, h, u, false⟩ 20) false 0 0
    rw [he]
    generalize Ms.sum ⟨s, z, v, h, u, false⟩ (Ms.brk ⟨s, z, v, h, u, false⟩ 20) false 0 0 = r at *
    have H : EvAt s c z v h r := ⟨hb, hs, hsm⟩
    obtain ⟨r, l⟩ := r
    cases r with
    | er cc => exact reval_er w H (nz3 hnz rfl)
    | ok y =>
      obtain ⟨n, q⟩ := y
      have hq := hsk n q rfl
      simp only [Ms.skp, Bool.false_eq_true, if_false] at hq
      subst hq
      exact reval_ok w H
end Go.Proofs.YtkkcoajgpdpfkabDoor
