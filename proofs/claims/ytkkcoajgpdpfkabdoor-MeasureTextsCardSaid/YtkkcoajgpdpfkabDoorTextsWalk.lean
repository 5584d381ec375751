/- MeasureTexts's walk. -/
import Derived.Test.YtkkcoajgpdpfkabDoorTxSame
import Derived.Test.YtkkcoajgpdpfkabDoorLawAid
import Derived.Test.YtkkcoajgpdpfkabDoorMsSane
import Derived.Deep.RegionHeld3
namespace Go.Proofs.YtkkcoajgpdpfkabDoor
open Go.RowKit Go.PlainAid Go.Shelf

set_option maxRecDepth 100000 in
set_option maxHeartbeats 2000000 in
theorem texts_walk (n k z v h c a b t : Int) (S : ByteArray) (w : World) (ho : OpsAt w) (hg : 0 < w.heap.size) (hp : PowAt w)
    (HL : Hid (∀ w, Calls Tryd.prog 13 #[.int .i64 k] w fun e w' => e = .returned (.int .u8 c) ∧ w = w')) (HT : Hid (BothText n c S t)) (HU : Hid (BothUnit c z v h a b)) :
    Calls Tryd.prog 5 #[.int .i64 n, .int .i64 k, .agg #[.int .i64 z, .int .i64 v, .int .i64 h]] w (fun e w' => e = .returned (.bool true) ∧ Kept w w') := by
  have hal : Kept w (w.alloc (.cells #[.int .i64 z, .int .i64 v, .int .i64 h] 23)) := (Below.refl _ _).alloc (Nat.le_refl _) _
  have hb0 : TBox z v h w.heap.size (w.alloc (.cells #[.int .i64 z, .int .i64 v, .int .i64 h] 23)) := by refine ⟨?_, ?_, ?_, ?_⟩ <;> simp [go_sem]
  have HP1 := Lib.hid (hp.below hal)
  have HO := Lib.hid ho
  have HUM : Hid (∀ (W : World), TBox z v h w.heap.size W → Calls Tryd.prog 15 #[.int .u8 c, .agg #[.int .i64 z, .int .i64 v, .int .i64 h]] W fun e w' => Two a b W e w' ∧ TBox z v h w.heap.size w') := fun W hW => (HU.out.m W).mono fun e w' hh => ⟨hh, hW.below hh.2⟩
  have HUR : Hid (∀ (W : World), TBox z v h w.heap.size W → Calls Tryd.prog 16 #[.int .u8 c, .agg #[.int .i64 z, .int .i64 v, .int .i64 h]] W fun e w' => Two a b W e w' ∧ TBox z v h w.heap.size w') := fun W hW => (HU.out.r W).mono fun e w' hh => ⟨hh, hW.below hh.2⟩
  have HAS : Hid (∀ (W : World), TBox z v h w.heap.size W → Calls Tryd.prog 17 #[.agg #[.int .i64 z, .int .i64 v, .int .i64 h]] W fun e w' => (e = .returned (.agg #[.int .i64 z, .int .i64 v, .int .i64 h]) ∧ Kept W w') ∧ TBox z v h w.heap.size w') := fun W hW => (as_is z v h W).mono fun e w' hh => ⟨hh, hW.below hh.2⟩
  clear ho hp
  go_enter Tryd.func5, Tryd.ntmps5
  go_wp2_with fail
  refine (HL.out _).mono ?_
  rintro e w1 ⟨rfl, rfl⟩
  go_wp2_with fail
  refine (HT.out.m _ HP1.out).mono ?_
  rintro e w2 ⟨rfl, b2⟩
  have hk2 := kept_step hal b2
  have hC2 := hb0.below b2
  go_wp2_with fail
  refine (HL.out _).mono ?_
  rintro e w3 ⟨rfl, rfl⟩
  go_wp2_with fail
  refine (HT.out.r _).mono ?_
  rintro e w3 ⟨rfl, b3⟩
  have hk3 := kept_step hk2 b3
  have hC3 := hC2.below b3
  clear hk2 hC2 hb0 b2 b3
  obtain ⟨q0, q1, q2, ql⟩ := hC3
  go_wp2_with fail
  go_region_held3 (fun w' => w'.cell? ⟨w.heap.size, 0, none⟩ = some (.int .i64 z) ∧ w'.cell? ⟨w.heap.size, 1, none⟩ = some (.int .i64 v) ∧ w'.cell? ⟨w.heap.size, 2, none⟩ = some (.int .i64 h)) (simp [*])
    (first | (go_at_call 13; refine (HL.out _).mono ?_; rintro e w4 ⟨rfl, rfl⟩) | (go_at_call 15; refine (HUM.out _ ⟨by simp [*], by simp [*], by simp [*], by simp [*]⟩).mono ?_; rintro e w4 ⟨⟨rfl, hb4⟩, j0, j1, j2, jl⟩))
  have hk4 : Kept w w4 := by first | exact kept_step hk3 hb4 | exact Below.trans (show Below w.heap.size w w3.drew from below_drewN hk3 1) (hb4.mono hk3.size)
  clear hk3 hb4 q0 q1 q2 ql
  go_wp2_with fail
  go_region_held3 (fun w' => w'.cell? ⟨w.heap.size, 0, none⟩ = some (.int .i64 z) ∧ w'.cell? ⟨w.heap.size, 1, none⟩ = some (.int .i64 v) ∧ w'.cell? ⟨w.heap.size, 2, none⟩ = some (.int .i64 h)) (simp [*])
    (first | (go_at_call 13; refine (HL.out _).mono ?_; rintro e w5 ⟨rfl, rfl⟩) | (go_at_call 17; refine (HAS.out _ ⟨by simp [*], by simp [*], by simp [*], by simp [*]⟩).mono ?_; rintro e w5 ⟨⟨rfl, hb5⟩, l0, l1, l2, ll⟩) | (go_at_call 16; refine (HUR.out _ ⟨by simp [*], by simp [*], by simp [*], by simp [*]⟩).mono ?_; rintro e w6 ⟨⟨rfl, hb6⟩, m0, m1, m2, ml⟩))
  have hk5 : Kept w w5 := by first | exact kept_step hk4 hb5 | exact Below.trans (show Below w.heap.size w w4.drew from below_drewN hk4 1) (hb5.mono hk4.size)
  have hk6 : Kept w w6 := by first | exact kept_step hk5 hb6 | exact Below.trans (show Below w.heap.size w w5.drew from below_drewN hk5 1) (hb6.mono hk5.size)
  clear hk4 hb5 hb6 hk5 j0 j1 j2 jl l0 l1 l2 ll m0 m1 m2 ml
  go_wp2_with fail
  refine (sane_any _ (HO.out.below hk6 hg) (Nat.lt_of_lt_of_le hg hk6.size)).mono ?_
  rintro e w7 ⟨rfl, b7⟩
  go_wp2_with fail
  go_ret
  exact ⟨rfl, kept_step hk6 b7⟩

theorem texts_law (n k z v h : Int) (hn : n ≤ 9223372036854775807) (w : World) (ho : OpsAt w) (hg : 0 < w.heap.size) (hp : PowAt w) :
    Calls Tryd.prog 5 #[.int .i64 n, .int .i64 k, .agg #[.int .i64 z, .int .i64 v, .int .i64 h]] w (fun e w' => e = .returned (.bool true) ∧ Kept w w') := by
  obtain ⟨c, c0, c1, HL⟩ := letter_is k
  obtain ⟨S, t, HT⟩ := both_text n c hn c0 c1
  obtain ⟨a, b, HU⟩ := both_unit c z v h
  exact texts_walk n k z v h c a b t S w ho hg hp HL HT HU
end Go.Proofs.YtkkcoajgpdpfkabDoor
