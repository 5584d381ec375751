/- The law's reads: all ways to read a string, the program's and the document's, side by side. -/
import Derived.Test.YtkkcoajgpdpfkabDoorMsNumber
import Derived.Test.YtkkcoajgpdpfkabDoorMsChange
import Derived.Test.YtkkcoajgpdpfkabDoorMsPrefix
import Derived.Test.YtkkcoajgpdpfkabDoorMsSane
import Derived.Test.YtkkcoajgpdpfkabDoorRfNumber
import Derived.Test.YtkkcoajgpdpfkabDoorRfPrefix
import Derived.Test.YtkkcoajgpdpfkabDoorRfChange
namespace Go.Proofs.YtkkcoajgpdpfkabDoor
open Go.RowKit Go.PlainAid

def valOf (r : Ms.Res Int) : Int := match r with | .ok v => v | .er _ => 0
def errOf {α : Type} (r : Ms.Res α) : Int := match r with | .ok _ => 0 | .er c => c
def val3 (r : Ms.Res (Int × Nat)) : Int := match r with | .ok (v, _) => v | .er _ => 0
def use3 (r : Ms.Res (Int × Nat)) : Int := match r with | .ok (_, n) => n | .er _ => 0

abbrev Pair (a b : Int) (w : World) (e : Ending) (w' : World) : Prop := e = .returned (.tuple #[.int .i64 a, .int .i64 b]) ∧ Kept w w'
theorem edge_pair {r : Ms.Res Int} {w w' : World} {e : Ending} (h : Edge r w e w') : Pair (valOf r) (errOf r) w e w' := by cases r <;> exact h
theorem evp_pair {r : Ms.Res Int} {w w' : World} {e : Ending} (h : EvP r w e w') : Pair (valOf r) (errOf r) w e w' := by cases r <;> exact ⟨h.2, h.1⟩
abbrev Trip (a b c : Int) (w : World) (e : Ending) (w' : World) : Prop := e = .returned (.tuple #[.int .i64 a, .int .i64 b, .int .i64 c]) ∧ Kept w w'
theorem three_trip {r : Ms.Res (Int × Nat)} {w w' : World} {e : Ending} (h : Three r w e w') : Trip (val3 r) (use3 r) (errOf r) w e w' := by
  rcases r with ⟨v, n⟩ | c <;> exact h

theorem as_any (z v h : Int) (w : World) :
    Calls Tryd.prog 17 #[.agg #[.int .i64 z, .int .i64 v, .int .i64 h]] w fun e w' => e = .returned (.agg #[.int .i64 z, .int .i64 v, .int .i64 h]) ∧ Kept w w' := by
  go_enter Tryd.func17, Tryd.ntmps17
  go_wp2
  simp [bodyPost, results, Tryd.results17, go_sem]
  exact ((Below.refl _ _).alloc (Nat.le_refl _) _).alloc (by simp) _

def lettS : ByteArray := ⟨#[117, 112, 80, 105, 99, 109, 110, 118]⟩
theorem letter_any (n : Int) (w : World) : Calls Tryd.prog 13 #[.int .i64 n] w fun e w' => ∃ c : Int, e = .returned (.int .u8 c) ∧ w = w' := by
  by_cases h : 0 ≤ n ∧ n < 256
  · obtain ⟨h0, h1⟩ := h
    go_enter Tryd.func13, Tryd.ntmps13
    go_wp2
    go_ret
    exact ⟨_, rfl, rfl⟩
  · have hu : 0 ≤ IntKind.u64.wrap n := by rw [IntKind.wrap_u64]; omega
    have e1 : (IntKind.u64.wrap n).tmod 8 = IntKind.u64.wrap n % 8 := Int.tmod_eq_emod_of_nonneg hu
    obtain ⟨k, hk⟩ : ∃ k : Nat, IntKind.u64.wrap n % 8 = k := ⟨(IntKind.u64.wrap n % 8).toNat, by omega⟩
    have hk8 : k < 8 := by omega
    have hb := get_bt lettS
    unfold lettS at hb
    rcases (show n < 0 ∨ 256 ≤ n by omega) with h2 | h2
    all_goals
      go_enter Tryd.func13, Tryd.ntmps13
      go_wp2
      go_ret
      first
        | exact ⟨_, rfl, rfl⟩
        | exact ⟨⟨_, rfl⟩, rfl⟩

set_option maxRecDepth 100000 in
set_option maxHeartbeats 4000000 in
theorem reads_any (s : ByteArray) (hs : s.size ≤ 4611686018427387904) (z v h n : Int) (w : World) (ho : OpsAt w) (hg : 0 < w.heap.size) :
    Calls Tryd.prog 10 #[.string s, .agg #[.int .i64 z, .int .i64 v, .int .i64 h], .int .i64 n] w fun e w' => e = .returned (.bool true) ∧ Kept w w' := by
  have hal : Kept w (w.alloc (.cells #[.int .i64 z, .int .i64 v, .int .i64 h] 23)) := (Below.refl _ _).alloc (Nat.le_refl _) _
  have hb0 : CBox z v h w.heap.size (w.alloc (.cells #[.int .i64 z, .int .i64 v, .int .i64 h] 23)) := by refine ⟨?_, ?_, ?_, ?_⟩ <;> simp [go_sem]
  go_enter Tryd.func10, Tryd.ntmps10
  go_wp2_with fail
  refine (as_any z v h _).mono ?_
  rintro e w1 ⟨rfl, hk⟩
  have hK1 := hal.trans (hk.mono hal.size)
  have hC1 := hb0.below hk
  clear hk hb0 hal
  go_wp2_with fail
  refine (letter_any n _).mono ?_
  rintro e w1' ⟨c, rfl, rfl⟩
  have hKK : Kept w (w1.alloc (ctxO z v h)) := Below.alloc hK1 hK1.size _
  have hCC : CBox z v h w.heap.size (w1.alloc (ctxO z v h)) := hC1.below ((Below.refl _ _).alloc (Nat.le_refl _) _)
  have hDD : CBox z v h w1.heap.size (w1.alloc (ctxO z v h)) := CBox.new z v h w1
  obtain ⟨a0, a1, a2, al⟩ := hCC
  have ho2 := ho.below hKK hg
  have hg2 := Nat.lt_of_lt_of_le hg hKK.size
  have hlt1 := hC1.lt
  clear hK1 hC1
  go_wp2_with fail
  refine ((mnumber_any s hs c z v h _).mono fun e w' hh => edge_pair hh).mono ?_
  rintro e v0 ⟨rfl, hk0⟩
  have hK_0 := hKK.trans (hk0.mono hKK.size)
  have hC_0 := CBox.below (show CBox z v h w.heap.size (w1.alloc (ctxO z v h)) from ⟨a0, a1, a2, al⟩) hk0
  have hD_0 := CBox.below (show CBox z v h w1.heap.size (w1.alloc (ctxO z v h)) from hDD) hk0
  have ho1 := ho.below hK_0 hg
  have hg1 := Nat.lt_of_lt_of_le hg hK_0.size
  clear a0 a1 a2 al hDD hk0 hKK
  obtain ⟨a0, a1, a2, al⟩ := hC_0
  obtain ⟨b0, b1, b2, bl⟩ := hD_0
  go_wp2_with fail
  refine ((rnum_any s hs c z v h _).mono fun e w' hh => evp_pair hh).mono ?_
  rintro e v1 ⟨rfl, hk1⟩
  have hK_1 := hK_0.trans (hk1.mono hK_0.size)
  have hC_1 := CBox.below (show CBox z v h w.heap.size v0 from ⟨a0, a1, a2, al⟩) hk1
  have hD_1 := CBox.below (show CBox z v h w1.heap.size v0 from ⟨b0, b1, b2, bl⟩) hk1
  have ho2x := ho.below hK_1 hg
  have hg2x := Nat.lt_of_lt_of_le hg hK_1.size
  clear a0 a1 a2 al b0 b1 b2 bl hk1 hK_0
  obtain ⟨a0, a1, a2, al⟩ := hC_1
  obtain ⟨b0, b1, b2, bl⟩ := hD_1
  go_wp2_with fail
  refine ((eval_any s hs c z v h _ (by exact ho2x) (by exact hg2x)).mono fun e w' hh => edge_pair hh).mono ?_
  rintro e v2 ⟨rfl, hk2⟩
  have hK_2 := hK_1.trans (hk2.mono hK_1.size)
  have hC_2 := CBox.below (show CBox z v h w.heap.size v1 from ⟨a0, a1, a2, al⟩) hk2
  have hD_2 := CBox.below (show CBox z v h w1.heap.size v1 from ⟨b0, b1, b2, bl⟩) hk2
  have ho3 := ho.below hK_2 hg
  have hg3 := Nat.lt_of_lt_of_le hg hK_2.size
  clear a0 a1 a2 al b0 b1 b2 bl hk2 hK_1
  obtain ⟨a0, a1, a2, al⟩ := hC_2
  obtain ⟨b0, b1, b2, bl⟩ := hD_2
  go_wp2_with fail
  refine ((reval_any s hs c z v h _).mono fun e w' hh => evp_pair hh).mono ?_
  rintro e v3 ⟨rfl, hk3⟩
  have hK_3 := hK_2.trans (hk3.mono hK_2.size)
  have hC_3 := CBox.below (show CBox z v h w.heap.size v2 from ⟨a0, a1, a2, al⟩) hk3
  have hD_3 := CBox.below (show CBox z v h w1.heap.size v2 from ⟨b0, b1, b2, bl⟩) hk3
  have ho4 := ho.below hK_3 hg
  have hg4 := Nat.lt_of_lt_of_le hg hK_3.size
  clear a0 a1 a2 al b0 b1 b2 bl hk3 hK_2
  obtain ⟨a0, a1, a2, al⟩ := hC_3
  obtain ⟨b0, b1, b2, bl⟩ := hD_3
  go_wp2_with fail
  refine ((prefix_any s hs c z v h _ (by exact ho4) (by exact hg4)).mono fun e w' hh => three_trip hh).mono ?_
  rintro e v4 ⟨rfl, hk4⟩
  have hK_4 := hK_3.trans (hk4.mono hK_3.size)
  have hC_4 := CBox.below (show CBox z v h w.heap.size v3 from ⟨a0, a1, a2, al⟩) hk4
  have hD_4 := CBox.below (show CBox z v h w1.heap.size v3 from ⟨b0, b1, b2, bl⟩) hk4
  have ho5 := ho.below hK_4 hg
  have hg5 := Nat.lt_of_lt_of_le hg hK_4.size
  clear a0 a1 a2 al b0 b1 b2 bl hk4 hK_3
  obtain ⟨a0, a1, a2, al⟩ := hC_4
  obtain ⟨b0, b1, b2, bl⟩ := hD_4
  go_wp2_with fail
  refine ((rprefix_any s hs c z v h _).mono fun e w' hh => three_trip hh).mono ?_
  rintro e v5 ⟨rfl, hk5⟩
  have hK_5 := hK_4.trans (hk5.mono hK_4.size)
  have hC_5 := CBox.below (show CBox z v h w.heap.size v4 from ⟨a0, a1, a2, al⟩) hk5
  have hD_5 := CBox.below (show CBox z v h w1.heap.size v4 from ⟨b0, b1, b2, bl⟩) hk5
  have ho6 := ho.below hK_5 hg
  have hg6 := Nat.lt_of_lt_of_le hg hK_5.size
  clear a0 a1 a2 al b0 b1 b2 bl hk5 hK_4
  obtain ⟨a0, a1, a2, al⟩ := hC_5
  obtain ⟨b0, b1, b2, bl⟩ := hD_5
  go_wp2_with fail
  refine ((mchange_any n s hs c z v h _ (by exact ho6) (by exact hg6)).mono fun e w' hh => edge_pair hh).mono ?_
  rintro e v6 ⟨rfl, hk6⟩
  have hK_6 := hK_5.trans (hk6.mono hK_5.size)
  have hC_6 := CBox.below (show CBox z v h w.heap.size v5 from ⟨a0, a1, a2, al⟩) hk6
  have hD_6 := CBox.below (show CBox z v h w1.heap.size v5 from ⟨b0, b1, b2, bl⟩) hk6
  have ho7 := ho.below hK_6 hg
  have hg7 := Nat.lt_of_lt_of_le hg hK_6.size
  clear a0 a1 a2 al b0 b1 b2 bl hk6 hK_5
  obtain ⟨a0, a1, a2, al⟩ := hC_6
  obtain ⟨b0, b1, b2, bl⟩ := hD_6
  go_wp2_with fail
  refine ((rchange_any n s hs c z v h _).mono fun e w' hh => evp_pair hh).mono ?_
  rintro e v7 ⟨rfl, hk7⟩
  have hK_7 := hK_6.trans (hk7.mono hK_6.size)
  have hC_7 := CBox.below (show CBox z v h w.heap.size v6 from ⟨a0, a1, a2, al⟩) hk7
  have hD_7 := CBox.below (show CBox z v h w1.heap.size v6 from ⟨b0, b1, b2, bl⟩) hk7
  have ho8 := ho.below hK_7 hg
  have hg8 := Nat.lt_of_lt_of_le hg hK_7.size
  clear a0 a1 a2 al b0 b1 b2 bl hk7 hK_6
  obtain ⟨a0, a1, a2, al⟩ := hC_7
  obtain ⟨b0, b1, b2, bl⟩ := hD_7
  go_wp2_with fail
  go_ret
  exact ⟨rfl, hK_7⟩
end Go.Proofs.YtkkcoajgpdpfkabDoor
