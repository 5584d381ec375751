/- More leaves of package measure: Unit, valueOf, powerOfTen, HasPrefix. -/
import Derived.Test.YtkkcoajgpdpfkabDoorMsLeaf
namespace Go.Proofs.YtkkcoajgpdpfkabDoor
open Go.RowKit Go.PlainAid

/-- Two ints; below the heap the world as it was. -/
def Two (a b : Int) (w : World) (e : Ending) (w' : World) : Prop := e = .returned (.tuple #[.int .i64 a, .int .i64 b]) ∧ Below w.heap.size w w'

theorem bcell {W w1 : World} (hb : Below W.heap.size W w1) : (∀ b o, b < W.heap.size → w1.cell? ⟨b, o, none⟩ = W.cell? ⟨b, o, none⟩) ∧ (∀ b o, b < W.heap.size → w1.frozen? ⟨b, o, none⟩ = W.frozen? ⟨b, o, none⟩) :=
  ⟨fun b o h => hb.cell (p := ⟨b, o, none⟩) h, fun b o h => hb.frozen (p := ⟨b, o, none⟩) h⟩

set_option maxHeartbeats 1000000 in
theorem unit_bad (c z v h : Int) (hv : Ms.validB z v h = false) (w : World) :
    Calls Tryd.prog 15 #[.int .u8 c, .agg #[.int .i64 z, .int .i64 v, .int .i64 h]] w (Two 0 1 w) := by
  go_enter Tryd.func15, Tryd.ntmps15
  go_wp2_with (go_at_call 31; refine (valid_any _ _ _ _).mono ?_; rw [hv]; rintro e w1 ⟨rfl, hb⟩)
  go_ret2
  exact ⟨rfl, ((Below.refl _ _).alloc (Nat.le_refl _) _).trans (hb.mono (by simp))⟩

theorem unitO_ways {c z v u : Int} (h : Ms.unitO c z v = some u) : (c = 117 ∧ u = 1) ∨ (c = 112 ∧ u = 10) ∨ (c = 80 ∧ u = 120) ∨ (c = 105 ∧ u = 720) ∨ (c = 99 ∧ u = 283) ∨ (c = 109 ∧ u = 10 * z) ∨ (c = 110 ∧ u = 5 * z) ∨ (c = 118 ∧ u = v) := by
  unfold Ms.unitO at h
  by_cases h1 : c = 117
  · rw [if_pos h1] at h; exact .inl ⟨h1, (Option.some.inj h).symm⟩
  rw [if_neg h1] at h
  by_cases h2 : c = 112
  · rw [if_pos h2] at h; exact .inr (.inl ⟨h2, (Option.some.inj h).symm⟩)
  rw [if_neg h2] at h
  by_cases h3 : c = 80
  · rw [if_pos h3] at h; exact .inr (.inr (.inl ⟨h3, (Option.some.inj h).symm⟩))
  rw [if_neg h3] at h
  by_cases h4 : c = 105
  · rw [if_pos h4] at h; exact .inr (.inr (.inr (.inl ⟨h4, (Option.some.inj h).symm⟩)))
  rw [if_neg h4] at h
  by_cases h5 : c = 99
  · rw [if_pos h5] at h; exact .inr (.inr (.inr (.inr (.inl ⟨h5, (Option.some.inj h).symm⟩))))
  rw [if_neg h5] at h
  by_cases h6 : c = 109
  · rw [if_pos h6] at h; exact .inr (.inr (.inr (.inr (.inr (.inl ⟨h6, (Option.some.inj h).symm⟩)))))
  rw [if_neg h6] at h
  by_cases h7 : c = 110
  · rw [if_pos h7] at h; exact .inr (.inr (.inr (.inr (.inr (.inr (.inl ⟨h7, (Option.some.inj h).symm⟩))))))
  rw [if_neg h7] at h
  by_cases h8 : c = 118
  · rw [if_pos h8] at h; exact .inr (.inr (.inr (.inr (.inr (.inr (.inr ⟨h8, (Option.some.inj h).symm⟩))))))
  rw [if_neg h8] at h; cases h

set_option maxHeartbeats 4000000 in
theorem unit_some (c z v h u : Int) (hv : Ms.validB z v h = true) (hu : Ms.unitO c z v = some u) (w : World) :
    Calls Tryd.prog 15 #[.int .u8 c, .agg #[.int .i64 z, .int .i64 v, .int .i64 h]] w (Two u 0 w) := by
  have hz0 : 0 ≤ z := by simp [Ms.validB] at hv; omega
  have hz1 : z ≤ 1000000 := by simp [Ms.validB] at hv; omega
  have hw := unitO_ways hu
  clear hu
  rcases hw with ⟨rfl, rfl⟩ | ⟨rfl, rfl⟩ | ⟨rfl, rfl⟩ | ⟨rfl, rfl⟩ | ⟨rfl, rfl⟩ | ⟨rfl, rfl⟩ | ⟨rfl, rfl⟩ | ⟨rfl, rfl⟩
  all_goals
    go_enter Tryd.func15, Tryd.ntmps15
    go_wp2_with fail
    refine (valid_any _ _ _ _).mono ?_
    rw [hv]
    rintro e w1 ⟨rfl, hb⟩
    obtain ⟨hc, hf⟩ := bcell hb
    go_wp2
    go_ret2
    exact ⟨rfl, ((Below.refl _ _).alloc (Nat.le_refl _) _).trans (hb.mono (by simp))⟩

set_option maxHeartbeats 4000000 in
theorem unit_none (c z v h : Int) (hv : Ms.validB z v h = true) (hu : Ms.unitO c z v = none) (w : World) :
    Calls Tryd.prog 15 #[.int .u8 c, .agg #[.int .i64 z, .int .i64 v, .int .i64 h]] w (Two 0 1 w) := by
  have g : (c == 117) = false ∧ (c == 112) = false ∧ (c == 80) = false ∧ (c == 105) = false ∧ (c == 99) = false ∧ (c == 109) = false ∧ (c == 110) = false ∧ (c == 118) = false := by
    unfold Ms.unitO at hu
    simp only [beq_eq_false_iff_ne]
    refine ⟨?_, ?_, ?_, ?_, ?_, ?_, ?_, ?_⟩ <;> (rintro rfl; simp at hu)
  obtain ⟨g1, g2, g3, g4, g5, g6, g7, g8⟩ := g
  clear hu
  go_enter Tryd.func15, Tryd.ntmps15
  go_wp2_with (go_at_call 31; refine (valid_any _ _ _ _).mono ?_; rw [hv]; rintro e w1 ⟨rfl, hb⟩)
  go_ret2
  exact ⟨rfl, ((Below.refl _ _).alloc (Nat.le_refl _) _).trans (hb.mono (by simp))⟩

set_option maxHeartbeats 1000000 in
theorem powerOfTen_any (n : Nat) (hn : n ≤ 9) (w : World) :
    Calls Tryd.prog 64 #[.int .i64 n] w fun e w' => e = .returned (.int .i64 (Ms.tenTo n)) ∧ w = w' := by
  go_enter Tryd.func64, Tryd.ntmps64
  go_wp2
  go_loop [3, 5] (fun t i => ∃ k : Nat, k ≤ n ∧ i = .int .i64 k ∧ t = .int .i64 (Ms.tenTo k)) (fun _ i => n - (intOf i).toNat)
  case atStart => exact ⟨0, Nat.zero_le _, rfl, rfl⟩
  case round =>
    obtain ⟨k, hk, rfl, rfl⟩ := hrel
    have h1 := Ms.tenTo_pos k
    have h2 : Ms.tenTo k ≤ 1000000000 := by rw [← Ms.tenTo9]; exact Ms.tenTo_mono (by omega)
    by_cases hlt : k < n
    · go_wp2
      go_round
      case rel => exact ⟨k + 1, by omega, by go_num, rfl⟩
      case measure => simp [intOf]; omega
    · obtain rfl : k = n := by omega
      go_wp2
      go_ret
      exact ⟨rfl, rfl⟩

theorem byte_sub (c : Int) (h : Ms.digB c = true) : 48 ≤ c ∧ c ≤ 57 := by simp [Ms.digB] at h; omega

set_option maxHeartbeats 1000000 in
theorem valueOf_any (s : ByteArray) (hs : s.size ≤ 9) (hd : ∀ j, j < s.size → Ms.digB (bt s j) = true) (w : World) :
    Calls Tryd.prog 63 #[.string s] w fun e w' => e = .returned (.int .i64 (Ms.dVal s 0 s.size)) ∧ w = w' := by
  have hb := get_bt s
  have HD := Lib.hid hd
  clear hd
  go_enter Tryd.func63, Tryd.ntmps63
  go_wp2
  go_loop [3, 7] (fun t i => ∃ k : Nat, k ≤ s.size ∧ i = .int .i64 k ∧ t = .int .i64 (Ms.dVal s 0 k)) (fun _ i => s.size - (intOf i).toNat)
  case atStart => exact ⟨0, Nat.zero_le _, rfl, rfl⟩
  case round =>
    obtain ⟨k, hk, rfl, rfl⟩ := hrel
    have h1 := Ms.dVal_bd s 0 k (fun j _ h => HD.out j (by omega))
    have h2 : Ms.tenTo k ≤ 1000000000 := by rw [← Ms.tenTo9]; exact Ms.tenTo_mono (by omega)
    by_cases hlt : k < s.size
    · obtain ⟨d1, d2⟩ := byte_sub _ (HD.out k hlt)
      have h3 : Ms.dVal s 0 k ≤ 1000000000 := by omega
      have h4 : 0 ≤ Ms.dVal s 0 k := h1.1
      clear h1 h2
      go_wp2
      go_round
      case rel => exact ⟨k + 1, by omega, by go_num, by simp [Ms.dVal]⟩
      case measure => simp [intOf]; omega
    · obtain rfl : k = s.size := by omega
      go_wp2
      go_ret
      exact ⟨rfl, rfl⟩
end Go.Proofs.YtkkcoajgpdpfkabDoor
