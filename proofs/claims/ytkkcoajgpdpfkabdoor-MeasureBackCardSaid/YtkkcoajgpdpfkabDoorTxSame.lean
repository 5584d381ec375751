/- Text, Unit and letter: the program's and the document's, side by side. -/
import Derived.Test.YtkkcoajgpdpfkabDoorTxRef
import Derived.Test.YtkkcoajgpdpfkabDoorRfLeaf
namespace Go.Proofs.YtkkcoajgpdpfkabDoor
open Go.RowKit Go.PlainAid Go.Shelf

/-- The cells of a context in a box. -/
structure TBox (z v h : Int) (b : Nat) (w : World) : Prop where
  c0 : w.cell? ⟨b, 0, none⟩ = some (.int .i64 z)
  c1 : w.cell? ⟨b, 1, none⟩ = some (.int .i64 v)
  c2 : w.cell? ⟨b, 2, none⟩ = some (.int .i64 h)
  lt : b < w.heap.size
theorem TBox.below {z v h : Int} {b : Nat} {w w' : World} (k : TBox z v h b w) (hb : Below w.heap.size w w') : TBox z v h b w' := by
  obtain ⟨h0, h1, h2, hl⟩ := k
  obtain ⟨hc, _⟩ := bcell hb
  exact ⟨by rw [hc _ _ hl, h0], by rw [hc _ _ hl, h1], by rw [hc _ _ hl, h2], Nat.lt_of_lt_of_le hl hb.size⟩
abbrev ctxT (z v h : Int) : Obj := .cells #[.int .i64 z, .int .i64 v, .int .i64 h] 38
theorem TBox.new (z v h : Int) (w : World) : TBox z v h w.heap.size (w.alloc (ctxT z v h)) := by
  refine ⟨?_, ?_, ?_, ?_⟩ <;> simp [go_sem]
theorem as_is (z v h : Int) (w : World) :
    Calls Tryd.prog 17 #[.agg #[.int .i64 z, .int .i64 v, .int .i64 h]] w fun e w' => e = .returned (.agg #[.int .i64 z, .int .i64 v, .int .i64 h]) ∧ Kept w w' := by
  go_enter Tryd.func17, Tryd.ntmps17
  go_wp2
  simp [bodyPost, results, Tryd.results17, go_sem]
  exact ((Below.refl _ _).alloc (Nat.le_refl _) _).alloc (by simp) _
def letterS : ByteArray := ⟨#[117, 112, 80, 105, 99, 109, 110, 118]⟩

set_option maxRecDepth 100000 in
set_option maxHeartbeats 1000000 in
theorem rtext_less (n c : Int) (h : n < 0) (w : World) : Calls Tryd.prog 14 #[.int .i64 n, .int .u8 c] w (NoText w) := by
  go_enter Tryd.func14, Tryd.ntmps14
  go_wp2_with fail
  go_ret2
  exact ⟨rfl, Below.refl _ _⟩
set_option maxRecDepth 100000 in
set_option maxHeartbeats 1000000 in
theorem rtext_none (n c : Int) (h0 : 0 ≤ n) (h : ¬ (c = 117 ∨ c = 112 ∨ c = 80 ∨ c = 105)) (w : World) : Calls Tryd.prog 14 #[.int .i64 n, .int .u8 c] w (NoText w) := by
  have g1 : (c != 117) = true := by rw [bne_iff_ne]; exact fun e => h (.inl e)
  have g2 : (c != 112) = true := by rw [bne_iff_ne]; exact fun e => h (.inr (.inl e))
  have g3 : (c != 80) = true := by rw [bne_iff_ne]; exact fun e => h (.inr (.inr (.inl e)))
  have g4 : (c != 105) = true := by rw [bne_iff_ne]; exact fun e => h (.inr (.inr (.inr e)))
  clear h
  go_enter Tryd.func14, Tryd.ntmps14
  go_wp2_with fail
  go_ret2
  exact ⟨rfl, Below.refl _ _⟩

abbrev TxP (S : ByteArray) (b : Int) (w : World) (e : Ending) (w' : World) : Prop := e = .returned (.tuple #[.string S, .int .i64 b]) ∧ Kept w w'
/-- Both texts of a number. -/
structure BothText (n c : Int) (S : ByteArray) (b : Int) : Prop where
  m : ∀ w, PowAt w → Calls Tryd.prog 12 #[.int .i64 n, .int .u8 c] w (TxP S b w)
  r : ∀ w, Calls Tryd.prog 14 #[.int .i64 n, .int .u8 c] w (TxP S b w)
theorem both_scale {n u : Nat} {c : Int} (hn : n < 9223372036854775808) (hs : ScaleIs c u) : ∃ S b, BothText n c S b := by
  have hu0 := hs.u0
  have hu1 := hs.u1
  have hr1 : n % u < 720 := by have := Nat.mod_lt n hu0; omega
  have hR1 : n % u * 10000 / u < 10000 := by
    rw [Nat.div_lt_iff_lt_mul hu0]
    have := Nat.mod_lt n hu0
    rw [Nat.mul_comm 10000]
    exact Nat.mul_lt_mul_of_pos_right this (by decide)
  have hq1 : n / u < 9223372036854775808 := Nat.lt_of_le_of_lt (Nat.div_le_self _ _) hn
  have hR : (((n % u : Nat) : Int) * 10000).tdiv u = ((n % u * 10000 / u : Nat) : Int) := by
    rw [show (((n % u : Nat) : Int) * 10000) = ((n % u * 10000 : Nat) : Int) from by rw [Int.natCast_mul]; rfl]
    exact tdiv_nat _ _
  refine ⟨_, 0, fun w hw => text_some n u (n / u) (n % u) (n % u * 10000 / u) c hn hs w hw (tdiv_nat _ _) (tmod_nat _ _) hR hq1 hr1 hR1, fun w => ?_⟩
  by_cases h0 : n % u * 10000 / u = 0
  · rw [h0] at hR ⊢
    exact rtext_zero n u (n / u) (n % u) c hs w (tdiv_nat _ _) (tmod_nat _ _) hR hq1 hr1
  · exact rtext_frac n u (n / u) (n % u) (n % u * 10000 / u) c hs w (tdiv_nat _ _) (tmod_nat _ _) hR hq1 hr1 hR1 (Nat.pos_of_ne_zero h0)
theorem both_text (n c : Int) (h1 : n ≤ 9223372036854775807) (h2 : 0 ≤ c) (h3 : c < 256) : ∃ S b, BothText n c S b := by
  by_cases hn : n < 0
  · exact ⟨_, _, fun w _ => text_none n c h2 h3 (.inl hn) w, fun w => rtext_less n c hn w⟩
  · obtain ⟨N, rfl⟩ : ∃ N : Nat, n = N := ⟨n.toNat, by omega⟩
    by_cases hc : c = 117 ∨ c = 112 ∨ c = 80 ∨ c = 105
    · rcases hc with rfl | rfl | rfl | rfl
      · exact both_scale (by omega) scale_u
      · exact both_scale (by omega) scale_p
      · exact both_scale (by omega) scale_P
      · exact both_scale (by omega) scale_i
    · exact ⟨_, _, fun w _ => text_none N c h2 h3 (.inr hc) w, fun w => rtext_none N c (by omega) hc w⟩

set_option maxRecDepth 100000 in
set_option maxHeartbeats 1000000 in
theorem runit_bad (c z v h : Int) (hb : (Ms.validB z v h && sclB c) = false) (w : World) : Calls Tryd.prog 16 #[.int .u8 c, .agg #[.int .i64 z, .int .i64 v, .int .i64 h]] w (Two 0 1 w) := by
  have hal : Below w.heap.size w (w.alloc (ctxT z v h)) := (Below.refl _ _).alloc (Nat.le_refl _) _
  have HA := Lib.hid (rfits_any z v h)
  have HS := Lib.hid (risScale_any c)
  cases hv : Ms.validB z v h with
  | false =>
    rw [hv] at HA
    clear hb
    go_enter Tryd.func16, Tryd.ntmps16
    go_wp2_with fail
    refine (HA.out _).mono ?_
    rintro e w1 ⟨rfl, b1⟩
    go_wp2_with fail
    go_ret2
    exact ⟨rfl, hal.trans (b1.mono (by simp))⟩
  | true =>
    rw [hv, Bool.true_and] at hb
    rw [hv] at HA
    rw [hb] at HS
    go_enter Tryd.func16, Tryd.ntmps16
    go_wp2_with fail
    refine (HA.out _).mono ?_
    rintro e w1 ⟨rfl, b1⟩
    go_wp2_with fail
    refine (HS.out _).mono ?_
    rintro e w2 ⟨rfl, rfl⟩
    go_wp2_with fail
    go_ret2
    exact ⟨rfl, hal.trans (b1.mono (by simp))⟩
set_option maxRecDepth 100000 in
set_option maxHeartbeats 1000000 in
theorem runit_good (c z v h u : Int) (hv : Ms.validB z v h = true) (hu : Ms.unitO c z v = some u) (w : World) : Calls Tryd.prog 16 #[.int .u8 c, .agg #[.int .i64 z, .int .i64 v, .int .i64 h]] w (Two u 0 w) := by
  have hal : Below w.heap.size w (w.alloc (ctxT z v h)) := (Below.refl _ _).alloc (Nat.le_refl _) _
  have hb0 := TBox.new z v h w
  have hz0 : 0 ≤ z := by simp [Ms.validB] at hv; omega
  have hz1 : z ≤ 1000000 := by simp [Ms.validB] at hv; omega
  have hsc : sclB c = true := by rw [← sclB_iff c z v, hu]; rfl
  have HA := Lib.hid (rfits_any z v h)
  have HS := Lib.hid (risScale_any c)
  have hU := runit_any c z v h hz0 hz1
  rw [hu] at hU
  have HU := Lib.hid hU
  rw [hv] at HA
  rw [hsc] at HS
  clear hU hsc hv hu
  go_enter Tryd.func16, Tryd.ntmps16
  go_wp2_with fail
  refine (HA.out _).mono ?_
  rintro e w1 ⟨rfl, b1⟩
  have hB := hb0.below b1
  have hk := hal.trans (b1.mono (by simp))
  obtain ⟨k0, k1, k2, kl⟩ := hB
  go_wp2_with fail
  refine (HS.out _).mono ?_
  rintro e w2 ⟨rfl, rfl⟩
  go_wp2_with fail
  refine (HU.out _).mono ?_
  rintro e w3 ⟨rfl, b3⟩
  go_wp2_with fail
  go_ret2
  exact ⟨rfl, kept_step hk b3⟩
/-- Both units of a scale. -/
structure BothUnit (c z v h a b : Int) : Prop where
  m : ∀ w, Calls Tryd.prog 15 #[.int .u8 c, .agg #[.int .i64 z, .int .i64 v, .int .i64 h]] w (Two a b w)
  r : ∀ w, Calls Tryd.prog 16 #[.int .u8 c, .agg #[.int .i64 z, .int .i64 v, .int .i64 h]] w (Two a b w)
theorem both_unit (c z v h : Int) : ∃ a b, BothUnit c z v h a b := by
  cases hv : Ms.validB z v h with
  | false => exact ⟨0, 1, unit_bad c z v h hv, runit_bad c z v h (by rw [hv]; rfl)⟩
  | true =>
    cases hu : Ms.unitO c z v with
    | none => exact ⟨0, 1, unit_none c z v h hv hu, runit_bad c z v h (by rw [← sclB_iff c z v, hu]; simp)⟩
    | some u => exact ⟨u, 0, unit_some c z v h u hv hu, runit_good c z v h u hv hu⟩

theorem letter_is (n : Int) : ∃ c : Int, 0 ≤ c ∧ c < 256 ∧ ∀ w, Calls Tryd.prog 13 #[.int .i64 n] w fun e w' => e = .returned (.int .u8 c) ∧ w = w' := by
  by_cases h : 0 ≤ n ∧ n < 256
  · obtain ⟨h0, h1⟩ := h
    refine ⟨n, h0, h1, fun w => ?_⟩
    have e8 : IntKind.u8.wrap n = n := by rw [IntKind.wrap_u8]; omega
    go_enter Tryd.func13, Tryd.ntmps13
    go_wp2
    go_ret
    exact ⟨rfl, rfl⟩
  · have hu : 0 ≤ IntKind.u64.wrap n := by rw [IntKind.wrap_u64]; omega
    have e1 : (IntKind.u64.wrap n).tmod 8 = IntKind.u64.wrap n % 8 := Int.tmod_eq_emod_of_nonneg hu
    obtain ⟨k, hk⟩ : ∃ k : Nat, IntKind.u64.wrap n % 8 = k := ⟨(IntKind.u64.wrap n % 8).toNat, by omega⟩
    have hk8 : k < 8 := by omega
    refine ⟨bt letterS k, bt_nonneg _ _, by have := bt_le letterS k; omega, fun w => ?_⟩
    have hb := get_bt letterS
    unfold letterS at hb ⊢
    rcases (show n < 0 ∨ 256 ≤ n by omega) with h2 | h2
    all_goals
      go_enter Tryd.func13, Tryd.ntmps13
      go_wp2
      go_ret
      exact ⟨rfl, rfl⟩
end Go.Proofs.YtkkcoajgpdpfkabDoor
