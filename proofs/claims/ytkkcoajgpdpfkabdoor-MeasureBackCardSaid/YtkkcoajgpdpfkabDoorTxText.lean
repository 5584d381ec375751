/- Text: the program's, in a scale that has one. -/
import Derived.Test.YtkkcoajgpdpfkabDoorTxPure
namespace Go.Proofs.YtkkcoajgpdpfkabDoor
open Go.RowKit Go.PlainAid Go.Shelf

theorem encode_small {c : Int} (h0 : 0 ≤ c) (h1 : c < 128) : Utf8.encode c = chr c := by
  unfold Utf8.encode
  have hv : Utf8.valid c = true := by simp [Utf8.valid]; omega
  simp only [hv, if_true]
  rw [if_pos (by omega)]
  rfl
theorem byte_string {c : Int} (h0 : 0 ≤ c) (h1 : c < 128) (W : World) : (convert 5 9 (.int .u8 c)).run Tryd.prog W = .ok (.string (chr c)) W := by
  rw [← encode_small h0 h1]
  simp [convert, run_underlying Tryd.underlying5, run_underlying Tryd.underlying9, Conv.intToString]

theorem kept_step {B : Nat} {w w1 w2 : World} (h1 : Below B w w1) (h2 : Below w1.heap.size w1 w2) (hB : B ≤ w.heap.size := by exact Nat.le_refl _) : Below B w w2 := h1.trans (Below.mono h2 (Nat.le_trans hB h1.size))
abbrev TextIs (S : ByteArray) (w : World) (e : Ending) (w' : World) : Prop := e = .returned (.tuple #[.string S, .int .i64 0]) ∧ Kept w w'

/-- A scale that has texts. -/
structure ScaleIs (c : Int) (u : Nat) : Prop where
  u0 : 0 < u
  u1 : u ≤ 720
  c0 : 0 ≤ c
  c1 : c < 128
  unit : Ms.unitO c 0 0 = some (u : Int)
  there : Lib.indexByte [117, 112, 80, 105] c.toNat.toUInt8 = 0 ∨ Lib.indexByte [117, 112, 80, 105] c.toNat.toUInt8 = 1 ∨ Lib.indexByte [117, 112, 80, 105] c.toNat.toUInt8 = 2 ∨ Lib.indexByte [117, 112, 80, 105] c.toNat.toUInt8 = 3
  one : c = 117 ∨ c = 112 ∨ c = 80 ∨ c = 105
theorem scale_u : ScaleIs 117 1 := ⟨by decide, by decide, by decide, by decide, rfl, by decide, by decide⟩
theorem scale_p : ScaleIs 112 10 := ⟨by decide, by decide, by decide, by decide, rfl, by decide, by decide⟩
theorem scale_P : ScaleIs 80 120 := ⟨by decide, by decide, by decide, by decide, rfl, by decide, by decide⟩
theorem scale_i : ScaleIs 105 720 := ⟨by decide, by decide, by decide, by decide, rfl, by decide, by decide⟩

theorem tmod_nat (n u : Nat) : (n : Int).tmod (u : Int) = ((n % u : Nat) : Int) := by rw [Int.tmod_eq_emod_of_nonneg (by omega)]; push_cast; rfl
theorem tdiv_nat (n u : Nat) : (n : Int).tdiv (u : Int) = ((n / u : Nat) : Int) := by rw [Int.tdiv_eq_ediv_of_nonneg (by omega)]; push_cast; rfl

theorem isEmpty_is {D : ByteArray} {b : Bool} (h : D.data.toList = [] ↔ b = true) : D.toList.isEmpty = b := by
  rw [Lib.toList_data]
  cases b with
  | true => rw [h.2 rfl]; rfl
  | false =>
    cases hl : D.data.toList with
    | nil => exact absurd (h.1 hl) (by decide)
    | cons _ _ => rfl
theorem nil_of_empty {D : ByteArray} (h : D.toList.isEmpty = true) : D = ⟨#[]⟩ := by
  refine ba_ext ?_
  rw [Lib.toList_data] at h
  rw [List.isEmpty_iff.1 h]
/-- The four digits behind the point, cut out of a number with a 1 in front: F; T without the zeros at the end. -/
structure FracIs (R : Nat) (F T : ByteArray) : Prop where
  size : F.size = 5
  itoa : ∀ w, PowAt w → Calls Tryd.prog 28 #[.int .i64 (10000 + R)] w (StrIs F w)
  trim : ∀ w, Calls Tryd.prog 29 #[.string (F.extract 1 F.size), .string ⟨#[48]⟩] w fun e w' => e = .returned (.string T) ∧ w' = w
  empty : T.toList.isEmpty = decide (R = 0)
  le : T.size ≤ 4
  frac : fracS R = if R = 0 then ⟨#[]⟩ else ⟨#[46]⟩ ++ T
theorem frac_is {R : Nat} (h : R < 10000) : ∃ F T, FracIs R F T := by
  refine ⟨decS (10000 + R), trimS (four R), decS_five h, fun w hw => ?_, fun w => ?_, ?_, ?_, rfl⟩
  · have := itoa_at (10000 + R) (by omega) w hw
    rw [show ((10000 + R : Nat) : Int) = 10000 + (R : Int) from by omega] at this
    exact this
  · exact trim_at _ (by have := four_size h; unfold four at this; omega) w
  · refine isEmpty_is ?_
    rw [trimS_list, trim_zero h, decide_eq_true_eq]
  · rw [Lib.size_eq, trimS_list]
    have h1 : (four R).data.toList.length = 4 := by rw [← Lib.size_eq]; exact four_size h
    unfold Lib.trimRightB
    have h2 : ((four R).data.toList.reverse.dropWhile (· == 48)).length ≤ (four R).data.toList.reverse.length := (List.dropWhile_sublist _).length_le
    rw [List.length_reverse] at h2 ⊢
    omega

set_option maxRecDepth 100000 in
set_option maxHeartbeats 1000000 in
theorem text_some (n u q r R : Nat) (c : Int) (hn : n < 9223372036854775808) (hs : ScaleIs c u) (w : World) (hw : PowAt w) (hq : (n : Int).tdiv u = q) (hr : (n : Int).tmod u = r) (hR : ((r : Int) * 10000).tdiv u = R) (hq1 : q < 9223372036854775808) (hr1 : r < 720) (hR1 : R < 10000) :
    Calls Tryd.prog 12 #[.int .i64 n, .int .u8 c] w (TextIs (decS q ++ fracS R ++ chr c) w) := by
  have HU := Lib.hid (unit_some c 0 0 0 u (by decide) hs.unit)
  have HW := Lib.hid hw
  have u0 := hs.u0
  have u1 := hs.u1
  have hcv := fun W => byte_string hs.c0 hs.c1 W
  have hne : ((u : Int) == 0) = false := by rw [beq_eq_false_iff_ne]; omega
  have hx := hs.there
  obtain ⟨x, hxe, hx0⟩ : ∃ x : Int, Lib.indexByte [117, 112, 80, 105] c.toNat.toUInt8 = x ∧ 0 ≤ x := ⟨_, rfl, by omega⟩
  have hi := fun w => index_at ⟨#[117, 112, 80, 105]⟩ c w
  rw [show (⟨#[117, 112, 80, 105]⟩ : ByteArray).data.toList = [117, 112, 80, 105] from rfl, hxe] at hi
  have HI := Lib.hid hi
  obtain ⟨F, T, HF⟩ := frac_is hR1
  have HF := Lib.hid HF
  have h5 := HF.out.size
  have h4 := HF.out.le
  have hem := HF.out.empty
  have hz1 : (chr c).size = 1 := rfl
  have hq20 := decS_size hq1
  have HQ := Lib.hid (itoa_at q hq1)
  have hfr := HF.out.frac
  obtain ⟨Q, hQ⟩ : ∃ Q, decS q = Q := ⟨_, rfl⟩
  obtain ⟨C, hC⟩ : ∃ C, chr c = C := ⟨_, rfl⟩
  obtain ⟨X, hX⟩ : ∃ X, fracS R = X := ⟨_, rfl⟩
  rw [hQ] at HQ hq20
  rw [hC] at hcv hz1
  rw [hX] at hfr
  rw [hQ, hC, hX]
  clear hw hi hx hxe hQ hC hX
  by_cases h0 : R = 0
  · rw [if_pos h0] at hfr
    rw [decide_eq_true h0] at hem
    have hX : X = T := by rw [hfr]; exact (nil_of_empty hem).symm
    subst hX
    clear hfr h0
    go_enter Tryd.func12, Tryd.ntmps12
    go_wp2_with fail
    refine (HU.out _).mono ?_
    rintro e w1 ⟨rfl, b1⟩
    go_wp2_with fail
    refine (HI.out _).mono ?_
    rintro e w2 ⟨rfl, rfl⟩
    have HW1 := Lib.hid (HW.out.below b1)
    go_wp2_with fail
    refine (HF.out.itoa _ HW1.out).mono ?_
    rintro e w3 ⟨rfl, b3⟩
    have HW3 := Lib.hid (HW1.out.below b3)
    go_wp2_with fail
    rw [← h5]
    refine (HF.out.trim _).mono ?_
    rintro e w4 ⟨rfl, rfl⟩
    go_wp2_with fail
    refine (HQ.out _ HW3.out).mono ?_
    rintro e w5 ⟨rfl, b5⟩
    go_wp2_with fail
    go_ret2
    exact ⟨rfl, kept_step (kept_step b1 b3) b5⟩
  · rw [if_neg h0] at hfr
    rw [decide_eq_false h0] at hem
    subst hfr
    go_enter Tryd.func12, Tryd.ntmps12
    go_wp2_with fail
    refine (HU.out _).mono ?_
    rintro e w1 ⟨rfl, b1⟩
    go_wp2_with fail
    refine (HI.out _).mono ?_
    rintro e w2 ⟨rfl, rfl⟩
    have HW1 := Lib.hid (HW.out.below b1)
    go_wp2_with fail
    refine (HF.out.itoa _ HW1.out).mono ?_
    rintro e w3 ⟨rfl, b3⟩
    have HW3 := Lib.hid (HW1.out.below b3)
    go_wp2_with fail
    rw [← h5]
    refine (HF.out.trim _).mono ?_
    rintro e w4 ⟨rfl, rfl⟩
    go_wp2_with fail
    refine (HQ.out _ HW3.out).mono ?_
    rintro e w5 ⟨rfl, b5⟩
    go_wp2_with fail
    go_ret2
    exact ⟨rfl, kept_step (kept_step b1 b3) b5⟩

abbrev NoText (w : World) (e : Ending) (w' : World) : Prop := e = .returned (.tuple #[.string ⟨#[]⟩, .int .i64 1]) ∧ Kept w w'
theorem no_scale {c : Int} (h0 : 0 ≤ c) (h1 : c < 256) (h : ¬ (c = 117 ∨ c = 112 ∨ c = 80 ∨ c = 105)) : Lib.indexByte [117, 112, 80, 105] c.toNat.toUInt8 = -1 := by
  have hn : ∀ b : UInt8, c ≠ (b.toNat : Int) → (b == c.toNat.toUInt8) = false := by
    intro b hc
    rw [beq_eq_false_iff_ne]
    intro he
    have := congrArg UInt8.toNat he
    rw [show c.toNat.toUInt8 = UInt8.ofNat c.toNat from rfl, UInt8.toNat_ofNat', Nat.mod_eq_of_lt (by omega)] at this
    omega
  have h1 := hn 117 (fun e => h (.inl e))
  have h2 := hn 112 (fun e => h (.inr (.inl e)))
  have h3 := hn 80 (fun e => h (.inr (.inr (.inl e))))
  have h4 := hn 105 (fun e => h (.inr (.inr (.inr e))))
  simp only [Lib.indexByte, h1, h2, h3, h4]
  rfl
set_option maxRecDepth 100000 in
set_option maxHeartbeats 1000000 in
theorem text_none (n c : Int) (h0 : 0 ≤ c) (h1 : c < 256) (h : n < 0 ∨ ¬ (c = 117 ∨ c = 112 ∨ c = 80 ∨ c = 105)) (w : World) : Calls Tryd.prog 12 #[.int .i64 n, .int .u8 c] w (NoText w) := by
  cases hu : Ms.unitO c 0 0 with
  | none =>
    have HU := Lib.hid (unit_none c 0 0 0 (by decide) hu)
    clear h hu
    go_enter Tryd.func12, Tryd.ntmps12
    go_wp2_with fail
    refine (HU.out _).mono ?_
    rintro e w1 ⟨rfl, b1⟩
    go_wp2_with fail
    go_ret2
    exact ⟨rfl, b1⟩
  | some u =>
    have HU := Lib.hid (unit_some c 0 0 0 u (by decide) hu)
    by_cases hn : n < 0
    · clear h hu
      go_enter Tryd.func12, Tryd.ntmps12
      go_wp2_with fail
      refine (HU.out _).mono ?_
      rintro e w1 ⟨rfl, b1⟩
      go_wp2_with fail
      go_ret2
      exact ⟨rfl, b1⟩
    · have hc := h.resolve_left hn
      have hi := fun w => index_at ⟨#[117, 112, 80, 105]⟩ c w
      rw [show (⟨#[117, 112, 80, 105]⟩ : ByteArray).data.toList = [117, 112, 80, 105] from rfl, no_scale h0 h1 hc] at hi
      have HI := Lib.hid hi
      clear h hu hc hi
      go_enter Tryd.func12, Tryd.ntmps12
      go_wp2_with fail
      refine (HU.out _).mono ?_
      rintro e w1 ⟨rfl, b1⟩
      go_wp2_with fail
      refine (HI.out _).mono ?_
      rintro e w2 ⟨rfl, rfl⟩
      go_wp2_with fail
      go_ret2
      exact ⟨rfl, b1⟩
end Go.Proofs.YtkkcoajgpdpfkabDoor
