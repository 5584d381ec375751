/- The document's Write of a number from 0 on. -/
import Derived.Test.YtopgbbkndkincaaGreatDoorRwRoman
namespace Go.Proofs.YtopgbbkndkincaaGreatDoor
open Go.RowKit Go.PlainAid Go.Shelf

/-- A number from 0 on in small roman digits, where it has them. -/
def romS (N : Nat) : ByteArray := if N = 0 ∨ 39999 < N then decS N else ⟨(romL romT N).toArray⟩
/-- A numeral with k zeros in front. -/
def zeros (k : Nat) (D : ByteArray) : ByteArray := ⟨(Lib.repeatL [48] k ++ D.data.toList).toArray⟩
/-- A number from 0 on by a format. -/
def wTxt (N : Nat) (F : ByteArray) : ByteArray :=
  if F.toList == [105] then romS N else if F.toList == [73] then upS (romS N) else if F.toList == [97] then letS N else if F.toList == [65] then upS (letS N) else zeros (F.size - (decS N).size) (decS N)
theorem decS_zero : decS 0 = ⟨#[48]⟩ := by unfold decS; rw [dec_one (by omega)]; rfl
theorem letS_zero : letS 0 = ⟨#[48]⟩ := rfl
theorem romS_zero : romS 0 = ⟨#[48]⟩ := by unfold romS; rw [if_pos (.inl rfl), decS_zero]
theorem romS_small {N : Nat} (h0 : 0 < N) (h1 : N ≤ 39999) : romS N = ⟨(romL romT N).toArray⟩ := by unfold romS; rw [if_neg (by omega)]
theorem romS_big {N : Nat} (h1 : 39999 < N) : romS N = decS N := by unfold romS; rw [if_pos (.inr h1)]
theorem decS_le {N : Nat} (h : N ≤ 1000000000) : (decS N).size ≤ 20 := by rw [Lib.size_eq, decS_list]; exact dec_size (by omega)
theorem romS_le {N : Nat} (h : N ≤ 1000000000) : (romS N).size ≤ 80000 := by
  unfold romS
  split
  · have := decS_le h; omega
  · rw [Lib.size_eq]
    have := rom_len N
    show (romL romT N).length ≤ _
    omega
theorem letS_le {N : Nat} (h : N ≤ 1000000000) : (letS N).size ≤ 1000000000 := by
  unfold letS
  split
  · decide
  · rw [Lib.size_eq]
    have := lets_length N
    show (lets N).length ≤ _
    omega

theorem form_of {c : UInt8} (h : c = 105 ∨ c = 73 ∨ c = 97 ∨ c = 65) : formB ⟨#[c]⟩ = true := by
  unfold formB letB
  rw [Lib.toList_data]
  show (([c] : List UInt8) == [105] || ([c] : List UInt8) == [73] || ([c] : List UInt8) == [97] || ([c] : List UInt8) == [65] || _) = true
  rcases h with rfl | rfl | rfl | rfl <;> rfl
abbrev WrP (S : ByteArray) (w : World) (e : Ending) (w' : World) : Prop := e = .returned (.tuple #[.string S, .int .i64 0]) ∧ Below w.heap.size w w'
theorem step_below {B : Nat} {w w1 w2 : World} (h1 : Below B w w1) (h2 : Below w1.heap.size w1 w2) (hB : B ≤ w.heap.size := by exact Nat.le_refl _) : Below B w w2 := h1.trans (Below.mono h2 (Nat.le_trans hB h1.size))
set_option maxRecDepth 100000 in
set_option maxHeartbeats 1000000 in
theorem rw_i_zero (w : World) : Calls Tryz.prog 59 #[.int .i64 0, .string ⟨#[105]⟩] w (WrP ⟨#[48]⟩ w) := by
  have HF := Lib.hid (risForm_any ⟨#[105]⟩ (by decide))
  rw [show formB ⟨#[105]⟩ = true from form_of (by decide)] at HF
  have HT := Lib.hid (rfits_any 0)
  rw [show fitB 0 = true from by simp [fitB]] at HT
  have hD := digits_any 0 (by omega)
  rw [show ((0 : Nat) : Int) = 0 from rfl] at hD
  have HD := Lib.hid hD
  clear hD
  go_enter Tryz.func59, Tryz.ntmps59
  go_wp2_with fail
  refine (HF.out _).mono ?_
  rintro e w1 ⟨rfl, rfl⟩
  go_wp2_with fail
  refine (HT.out _).mono ?_
  rintro e w1 ⟨rfl, rfl⟩
  go_wp2_with fail
  refine (HD.out _).mono ?_
  rintro e v0 ⟨rfl, b0⟩
  go_wp2_with fail
  go_ret2
  exact ⟨rfl, b0⟩
set_option maxRecDepth 100000 in
set_option maxHeartbeats 1000000 in
theorem rw_i_small (N : Nat) (h0 : 0 < N) (h1 : N ≤ 39999) (w : World) : Calls Tryz.prog 59 #[.int .i64 N, .string ⟨#[105]⟩] w (WrP (romS N) w) := by
  have HF := Lib.hid (risForm_any ⟨#[105]⟩ (by decide))
  rw [show formB ⟨#[105]⟩ = true from form_of (by decide)] at HF
  have HT := Lib.hid (rfits_any N)
  rw [show fitB N = true from by simp [fitB]; omega] at HT
  have HD := Lib.hid (digits_any N (by omega))
  have hne : ((N : Int) == 0) = false := by rw [beq_eq_false_iff_ne]; omega
  have HR := Lib.hid (rroman_any N h1)
  have hle := romS_le (N := N) (by omega)
  rw [romS_small h0 h1]
  rw [romS_small h0 h1] at hle
  obtain ⟨R, hR⟩ : ∃ R : ByteArray, (⟨(romL romT N).toArray⟩ : ByteArray) = R := ⟨_, rfl⟩
  unfold StrP at HR
  rw [hR] at HR hle ⊢
  clear hR
  go_enter Tryz.func59, Tryz.ntmps59
  go_wp2_with fail
  refine (HF.out _).mono ?_
  rintro e w1 ⟨rfl, rfl⟩
  go_wp2_with fail
  refine (HT.out _).mono ?_
  rintro e w1 ⟨rfl, rfl⟩
  go_wp2_with fail
  refine (HD.out _).mono ?_
  rintro e v0 ⟨rfl, b0⟩
  go_wp2_with fail
  refine (HR.out _).mono ?_
  rintro e v1 ⟨rfl, b1⟩
  go_wp2_with fail
  go_ret2
  exact ⟨rfl, step_below (b0) b1⟩
set_option maxRecDepth 100000 in
set_option maxHeartbeats 1000000 in
theorem rw_i_big (N : Nat) (h1 : 39999 < N) (h2 : N ≤ 1000000000) (w : World) : Calls Tryz.prog 59 #[.int .i64 N, .string ⟨#[105]⟩] w (WrP (romS N) w) := by
  have HF := Lib.hid (risForm_any ⟨#[105]⟩ (by decide))
  rw [show formB ⟨#[105]⟩ = true from form_of (by decide)] at HF
  have HT := Lib.hid (rfits_any N)
  rw [show fitB N = true from by simp [fitB]; omega] at HT
  have HD := Lib.hid (digits_any N (by omega))
  have hne : ((N : Int) == 0) = false := by rw [beq_eq_false_iff_ne]; omega
  have hle := decS_le h2
  rw [romS_big h1]
  obtain ⟨R, hR⟩ : ∃ R, decS N = R := ⟨_, rfl⟩
  rw [hR] at HD hle ⊢
  clear hR
  go_enter Tryz.func59, Tryz.ntmps59
  go_wp2_with fail
  refine (HF.out _).mono ?_
  rintro e w1 ⟨rfl, rfl⟩
  go_wp2_with fail
  refine (HT.out _).mono ?_
  rintro e w1 ⟨rfl, rfl⟩
  go_wp2_with fail
  refine (HD.out _).mono ?_
  rintro e v0 ⟨rfl, b0⟩
  go_wp2_with fail
  go_ret2
  exact ⟨rfl, b0⟩
set_option maxRecDepth 100000 in
set_option maxHeartbeats 1000000 in
theorem rw_I_zero (w : World) : Calls Tryz.prog 59 #[.int .i64 0, .string ⟨#[73]⟩] w (WrP (upS ⟨#[48]⟩) w) := by
  have HF := Lib.hid (risForm_any ⟨#[73]⟩ (by decide))
  rw [show formB ⟨#[73]⟩ = true from form_of (by decide)] at HF
  have HT := Lib.hid (rfits_any 0)
  rw [show fitB 0 = true from by simp [fitB]] at HT
  have hD := digits_any 0 (by omega)
  rw [show ((0 : Nat) : Int) = 0 from rfl] at hD
  have HD := Lib.hid hD
  clear hD
  have HG := Lib.hid (great_any ⟨#[48]⟩ (by decide))
  go_enter Tryz.func59, Tryz.ntmps59
  go_wp2_with fail
  refine (HF.out _).mono ?_
  rintro e w1 ⟨rfl, rfl⟩
  go_wp2_with fail
  refine (HT.out _).mono ?_
  rintro e w1 ⟨rfl, rfl⟩
  go_wp2_with fail
  refine (HD.out _).mono ?_
  rintro e v0 ⟨rfl, b0⟩
  go_wp2_with fail
  refine (HG.out _).mono ?_
  rintro e v1 ⟨rfl, b1⟩
  go_wp2_with fail
  go_ret2
  exact ⟨rfl, step_below (b0) b1⟩
set_option maxRecDepth 100000 in
set_option maxHeartbeats 1000000 in
theorem rw_I_small (N : Nat) (h0 : 0 < N) (h1 : N ≤ 39999) (w : World) : Calls Tryz.prog 59 #[.int .i64 N, .string ⟨#[73]⟩] w (WrP (upS (romS N)) w) := by
  have HF := Lib.hid (risForm_any ⟨#[73]⟩ (by decide))
  rw [show formB ⟨#[73]⟩ = true from form_of (by decide)] at HF
  have HT := Lib.hid (rfits_any N)
  rw [show fitB N = true from by simp [fitB]; omega] at HT
  have HD := Lib.hid (digits_any N (by omega))
  have hne : ((N : Int) == 0) = false := by rw [beq_eq_false_iff_ne]; omega
  have HR := Lib.hid (rroman_any N h1)
  have hle := romS_le (N := N) (by omega)
  rw [romS_small h0 h1]
  rw [romS_small h0 h1] at hle
  obtain ⟨R, hR⟩ : ∃ R : ByteArray, (⟨(romL romT N).toArray⟩ : ByteArray) = R := ⟨_, rfl⟩
  unfold StrP at HR
  rw [hR] at HR hle ⊢
  clear hR
  have HG := Lib.hid (great_any R (by omega))
  go_enter Tryz.func59, Tryz.ntmps59
  go_wp2_with fail
  refine (HF.out _).mono ?_
  rintro e w1 ⟨rfl, rfl⟩
  go_wp2_with fail
  refine (HT.out _).mono ?_
  rintro e w1 ⟨rfl, rfl⟩
  go_wp2_with fail
  refine (HD.out _).mono ?_
  rintro e v0 ⟨rfl, b0⟩
  go_wp2_with fail
  refine (HR.out _).mono ?_
  rintro e v1 ⟨rfl, b1⟩
  go_wp2_with fail
  refine (HG.out _).mono ?_
  rintro e v2 ⟨rfl, b2⟩
  go_wp2_with fail
  go_ret2
  exact ⟨rfl, step_below (step_below (b0) b1) b2⟩
set_option maxRecDepth 100000 in
set_option maxHeartbeats 1000000 in
theorem rw_I_big (N : Nat) (h1 : 39999 < N) (h2 : N ≤ 1000000000) (w : World) : Calls Tryz.prog 59 #[.int .i64 N, .string ⟨#[73]⟩] w (WrP (upS (romS N)) w) := by
  have HF := Lib.hid (risForm_any ⟨#[73]⟩ (by decide))
  rw [show formB ⟨#[73]⟩ = true from form_of (by decide)] at HF
  have HT := Lib.hid (rfits_any N)
  rw [show fitB N = true from by simp [fitB]; omega] at HT
  have HD := Lib.hid (digits_any N (by omega))
  have hne : ((N : Int) == 0) = false := by rw [beq_eq_false_iff_ne]; omega
  have hle := decS_le h2
  rw [romS_big h1]
  obtain ⟨R, hR⟩ : ∃ R, decS N = R := ⟨_, rfl⟩
  rw [hR] at HD hle ⊢
  clear hR
  have HG := Lib.hid (great_any R (by omega))
  go_enter Tryz.func59, Tryz.ntmps59
  go_wp2_with fail
  refine (HF.out _).mono ?_
  rintro e w1 ⟨rfl, rfl⟩
  go_wp2_with fail
  refine (HT.out _).mono ?_
  rintro e w1 ⟨rfl, rfl⟩
  go_wp2_with fail
  refine (HD.out _).mono ?_
  rintro e v0 ⟨rfl, b0⟩
  go_wp2_with fail
  refine (HG.out _).mono ?_
  rintro e v1 ⟨rfl, b1⟩
  go_wp2_with fail
  go_ret2
  exact ⟨rfl, step_below (b0) b1⟩
set_option maxRecDepth 100000 in
set_option maxHeartbeats 1000000 in
theorem rw_a_zero (w : World) : Calls Tryz.prog 59 #[.int .i64 0, .string ⟨#[97]⟩] w (WrP ⟨#[48]⟩ w) := by
  have HF := Lib.hid (risForm_any ⟨#[97]⟩ (by decide))
  rw [show formB ⟨#[97]⟩ = true from form_of (by decide)] at HF
  have HT := Lib.hid (rfits_any 0)
  rw [show fitB 0 = true from by simp [fitB]] at HT
  have hD := digits_any 0 (by omega)
  rw [show ((0 : Nat) : Int) = 0 from rfl] at hD
  have HD := Lib.hid hD
  clear hD
  go_enter Tryz.func59, Tryz.ntmps59
  go_wp2_with fail
  refine (HF.out _).mono ?_
  rintro e w1 ⟨rfl, rfl⟩
  go_wp2_with fail
  refine (HT.out _).mono ?_
  rintro e w1 ⟨rfl, rfl⟩
  go_wp2_with fail
  refine (HD.out _).mono ?_
  rintro e v0 ⟨rfl, b0⟩
  go_wp2_with fail
  go_ret2
  exact ⟨rfl, b0⟩
set_option maxRecDepth 100000 in
set_option maxHeartbeats 1000000 in
theorem rw_a_pos (N : Nat) (h0 : 0 < N) (h2 : N ≤ 1000000000) (w : World) : Calls Tryz.prog 59 #[.int .i64 N, .string ⟨#[97]⟩] w (WrP (letS N) w) := by
  have HF := Lib.hid (risForm_any ⟨#[97]⟩ (by decide))
  rw [show formB ⟨#[97]⟩ = true from form_of (by decide)] at HF
  have HT := Lib.hid (rfits_any N)
  rw [show fitB N = true from by simp [fitB]; omega] at HT
  have HD := Lib.hid (digits_any N (by omega))
  have hne : ((N : Int) == 0) = false := by rw [beq_eq_false_iff_ne]; omega
  have HR := Lib.hid (rletters_any N h0 h2)
  have hle := letS_le h2
  obtain ⟨R, hR⟩ : ∃ R, letS N = R := ⟨_, rfl⟩
  rw [hR] at HR hle ⊢
  clear hR
  go_enter Tryz.func59, Tryz.ntmps59
  go_wp2_with fail
  refine (HF.out _).mono ?_
  rintro e w1 ⟨rfl, rfl⟩
  go_wp2_with fail
  refine (HT.out _).mono ?_
  rintro e w1 ⟨rfl, rfl⟩
  go_wp2_with fail
  refine (HD.out _).mono ?_
  rintro e v0 ⟨rfl, b0⟩
  go_wp2_with fail
  refine (HR.out _).mono ?_
  rintro e v1 ⟨rfl, b1⟩
  go_wp2_with fail
  go_ret2
  exact ⟨rfl, step_below (b0) b1⟩
set_option maxRecDepth 100000 in
set_option maxHeartbeats 1000000 in
theorem rw_A_zero (w : World) : Calls Tryz.prog 59 #[.int .i64 0, .string ⟨#[65]⟩] w (WrP (upS ⟨#[48]⟩) w) := by
  have HF := Lib.hid (risForm_any ⟨#[65]⟩ (by decide))
  rw [show formB ⟨#[65]⟩ = true from form_of (by decide)] at HF
  have HT := Lib.hid (rfits_any 0)
  rw [show fitB 0 = true from by simp [fitB]] at HT
  have hD := digits_any 0 (by omega)
  rw [show ((0 : Nat) : Int) = 0 from rfl] at hD
  have HD := Lib.hid hD
  clear hD
  have HG := Lib.hid (great_any ⟨#[48]⟩ (by decide))
  go_enter Tryz.func59, Tryz.ntmps59
  go_wp2_with fail
  refine (HF.out _).mono ?_
  rintro e w1 ⟨rfl, rfl⟩
  go_wp2_with fail
  refine (HT.out _).mono ?_
  rintro e w1 ⟨rfl, rfl⟩
  go_wp2_with fail
  refine (HD.out _).mono ?_
  rintro e v0 ⟨rfl, b0⟩
  go_wp2_with fail
  refine (HG.out _).mono ?_
  rintro e v1 ⟨rfl, b1⟩
  go_wp2_with fail
  go_ret2
  exact ⟨rfl, step_below (b0) b1⟩
set_option maxRecDepth 100000 in
set_option maxHeartbeats 1000000 in
theorem rw_A_pos (N : Nat) (h0 : 0 < N) (h2 : N ≤ 1000000000) (w : World) : Calls Tryz.prog 59 #[.int .i64 N, .string ⟨#[65]⟩] w (WrP (upS (letS N)) w) := by
  have HF := Lib.hid (risForm_any ⟨#[65]⟩ (by decide))
  rw [show formB ⟨#[65]⟩ = true from form_of (by decide)] at HF
  have HT := Lib.hid (rfits_any N)
  rw [show fitB N = true from by simp [fitB]; omega] at HT
  have HD := Lib.hid (digits_any N (by omega))
  have hne : ((N : Int) == 0) = false := by rw [beq_eq_false_iff_ne]; omega
  have HR := Lib.hid (rletters_any N h0 h2)
  have hle := letS_le h2
  obtain ⟨R, hR⟩ : ∃ R, letS N = R := ⟨_, rfl⟩
  rw [hR] at HR hle ⊢
  clear hR
  have HG := Lib.hid (great_any R (by omega))
  go_enter Tryz.func59, Tryz.ntmps59
  go_wp2_with fail
  refine (HF.out _).mono ?_
  rintro e w1 ⟨rfl, rfl⟩
  go_wp2_with fail
  refine (HT.out _).mono ?_
  rintro e w1 ⟨rfl, rfl⟩
  go_wp2_with fail
  refine (HD.out _).mono ?_
  rintro e v0 ⟨rfl, b0⟩
  go_wp2_with fail
  refine (HR.out _).mono ?_
  rintro e v1 ⟨rfl, b1⟩
  go_wp2_with fail
  refine (HG.out _).mono ?_
  rintro e v2 ⟨rfl, b2⟩
  go_wp2_with fail
  go_ret2
  exact ⟨rfl, step_below (step_below (b0) b1) b2⟩
end Go.Proofs.YtopgbbkndkincaaGreatDoor
