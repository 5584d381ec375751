/- Numbers in letters; Write by the form a; the law's fixed example. -/
import Derived.Test.YtopgbbkndkincaaGreatDoorRgDigits
import Derived.Laws.Runes
namespace Go.Proofs.YtopgbbkndkincaaGreatDoor
open Go.RowKit Go.PlainAid

/-- A number from 1 on in letters (0: nothing). -/
def lets (n : Nat) : List UInt8 := if _h : n = 0 then [] else lets ((n - 1) / 26) ++ [UInt8.ofNat (97 + (n - 1) % 26)]
termination_by n
decreasing_by omega
theorem lets_zero : lets 0 = [] := by rw [lets, dif_pos rfl]
theorem lets_pos {n : Nat} (h : 0 < n) : lets n = lets ((n - 1) / 26) ++ [UInt8.ofNat (97 + (n - 1) % 26)] := by rw [lets, dif_neg (by omega)]
theorem lets_length (n : Nat) : (lets n).length ≤ n := by
  induction n using Nat.strongRecOn with
  | _ n ih =>
    rcases Nat.eq_zero_or_pos n with h | h
    · subst h; rw [lets_zero]; simp
    · rw [lets_pos h, List.length_append]
      have := ih ((n - 1) / 26) (by omega)
      simp
      omega
/-- A number from 0 on as the form a writes it. -/
def letS (n : Nat) : ByteArray := if n = 0 then ⟨#[48]⟩ else ⟨(lets n).toArray⟩

theorem encode_small {c : Int} (h0 : 0 ≤ c) (h1 : c < 128) : Utf8.encode c = chr c := by
  unfold Utf8.encode
  have hv : Utf8.valid c = true := by simp [Utf8.valid]; omega
  simp only [hv, if_true]
  rw [if_pos (by omega)]
  rfl

theorem rune_string {c : Int} (h0 : 0 ≤ c) (h1 : c < 128) (W : World) : (convert 21 9 (.int .i32 c)).run Tryz.prog W = .ok (.string (chr c)) W := by
  rw [← encode_small h0 h1]
  simp [convert, run_underlying Tryz.underlying21, run_underlying Tryz.underlying9, Conv.intToString]

def LTail (N m : Nat) (D : ByteArray) : Prop := lets N = lets m ++ D.data.toList
theorem ltail_size {N m : Nat} {D : ByteArray} (h : LTail N m D) : D.size ≤ N := by
  have h1 := lets_length N
  have h2 := congrArg List.length h
  rw [List.length_append] at h2
  rw [Lib.size_eq]
  omega
theorem ltail_next {N m : Nat} {D : ByteArray} (h : LTail N m D) (hm : 0 < m) : LTail N ((m - 1) / 26) (chr (97 + ((m : Int) - 1) % 26) ++ D) := by
  unfold LTail at *
  rw [h, lets_pos hm, List.append_assoc, ByteArray.data_append, Array.toList_append]
  congr 2
  show [UInt8.ofNat (97 + (m - 1) % 26)] = [UInt8.ofNat (97 + ((m : Int) - 1) % 26).toNat]
  rw [show (97 + ((m : Int) - 1) % 26).toNat = 97 + (m - 1) % 26 from by omega]
theorem ltail_last {N : Nat} {D : ByteArray} (h : LTail N 0 D) (hN : 0 < N) : D = letS N := by
  unfold letS
  rw [if_neg (by omega)]
  refine ba_ext ?_
  unfold LTail at h
  rw [lets_zero, List.nil_append] at h
  rw [← h]

set_option maxRecDepth 100000 in
set_option maxHeartbeats 1000000 in
theorem letters_any (N : Nat) (hn : N ≤ 1000000000) (w : World) :
    Calls Tryz.prog 56 #[.int .i64 N] w fun e w' => e = .returned (.string (letS N)) ∧ w = w' := by
  rcases Nat.eq_zero_or_pos N with h0 | h0
  · subst h0
    go_enter Tryz.func56, Tryz.ntmps56
    go_wp2_with fail
    go_ret
    exact ⟨rfl, rfl⟩
  · have hne : ((N : Int) == 0) = false := by rw [beq_eq_false_iff_ne]; omega
    go_enter Tryz.func56, Tryz.ntmps56
    go_wp2_with fail
    go_loop [0, 3] (fun i v => ∃ (m : Nat) (D : ByteArray), i = .int .i64 m ∧ v = .string D ∧ m ≤ N ∧ Hid (LTail N m D) ∧ D.size ≤ N) (fun i _ => (intOf i).toNat)
    case atStart => exact ⟨N, _, rfl, rfl, Nat.le_refl _, (by simp [LTail] : LTail N N ⟨#[]⟩), Nat.zero_le _⟩
    case round =>
      obtain ⟨m, D, rfl, rfl, hmn, hg, h9⟩ := hrel
      by_cases hm : 0 < m
      · have hcv := fun W => rune_string (c := 97 + ((m : Int) - 1) % 26) (by omega) (by omega) W
        have ht := ltail_next hg.out hm
        have hs8 := ltail_size ht
        have hz := chr_size (97 + ((m : Int) - 1) % 26)
        have hg' : Hid (LTail N ((m - 1) / 26) (chr (97 + ((m : Int) - 1) % 26) ++ D)) := ht
        clear ht
        go_wp2_with fail
        go_round
        case rel => exact ⟨(m - 1) / 26, _, by go_num, rfl, by omega, hg', hs8⟩
        case measure => simp only [intOf]; omega
      · obtain rfl : m = 0 := by omega
        have ht := ltail_last hg.out h0
        subst ht
        go_wp2_with fail
        go_ret
        exact ⟨rfl, rfl⟩

def rangeErr (n : Int) : Int := if -1000000000 ≤ n ∧ n ≤ 1000000000 then 0 else 5

theorem rangeError_any (n : Int) (w : World) :
    Calls Tryz.prog 28 #[.int .i64 n] w fun e w' => e = .returned (.int .i64 (rangeErr n)) ∧ w = w' := by
  unfold rangeErr
  by_cases h3 : -1000000000 ≤ n
  case' pos => by_cases h4 : n ≤ 1000000000
  all_goals
    go_enter Tryz.func28, Tryz.ntmps28
    go_wp2
    go_ret
    exact ⟨by simp [*], rfl⟩

theorem formError_a (w : World) : Calls Tryz.prog 27 #[.string ⟨#[97]⟩] w fun e w' => e = .returned (.int .i64 0) ∧ w = w' := by
  go_enter Tryz.func27, Tryz.ntmps27
  go_wp2_with fail
  go_ret
  exact ⟨rfl, rfl⟩
theorem formError_i (w : World) : Calls Tryz.prog 27 #[.string ⟨#[105]⟩] w fun e w' => e = .returned (.int .i64 0) ∧ w = w' := by
  go_enter Tryz.func27, Tryz.ntmps27
  go_wp2_with fail
  go_ret
  exact ⟨rfl, rfl⟩

theorem text_a (N : Nat) (hn : N ≤ 1000000000) (w : World) :
    Calls Tryz.prog 29 #[.int .i64 N, .string ⟨#[97]⟩] w fun e w' => e = .returned (.string (letS N)) ∧ w = w' := by
  have HL := Lib.hid (letters_any N hn)
  go_enter Tryz.func29, Tryz.ntmps29
  go_wp2_with fail
  refine (HL.out _).mono ?_
  rintro e w1 ⟨rfl, rfl⟩
  go_wp2_with fail
  go_ret
  exact ⟨rfl, rfl⟩

theorem write_a (N : Nat) (hn : N ≤ 1000000000) (w : World) :
    Calls Tryz.prog 10 #[.int .i64 N, .string ⟨#[97]⟩] w fun e w' => e = .returned (.tuple #[.string (letS N), .int .i64 0]) ∧ w = w' := by
  have HT := Lib.hid (text_a N hn)
  have hr : rangeErr N = 0 := if_pos ⟨by omega, by omega⟩
  have HR := Lib.hid (rangeError_any N)
  rw [hr] at HR
  clear hr
  go_enter Tryz.func10, Tryz.ntmps10
  go_wp2_with fail
  refine (formError_a _).mono ?_
  rintro e w1 ⟨rfl, rfl⟩
  go_wp2_with fail
  refine (HR.out _).mono ?_
  rintro e w1 ⟨rfl, rfl⟩
  go_wp2_with fail
  refine (HT.out _).mono ?_
  rintro e w1 ⟨rfl, rfl⟩
  go_wp2_with fail
  go_ret2
  exact ⟨rfl, rfl⟩

theorem letS_28 : letS 28 = ⟨#[97, 98]⟩ := by
  unfold letS
  rw [if_neg (by omega)]
  rw [lets_pos (by omega), lets_pos (by omega), show (((28 - 1) / 26 - 1) / 26) = 0 from rfl, lets_zero]
  rfl

theorem sane_any (w : World) : Calls Tryz.prog 4 #[] w fun e w' => e = .returned (.bool true) ∧ w = w' := by
  have HW := Lib.hid (write_a 28 (by omega))
  rw [letS_28] at HW
  go_enter Tryz.func4, Tryz.ntmps4
  go_wp2_with fail
  refine (HW.out _).mono ?_
  rintro e w1 ⟨rfl, rfl⟩
  go_wp2_with fail
  go_ret
  exact ⟨rfl, rfl⟩
end Go.Proofs.YtopgbbkndkincaaGreatDoor
