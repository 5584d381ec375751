/- The document's Write by digits; below 0; and refused. -/
import Derived.Test.YtopgbbkndkincaaGreatDoorRwWrite
namespace Go.Proofs.YtopgbbkndkincaaGreatDoor
open Go.RowKit Go.PlainAid Go.Shelf

theorem zeros_zero (D : ByteArray) : zeros 0 D = D := ba_ext (by simp [zeros, Lib.repeatL])
theorem zeros_next (k : Nat) (D : ByteArray) : (⟨#[48]⟩ : ByteArray) ++ zeros k D = zeros (k + 1) D := by
  refine ba_ext ?_
  rw [ByteArray.data_append, Array.toList_append]
  rfl
theorem zeros_size (k : Nat) (D : ByteArray) : (zeros k D).size = k + D.size := by
  rw [Lib.size_eq, Lib.size_eq]
  show (Lib.repeatL [48] k ++ D.data.toList).length = _
  rw [List.length_append, Lib.repeatL_length]; simp

/-- A format of digits. -/
structure DigForm (F : ByteArray) : Prop where
  form : formB F = true
  lets : letB F = false
  pos : 0 < F.size
  le : F.size ≤ 9
  first : 48 ≤ bt F 0 ∧ bt F 0 ≤ 57
theorem dig_form {F : ByteArray} (h : formB F = true) (hl : letB F = false) : DigForm F := by
  have h2 := h
  unfold formB at h2
  rw [hl, Bool.false_or] at h2
  simp only [Bool.and_eq_true, decide_eq_true_eq] at h2
  obtain ⟨⟨h0, h9⟩, ha⟩ := h2
  refine ⟨h, hl, h0, h9, ?_⟩
  have hm := List.all_eq_true.1 ha (F.data.toList[0]'(by rw [← Lib.size_eq]; exact h0)) (List.getElem_mem _)
  rw [dig_iff] at hm
  rw [bt_get h0]
  simp only [Bool.and_eq_true, decide_eq_true_eq] at hm
  omega

set_option maxRecDepth 100000 in
set_option maxHeartbeats 1000000 in
theorem rw_dig (N : Nat) (F : ByteArray) (h2 : N ≤ 1000000000) (hF : DigForm F) (w : World) : Calls Tryz.prog 59 #[.int .i64 N, .string F] w (WrP (zeros (F.size - (decS N).size) (decS N)) w) := by
  have hp := hF.pos
  have h9 := hF.le
  obtain ⟨f0, f1⟩ := hF.first
  obtain ⟨q0, q1, q2, q3⟩ := no_let hF.lets
  have HF := Lib.hid (risForm_any F (by omega))
  rw [hF.form] at HF
  have HT := Lib.hid (rfits_any N)
  rw [show fitB N = true from by simp [fitB]; omega] at HT
  have HD := Lib.hid (digits_any N (by omega))
  have hD := decS_le h2
  have hD1 : 0 < (decS N).size := by
    rw [Lib.size_eq, decS_list, Lib.decDigits_length]
    exact Lib.nDigits_pos N
  obtain ⟨D, hDD⟩ : ∃ D, decS N = D := ⟨_, rfl⟩
  rw [hDD] at HD hD hD1 ⊢
  have hgb := get_bt F
  clear hDD hF
  go_enter Tryz.func59, Tryz.ntmps59
  go_wp2_with fail
  refine (HF.out _).mono ?_
  rintro e w1 ⟨rfl, rfl⟩
  go_wp2_with fail
  refine (HT.out _).mono ?_
  rintro e w1 ⟨rfl, rfl⟩
  go_wp2_with fail
  refine (HD.out _).mono ?_
  rintro e v0 ⟨rfl, b0⟩
  go_wp2_with fail
  go_loop [8] (fun x => ∃ k : Nat, k ≤ F.size - D.size ∧ x = .string (zeros k D)) (fun x => F.size - (match x with | .string S => S.size | _ => 0))
  case atStart => exact ⟨0, Nat.zero_le _, by rw [zeros_zero]⟩
  case round =>
    obtain ⟨k, hk, rfl⟩ := hrel
    have hz := zeros_size k D
    by_cases hlt : k < F.size - D.size
    · have hn := zeros_next k D
      have hz1 := zeros_size (k + 1) D
      go_wp2_with fail
      go_round
      case rel => exact ⟨k + 1, by omega, rfl⟩
      case measure =>
        show F.size - (zeros (k + 1) D).size < F.size - (zeros k D).size
        omega
    · obtain rfl : k = F.size - D.size := by omega
      by_cases h1 : 1 < F.size
      all_goals
        go_wp2_with fail
        go_ret2
        exact ⟨rfl, b0⟩

theorem rw_any (N : Nat) (F : ByteArray) (h2 : N ≤ 1000000000) (hF : formB F = true) (w : World) : Calls Tryz.prog 59 #[.int .i64 N, .string F] w (WrP (wTxt N F) w) := by
  unfold wTxt
  have lit : ∀ {c : UInt8}, (F.toList == [c]) = true → F = ⟨#[c]⟩ := fun {c} h => ba_ext (by rw [← Lib.toList_data]; exact beq_iff_eq.1 h)
  by_cases h0 : (F.toList == [105]) = true
  · rw [if_pos h0, lit h0]
    by_cases hz : N = 0
    · subst hz; rw [romS_zero]; exact rw_i_zero w
    · by_cases hb : N ≤ 39999
      · exact rw_i_small N (by omega) hb w
      · exact rw_i_big N (by omega) h2 w
  rw [if_neg h0]
  by_cases h1 : (F.toList == [73]) = true
  · rw [if_pos h1, lit h1]
    by_cases hz : N = 0
    · subst hz; rw [romS_zero]; exact rw_I_zero w
    · by_cases hb : N ≤ 39999
      · exact rw_I_small N (by omega) hb w
      · exact rw_I_big N (by omega) h2 w
  rw [if_neg h1]
  by_cases h3 : (F.toList == [97]) = true
  · rw [if_pos h3, lit h3]
    by_cases hz : N = 0
    · subst hz; rw [letS_zero]; exact rw_a_zero w
    · exact rw_a_pos N (by omega) h2 w
  rw [if_neg h3]
  by_cases h4 : (F.toList == [65]) = true
  · rw [if_pos h4, lit h4]
    by_cases hz : N = 0
    · subst hz; rw [letS_zero]; exact rw_A_zero w
    · exact rw_A_pos N (by omega) h2 w
  rw [if_neg h4]
  exact rw_dig N F h2 (dig_form hF (by unfold letB; simp only [Bool.or_eq_false_iff]; exact ⟨⟨⟨Bool.not_eq_true _ ▸ h0, Bool.not_eq_true _ ▸ h1⟩, Bool.not_eq_true _ ▸ h3⟩, Bool.not_eq_true _ ▸ h4⟩)) w

/-- What Write answers: a text, or a refusal. -/
def wrS (n : Int) (F : ByteArray) : ByteArray := if formB F = false then ⟨#[]⟩ else if fitB n = false then ⟨#[]⟩ else if n < 0 then ⟨#[45]⟩ ++ wTxt n.natAbs F else wTxt n.toNat F
def wrE (n : Int) (F : ByteArray) : Int := if formB F = false then 4 else if fitB n = false then 5 else 0
theorem wr_form {n : Int} {F : ByteArray} (h : formB F = false) : wrS n F = ⟨#[]⟩ ∧ wrE n F = 4 := by unfold wrS wrE; rw [if_pos h, if_pos h]; exact ⟨rfl, rfl⟩
theorem wr_fit {n : Int} {F : ByteArray} (h : formB F = true) (ht : fitB n = false) : wrS n F = ⟨#[]⟩ ∧ wrE n F = 5 := by
  have h' : ¬ formB F = false := by rw [h]; simp
  unfold wrS wrE; rw [if_neg h', if_neg h', if_pos ht, if_pos ht]; exact ⟨rfl, rfl⟩
theorem wr_neg {n : Int} {F : ByteArray} (h : formB F = true) (ht : fitB n = true) (hn : n < 0) : wrS n F = ⟨#[45]⟩ ++ wTxt n.natAbs F ∧ wrE n F = 0 := by
  have h' : ¬ formB F = false := by rw [h]; simp
  have ht' : ¬ fitB n = false := by rw [ht]; simp
  unfold wrS wrE; rw [if_neg h', if_neg h', if_neg ht', if_neg ht', if_pos hn]; exact ⟨rfl, rfl⟩
theorem wr_pos {n : Int} {F : ByteArray} (h : formB F = true) (ht : fitB n = true) (hn : ¬ n < 0) : wrS n F = wTxt n.toNat F ∧ wrE n F = 0 := by
  have h' : ¬ formB F = false := by rw [h]; simp
  have ht' : ¬ fitB n = false := by rw [ht]; simp
  unfold wrS wrE; rw [if_neg h', if_neg h', if_neg ht', if_neg ht', if_neg hn]; exact ⟨rfl, rfl⟩
abbrev WriteP (n : Int) (F : ByteArray) (w : World) (e : Ending) (w' : World) : Prop := e = .returned (.tuple #[.string (wrS n F), .int .i64 (wrE n F)]) ∧ Below w.heap.size w w'
theorem wTxt_le {N : Nat} {F : ByteArray} (h : N ≤ 1000000000) (hF : F.size ≤ 100) : (wTxt N F).size ≤ 1000000200 := by
  have h1 := romS_le h
  have h2 := letS_le h
  have h3 := decS_le h
  unfold wTxt
  repeat' split
  · omega
  · rw [upS_size]; omega
  · omega
  · rw [upS_size]; omega
  · rw [zeros_size]; omega

set_option maxRecDepth 100000 in
set_option maxHeartbeats 1000000 in
theorem rwrite_any (n : Int) (F : ByteArray) (hF9 : F.size ≤ 100) (w : World) : Calls Tryz.prog 59 #[.int .i64 n, .string F] w (WriteP n F w) := by
  unfold WriteP
  have HF := Lib.hid (risForm_any F (by omega))
  have HT := Lib.hid (rfits_any n)
  cases hf : formB F with
  | false =>
    rw [hf] at HF
    rw [(wr_form hf).1, (wr_form hf).2]
    clear hf
    go_enter Tryz.func59, Tryz.ntmps59
    go_wp2_with fail
    refine (HF.out _).mono ?_
    rintro e w1 ⟨rfl, rfl⟩
    go_wp2_with fail
    go_ret2
    exact ⟨rfl, Below.refl _ _⟩
  | true =>
    rw [hf] at HF
    cases ht : fitB n with
    | false =>
      rw [ht] at HT
      rw [(wr_fit hf ht).1, (wr_fit hf ht).2]
      clear hf ht
      go_enter Tryz.func59, Tryz.ntmps59
      go_wp2_with fail
      refine (HF.out _).mono ?_
      rintro e w1 ⟨rfl, rfl⟩
      go_wp2_with fail
      refine (HT.out _).mono ?_
      rintro e w1 ⟨rfl, rfl⟩
      go_wp2_with fail
      go_ret2
      exact ⟨rfl, Below.refl _ _⟩
    | true =>
      rw [ht] at HT
      have ht0 := ht
      simp only [fitB, Bool.and_eq_true, decide_eq_true_eq] at ht
      by_cases hn : n < 0
      · rw [(wr_neg hf ht0 hn).1, (wr_neg hf ht0 hn).2]
        clear ht0
        obtain ⟨N, hN⟩ : ∃ N, n.natAbs = N := ⟨_, rfl⟩
        have hneg : -n = (N : Int) := by omega
        have hN2 : N ≤ 1000000000 := by omega
        have HW := Lib.hid (rw_any N F hN2 hf)
        have hle := wTxt_le (F := F) hN2 hF9
        rw [hN]
        obtain ⟨S, hS⟩ : ∃ S, wTxt N F = S := ⟨_, rfl⟩
        rw [hS] at HW hle ⊢
        clear hf hN hS
        go_enter Tryz.func59, Tryz.ntmps59
        go_wp2_with fail
        refine (HF.out _).mono ?_
        rintro e w1 ⟨rfl, rfl⟩
        go_wp2_with fail
        refine (HT.out _).mono ?_
        rintro e w1 ⟨rfl, rfl⟩
        go_wp2_with fail
        refine (HW.out _).mono ?_
        rintro e w1 ⟨rfl, b1⟩
        go_wp2_with fail
        go_ret2
        exact ⟨rfl, b1⟩
      · rw [(wr_pos hf ht0 hn).1, (wr_pos hf ht0 hn).2]
        obtain ⟨N, rfl⟩ : ∃ N : Nat, n = N := ⟨n.toNat, by omega⟩
        exact rw_any N F (by omega) hf w
end Go.Proofs.YtopgbbkndkincaaGreatDoor
