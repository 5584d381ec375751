/- The document's fits, IsForm and letters. -/
import Derived.Test.YtopgbbkndkincaaGreatDoorRgForm
namespace Go.Proofs.YtopgbbkndkincaaGreatDoor
open Go.RowKit Go.PlainAid Go.Shelf

def fitB (n : Int) : Bool := decide (-1000000000 ≤ n) && decide (n ≤ 1000000000)
theorem rfits_any (n : Int) (w : World) : Calls Tryz.prog 33 #[.int .i64 n] w fun e w' => e = .returned (.bool (fitB n)) ∧ w = w' := by
  unfold fitB
  by_cases h3 : -1000000000 ≤ n
  case' pos => by_cases h4 : n ≤ 1000000000
  all_goals
    go_enter Tryz.func33, Tryz.ntmps33
    go_wp2
    go_ret
    exact ⟨by first | (simp [*]; done) | (simp [*]; omega), rfl⟩

theorem dig_iff (c : UInt8) : digL.contains c = (decide (48 ≤ c.toNat) && decide (c.toNat ≤ 57)) := by
  have h : ∀ k : Fin 256, digL.contains (UInt8.ofNat k.val) = (decide (48 ≤ (UInt8.ofNat k.val).toNat) && decide ((UInt8.ofNat k.val).toNat ≤ 57)) := by decide +kernel
  have := h ⟨c.toNat, UInt8.toNat_lt c⟩
  rw [UInt8.ofNat_toNat] at this
  exact this
def dgB (c : Int) : Bool := decide (48 ≤ c) && decide (c ≤ 57)
theorem all_dig {s : ByteArray} (h : ∀ j, j < s.size → dgB (bt s j) = true) : s.data.toList.all (digL.contains ·) = true := by
  rw [List.all_eq_true]
  intro x hx
  obtain ⟨j, hj, rfl⟩ := List.getElem_of_mem hx
  rw [dig_iff]
  have hj' : j < s.size := by rw [Lib.size_eq]; exact hj
  have := h j hj'
  rw [bt_get hj'] at this
  simp only [dgB, Bool.and_eq_true, decide_eq_true_eq] at this ⊢
  omega
theorem not_dig {s : ByteArray} {j : Nat} (hj : j < s.size) (h : dgB (bt s j) = false) : s.data.toList.all (digL.contains ·) = false := by
  cases ha : s.data.toList.all (digL.contains ·) with
  | false => rfl
  | true =>
    have hm := List.all_eq_true.1 ha (s.data.toList[j]'(by rw [← Lib.size_eq]; exact hj)) (List.getElem_mem _)
    rw [dig_iff] at hm
    rw [bt_get hj] at h
    simp only [dgB] at h
    simp only [Bool.and_eq_true, decide_eq_true_eq] at hm
    simp only [Bool.and_eq_false_iff, decide_eq_false_iff_not] at h
    omega

theorem bool_end {p q : Prop} [Decidable p] [Decidable q] (h : p ↔ q) : Ending.returned (.bool (decide p)) = Ending.returned (.bool (decide q)) := by rw [decide_eq_decide.2 h]
abbrev BoolP (b : Bool) (w : World) (e : Ending) (w' : World) : Prop := e = .returned (.bool b) ∧ w = w'
theorem risForm_let (s : ByteArray) (h : letB s = true) (w : World) : Calls Tryz.prog 38 #[.string s] w (BoolP (formB s) w) := by
  have hf : formB s = true := by unfold formB; rw [h]; rfl
  rw [hf]
  unfold letB at h
  cases h0 : (s.toList == [105])
  case' false =>
    cases h1 : (s.toList == [73])
    case' false =>
      cases h2 : (s.toList == [97])
      case' false =>
        have h3 : (s.toList == [65]) = true := by simpa [h0, h1, h2] using h
  all_goals
    clear h hf
    go_enter Tryz.func38, Tryz.ntmps38
    go_wp2_with fail
    go_ret
    exact ⟨rfl, rfl⟩

set_option maxRecDepth 100000 in
set_option maxHeartbeats 1000000 in
theorem risForm_any (s : ByteArray) (hs : s.size ≤ 9223372036854775807) (w : World) : Calls Tryz.prog 38 #[.string s] w (BoolP (formB s) w) := by
  cases hl : letB s with
  | true => exact risForm_let s hl w
  | false =>
    obtain ⟨q0, q1, q2, q3⟩ := no_let hl
    have HL := Lib.hid hl
    clear hl
    go_enter Tryz.func38, Tryz.ntmps38
    go_wp2_with fail
    go_loop [3] (fun i => ∃ k : Nat, k ≤ s.size ∧ i = .int .i64 k ∧ Hid (∀ j, j < k → dgB (bt s j) = true)) (fun i => s.size - (intOf i).toNat)
    case atStart => exact ⟨0, Nat.zero_le _, rfl, fun j hj => absurd hj (Nat.not_lt_zero _)⟩
    case round =>
      obtain ⟨k, hk, rfl, hd⟩ := hrel
      have hgb := get_bt s
      by_cases hlt : k < s.size
      · by_cases h1 : bt s k < 48
        · have hf : formB s = false := by
            unfold formB
            rw [HL.out, not_dig hlt (by simp [dgB]; omega)]; simp
          have HF := Lib.hid hf
          clear hf
          go_wp2_with fail
          go_ret
          exact ⟨by rw [HF.out]; rfl, rfl⟩
        · by_cases h2 : 57 < bt s k
          · have hf : formB s = false := by
              unfold formB
              rw [HL.out, not_dig hlt (by simp [dgB]; omega)]; simp
            have HF := Lib.hid hf
            clear hf
            go_wp2_with fail
            go_ret
            exact ⟨by rw [HF.out]; rfl, rfl⟩
          · have hnx : Hid (∀ j, j < k + 1 → dgB (bt s j) = true) := fun j hj => by
              rcases Nat.lt_or_ge j k with h | h
              · exact hd.out j h
              · obtain rfl : j = k := by omega
                simp [dgB]; omega
            clear hd
            go_wp2_with fail
            go_round
            case rel => exact ⟨k + 1, by omega, by go_num, hnx⟩
            case measure => simp only [intOf]; omega
      · obtain rfl : k = s.size := by omega
        have ha := all_dig hd.out
        have hf : formB s = (decide (0 < s.size) && decide (s.size ≤ 9)) := by
          unfold formB
          rw [HL.out, ha]; simp
        have HF := Lib.hid hf
        clear hf ha hd
        by_cases h1 : 0 < s.size
        case' pos => by_cases h9 : s.size ≤ 9
        all_goals
          go_wp2_with fail
          go_ret
          exact ⟨by rw [HF.out]; first | (rw [decide_eq_false h1]; rfl) | (rw [decide_eq_true h1, Bool.true_and]; exact bool_end (by omega)), rfl⟩

set_option maxRecDepth 100000 in
set_option maxHeartbeats 1000000 in
theorem rletters_any (N : Nat) (h0 : 0 < N) (hn : N ≤ 1000000000) (w : World) :
    Calls Tryz.prog 80 #[.int .i64 N] w fun e w' => e = .returned (.string (letS N)) ∧ Below w.heap.size w w' := by
  go_enter Tryz.func80, Tryz.ntmps80
  go_wp2_with fail
  go_loopw [0, 3] (fun i v wr => ∃ (m : Nat) (D : ByteArray), i = .int .i64 m ∧ v = .string D ∧ m ≤ N ∧ Hid (LTail N m D) ∧ D.size ≤ N ∧ Below w.heap.size w wr) (fun i _ _ => (intOf i).toNat)
  case atStart => exact ⟨N, _, rfl, rfl, Nat.le_refl _, (by simp [LTail] : LTail N N ⟨#[]⟩), Nat.zero_le _, Below.refl _ _⟩
  case round =>
    obtain ⟨m, D, rfl, rfl, hmn, hg, h9, hb⟩ := hrel
    by_cases hm : 0 < m
    · have hcv := fun W => one_string (97 + ((m : Int) - 1) % 26) (by omega) (by omega) W
      have ht := ltail_next hg.out hm
      have hs8 := ltail_size ht
      have hz := chr_size (97 + ((m : Int) - 1) % 26)
      have hg' : Hid (LTail N ((m - 1) / 26) (chr (97 + ((m : Int) - 1) % 26) ++ D)) := ht
      clear ht
      go_wp2_with fail
      go_roundw
      case rel => exact ⟨(m - 1) / 26, _, by go_num, rfl, by omega, hg', hs8, hb.alloc hb.size _⟩
      case measure => simp only [intOf]; omega
    · obtain rfl : m = 0 := by omega
      have ht := ltail_last hg.out h0
      have HT := Lib.hid ht
      clear ht hg
      go_wp2_with fail
      go_ret
      exact ⟨by rw [HT.out]; rfl, hb⟩
end Go.Proofs.YtopgbbkndkincaaGreatDoor
