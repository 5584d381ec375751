/- Text: the document's. -/
import Derived.Test.YtkkcoajgpdpfkabDoorTxText
namespace Go.Proofs.YtkkcoajgpdpfkabDoor
open Go.RowKit Go.PlainAid Go.Shelf

/-- What stands is the end of the numeral, from the last digit of m on. -/
def TailD (N m : Nat) (D : ByteArray) : Prop := if m < 10 then Lib.decDigits N = D.data.toList else Lib.decDigits N = Lib.decDigits (m / 10) ++ D.data.toList
theorem tailD_size {N m : Nat} {D : ByteArray} (h : TailD N m D) (hN : N < 9223372036854775808) : D.size ≤ 20 := by
  unfold TailD at h
  have h1 := dec_size hN
  split at h
  · rw [Lib.size_eq, ← h]; exact h1
  · have h2 := congrArg List.length h
    rw [List.length_append] at h2
    rw [Lib.size_eq]
    omega
theorem tailD_first (N : Nat) : TailD N N (chr (48 + (N : Int) % 10)) := by
  unfold TailD
  have hc : (chr (48 + (N : Int) % 10)).data.toList = [UInt8.ofNat (48 + N % 10)] := by
    show [UInt8.ofNat (48 + (N : Int) % 10).toNat] = _
    rw [show (48 + (N : Int) % 10).toNat = 48 + N % 10 from by omega]
  rw [hc]
  split
  · rename_i h
    rw [dec_one h, Nat.mod_eq_of_lt h]
  · rename_i h
    exact dec_big h
theorem tailD_next {N m : Nat} {D : ByteArray} (h : TailD N m D) (hm : 9 < m) : TailD N (m / 10) (chr (48 + (m : Int) / 10 % 10) ++ D) := by
  unfold TailD at h
  rw [if_neg (by omega)] at h
  unfold TailD
  have hc : (chr (48 + (m : Int) / 10 % 10) ++ D).data.toList = UInt8.ofNat (48 + m / 10 % 10) :: D.data.toList := by
    rw [ByteArray.data_append, Array.toList_append]
    show UInt8.ofNat (48 + (m : Int) / 10 % 10).toNat :: D.data.toList = _
    rw [show (48 + (m : Int) / 10 % 10).toNat = 48 + m / 10 % 10 from by omega]
  rw [show (48 + (m : Int) / 10 % 10) = 48 + (m : Int) / 10 % 10 from rfl, hc]
  split
  · rename_i h10
    rw [h, dec_one h10, Nat.mod_eq_of_lt h10]; rfl
  · rename_i h10
    rw [h, dec_big h10, List.append_assoc]; rfl
theorem tailD_last {N m : Nat} {D : ByteArray} (h : TailD N m D) (hm : ¬ 9 < m) : D = decS N := by
  unfold TailD at h
  rw [if_pos (by omega)] at h
  refine ba_ext ?_
  rw [decS_list, h]

set_option maxRecDepth 100000 in
set_option maxHeartbeats 1000000 in
theorem rdigits_any (N : Nat) (hn : N < 9223372036854775808) (w : World) : Calls Tryd.prog 19 #[.int .i64 N] w (StrIs (decS N) w) := by
  have hcv := fun W => one_string (48 + (N : Int) % 10) (by omega) (by omega) W
  go_enter Tryd.func19, Tryd.ntmps19
  go_wp2_with fail
  go_loopw [0, 3] (fun i v wr => ∃ (m : Nat) (D : ByteArray), i = .int .i64 m ∧ v = .string D ∧ m ≤ N ∧ Hid (TailD N m D) ∧ D.size ≤ 20 ∧ Below w.heap.size w wr) (fun i _ _ => (intOf i).toNat)
  case atStart => exact ⟨N, _, rfl, rfl, Nat.le_refl _, tailD_first N, by rw [chr_size]; omega, (Below.refl _ _).alloc (Nat.le_refl _) _⟩
  case round =>
    obtain ⟨m, D, rfl, rfl, hmn, hg, h9, hb⟩ := hrel
    clear hcv
    by_cases hm : 9 < m
    · have hcv := fun W => one_string (48 + ((m : Int) / 10) % 10) (by omega) (by omega) W
      have ht := tailD_next hg.out hm
      have hs8 := tailD_size ht hn
      have HT := Lib.hid ht
      clear ht hg
      have hz := chr_size (48 + ((m : Int) / 10) % 10)
      go_wp2_with fail
      go_roundw
      case rel => exact ⟨m / 10, _, by go_num, rfl, by omega, HT, hs8, hb.alloc hb.size _⟩
      case measure => simp only [intOf]; omega
    · have ht := tailD_last hg.out hm
      have HT := Lib.hid ht
      clear ht hg
      go_wp2_with fail
      go_ret
      exact ⟨by rw [HT.out]; rfl, hb⟩
end Go.Proofs.YtkkcoajgpdpfkabDoor
