/- The law's and the reference's Digits: a number from 0 on, written. -/
import Derived.Test.YtkkcoajgpdpfkabDoorProg
import Derived.Test.YtkkcoajgpdpfkabDoorMsModel
import Derived.WalkKit
import Derived.WalkSpells
import Derived.WalkLawsBesides
import Derived.Handy
import Derived.Lib.Hide
import Derived.Lib.Strings
namespace Go.Proofs.YtkkcoajgpdpfkabDoor
open Go.RowKit Go.PlainAid

/-- A string of one byte. -/
def chr (m : Int) : ByteArray := ⟨#[UInt8.ofNat m.toNat]⟩
theorem chr_size (m : Int) : (chr m).size = 1 := rfl
theorem chr_bt {m : Int} (h0 : 0 ≤ m) (h1 : m ≤ 255) : bt (chr m) 0 = m := by
  unfold bt
  rw [dif_pos (by rw [chr_size]; omega)]
  show ((UInt8.ofNat m.toNat).toNat : Int) = m
  rw [UInt8.toNat_ofNat', Nat.mod_eq_of_lt (by omega)]; omega

theorem one_string (m : Int) (h0 : 0 ≤ m) (h1 : m ≤ 255) (W : World) :
    (convert 57 9 (.slice (some ⟨W.heap.size, 0, none⟩) 1 1)).run Tryd.prog (W.alloc (.cells #[.int .u8 m] 5)) = .ok (.string (chr m)) (W.alloc (.cells #[.int .u8 m] 5)) := by
  refine run_convert_bytes_back (P := Tryd.prog) _ 57 9 5 ⟨W.heap.size, 0, none⟩ 1 [UInt8.ofNat m.toNat] Tryd.underlying57 Tryd.underlying5 Tryd.underlying9 ?_
  intro j hj
  obtain rfl : j = 0 := by simp at hj; omega
  simp [go_sem, Addr.add]
  omega

theorem bt_left (a d : ByteArray) {k : Nat} (h : k < a.size) : bt (a ++ d) k = bt a k := by
  have h2 : k < (a ++ d).size := by rw [ByteArray.size_append]; omega
  unfold bt
  rw [dif_pos h, dif_pos h2, ByteArray.getElem_append_left h]
theorem bt_right (a d : ByteArray) (k : Nat) : bt (a ++ d) (a.size + k) = bt d k := by
  unfold bt
  by_cases h : k < d.size
  · rw [dif_pos h, dif_pos (by rw [ByteArray.size_append]; omega), ByteArray.getElem_append_right (by omega)]
    simp
  · rw [dif_neg h, dif_neg (by rw [ByteArray.size_append]; omega)]

theorem dVal_cons (c : Int) (h0 : 0 ≤ c) (h1 : c ≤ 255) (D : ByteArray) (k : Nat) : Ms.dVal (chr c ++ D) 0 (k + 1) = (c - 48) * Ms.tenTo k + Ms.dVal D 0 k := by
  induction k with
  | zero =>
    simp only [Ms.dVal, Ms.tenTo]
    rw [bt_left _ _ (by rw [chr_size]; omega), chr_bt h0 h1]; omega
  | succ k ih =>
    rw [Ms.dVal, ih, Ms.dVal, Ms.tenTo, show 0 + (k + 1) = (chr c).size + k from by rw [chr_size]; omega, bt_right, Nat.zero_add]
    rw [Int.add_mul, Int.mul_assoc]; omega

/-- A string of digits that says n. -/
structure Says (D : ByteArray) (n : Nat) : Prop where
  dig : ∀ j, j < D.size → Ms.digB (bt D j) = true
  pos : 0 < D.size
  le : D.size ≤ 9
  val : Ms.dVal D 0 D.size = n

structure Going (N m : Nat) (D : ByteArray) : Prop where
  dig : ∀ j, j < D.size → Ms.digB (bt D j) = true
  pos : 0 < D.size
  rest : ∃ (k T r : Nat), D.size = k + 1 ∧ Ms.tenTo k = T ∧ N = m * T + r ∧ r < T ∧ Ms.dVal D 0 D.size = (m % 10 : Nat) * T + r

theorem going_first (N : Nat) : Going N N (chr (48 + (N : Int) % 10)) := by
  have hb : bt (chr (48 + (N : Int) % 10)) 0 = 48 + (N : Int) % 10 := chr_bt (by omega) (by omega)
  refine ⟨fun j hj => ?_, by rw [chr_size]; omega, 0, 1, 0, rfl, rfl, by omega, by omega, ?_⟩
  · rw [chr_size] at hj
    obtain rfl : j = 0 := by omega
    rw [hb]; simp [Ms.digB]; omega
  · rw [chr_size]; simp only [Ms.dVal]; rw [Nat.zero_add, hb]; omega
theorem going_next {N m : Nat} {D : ByteArray} (h : Going N m D) : Going N (m / 10) (chr (48 + ((m : Int) / 10) % 10) ++ D) := by
  obtain ⟨hd, hp, k, T, r, hk, hT, hN, hr, hv⟩ := h
  have hb : bt (chr (48 + ((m : Int) / 10) % 10)) 0 = 48 + ((m : Int) / 10) % 10 := chr_bt (by omega) (by omega)
  refine ⟨fun j hj => ?_, by rw [ByteArray.size_append]; omega, k + 1, T * 10, m % 10 * T + r, by rw [ByteArray.size_append, chr_size]; omega, by rw [Ms.tenTo, hT]; simp, ?_, ?_, ?_⟩
  · rw [ByteArray.size_append, chr_size] at hj
    by_cases h0 : j = 0
    · subst h0
      rw [bt_left _ _ (by rw [chr_size]; omega), hb]; simp [Ms.digB]; omega
    · obtain ⟨i, rfl⟩ : ∃ i, j = (chr (48 + ((m : Int) / 10) % 10)).size + i := ⟨j - 1, by rw [chr_size]; omega⟩
      rw [bt_right]; rw [chr_size] at hj; exact hd i (by omega)
  · have : m = m / 10 * 10 + m % 10 := by omega
    have h2 : m * T = (m / 10 * 10 + m % 10) * T := by rw [← this]
    rw [hN, h2, Nat.add_mul, Nat.mul_assoc, Nat.mul_comm 10 T]; omega
  · have : m % 10 * T ≤ 9 * T := Nat.mul_le_mul_right T (by omega)
    omega
  · rw [ByteArray.size_append, chr_size, Nat.add_comm, dVal_cons _ (by omega) (by omega), hv, hk, Ms.tenTo, hT]
    have e1 : ((m % 10 * T + r : Nat) : Int) = ((m % 10 : Nat) : Int) * T + r := by push_cast; rfl
    have e2 : (48 + ((m : Int) / 10) % 10 - 48) = ((m / 10 % 10 : Nat) : Int) := by omega
    have e3 : ((T * 10 : Nat) : Int) = (T : Int) * 10 := by push_cast; rfl
    rw [e1, e2, e3]
theorem going_says {N m : Nat} {D : ByteArray} (h : Going N m D) (hm : m ≤ 9) (h9 : D.size ≤ 9) : Says D N := by
  obtain ⟨hd, hp, k, T, r, hk, hT, hN, hr, hv⟩ := h
  exact ⟨hd, hp, h9, by rw [hv, hN, Nat.mod_eq_of_lt (by omega)]; simp⟩
theorem going_small {N m : Nat} {D : ByteArray} (h : Going N m D) (hN : N < 1000000000) (hm : 9 < m) : D.size ≤ 8 := by
  obtain ⟨hd, hp, k, T, r, hk, hT, hN', hr, hv⟩ := h
  rcases Nat.lt_or_ge k 8 with h | h
  · omega
  · exfalso
    have h8 := Ms.tenTo_mono h
    rw [hT, show Ms.tenTo 8 = 100000000 from by decide] at h8
    have : 10 * T ≤ m * T := Nat.mul_le_mul_right T (by omega)
    omega

def SaysStr (N : Nat) (w : World) (e : Ending) (w' : World) : Prop := ∃ D : ByteArray, e = .returned (.string D) ∧ Says D N ∧ Below w.heap.size w w'

set_option maxRecDepth 100000 in
set_option maxHeartbeats 1000000 in
theorem digits_of (N : Nat) (hn : N < 1000000000) (w : World) :
    Calls Tryd.prog 19 #[.int .i64 N] w (SaysStr N w) := by
  have hcv := fun W => one_string (48 + (N : Int) % 10) (by omega) (by omega) W
  go_enter Tryd.func19, Tryd.ntmps19
  go_wp2_with fail
  go_loopw [0, 3] (fun i v wr => ∃ (m : Nat) (D : ByteArray), i = .int .i64 m ∧ v = .string D ∧ m ≤ N ∧ Hid (Going N m D) ∧ D.size ≤ 9 ∧ Below w.heap.size w wr) (fun i _ _ => (intOf i).toNat)
  case atStart => exact ⟨N, _, rfl, rfl, Nat.le_refl _, going_first N, by rw [chr_size]; omega, (Below.refl _ _).alloc (Nat.le_refl _) _⟩
  case round =>
    obtain ⟨m, D, rfl, rfl, hmn, hg, h9, hb⟩ := hrel
    clear hcv
    by_cases hm : 9 < m
    · have hcv := fun W => one_string (48 + ((m : Int) / 10) % 10) (by omega) (by omega) W
      have hs8 := going_small hg.out hn hm
      have hz := chr_size (48 + ((m : Int) / 10) % 10)
      go_wp2_with fail
      go_roundw
      case rel => exact ⟨m / 10, _, by go_num, rfl, by omega, going_next hg.out, by rw [ByteArray.size_append, chr_size]; omega, hb.alloc hb.size _⟩
      case measure => simp only [intOf]; omega
    · go_wp2_with fail
      go_ret
      exact ⟨D, rfl, going_says hg.out (by omega) h9, hb⟩
end Go.Proofs.YtkkcoajgpdpfkabDoor
