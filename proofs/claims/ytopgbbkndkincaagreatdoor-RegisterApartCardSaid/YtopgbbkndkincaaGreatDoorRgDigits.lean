/- The document's Digits and Decimal. -/
import Derived.Test.YtopgbbkndkincaaGreatDoorRgBase
namespace Go.Proofs.YtopgbbkndkincaaGreatDoor
open Go.RowKit Go.PlainAid

/-- A string of one byte. -/
def chr (m : Int) : ByteArray := ⟨#[UInt8.ofNat m.toNat]⟩
theorem chr_size (m : Int) : (chr m).size = 1 := rfl
theorem one_string (m : Int) (h0 : 0 ≤ m) (h1 : m ≤ 255) (W : World) :
    (convert 89 9 (.slice (some ⟨W.heap.size, 0, none⟩) 1 1)).run Tryz.prog (W.alloc (.cells #[.int .u8 m] 5)) = .ok (.string (chr m)) (W.alloc (.cells #[.int .u8 m] 5)) := by
  refine run_convert_bytes_back (P := Tryz.prog) _ 89 9 5 ⟨W.heap.size, 0, none⟩ 1 [UInt8.ofNat m.toNat] Tryz.underlying89 Tryz.underlying5 Tryz.underlying9 ?_
  intro j hj
  obtain rfl : j = 0 := by simp at hj; omega
  simp [go_sem, Addr.add]
  omega

def decS (N : Nat) : ByteArray := ⟨(Lib.decDigits N).toArray⟩
theorem decS_list (N : Nat) : (decS N).data.toList = Lib.decDigits N := by simp [decS]
theorem ba_ext {a c : ByteArray} (h : a.data.toList = c.data.toList) : a = c := by
  obtain ⟨a⟩ := a; obtain ⟨c⟩ := c
  have h : a.toList = c.toList := h
  rw [Array.toList_inj.1 h]

/-- What stands is the end of the numeral. -/
def Tail (N m : Nat) (D : ByteArray) : Prop := Lib.decDigits N = Lib.decDigits m ++ D.data.toList
theorem tail_size {N m : Nat} {D : ByteArray} (h : Tail N m D) (hN : N < 9223372036854775808) : D.size ≤ 20 := by
  have h1 := dec_size hN
  have h2 := congrArg List.length h
  rw [List.length_append] at h2
  rw [Lib.size_eq]
  omega
theorem tail_next {N m : Nat} {D : ByteArray} (h : Tail N m D) (hm : 9 < m) : Tail N (m / 10) (chr (48 + (m : Int) % 10) ++ D) := by
  unfold Tail at *
  rw [h, dec_big (by omega), List.append_assoc]
  congr 1
theorem tail_last {N m : Nat} {D : ByteArray} (h : Tail N m D) (hm : ¬ 9 < m) : chr (48 + (m : Int)) ++ D = decS N := by
  refine ba_ext ?_
  rw [decS_list, h, dec_one (by omega), ByteArray.data_append, Array.toList_append]
  congr 1

set_option maxRecDepth 100000 in
set_option maxHeartbeats 1000000 in
theorem digits_any (N : Nat) (hn : N < 9223372036854775808) (w : World) :
    Calls Tryz.prog 78 #[.int .i64 N] w fun e w' => e = .returned (.string (decS N)) ∧ Below w.heap.size w w' := by
  go_enter Tryz.func78, Tryz.ntmps78
  go_wp2_with fail
  go_loopw [0, 3] (fun i v wr => ∃ (m : Nat) (D : ByteArray), i = .int .i64 m ∧ v = .string D ∧ m ≤ N ∧ Hid (Tail N m D) ∧ D.size ≤ 20 ∧ Below w.heap.size w wr) (fun i _ _ => (intOf i).toNat)
  case atStart => exact ⟨N, _, rfl, rfl, Nat.le_refl _, (by simp [Tail] : Tail N N ⟨#[]⟩), by decide, Below.refl _ _⟩
  case round =>
    obtain ⟨m, D, rfl, rfl, hmn, hg, h9, hb⟩ := hrel
    by_cases hm : 9 < m
    · have hcv := fun W => one_string (48 + (m : Int) % 10) (by omega) (by omega) W
      have ht := tail_next hg.out hm
      have hs8 := tail_size ht hn
      have hz := chr_size (48 + (m : Int) % 10)
      go_wp2_with fail
      go_roundw
      case rel => exact ⟨m / 10, _, by go_num, rfl, by omega, ht, hs8, hb.alloc hb.size _⟩
      case measure => simp only [intOf]; omega
    · have hcv := fun W => one_string (48 + (m : Int)) (by omega) (by omega) W
      have ht := tail_last hg.out hm
      have hz := chr_size (48 + (m : Int))
      go_wp2_with fail
      go_ret
      exact ⟨rfl, hb.alloc hb.size _⟩

end Go.Proofs.YtopgbbkndkincaaGreatDoor
