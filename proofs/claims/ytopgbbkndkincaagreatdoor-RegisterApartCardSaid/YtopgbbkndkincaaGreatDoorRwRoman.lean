/- The document's roman. -/
import Derived.Test.YtopgbbkndkincaaGreatDoorRwGreat
import Derived.Test.YtopgbbkndkincaaGreatDoorRgRoman
namespace Go.Proofs.YtopgbbkndkincaaGreatDoor
open Go.RowKit Go.PlainAid Go.Shelf

theorem rom_step {v m : Nat} {t : List UInt8} {r : List (Nat × List UInt8)} (hv : 0 < v) (h : v ≤ m) : romL ((v, t) :: r) m = t ++ romL ((v, t) :: r) (m - v) := by
  show Lib.repeatL t (m / v) ++ romL r (m % v) = t ++ (Lib.repeatL t ((m - v) / v) ++ romL r ((m - v) % v))
  rw [Nat.div_eq_sub_div hv h, Nat.mod_eq_sub_mod h]
  show (t ++ Lib.repeatL t ((m - v) / v)) ++ _ = _
  rw [List.append_assoc]
theorem rom_skip {v m : Nat} {t : List UInt8} {r : List (Nat × List UInt8)} (h : m < v) : romL ((v, t) :: r) m = romL r m := by
  show Lib.repeatL t (m / v) ++ romL r (m % v) = _
  rw [Nat.div_eq_of_lt h, Nat.mod_eq_of_lt h]
  rfl

def romInts : Array Value := #[.int .i64 1000, .int .i64 900, .int .i64 500, .int .i64 400, .int .i64 100, .int .i64 90, .int .i64 50, .int .i64 40, .int .i64 10, .int .i64 9, .int .i64 5, .int .i64 4, .int .i64 1]
def romStrs : Array Value := #[.string ⟨#[109]⟩, .string ⟨#[99, 109]⟩, .string ⟨#[100]⟩, .string ⟨#[99, 100]⟩, .string ⟨#[99]⟩, .string ⟨#[120, 99]⟩, .string ⟨#[108]⟩, .string ⟨#[120, 108]⟩, .string ⟨#[120]⟩, .string ⟨#[105, 120]⟩, .string ⟨#[118]⟩, .string ⟨#[105, 118]⟩, .string ⟨#[105]⟩]
abbrev romW (w : World) : World := (w.alloc (.cells romInts 3)).alloc (.cells romStrs 9)
set_option maxRecDepth 100000 in
set_option maxHeartbeats 1000000 in
theorem rom_cells (w : World) {k : Nat} (h : k < 13) : ∃ v T, NumOf k v T ∧ (romW w).cell? ⟨w.heap.size, k, none⟩ = some (.int .i64 v) ∧ (romW w).cell? ⟨w.heap.size + 1, k, none⟩ = some (.string T) := by
  have hk : k = 0 ∨ k = 1 ∨ k = 2 ∨ k = 3 ∨ k = 4 ∨ k = 5 ∨ k = 6 ∨ k = 7 ∨ k = 8 ∨ k = 9 ∨ k = 10 ∨ k = 11 ∨ k = 12 := by omega
  rcases hk with rfl | rfl | rfl | rfl | rfl | rfl | rfl | rfl | rfl | rfl | rfl | rfl | rfl
  · exact ⟨1000, ⟨#[109]⟩, ⟨by decide, by decide, by decide, by decide, rfl, fun _ => rfl⟩, by simp [go_sem, romInts], by simp [go_sem, romStrs]⟩
  · exact ⟨900, ⟨#[99, 109]⟩, ⟨by decide, by decide, by decide, by decide, rfl, fun _ => rfl⟩, by simp [go_sem, romInts], by simp [go_sem, romStrs]⟩
  · exact ⟨500, ⟨#[100]⟩, ⟨by decide, by decide, by decide, by decide, rfl, fun _ => rfl⟩, by simp [go_sem, romInts], by simp [go_sem, romStrs]⟩
  · exact ⟨400, ⟨#[99, 100]⟩, ⟨by decide, by decide, by decide, by decide, rfl, fun _ => rfl⟩, by simp [go_sem, romInts], by simp [go_sem, romStrs]⟩
  · exact ⟨100, ⟨#[99]⟩, ⟨by decide, by decide, by decide, by decide, rfl, fun _ => rfl⟩, by simp [go_sem, romInts], by simp [go_sem, romStrs]⟩
  · exact ⟨90, ⟨#[120, 99]⟩, ⟨by decide, by decide, by decide, by decide, rfl, fun _ => rfl⟩, by simp [go_sem, romInts], by simp [go_sem, romStrs]⟩
  · exact ⟨50, ⟨#[108]⟩, ⟨by decide, by decide, by decide, by decide, rfl, fun _ => rfl⟩, by simp [go_sem, romInts], by simp [go_sem, romStrs]⟩
  · exact ⟨40, ⟨#[120, 108]⟩, ⟨by decide, by decide, by decide, by decide, rfl, fun _ => rfl⟩, by simp [go_sem, romInts], by simp [go_sem, romStrs]⟩
  · exact ⟨10, ⟨#[120]⟩, ⟨by decide, by decide, by decide, by decide, rfl, fun _ => rfl⟩, by simp [go_sem, romInts], by simp [go_sem, romStrs]⟩
  · exact ⟨9, ⟨#[105, 120]⟩, ⟨by decide, by decide, by decide, by decide, rfl, fun _ => rfl⟩, by simp [go_sem, romInts], by simp [go_sem, romStrs]⟩
  · exact ⟨5, ⟨#[118]⟩, ⟨by decide, by decide, by decide, by decide, rfl, fun _ => rfl⟩, by simp [go_sem, romInts], by simp [go_sem, romStrs]⟩
  · exact ⟨4, ⟨#[105, 118]⟩, ⟨by decide, by decide, by decide, by decide, rfl, fun _ => rfl⟩, by simp [go_sem, romInts], by simp [go_sem, romStrs]⟩
  · exact ⟨1, ⟨#[105]⟩, ⟨by decide, by decide, by decide, by decide, rfl, fun _ => rfl⟩, by simp [go_sem, romInts], by simp [go_sem, romStrs]⟩

/-- Where the writing stands. -/
structure RomAt (N k m : Nat) (L : List UInt8) : Prop where
  val : romL romT N = L ++ romL (romT.drop k) m
  le : L.length + 2 * m ≤ 2 * N
theorem romAt_yes {N k m v : Nat} {T S : ByteArray} (h : RomAt N k m S.data.toList) (O : NumOf k v T) (hm : v ≤ m) : RomAt N k (m - v) (S ++ T).data.toList := by
  have e : (S ++ T).data.toList = S.data.toList ++ T.data.toList := by rw [ByteArray.data_append, Array.toList_append]
  refine ⟨by rw [h.val, O.drop, rom_step O.v1 hm, e, List.append_assoc], ?_⟩
  have h1 := h.le
  have h2 := O.t2
  have h3 := O.v1
  rw [Lib.size_eq] at h2
  rw [e, List.length_append]
  omega
theorem romAt_no {N k m v : Nat} {T : ByteArray} {L : List UInt8} (h : RomAt N k m L) (O : NumOf k v T) (hm : m < v) : RomAt N (k + 1) m L := ⟨by rw [h.val, O.drop, rom_skip hm], h.le⟩
theorem romAt_end {N m : Nat} {S : ByteArray} (h : RomAt N 13 m S.data.toList) : S = ⟨(romL romT N).toArray⟩ := by
  refine ba_ext ?_
  rw [h.val, show romL (romT.drop 13) m = [] from rfl, List.append_nil]

set_option maxRecDepth 100000 in
set_option maxHeartbeats 1000000 in
theorem rroman_any (N : Nat) (h1 : N ≤ 39999) (w : World) : Calls Tryz.prog 79 #[.int .i64 N] w (StrP (romL romT N) w) := by
  have hst : Hid (RomAt N 0 N (⟨#[]⟩ : ByteArray).data.toList) := ⟨rfl, by simp⟩
  have hkw : Below w.heap.size w (romW w) := ((Below.refl _ _).alloc (Nat.le_refl _) _).alloc (by simp) _
  go_enter Tryz.func79, Tryz.ntmps79
  go_wp2_with fail
  go_loop [0, 5, 6] (fun x y c => ∃ (k m : Nat) (S : ByteArray), k ≤ 13 ∧ c = .int .i64 k ∧ x = .int .i64 m ∧ y = .string S ∧ Hid (RomAt N k m S.data.toList)) (fun _ _ c => 13 - (intOf c).toNat)
  case atStart => exact ⟨0, N, _, by omega, rfl, rfl, rfl, hst⟩
  case round =>
    obtain ⟨k, m, S, hk, rfl, rfl, rfl, he⟩ := hrel
    by_cases hlt : k < 13
    · obtain ⟨v, T, O, q1, q2⟩ := rom_cells w hlt
      have HO := Lib.hid O
      have hv1 := O.v1
      have hv2 := O.v2
      have ht1 := O.t1
      have ht2 := O.t2
      clear O
      unfold romW romInts romStrs at q1 q2
      go_wp2_with fail
      go_loop [0, 5] (fun x y => ∃ (m : Nat) (S : ByteArray), x = .int .i64 m ∧ y = .string S ∧ Hid (RomAt N k m S.data.toList)) (fun x _ => (intOf x).toNat)
      case atStart => exact ⟨m, S, rfl, rfl, he⟩
      case round =>
        obtain ⟨m, S, rfl, rfl, he⟩ := hrel
        have hle := he.out.le
        rw [← Lib.size_eq] at hle
        by_cases hm : v ≤ m
        · have hnx := Lib.hid (romAt_yes he.out HO.out hm)
          clear he
          go_wp2_with fail
          go_round
          case rel => exact ⟨m - v, S ++ T, by go_num, rfl, hnx⟩
          case measure => simp only [intOf]; omega
        · have hnx := Lib.hid (romAt_no he.out HO.out (Nat.lt_of_not_le hm))
          clear he
          go_wp2_with fail
          go_round
          case rel => exact ⟨k + 1, m, S, by omega, by go_num, rfl, rfl, hnx⟩
          case measure => simp only [intOf]; omega
    · obtain rfl : k = 13 := by omega
      have hS := romAt_end he.out
      have HE := Lib.hid hS
      clear he hS
      go_wp2_with fail
      go_ret
      exact ⟨by rw [HE.out]; rfl, hkw⟩
end Go.Proofs.YtopgbbkndkincaaGreatDoor
