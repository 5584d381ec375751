/- What Text writes in units and points is reckoned as the number again: the mathematics. -/
import Derived.Test.YtkkcoajgpdpfkabDoorTxText
import Derived.Test.YtkkcoajgpdpfkabDoorMsLeft
namespace Go.Proofs.YtkkcoajgpdpfkabDoor
open Go.RowKit Go.PlainAid Go.Shelf

theorem nd_le : ∀ (k N : Nat), N < 10 ^ (k + 1) → Lib.nDigits N ≤ k + 1
  | 0, N, h => by rw [Lib.nDigits_small (by simpa using h)]; exact Nat.le_refl _
  | k + 1, N, h => by
    by_cases h10 : N < 10
    · rw [Lib.nDigits_small h10]; omega
    · rw [Lib.nDigits_big h10]
      have := nd_le k (N / 10) (by rw [Nat.pow_succ] at h; omega)
      omega
theorem decS_big {N : Nat} (h : ¬ N < 10) : decS N = decS (N / 10) ++ chr (48 + (N : Int) % 10) := by
  refine ba_ext ?_
  rw [ByteArray.data_append, Array.toList_append, decS_list, decS_list, dec_big h]
  congr 1
theorem decS_one {N : Nat} (h : N < 10) : decS N = chr (48 + (N : Int)) := by
  refine ba_ext ?_
  rw [decS_list, dec_one h]
  show _ = [UInt8.ofNat (48 + (N : Int)).toNat]
  rw [show (48 + (N : Int)).toNat = 48 + N from by omega]
theorem bt_last (D : ByteArray) {c : Int} (h0 : 0 ≤ c) (h1 : c ≤ 255) : bt (D ++ chr c) D.size = c := by
  have := bt_right D (chr c) 0
  rw [Nat.add_zero] at this
  rw [this, chr_bt h0 h1]
theorem size_last (D : ByteArray) (c : Int) : (D ++ chr c).size = D.size + 1 := by rw [ByteArray.size_append, chr_size]
theorem dec_is (N : Nat) : (∀ j, j < (decS N).size → Ms.digB (bt (decS N) j) = true) ∧ Ms.dVal (decS N) 0 (decS N).size = N ∧ 0 < (decS N).size := by
  induction N using Nat.strongRecOn with
  | _ N ih =>
    by_cases h : N < 10
    · rw [decS_one h]
      refine ⟨fun j hj => ?_, ?_, by rw [chr_size]; omega⟩
      · rw [chr_size] at hj
        obtain rfl : j = 0 := by omega
        rw [chr_bt (by omega) (by omega)]
        simp [Ms.digB]; omega
      · rw [chr_size]
        simp only [Ms.dVal]
        rw [Nat.zero_add, chr_bt (by omega) (by omega)]; omega
    · obtain ⟨h1, h2, h3⟩ := ih (N / 10) (by omega)
      rw [decS_big h]
      have hl := bt_last (decS (N / 10)) (c := 48 + (N : Int) % 10) (by omega) (by omega)
      refine ⟨fun j hj => ?_, ?_, by rw [size_last]; omega⟩
      · rw [size_last] at hj
        by_cases e : j < (decS (N / 10)).size
        · rw [bt_left _ _ e]; exact h1 j e
        · obtain rfl : j = (decS (N / 10)).size := by omega
          rw [hl]; simp [Ms.digB]; omega
      · rw [size_last, Ms.dVal, Nat.zero_add, hl, dVal_at (at_self _ _) _ (Nat.le_refl _), h2]; omega
theorem dec_says {N : Nat} (h : N < 1000000000) : Says (decS N) N :=
  ⟨(dec_is N).1, (dec_is N).2.2, by rw [Lib.size_eq, decS_list, Lib.decDigits_length]; exact nd_le 8 N (by simpa using h), (dec_is N).2.1⟩

theorem eval_number {E : Ms.Env} {n : Int} (hd : Ms.digB (bt E.s 0) = true) (hn : Ms.number E 0 = .ok (n, E.s.size)) : Ms.eval E = .ok n := by
  have hb := byte_sub _ hd
  have hop : Ms.operand E (Ms.brk E 20) false 0 = .ok (n, E.s.size) := by
    have h1 : Ms.skp E.s false 0 = 0 := rfl
    have h2 : Ms.sgnEnd E.s false 0 = 0 := sgn_no (by simp [Ms.sgnB]; omega)
    have h3 : ¬ bt E.s 0 = 40 := by omega
    unfold Ms.operand
    simp only [h1, h2, if_neg h3, hn, Nat.sub_self, Ms.signBack]
  have hz : bt E.s E.s.size = 0 := bt_end _ (Nat.le_refl _)
  have hx : Ms.exprFrom E (Ms.brk E 20) false (E.s.size + 1) n E.s.size = (.ok (n, E.s.size), E.s.size) :=
    expr_13 (E := E) (a := E.s.size) rfl (by simp [Ms.opAt, Ms.opFrom, Ms.opIs, hz])
  unfold Ms.eval Ms.sum
  rw [hop]
  simp only []
  rw [hx]
  simp only []
  rw [if_neg (by omega)]

theorem num_whole {z v c : Int} {D : ByteArray} {n u : Nat} (hD : Says D n) (c0 : 0 ≤ c) (c1 : c ≤ 255) (h46 : c ≠ 46) (hdg : Ms.digB c = false) (hu : Ms.unitO c z v = some (u : Int)) (hle : n * u ≤ 1000000000) :
    Ms.number ⟨D ++ chr c, z, v, 0, v, false⟩ 0 = .ok (((n * u : Nat) : Int), (D ++ chr c).size) := by
  have hb := bt_last D c0 c1
  have hp := hD.pos
  have h1 : Ms.dEnd (D ++ chr c) 0 9 = 0 + D.size := dEnd_says hD.dig (at_self _ _) (by rw [Nat.zero_add, hb]; exact hdg) 9 0 (by omega) (by have := hD.le; omega)
  rw [Nat.zero_add] at h1
  have h2 : Ms.partLen (D ++ chr c) D.size = 0 := part_none0 (by rw [hb]; exact h46)
  have h3 : Ms.unitO (bt (D ++ chr c) (partEnd D.size 0)) z v = some (u : Int) := by rw [show partEnd D.size 0 = D.size from rfl, hb]; exact hu
  have hA : Ms.dVal (D ++ chr c) 0 (D.size - 0) = n := by rw [Nat.sub_zero, dVal_at (at_self _ _) _ (Nat.le_refl _)]; exact hD.val
  rw [number_is (E := ⟨D ++ chr c, z, v, 0, v, false⟩) (p := 0) (u := u) (q := D.size + 1) h1 h2 (by omega) (by rw [h3]; rfl) (by rw [h3]; rfl) hA rfl rfl]
  have e : (n : Int) * u + Ms.dVal (D ++ chr c) (D.size + 1) 0 * u / Ms.tenTo 0 = ((n * u : Nat) : Int) := by
    show (n : Int) * u + 0 * (u : Int) / 1 = _
    rw [Int.zero_mul, Int.natCast_mul]; omega
  show (match Ms.reck _ ((n : Int) * u + Ms.dVal (D ++ chr c) (D.size + 1) 0 * u / Ms.tenTo 0) with | .ok n => Ms.Res.ok (n, D.size + 1) | .er c => .er c) = _
  rw [e]
  unfold Ms.reck
  rw [if_neg (by simp), if_pos (by omega), size_last]

/-- A point, a digit and the letter p. -/
def fracP (d : Nat) : ByteArray := (⟨#[46]⟩ ++ chr (48 + (d : Int))) ++ chr 112
theorem fracP_size (d : Nat) : (fracP d).size = 3 := rfl
theorem fracP_bt {d : Nat} (h : d < 10) : bt (fracP d) 0 = 46 ∧ bt (fracP d) 1 = 48 + d ∧ bt (fracP d) 2 = 112 := by
  refine ⟨rfl, ?_, rfl⟩
  unfold fracP
  rw [bt_left _ _ (by rw [size_last]; decide)]
  exact bt_last ⟨#[46]⟩ (by omega) (by omega)
theorem num_frac {z v : Int} {D : ByteArray} {n d : Nat} (hD : Says D n) (hd : d < 10) (hle : n * 10 + d ≤ 1000000000) :
    Ms.number ⟨D ++ fracP d, z, v, 0, v, false⟩ 0 = .ok (((n * 10 + d : Nat) : Int), (D ++ fracP d).size) := by
  obtain ⟨f0, f1, f2⟩ := fracP_bt hd
  have b0 : bt (D ++ fracP d) D.size = 46 := by have := bt_right D (fracP d) 0; rw [Nat.add_zero] at this; rw [this, f0]
  have b1 : bt (D ++ fracP d) (D.size + 1) = 48 + d := by rw [bt_right, f1]
  have b2 : bt (D ++ fracP d) (D.size + 1 + 1) = 112 := by rw [Nat.add_assoc, bt_right, f2]
  have hp := hD.pos
  have h1 : Ms.dEnd (D ++ fracP d) 0 9 = 0 + D.size := dEnd_says hD.dig (at_self _ _) (by rw [Nat.zero_add, b0]; rfl) 9 0 (by omega) (by have := hD.le; omega)
  rw [Nat.zero_add] at h1
  have h2 : Ms.partLen (D ++ fracP d) D.size = 1 := by
    unfold Ms.partLen
    rw [if_pos b0, show (9 : Nat) = 8 + 1 from rfl, dEnd_yes (by rw [b1]; simp [Ms.digB]; omega), dEnd_no (by rw [b2]; rfl)]
    omega
  have h3 : Ms.unitO (bt (D ++ fracP d) (partEnd D.size 1)) z v = some 10 := by rw [show partEnd D.size 1 = D.size + 1 + 1 from rfl, b2]; rfl
  have hA : Ms.dVal (D ++ fracP d) 0 (D.size - 0) = n := by rw [Nat.sub_zero, dVal_at (at_self _ _) _ (Nat.le_refl _)]; exact hD.val
  have hB : Ms.dVal (D ++ fracP d) (D.size + 1) 1 = d := by simp only [Ms.dVal]; rw [Nat.add_zero, b1]; omega
  rw [number_is (E := ⟨D ++ fracP d, z, v, 0, v, false⟩) (p := 0) (u := 10) (q := D.size + 3) h1 h2 (by omega) (by rw [h3]; rfl) (by rw [h3]; rfl) hA hB rfl]
  have e : (n : Int) * 10 + (d : Int) * 10 / Ms.tenTo 1 = ((n * 10 + d : Nat) : Int) := by
    show (n : Int) * 10 + (d : Int) * 10 / 10 = _
    omega
  rw [e]
  unfold Ms.reck
  rw [if_neg (by simp), if_pos (by omega), ByteArray.size_append, fracP_size]

theorem trim_digit {d : Nat} (h0 : 0 < d) (h : d < 10) : trimS (four (d * 1000)) = chr (48 + (d : Int)) := by
  refine ba_ext ?_
  rw [trimS_list, four_list (by omega)]
  have hd : d = 1 ∨ d = 2 ∨ d = 3 ∨ d = 4 ∨ d = 5 ∨ d = 6 ∨ d = 7 ∨ d = 8 ∨ d = 9 := by omega
  rcases hd with rfl | rfl | rfl | rfl | rfl | rfl | rfl | rfl | rfl <;> rfl
theorem dig_first {N : Nat} (T : ByteArray) : Ms.digB (bt (decS N ++ T) 0) = true := by
  rw [bt_left _ _ (dec_is N).2.2]
  exact (dec_is N).1 0 (dec_is N).2.2
theorem valid_ctx {z v : Int} (hz0 : 0 ≤ z) (hz1 : z ≤ 1000) (hv0 : 0 ≤ v) (hv1 : v ≤ 1000) : Ms.validB z v 0 = true := by simp [Ms.validB]; omega
theorem eval_is {z v : Int} {S : ByteArray} {n : Int} (hv : Ms.validB z v 0 = true) (hd : Ms.digB (bt S 0) = true) (hn : Ms.number ⟨S, z, v, 0, v, false⟩ 0 = .ok (n, S.size)) : evalM S 118 z v 0 = .ok n := by
  unfold evalM
  rw [if_pos hv]
  exact eval_number (E := ⟨S, z, v, 0, v, false⟩) hd hn

/-- What is known of the text of k in a scale. -/
structure BackIs (k : Nat) (z v c : Int) (S : ByteArray) : Prop where
  text : ∀ w, PowAt w → Calls Tryd.prog 12 #[.int .i64 k, .int .u8 c] w (TextIs S w)
  eval : evalM S 118 z v 0 = .ok k
  le : S.size ≤ 100
theorem back_u {k : Nat} {z v : Int} (hk : k < 1000000000) (hv : Ms.validB z v 0 = true) : ∃ S, BackIs k z v 117 S := by
  have e1 : decS k ++ fracS 0 ++ chr 117 = decS k ++ chr 117 := by rw [show fracS 0 = ⟨#[]⟩ from rfl, append_nil]
  refine ⟨decS k ++ chr 117, fun w hw => ?_, eval_is hv (dig_first _) ?_, ?_⟩
  · rw [← e1]
    exact text_some k 1 k 0 0 117 (by omega) scale_u w hw (by rw [tdiv_nat, Nat.div_one]) (by rw [tmod_nat, Nat.mod_one]) rfl (by omega) (by omega) (by omega)
  · have := num_whole (z := z) (v := v) (c := 117) (u := 1) (dec_says hk) (by omega) (by omega) (by omega) rfl rfl (by omega)
    rw [Nat.mul_one] at this
    exact this
  · rw [size_last]
    have := (dec_says hk).le
    omega
theorem tenth (k : Nat) : (((k % 10 : Nat) : Int) * 10000).tdiv ((10 : Nat) : Int) = ((k % 10 * 1000 : Nat) : Int) := by
  rw [show (((k % 10 : Nat) : Int) * 10000) = ((k % 10 * 10000 : Nat) : Int) from by rw [Int.natCast_mul]; rfl, tdiv_nat]
  rw [show k % 10 * 10000 / 10 = k % 10 * 1000 from by omega]
theorem back_p {k : Nat} {z v : Int} (hk : k < 1000000000) (hv : Ms.validB z v 0 = true) : ∃ S, BackIs k z v 112 S := by
  have hq := dec_says (N := k / 10) (by omega)
  have ht := fun w hw => text_some k 10 (k / 10) (k % 10) (k % 10 * 1000) 112 (by omega) scale_p w hw (tdiv_nat _ _) (tmod_nat _ _) (tenth k) (by omega) (by omega) (by omega)
  by_cases h0 : k % 10 = 0
  · have e1 : decS (k / 10) ++ fracS (k % 10 * 1000) ++ chr 112 = decS (k / 10) ++ chr 112 := by rw [h0, show fracS (0 * 1000) = ⟨#[]⟩ from rfl, append_nil]
    refine ⟨decS (k / 10) ++ chr 112, fun w hw => ?_, eval_is hv (dig_first _) ?_, ?_⟩
    · rw [← e1]; exact ht w hw
    · have := num_whole (z := z) (v := v) (c := 112) (u := 10) hq (by omega) (by omega) (by omega) rfl rfl (by omega)
      rw [show k / 10 * 10 = k from by omega] at this
      exact this
    · rw [size_last]
      have := hq.le
      omega
  · have e1 : decS (k / 10) ++ fracS (k % 10 * 1000) ++ chr 112 = decS (k / 10) ++ fracP (k % 10) := by
      rw [show fracS (k % 10 * 1000) = ⟨#[46]⟩ ++ trimS (four (k % 10 * 1000)) from if_neg (by omega), trim_digit (by omega) (by omega)]
      unfold fracP
      exact ByteArray.append_assoc
    refine ⟨decS (k / 10) ++ fracP (k % 10), fun w hw => ?_, eval_is hv (dig_first _) ?_, ?_⟩
    · rw [← e1]; exact ht w hw
    · have := num_frac (z := z) (v := v) hq (d := k % 10) (by omega) (by omega)
      rw [show k / 10 * 10 + k % 10 = k from by omega] at this
      exact this
    · rw [ByteArray.size_append, fracP_size]
      have := hq.le
      omega
end Go.Proofs.YtkkcoajgpdpfkabDoor
