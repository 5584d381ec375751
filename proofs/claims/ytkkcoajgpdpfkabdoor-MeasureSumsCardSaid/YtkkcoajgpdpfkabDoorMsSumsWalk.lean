/- MeasureSums' walk. -/
import Derived.Test.YtkkcoajgpdpfkabDoorMsChain
import Derived.Test.YtkkcoajgpdpfkabDoorMsSane
import Derived.Test.YtkkcoajgpdpfkabDoorLawAid
namespace Go.Proofs.YtkkcoajgpdpfkabDoor
open Go.RowKit Go.PlainAid

theorem more_bt : bt (⟨#[32, 109, 111, 114, 101]⟩ : ByteArray) 0 = 32 := rfl

theorem digits_int (A : Int) (a0 : 0 ≤ A) (a1 : A < 1000000000) (w : World) : Calls Tryd.prog 19 #[.int .i64 A] w (SaysStr A.toNat w) := by
  have := digits_of A.toNat (by omega) w
  rw [Int.toNat_of_nonneg a0] at this
  exact this
theorem step_0 {S D : ByteArray} {val A : Int} {i : Nat} (hc : Chain S val i) (hD : Says D A.toNat) (a0 : 0 ≤ A) (a1 : A < 1000000) (v0 : -(1000000 * (i : Int)) ≤ val) (v1 : val ≤ 1000000 * (i : Int)) (hi : i < 100) : Hid (Chain (S ++ chr (opC 0) ++ D) (val + A) (i + 1)) := by
  have h := chain_next (i := 0) (by omega) hc hD (by omega) (by rw [if_pos rfl]; omega) (by rw [if_pos rfl]; omega)
  rw [if_pos rfl, Int.toNat_of_nonneg a0] at h
  exact h
theorem step_1 {S D : ByteArray} {val A : Int} {i : Nat} (hc : Chain S val i) (hD : Says D A.toNat) (a0 : 0 ≤ A) (a1 : A < 1000000) (v0 : -(1000000 * (i : Int)) ≤ val) (v1 : val ≤ 1000000 * (i : Int)) (hi : i < 100) : Hid (Chain (S ++ chr (opC 1) ++ D) (val - A) (i + 1)) := by
  have h := chain_next (i := 1) (by omega) hc hD (by omega) (by rw [if_neg (by omega)]; omega) (by rw [if_neg (by omega)]; omega)
  rw [if_neg (by omega), Int.toNat_of_nonneg a0] at h
  exact h

set_option maxHeartbeats 400000 in
theorem sums_long (ao : Option Addr) (len cap : Nat) (hl : 100 < len) (w : World) (ho : OpsAt w) (hg : 0 < w.heap.size) :
    Calls Tryd.prog 7 #[.slice ao len cap] w fun e w' => e = .returned (.bool true) ∧ Kept w w' := by
  go_enter Tryd.func7, Tryd.ntmps7
  go_wp2_with fail
  refine (sane_any _ ho hg).mono ?_
  rintro e w1 ⟨rfl, hk⟩
  go_wp2_with fail
  go_ret
  exact ⟨rfl, hk⟩

set_option maxRecDepth 100000 in
set_option maxHeartbeats 2000000 in
theorem sums_any (ao : Option Addr) (len cap : Nat) (hl : len ≤ 100) (w : World) (hi : IntsAt ao len w) (ho : OpsAt w) (hg : 0 < w.heap.size) :
    Calls Tryd.prog 7 #[.slice ao len cap] w fun e w' => e = .returned (.bool true) ∧ Kept w w' := by
  have HI := Lib.hid hi
  clear hi
  go_enter Tryd.func7, Tryd.ntmps7
  go_wp2_with fail
  go_loopw [3, 4, 5] (fun sv tv iv wr => ∃ (i : Nat) (S : ByteArray) (val : Int), i ≤ len ∧ iv = .int .i64 i ∧ sv = .string S ∧ tv = .int .i64 val ∧ -(1000000 * (i : Int)) ≤ val ∧ val ≤ 1000000 * (i : Int) ∧ i + 1 ≤ S.size ∧ S.size ≤ 1 + 10 * i ∧ Hid (Chain S val i) ∧ Kept w wr) (fun _ _ iv _ => len - (intOf iv).toNat)
  case atStart => exact ⟨0, _, 0, Nat.zero_le _, rfl, rfl, rfl, by omega, by omega, Nat.le_refl _, Nat.le_refl _, chain_zero, Below.refl _ _⟩
  case round =>
    obtain ⟨i, S, val, hil, rfl, rfl, rfl, v0, v1, s0, s1, hc, hk⟩ := hrel
    by_cases hlt : i < len
    · obtain ⟨b, off, z, hao, hb, hz⟩ := HI.out i hlt
      subst hao
      have hz' : wr.cell? ⟨b, off + i, none⟩ = some (.int .i64 z) := by rw [hk.cell (p := ⟨b, off + i, none⟩) hb]; exact hz
      obtain ⟨A, ea, a0, a1⟩ : ∃ A : Int, wrap64 ((IntKind.u64.wrap z).tmod 1000000) = A ∧ 0 ≤ A ∧ A < 1000000 := by
        obtain ⟨n, hn, hl⟩ := umod z 1000000 (by omega) (by omega)
        exact ⟨n, hn, by omega, hl⟩
      clear hz
      cases he : (z.tmod 2 == 0) with
      | true =>
        have hS : S.size + 1 ≤ 9223372036854775807 := by omega
        go_wp2_with fail
        refine (digits_int A a0 (by omega) _).mono ?_
        rintro e w1 ⟨D, rfl, hD, k1⟩
        have d9 := hD.le
        have d0 := hD.pos
        have hk1 : Kept w w1 := below_after k1 hk.size hk
        have hz1 := chr_size (opC 0)
        go_wp2_with fail
        go_roundw
        case rel => exact ⟨i + 1, S ++ chr (opC 0) ++ D, val + A, by omega, by go_num, rfl, rfl, by omega, by omega, by rw [ByteArray.size_append, ByteArray.size_append, chr_size]; omega, by rw [ByteArray.size_append, ByteArray.size_append, chr_size]; omega, step_0 hc.out hD a0 a1 v0 v1 (by omega), hk1⟩
        case measure => simp [intOf]; omega
      | false =>
        go_wp2_with fail
        refine (digits_int A a0 (by omega) _).mono ?_
        rintro e w1 ⟨D, rfl, hD, k1⟩
        have d9 := hD.le
        have d0 := hD.pos
        have hk1 : Kept w w1 := below_after k1 hk.size hk
        have hz1 := chr_size (opC 1)
        go_wp2_with fail
        go_roundw
        case rel => exact ⟨i + 1, S ++ chr (opC 1) ++ D, val - A, by omega, by go_num, rfl, rfl, by omega, by omega, by rw [ByteArray.size_append, ByteArray.size_append, chr_size]; omega, by rw [ByteArray.size_append, ByteArray.size_append, chr_size]; omega, step_1 hc.out hD a0 a1 v0 v1 (by omega), hk1⟩
        case measure => simp [intOf]; omega
    · have hge : i = len := by omega
      subst hge
      have EV := Lib.hid (chain_eval hc.out (by omega))
      have PV := Lib.hid (chain_prefix (T := ⟨#[32, 109, 111, 114, 101]⟩) hc.out (by omega) more_bt)
      go_wp2_with fail
      refine (eval_any S (by omega) 117 0 0 0 _ (ho.below hk hg) (Nat.lt_of_lt_of_le hg hk.size)).mono ?_
      rw [EV.out]
      rintro e w1 ⟨rfl, k1⟩
      have hk1 : Kept w w1 := below_after k1 hk.size hk
      go_wp2_with fail
      refine (prefix_any _ (by simp [ByteArray.size_mk']; omega) 117 0 0 0 _ (ho.below hk1 hg) (Nat.lt_of_lt_of_le hg hk1.size)).mono ?_
      rw [PV.out]
      rintro e w2 ⟨rfl, k2⟩
      have hk2 : Kept w w2 := below_after k2 hk1.size hk1
      go_wp2_with fail
      refine (sane_any _ (ho.below hk2 hg) (Nat.lt_of_lt_of_le hg hk2.size)).mono ?_
      rintro e w3 ⟨rfl, k3⟩
      go_wp2_with fail
      go_ret
      exact ⟨rfl, below_after k3 hk2.size hk2⟩
end Go.Proofs.YtkkcoajgpdpfkabDoor
