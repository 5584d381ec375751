/- The law's fixed example, and MeasureLeft's walk. -/
import Derived.Test.YtkkcoajgpdpfkabDoorMsLeft
import Derived.Test.YtkkcoajgpdpfkabDoorMsSane
namespace Go.Proofs.YtkkcoajgpdpfkabDoor
open Go.RowKit Go.PlainAid

def opsStr : ByteArray := ⟨#[43, 45, 42, 47, 37, 60, 62, 61, 38, 58]⟩
theorem op_str {i : Nat} (h : i < 10) : opsStr.extract i (i + 1) = chr (opC i) := by
  rcases ways10 h with rfl | rfl | rfl | rfl | rfl | rfl | rfl | rfl | rfl | rfl <;> rfl

theorem flat_value {X Y Z : ByteArray} {i j x y z : Nat} (hi : i < 10) (hj : j < 10) (hX : Says X x) (hY : Says Y y) (hZ : Says Z z) (hx : x ≤ 1000000000) (hy : y ≤ 1000000000) (hz : z ≤ 1000000000) :
    evalM (X ++ chr (opC i) ++ Y ++ chr (opC j) ++ Z) 117 0 0 0 = twoOf i j x y z := by
  have c0 : ∀ k, k < 10 → 0 ≤ opC k ∧ opC k ≤ 255 := fun k hk => by rcases ways10 hk with rfl | rfl | rfl | rfl | rfl | rfl | rfl | rfl | rfl | rfl <;> simp [opC]
  rw [evalM_plain]
  have s1 : (X ++ chr (opC i)).size = X.size + 1 := by simp [chr_size]
  have s2 : (X ++ chr (opC i) ++ Y).size = X.size + 1 + Y.size := by simp [chr_size]
  have s3 : (X ++ chr (opC i) ++ Y ++ chr (opC j)).size = X.size + 1 + Y.size + 1 := by simp [chr_size]
  have e1 : At (X ++ chr (opC i)) X.size (chr (opC i)) := at_right _ _
  have e2 : At (X ++ chr (opC i) ++ Y) (X.size + 1) Y := by have := at_right (X ++ chr (opC i)) Y; rwa [s1] at this
  have e3 : At (X ++ chr (opC i) ++ Y ++ chr (opC j)) (X.size + 1 + Y.size) (chr (opC j)) := by have := at_right (X ++ chr (opC i) ++ Y) (chr (opC j)); rwa [s2] at this
  have e4 : At (X ++ chr (opC i) ++ Y ++ chr (opC j) ++ Z) (X.size + 1 + Y.size + 1) Z := by have := at_right (X ++ chr (opC i) ++ Y ++ chr (opC j)) Z; rwa [s3] at this
  have one : ∀ {s : ByteArray} {p : Nat} {c : Int}, At s p (chr c) → 0 ≤ c → c ≤ 255 → bt s p = c := fun h a b => by have := h 0 (by rw [chr_size]; omega); rwa [Nat.add_zero, chr_bt a b] at this
  refine eval_flat hi hj hX hY hZ hx hy hz ?_ ?_ ?_ ?_ e4 ?_
  · exact (((at_self X _).left (by first | (simp; done) | (simp; omega)) _).left (by first | (simp; done) | (simp; omega)) _).left (by first | (simp; done) | (simp; omega)) _
  · exact one (((e1.left (by rw [chr_size]; omega) _).left (by rw [chr_size]; omega) _).left (by rw [chr_size]; omega) _) (c0 i hi).1 (c0 i hi).2
  · exact (e2.left (by omega) _).left (by omega) _
  · exact one (e3.left (by rw [chr_size]; omega) _) (c0 j hj).1 (c0 j hj).2
  · rw [ByteArray.size_append, s3]

theorem brack_value {X Y Z : ByteArray} {i j x y z : Nat} (hi : i < 10) (hj : j < 10) (hX : Says X x) (hY : Says Y y) (hZ : Says Z z) (hx : x ≤ 1000000000) (hy : y ≤ 1000000000) (hz : z ≤ 1000000000) :
    evalM (chr 40 ++ X ++ chr (opC i) ++ Y ++ chr 41 ++ chr (opC j) ++ Z) 117 0 0 0 = twoOf i j x y z := by
  have c0 : ∀ k, k < 10 → 0 ≤ opC k ∧ opC k ≤ 255 := fun k hk => by rcases ways10 hk with rfl | rfl | rfl | rfl | rfl | rfl | rfl | rfl | rfl | rfl <;> simp [opC]
  rw [evalM_plain]
  have s0 : (chr 40 ++ X).size = 1 + X.size := by simp [chr_size]
  have s1 : (chr 40 ++ X ++ chr (opC i)).size = 1 + X.size + 1 := by simp [chr_size]
  have s2 : (chr 40 ++ X ++ chr (opC i) ++ Y).size = 1 + X.size + 1 + Y.size := by simp [chr_size]
  have s3 : (chr 40 ++ X ++ chr (opC i) ++ Y ++ chr 41).size = 1 + X.size + 1 + Y.size + 1 := by simp [chr_size]
  have s4 : (chr 40 ++ X ++ chr (opC i) ++ Y ++ chr 41 ++ chr (opC j)).size = 1 + X.size + 1 + Y.size + 1 + 1 := by simp [chr_size]
  have e0 : At (chr 40 ++ X) 1 X := at_right (chr 40) X
  have e1 : At (chr 40 ++ X ++ chr (opC i)) (1 + X.size) (chr (opC i)) := by have := at_right (chr 40 ++ X) (chr (opC i)); rwa [s0] at this
  have e2 : At (chr 40 ++ X ++ chr (opC i) ++ Y) (1 + X.size + 1) Y := by have := at_right (chr 40 ++ X ++ chr (opC i)) Y; rwa [s1] at this
  have e3 : At (chr 40 ++ X ++ chr (opC i) ++ Y ++ chr 41) (1 + X.size + 1 + Y.size) (chr 41) := by have := at_right (chr 40 ++ X ++ chr (opC i) ++ Y) (chr 41); rwa [s2] at this
  have e4 : At (chr 40 ++ X ++ chr (opC i) ++ Y ++ chr 41 ++ chr (opC j)) (1 + X.size + 1 + Y.size + 1) (chr (opC j)) := by have := at_right (chr 40 ++ X ++ chr (opC i) ++ Y ++ chr 41) (chr (opC j)); rwa [s3] at this
  have e5 : At (chr 40 ++ X ++ chr (opC i) ++ Y ++ chr 41 ++ chr (opC j) ++ Z) (1 + X.size + 1 + Y.size + 1 + 1) Z := by have := at_right (chr 40 ++ X ++ chr (opC i) ++ Y ++ chr 41 ++ chr (opC j)) Z; rwa [s4] at this
  have one : ∀ {s : ByteArray} {p : Nat} {c : Int}, At s p (chr c) → 0 ≤ c → c ≤ 255 → bt s p = c := fun h a b => by have := h 0 (by rw [chr_size]; omega); rwa [Nat.add_zero, chr_bt a b] at this
  refine eval_brack hi hj hX hY hZ hx hy hz ?_ ?_ ?_ ?_ ?_ ?_ e5 ?_
  · exact one ((((((at_self (chr 40) X).left (by first | (simp; done) | (simp; omega)) _).left (by first | (simp; done) | (simp; omega)) _).left (by first | (simp; done) | (simp; omega)) _).left (by first | (simp; done) | (simp; omega)) _).left (by first | (simp; done) | (simp; omega)) _) (by omega) (by omega)
  · exact ((((e0.left (by omega) _).left (by omega) _).left (by omega) _).left (by omega) _).left (by omega) _
  · exact one ((((e1.left (by rw [chr_size]; omega) _).left (by rw [chr_size]; omega) _).left (by rw [chr_size]; omega) _).left (by rw [chr_size]; omega) _) (c0 i hi).1 (c0 i hi).2
  · exact ((e2.left (by omega) _).left (by omega) _).left (by omega) _
  · exact one ((e3.left (by rw [chr_size]; omega) _).left (by rw [chr_size]; omega) _) (by omega) (by omega)
  · exact one (e4.left (by rw [chr_size]; omega) _) (c0 j hj).1 (c0 j hj).2
  · rw [ByteArray.size_append, s4]

set_option maxHeartbeats 1000000 in
theorem left_any (a b c o t : Int) (w : World) (ho : OpsAt w) (hg : 0 < w.heap.size) :
    Calls Tryd.prog 8 #[.agg #[.int .i64 a, .int .i64 b, .int .i64 c, .int .i64 o, .int .i64 t]] w fun e w' => e = .returned (.bool true) ∧ Kept w w' := by
  obtain ⟨A, ea, hA⟩ := umod a 3000 (by omega) (by omega)
  obtain ⟨B, eb, hB⟩ := umod b 3000 (by omega) (by omega)
  obtain ⟨C, ec, hC⟩ := umod c 3000 (by omega) (by omega)
  obtain ⟨i, ei, hi⟩ := umod o 10 (by omega) (by omega)
  obtain ⟨j, ej, hj⟩ := umod t 10 (by omega) (by omega)
  have hp := op_str (i := i) (by omega)
  have hq := op_str (i := j) (by omega)
  have hps := chr_size (opC i)
  have hqs := chr_size (opC j)
  unfold opsStr at hp hq
  go_enter Tryd.func8, Tryd.ntmps8
  go_wp2_with fail
  go_quiet (fail)
  go_wp2_with fail
  refine (digits_of A (by omega) _).mono ?_
  rintro e w1 ⟨X, rfl, hX, k1⟩
  have hk1 : Kept w w1 := below_after k1 (by simp) (below_drewN ((Below.refl _ _).alloc (Nat.le_refl _) _) _)
  go_wp2_with fail
  refine (digits_of B (by omega) _).mono ?_
  rintro e w2 ⟨Y, rfl, hY, k2⟩
  go_wp2_with fail
  refine (digits_of C (by omega) _).mono ?_
  rintro e w3 ⟨Z, rfl, hZ, k3⟩
  have x9 := hX.le
  have y9 := hY.le
  have z9 := hZ.le
  go_wp2_with fail
  go_quiet (fail)
  have hk3 : Kept w w3 := below_after k3 (Nat.le_trans hk1.size k2.size) (below_after k2 hk1.size hk1)
  have hv1 := flat_value (i := i) (j := j) (by omega) (by omega) hX hY hZ (by omega) (by omega) (by omega)
  have hv2 := brack_value (i := i) (j := j) (by omega) (by omega) hX hY hZ (by omega) (by omega) (by omega)
  have hw3 := hk3.size
  obtain ⟨r, hr⟩ : ∃ r, twoOf i j A B C = r := ⟨_, rfl⟩
  rw [hr] at hv1 hv2
  have V1 := Lib.hid hv1
  have V2 := Lib.hid hv2
  clear hv1 hv2 hr hp hq ea eb ec ei ej
  have ho3 := ho.below hk3 hg
  go_wp2_with fail
  refine (eval_any _ (by simp [chr_size]; omega) 117 0 0 0 _ (by exact ho3) (by simp; omega)).mono ?_
  rw [V1.out]
  rcases r with v | cc
  · rintro e w4 ⟨rfl, k4⟩
    have hk4 : Kept w w4 := below_after k4 (by simp; omega) (below_drewN hk3 _)
    have hw4 := hk4.size
    go_wp2_with fail
    refine (eval_any _ (by simp [chr_size, ByteArray.size_mk']; omega) 117 0 0 0 _ (ho.below hk4 hg) (by omega)).mono ?_
    rw [show evalM (⟨#[40]⟩ ++ X ++ chr (opC i) ++ Y ++ ⟨#[41]⟩ ++ chr (opC j) ++ Z) 117 0 0 0 = .ok v from V2.out]
    rintro e w5 ⟨rfl, k5⟩
    have hk5 : Kept w w5 := below_after k5 hk4.size hk4
    have hw5 := hk5.size
    go_wp2_with fail
    refine (sane_any _ (ho.below hk5 hg) (by omega)).mono ?_
    rintro e w6 ⟨rfl, k6⟩
    go_wp2_with fail
    go_ret
    exact ⟨rfl, below_after k6 hk5.size hk5⟩
  · rintro e w4 ⟨rfl, k4⟩
    have hk4 : Kept w w4 := below_after k4 (by simp; omega) (below_drewN hk3 _)
    have hw4 := hk4.size
    go_wp2_with fail
    refine (eval_any _ (by simp [chr_size, ByteArray.size_mk']; omega) 117 0 0 0 _ (ho.below hk4 hg) (by omega)).mono ?_
    rw [show evalM (⟨#[40]⟩ ++ X ++ chr (opC i) ++ Y ++ ⟨#[41]⟩ ++ chr (opC j) ++ Z) 117 0 0 0 = .er cc from V2.out]
    rintro e w5 ⟨rfl, k5⟩
    have hk5 : Kept w w5 := below_after k5 hk4.size hk4
    have hw5 := hk5.size
    go_wp2_with fail
    refine (sane_any _ (ho.below hk5 hg) (by omega)).mono ?_
    rintro e w6 ⟨rfl, k6⟩
    go_wp2_with fail
    go_ret
    exact ⟨rfl, below_after k6 hk5.size hk5⟩
end Go.Proofs.YtkkcoajgpdpfkabDoor
