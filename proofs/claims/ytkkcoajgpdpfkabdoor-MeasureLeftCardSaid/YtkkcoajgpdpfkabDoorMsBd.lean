/- Bounds of what the reader's plain functions give. No Go. -/
import Derived.Test.YtkkcoajgpdpfkabDoorMsNum2
import Derived.Test.YtkkcoajgpdpfkabDoorMsPre
namespace Go.Proofs.YtkkcoajgpdpfkabDoor
open Go.RowKit Go.PlainAid

/-- A value in its range, an end behind p. -/
def Fine (E : Ms.Env) (p : Nat) (r : Ms.Res (Int × Nat)) : Prop := ∀ v q, r = .ok (v, q) → -1000000000 ≤ v ∧ v ≤ 1000000000 ∧ p < q ∧ q ≤ E.s.size

theorem within_bd {n v : Int} (h : Ms.within n = .ok v) : -1000000000 ≤ v ∧ v ≤ 1000000000 := by
  unfold Ms.within at h; split at h
  · rename_i hh; injection h with h; subst h; exact hh
  · cases h
theorem reck_bd {E : Ms.Env} {n v : Int} (h : Ms.reck E n = .ok v) : -1000000000 ≤ v ∧ v ≤ 1000000000 := by
  unfold Ms.reck at h; split at h
  · injection h with h; subst h; omega
  · exact within_bd h
theorem truth_bd (b : Bool) : 0 ≤ Ms.truthI b ∧ Ms.truthI b ≤ 1 := by cases b <;> simp [Ms.truthI]
theorem signed_bd {E : Ms.Env} {c n v : Int} (h0 : -1000000000 ≤ n) (h1 : n ≤ 1000000000) (h : Ms.signed E c n = .ok v) : -1000000000 ≤ v ∧ v ≤ 1000000000 := by
  unfold Ms.signed at h
  split at h
  · injection h with h; subst h; omega
  split at h
  · injection h with h; subst h; have := truth_bd (decide (n ≤ 0)); omega
  split at h
  · exact reck_bd h
  · injection h with h; subst h; omega
theorem signBack_bd {E : Ms.Env} {p : Nat} : ∀ {n : Nat} {x v : Int}, -1000000000 ≤ x → x ≤ 1000000000 → Ms.signBack E p n x = .ok v → -1000000000 ≤ v ∧ v ≤ 1000000000
  | 0, x, v, h0, h1, h => by rw [Ms.signBack] at h; injection h with h; subst h; omega
  | n + 1, x, v, h0, h1, h => by
    rw [Ms.signBack] at h
    cases hs : Ms.signed E (bt E.s (p + n)) x with
    | ok y =>
      rw [hs] at h
      have := signed_bd h0 h1 hs
      exact signBack_bd this.1 this.2 h
    | er c => rw [hs] at h; cases h
theorem done_bd {E : Ms.Env} {k : Nat} {x y v : Int} (h0 : -1000000000 ≤ x) (h1 : x ≤ 1000000000) (h : Ms.done E k x y = .ok v) : -1000000000 ≤ v ∧ v ≤ 1000000000 := by
  unfold Ms.done at h
  split at h
  · injection h with h; subst h; omega
  split at h
  · exact within_bd h
  · exact within_bd h
  · exact within_bd h
  · split at h
    · cases h
    · injection h with h
      have e : (x.tdiv y).natAbs = x.natAbs / y.natAbs := Int.natAbs_tdiv x y
      have := Nat.div_le_self x.natAbs y.natAbs
      omega
  · split at h
    · cases h
    · injection h with h
      have e : (x.tmod y).natAbs = x.natAbs % y.natAbs := Int.natAbs_tmod x y
      have := Nat.mod_le x.natAbs y.natAbs
      omega
  · injection h with h; subst h
    have := truth_bd (Ms.holds k x y); omega

theorem unit_lt {s : ByteArray} {e : Nat} {z v : Int} (h : (Ms.unitO (bt s e) z v).isSome = true) : e < s.size := by
  refine Ms.lt_of_bt fun h0 => ?_
  rw [h0] at h
  simp [Ms.unitO] at h

theorem number_fine (E : Ms.Env) (p : Nat) (hp : p ≤ E.s.size) : Fine E p (Ms.number E p) := by
  intro v q h
  have e1ge := Ms.dEnd_ge E.s 9 p
  have e1sz := Ms.dEnd_size E.s 9 p hp
  have hps := part_size e1sz
  by_cases h0 : Ms.dEnd E.s p 9 = p ∧ Ms.partLen E.s (Ms.dEnd E.s p 9) = 0
  · unfold Ms.number at h; simp only [] at h; rw [if_pos h0] at h; cases h
  · rw [number_is rfl rfl h0 rfl rfl rfl rfl rfl] at h
    have hpe : p < partEnd (Ms.dEnd E.s p 9) (Ms.partLen E.s (Ms.dEnd E.s p 9)) ∧ partEnd (Ms.dEnd E.s p 9) (Ms.partLen E.s (Ms.dEnd E.s p 9)) ≤ E.s.size := by
      unfold partEnd; split <;> omega
    split at h
    · rename_i n hn
      injection h with h
      injection h with h1 h2
      subst h1
      have := reck_bd hn
      split at h2
      · rename_i hu
        have := unit_lt hu
        omega
      · omega
    · cases h

theorem sgnEnd_ge (s : ByteArray) (i : Bool) (p : Nat) : p ≤ Ms.sgnEnd s i p := by
  fun_induction Ms.sgnEnd s i p
  case case1 p h hs ih => have := Ms.skp_ge s i (p + 1); omega
  all_goals omega
theorem sgnEnd_size (s : ByteArray) (i : Bool) (p : Nat) (h : p ≤ s.size) : Ms.sgnEnd s i p ≤ s.size := by
  fun_induction Ms.sgnEnd s i p
  case case1 p hlt hs ih => exact ih (skp_size s i (p + 1) hlt)
  all_goals omega

theorem operand_fine (E : Ms.Env) (br : Nat → Ms.Res (Int × Nat)) (hbr : ∀ p, p ≤ E.s.size → Fine E p (br p)) (i : Bool) (p : Nat) (hp : p ≤ E.s.size) : Fine E p (Ms.operand E br i p) := by
  intro v q h
  unfold Ms.operand at h
  simp only [] at h
  have a0 := Ms.skp_ge E.s i p
  have a1 := skp_size E.s i p hp
  have t0 := sgnEnd_ge E.s i (Ms.skp E.s i p)
  have t1 := sgnEnd_size E.s i _ a1
  generalize Ms.sgnEnd E.s i (Ms.skp E.s i p) = t at *
  generalize Ms.skp E.s i p = a at *
  have hu : Fine E t (if bt E.s t = 40 then br (t + 1) else Ms.number E t) := by
    split
    · rename_i h40
      have hlt : t < E.s.size := Ms.lt_of_bt (by rw [h40]; decide)
      intro v q h
      have := hbr (t + 1) hlt v q h
      omega
    · exact number_fine E t t1
  split at h
  · cases h
  · rename_i n q' hn
    have := hu _ _ hn
    split at h
    · cases h
    · rename_i m hm
      injection h with h
      injection h with h1 h2
      subst h1 h2
      have := signBack_bd this.1 this.2.1 hm
      omega

theorem opFrom_is (s : ByteArray) (a k : Nat) : Ms.opFrom s a k ≤ 13 ∨ 13 < k := by
  fun_induction Ms.opFrom s a k <;> omega
theorem opFrom_fit (s : ByteArray) (a k : Nat) (h : Ms.opFrom s a k < 13) : Ms.opIs s a (Ms.opFrom s a k) = true := by
  fun_induction Ms.opFrom s a k
  case case1 k hk hi => exact hi
  case case2 k hk hi ih => exact ih h
  case case3 => omega
theorem opAt_le (s : ByteArray) (a : Nat) : Ms.opAt s a ≤ 13 := by
  rcases opFrom_is s a 0 with h | h
  · exact h
  · omega
theorem op_fit {s : ByteArray} {a k : Nat} (hk : k < 13) (h : Ms.opIs s a k = true) : a + (Ms.opBytes k).size ≤ s.size := by
  rcases ways13 hk with rfl | rfl | rfl | rfl | rfl | rfl | rfl | rfl | rfl | rfl | rfl | rfl | rfl
  case inl | inr.inl | inr.inr.inl =>
    simp [Ms.opIs] at h
    have := Ms.lt_of_bt (s := s) (p := a + 1) (by omega)
    show a + 2 ≤ _; omega
  all_goals
    simp [Ms.opIs] at h
    have := Ms.lt_of_bt (s := s) (p := a) (by omega)
    show a + 1 ≤ _; omega
theorem opAt_fit {s : ByteArray} {a : Nat} (h : ¬ Ms.opAt s a = 13) : a + (Ms.opBytes (Ms.opAt s a)).size ≤ s.size := by
  have := opAt_le s a
  exact op_fit (by omega) (opFrom_fit s a 0 (by unfold Ms.opAt at *; omega))

theorem exprFrom_fine (E : Ms.Env) (br : Nat → Ms.Res (Int × Nat)) (hbr : ∀ p, p ≤ E.s.size → Fine E p (br p)) (i : Bool) : ∀ (n : Nat) (x : Int) (p : Nat), p ≤ E.s.size → -1000000000 ≤ x → x ≤ 1000000000 →
    ∀ v q, (Ms.exprFrom E br i n x p).1 = .ok (v, q) → -1000000000 ≤ v ∧ v ≤ 1000000000 ∧ p ≤ q ∧ q ≤ E.s.size
  | 0, x, p, hp, h0, h1, v, q, h => by cases h
  | n + 1, x, p, hp, h0, h1, v, q, h => by
    unfold Ms.exprFrom at h
    simp only [] at h
    have a0 := Ms.skp_ge E.s i p
    have a1 := skp_size E.s i p hp
    generalize Ms.skp E.s i p = a at *
    by_cases hk : Ms.opAt E.s a = 13
    · rw [if_pos hk] at h
      injection h with h
      injection h with h2 h3
      subst h2 h3
      omega
    · rw [if_neg hk] at h
      split at h
      · cases h
      · rename_i b t ht
        have hsz := opAt_fit hk
        have hb := operand_fine E br hbr i _ hsz _ _ ht
        split at h
        · cases h
        · rename_i w hw
          have hw := done_bd h0 h1 hw
          have := exprFrom_fine E br hbr i n w t (by omega) hw.1 hw.2 v q h
          omega

theorem sum_fine (E : Ms.Env) (br : Nat → Ms.Res (Int × Nat)) (hbr : ∀ p, p ≤ E.s.size → Fine E p (br p)) (i : Bool) (p l : Nat) (hp : p ≤ E.s.size) : Fine E p (Ms.sum E br i p l).1 := by
  intro v q h
  unfold Ms.sum at h
  split at h
  · cases h
  · rename_i x t ht
    have := operand_fine E br hbr i p hp _ _ ht
    have := exprFrom_fine E br hbr i _ x t (by omega) this.1 this.2.1 v q h
    omega

theorem brk_fine (E : Ms.Env) : ∀ (k p : Nat), p ≤ E.s.size → Fine E p (Ms.brk E k p)
  | 0, p, hp => fun v q h => by cases h
  | k + 1, p, hp => fun v q h => by
    unfold Ms.brk at h
    split at h
    · cases h
    · rename_i x t ht
      have := sum_fine E (Ms.brk E k) (brk_fine E k) true p 0 hp _ _ ht
      split at h
      · rename_i h41
        injection h with h
        injection h with h1 h2
        have hlt : t < E.s.size := Ms.lt_of_bt (by rw [h41]; decide)
        omega
      · cases h
end Go.Proofs.YtkkcoajgpdpfkabDoor
