/- The reference's operand, all ways together. -/
import Derived.Test.YtkkcoajgpdpfkabDoorRfBrk
namespace Go.Proofs.YtkkcoajgpdpfkabDoor
open Go.RowKit Go.PlainAid

/-- Behind a bracket: what sum says is what brk says. -/
theorem brk_of (k : Nat) (hin : ∀ j, k = j + 1 → RInSpec j) (E : Ms.Env) (c : Int) (p a : Nat) (d : Int) (w : World) (g : E.Good) (hc : Ms.unitO c E.z E.v = some E.one) (hd : d = 20 - k) (hk : k ≤ 20) (f0 : bt E.s a = 40) (lt : a < E.s.size)
    (sk : Calls Tryd.prog 68 #[RV E c, .int .i64 p, .int .i64 d] (w.alloc (boxO E c)) fun e w' => e = .returned (.int .i64 a) ∧ Below (w.alloc (boxO E c)).heap.size (w.alloc (boxO E c)) w') :
    Opd E c d p (Ms.brk E k (a + 1)) w := by
  have hB : BrkAt E c d p a w := ⟨beq_iff_eq.2 f0, g.sz, lt, sk⟩
  cases k with
  | zero =>
    obtain rfl : d = 20 := by omega
    exact brk_deep hB
  | succ j =>
    have hj := hin j rfl
    have hd1 : d + 1 = 20 - j := by omega
    have hrec : SRec E c d a (Ms.sum E (Ms.brk E j) true (a + 1) 0) := fun w1 => by
      have := hj E c (a + 1) (d + 1) w1 g hc hd1 (by omega) (by omega)
      rwa [show ((a + 1 : Nat) : Int) = (a : Int) + 1 from by omega] at this
    have hnz := nz_sum E (Ms.brk E j) (nz_brk E j) true (a + 1) 0
    have hfi := sum_fine E (Ms.brk E j) (brk_fine E j) true (a + 1) 0 (by omega)
    have hsk := sum_skip E (Ms.brk E j) true (a + 1) 0
    rw [Ms.brk]
    generalize Ms.sum E (Ms.brk E j) true (a + 1) 0 = r at *
    obtain ⟨r, t⟩ := r
    cases r with
    | er cc => exact brk_er hB (by omega) (by omega) (nz3 hnz rfl) hrec
    | ok y =>
      obtain ⟨v, q⟩ := y
      obtain ⟨_, _, _, q1⟩ := hfi v q rfl
      have ht := hsk v q rfl
      have htq : t ≤ q := by have := Ms.skp_ge E.s true t; simp only at ht; omega
      have hkr : KRec E c d t q := fun w1 => by
        have := rskip_any E g.sz c (d + 1) t (by omega) w1
        rw [show decide (0 < d + 1) = true from by simp; omega] at this
        simp only at ht
        rwa [← ht] at this
      exact brk_ok hB (by omega) (by omega) q1 hkr hrec

theorem sgn_ways {c : Int} (h : Ms.sgnB c = true) : c = 43 ∨ c = 45 ∨ c = 33 ∨ c = 124 := by
  simp [Ms.sgnB] at h; omega

theorem roperand_fuel (k : Nat) (hin : ∀ j, k = j + 1 → RInSpec j) (E : Ms.Env) (c : Int) (d : Int) (g : E.Good) (hc : Ms.unitO c E.z E.v = some E.one) (hd : d = 20 - k) (hk : k ≤ 20) : ∀ (m : Nat) (p : Nat) (w : World), E.s.size - p < m → p ≤ E.s.size →
    Opd E c d p (Ms.operand E (Ms.brk E k) (decide (0 < d)) p) w
  | 0, p, w, hm, hp => by omega
  | m + 1, p, w, hm, hp => by
    obtain ⟨a, ha⟩ : ∃ a, Ms.skp E.s (decide (0 < d)) p = a := ⟨_, rfl⟩
    have asz : a ≤ E.s.size := ha ▸ skp_size E.s _ p hp
    have age : p ≤ a := ha ▸ Ms.skp_ge E.s _ p
    have sk := rskip_any E g.sz c d p hp (w.alloc (boxO E c))
    rw [ha] at sk
    by_cases hlt : a < E.s.size
    case neg =>
      rw [operand_plain E _ _ p a ha (by rw [bt_end E.s (by omega)]; rfl), if_neg (by rw [bt_end E.s (by omega)]; omega), number_end E a (by omega)]
      exact opd_end g.sz asz hlt sk
    case pos =>
      cases hsg : Ms.sgnB (bt E.s a) with
      | true =>
        rw [operand_sign E _ _ p a ha hsg]
        refine sgn_of g (sgn_ways hsg) hlt sk _ (nz_operand E _ (nz_brk E k) _ (a + 1)) (operand_fine E _ (brk_fine E k) _ (a + 1) hlt) (fun w1 => ?_)
        have := roperand_fuel k hin E c d g hc hd hk m (a + 1) w1 (by omega) hlt
        unfold Opd at this
        rwa [show ((a + 1 : Nat) : Int) = (a : Int) + 1 from by omega] at this
      | false =>
        rw [operand_plain E _ _ p a ha hsg]
        by_cases h40 : bt E.s a = 40
        · rw [if_pos h40]
          exact brk_of k hin E c p a d w g hc hd hk h40 hlt sk
        · rw [if_neg h40]
          exact opd_num g hc (beq_eq_false_iff_ne.2 h40) hsg hlt sk _ rfl

theorem roperand_of (k : Nat) (hin : ∀ j, k = j + 1 → RInSpec j) : ROperandSpec k := fun E c p d w g hc hd hk hp =>
  roperand_fuel k hin E c d g hc hd hk _ p w (Nat.lt_succ_self _) hp
end Go.Proofs.YtkkcoajgpdpfkabDoor
