/- The reference's sum, at every depth. -/
import Derived.Test.YtkkcoajgpdpfkabDoorRfSum2
namespace Go.Proofs.YtkkcoajgpdpfkabDoor
open Go.RowKit Go.PlainAid

theorem round_of (k : Nat) (hop : ROperandSpec k) (E : Ms.Env) (c d : Int) (g : E.Good) (hc : Ms.unitO c E.z E.v = some E.one) (hd : d = 20 - k) (hk : k ≤ 20) : Round E c d (Ms.brk E k) (decide (0 < d)) where
  skip t ht w := rskip_any E g.sz c d t ht w
  oper a w := roperator_any E g.sz c a w
  opd t ht w := hop E c t d w g hc hd hk ht
  fine t ht := operand_fine E _ (brk_fine E k) _ t ht
  nz t := nz_operand E _ (nz_brk E k) _ t

theorem rsum_of (k : Nat) (hop : ROperandSpec k) (E : Ms.Env) (c d : Int) (p : Nat) (w : World) (g : E.Good) (hc : Ms.unitO c E.z E.v = some E.one) (hd : d = 20 - k) (hk : k ≤ 20) (hp : p ≤ E.s.size) (hm : E.bl = true → (d == 0) = false) :
    Sm E c d p (SOut (Ms.sum E (Ms.brk E k) (decide (0 < d)) p 0) E.bl w) w := by
  have R := round_of k hop E c d g hc hd hk
  have hnz := R.nz p
  have hpd := R.opd p hp
  rcases hr : Ms.operand E (Ms.brk E k) (decide (0 < d)) p with ⟨v, q⟩ | cc
  · exact sum_round_start R g.sz hp hr E.bl rfl hm (by omega) (by omega)
  · rw [hr] at hnz hpd
    have hcc : (cc == 0) = false := by have := nz3 hnz rfl; rw [bne, Bool.not_eq_true'] at this; exact this
    have hs : Ms.sum E (Ms.brk E k) (decide (0 < d)) p 0 = (.er cc, 0) := by unfold Ms.sum; rw [hr]
    rw [hs]
    exact (sum_first_er hcc hpd).mono (fun e w' h => h)

theorem rin_of : ∀ k, RInSpec k
  | k => fun E c p d w g hc hd hk hp => by
    have hop : ROperandSpec k := roperand_of k (fun j hj => by subst hj; exact rin_of j)
    have := rsum_of k hop E c d p w g hc hd (by omega) hp (fun _ => beq_eq_false_iff_ne.2 (by omega))
    rwa [show decide (0 < d) = true from by simp; omega] at this
theorem roperand_any (k : Nat) : ROperandSpec k := roperand_of k (fun j _ => rin_of j)
/-- The reference's sum where more than the form is asked. -/
theorem rsum_top (E : Ms.Env) (c : Int) (p : Nat) (w : World) (g : E.Good) (hc : Ms.unitO c E.z E.v = some E.one) (hp : p ≤ E.s.size) (hbl : E.bl = false) :
    Sm E c 0 p (SOut (Ms.sum E (Ms.brk E 20) false p 0) E.bl w) w := by
  have := rsum_of 20 (roperand_any 20) E c 0 p w g hc (by omega) (by omega) hp (fun h => by rw [hbl] at h; cases h)
  simpa using this
end Go.Proofs.YtkkcoajgpdpfkabDoor
