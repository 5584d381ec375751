/- An operand, one sign at a time, as the reference reads it. No Go. -/
import Derived.Test.YtkkcoajgpdpfkabDoorMsPrefix
namespace Go.Proofs.YtkkcoajgpdpfkabDoor
open Go.RowKit Go.PlainAid

theorem back_append (E : Ms.Env) (p m : Nat) : ∀ (n : Nat) (v : Int), Ms.signBack E p (m + n) v = (match Ms.signBack E (p + m) n v with | .ok y => Ms.signBack E p m y | .er c => .er c)
  | 0, v => rfl
  | n + 1, v => by
    rw [← Nat.add_assoc, Ms.signBack, Ms.signBack, Nat.add_assoc p m n]
    cases Ms.signed E (bt E.s (p + (m + n))) v with
    | er c => rfl
    | ok y => exact back_append E p m n y
theorem back_blank (E : Ms.Env) (p : Nat) : ∀ (n : Nat) (v : Int), (∀ j, p ≤ j → j < p + n → bt E.s j = 32) → Ms.signBack E p n v = .ok v
  | 0, v, _ => rfl
  | n + 1, v, h => by
    rw [Ms.signBack, h (p + n) (by omega) (by omega)]
    rw [show Ms.signed E 32 v = .ok v from by simp [Ms.signed]]
    exact back_blank E p n v (fun j a b => h j a (by omega))
theorem blanks_are (s : ByteArray) (p j : Nat) (h1 : p ≤ j) (h2 : j < Ms.blanks s p) : bt s j = 32 := by
  fun_induction Ms.blanks s p
  case case1 p hlt hb ih =>
    by_cases e : j = p
    · rw [e]; exact hb
    · exact ih (by omega) h2
  case case2 => omega
  case case3 => omega
theorem skp_are (s : ByteArray) (i : Bool) (p j : Nat) (h1 : p ≤ j) (h2 : j < Ms.skp s i p) : bt s j = 32 := by
  unfold Ms.skp at h2
  split at h2
  · exact blanks_are s p j h1 h2
  · omega

/-- A sign done to what is read behind it. -/
def signOf (E : Ms.Env) (c : Int) (r : Ms.Res (Int × Nat)) : Ms.Res (Int × Nat) := match r with
  | .er c => .er c
  | .ok (n, q) => match Ms.signed E c n with | .er c => .er c | .ok m => .ok (m, q)

theorem operand_sign (E : Ms.Env) (br : Nat → Ms.Res (Int × Nat)) (i : Bool) (p a : Nat) (ha : Ms.skp E.s i p = a) (hs : Ms.sgnB (bt E.s a) = true) :
    Ms.operand E br i p = signOf E (bt E.s a) (Ms.operand E br i (a + 1)) := by
  have hlt : a < E.s.size := sgn_lt hs
  have b0 := Ms.skp_ge E.s i (a + 1)
  have t0 := sgnEnd_ge E.s i (Ms.skp E.s i (a + 1))
  have hst : Ms.sgnEnd E.s i a = Ms.sgnEnd E.s i (Ms.skp E.s i (a + 1)) := sgn_yes hlt hs
  have hbl := skp_are E.s i (a + 1)
  unfold Ms.operand
  simp only [ha, hst]
  generalize Ms.skp E.s i (a + 1) = b at *
  generalize Ms.sgnEnd E.s i b = t at *
  generalize (if bt E.s t = 40 then br (t + 1) else Ms.number E t) = r
  rcases r with ⟨n, q⟩ | c
  · simp only []
    have e1 : Ms.signBack E a (t - a) n = (match Ms.signBack E b (t - b) n with | .ok y => Ms.signed E (bt E.s a) y | .er c => .er c) := by
      have h1 := back_append E a (b - a) (t - b) n
      rw [show b - a + (t - b) = t - a from by omega, show a + (b - a) = b from by omega] at h1
      rw [h1]
      cases Ms.signBack E b (t - b) n with
      | er c => rfl
      | ok y =>
        simp only []
        have h2 := back_append E a 1 (b - a - 1) y
        rw [show 1 + (b - a - 1) = b - a from by omega] at h2
        rw [h2, back_blank E (a + 1) _ y (fun j x z => hbl j x (by omega))]
        simp only []
        rw [Ms.signBack, Nat.add_zero]
        cases Ms.signed E (bt E.s a) y <;> rfl
    rw [e1]
    cases Ms.signBack E b (t - b) n with
    | er c => rfl
    | ok y =>
      simp only [signOf]
      cases Ms.signed E (bt E.s a) y <;> rfl
  · rfl

theorem operand_plain (E : Ms.Env) (br : Nat → Ms.Res (Int × Nat)) (i : Bool) (p a : Nat) (ha : Ms.skp E.s i p = a) (hs : Ms.sgnB (bt E.s a) = false) :
    Ms.operand E br i p = (if bt E.s a = 40 then br (a + 1) else Ms.number E a) := by
  unfold Ms.operand
  simp only [ha, sgn_no hs, Nat.sub_self, Ms.signBack]
  generalize (if bt E.s a = 40 then br (a + 1) else Ms.number E a) = r
  rcases r with ⟨n, q⟩ | c <;> rfl

theorem exprFrom_skip (E : Ms.Env) (br : Nat → Ms.Res (Int × Nat)) (i : Bool) : ∀ (n : Nat) (x : Int) (p : Nat) (v : Int) (q : Nat), (Ms.exprFrom E br i n x p).1 = .ok (v, q) → q = Ms.skp E.s i (Ms.exprFrom E br i n x p).2
  | 0, _, _, _, _, h => by cases h
  | n + 1, x, p, v, q, h => by
    unfold Ms.exprFrom at h ⊢
    simp only [] at h ⊢
    by_cases hk : Ms.opAt E.s (Ms.skp E.s i p) = 13
    · rw [if_pos hk] at h ⊢
      injection h with h
      injection h with h1 h2
      exact h2.symm
    · rw [if_neg hk] at h ⊢
      split at h
      · cases h
      · rename_i b t ht
        split at h
        · cases h
        · rename_i w hw
          try rw [hw]
          exact exprFrom_skip E br i n w t v q h
theorem sum_skip (E : Ms.Env) (br : Nat → Ms.Res (Int × Nat)) (i : Bool) (p l : Nat) (v : Int) (q : Nat) (h : (Ms.sum E br i p l).1 = .ok (v, q)) : q = Ms.skp E.s i (Ms.sum E br i p l).2 := by
  unfold Ms.sum at h ⊢
  split at h
  · cases h
  · rename_i x t ht
    exact exprFrom_skip E br i _ x t v q h

/-- The form alone does not hang on the context. -/
theorem number_form {E F : Ms.Env} (hs : E.s = F.s) (he : E.bl = true) (hf : F.bl = true) (p : Nat) : Ms.number E p = Ms.number F p := by
  have hu : ∀ c, (Ms.unitO c E.z E.v).isSome = (Ms.unitO c F.z F.v).isSome := fun c => by
    unfold Ms.unitO
    repeat' split
    all_goals rfl
  unfold Ms.number
  simp only [hs, hu, Ms.reck, he, hf, if_true]
theorem signed_form {E F : Ms.Env} (he : E.bl = true) (hf : F.bl = true) (c n : Int) : Ms.signed E c n = Ms.signed F c n := by
  unfold Ms.signed Ms.reck
  simp [he, hf]
theorem back_form {E F : Ms.Env} (hs : E.s = F.s) (he : E.bl = true) (hf : F.bl = true) (p : Nat) : ∀ (n : Nat) (v : Int), Ms.signBack E p n v = Ms.signBack F p n v
  | 0, _ => rfl
  | n + 1, v => by
    rw [Ms.signBack, Ms.signBack, hs, signed_form he hf]
    cases Ms.signed F (bt F.s (p + n)) v with
    | er c => rfl
    | ok y => exact back_form hs he hf p n y
theorem operand_form {E F : Ms.Env} (hs : E.s = F.s) (he : E.bl = true) (hf : F.bl = true) (br : Nat → Ms.Res (Int × Nat)) (i : Bool) (p : Nat) : Ms.operand E br i p = Ms.operand F br i p := by
  unfold Ms.operand
  simp only [hs, number_form hs he hf, back_form hs he hf]
theorem from_form {E F : Ms.Env} (hs : E.s = F.s) (he : E.bl = true) (hf : F.bl = true) (br : Nat → Ms.Res (Int × Nat)) (i : Bool) : ∀ (n : Nat) (x : Int) (p : Nat), Ms.exprFrom E br i n x p = Ms.exprFrom F br i n x p
  | 0, _, _ => rfl
  | n + 1, x, p => by
    have hd : ∀ k a b, Ms.done E k a b = Ms.done F k a b := fun k a b => by unfold Ms.done; rw [he, hf]
    unfold Ms.exprFrom
    simp only [hs, operand_form hs he hf, hd]
    split
    · rfl
    · split
      · rfl
      · split
        · rfl
        · exact from_form hs he hf br i n _ _
theorem sum_form {E F : Ms.Env} (hs : E.s = F.s) (he : E.bl = true) (hf : F.bl = true) (br : Nat → Ms.Res (Int × Nat)) (i : Bool) (p l : Nat) : Ms.sum E br i p l = Ms.sum F br i p l := by
  unfold Ms.sum
  rw [operand_form hs he hf br i p]
  split
  · rfl
  · rw [from_form hs he hf, hs]
theorem brk_form {E F : Ms.Env} (hs : E.s = F.s) (he : E.bl = true) (hf : F.bl = true) : ∀ (k : Nat), Ms.brk E k = Ms.brk F k
  | 0 => rfl
  | k + 1 => by
    funext p
    rw [Ms.brk, Ms.brk, brk_form hs he hf k, sum_form hs he hf, hs]
end Go.Proofs.YtkkcoajgpdpfkabDoor
