/- Operators from the left: the plain mathematics of digits, operators and a bracket. No Go. -/
import Derived.Test.YtkkcoajgpdpfkabDoorDigits
import Derived.Test.YtkkcoajgpdpfkabDoorMsBd
import Derived.Test.YtkkcoajgpdpfkabDoorMsOperand
import Derived.Test.YtkkcoajgpdpfkabDoorMsSum
import Derived.Test.YtkkcoajgpdpfkabDoorMsEval
namespace Go.Proofs.YtkkcoajgpdpfkabDoor
open Go.RowKit Go.PlainAid

/-- D stands in s from p on. -/
def At (s : ByteArray) (p : Nat) (D : ByteArray) : Prop := ∀ j, j < D.size → bt s (p + j) = bt D j
theorem at_self (a d : ByteArray) : At (a ++ d) 0 a := fun j h => by rw [Nat.zero_add]; exact bt_left a d h
theorem at_right (a d : ByteArray) : At (a ++ d) a.size d := fun j _ => bt_right a d j
theorem At.left {a D : ByteArray} {p : Nat} (h : At a p D) (hp : p + D.size ≤ a.size) (d : ByteArray) : At (a ++ d) p D := fun j hj => by
  rw [bt_left a d (by omega)]; exact h j hj

/-- A byte that ends a number's text: no digit, no point, no scale. -/
structure Stops (c : Int) : Prop where
  dig : Ms.digB c = false
  pt : c ≠ 46
  un : Ms.unitO c 0 0 = none

def plainE (s : ByteArray) : Ms.Env := ⟨s, 0, 0, 0, 1, false⟩
theorem evalM_plain (s : ByteArray) : evalM s 117 0 0 0 = Ms.eval (plainE s) := rfl

theorem dEnd_says {s D : ByteArray} {p : Nat} (hd : ∀ j, j < D.size → Ms.digB (bt D j) = true) (h : At s p D) (hs : Ms.digB (bt s (p + D.size)) = false) : ∀ (n k : Nat), k ≤ D.size → D.size - k ≤ n → Ms.dEnd s (p + k) n = p + D.size
  | 0, k, hk, hn => by rw [show k = D.size from by omega]; rfl
  | n + 1, k, hk, hn => by
    by_cases e : k = D.size
    · rw [e]; exact dEnd_no hs
    · rw [dEnd_yes (by rw [h k (by omega)]; exact hd k (by omega)), Nat.add_assoc]
      exact dEnd_says hd h hs n (k + 1) (by omega) (by omega)
theorem dVal_at {s D : ByteArray} {p : Nat} (h : At s p D) : ∀ n, n ≤ D.size → Ms.dVal s p n = Ms.dVal D 0 n
  | 0, _ => rfl
  | n + 1, hn => by rw [Ms.dVal, Ms.dVal, dVal_at h n (by omega), h n (by omega), Nat.zero_add]

theorem number_says {s D : ByteArray} {p n : Nat} (hD : Says D n) (hn : n ≤ 1000000000) (h : At s p D) (hs : Stops (bt s (p + D.size))) : Ms.number (plainE s) p = .ok ((n : Int), p + D.size) := by
  have hp := hD.pos
  have h1 : Ms.dEnd (plainE s).s p 9 = p + D.size := dEnd_says hD.dig h hs.dig 9 0 (by omega) (by have := hD.le; omega)
  have h2 : Ms.partLen (plainE s).s (p + D.size) = 0 := part_none0 hs.pt
  have hpe : partEnd (p + D.size) 0 = p + D.size := rfl
  have h3 : (Ms.unitO (bt (plainE s).s (partEnd (p + D.size) 0)) (plainE s).z (plainE s).v) = none := hs.un
  rw [number_is (E := plainE s) (p := p) h1 h2 (by omega) rfl rfl rfl rfl rfl, h3]
  have hv : Ms.dVal (plainE s).s p (p + D.size - p) = n := by
    rw [show p + D.size - p = D.size from by omega]
    exact (dVal_at h _ (Nat.le_refl _)).trans hD.val
  rw [hv]
  have hr : Ms.reck (plainE s) ((n : Int) * (Option.getD none (plainE s).one) + Ms.dVal (plainE s).s (p + D.size + 1) 0 * (Option.getD none (plainE s).one) / Ms.tenTo 0) = .ok (n : Int) := by
    show (if false = true then _ else _) = _
    rw [if_neg (by simp)]
    show (if _ then _ else _) = _
    simp only [Ms.dVal, Ms.tenTo, Option.getD]
    show (if -1000000000 ≤ (n : Int) * 1 + 0 * 1 / 1 ∧ (n : Int) * 1 + 0 * 1 / 1 ≤ 1000000000 then Ms.Res.ok ((n : Int) * 1 + 0 * 1 / 1) else .er 5) = _
    rw [show (n : Int) * 1 + 0 * 1 / 1 = n from by omega, if_pos (by omega)]
  rw [hr]
  rfl

theorem operand_says {s D : ByteArray} {p n : Nat} (br : Nat → Ms.Res (Int × Nat)) (i : Bool) (hD : Says D n) (hn : n ≤ 1000000000) (h : At s p D) (hs : Stops (bt s (p + D.size))) : Ms.operand (plainE s) br i p = .ok ((n : Int), p + D.size) := by
  have hc : Ms.digB (bt s p) = true := by have := h 0 hD.pos; rw [Nat.add_zero] at this; rw [this]; exact hD.dig 0 hD.pos
  have hb := byte_sub _ hc
  have h1 : Ms.skp (plainE s).s i p = p := by
    unfold Ms.skp; split
    · exact blanks_not (s := s) (by omega)
    · rfl
  have h2 : Ms.sgnEnd (plainE s).s i p = p := sgn_no (s := s) (by simp [Ms.sgnB]; omega)
  have h3 : ¬ bt (plainE s).s p = 40 := by show ¬ bt s p = 40; omega
  unfold Ms.operand
  simp only [h1, h2, if_neg h3, number_says hD hn h hs, Nat.sub_self, Ms.signBack]

/-- The operators of one byte, in the law's order. -/
def opC : Nat → Int
  | 0 => 43 | 1 => 45 | 2 => 42 | 3 => 47 | 4 => 37 | 5 => 60 | 6 => 62 | 7 => 61 | 8 => 38 | _ => 58
theorem ways10 {k : Nat} (h : k < 10) : k = 0 ∨ k = 1 ∨ k = 2 ∨ k = 3 ∨ k = 4 ∨ k = 5 ∨ k = 6 ∨ k = 7 ∨ k = 8 ∨ k = 9 := by omega
theorem opAt_says {s : ByteArray} {a i : Nat} (hi : i < 10) (h : bt s a = opC i) (hd : Ms.digB (bt s (a + 1)) = true) : Ms.opAt s a = i + 3 ∧ (Ms.opBytes (i + 3)).size = 1 := by
  have h1 := byte_sub _ hd
  have h2 : (bt s (a + 1) == 61) = false := by rw [beq_eq_false_iff_ne]; omega
  rcases ways10 hi with rfl | rfl | rfl | rfl | rfl | rfl | rfl | rfl | rfl | rfl
  all_goals
    refine ⟨?_, rfl⟩
    simp [Ms.opAt, Ms.opFrom, Ms.opIs, h, h2, opC]
theorem stops_op {i : Nat} (hi : i < 10) : Stops (opC i) := by
  rcases ways10 hi with rfl | rfl | rfl | rfl | rfl | rfl | rfl | rfl | rfl | rfl
  all_goals exact ⟨rfl, by simp [opC], rfl⟩
theorem stops_end : Stops 0 := ⟨rfl, by omega, rfl⟩
theorem stops_close : Stops 41 := ⟨rfl, by omega, rfl⟩
theorem op_none {s : ByteArray} {a : Nat} (h : bt s a = 0 ∨ bt s a = 41) : Ms.opAt s a = 13 := by
  rcases h with h | h <;> simp [Ms.opAt, Ms.opFrom, Ms.opIs, h]

theorem skp_says {s : ByteArray} {i : Bool} {a : Nat} (h : bt s a ≠ 32) : Ms.skp s i a = a := by
  unfold Ms.skp; split
  · exact blanks_not h
  · rfl
theorem opC_ne {i : Nat} (hi : i < 10) : opC i ≠ 32 := by
  rcases ways10 hi with rfl | rfl | rfl | rfl | rfl | rfl | rfl | rfl | rfl | rfl <;> simp [opC]

/-- An operator of one byte, and a number behind it. -/
theorem expr_says {s D : ByteArray} {q i n m : Nat} {x : Int} (br : Nat → Ms.Res (Int × Nat)) (ins : Bool) (hi : i < 10) (h : bt s q = opC i) (hD : Says D n) (hn : n ≤ 1000000000) (ha : At s (q + 1) D) (hs : Stops (bt s (q + 1 + D.size))) :
    Ms.exprFrom (plainE s) br ins (m + 1) x q = (match Ms.done (plainE s) (i + 3) x n with | .er c => (.er c, q + 1 + D.size) | .ok w => Ms.exprFrom (plainE s) br ins m w (q + 1 + D.size)) := by
  have hc : Ms.digB (bt s (q + 1)) = true := by have := ha 0 hD.pos; rw [Nat.add_zero] at this; rw [this]; exact hD.dig 0 hD.pos
  obtain ⟨h1, h2⟩ := opAt_says hi h hc
  have hk : Ms.skp (plainE s).s ins q = q := skp_says (s := s) (by rw [h]; exact opC_ne hi)
  rw [expr_next (E := plainE s) (p := q) (a := q) (k := i + 3) (r := .ok ((n : Int), q + 1 + D.size)) hk h1 (by omega) (by rw [h2]; exact operand_says br ins hD hn ha hs)]
  rfl
theorem expr_end {s : ByteArray} {q m : Nat} {x : Int} (br : Nat → Ms.Res (Int × Nat)) (ins : Bool) (h : bt s q = 0 ∨ bt s q = 41) : Ms.exprFrom (plainE s) br ins (m + 1) x q = (.ok (x, q), q) :=
  expr_13 (E := plainE s) (skp_says (s := s) (by rcases h with h | h <;> omega)) (op_none h)

/-- What 'x p y q z' comes to. -/
def twoOf (i j : Nat) (x y z : Int) : Ms.Res Int := match Ms.done (plainE ⟨#[]⟩) (i + 3) x y with
  | .er c => .er c
  | .ok w => Ms.done (plainE ⟨#[]⟩) (j + 3) w z
theorem done_env (s : ByteArray) (k : Nat) (x y : Int) : Ms.done (plainE s) k x y = Ms.done (plainE ⟨#[]⟩) k x y := rfl

theorem eval_flat {s X Y Z : ByteArray} {i j x y z : Nat} (hi : i < 10) (hj : j < 10) (hX : Says X x) (hY : Says Y y) (hZ : Says Z z) (hx : x ≤ 1000000000) (hy : y ≤ 1000000000) (hz : z ≤ 1000000000)
    (aX : At s 0 X) (aP : bt s X.size = opC i) (aY : At s (X.size + 1) Y) (aQ : bt s (X.size + 1 + Y.size) = opC j) (aZ : At s (X.size + 1 + Y.size + 1) Z) (hs : s.size = X.size + 1 + Y.size + 1 + Z.size) :
    Ms.eval (plainE s) = twoOf i j x y z := by
  have hX0 := hX.pos
  obtain ⟨f, hf⟩ : ∃ f, s.size = f + 1 + 1 := ⟨s.size - 2, by omega⟩
  have h0 : Ms.sum (plainE s) (Ms.brk (plainE s) 20) false 0 0 = Ms.exprFrom (plainE s) (Ms.brk (plainE s) 20) false (s.size + 1) x X.size := by
    unfold Ms.sum
    rw [operand_says _ false hX hx aX (by rw [Nat.zero_add, aP]; exact stops_op hi)]
    show Ms.exprFrom _ _ _ _ _ (0 + X.size) = _
    rw [Nat.zero_add]; rfl
  have hend : bt s (X.size + 1 + Y.size + 1 + Z.size) = 0 := bt_end s (by omega)
  unfold Ms.eval twoOf
  rw [h0, hf, expr_says _ false hi aP hY hy aY (by rw [aQ]; exact stops_op hj), done_env]
  cases h1 : Ms.done (plainE ⟨#[]⟩) (i + 3) x y with
  | er c => rfl
  | ok w =>
    simp only []
    rw [expr_says _ false hj aQ hZ hz aZ (by rw [hend]; exact stops_end), done_env]
    cases h2 : Ms.done (plainE ⟨#[]⟩) (j + 3) w z with
    | er c => rfl
    | ok v =>
      simp only []
      rw [expr_end _ false (.inl hend)]
      simp only []
      rw [if_neg (by show ¬ _ < s.size; omega)]

theorem eval_brack {s X Y Z : ByteArray} {i j x y z : Nat} (hi : i < 10) (hj : j < 10) (hX : Says X x) (hY : Says Y y) (hZ : Says Z z) (hx : x ≤ 1000000000) (hy : y ≤ 1000000000) (hz : z ≤ 1000000000)
    (aO : bt s 0 = 40) (aX : At s 1 X) (aP : bt s (1 + X.size) = opC i) (aY : At s (1 + X.size + 1) Y) (aC : bt s (1 + X.size + 1 + Y.size) = 41) (aQ : bt s (1 + X.size + 1 + Y.size + 1) = opC j) (aZ : At s (1 + X.size + 1 + Y.size + 1 + 1) Z) (hs : s.size = 1 + X.size + 1 + Y.size + 1 + 1 + Z.size) :
    Ms.eval (plainE s) = twoOf i j x y z := by
  have hX0 := hX.pos
  obtain ⟨f, hf⟩ : ∃ f, s.size = f + 1 + 1 := ⟨s.size - 2, by omega⟩
  have hin : (Ms.sum (plainE s) (Ms.brk (plainE s) 19) true 1 0).1 = (match Ms.done (plainE ⟨#[]⟩) (i + 3) x y with | .er c => .er c | .ok w => .ok (w, 1 + X.size + 1 + Y.size)) := by
    unfold Ms.sum
    rw [operand_says _ true hX hx aX (by rw [aP]; exact stops_op hi)]
    simp only []
    rw [show (plainE s).s.size = f + 1 + 1 from hf, expr_says _ true hi aP hY hy aY (by rw [aC]; exact stops_close), done_env]
    cases h1 : Ms.done (plainE ⟨#[]⟩) (i + 3) x y with
    | er c => rfl
    | ok w =>
      simp only []
      rw [expr_end _ true (.inr aC)]
  have hop : Ms.operand (plainE s) (Ms.brk (plainE s) 20) false 0 = (match Ms.done (plainE ⟨#[]⟩) (i + 3) x y with | .er c => .er c | .ok w => .ok (w, 1 + X.size + 1 + Y.size + 1)) := by
    have h2 : Ms.sgnEnd (plainE s).s false 0 = 0 := sgn_no (s := s) (by rw [aO]; rfl)
    unfold Ms.operand
    simp only [show Ms.skp (plainE s).s false 0 = 0 from rfl, h2]
    rw [if_pos (show bt (plainE s).s 0 = 40 from aO)]
    rw [show Ms.brk (plainE s) 20 (0 + 1) = closeB s (Ms.sum (plainE s) (Ms.brk (plainE s) 19) true 1 0).1 from rfl, hin]
    cases h1 : Ms.done (plainE ⟨#[]⟩) (i + 3) x y with
    | er c => rfl
    | ok w =>
      rw [show closeB s (.ok (w, 1 + X.size + 1 + Y.size)) = .ok (w, 1 + X.size + 1 + Y.size + 1) from if_pos aC]
      rfl
  have hend : bt s (1 + X.size + 1 + Y.size + 1 + 1 + Z.size) = 0 := bt_end s (by omega)
  unfold Ms.eval Ms.sum twoOf
  rw [hop]
  cases h1 : Ms.done (plainE ⟨#[]⟩) (i + 3) x y with
  | er c => rfl
  | ok w =>
    simp only []
    rw [show (plainE s).s.size = f + 1 + 1 from hf, expr_says _ false hj aQ hZ hz aZ (by rw [hend]; exact stops_end), done_env]
    cases h2 : Ms.done (plainE ⟨#[]⟩) (j + 3) w z with
    | er c => rfl
    | ok v =>
      simp only []
      rw [expr_end _ false (.inl hend)]
      simp only []
      rw [if_neg (by omega)]
end Go.Proofs.YtkkcoajgpdpfkabDoor
