/- The plain mathematics of layer 1's reader: what a number, an operand, an expression of a string is. No Go. -/
import Derived.PlainAid
namespace Go.Proofs.YtkkcoajgpdpfkabDoor
open Go.PlainAid
namespace Ms

def digB (c : Int) : Bool := decide (48 ≤ c) && decide (c ≤ 57)
def sgnB (c : Int) : Bool := c == 43 || c == 45 || c == 33 || c == 124

/-- The end of at most n digits from p on. -/
def dEnd (s : ByteArray) : Nat → Nat → Nat
  | p, 0 => p
  | p, n + 1 => if digB (bt s p) then dEnd s (p + 1) n else p

/-- The value of the n bytes from p on, as digits. -/
def dVal (s : ByteArray) (p : Nat) : Nat → Int
  | 0 => 0
  | n + 1 => dVal s p n * 10 + (bt s (p + n) - 48)

def tenTo : Nat → Int
  | 0 => 1
  | n + 1 => tenTo n * 10

/-- What one of a scale is. -/
def unitO (c z v : Int) : Option Int :=
  if c = 117 then some 1 else if c = 112 then some 10 else if c = 80 then some 120 else if c = 105 then some 720 else if c = 99 then some 283
  else if c = 109 then some (10 * z) else if c = 110 then some (5 * z) else if c = 118 then some v else none

def validB (z v h : Int) : Bool := decide (0 ≤ z) && decide (z ≤ 1000000) && decide (0 ≤ v) && decide (v ≤ 1000000) && decide (-1000000000 ≤ h) && decide (h ≤ 1000000000)

structure Env where
  s : ByteArray
  z : Int
  v : Int
  h : Int
  one : Int
  bl : Bool

structure Env.Good (E : Env) : Prop where
  z0 : 0 ≤ E.z
  z1 : E.z ≤ 1000000
  v0 : 0 ≤ E.v
  v1 : E.v ≤ 1000000
  h0 : -1000000000 ≤ E.h
  h1 : E.h ≤ 1000000000
  o0 : 0 ≤ E.one
  o1 : E.one ≤ 10000000
  sz : E.s.size ≤ 4611686018427387904

inductive Res (α : Type) where
  | ok (a : α)
  | er (c : Int)

def reck (E : Env) (n : Int) : Res Int := if E.bl then .ok 0 else if -1000000000 ≤ n ∧ n ≤ 1000000000 then .ok n else .er 5

/-- How many digits stand behind a point at p (0: none). -/
def partLen (s : ByteArray) (p : Nat) : Nat := if bt s p = 46 then dEnd s (p + 1) 9 - (p + 1) else 0

def numEnd (s : ByteArray) (p : Nat) : Nat := if partLen s (dEnd s p 9) = 0 then dEnd s p 9 else dEnd s p 9 + 1 + partLen s (dEnd s p 9)

def number (E : Env) (p : Nat) : Res (Int × Nat) :=
  let e1 := dEnd E.s p 9
  let k := partLen E.s e1
  let e := numEnd E.s p
  if e1 = p ∧ k = 0 then .er 4 else
  let u := (unitO (bt E.s e) E.z E.v).getD E.one
  let q := if (unitO (bt E.s e) E.z E.v).isSome then e + 1 else e
  match reck E (dVal E.s p (e1 - p) * u + dVal E.s (e1 + 1) k * u / tenTo k) with
  | .ok n => .ok (n, q)
  | .er c => .er c

/-- Blanks from p on, at most n. -/
def blanks (s : ByteArray) (p : Nat) : Nat := if h : p < s.size then (if bt s p = 32 then blanks s (p + 1) else p) else p
termination_by s.size - p

def skp (s : ByteArray) (ins : Bool) (p : Nat) : Nat := if ins then blanks s p else p

theorem blanks_ge (s : ByteArray) (p : Nat) : p ≤ blanks s p := by
  fun_induction blanks s p <;> omega
theorem skp_ge (s : ByteArray) (i : Bool) (p : Nat) : p ≤ skp s i p := by
  unfold skp; split
  · exact blanks_ge s p
  · omega

/-- Behind the signs (and the blanks behind each) from p on; p is no blank's place where blanks may stand. -/
def sgnEnd (s : ByteArray) (ins : Bool) (p : Nat) : Nat := if h : p < s.size then (if sgnB (bt s p) then sgnEnd s ins (skp s ins (p + 1)) else p) else p
termination_by s.size - p
decreasing_by have := skp_ge s ins (p + 1); omega

def truthI (b : Bool) : Int := if b then 1 else 0

/-- One sign done. -/
def signed (E : Env) (c n : Int) : Res Int :=
  if c = 45 then .ok (-n) else if c = 33 then .ok (truthI (decide (n ≤ 0))) else if c = 124 then reck E (n - E.h) else .ok n

/-- The n bytes from p on done as signs, the last one first. -/
def signBack (E : Env) (p : Nat) : Nat → Int → Res Int
  | 0, v => .ok v
  | n + 1, v => match signed E (bt E.s (p + n)) v with
    | .ok v' => signBack E p n v'
    | .er c => .er c

def opBytes : Nat → ByteArray
  | 0 => ⟨#[60, 61]⟩ | 1 => ⟨#[62, 61]⟩ | 2 => ⟨#[61, 61]⟩ | 3 => ⟨#[43]⟩ | 4 => ⟨#[45]⟩ | 5 => ⟨#[42]⟩ | 6 => ⟨#[47]⟩ | 7 => ⟨#[37]⟩
  | 8 => ⟨#[60]⟩ | 9 => ⟨#[62]⟩ | 10 => ⟨#[61]⟩ | 11 => ⟨#[38]⟩ | 12 => ⟨#[58]⟩ | _ => ⟨#[]⟩

/-- Does operator k stand at p? -/
def opIs (s : ByteArray) (p : Nat) : Nat → Bool
  | 0 => bt s p == 60 && bt s (p + 1) == 61 | 1 => bt s p == 62 && bt s (p + 1) == 61 | 2 => bt s p == 61 && bt s (p + 1) == 61
  | 3 => bt s p == 43 | 4 => bt s p == 45 | 5 => bt s p == 42 | 6 => bt s p == 47 | 7 => bt s p == 37
  | 8 => bt s p == 60 | 9 => bt s p == 62 | 10 => bt s p == 61 | 11 => bt s p == 38 | 12 => bt s p == 58 | _ => true

/-- The first operator from k on that stands at p (13: none). -/
def opFrom (s : ByteArray) (p : Nat) (k : Nat) : Nat := if h : k < 13 then (if opIs s p k then k else opFrom s p (k + 1)) else 13
termination_by 13 - k
def opAt (s : ByteArray) (p : Nat) : Nat := opFrom s p 0

def within (n : Int) : Res Int := if -1000000000 ≤ n ∧ n ≤ 1000000000 then .ok n else .er 5

def holds (k : Nat) (a b : Int) : Bool :=
  match k with
  | 8 => decide (a < b) | 9 => decide (a > b) | 0 => decide (a ≤ b) | 1 => decide (a ≥ b)
  | 11 => decide (a > 0) && decide (b > 0) | 12 => decide (a > 0) || decide (b > 0) | _ => a == b

def done (E : Env) (k : Nat) (a b : Int) : Res Int :=
  if E.bl then .ok 0 else
  match k with
  | 3 => within (a + b) | 4 => within (a - b) | 5 => within (a * b)
  | 6 => if b = 0 then .er 11 else .ok (a.tdiv b) | 7 => if b = 0 then .er 11 else .ok (a.tmod b)
  | k => .ok (truthI (holds k a b))

/-- An operand from p on; br: what stands behind a bracket that was opened. -/
def operand (E : Env) (br : Nat → Res (Int × Nat)) (ins : Bool) (p : Nat) : Res (Int × Nat) :=
  let a := skp E.s ins p
  let t := sgnEnd E.s ins a
  match (if bt E.s t = 40 then br (t + 1) else number E t) with
  | .er c => .er c
  | .ok (n, q) => match signBack E a (t - a) n with
    | .er c => .er c
    | .ok m => .ok (m, q)

/-- Operators and operands behind an operand of value v that ended at p: at most n. Together with the result where the last operand ended. -/
def exprFrom (E : Env) (br : Nat → Res (Int × Nat)) (ins : Bool) : Nat → Int → Nat → Res (Int × Nat) × Nat
  | 0, _, p => (.er 4, p)
  | n + 1, v, p =>
    let q := skp E.s ins p
    let k := opAt E.s q
    if k = 13 then (.ok (v, q), p) else
    match operand E br ins (q + (opBytes k).size) with
    | .er c => (.er c, p)
    | .ok (b, t) => match done E k v b with
      | .er c => (.er c, t)
      | .ok w => exprFrom E br ins n w t

def sum (E : Env) (br : Nat → Res (Int × Nat)) (ins : Bool) (p l : Nat) : Res (Int × Nat) × Nat :=
  match operand E br ins p with
  | .er c => (.er c, l)
  | .ok (v, q) => exprFrom E br ins (E.s.size + 1) v q

/-- Behind a bracket that was opened where k more may be open. -/
def brk (E : Env) : Nat → Nat → Res (Int × Nat)
  | 0, _ => .er 4
  | k + 1, p => match (sum E (brk E k) true p 0).1 with
    | .er c => .er c
    | .ok (v, q) => if bt E.s q = 41 then .ok (v, q + 1) else .er 4

def eval (E : Env) : Res Int := match (sum E (brk E 20) false 0 0).1 with
  | .er c => .er c
  | .ok (v, q) => if q < E.s.size then .er 4 else .ok v

theorem dEnd_ge (s : ByteArray) (n p : Nat) : p ≤ dEnd s p n := by
  induction n generalizing p with
  | zero => simp [dEnd]
  | succ n ih => unfold dEnd; split
                 · have := ih (p + 1); omega
                 · omega
theorem dEnd_le (s : ByteArray) (n p : Nat) : dEnd s p n ≤ p + n := by
  induction n generalizing p with
  | zero => simp [dEnd]
  | succ n ih => unfold dEnd; split
                 · have := ih (p + 1); omega
                 · omega
theorem lt_of_bt {s : ByteArray} {p : Nat} (h : bt s p ≠ 0) : p < s.size := by
  rcases Nat.lt_or_ge p s.size with h' | h'
  · exact h'
  · exact absurd (bt_end s h') h
theorem dEnd_size (s : ByteArray) (n p : Nat) (h : p ≤ s.size) : dEnd s p n ≤ s.size := by
  induction n generalizing p with
  | zero => simpa [dEnd] using h
  | succ n ih => unfold dEnd; split
                 · rename_i hd
                   exact ih (p + 1) (by have : p < s.size := lt_of_bt (by simp [digB] at hd; omega); omega)
                 · exact h
theorem dEnd_dig (s : ByteArray) (n p j : Nat) (h1 : p ≤ j) (h2 : j < dEnd s p n) : digB (bt s j) = true := by
  induction n generalizing p with
  | zero => simp [dEnd] at h2; omega
  | succ n ih =>
    unfold dEnd at h2; split at h2
    · rename_i hd
      by_cases e : j = p
      · rw [e]; exact hd
      · exact ih (p + 1) (by omega) h2
    · omega
theorem tenTo_pos (n : Nat) : 1 ≤ tenTo n := by
  induction n with
  | zero => simp [tenTo]
  | succ n ih => simp [tenTo]; omega
theorem tenTo_mono {m n : Nat} (h : m ≤ n) : tenTo m ≤ tenTo n := by
  induction n with
  | zero => obtain rfl : m = 0 := by omega
            exact Int.le_refl _
  | succ n ih =>
    by_cases e : m = n + 1
    · rw [e]; exact Int.le_refl _
    · have h1 := ih (by omega); have h2 := tenTo_pos n; simp [tenTo]; omega
theorem dVal_bd (s : ByteArray) (p n : Nat) (h : ∀ j, p ≤ j → j < p + n → digB (bt s j) = true) : 0 ≤ dVal s p n ∧ dVal s p n < tenTo n := by
  induction n with
  | zero => simp [dVal, tenTo]
  | succ n ih =>
    have h1 := ih (fun j a b => h j a (by omega))
    have h2 := h (p + n) (by omega) (by omega)
    simp [digB] at h2
    simp [dVal, tenTo]; omega
theorem tenTo9 : tenTo 9 = 1000000000 := by decide
end Ms
end Go.Proofs.YtkkcoajgpdpfkabDoor
