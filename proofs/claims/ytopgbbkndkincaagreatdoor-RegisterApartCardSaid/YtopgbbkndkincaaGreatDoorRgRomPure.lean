/- Roman numbers: the mathematics. No Go. -/
import Derived.Test.YtopgbbkndkincaaGreatDoorRgPure
import Derived.Lib.Repeat
import Derived.Lib.Case
import Derived.Lib.Strings
namespace Go.Proofs.YtopgbbkndkincaaGreatDoor
open Go.PlainAid

/-- The numerals, the greatest first. -/
def romT : List (Nat × List UInt8) := [(1000, [109]), (900, [99, 109]), (500, [100]), (400, [99, 100]), (100, [99]), (90, [120, 99]), (50, [108]), (40, [120, 108]), (10, [120]), (9, [105, 120]), (5, [118]), (4, [105, 118]), (1, [105])]
/-- A number in the numerals of a table. -/
def romL : List (Nat × List UInt8) → Nat → List UInt8
  | [], _ => []
  | p :: r, n => Lib.repeatL p.2 (n / p.1) ++ romL r (n % p.1)
/-- How often a text stands at the front, and what is behind it. -/
def strip (t : List UInt8) : Nat → List UInt8 → Nat × List UInt8
  | 0, l => (0, l)
  | f + 1, l => if t.isPrefixOf l then ((strip t f (l.drop t.length)).1 + 1, (strip t f (l.drop t.length)).2) else (0, l)
/-- What the numerals at the front come to, in their order. -/
def sumL : List (Nat × List UInt8) → List UInt8 → Nat
  | [], _ => 0
  | p :: r, l => (strip p.2 l.length l).1 * p.1 + sumL r (strip p.2 l.length l).2

theorem strip_fuel {t : List UInt8} (ht : 0 < t.length) : ∀ (f g : Nat) (l : List UInt8), l.length ≤ f → l.length ≤ g → strip t f l = strip t g l
  | 0, 0, _, _, _ => rfl
  | 0, g + 1, l, h, _ => by
    have hl : l = [] := List.length_eq_zero_iff.1 (by omega)
    subst hl
    unfold strip
    rw [if_neg]
    intro hp
    have := List.IsPrefix.length_le (List.isPrefixOf_iff_prefix.1 hp)
    rw [List.length_nil] at this; omega
  | f + 1, 0, l, _, h => by
    have hl : l = [] := List.length_eq_zero_iff.1 (by omega)
    subst hl
    unfold strip
    rw [if_neg]
    intro hp
    have := List.IsPrefix.length_le (List.isPrefixOf_iff_prefix.1 hp)
    rw [List.length_nil] at this; omega
  | f + 1, g + 1, l, h1, h2 => by
    unfold strip
    split
    · rename_i hp
      have hl := List.IsPrefix.length_le (List.isPrefixOf_iff_prefix.1 hp)
      rw [strip_fuel ht f g (l.drop t.length) (by rw [List.length_drop]; omega) (by rw [List.length_drop]; omega)]
    · rfl
/-- What is left to be added up, of the text that is there. -/
def sumAt (p : Nat × List UInt8) (r : List (Nat × List UInt8)) (l : List UInt8) : Nat := sumL (p :: r) l
theorem sumAt_yes {v : Nat} {t : List UInt8} {r : List (Nat × List UInt8)} {l : List UInt8} (ht : 0 < t.length) (hp : t.isPrefixOf l = true) : sumL ((v, t) :: r) l = v + sumL ((v, t) :: r) (l.drop t.length) := by
  have hl := List.IsPrefix.length_le (List.isPrefixOf_iff_prefix.1 hp)
  simp only [sumL]
  obtain ⟨f, hf⟩ : ∃ f, l.length = f + 1 := ⟨l.length - 1, by omega⟩
  rw [hf]
  conv => lhs; unfold strip
  rw [if_pos hp]
  simp only []
  rw [strip_fuel ht f (l.drop t.length).length (l.drop t.length) (by rw [List.length_drop]; omega) (Nat.le_refl _)]
  rw [Nat.add_mul]; omega
theorem sumAt_no {v : Nat} {t : List UInt8} {r : List (Nat × List UInt8)} {l : List UInt8} (hp : t.isPrefixOf l = false) : sumL ((v, t) :: r) l = sumL r l := by
  simp only [sumL]
  have : strip t l.length l = (0, l) := by
    cases l.length with
    | zero => rfl
    | succ f => unfold strip; rw [if_neg (by rw [hp]; simp)]
  rw [this]; simp

/-- No text of a lesser number begins with a numeral of the table's front. -/
def apart : List (Nat × List UInt8) → Bool
  | [] => true
  | p :: r => (List.range p.1).all (fun m => !(p.2.isPrefixOf (romL r m))) && apart r
theorem romT_apart : apart romT = true := by decide +kernel

theorem prefix_self (t x : List UInt8) : t.isPrefixOf (t ++ x) = true := List.isPrefixOf_iff_prefix.2 (List.prefix_append t x)
theorem sum_repeat {v : Nat} {t : List UInt8} {r : List (Nat × List UInt8)} {x : List UInt8} (ht : 0 < t.length) (hx : t.isPrefixOf x = false) : ∀ c, sumL ((v, t) :: r) (Lib.repeatL t c ++ x) = c * v + sumL r x
  | 0 => by rw [show Lib.repeatL t 0 = [] from rfl, List.nil_append, sumAt_no hx]; omega
  | c + 1 => by
    rw [show Lib.repeatL t (c + 1) = t ++ Lib.repeatL t c from rfl, List.append_assoc, sumAt_yes ht (prefix_self _ _), List.drop_left, sum_repeat ht hx c, Nat.add_mul]
    omega
theorem sum_rom : ∀ (T : List (Nat × List UInt8)) (n : Nat), apart T = true → (T.all fun p => decide (0 < p.1) && decide (0 < p.2.length)) = true → (∀ p ∈ T.getLast?, p.1 = 1) → T ≠ [] → sumL T (romL T n) = n
  | [], _, _, _, _, h => absurd rfl h
  | (v, t) :: r, n, ha, hp, hl, _ => by
    simp only [apart, Bool.and_eq_true, List.all_eq_true, List.mem_range, Bool.not_eq_true'] at ha
    simp only [List.all_cons, Bool.and_eq_true, decide_eq_true_eq] at hp
    obtain ⟨⟨hv, ht⟩, hr⟩ := hp
    have hx := ha.1 (n % v) (Nat.mod_lt _ hv)
    rw [show romL ((v, t) :: r) n = Lib.repeatL t (n / v) ++ romL r (n % v) from rfl, sum_repeat ht hx]
    have hdm := Nat.div_add_mod n v
    rw [Nat.mul_comm] at hdm
    cases hrn : r with
    | nil =>
      subst hrn
      have hv1 : v = 1 := hl (v, t) (by simp)
      subst hv1
      simp [sumL]
    | cons q r' =>
      rw [← hrn, sum_rom r (n % v) ha.2 hr (fun p hp => hl p (by rw [hrn] at hp ⊢; simpa using hp)) (by rw [hrn]; simp)]
      exact hdm
theorem sum_roman (n : Nat) : sumL romT (romL romT n) = n :=
  sum_rom romT n romT_apart (by decide) (by decide) (by decide)

def romSet : List UInt8 := [109, 100, 99, 108, 120, 118, 105]
theorem repeat_mem {t : List UInt8} {x : UInt8} : ∀ {c : Nat}, x ∈ Lib.repeatL t c → x ∈ t
  | 0, h => by cases h
  | c + 1, h => by
    rcases List.mem_append.1 (show x ∈ t ++ Lib.repeatL t c from h) with h | h
    · exact h
    · exact repeat_mem h
theorem rom_mem : ∀ {T : List (Nat × List UInt8)} {n : Nat} {x : UInt8}, (T.all fun p => p.2.all (romSet.contains ·)) = true → x ∈ romL T n → x ∈ romSet
  | [], _, _, _, h => by cases h
  | p :: r, n, x, ha, h => by
    simp only [List.all_cons, Bool.and_eq_true] at ha
    rcases List.mem_append.1 (show x ∈ Lib.repeatL p.2 (n / p.1) ++ romL r (n % p.1) from h) with h | h
    · have := List.all_eq_true.1 ha.1 x (repeat_mem h)
      simpa using this
    · exact rom_mem ha.2 h
theorem rom_set {n : Nat} {x : UInt8} (h : x ∈ romL romT n) : x ∈ romSet := rom_mem (by decide) h
theorem rom_small {x : UInt8} (h : x ∈ romSet) : x.toNat < 128 ∧ Lib.lowerB x = x ∧ Lib.lowerB (Lib.upperB x) = x ∧ (Lib.upperB x).toNat < 128 ∧ Lib.upperB x ≠ x := by
  simp only [romSet, List.mem_cons, List.mem_nil_iff, or_false] at h
  rcases h with rfl | rfl | rfl | rfl | rfl | rfl | rfl <;> decide
theorem map_same {f : UInt8 → UInt8} : ∀ {l : List UInt8}, (∀ x ∈ l, f x = x) → l.map f = l
  | [], _ => rfl
  | a :: l, h => by rw [List.map_cons, h a (by simp), map_same (fun x hx => h x (by simp [hx]))]
theorem rom_lower (n : Nat) : Lib.toLowerA (romL romT n) = romL romT n := map_same fun _ hx => (rom_small (rom_set hx)).2.1
theorem rom_back (n : Nat) : Lib.toLowerA (Lib.toUpperA (romL romT n)) = romL romT n := by
  unfold Lib.toLowerA Lib.toUpperA
  rw [List.map_map]
  exact map_same fun _ hx => (rom_small (rom_set hx)).2.2.1
theorem rom_pos {n : Nat} (h : 0 < n) : romL romT n ≠ [] := by
  intro h0
  have h1 := sum_roman n
  rw [h0] at h1
  have h2 : sumL romT [] = 0 := by decide
  omega
theorem rom_great {n : Nat} (h : 0 < n) : Lib.toUpperA (romL romT n) ≠ romL romT n := by
  have h0 := rom_pos h
  cases hl : romL romT n with
  | nil => exact absurd hl h0
  | cons x r =>
    intro he
    have hx : x ∈ romSet := rom_set (n := n) (by rw [hl]; simp)
    exact (rom_small hx).2.2.2.2 (List.cons.inj (show Lib.upperB x :: r.map Lib.upperB = x :: r from he)).1
theorem rom_length : ∀ (T : List (Nat × List UInt8)) (n : Nat), (T.all fun p => decide (0 < p.1) && decide (p.2.length ≤ 2)) = true → (romL T n).length ≤ 2 * n
  | [], _, _ => by simp [romL]
  | p :: r, n, h => by
    simp only [List.all_cons, Bool.and_eq_true, decide_eq_true_eq] at h
    rw [show romL (p :: r) n = Lib.repeatL p.2 (n / p.1) ++ romL r (n % p.1) from rfl, List.length_append, Lib.repeatL_length]
    have h1 := rom_length r (n % p.1) h.2
    have h2 : n / p.1 * p.2.length ≤ n / p.1 * 2 := Nat.mul_le_mul_left _ h.1.2
    have h3 := Nat.div_add_mod n p.1
    have h4 : n / p.1 ≤ p.1 * (n / p.1) := Nat.le_mul_of_pos_left _ h.1.1
    omega
theorem rom_len (n : Nat) : (romL romT n).length ≤ 2 * n := rom_length romT n (by decide)
end Go.Proofs.YtopgbbkndkincaaGreatDoor
