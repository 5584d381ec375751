/- Lines that end in an odd number of backslashes are joined: no Go. -/
import Derived.PlainAid
import Derived.WalkKit
import Derived.Lib.TrimByte
import Derived.Lib.Strings
namespace Go.Proofs.YtopgbbkndkincaaDoor
open Go.PlainAid

/-- How many 92 stand at the end. -/
def tc (l : List UInt8) : Nat := (l.reverse.takeWhile (· == 92)).length
def oddL (l : List UInt8) : Bool := tc l % 2 == 1
theorem tc_le (l : List UInt8) : tc l ≤ l.length := by
  unfold tc
  have h := congrArg List.length (List.takeWhile_append_dropWhile (p := (· == (92 : UInt8))) (l := l.reverse))
  rw [List.length_append, List.length_reverse] at h
  omega
theorem tc_trim (l : List UInt8) : (Lib.trimRightB l 92).length = l.length - tc l := by
  unfold Lib.trimRightB tc
  have h := congrArg List.length (List.takeWhile_append_dropWhile (p := (· == (92 : UInt8))) (l := l.reverse))
  rw [List.length_append, List.length_reverse] at h
  rw [List.length_reverse]
  omega
theorem tc_app (a b : List UInt8) : tc (a ++ b) = if tc b = b.length then b.length + tc a else tc b := by
  unfold tc
  rw [List.reverse_append, List.takeWhile_append]
  rw [List.length_reverse]
  split <;> simp
theorem odd_app {a b : List UInt8} (h : tc a % 2 = 0) : oddL (a ++ b) = oddL b := by
  unfold oddL
  rw [tc_app]
  split
  · rename_i e
    rw [e]
    congr 1
    omega
  · rfl
theorem tc_cut {l : List UInt8} (h : 1 ≤ tc l) : tc l.dropLast = tc l - 1 ∧ l ≠ [] := by
  rcases List.eq_nil_or_concat l with rfl | ⟨a, c, rfl⟩
  · simp [tc] at h
  · rw [List.concat_eq_append] at h ⊢
    refine ⟨?_, by simp⟩
    have h1 : tc [c] = if c = 92 then 1 else 0 := by
      unfold tc
      by_cases e : c = 92
      · subst e; rfl
      · simp [e]
    by_cases e : c = 92
    · subst e
      have : tc (a ++ [92]) = 1 + tc a := by rw [tc_app, if_pos (by rw [h1]; rfl)]; rfl
      rw [List.dropLast_concat, this]
      omega
    · rw [if_neg e] at h1
      rw [tc_app, if_neg (by rw [h1]; simp), h1] at h
      omega
theorem odd_cut {l : List UInt8} (h : oddL l = true) : tc l.dropLast % 2 = 0 ∧ l ≠ [] := by
  have h : tc l % 2 = 1 := by simpa [oddL] using h
  obtain ⟨h1, h2⟩ := tc_cut (l := l) (by omega)
  exact ⟨by omega, h2⟩
/-- So many stand at the end, where a loop from the end stops. -/
theorem tc_stop : ∀ {r : List UInt8} {n : Nat}, (∀ j, j < n → r[j]? = some 92) → (n = r.length ∨ ∃ c, r[n]? = some c ∧ c ≠ 92) → (r.takeWhile (· == 92)).length = n
  | [], n, h1, h2 => by
    rcases Nat.eq_zero_or_pos n with rfl | hn
    · rfl
    · have := h1 0 hn
      cases this
  | b :: r, 0, _, h2 => by
    rcases h2 with h2 | ⟨c, h2, h3⟩
    · cases h2
    · simp only [List.getElem?_cons_zero, Option.some.injEq] at h2
      subst h2
      simp [h3]
  | b :: r, n + 1, h1, h2 => by
    have hb := h1 0 (by omega)
    simp only [List.getElem?_cons_zero, Option.some.injEq] at hb
    subst hb
    have := tc_stop (r := r) (n := n) (fun j hj => by have := h1 (j + 1) (by omega); simpa using this) (by
      rcases h2 with h2 | ⟨c, h2, h3⟩
      · left; simpa using h2
      · right; exact ⟨c, by simpa using h2, h3⟩)
    simp [this]

/-- The lines, joined: acc stands ahead of the first. -/
def jn : List UInt8 → List (List UInt8) → List (List UInt8)
  | _, [] => []
  | acc, l :: r => if oddL l && !r.isEmpty then jn (acc ++ l.dropLast) r else (acc ++ l) :: jn [] r
theorem jn_go {acc l : List UInt8} {r : List (List UInt8)} (h : oddL l = true) (hr : r ≠ []) : jn acc (l :: r) = jn (acc ++ l.dropLast) r := by
  rw [jn, if_pos (by rw [h]; simpa using hr)]
theorem jn_end {acc l : List UInt8} {r : List (List UInt8)} (h : oddL l = false ∨ r = []) : jn acc (l :: r) = (acc ++ l) :: jn [] r := by
  rw [jn, if_neg (by rcases h with h | h <;> simp [h])]
def tot (ls : List (List UInt8)) : Nat := (ls.map List.length).sum
theorem tot_cons (l : List UInt8) (r : List (List UInt8)) : tot (l :: r) = l.length + tot r := by simp [tot]
theorem jn_length : ∀ (acc : List UInt8) (ls : List (List UInt8)), (jn acc ls).length ≤ ls.length
  | _, [] => Nat.le_refl _
  | acc, l :: r => by
    have h1 := jn_length (acc ++ l.dropLast) r
    have h2 := jn_length [] r
    rw [jn]
    split
    · simp; omega
    · simp; omega
end Go.Proofs.YtopgbbkndkincaaDoor
