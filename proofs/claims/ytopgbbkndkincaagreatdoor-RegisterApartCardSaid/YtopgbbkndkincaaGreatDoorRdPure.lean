/- The document's book as a list of rows: no Go. -/
import Derived.PlainAid
import Derived.WalkKit
namespace Go.Proofs.YtopgbbkndkincaaGreatDoor
open Go.PlainAid

/-- A row of the document's book. -/
structure Row where
  name : ByteArray
  value : Int
  step : Int
  form : ByteArray
def Row.cells (r : Row) : List Value := [.string r.name, .int .i64 r.value, .int .i64 r.step, .string r.form]
def flat (l : List Row) : List Value := l.flatMap Row.cells
theorem flat_length : ∀ (l : List Row), (flat l).length = l.length * 4
  | [] => rfl
  | r :: t => by
    have := flat_length t
    simp only [flat, List.flatMap_cons, List.length_append, List.length_cons] at this ⊢
    simp only [Row.cells, List.length_cons, List.length_nil]
    omega
theorem flat_get : ∀ {l : List Row} {i : Nat} {r : Row}, l[i]? = some r → ∀ j, j < 4 → (flat l)[i * 4 + j]? = r.cells[j]?
  | [], _, _, h, _, _ => by simp at h
  | a :: t, 0, r, h, j, hj => by
    simp only [List.getElem?_cons_zero, Option.some.injEq] at h
    subst h
    simp only [flat, List.flatMap_cons, Nat.zero_mul, Nat.zero_add]
    rw [List.getElem?_append_left (by simp [Row.cells]; omega)]
  | a :: t, i + 1, r, h, j, hj => by
    have ih := flat_get (l := t) (i := i) (r := r) (by simpa using h) j hj
    simp only [flat, List.flatMap_cons] at ih ⊢
    rw [List.getElem?_append_right (by simp [Row.cells]; omega), ← ih]
    congr 1
    simp [Row.cells]
    omega
theorem flat_take (l : List Row) (i : Nat) : (flat l).take (i * 4) = flat (l.take i) := by
  induction l generalizing i with
  | nil => simp [flat]
  | cons a t ih =>
    cases i with
    | zero => simp [flat]
    | succ i =>
      have h := ih i
      simp only [flat, List.take_succ_cons, List.flatMap_cons] at h ⊢
      rw [List.take_append, ← h]
      simp only [Row.cells, List.length_cons, List.length_nil]
      rw [List.take_of_length_le (by simp; omega)]
      congr 2
      omega
theorem flat_drop (l : List Row) (i : Nat) : (flat l).drop (i * 4) = flat (l.drop i) := by
  induction l generalizing i with
  | nil => simp [flat]
  | cons a t ih =>
    cases i with
    | zero => simp [flat]
    | succ i =>
      have h := ih i
      simp only [flat, List.drop_succ_cons, List.flatMap_cons] at h ⊢
      rw [List.drop_append, ← h]
      simp only [Row.cells, List.length_cons, List.length_nil]
      rw [List.drop_of_length_le (by simp; omega), List.nil_append]
      congr 1
      omega
theorem flat_append (a b : List Row) : flat (a ++ b) = flat a ++ flat b := by simp [flat]
theorem flat_one (r : Row) : flat [r] = r.cells := by simp [flat]

def lessB (a b : ByteArray) : Bool := Op.bytesLess a.toList b.toList
def sameB (a b : ByteArray) : Bool := a.toList == b.toList
/-- Where a name stands, or would be put. -/
def pos (nm : ByteArray) : List Row → Nat
  | [] => 0
  | r :: t => if lessB r.name nm then pos nm t + 1 else 0
def isAt (nm : ByteArray) (l : List Row) : Bool := match l[pos nm l]? with | some r => sameB r.name nm | none => false
theorem pos_le (nm : ByteArray) : ∀ l : List Row, pos nm l ≤ l.length
  | [] => Nat.le_refl _
  | r :: t => by
    have := pos_le nm t
    unfold pos
    split <;> simp <;> omega
theorem pos_at {nm : ByteArray} : ∀ {l : List Row} {k : Nat}, (∀ j r, j < k → l[j]? = some r → lessB r.name nm = true) → (k = l.length ∨ ∃ r, l[k]? = some r ∧ lessB r.name nm = false) → pos nm l = k
  | [], k, _, h2 => by
    rcases h2 with h2 | ⟨r, h2, _⟩
    · rw [h2]; rfl
    · simp at h2
  | a :: t, 0, _, h2 => by
    rcases h2 with h2 | ⟨r, h2, h3⟩
    · simp at h2
    · simp only [List.getElem?_cons_zero, Option.some.injEq] at h2
      subst h2
      unfold pos
      rw [if_neg (by rw [h3]; simp)]
  | a :: t, k + 1, h1, h2 => by
    have ha := h1 0 a (by omega) (by simp)
    unfold pos
    rw [if_pos ha]
    have := pos_at (nm := nm) (l := t) (k := k) (fun j r hj hr => h1 (j + 1) r (by omega) (by simpa using hr)) (by
      rcases h2 with h2 | ⟨r, h2, h3⟩
      · left; simpa using h2
      · right; exact ⟨r, by simpa using h2, h3⟩)
    rw [this]
theorem isAt_row {nm : ByteArray} {l : List Row} {r : Row} (h : l[pos nm l]? = some r) : isAt nm l = sameB r.name nm := by unfold isAt; rw [h]
theorem isAt_end {nm : ByteArray} {l : List Row} (h : pos nm l = l.length) : isAt nm l = false := by
  unfold isAt
  rw [h, List.getElem?_eq_none (Nat.le_refl _)]
theorem isAt_yes {nm : ByteArray} {l : List Row} (h : isAt nm l = true) : ∃ r, l[pos nm l]? = some r ∧ sameB r.name nm = true := by
  unfold isAt at h
  split at h
  · rename_i r hr; exact ⟨r, hr, h⟩
  · cases h
end Go.Proofs.YtopgbbkndkincaaGreatDoor
