/- The document's condition in memory; its ! counted. -/
import Derived.Test.YtjbaljibaejdgaaDoorRqRTo
import Derived.Test.YtjbaljibaejdgaaDoorRqCd
namespace Go.Proofs.YtjbaljibaejdgaaDoor
open Go.RowKit Go.PlainAid Go.Shelf

/-- A condition of the document's, in memory. -/
def Dc (p : Nat) (nt : Bool) (k : Int) (n a bb r : List UInt8) (w : World) : Prop := w.heap[p]? = some (.cells (condCells nt k n a bb r) 37 (0, 0))
section
variable {p : Nat} {nt : Bool} {k : Int} {n a bb r : List UInt8} {w w' : World}
theorem Dc.lt (h : Dc p nt k n a bb r w) : p < w.heap.size := (Array.getElem?_eq_some_iff.1 h).1
theorem Dc.below (h : Dc p nt k n a bb r w) (hb : Below w.heap.size w w') : Dc p nt k n a bb r w' := by unfold Dc; rw [hb.block p h.lt]; exact h
theorem Dc.only {b : Nat} (h : Dc p nt k n a bb r w) (hb : Only b w w') (hn : p ≠ b) : Dc p nt k n a bb r w' := by unfold Dc; rw [hb.block p h.lt hn]; exact h
theorem Dc.fz (h : Dc p nt k n a bb r w) (j : Nat) : w.frozen? ⟨p, j, none⟩ = false := by simp [World.frozen?, show w.heap[p]? = _ from h]
theorem Dc.c0 (h : Dc p nt k n a bb r w) : w.cell? ⟨p, 0, none⟩ = some (.bool nt) := by simp [World.cell?, show w.heap[p]? = _ from h]
theorem Dc.c1 (h : Dc p nt k n a bb r w) : w.cell? ⟨p, 1, none⟩ = some (.int .u8 k) := by simp [World.cell?, show w.heap[p]? = _ from h]
theorem Dc.c2 (h : Dc p nt k n a bb r w) : w.cell? ⟨p, 2, none⟩ = some (.string (mk8 n)) := by simp [World.cell?, show w.heap[p]? = _ from h]
theorem Dc.c3 (h : Dc p nt k n a bb r w) : w.cell? ⟨p, 3, none⟩ = some (.string (mk8 a)) := by simp [World.cell?, show w.heap[p]? = _ from h]
theorem Dc.c4 (h : Dc p nt k n a bb r w) : w.cell? ⟨p, 4, none⟩ = some (.string (mk8 bb)) := by simp [World.cell?, show w.heap[p]? = _ from h]
theorem Dc.c5 (h : Dc p nt k n a bb r w) : w.cell? ⟨p, 5, none⟩ = some (.string (mk8 r)) := by simp [World.cell?, show w.heap[p]? = _ from h]
theorem Dc.set0 (h : Dc p nt k n a bb r w) (u : Bool) : Dc p u k n a bb r (w.setCell ⟨p, 0, none⟩ (.bool u)) := heap_setCell_c h 0 _
theorem Dc.set1 (h : Dc p nt k n a bb r w) (u : Int) : Dc p nt u n a bb r (w.setCell ⟨p, 1, none⟩ (.int .u8 u)) := heap_setCell_c h 1 _
theorem Dc.set2 (h : Dc p nt k n a bb r w) (u : List UInt8) : Dc p nt k u a bb r (w.setCell ⟨p, 2, none⟩ (.string (mk8 u))) := heap_setCell_c h 2 _
theorem Dc.set3 (h : Dc p nt k n a bb r w) (u : List UInt8) : Dc p nt k n u bb r (w.setCell ⟨p, 3, none⟩ (.string (mk8 u))) := heap_setCell_c h 3 _
theorem Dc.set4 (h : Dc p nt k n a bb r w) (u : List UInt8) : Dc p nt k n a u r (w.setCell ⟨p, 4, none⟩ (.string (mk8 u))) := heap_setCell_c h 4 _
theorem Dc.set5 (h : Dc p nt k n a bb r w) (u : List UInt8) : Dc p nt k n a bb u (w.setCell ⟨p, 5, none⟩ (.string (mk8 u))) := heap_setCell_c h 5 _
theorem dc_new (nt : Bool) (k : Int) (n a bb r : List UInt8) (w : World) : Dc w.heap.size nt k n a bb r (w.alloc (.cells (condCells nt k n a bb r) 37)) := heap_alloc_new w _
end
theorem Dc.drew {p : Nat} {nt : Bool} {k : Int} {n a bb r : List UInt8} {w : World} (h : Dc p nt k n a bb r w) : Dc p nt k n a bb r w.drew := h

/-- Odd. -/
def par (n : Nat) : Bool := ((n : Int) % 2 == 1)
theorem par_succ (n : Nat) : par (n + 1) = !par n := by
  unfold par
  rw [Bool.eq_iff_iff]
  simp only [beq_iff_eq, Bool.not_eq_true', beq_eq_false_iff_ne, ne_eq]
  omega
theorem exN_before {c : UInt8} : ∀ {l : List UInt8} {j : Nat}, j < exN c l → l[j]? = some c := by
  intro l
  induction l with
  | nil => intro j h; simp [exN] at h
  | cons x r ih =>
    intro j h
    by_cases hx : x = c
    · subst hx
      cases j with
      | zero => rfl
      | succ j =>
        simp only [exN, List.takeWhile_cons, beq_self_eq_true, if_true, List.length_cons] at h
        simpa using ih (j := j) (by unfold exN; omega)
    · have : exN c (x :: r) = 0 := by simp [exN, List.takeWhile_cons, hx]
      omega
theorem exN_behind {c : UInt8} : ∀ {l : List UInt8}, l[exN c l]? ≠ some c := by
  intro l
  induction l with
  | nil => simp [exN]
  | cons x r ih =>
    by_cases hx : x = c
    · subst hx
      have : exN x (x :: r) = exN x r + 1 := by simp [exN]
      rw [this]
      simpa using ih
    · have : exN c (x :: r) = 0 := by simp [exN, List.takeWhile_cons, hx]
      rw [this]
      simpa using hx
/-- The ! of a text, counted from a place. -/
structure Turns (l : List UInt8) (b0 t : Nat) : Prop where
  le : b0 + t ≤ l.length
  yes : ∀ j, b0 ≤ j → j < b0 + t → l[j]? = some 33
  no : l[b0 + t]? ≠ some 33
theorem turns_at (l : List UInt8) : Turns l (blkN l) (exN 33 (l.drop (blkN l))) := by
  have h1 := blkN_le l
  have h2 := exN_le 33 (l.drop (blkN l))
  rw [List.length_drop] at h2
  refine ⟨by omega, fun j hj hk => ?_, ?_⟩
  · have := exN_before (l := l.drop (blkN l)) (c := 33) (j := j - blkN l) (by omega)
    rw [List.getElem?_drop, show blkN l + (j - blkN l) = j by omega] at this
    exact this
  · have := exN_behind (l := l.drop (blkN l)) (c := 33)
    rw [List.getElem?_drop] at this
    exact this
end Go.Proofs.YtjbaljibaejdgaaDoor
