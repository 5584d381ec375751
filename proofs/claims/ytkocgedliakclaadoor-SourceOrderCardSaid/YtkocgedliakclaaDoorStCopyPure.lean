/- Copies of lines: what is known of the rows while they are made. No walk. -/
import Derived.Test.YtkocgedliakclaaDoorStClone
import Derived.Test.YtkocgedliakclaaDoorStChange
namespace Go.Proofs.YtkocgedliakclaaDoor
open Go.RowKit Go.PlainAid Go.Maps Go.Shelf

theorem add_none (b off j : Nat) : (⟨b, off, none⟩ : Addr).add j = ⟨b, off + j, none⟩ := Go.WideShapes.add_plain _ _ _
/-- What the law asks of sizes: each row can be made again. -/
structure Fit (l : List LineC) : Prop where
  texts : ∀ x ∈ l, x.text.size ≤ maxLen
  lines : l.length * 64 ≤ 140737488355328
  boxes : ∀ x ∈ l, x.boxes.length * 88 ≤ 140737488355328
  nums : ∀ x ∈ l, ∀ y ∈ x.boxes, y.ns.length * 8 ≤ 140737488355328

theorem nums_cells {S : Nat → Prop} {ao : Option Addr} {n c : Nat} {l : List Int} {w : World} (h : NumsRd S (.slice ao n c) l w) : ∀ a, ao = some a → HasCells w a (n * 1) := by
  obtain ⟨ao', cap, e, hl, b, off, h1, h2⟩ := h
  cases e
  rintro a rfl j hj
  have hj : j < l.length := by omega
  obtain ⟨e, _⟩ := h1 (by omega)
  cases e
  exact ⟨_, by rw [add_none]; exact h2 j hj, rfl⟩
theorem box_cells {S : Nat → Prop} {b off : Nat} {x : BoxC} {u : Value} {w : World} (h : BoxAt S b off x u w) (k : Nat) (hk : k < 7) : ∃ y, w.cell? ⟨b, off + k, none⟩ = some y ∧ y.oneCell' = true := by
  obtain ⟨ao, cap, rfl, _⟩ := h.ns
  match k, hk with
  | 0, _ => exact ⟨_, h.c0, rfl⟩
  | 1, _ => exact ⟨_, h.c1, rfl⟩
  | 2, _ => exact ⟨_, h.c2, rfl⟩
  | 3, _ => exact ⟨_, h.c3, rfl⟩
  | 4, _ => exact ⟨_, h.c4, rfl⟩
  | 5, _ => exact ⟨_, h.c5, rfl⟩
  | 6, _ => exact ⟨_, h.c6, rfl⟩
theorem line_cells {S : Nat → Prop} {b off : Nat} {x : LineC} {u : Value} {w : World} (h : LineIn S b off x u w) (k : Nat) (hk : k < 5) : ∃ y, w.cell? ⟨b, off + k, none⟩ = some y ∧ y.oneCell' = true := by
  obtain ⟨ao, cap, rfl, _⟩ := h.boxes
  match k, hk with
  | 0, _ => exact ⟨_, h.c0, rfl⟩
  | 1, _ => exact ⟨_, h.c1, rfl⟩
  | 2, _ => exact ⟨_, h.c2, rfl⟩
  | 3, _ => exact ⟨_, h.c3, rfl⟩
  | 4, _ => exact ⟨_, h.c4, rfl⟩
theorem split_at (j s : Nat) (hs : 0 < s) {n : Nat} (h : j < n * s) : ∃ i k, j = i * s + k ∧ i < n ∧ k < s :=
  ⟨j / s, j % s, by have := Nat.div_add_mod j s; rw [Nat.mul_comm] at this; omega, by
    rw [Nat.div_lt_iff_lt_mul hs]; exact h, Nat.mod_lt _ hs⟩
theorem boxes_cells {S : Nat → Prop} {ao : Option Addr} {n c : Nat} {l : List BoxC} {w : World} (h : BoxesRd S (.slice ao n c) l w) : ∀ a, ao = some a → HasCells w a (n * 7) := by
  obtain ⟨ao', cap, e, hl, b, off, h1, h2⟩ := h
  cases e
  rintro a rfl j hj
  obtain ⟨i, k, rfl, hi, hk⟩ := split_at j 7 (by omega) hj
  obtain ⟨e, _⟩ := h1 (by omega)
  cases e
  obtain ⟨u, hu⟩ := h2 i hi
  rw [add_none, ← Nat.add_assoc]
  exact box_cells hu k hk
theorem lines_cells {S : Nat → Prop} {ao : Option Addr} {n c : Nat} {l : List LineC} {w : World} (h : LinesRd S (.slice ao n c) l w) : ∀ a, ao = some a → HasCells w a (n * 5) := by
  obtain ⟨ao', cap, e, hl, b, off, h1, h2⟩ := h
  cases e
  rintro a rfl j hj
  obtain ⟨i, k, rfl, hi, hk⟩ := split_at j 5 (by omega) hj
  obtain ⟨e, _⟩ := h1 (by omega)
  cases e
  obtain ⟨u, hu⟩ := h2 i hi
  rw [add_none, ← Nat.add_assoc]
  exact line_cells hu k hk

section
variable {S : Nat → Prop} {w w' : World}
/-- Numbers that were cloned. -/
theorem cloned_nums {v v' : Value} {l : List Int} (h : NumsRd S v l w) (hc : Cloned 1 3 v v' w w') : NumsRd (w.heap.size ≤ ·) v' l w' := by
  obtain ⟨ao, cap, rfl, hl, b, off, h1, h2⟩ := h
  rcases hc with ⟨n, c, e, rfl⟩ | ⟨a, n, c, g, cap', cur, e, rfl, hg, hh, h3, h4, h5, h6⟩
  · cases e
    have e0 : l.length = 0 := by
      rcases Nat.eq_zero_or_pos l.length with h | h
      · exact h
      · cases (h1 h).1
    exact ⟨none, 0, by rw [e0], hl, 0, 0, fun h => by omega, fun i hi => by omega⟩
  · cases e
    refine ⟨some ⟨g, 0, none⟩, cap', rfl, hl, g, 0, fun _ => ⟨rfl, hg⟩, fun i hi => ?_⟩
    obtain ⟨e, _⟩ := h1 (by omega)
    cases e
    rw [Nat.zero_add, h6 i (by omega), add_none]
    exact h2 i hi
/-- Boxes that were cloned: their numbers are still where they were. -/
theorem cloned_boxes {v v' : Value} {l : List BoxC} (h : BoxesRd S v l w) (hs : Stay S w w') (hc : Cloned 7 78 v v' w w') :
    (v' = .slice none 0 0 ∧ l = []) ∨ ∃ g cap cur, v' = .slice (some ⟨g, 0, none⟩) l.length cap ∧ w.heap.size ≤ g ∧ w'.heap[g]? = some (.cells cur 78 (0, 0)) ∧ l.length ≤ cap ∧ cap ≤ maxLen ∧ cur.size = cap * 7 ∧
      ∀ i (h : i < l.length), ∃ u, BoxAt S g (i * 7) l[i] u w' := by
  obtain ⟨ao, cap, rfl, hl, b, off, h1, h2⟩ := h
  rcases hc with ⟨n, c, e, rfl⟩ | ⟨a, n, c, g, cap', cur, e, rfl, hg, hh, h3, h4, h5, h6⟩
  · cases e
    refine .inl ⟨rfl, ?_⟩
    cases l with
    | nil => rfl
    | cons x r => cases (h1 (by simp)).1
  · cases e
    refine .inr ⟨g, cap', cur, rfl, hg, hh, h3, h4, h5, fun i hi => ?_⟩
    obtain ⟨e, _⟩ := h1 (by omega)
    cases e
    obtain ⟨u, hu⟩ := h2 i hi
    have hk : ∀ k, k < 7 → w'.cell? ⟨g, i * 7 + k, none⟩ = w.cell? ⟨b, off + i * 7 + k, none⟩ := fun k hk => by
      rw [h6 (i * 7 + k) (by omega), add_none, ← Nat.add_assoc]
    exact ⟨u, by have := hk 0 (by omega); simp only [Nat.add_zero] at this; rw [this]; exact hu.c0, by rw [hk 1 (by omega)]; exact hu.c1, by rw [hk 2 (by omega)]; exact hu.c2, by rw [hk 3 (by omega)]; exact hu.c3,
      by rw [hk 4 (by omega)]; exact hu.c4, by rw [hk 5 (by omega)]; exact hu.c5, by rw [hk 6 (by omega)]; exact hu.c6, hu.ns.stay hs⟩
theorem cloned_lines {v v' : Value} {l : List LineC} (h : LinesRd S v l w) (hs : Stay S w w') (hc : Cloned 5 37 v v' w w') :
    (v' = .slice none 0 0 ∧ l = []) ∨ ∃ g cap cur, v' = .slice (some ⟨g, 0, none⟩) l.length cap ∧ w.heap.size ≤ g ∧ w'.heap[g]? = some (.cells cur 37 (0, 0)) ∧ l.length ≤ cap ∧ cap ≤ maxLen ∧ cur.size = cap * 5 ∧
      ∀ i (h : i < l.length), ∃ u, LineIn S g (i * 5) l[i] u w' := by
  obtain ⟨ao, cap, rfl, hl, b, off, h1, h2⟩ := h
  rcases hc with ⟨n, c, e, rfl⟩ | ⟨a, n, c, g, cap', cur, e, rfl, hg, hh, h3, h4, h5, h6⟩
  · cases e
    refine .inl ⟨rfl, ?_⟩
    cases l with
    | nil => rfl
    | cons x r => cases (h1 (by simp)).1
  · cases e
    refine .inr ⟨g, cap', cur, rfl, hg, hh, h3, h4, h5, fun i hi => ?_⟩
    obtain ⟨e, _⟩ := h1 (by omega)
    cases e
    obtain ⟨u, hu⟩ := h2 i hi
    have hk : ∀ k, k < 5 → w'.cell? ⟨g, i * 5 + k, none⟩ = w.cell? ⟨b, off + i * 5 + k, none⟩ := fun k hk => by
      rw [h6 (i * 5 + k) (by omega), add_none, ← Nat.add_assoc]
    exact ⟨u, by have := hk 0 (by omega); simp only [Nat.add_zero] at this; rw [this]; exact hu.c0, by rw [hk 1 (by omega)]; exact hu.c1, by rw [hk 2 (by omega)]; exact hu.c2, by rw [hk 3 (by omega)]; exact hu.c3,
      by rw [hk 4 (by omega)]; exact hu.c4, hu.boxes.stay hs⟩
end

/-- The boxes of one line, of which the first q have numbers of their own. -/
structure In2 (B g bb bcap : Nat) (W5 w2 : World) (bs : List BoxC) (q : Nat) : Prop where
  grown : W5.grownBy w2 (some bb)
  row : ∃ cur, w2.heap[bb]? = some (.cells cur 78 (0, 0)) ∧ cur.size = bcap * 7
  done : ∀ r (h : r < bs.length), r < q → ∃ u, BoxAt (fun k => B ≤ k ∧ k ≠ g ∧ k ≠ bb) bb (r * 7) bs[r] u w2
  todo : ∀ r (h : r < bs.length), q ≤ r → ∃ u, BoxAt (· < B) bb (r * 7) bs[r] u w2
theorem cell_set_other {w : World} {b b' k k' : Nat} {u : Value} (h : b ≠ b' ∨ k ≠ k') : (w.setCell ⟨b, k, none⟩ u).cell? ⟨b', k', none⟩ = w.cell? ⟨b', k', none⟩ := by
  by_cases hb : b = b'
  · subst hb
    have hk : k ≠ k' := by rcases h with h | h; exact absurd rfl h; exact h
    cases hh : w.heap[b]? with
    | none =>
      have : (w.setCell ⟨b, k, none⟩ u).heap[b]? = none := by
        show (w.heap.modify b _)[b]? = none
        simp at hh ⊢
        exact hh
      simp [World.cell?, hh, this]
    | some o =>
      cases o with
      | cells c t f => simp [World.cell?, hh, heap_set_at hh k u, Array.getElem?_setIfInBounds, hk]
      | _ =>
        have hlt := (Array.getElem?_eq_some_iff.1 hh).1
        have e : (w.setCell ⟨b, k, none⟩ u).heap[b]? = w.heap[b]? := by
          have h' := (Array.getElem?_eq_some_iff.1 hh).2
          show (w.heap.modify b _)[b]? = _
          rw [Array.getElem?_eq_getElem (by simpa using hlt), Array.getElem_modify_self, h', hh]
        simp [World.cell?, e]
  · have := Below.heap_setCell w ⟨b, k, none⟩ u b' (fun e => hb e.symm)
    simp [World.cell?, this]

section
variable {S : Nat → Prop} {w w' : World}
theorem ltC_of_cell {b off : Nat} {u : Value} (h : w.cell? ⟨b, off, none⟩ = some u) : b < w.heap.size := by
  rcases Nat.lt_or_ge b w.heap.size with h' | h'
  · exact h'
  · simp [World.cell?, Array.getElem?_eq_none h'] at h
theorem NumsRd.both {v : Value} {l : List Int} (h : NumsRd S v l w) : NumsRd (fun b => S b ∧ b < w.heap.size) v l w := by
  obtain ⟨ao, cap, rfl, hl, b, off, h1, h2⟩ := h
  exact ⟨ao, cap, rfl, hl, b, off, fun h0 => ⟨(h1 h0).1, (h1 h0).2, ltC_of_cell (h2 0 h0)⟩, h2⟩
theorem BoxAt.both {b off : Nat} {x : BoxC} {v : Value} (h : BoxAt S b off x v w) : BoxAt (fun b => S b ∧ b < w.heap.size) b off x v w :=
  ⟨h.c0, h.c1, h.c2, h.c3, h.c4, h.c5, h.c6, h.ns.both⟩
theorem BoxesRd.both {v : Value} {l : List BoxC} (h : BoxesRd S v l w) : BoxesRd (fun b => S b ∧ b < w.heap.size) v l w := by
  obtain ⟨ao, cap, rfl, hl, b, off, h1, h2⟩ := h
  refine ⟨ao, cap, rfl, hl, b, off, fun h0 => ⟨(h1 h0).1, (h1 h0).2, ?_⟩, fun i hi => ?_⟩
  · obtain ⟨u, hu⟩ := h2 0 h0
    exact ltC_of_cell hu.c0
  · obtain ⟨u, hu⟩ := h2 i hi
    exact ⟨u, hu.both⟩
/-- A box whose seven cells are as they were, and whose numbers' block stays. -/
theorem BoxAt.moved {b off : Nat} {x : BoxC} {v : Value} (h : BoxAt S b off x v w) (hc : ∀ k, k < 7 → w'.cell? ⟨b, off + k, none⟩ = w.cell? ⟨b, off + k, none⟩) (hs : Stay (fun k => S k ∧ k < w.heap.size) w w') : BoxAt S b off x v w' :=
  ⟨by have := hc 0 (by omega); simp only [Nat.add_zero] at this; rw [this]; exact h.c0, by rw [hc 1 (by omega)]; exact h.c1, by rw [hc 2 (by omega)]; exact h.c2, by rw [hc 3 (by omega)]; exact h.c3,
    by rw [hc 4 (by omega)]; exact h.c4, by rw [hc 5 (by omega)]; exact h.c5, by rw [hc 6 (by omega)]; exact h.c6, (h.ns.both.stay hs).mono fun _ h => h.1⟩
theorem LineIn.moved {b off : Nat} {x : LineC} {v : Value} (h : LineIn S b off x v w) (hc : ∀ k, k < 5 → w'.cell? ⟨b, off + k, none⟩ = w.cell? ⟨b, off + k, none⟩) (hs : Stay (fun k => S k ∧ k < w.heap.size) w w') : LineIn S b off x v w' :=
  ⟨by have := hc 0 (by omega); simp only [Nat.add_zero] at this; rw [this]; exact h.c0, by rw [hc 1 (by omega)]; exact h.c1, by rw [hc 2 (by omega)]; exact h.c2, by rw [hc 3 (by omega)]; exact h.c3,
    by rw [hc 4 (by omega)]; exact h.c4, (h.boxes.both.stay hs).mono fun _ h => h.1⟩
end
theorem cell_set_same {w : World} {b k : Nat} {c : Array Value} {t : TypeId} {f : Nat × Nat} {u : Value} (h : w.heap[b]? = some (.cells c t f)) (hk : k < c.size) : (w.setCell ⟨b, k, none⟩ u).cell? ⟨b, k, none⟩ = some u := by
  simp [World.cell?, heap_set_at h k u, hk]

theorem In2.step {B g bb bcap q : Nat} {W5 w2 w3 : World} {bs : List BoxC} {v' : Value} (h : In2 B g bb bcap W5 w2 bs q) (hq : q < bs.length) (hcap : bs.length ≤ bcap) (hB : B ≤ bb) (h5 : bb < W5.heap.size) (hg : g < W5.heap.size)
    (hb : Below w2.heap.size w2 w3) (hv : NumsRd (w2.heap.size ≤ ·) v' bs[q].ns w3) : In2 B g bb bcap W5 (w3.setCell ⟨bb, q * 7 + 6, none⟩ v') bs (q + 1) := by
  have hs := h.grown.size
  obtain ⟨cur, hcur, hsz⟩ := h.row
  have hcur3 : w3.heap[bb]? = some (.cells cur 78 (0, 0)) := by rw [hb.block bb (by omega)]; exact hcur
  have cells : ∀ k, k ≠ q * 7 + 6 → (w3.setCell ⟨bb, q * 7 + 6, none⟩ v').cell? ⟨bb, k, none⟩ = w2.cell? ⟨bb, k, none⟩ := fun k hk => by
    rw [cell_set_other (.inr (fun e => hk e.symm)), hb.cell (p := ⟨bb, k, none⟩) (show bb < w2.heap.size by omega)]
  have stay : ∀ T : Nat → Prop, (∀ k, T k → k ≠ bb) → Stay (fun k => T k ∧ k < w2.heap.size) w2 (w3.setCell ⟨bb, q * 7 + 6, none⟩ v') := fun T hT k off hk => by
    rw [cell_set_other (.inl (fun e => hT k hk.1 e.symm)), hb.cell (p := ⟨k, off, none⟩) hk.2]
  refine ⟨grown_trans (grown_trans h.grown (grown_below hb _)) (grown_set _ _ _ _), ⟨_, heap_set_at hcur3 _ _, by simpa using hsz⟩, fun r hr hrq => ?_, fun r hr hrq => ?_⟩
  · by_cases e : r = q
    · subst e
      obtain ⟨u, hu⟩ := h.todo r hr (Nat.le_refl _)
      have c := fun k (hk : k < 6) => cells (r * 7 + k) (by omega)
      have c0 := c 0 (by omega)
      simp only [Nat.add_zero] at c0
      refine ⟨v', by rw [c0]; exact hu.c0, by rw [c 1 (by omega)]; exact hu.c1, by rw [c 2 (by omega)]; exact hu.c2, by rw [c 3 (by omega)]; exact hu.c3, by rw [c 4 (by omega)]; exact hu.c4, by rw [c 5 (by omega)]; exact hu.c5, cell_set_same hcur3 (by omega), ?_⟩
      have hst : Stay (w2.heap.size ≤ ·) w3 (w3.setCell ⟨bb, r * 7 + 6, none⟩ v') := fun k off hk => cell_set_other (.inl (fun e => by have := h5; omega))
      exact (hv.stay hst).mono fun k hk => ⟨by have := h5; omega, by have := hg; omega, by have := h5; omega⟩
    · obtain ⟨u, hu⟩ := h.done r hr (by omega)
      exact ⟨u, hu.moved (fun k hk => cells _ (by omega)) (stay _ fun k hk => hk.2.2)⟩
  · obtain ⟨u, hu⟩ := h.todo r hr (by omega)
    exact ⟨u, hu.moved (fun k hk => cells _ (by omega)) (stay _ fun k hk => by have := hk; omega)⟩
/-- Boxes all of which have numbers of their own. -/
theorem In2.all {B g bb bcap c : Nat} {W5 w2 : World} {bs : List BoxC} (h : In2 B g bb bcap W5 w2 bs bs.length) (hm : bs.length ≤ maxLen) (hB : B ≤ bb) (hg : bb ≠ g) : BoxesRd (fun k => B ≤ k ∧ k ≠ g) (.slice (some ⟨bb, 0, none⟩) bs.length c) bs w2 :=
  ⟨_, c, rfl, hm, bb, 0, fun _ => ⟨rfl, hB, hg⟩, fun i hi => by
    obtain ⟨u, hu⟩ := h.done i hi hi
    rw [Nat.zero_add]
    exact ⟨u, hu.mono fun _ h => ⟨h.1, h.2.1⟩⟩⟩

/-- The lines of a copy, of which the first i have boxes of their own. -/
structure In1 (B g cap : Nat) (w0 wr : World) (l : List LineC) (i : Nat) : Prop where
  below : Below B w0 wr
  row : ∃ cur, wr.heap[g]? = some (.cells cur 37 (0, 0)) ∧ cur.size = cap * 5
  done : ∀ j (h : j < l.length), j < i → ∃ u, LineIn (fun k => B ≤ k ∧ k ≠ g) g (j * 5) l[j] u wr
  todo : ∀ j (h : j < l.length), i ≤ j → ∃ u, LineIn (· < B) g (j * 5) l[j] u wr
theorem In1.step {B g cap i : Nat} {w0 wr w6 : World} {l : List LineC} {v' : Value} (h : In1 B g cap w0 wr l i) (hi : i < l.length) (hB : B ≤ g)
    (hk : ∀ k, k < wr.heap.size → k ≠ g → w6.heap[k]? = wr.heap[k]?) (hw : Below B w0 w6) (hrow : ∃ cur, w6.heap[g]? = some (.cells cur 37 (0, 0)) ∧ cur.size = cap * 5)
    (hc : ∀ k, k ≠ i * 5 + 4 → w6.cell? ⟨g, k, none⟩ = wr.cell? ⟨g, k, none⟩) (hn : w6.cell? ⟨g, i * 5 + 4, none⟩ = some v') (hbx : BoxesRd (fun k => B ≤ k ∧ k ≠ g) v' l[i].boxes w6) : In1 B g cap w0 w6 l (i + 1) := by
  have stay : ∀ T : Nat → Prop, (∀ k, T k → k ≠ g) → Stay (fun k => T k ∧ k < wr.heap.size) wr w6 := fun T hT k off hk' => by
    simp [World.cell?, hk k hk'.2 (hT k hk'.1)]
  refine ⟨hw, hrow, fun j hj hji => ?_, fun j hj hji => ?_⟩
  · by_cases e : j = i
    · subst e
      obtain ⟨u, hu⟩ := h.todo j hj (Nat.le_refl _)
      have c := fun k (hk : k < 4) => hc (j * 5 + k) (by omega)
      have c0 := c 0 (by omega)
      simp only [Nat.add_zero] at c0
      exact ⟨v', by rw [c0]; exact hu.c0, by rw [c 1 (by omega)]; exact hu.c1, by rw [c 2 (by omega)]; exact hu.c2, by rw [c 3 (by omega)]; exact hu.c3, hn, hbx⟩
    · obtain ⟨u, hu⟩ := h.done j hj (by omega)
      exact ⟨u, hu.moved (fun k hk => hc _ (by omega)) (stay _ fun k hk => hk.2)⟩
  · obtain ⟨u, hu⟩ := h.todo j hj (by omega)
    exact ⟨u, hu.moved (fun k hk => hc _ (by omega)) (stay _ fun k hk => by have := hk; omega)⟩
/-- What is so behind the store of one line's boxes, and stays so while they get their numbers. -/
structure Mid (B g cap j : Nat) (w0 wr w6 : World) (u : Value) : Prop where
  rest : ∀ k, k < wr.heap.size → k ≠ g → w6.heap[k]? = wr.heap[k]?
  below : Below B w0 w6
  row : ∃ cur, w6.heap[g]? = some (.cells cur 37 (0, 0)) ∧ cur.size = cap * 5
  cells : ∀ k, k ≠ j * 5 + 4 → w6.cell? ⟨g, k, none⟩ = wr.cell? ⟨g, k, none⟩
  here : w6.cell? ⟨g, j * 5 + 4, none⟩ = some u
theorem In1.mid {B g cap j : Nat} {w0 wr w4 : World} {l : List LineC} (h : In1 B g cap w0 wr l j) (hb : Below wr.heap.size wr w4) (u : Value) (hB : B ≤ g) (h0 : B ≤ w0.heap.size) (hj : j < cap) :
    Mid B g cap j w0 wr (w4.setCell ⟨g, j * 5 + 4, none⟩ u) u := by
  obtain ⟨cur, hcur, hsz⟩ := h.row
  have hgw : g < wr.heap.size := (Array.getElem?_eq_some_iff.1 hcur).1
  have hcur4 : w4.heap[g]? = some (.cells cur 37 (0, 0)) := by rw [hb.block g hgw]; exact hcur
  refine ⟨fun k hk hkg => ?_, ?_, ⟨_, heap_set_at hcur4 _ _, by simpa using hsz⟩, fun k hk => ?_, cell_set_same hcur4 (by omega)⟩
  · rw [Below.heap_setCell w4 ⟨g, j * 5 + 4, none⟩ u k (by simpa using hkg), hb.block k hk]
  · exact (h.below.trans (Below.mono hb (Nat.le_trans h0 h.below.size))).trans (grown_to_below (grown_set w4 g _ u) hB (Nat.le_trans (Nat.le_trans h0 h.below.size) hb.size))
  · rw [cell_set_other (.inr (fun e => hk e.symm)), hb.cell (p := ⟨g, k, none⟩) hgw]
theorem Mid.on {B g cap j bb : Nat} {w0 wr w5 w6 : World} {u : Value} (h : Mid B g cap j w0 wr w5 u) (hg : w5.grownBy w6 (some bb)) (hb : wr.heap.size ≤ bb) (hgw : g < wr.heap.size) (hw : wr.heap.size ≤ w5.heap.size) (hB : B ≤ bb) (h0 : B ≤ wr.heap.size) : Mid B g cap j w0 wr w6 u := by
  have hgb : w6.heap[g]? = w5.heap[g]? := hg.block g (by omega) (by simp; omega)
  refine ⟨fun k hk hkg => ?_, h.below.trans (grown_to_below hg hB (by omega)), ?_, fun k hk => ?_, ?_⟩
  · rw [hg.block k (by omega) (by simp; omega), h.rest k hk hkg]
  · rw [hgb]; exact h.row
  · rw [← h.cells k hk]; simp [World.cell?, hgb]
  · rw [← h.here]; simp [World.cell?, hgb]
theorem Mid.next {B g cap j : Nat} {w0 wr w6 : World} {u : Value} {l : List LineC} (h : Mid B g cap j w0 wr w6 u) (hi : In1 B g cap w0 wr l j) (hj : j < l.length) (hB : B ≤ g) (hbx : BoxesRd (fun k => B ≤ k ∧ k ≠ g) u l[j].boxes w6) : In1 B g cap w0 w6 l (j + 1) :=
  hi.step hj hB h.rest h.below h.row h.cells h.here hbx
theorem In2.start {B g bb bcap : Nat} {w4 : World} {bs : List BoxC} {a : Addr} {u : Value} {bcur : Array Value} (ha : a.block = g) (hB : B ≤ g) (hgb : g ≠ bb) (hh : w4.heap[bb]? = some (.cells bcur 78 (0, 0))) (hs : bcur.size = bcap * 7)
    (h : ∀ i (h : i < bs.length), ∃ u, BoxAt (· < B) bb (i * 7) bs[i] u w4) : In2 B g bb bcap (w4.setCell a u) (w4.setCell a u) bs 0 := by
  obtain ⟨b, o, s⟩ := a
  cases ha
  have hB : B ≤ b := hB
  have hgb : b ≠ bb := hgb
  have hk : ∀ k, k ≠ b → (w4.setCell ⟨b, o, s⟩ u).heap[k]? = w4.heap[k]? := fun k hk => Below.heap_setCell w4 ⟨b, o, s⟩ u k (by simpa using hk)
  refine ⟨grown_refl _ _, ⟨_, by rw [hk bb (fun e => hgb e.symm)]; exact hh, hs⟩, fun r _ h => absurd h (Nat.not_lt_zero _), fun r hr _ => ?_⟩
  obtain ⟨v, hv⟩ := h r hr
  refine ⟨v, hv.moved (fun k _ => ?_) fun k off hk' => ?_⟩
  · simp [World.cell?, hk bb (fun e => hgb e.symm)]
  · have hk1 : k < B := hk'.1
    simp [World.cell?, hk k (by omega)]
/-- Lines of one's own: in one row, which nothing in them shares. -/
def OwnLines (B : Nat) (v : Value) (l : List LineC) (w : World) : Prop :=
  (v = .slice none 0 0 ∧ l = []) ∨ ∃ g cap cur, v = .slice (some ⟨g, 0, none⟩) l.length cap ∧ B ≤ g ∧ w.heap[g]? = some (.cells cur 37 (0, 0)) ∧ l.length ≤ cap ∧ cap ≤ maxLen ∧ cur.size = cap * 5 ∧
    ∀ i (h : i < l.length), ∃ u, LineIn (fun k => B ≤ k ∧ k ≠ g) g (i * 5) l[i] u w
theorem OwnLines.rd {B : Nat} {v : Value} {l : List LineC} {w : World} (h : OwnLines B v l w) (hm : l.length ≤ maxLen) : LinesRd (B ≤ ·) v l w := by
  rcases h with ⟨rfl, rfl⟩ | ⟨g, cap, cur, rfl, hg, _, _, _, _, h2⟩
  · exact ⟨none, 0, rfl, Nat.zero_le _, 0, 0, fun h => absurd h (Nat.lt_irrefl _), fun i hi => absurd hi (Nat.not_lt_zero _)⟩
  · refine ⟨_, cap, rfl, hm, g, 0, fun _ => ⟨rfl, hg⟩, fun i hi => ?_⟩
    obtain ⟨u, hu⟩ := h2 i hi
    rw [Nat.zero_add]
    exact ⟨u, hu.mono fun _ h => h.1⟩
end Go.Proofs.YtkocgedliakclaaDoor
