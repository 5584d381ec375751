/- Lines with all that is in them: how they lie in memory; they stay where their blocks stay. -/
import Derived.Test.YtkocgedliakclaaDoorStRows
namespace Go.Proofs.YtkocgedliakclaaDoor
open Go.RowKit Go.PlainAid Go.Maps Go.Shelf

structure BoxC where
  kind : Int
  width : Int
  font : Int
  size : Int
  name : ByteArray
  colour : ByteArray
  ns : List Int
structure LineC where
  text : ByteArray
  made : Bool
  up : Int
  down : Int
  boxes : List BoxC

/-- A value is a slice of numbers, in blocks of S. -/
def NumsRd (S : Nat → Prop) (v : Value) (l : List Int) (w : World) : Prop :=
  ∃ ao cap, v = .slice ao l.length cap ∧ l.length ≤ maxLen ∧ ∃ b off, (0 < l.length → ao = some ⟨b, off, none⟩ ∧ S b) ∧ ∀ i (h : i < l.length), w.cell? ⟨b, off + i, none⟩ = some (.int .i64 l[i])
/-- A box's cells, behind one another. -/
structure BoxAt (S : Nat → Prop) (b off : Nat) (x : BoxC) (v : Value) (w : World) : Prop where
  c0 : w.cell? ⟨b, off, none⟩ = some (.int .i64 x.kind)
  c1 : w.cell? ⟨b, off + 1, none⟩ = some (.int .i64 x.width)
  c2 : w.cell? ⟨b, off + 2, none⟩ = some (.int .i64 x.font)
  c3 : w.cell? ⟨b, off + 3, none⟩ = some (.int .i64 x.size)
  c4 : w.cell? ⟨b, off + 4, none⟩ = some (.string x.name)
  c5 : w.cell? ⟨b, off + 5, none⟩ = some (.string x.colour)
  c6 : w.cell? ⟨b, off + 6, none⟩ = some v
  ns : NumsRd S v x.ns w
def BoxesRd (S : Nat → Prop) (v : Value) (l : List BoxC) (w : World) : Prop :=
  ∃ ao cap, v = .slice ao l.length cap ∧ l.length ≤ maxLen ∧ ∃ b off, (0 < l.length → ao = some ⟨b, off, none⟩ ∧ S b) ∧ ∀ i (h : i < l.length), ∃ u, BoxAt S b (off + i * 7) l[i] u w
structure LineIn (S : Nat → Prop) (b off : Nat) (x : LineC) (v : Value) (w : World) : Prop where
  c0 : w.cell? ⟨b, off, none⟩ = some (.string x.text)
  c1 : w.cell? ⟨b, off + 1, none⟩ = some (.bool x.made)
  c2 : w.cell? ⟨b, off + 2, none⟩ = some (.int .i64 x.up)
  c3 : w.cell? ⟨b, off + 3, none⟩ = some (.int .i64 x.down)
  c4 : w.cell? ⟨b, off + 4, none⟩ = some v
  boxes : BoxesRd S v x.boxes w
def LinesRd (S : Nat → Prop) (v : Value) (l : List LineC) (w : World) : Prop :=
  ∃ ao cap, v = .slice ao l.length cap ∧ l.length ≤ maxLen ∧ ∃ b off, (0 < l.length → ao = some ⟨b, off, none⟩ ∧ S b) ∧ ∀ i (h : i < l.length), ∃ u, LineIn S b (off + i * 5) l[i] u w

/-- The cells of some blocks are as they were. -/
def Stay (S : Nat → Prop) (w w' : World) : Prop := ∀ b off, S b → w'.cell? ⟨b, off, none⟩ = w.cell? ⟨b, off, none⟩
section
variable {S T : Nat → Prop} {w w' : World}
theorem Stay.below (h : Below w.heap.size w w') (hS : ∀ b, S b → b < w.heap.size) : Stay S w w' := fun _ _ hb => h.cell (p := ⟨_, _, none⟩) (hS _ hb)
theorem Stay.heap (h : ∀ b, S b → w'.heap[b]? = w.heap[b]?) : Stay S w w' := fun b off hb => by simp [World.cell?, h b hb]
theorem NumsRd.stay {v : Value} {l : List Int} (h : NumsRd S v l w) (hs : Stay S w w') : NumsRd S v l w' := by
  obtain ⟨ao, cap, rfl, hl, b, off, h1, h2⟩ := h
  exact ⟨ao, cap, rfl, hl, b, off, h1, fun i hi => by rw [hs b _ (h1 (by omega)).2]; exact h2 i hi⟩
theorem NumsRd.mono {v : Value} {l : List Int} (h : NumsRd S v l w) (hs : ∀ b, S b → T b) : NumsRd T v l w := by
  obtain ⟨ao, cap, rfl, hl, b, off, h1, h2⟩ := h
  exact ⟨ao, cap, rfl, hl, b, off, fun h0 => ⟨(h1 h0).1, hs _ (h1 h0).2⟩, h2⟩
theorem BoxAt.stay {b off : Nat} {x : BoxC} {v : Value} (h : BoxAt S b off x v w) (hs : Stay S w w') (hb : S b) : BoxAt S b off x v w' :=
  ⟨by rw [hs b _ hb]; exact h.c0, by rw [hs b _ hb]; exact h.c1, by rw [hs b _ hb]; exact h.c2, by rw [hs b _ hb]; exact h.c3, by rw [hs b _ hb]; exact h.c4, by rw [hs b _ hb]; exact h.c5, by rw [hs b _ hb]; exact h.c6, h.ns.stay hs⟩
theorem BoxAt.mono {b off : Nat} {x : BoxC} {v : Value} (h : BoxAt S b off x v w) (hs : ∀ b, S b → T b) : BoxAt T b off x v w :=
  ⟨h.c0, h.c1, h.c2, h.c3, h.c4, h.c5, h.c6, h.ns.mono hs⟩
theorem BoxesRd.stay {v : Value} {l : List BoxC} (h : BoxesRd S v l w) (hs : Stay S w w') : BoxesRd S v l w' := by
  obtain ⟨ao, cap, rfl, hl, b, off, h1, h2⟩ := h
  exact ⟨ao, cap, rfl, hl, b, off, h1, fun i hi => by obtain ⟨u, hu⟩ := h2 i hi; exact ⟨u, hu.stay hs (h1 (by omega)).2⟩⟩
theorem BoxesRd.mono {v : Value} {l : List BoxC} (h : BoxesRd S v l w) (hs : ∀ b, S b → T b) : BoxesRd T v l w := by
  obtain ⟨ao, cap, rfl, hl, b, off, h1, h2⟩ := h
  exact ⟨ao, cap, rfl, hl, b, off, fun h0 => ⟨(h1 h0).1, hs _ (h1 h0).2⟩, fun i hi => by obtain ⟨u, hu⟩ := h2 i hi; exact ⟨u, hu.mono hs⟩⟩
theorem LineIn.stay {b off : Nat} {x : LineC} {v : Value} (h : LineIn S b off x v w) (hs : Stay S w w') (hb : S b) : LineIn S b off x v w' :=
  ⟨by rw [hs b _ hb]; exact h.c0, by rw [hs b _ hb]; exact h.c1, by rw [hs b _ hb]; exact h.c2, by rw [hs b _ hb]; exact h.c3, by rw [hs b _ hb]; exact h.c4, h.boxes.stay hs⟩
theorem LineIn.mono {b off : Nat} {x : LineC} {v : Value} (h : LineIn S b off x v w) (hs : ∀ b, S b → T b) : LineIn T b off x v w :=
  ⟨h.c0, h.c1, h.c2, h.c3, h.c4, h.boxes.mono hs⟩
theorem LinesRd.stay {v : Value} {l : List LineC} (h : LinesRd S v l w) (hs : Stay S w w') : LinesRd S v l w' := by
  obtain ⟨ao, cap, rfl, hl, b, off, h1, h2⟩ := h
  exact ⟨ao, cap, rfl, hl, b, off, h1, fun i hi => by obtain ⟨u, hu⟩ := h2 i hi; exact ⟨u, hu.stay hs (h1 (by omega)).2⟩⟩
theorem LinesRd.mono {v : Value} {l : List LineC} (h : LinesRd S v l w) (hs : ∀ b, S b → T b) : LinesRd T v l w := by
  obtain ⟨ao, cap, rfl, hl, b, off, h1, h2⟩ := h
  exact ⟨ao, cap, rfl, hl, b, off, fun h0 => ⟨(h1 h0).1, hs _ (h1 h0).2⟩, fun i hi => by obtain ⟨u, hu⟩ := h2 i hi; exact ⟨u, hu.mono hs⟩⟩

/-- A beginning, and the rest. -/
theorem LinesRd.take {ao : Option Addr} {cap : Nat} {l : List LineC} (h : LinesRd S (.slice ao l.length cap) l w) (k c : Nat) (hk : k ≤ l.length) : LinesRd S (.slice ao k c) (l.take k) w := by
  obtain ⟨ao', cap', e, hl, b, off, h1, h2⟩ := h
  cases e
  have e : (l.take k).length = k := by rw [List.length_take]; omega
  refine ⟨ao, c, by rw [e], by omega, b, off, fun h0 => h1 (by omega), fun i hi => ?_⟩
  obtain ⟨u, hu⟩ := h2 i (by omega)
  refine ⟨u, ?_⟩
  rw [List.getElem_take]
  exact hu
/-- Where the row lies: it has all of its cells. -/
theorem NumsRd.lt {v : Value} {l : List Int} (h : NumsRd S v l w) : NumsRd (· < w.heap.size) v l w := by
  obtain ⟨ao, cap, rfl, hl, b, off, h1, h2⟩ := h
  refine ⟨ao, cap, rfl, hl, b, off, fun h0 => ⟨(h1 h0).1, ?_⟩, h2⟩
  have := h2 0 h0
  rcases Nat.lt_or_ge b w.heap.size with h' | h'
  · exact h'
  · simp [World.cell?, Array.getElem?_eq_none h'] at this
theorem BoxesRd.lt {v : Value} {l : List BoxC} (h : BoxesRd S v l w) : BoxesRd (· < w.heap.size) v l w := by
  obtain ⟨ao, cap, rfl, hl, b, off, h1, h2⟩ := h
  refine ⟨ao, cap, rfl, hl, b, off, fun h0 => ⟨(h1 h0).1, ?_⟩, fun i hi => ?_⟩
  · obtain ⟨u, hu⟩ := h2 0 h0
    have := hu.c0
    rcases Nat.lt_or_ge b w.heap.size with h' | h'
    · exact h'
    · simp [World.cell?, Array.getElem?_eq_none h'] at this
  · obtain ⟨u, hu⟩ := h2 i hi
    exact ⟨u, hu.c0, hu.c1, hu.c2, hu.c3, hu.c4, hu.c5, hu.c6, hu.ns.lt⟩
theorem LinesRd.lt {v : Value} {l : List LineC} (h : LinesRd S v l w) : LinesRd (· < w.heap.size) v l w := by
  obtain ⟨ao, cap, rfl, hl, b, off, h1, h2⟩ := h
  refine ⟨ao, cap, rfl, hl, b, off, fun h0 => ⟨(h1 h0).1, ?_⟩, fun i hi => ?_⟩
  · obtain ⟨u, hu⟩ := h2 0 h0
    have := hu.c0
    rcases Nat.lt_or_ge b w.heap.size with h' | h'
    · exact h'
    · simp [World.cell?, Array.getElem?_eq_none h'] at this
  · obtain ⟨u, hu⟩ := h2 i hi
    exact ⟨u, hu.c0, hu.c1, hu.c2, hu.c3, hu.c4, hu.boxes.lt⟩
end
end Go.Proofs.YtkocgedliakclaaDoor
