/- The document's standard fonts: five boxes that grow. -/
import Derived.Test.YtboophfcakdlcaaFrFold
namespace Go.Proofs.Ytboophfcakdlcaa
open Go.RowKit Go.PlainAid Go.Shelf

abbrev nilV : Value := .slice none 0 0
/-- A font's box, and its glyphs. -/
structure Bx (lo x : Nat) (s : ByteArray) (b : Bool) (z : Int) (v : Value) (l : List Gl) (vl vk : Value) (w : World) : Prop where
  box : XB x s b z v vl vk w
  own : OwnR lo v l w
theorem Bx.below {lo x : Nat} {s : ByteArray} {b : Bool} {z : Int} {v vl vk : Value} {l : List Gl} {w w' : World} (h : Bx lo x s b z v l vl vk w) (hb : Below w.heap.size w w') : Bx lo x s b z v l vl vk w' :=
  ⟨by show w'.heap[x]? = _; rw [hb.block x (Array.getElem?_eq_some_iff.1 h.box).1]; exact h.box, owns_below h.own hb⟩
theorem XB.lt {x : Nat} {s : ByteArray} {b : Bool} {z : Int} {v vl vk : Value} {w : World} (h : XB x s b z v vl vk w) : x < w.heap.size := (Array.getElem?_eq_some_iff.1 h).1
theorem owns_set {lo x j T n : Nat} {v u : Value} {xs : List Value} {w : World} (h : w.ownsRow lo T 2 v n xs) (hx : x < lo) : (w.setCell ⟨x, j, none⟩ u).ownsRow lo T 2 v n xs :=
  owns_of_block h fun k hk => Below.heap_setCell _ _ _ _ (by have := (h.lt k hk).1; simp; omega)
/-- A store into another box. -/
theorem Bx.aside {lo x y j : Nat} {s : ByteArray} {b : Bool} {z : Int} {v vl vk u : Value} {l : List Gl} {w : World} (h : Bx lo x s b z v l vl vk w) (hy : y < lo) (hne : y ≠ x) : Bx lo x s b z v l vl vk (w.setCell ⟨y, j, none⟩ u) :=
  ⟨by show (w.setCell _ _).heap[x]? = _; rw [Below.heap_setCell _ _ _ _ (by simpa using Ne.symm hne)]; exact h.box, owns_set h.own hy⟩
/-- A store of new glyphs. -/
theorem Bx.put {lo x : Nat} {s : ByteArray} {b : Bool} {z : Int} {v v' vl vk : Value} {l l' : List Gl} {w : World} (h : Bx lo x s b z v l vl vk w) (hx : x < lo) (h' : OwnR lo v' l' w) : Bx lo x s b z v' l' vl vk (w.setCell ⟨x, 3, none⟩ v') :=
  ⟨by show (w.setCell _ _).heap[x]? = _; rw [heap_setCell_c h.box]; rfl, owns_set h' hx⟩
theorem Bx.ligs {lo x : Nat} {s : ByteArray} {b : Bool} {z : Int} {v vl vl' vk : Value} {l : List Gl} {w : World} (h : Bx lo x s b z v l vl vk w) (hx : x < lo) : Bx lo x s b z v l vl' vk (w.setCell ⟨x, 4, none⟩ vl') :=
  ⟨by show (w.setCell _ _).heap[x]? = _; rw [heap_setCell_c h.box]; rfl, owns_set h.own hx⟩
theorem Bx.kerns {lo x : Nat} {s : ByteArray} {b : Bool} {z : Int} {v vl vk vk' : Value} {l : List Gl} {w : World} (h : Bx lo x s b z v l vl vk w) (hx : x < lo) : Bx lo x s b z v l vl vk' (w.setCell ⟨x, 5, none⟩ vk') :=
  ⟨by show (w.setCell _ _).heap[x]? = _; rw [heap_setCell_c h.box]; rfl, owns_set h.own hx⟩
theorem below_set {B x j : Nat} {a w : World} {u : Value} (h : Below B a w) (hx : B ≤ x) : Below B a (w.setCell ⟨x, j, none⟩ u) :=
  ⟨h.os, h.tape, h.output, by simpa using h.size, fun k hk => by rw [Below.heap_setCell _ _ _ _ (by simp; omega)]; exact h.block k hk⟩
theorem rowK_set {α : Type} [Inhabited α] {enc : α → List Value} {k g off x j : Nat} {xs : List α} {u : Value} {w : World} (h : RowK enc k (some ⟨g, off, none⟩) xs w) (h0 : 0 < xs.length) (hne : x ≠ g) : RowK enc k (some ⟨g, off, none⟩) xs (w.setCell ⟨x, j, none⟩ u) := by
  obtain ⟨b', off', h1, h2⟩ := h
  obtain ⟨ha, hl⟩ := h1 h0
  obtain ⟨rfl, rfl⟩ : g = b' ∧ off = off' := by have := Option.some.inj ha; simp only [Addr.mk.injEq] at this; exact ⟨this.1, this.2.1⟩
  refine ⟨g, off, fun _ => ⟨rfl, by simpa using hl⟩, fun j' hj i v hv => ?_⟩
  rw [← h2 j' hj i v hv]
  unfold World.cell?
  rw [Below.heap_setCell _ _ _ _ (by simpa using Ne.symm hne)]

/-- The five boxes. -/
structure Five (q : Nat) (vr vi vb vm vs : Value) (lr li lb lm ls : List Gl) (rl rk bl : Value) (w : World) : Prop where
  r : Bx (q + 5) q ⟨#[82]⟩ false 250 vr lr rl rk w
  i : Bx (q + 5) (q + 1) ⟨#[73]⟩ false 250 vi li nilV nilV w
  b : Bx (q + 5) (q + 2) ⟨#[66]⟩ false 250 vb lb bl nilV w
  m : Bx (q + 5) (q + 3) ⟨#[77]⟩ false 600 vm lm nilV nilV w
  s : Bx (q + 5) (q + 4) ⟨#[83]⟩ true 250 vs ls nilV nilV w
section
variable {q : Nat} {vr vi vb vm vs rl rk bl v u : Value} {lr li lb lm ls l : List Gl} {w w' : World}
theorem Five.below (h : Five q vr vi vb vm vs lr li lb lm ls rl rk bl w) (hb : Below w.heap.size w w') : Five q vr vi vb vm vs lr li lb lm ls rl rk bl w' := ⟨h.r.below hb, h.i.below hb, h.b.below hb, h.m.below hb, h.s.below hb⟩
theorem Five.putR (h : Five q vr vi vb vm vs lr li lb lm ls rl rk bl w) (h' : OwnR (q + 5) v l w) : Five q v vi vb vm vs l li lb lm ls rl rk bl (w.setCell ⟨q, 3, none⟩ v) :=
  ⟨h.r.put (by omega) h', h.i.aside (by omega) (by omega), h.b.aside (by omega) (by omega), h.m.aside (by omega) (by omega), h.s.aside (by omega) (by omega)⟩
theorem Five.putI (h : Five q vr vi vb vm vs lr li lb lm ls rl rk bl w) (h' : OwnR (q + 5) v l w) : Five q vr v vb vm vs lr l lb lm ls rl rk bl (w.setCell ⟨q + 1, 3, none⟩ v) :=
  ⟨h.r.aside (by omega) (by omega), h.i.put (by omega) h', h.b.aside (by omega) (by omega), h.m.aside (by omega) (by omega), h.s.aside (by omega) (by omega)⟩
theorem Five.putB (h : Five q vr vi vb vm vs lr li lb lm ls rl rk bl w) (h' : OwnR (q + 5) v l w) : Five q vr vi v vm vs lr li l lm ls rl rk bl (w.setCell ⟨q + 2, 3, none⟩ v) :=
  ⟨h.r.aside (by omega) (by omega), h.i.aside (by omega) (by omega), h.b.put (by omega) h', h.m.aside (by omega) (by omega), h.s.aside (by omega) (by omega)⟩
theorem Five.putM (h : Five q vr vi vb vm vs lr li lb lm ls rl rk bl w) (h' : OwnR (q + 5) v l w) : Five q vr vi vb v vs lr li lb l ls rl rk bl (w.setCell ⟨q + 3, 3, none⟩ v) :=
  ⟨h.r.aside (by omega) (by omega), h.i.aside (by omega) (by omega), h.b.aside (by omega) (by omega), h.m.put (by omega) h', h.s.aside (by omega) (by omega)⟩
theorem Five.putS (h : Five q vr vi vb vm vs lr li lb lm ls rl rk bl w) (h' : OwnR (q + 5) v l w) : Five q vr vi vb vm v lr li lb lm l rl rk bl (w.setCell ⟨q + 4, 3, none⟩ v) :=
  ⟨h.r.aside (by omega) (by omega), h.i.aside (by omega) (by omega), h.b.aside (by omega) (by omega), h.m.aside (by omega) (by omega), h.s.put (by omega) h'⟩
theorem Five.setRl (h : Five q vr vi vb vm vs lr li lb lm ls rl rk bl w) : Five q vr vi vb vm vs lr li lb lm ls u rk bl (w.setCell ⟨q, 4, none⟩ u) :=
  ⟨h.r.ligs (by omega), h.i.aside (by omega) (by omega), h.b.aside (by omega) (by omega), h.m.aside (by omega) (by omega), h.s.aside (by omega) (by omega)⟩
theorem Five.setBl (h : Five q vr vi vb vm vs lr li lb lm ls rl rk bl w) : Five q vr vi vb vm vs lr li lb lm ls rl rk u (w.setCell ⟨q + 2, 4, none⟩ u) :=
  ⟨h.r.aside (by omega) (by omega), h.i.aside (by omega) (by omega), h.b.ligs (by omega), h.m.aside (by omega) (by omega), h.s.aside (by omega) (by omega)⟩
theorem Five.setRk (h : Five q vr vi vb vm vs lr li lb lm ls rl rk bl w) : Five q vr vi vb vm vs lr li lb lm ls rl u bl (w.setCell ⟨q, 5, none⟩ u) :=
  ⟨h.r.kerns (by omega), h.i.aside (by omega) (by omega), h.b.aside (by omega) (by omega), h.m.aside (by omega) (by omega), h.s.aside (by omega) (by omega)⟩
end
end Go.Proofs.Ytboophfcakdlcaa
