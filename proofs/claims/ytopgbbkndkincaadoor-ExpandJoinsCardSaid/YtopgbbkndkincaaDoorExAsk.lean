/- Whoever is asked, and one expansion in memory. -/
import Derived.Test.YtopgbbkndkincaaDoorExRel
import Derived.Test.YtopgbbkndkincaaDoorExPiece
import Derived.Lib.AppendStr
import Derived.OneCell
import Derived.Recover
namespace Go.Proofs.YtopgbbkndkincaaDoor
open Go.RowKit Go.PlainAid

/-- What lay in memory is as it was, but for what belongs to the one who is asked. -/
structure Left (tk : World → Nat → Prop) (W W' : World) : Prop where
  os : W'.os = W.os
  tape : W'.tape = W.tape
  output : W'.output = W.output
  size : W.heap.size ≤ W'.heap.size
  block : ∀ k, k < W.heap.size → ¬ tk W k → W'.heap[k]? = W.heap[k]? ∧ ¬ tk W' k

/-- Whoever is asked: a function, what it holds in memory, its one answer. -/
structure Asker where
  g : Nat
  first : Array Value
  r : ByteArray
  St : Nat → World → Prop
  tk : World → Nat → Prop
  small : r.size ≤ 2
  enters : ∀ args w, (callFunc g args).run Tryd.prog w = .ok (.enter g args) w
  own : ∀ a W k, St a W → tk W k → k < W.heap.size
  frame : ∀ a W W', St a W → W.heap.size ≤ W'.heap.size → (∀ k, tk W k → W'.heap[k]? = W.heap[k]?) → St a W' ∧ ∀ k, tk W' k ↔ tk W k
  call : ∀ a W (kind : Int) (nm : ByteArray) (st : Int), a ≤ 500 → St a W → Calls Tryd.prog g (first ++ #[.int .u8 kind, .string nm, .int .i64 st]) W fun e W' => e = .returned (.string r) ∧ St (a + 1) W' ∧ Left tk W W'
abbrev Asker.look (A : Asker) : Value := .func (.func A.g) A.first #[]

/-- An expander in block x, in the midst of its work; all else as it was in W0, but for what is asked. -/
structure In (A : Asker) (x : Nat) (cm : Bool) (a : Nat) (W0 W : World) : Prop where
  st : A.St a W
  blk : W.heap[x]? = some (.cells #[A.look, .bool cm, .int .i64 a] 48 (0, 0))
  ntk : ¬ A.tk W x
  few : a ≤ 500
  os : W.os = W0.os
  tape : W.tape = W0.tape
  output : W.output = W0.output
  size : W0.heap.size ≤ W.heap.size
  block : ∀ k, k < W0.heap.size → k ≠ x → ¬ A.tk W0 k → W.heap[k]? = W0.heap[k]? ∧ ¬ A.tk W k

section
variable {A : Asker} {x : Nat} {cm : Bool} {a b : Nat} {W0 W W1 : World}
theorem In.start (h1 : A.St a W) (h2 : W.heap[x]? = some (.cells #[A.look, .bool cm, .int .i64 a] 48 (0, 0))) (h3 : ¬ A.tk W x) (h4 : a ≤ 500) : In A x cm a W W :=
  ⟨h1, h2, h3, h4, rfl, rfl, rfl, Nat.le_refl _, fun _ _ _ h => ⟨rfl, h⟩⟩
theorem In.again (h : In A x cm a W0 W) : In A x cm a W W := In.start h.st h.blk h.ntk h.few
theorem In.lt (h : In A x cm a W0 W) : x < W.heap.size := (Array.getElem?_eq_some_iff.1 h.blk).1
theorem In.trans (h : In A x cm a W0 W) (k : In A x cm b W W1) : In A x cm b W0 W1 :=
  ⟨k.st, k.blk, k.ntk, k.few, k.os.trans h.os, k.tape.trans h.tape, k.output.trans h.output, Nat.le_trans h.size k.size, fun i hi hx ht => by
    obtain ⟨e1, n1⟩ := h.block i hi hx ht
    obtain ⟨e2, n2⟩ := k.block i (Nat.lt_of_lt_of_le hi h.size) hx n1
    exact ⟨e2.trans e1, n2⟩⟩
/-- A step of one's own: it turns neither the expander nor what is asked, nor what was there first. -/
theorem In.step (h : In A x cm a W0 W) (os : W1.os = W.os) (tape : W1.tape = W.tape) (output : W1.output = W.output) (size : W.heap.size ≤ W1.heap.size) (hx : W1.heap[x]? = W.heap[x]?) (ht : ∀ k, A.tk W k → W1.heap[k]? = W.heap[k]?)
    (h0 : ∀ k, k < W0.heap.size → W1.heap[k]? = W.heap[k]?) : In A x cm a W0 W1 := by
  obtain ⟨s1, s2⟩ := A.frame a W W1 h.st size ht
  refine ⟨s1, hx.trans h.blk, fun e => h.ntk ((s2 x).1 e), h.few, os.trans h.os, tape.trans h.tape, output.trans h.output, Nat.le_trans h.size size, fun k hk hkx hkt => ?_⟩
  obtain ⟨e1, n1⟩ := h.block k hk hkx hkt
  exact ⟨(h0 k hk).trans e1, fun e => n1 ((s2 k).1 e)⟩
theorem In.below (h : In A x cm a W0 W) (hb : Below W.heap.size W W1) : In A x cm a W0 W1 :=
  h.step hb.os hb.tape hb.output hb.size (hb.block x h.lt) (fun k hk => hb.block k (A.own a W k h.st hk)) (fun k hk => hb.block k (Nat.lt_of_lt_of_le hk h.size))
/-- It is asked once. -/
theorem In.asked (h : In A x cm a W0 W) (h1 : A.St b W1) (h2 : Left A.tk W W1) (hb : b ≤ 500) (hx : W.heap[x]? = some (.cells #[A.look, .bool cm, .int .i64 b] 48 (0, 0))) : In A x cm b W0 W1 := by
  obtain ⟨e1, n1⟩ := h2.block x h.lt h.ntk
  refine ⟨h1, e1.trans hx, n1, hb, h2.os.trans h.os, h2.tape.trans h.tape, h2.output.trans h.output, Nat.le_trans h.size h2.size, fun k hk hkx hkt => ?_⟩
  obtain ⟨e2, n2⟩ := h.block k hk hkx hkt
  obtain ⟨e3, n3⟩ := h2.block k (Nat.lt_of_lt_of_le hk h.size) n2
  exact ⟨e3.trans e2, n3⟩
theorem In.cells (h : In A x cm a W0 W) : W.cell? ⟨x, 0, none⟩ = some A.look ∧ W.cell? ⟨x, 1, none⟩ = some (.bool cm) ∧ W.cell? ⟨x, 2, none⟩ = some (.int .i64 a) ∧ ∀ j, W.frozen? ⟨x, j, none⟩ = false := by
  refine ⟨?_, ?_, ?_, fun j => by simp [World.frozen?, h.blk]⟩ <;> (unfold World.cell?; rw [h.blk]; rfl)

/-- The row of bytes that has come out so far. -/
structure Row (A : Asker) (x B : Nat) (v : Value) (t : ByteArray) (W : World) : Prop where
  own : W.ownsRow B 5 1 v t.size (Lib.strCells t)
  apart : ∀ k, v.ownBlock = some k → ¬ A.tk W k ∧ k ≠ x
theorem Row.lt {B : Nat} {v : Value} {t : ByteArray} (h : Row A x B v t W) : ∀ k, v.ownBlock = some k → B ≤ k ∧ k < W.heap.size := fun k e => h.own.lt k e
end
end Go.Proofs.YtopgbbkndkincaaDoor
