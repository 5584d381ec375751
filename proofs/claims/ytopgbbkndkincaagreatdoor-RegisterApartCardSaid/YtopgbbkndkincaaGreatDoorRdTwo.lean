/- Two books side by side in memory. -/
import Derived.Test.YtopgbbkndkincaaGreatDoorRdPair
import Derived.Test.YtopgbbkndkincaaGreatDoorRegionAid
namespace Go.Proofs.YtopgbbkndkincaaGreatDoor
open Go.RowKit Go.PlainAid Go.Maps

/-- The program's book, made before block B, the document's behind it; all from block A on. -/
structure Two (A B b mb n : Nat) (D : DataW Unit) (x : Nat) (v : Value) (l : List Row) (w : World) : Prop where
  bk : BookAt b mb n D w
  rf : RefAt B x v l w
  tb : ∀ W, Below A w W → Tabs W
  ab : A ≤ b
  am : A ≤ mb
  bB : b < B
  mB : mb < B
section
variable {A B b mb n n' x : Nat} {D D' : DataW Unit} {v v' : Value} {l l' : List Row} {w w' : World}
theorem Two.le (h : Two A B b mb n D x v l w) : A ≤ w.heap.size := by have := h.bk.lt; have := h.ab; omega
theorem Two.xlo (h : Two A B b mb n D x v l w) : B ≤ x := h.rf.lo
theorem Two.own (h : Two A B b mb n D x v l w) : ∀ k, v.ownBlock = some k → B ≤ k ∧ k < w.heap.size := fun k e => by
  rcases h.rf.ways with ⟨rfl, _⟩ | ⟨g, cap, rfl, h1, h2, _⟩
  · simp [Value.ownBlock] at e
  · simp [Value.ownBlock] at e
    omega
theorem Two.both (h : Two A B b mb n D x v l w) (sm : Same D l) : Both B b mb n D x v l w := ⟨h.bk, h.rf, sm, h.tb w (Below.refl _ _)⟩
theorem Two.below (h : Two A B b mb n D x v l w) (hb : Below w.heap.size w w') : Two A B b mb n D x v l w' :=
  ⟨h.bk.below hb, h.rf.below hb, fun W hW => h.tb W ((hb.mono h.le).trans hW), h.ab, h.am, h.bB, h.mB⟩
theorem Two.turn (h : Two A B b mb n D x v l w) (hB : BookAt b mb n' D' w') (hg : w.grownBy w' (some mb)) : Two A B b mb n' D' x v l w' ∧ Below A w w' := by
  have hA : Below A w w' := ⟨hg.os, hg.tape, hg.output, hg.size, fun k hk => hg.block k (by have := h.le; omega) (by have := h.am; simp; omega)⟩
  have hx := h.xlo
  have hm := h.mB
  refine ⟨⟨hB, ⟨?_, h.rf.row.kept hg ?_, h.rf.lo, h.rf.few⟩, fun W hW => h.tb W (hA.trans hW), h.ab, h.am, h.bB, h.mB⟩, hA⟩
  · rw [hg.block x h.rf.lt (by simp; omega)]
    exact h.rf.blk
  · cases e : v.ownBlock with
    | none => simp
    | some k =>
      have := (h.own k e).1
      simp
      omega
theorem Two.keep (h : Two A B b mb n D x v l w) (hr : RefAt B x v' l' w') (hk : RefKept x v w w') : Two A B b mb n D x v' l' w' ∧ Below A w w' := by
  have hx := h.xlo
  have hm := h.mB
  have hbb := h.bB
  have hab := h.ab
  have ham := h.am
  have hA : Below A w w' := ⟨hk.os, hk.tape, hk.output, hk.size, fun k hlt => hk.block k (by have := h.le; omega) (by omega) (fun e => by have := (h.own k e).1; omega)⟩
  refine ⟨⟨⟨?_, ?_⟩, hr, fun W hW => h.tb W (hA.trans hW), h.ab, h.am, h.bB, h.mB⟩, hA⟩
  · rw [hk.block b h.bk.lt (by omega) (fun e => by have := (h.own b e).1; omega)]
    exact h.bk.blk
  · have hml := h.bk.mlt
    obtain ⟨es, clock, hb, Ft, hs, hD⟩ := h.bk.map
    exact ⟨es, clock, (hk.block mb hml (by omega) (fun e => by have := (h.own mb e).1; omega)).trans hb, Ft, hs, hD⟩
/-- A block made since is as it was, whichever book is turned. -/
theorem Two.box_turn (h : Two A B b mb n D x v l w) {w2 w3 : World} {g : Nat} {o : Obj} (hg : w.heap.size ≤ g) (hx : w2.heap[g]? = some o) (hk : w2.grownBy w3 (some mb)) : w3.heap[g]? = some o := by
  have hm := h.bk.mlt
  rw [hk.block g (Array.getElem?_eq_some_iff.1 hx).1 (by simp; omega)]
  exact hx
theorem Two.box_keep (h : Two A B b mb n D x v l w) {w2 w3 : World} {g : Nat} {o : Obj} (hg : w.heap.size ≤ g) (hx : w2.heap[g]? = some o) (hk : RefKept x v w2 w3) : w3.heap[g]? = some o := keep_block h.rf hg hk hx
end
/-- What else is as it was: all but the map, the document's book, and its row. -/
structure Apart (mb x : Nat) (v v' : Value) (w w' : World) : Prop where
  size : w.heap.size ≤ w'.heap.size
  new : NewOr v v' w
  block : ∀ k, k < w.heap.size → k ≠ mb → k ≠ x → v.ownBlock ≠ some k → w'.heap[k]? = w.heap[k]?
theorem Apart.of_below {mb x : Nat} {v : Value} {w w' : World} (h : Below w.heap.size w w') : Apart mb x v v w w' := ⟨h.size, NewOr.same _ _, fun k hk _ _ _ => h.block k hk⟩
theorem apart_of {mb x : Nat} {v v' : Value} {w w1 w2 w3 : World} (hb : Below w.heap.size w w1) (hg : w1.grownBy w2 (some mb)) (hk : RefKept x v w2 w3) (hn : NewOr v v' w2) : Apart mb x v v' w w3 := by
  have h2 := Nat.le_trans hb.size hg.size
  refine ⟨Nat.le_trans h2 hk.size, fun k e => (hn k e).imp id (Nat.le_trans h2), fun k hlt h1 h3 h4 => ?_⟩
  rw [hk.block k (Nat.lt_of_lt_of_le hlt h2) h3 h4, hg.block k (Nat.lt_of_lt_of_le hlt hb.size) (by simpa using h1)]
  exact hb.block k hlt
/-- What a deed done to both gives. -/
def DoesP (A B b mb n x : Nat) (v : Value) (l : List Row) (w : World) (e : Ending) (w' : World) : Prop :=
  e = .returned (.bool true) ∧ ∃ n' D' v' l', Two A B b mb n' D' x v' l' w' ∧ Same D' l' ∧ n' ≤ n + 1 ∧ l'.length ≤ l.length + 1 ∧ Below A w w' ∧ Apart mb x v v' w w'
theorem umod7 (a : Int) : ∃ n : Int, (IntKind.u64.wrap a).tmod 7 = n ∧ 0 ≤ n ∧ n ≤ 6 := by
  have hu : 0 ≤ IntKind.u64.wrap a := by rw [IntKind.wrap_u64]; omega
  have e : (IntKind.u64.wrap a).tmod 7 = IntKind.u64.wrap a % 7 := Int.tmod_eq_emod_of_nonneg hu
  have l0 := Int.emod_nonneg (IntKind.u64.wrap a) (show (7 : Int) ≠ 0 from by omega)
  have l1 := Int.emod_lt_of_pos (IntKind.u64.wrap a) (show (0 : Int) < 7 from by omega)
  exact ⟨IntKind.u64.wrap a % 7, e, by omega, by omega⟩
theorem cell_of {w : World} {b k : Nat} {c : Array Value} {t : TypeId} {f : Nat × Nat} {v : Value} (h : w.heap[b]? = some (.cells c t f)) (hk : c[k]? = some v) : w.cell? ⟨b, k, none⟩ = some v := by
  unfold World.cell?
  rw [h]
  simpa using hk
abbrev dcells (a : Int) (nm fm : ByteArray) (z : Int) : Array Value := #[.int .i64 a, .string nm, .string fm, .int .i64 z]
end Go.Proofs.YtopgbbkndkincaaGreatDoor
