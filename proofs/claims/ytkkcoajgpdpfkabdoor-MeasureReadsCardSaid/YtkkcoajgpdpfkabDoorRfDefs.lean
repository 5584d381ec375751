/- What the reference's operand and sum give; a reader's cells in a box. -/
import Derived.Test.YtkkcoajgpdpfkabDoorRfOp2
import Derived.Test.YtkkcoajgpdpfkabDoorRfPure
namespace Go.Proofs.YtkkcoajgpdpfkabDoor
open Go.RowKit Go.PlainAid

abbrev ret3 (a b c : Int) : Ending := .returned (.tuple #[.int .i64 a, .int .i64 b, .int .i64 c])

/-- What the reference's operand gives. -/
def ROut (r : Ms.Res (Int × Nat)) (bl : Bool) (w : World) (e : Ending) (w' : World) : Prop :=
  match r with
  | .ok (v, q) => ∃ n : Int, e = ret3 n q 0 ∧ (bl = false → n = v) ∧ Below w.heap.size w w'
  | .er c => ∃ n q : Int, e = ret3 n q c ∧ Below w.heap.size w w'

/-- What the reference's sum gives within brackets, or where more than the form is asked. -/
def SOut (r : Ms.Res (Int × Nat) × Nat) (bl : Bool) (w : World) (e : Ending) (w' : World) : Prop :=
  match r.1 with
  | .ok (v, _) => ∃ n : Int, e = ret3 n r.2 0 ∧ (bl = false → n = v) ∧ Below w.heap.size w w'
  | .er c => ∃ n q : Int, e = ret3 n q c ∧ Below w.heap.size w w'

def ROperandSpec (k : Nat) : Prop := ∀ (E : Ms.Env) (c : Int) (p : Nat) (d : Int) (w : World), E.Good → Ms.unitO c E.z E.v = some E.one → d = 20 - k → k ≤ 20 → p ≤ E.s.size →
  Calls Tryd.prog 66 #[RV E c, .int .i64 p, .int .i64 d] w (ROut (Ms.operand E (Ms.brk E k) (decide (0 < d)) p) E.bl w)
def RInSpec (k : Nat) : Prop := ∀ (E : Ms.Env) (c : Int) (p : Nat) (d : Int) (w : World), E.Good → Ms.unitO c E.z E.v = some E.one → d = 20 - k → k < 20 → p ≤ E.s.size →
  Calls Tryd.prog 45 #[RV E c, .int .i64 p, .int .i64 d] w (SOut (Ms.sum E (Ms.brk E k) true p 0) E.bl w)

theorem number_end (E : Ms.Env) (p : Nat) (h : E.s.size ≤ p) : Ms.number E p = .er 4 := by
  have h1 : Ms.dEnd E.s p 9 = p := dEnd_no (by rw [bt_end E.s h]; rfl)
  have h2 : Ms.partLen E.s p = 0 := part_none0 (by rw [bt_end E.s h]; omega)
  unfold Ms.number
  simp only [h1, h2]
  rw [if_pos ⟨trivial, trivial⟩]

theorem nz3 {α : Type} {r : Ms.Res α} {c : Int} (h : NZ r) (e : r = .er c) : (c != 0) = true := by
  have := h c e; rw [bne_iff_ne]; omega

/-- The cells of a reader in a box. -/
structure Box (E : Ms.Env) (c : Int) (b : Nat) (w : World) : Prop where
  c0 : w.cell? ⟨b, 0, none⟩ = some (.string E.s)
  c1 : w.cell? ⟨b, 1, none⟩ = some (.int .u8 c)
  c2 : w.cell? ⟨b, 2, none⟩ = some (.int .i64 E.z)
  c3 : w.cell? ⟨b, 3, none⟩ = some (.int .i64 E.v)
  c4 : w.cell? ⟨b, 4, none⟩ = some (.int .i64 E.h)
  c5 : w.cell? ⟨b, 5, none⟩ = some (.bool E.bl)
  lt : b < w.heap.size
theorem Box.below {E : Ms.Env} {c : Int} {b : Nat} {w w' : World} (h : Box E c b w) (hb : Below w.heap.size w w') : Box E c b w' := by
  obtain ⟨h0, h1, h2, h3, h4, h5, hl⟩ := h
  obtain ⟨hc, _⟩ := bcell hb
  exact ⟨by rw [hc _ _ hl, h0], by rw [hc _ _ hl, h1], by rw [hc _ _ hl, h2], by rw [hc _ _ hl, h3], by rw [hc _ _ hl, h4], by rw [hc _ _ hl, h5], Nat.lt_of_lt_of_le hl hb.size⟩
abbrev boxO (E : Ms.Env) (c : Int) : Obj := .cells #[.string E.s, .int .u8 c, .int .i64 E.z, .int .i64 E.v, .int .i64 E.h, .bool E.bl] 69
theorem Box.new (E : Ms.Env) (c : Int) (w : World) : Box E c w.heap.size (w.alloc (boxO E c)) := by
  refine ⟨?_, ?_, ?_, ?_, ?_, ?_, ?_⟩ <;> simp [go_sem]

theorem sign_form {E : Ms.Env} {ch n : Int} {q : Nat} (hbl : E.bl = true) (h : ch = 43 ∨ ch = 45 ∨ ch = 33 ∨ ch = 124) : ∃ x, signOf E ch (.ok (n, q)) = .ok (x, q) := by
  rcases h with rfl | rfl | rfl | rfl <;> simp [signOf, Ms.signed, Ms.reck, hbl]

end Go.Proofs.YtkkcoajgpdpfkabDoor
