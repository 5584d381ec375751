/- A condition of two texts. -/
import Derived.Test.YtjbaljibaejdgaaDoorRqCond
import Derived.Deep.RegionWith
import Derived.Deep.DeepCutAuto
namespace Go.Proofs.YtjbaljibaejdgaaDoor
open Go.RowKit Go.PlainAid Go.Shelf

abbrev CondV (nt : Bool) (k : Int) (n a bb r : List UInt8) : Value := .agg #[.bool nt, .int .u8 k, .string (mk8 n), .string (mk8 a), .string (mk8 bb), .string (mk8 r)]
abbrev condCells (nt : Bool) (k : Int) (n a bb r : List UInt8) : Array Value := #[.bool nt, .int .u8 k, .string (mk8 n), .string (mk8 a), .string (mk8 bb), .string (mk8 r)]
/-- A condition in memory. -/
def Cd (p : Nat) (nt : Bool) (k : Int) (n a bb r : List UInt8) (w : World) : Prop := w.heap[p]? = some (.cells (condCells nt k n a bb r) 28 (0, 0))
section
variable {p : Nat} {nt : Bool} {k : Int} {n a bb r : List UInt8} {w w' : World}
theorem Cd.lt (h : Cd p nt k n a bb r w) : p < w.heap.size := (Array.getElem?_eq_some_iff.1 h).1
theorem Cd.below (h : Cd p nt k n a bb r w) (hb : Below w.heap.size w w') : Cd p nt k n a bb r w' := by unfold Cd; rw [hb.block p h.lt]; exact h
theorem Cd.only {b : Nat} (h : Cd p nt k n a bb r w) (hb : Only b w w') (hn : p ≠ b) : Cd p nt k n a bb r w' := by unfold Cd; rw [hb.block p h.lt hn]; exact h
theorem Cd.fz (h : Cd p nt k n a bb r w) (j : Nat) : w.frozen? ⟨p, j, none⟩ = false := by simp [World.frozen?, show w.heap[p]? = _ from h]
theorem Cd.c0 (h : Cd p nt k n a bb r w) : w.cell? ⟨p, 0, none⟩ = some (.bool nt) := by simp [World.cell?, show w.heap[p]? = _ from h]
theorem Cd.c1 (h : Cd p nt k n a bb r w) : w.cell? ⟨p, 1, none⟩ = some (.int .u8 k) := by simp [World.cell?, show w.heap[p]? = _ from h]
theorem Cd.c2 (h : Cd p nt k n a bb r w) : w.cell? ⟨p, 2, none⟩ = some (.string (mk8 n)) := by simp [World.cell?, show w.heap[p]? = _ from h]
theorem Cd.c3 (h : Cd p nt k n a bb r w) : w.cell? ⟨p, 3, none⟩ = some (.string (mk8 a)) := by simp [World.cell?, show w.heap[p]? = _ from h]
theorem Cd.c4 (h : Cd p nt k n a bb r w) : w.cell? ⟨p, 4, none⟩ = some (.string (mk8 bb)) := by simp [World.cell?, show w.heap[p]? = _ from h]
theorem Cd.c5 (h : Cd p nt k n a bb r w) : w.cell? ⟨p, 5, none⟩ = some (.string (mk8 r)) := by simp [World.cell?, show w.heap[p]? = _ from h]
theorem heap_setCell_c {w : World} {b : Nat} {c : Array Value} {t : TypeId} {f : Nat × Nat} (h : w.heap[b]? = some (.cells c t f)) (k : Nat) (u : Value) :
    (w.setCell ⟨b, k, none⟩ u).heap[b]? = some (.cells (c.setIfInBounds k u) t f) := by
  have hlt := (Array.getElem?_eq_some_iff.1 h).1
  have h' : w.heap[b] = .cells c t f := by simpa [Array.getElem?_eq_getElem hlt] using h
  show (w.heap.modify b _)[b]? = _
  rw [Array.getElem?_eq_getElem (by simpa using hlt), Array.getElem_modify_self, h']
  rfl
theorem Cd.set0 (h : Cd p nt k n a bb r w) (u : Bool) : Cd p u k n a bb r (w.setCell ⟨p, 0, none⟩ (.bool u)) := heap_setCell_c h 0 _
theorem Cd.set1 (h : Cd p nt k n a bb r w) (u : Int) : Cd p nt u n a bb r (w.setCell ⟨p, 1, none⟩ (.int .u8 u)) := heap_setCell_c h 1 _
theorem Cd.set2 (h : Cd p nt k n a bb r w) (u : List UInt8) : Cd p nt k u a bb r (w.setCell ⟨p, 2, none⟩ (.string (mk8 u))) := heap_setCell_c h 2 _
theorem Cd.set3 (h : Cd p nt k n a bb r w) (u : List UInt8) : Cd p nt k n u bb r (w.setCell ⟨p, 3, none⟩ (.string (mk8 u))) := heap_setCell_c h 3 _
theorem Cd.set4 (h : Cd p nt k n a bb r w) (u : List UInt8) : Cd p nt k n a u r (w.setCell ⟨p, 4, none⟩ (.string (mk8 u))) := heap_setCell_c h 4 _
theorem Cd.set5 (h : Cd p nt k n a bb r w) (u : List UInt8) : Cd p nt k n a bb u (w.setCell ⟨p, 5, none⟩ (.string (mk8 u))) := heap_setCell_c h 5 _
theorem cd_new (nt : Bool) (k : Int) (n a bb r : List UInt8) (w : World) : Cd w.heap.size nt k n a bb r (w.alloc (.cells (condCells nt k n a bb r) 28)) := heap_alloc_new w _
end
theorem Cd.drew {p : Nat} {nt : Bool} {k : Int} {n a bb r : List UInt8} {w : World} (h : Cd p nt k n a bb r w) : Cd p nt k n a bb r w.drew := h
theorem Only.drew {b : Nat} {w w' : World} (h : Only b w w') : Only b w w'.drew := ⟨h.os, h.tape, h.output, h.size, h.block⟩
theorem Only.undrew {b : Nat} {w w' : World} (h : Only b w.drew w') : Only b w w' := ⟨h.os, h.tape, h.output, h.size, h.block⟩
theorem Box.drew {b : Nat} {l : List UInt8} {w : World} (h : Box b l w) : Box b l w.drew := h
theorem sets_only {b j : Nat} (w : World) (u : Value) : Only b w (w.setCell ⟨b, j, none⟩ u) := (Only.refl b w).set u
theorem Box.far {b c : Nat} {l : List UInt8} {w w' : World} (h : Box b l w) (hb : Only c w w') (hn : b ≠ c) : Box b l w' := by unfold Box; rw [hb.block b h.lt hn]; exact h
/-- A whole condition is stored. -/
abbrev putCd (w : World) (p : Nat) (nt : Bool) (k : Int) (n a bb r : List UInt8) : World :=
  (((((w.setCell ⟨p, 0, none⟩ (.bool nt)).setCell ⟨p, 1, none⟩ (.int .u8 k)).setCell ⟨p, 2, none⟩ (.string (mk8 n))).setCell ⟨p, 3, none⟩ (.string (mk8 a))).setCell ⟨p, 4, none⟩ (.string (mk8 bb))).setCell ⟨p, 5, none⟩ (.string (mk8 r))
theorem putCd_only (w : World) (p : Nat) (nt : Bool) (k : Int) (n a bb r : List UInt8) : Only p w (putCd w p nt k n a bb r) :=
  (((((sets_only w _).set _).set _).set _).set _).set _
theorem putCd_is {p : Nat} {nt nt' : Bool} {k k' : Int} {n a bb r n' a' bb' r' : List UInt8} {w : World} (h : Cd p nt k n a bb r w) : Cd p nt' k' n' a' bb' r' (putCd w p nt' k' n' a' bb' r') :=
  (((((h.set0 nt').set1 k').set2 n').set3 a').set4 bb').set5 r'

theorem one_drop1 (m : List UInt8) : m.drop (oneN m) = m.drop 1 := by
  unfold oneN
  cases m with
  | nil => rfl
  | cons c r => simp
/-- What is left at the second of two quotes. -/
def atEnd (c : UInt8) (r : List UInt8) : List UInt8 := ((r.drop (upN c r)).drop 1).drop (upN c ((r.drop (upN c r)).drop 1))
theorem upN_yes {c : UInt8} {l : List UInt8} (h : ¬ Lib.indexByte l c < 0) : upN c l = (Lib.indexByte l c).toNat ∧ l.drop (upN c l) ≠ [] := by
  have e : upN c l = (Lib.indexByte l c).toNat := by unfold upN; rw [if_neg h]
  refine ⟨e, ?_⟩
  obtain ⟨o, ho⟩ : ∃ o : Nat, Lib.indexByte l c = o := ⟨(Lib.indexByte l c).toNat, by omega⟩
  have h1 := (List.getElem?_eq_some_iff.1 (Lib.indexByte_some ho).1).1
  rw [e, ho]
  intro hd
  have := congrArg List.length hd
  rw [List.length_drop] at this
  simp at this
  omega
theorem upN_no {c : UInt8} {l : List UInt8} (h : Lib.indexByte l c < 0) : upN c l = l.length := by unfold upN; rw [if_pos h]
theorem texts_none {c : UInt8} {r : List UInt8} (h : atEnd c r = []) : textsL c r = none := by
  unfold textsL
  by_cases h1 : Lib.indexByte r c < 0
  · rw [if_pos h1]
  · rw [if_neg h1]
    obtain ⟨e1, _⟩ := upN_yes h1
    have hm : (r.drop (upN c r)).drop 1 = r.drop ((Lib.indexByte r c).toNat + 1) := by rw [List.drop_drop, e1]
    unfold atEnd at h
    rw [hm] at h
    by_cases h2 : Lib.indexByte (r.drop ((Lib.indexByte r c).toNat + 1)) c < 0
    · rw [if_pos h2]
    · exact absurd h (upN_yes h2).2
theorem texts_some {c : UInt8} {r : List UInt8} (h : atEnd c r ≠ []) : textsL c r = some ⟨39, [], r.take (upN c r), ((r.drop (upN c r)).drop 1).take (upN c ((r.drop (upN c r)).drop 1)), (atEnd c r).drop 1⟩ := by
  unfold textsL
  by_cases h1 : Lib.indexByte r c < 0
  · exfalso
    apply h
    unfold atEnd
    rw [upN_no h1, List.drop_length]
    rfl
  · rw [if_neg h1]
    obtain ⟨e1, _⟩ := upN_yes h1
    have hm : (r.drop (upN c r)).drop 1 = r.drop ((Lib.indexByte r c).toNat + 1) := by rw [List.drop_drop, e1]
    unfold atEnd at h ⊢
    rw [hm] at h ⊢
    rw [e1]
    by_cases h2 : Lib.indexByte (r.drop ((Lib.indexByte r c).toNat + 1)) c < 0
    · exfalso
      apply h
      rw [upN_no h2, List.drop_length]
    · rw [if_neg h2]
      obtain ⟨e2, _⟩ := upN_yes h2
      have hx : ∀ x : List UInt8, x.drop ((Lib.indexByte (r.drop ((Lib.indexByte r c).toNat + 1)) c).toNat + 1) = (x.drop (Lib.indexByte (r.drop ((Lib.indexByte r c).toNat + 1)) c).toNat).drop 1 := fun x => by rw [List.drop_drop]
      rw [e2, hx]

/-- What reading two texts gives. -/
def TextsP (c : UInt8) (r : List UInt8) (b : Nat) (W : World) (e : Ending) (W' : World) : Prop :=
  ∃ a bb, e = .returned (.tuple #[CondV false 39 [] a bb [], .bool (!(atEnd c r).isEmpty)]) ∧ Box b ((atEnd c r).drop 1) W' ∧ Only b W W' ∧ a = r.take (upN c r) ∧ bb = ((r.drop (upN c r)).drop 1).take (upN c ((r.drop (upN c r)).drop 1))
end Go.Proofs.YtjbaljibaejdgaaDoor
