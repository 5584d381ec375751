/- A deed is done to both books. -/
import Derived.Test.YtghpcfodjacdpaaGreatDoorRdDeeds
import Derived.Test.YtghpcfodjacdpaaGreatDoorRdDeeds2
namespace Go.Proofs.YtghpcfodjacdpaaGreatDoor
open Go.RowKit Go.PlainAid Go.Maps

/-- A deed that came in. -/
structure DeedV where
  what : Int
  name : ByteArray
  form : ByteArray
  num : Int
abbrev deedV (d : DeedV) : Value := .agg (dcells d.what d.name d.form d.num)
def DeedOk (d : DeedV) : Prop := d.name.size ≤ 9223372036854775807 ∧ d.form.size ≤ 9223372036854775807
section
variable {A B b mb n x : Nat} {D : DataW Unit} {v : Value} {l : List Row} {w : World}
theorem does_any (h : Two A B b mb n D x v l w) (sm : Same D l) (hn : n < 500) (hl : l.length < 500) (d : DeedV) (hd : DeedOk d) :
    Calls Tryz.prog 7 #[ptr b, ptr x, deedV d] w (DoesP A B b mb n x l w) := by
  obtain ⟨a, nm, fm, z⟩ := d
  obtain ⟨hnm, hfm⟩ := hd
  have hD : IsMap D := h.bk.map.isMap
  have hsz : Maps.size D < 500 := Nat.lt_of_le_of_lt h.bk.map.size_le hn
  have hmx : n < maxLen := by unfold maxLen; omega
  obtain ⟨j, hj, j0, j6⟩ := umod7 a
  rcases (show j = 0 ∨ j = 1 ∨ j = 2 ∨ j = 3 ∨ j = 4 ∨ j = 5 ∨ j = 6 by omega) with rfl | rfl | rfl | rfl | rfl | rfl | rfl
  · obtain ⟨k, n', D', l', P⟩ := set_pair (B := B) (b := b) (mb := mb) (x := x) (nm := nm) sm hD hsz hl hmx hnm z
    exact does0 h a nm fm z hj P
  · obtain ⟨k, n', D', l', P⟩ := step_pair (B := B) (b := b) (mb := mb) (x := x) (nm := nm) sm hD hsz hl hmx hnm z
    exact does1 h a nm fm z hj P
  · obtain ⟨k, n', D', l', P⟩ := format_pair (B := B) (b := b) (mb := mb) (x := x) (nm := nm) sm hD hsz hl hmx hnm fm hfm
    exact does2 h a nm fm z hj P
  · obtain ⟨y, k, n', D', l', P⟩ := move_pair (B := B) (b := b) (mb := mb) (x := x) (nm := nm) sm hD hl hmx hnm (decide (0 ≤ z))
    exact does3 h a nm fm z hj P
  · obtain ⟨k, n', D', l', P⟩ := remove_pair (n := n) (B := B) (b := b) (mb := mb) (x := x) (nm := nm) sm hnm
    exact does4 h a nm fm z hj P
  · obtain ⟨k, n', D', l', P⟩ := rename_pair (B := B) (b := b) (mb := mb) (x := x) (nm := nm) sm hD hl hmx hnm fm hfm
    exact does5 h a nm fm z hj P
  · exact does6 h sm a nm fm z hj hnm
end
end Go.Proofs.YtghpcfodjacdpaaGreatDoor
