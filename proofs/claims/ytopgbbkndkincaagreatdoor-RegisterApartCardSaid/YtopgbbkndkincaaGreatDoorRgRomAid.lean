/- The library's calls that layer 2's numbers use, over this program. -/
import Derived.Test.YtopgbbkndkincaaGreatDoorRgLay3
import Derived.Test.YtopgbbkndkincaaGreatDoorRgRomPure
import Derived.Test.YtopgbbkndkincaaGreatDoorRgForm
import Derived.Shelf.Strings.BuilderK
namespace Go.Proofs.YtopgbbkndkincaaGreatDoor
open Go.RowKit Go.PlainAid Go.Shelf

theorem x_repeat : Builder.Extra Tryz.prog Tryz.repeatL_ren := { sizeBuilder := by kernel_rfl, liesBuilder := by kernel_rfl, t5 := Tryz.underlying5, a5 := Tryz.isAgg5, z5 := Tryz.sizeOf5, v5 := Tryz.zeroValue5, infoByte := by kernel_rfl, cellsByte := by kernel_rfl, sizeByte := by kernel_rfl, neB5 := by decide }
theorem x_upper : Builder.Extra Tryz.prog Tryz.upperL_ren := { sizeBuilder := by kernel_rfl, liesBuilder := by kernel_rfl, t5 := Tryz.underlying5, a5 := Tryz.isAgg5, z5 := Tryz.sizeOf5, v5 := Tryz.zeroValue5, infoByte := by kernel_rfl, cellsByte := by kernel_rfl, sizeByte := by kernel_rfl, neB5 := by decide }
theorem x_string : Builder.Extra Tryz.prog Tryz.stringL_ren := { sizeBuilder := by kernel_rfl, liesBuilder := by kernel_rfl, t5 := Tryz.underlying5, a5 := Tryz.isAgg5, z5 := Tryz.sizeOf5, v5 := Tryz.zeroValue5, infoByte := by kernel_rfl, cellsByte := by kernel_rfl, sizeByte := by kernel_rfl, neB5 := by decide }

abbrev StrP (l : List UInt8) (w : World) (e : Ending) (w' : World) : Prop := e = .returned (.string ⟨l.toArray⟩) ∧ Below w.heap.size w w'

theorem upper_at (s : ByteArray) (hs : s.size ≤ 140737488355328) (ha : ∀ (j : Nat) (b : UInt8), s.data.toList[j]? = some b → b.toNat < 128) (w : World) :
    Calls Tryz.prog 55 #[.string s] w (StrP (Lib.toUpperA s.data.toList) w) := Any.strings_ToUpper_ascii Tryz.upperL x_upper s w hs ha
theorem repeat_at (s : ByteArray) (c : Nat) (hc : c ≤ 9223372036854775807) (hl : s.size * c ≤ 140737488355328) (w : World) :
    Calls Tryz.prog 71 #[.string s, .int .i64 c] w (StrP (Lib.repeatL s.data.toList c) w) := Any.strings_Repeat Tryz.repeatL x_repeat s c w hc hl
abbrev IsB (B b : Nat) (l : List UInt8) (w : World) : Prop := Lib.IsBuilderF 91 5 B b (Lib.byteCells l) w
theorem write_at (B b : Nat) (l : List UInt8) (s : ByteArray) (w : World) (h : IsB B b l w) (hl : l.length + s.size ≤ 140737488355328) (hB : B ≤ w.heap.size) :
    Calls Tryz.prog 70 #[.pointer (some ⟨b, 0, none⟩), .string s] w fun e w' => e = .returned (.tuple #[.int .i64 s.size, .nilIface]) ∧ IsB B b (l ++ s.data.toList) w' ∧ Below B w w' ∧ Lib.OthersKept 5 (some b) w w' := by
  have hh := Any.Builder_WriteString_k { Tryz.repeatL with } x_repeat B b (Lib.byteCells l) s w h (by rw [Lib.byteCells_length]; exact hl) hB
  refine hh.mono fun e w' ⟨h1, h2, h3, h4⟩ => ⟨h1, .inr ?_, h3, h4⟩
  rw [Lib.strCells_eq] at h2
  rw [show Lib.byteCells (l ++ s.data.toList) = Lib.byteCells l ++ Lib.byteCells s.data.toList from by simp [Lib.byteCells]]
  exact h2
theorem string_at (B b : Nat) (l : List UInt8) (w : World) (h : IsB B b l w) (hB : B ≤ w.heap.size) :
    Calls Tryz.prog 72 #[.pointer (some ⟨b, 0, none⟩)] w fun e w' => e = .returned (.string ⟨l.toArray⟩) ∧ Below B w w' :=
  (Any.Builder_String_any_k Tryz.stringL x_string B b l w h hB).mono fun _ _ h => ⟨h.1, h.2.2.1⟩

theorem isB_new (w : World) : IsB w.heap.size w.heap.size [] (w.alloc (.cells #[.pointer none, .slice none 0 0] 91)) := Lib.IsBuilderF.of (Lib.fresh_isBuilder _ _ w)
theorem builderAt_below {T e : TypeId} {B b : Nat} {p : Value} {bs : List Value} {w w' : World} (h : Lib.BuilderAtF T e B b p bs w) (hb : Below w.heap.size w w') : Lib.BuilderAtF T e B b p bs w' := by
  obtain ⟨h1, v, h2, h3, h4⟩ := h
  have hlt := (Array.getElem?_eq_some_iff.1 h2).1
  exact ⟨h1, v, by rw [hb.block _ hlt]; exact h2, h3.kept (row := none) ⟨hb.os, hb.tape, hb.output, hb.size, fun k hk _ => hb.block k hk⟩ (by cases v.ownBlock <;> simp), h4⟩
theorem isB_below {B b : Nat} {l : List UInt8} {w w' : World} (h : IsB B b l w) (hb : Below w.heap.size w w') : IsB B b l w' := by
  rcases h with h | h
  · exact .inl (builderAt_below h hb)
  · exact .inr (builderAt_below h hb)
theorem isB_lt {B b : Nat} {l : List UInt8} {w : World} (h : IsB B b l w) : b < w.heap.size := by
  rcases h with h | h <;> exact Lib.BuilderAtF.lt h
theorem box_kept {b k : Nat} {c : Array Value} {w w' : World} (h : Lib.OthersKept 5 (some b) w w') (hk : k ≠ b) (hc : w.heap[k]? = some (.cells c 92 (0, 0))) : w'.heap[k]? = some (.cells c 92 (0, 0)) :=
  h k _ hc (by simpa using hk) (fun c' fz e => by injection e with _ e2 _; exact absurd e2 (by decide))
end Go.Proofs.YtopgbbkndkincaaGreatDoor
