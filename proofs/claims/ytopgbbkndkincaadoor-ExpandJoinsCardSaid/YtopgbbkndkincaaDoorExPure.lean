/- What a text is read as, piece by piece, and what it is expanded to where all answers are one short text: no Go. -/
import Derived.PlainAid
import Derived.WalkKit
import Derived.Lib.IndexLaws
import Derived.Lib.Bytealg
import Derived.Lib.Strings
namespace Go.Proofs.YtopgbbkndkincaaDoor
open Go.PlainAid

def visB (c : Int) : Bool := decide (33 ≤ c) && decide (c ≤ 126)
def shortB (c : Int) : Bool := visB c && !(c == 40) && !(c == 91) && !(c == 43) && !(c == 45)
def tail (s : ByteArray) (k : Nat) : ByteArray := s.extract k s.size
theorem tail_size (s : ByteArray) (k : Nat) : (tail s k).size = s.size - k := by unfold tail; rw [ByteArray.size_extract]; omega
def none' : ByteArray × Nat := (⟨#[]⟩, 0)
/-- All bytes from 1 up to an end can be seen. -/
def visTo (s : ByteArray) (e : Nat) : Bool := (List.range e).all fun j => j == 0 || visB (bt s j)
def endB (s : ByteArray) : Int := Lib.indexByte (s.extract 0 (min s.size 22)).data.toList 93
def brkM (s : ByteArray) : ByteArray × Nat := if endB s < 2 then none' else if visTo s (endB s).toNat then (s.extract 1 (endB s).toNat, (endB s).toNat + 1) else none'
def nameM (s : ByteArray) : ByteArray × Nat :=
  if s.size = 0 then none' else if bt s 0 = 91 then brkM s
  else if bt s 0 = 40 then (if s.size < 3 then none' else if shortB (bt s 1) then (if shortB (bt s 2) then (s.extract 1 3, 3) else none') else none')
  else if shortB (bt s 0) then (s.extract 0 1, 1) else none'
def stepM (s : ByteArray) : Int := if Lib.hasPrefix s.data.toList [43] then 1 else if Lib.hasPrefix s.data.toList [45] then -1 else 0

/-- What the beginning of a text is read as. -/
structure Piece where
  kind : Int
  name : ByteArray
  step : Int
  size : Nat
def onePiece : Piece := ⟨0, ⟨#[]⟩, 0, 1⟩
def namedAt (s : ByteArray) (st : Int) (k : Nat) : Piece := if (nameM (tail s k)).2 = 0 then onePiece else ⟨bt s 1, (nameM (tail s k)).1, st, k + (nameM (tail s k)).2⟩
def namedM (s : ByteArray) : Piece :=
  if bt s 1 = 110 then (if stepM (tail s 2) = 0 then namedAt s 0 2 else namedAt s (stepM (tail s 2)) 3) else namedAt s 0 2
def quoteB (s : ByteArray) : Int := Lib.indexByte (tail s 3).data.toList (bt s 2).toNat.toUInt8
def measM (s : ByteArray) : Piece :=
  if s.size < 3 then onePiece else if bt s 2 = 92 then onePiece
  else if quoteB s < 0 then onePiece else ⟨119, s.extract 3 (3 + (quoteB s).toNat), 0, 3 + (quoteB s).toNat + 1⟩
def firstM (s : ByteArray) (cm : Bool) : Piece :=
  if bt s 0 = 92 then (if s.size = 1 then onePiece else
    if bt s 1 = 34 then ⟨34, ⟨#[]⟩, 0, s.size⟩ else if bt s 1 = 110 ∨ bt s 1 = 42 ∨ bt s 1 = 36 then namedM s
    else if bt s 1 = 119 then (if cm then ⟨0, ⟨#[]⟩, 0, 2⟩ else measM s) else ⟨0, ⟨#[]⟩, 0, 2⟩)
  else onePiece

/-- What holds of a piece at the beginning of a text. -/
structure PieceOk (s : ByteArray) (p : Piece) : Prop where
  kind : p.kind = 0 ∨ p.kind = 34 ∨ p.kind = 110 ∨ p.kind = 42 ∨ p.kind = 36 ∨ p.kind = 119
  pos : 1 ≤ p.size
  le : p.size ≤ s.size
  stays : p.kind = 0 → p.size ≤ 2
  asks : p.kind ≠ 0 → p.kind ≠ 34 → 3 ≤ p.size
  inner : p.name.size < p.size
  cut : p.kind = 34 → 2 ≤ s.size ∧ p.size = s.size

theorem one_ok {s : ByteArray} (h : 0 < s.size) : PieceOk s onePiece := ⟨.inl rfl, Nat.le_refl _, h, fun _ => by decide, fun h => absurd rfl h, by decide, fun h => by cases h⟩
theorem endB_lt (s : ByteArray) (h : 2 ≤ endB s) : (endB s).toNat < s.size := by
  obtain ⟨o, ho⟩ : ∃ o : Nat, endB s = o := ⟨(endB s).toNat, by omega⟩
  unfold endB at ho
  have h1 := (List.getElem?_eq_some_iff.1 (Lib.indexByte_some ho).1).1
  have h2 : (s.extract 0 (min s.size 22)).data.toList.length = (s.extract 0 (min s.size 22)).size := (Lib.size_eq _).symm
  rw [h2, ByteArray.size_extract] at h1
  have : endB s = o := ho
  omega
theorem brk_le (s : ByteArray) : (brkM s).2 ≤ s.size ∧ ((brkM s).2 ≠ 0 → (brkM s).1.size < (brkM s).2) := by
  unfold brkM
  split
  · exact ⟨Nat.zero_le _, fun h => absurd rfl h⟩
  · rename_i h
    have := endB_lt s (by omega)
    split
    · refine ⟨by show _ + 1 ≤ _; omega, fun _ => ?_⟩
      show (s.extract 1 (endB s).toNat).size < (endB s).toNat + 1
      rw [ByteArray.size_extract]
      omega
    · exact ⟨Nat.zero_le _, fun h => absurd rfl h⟩
theorem name_le (s : ByteArray) : (nameM s).2 ≤ s.size ∧ (nameM s).1.size ≤ (nameM s).2 := by
  have none_le : ∀ t : ByteArray, (none').2 ≤ t.size ∧ (none').1.size ≤ (none').2 := fun t => ⟨Nat.zero_le _, Nat.le_refl _⟩
  unfold nameM
  split
  · exact none_le s
  · split
    · obtain ⟨h1, h2⟩ := brk_le s
      refine ⟨h1, ?_⟩
      by_cases e : (brkM s).2 = 0
      · rw [e]
        unfold brkM at e ⊢
        split
        · exact Nat.le_refl _
        · split
          · rename_i h3 h4
            rw [if_neg h3, if_pos h4] at e
            cases e
          · exact Nat.le_refl _
      · exact Nat.le_of_lt (h2 e)
    · split
      · split
        · exact none_le s
        · split
          · split
            · refine ⟨by show 3 ≤ _; omega, ?_⟩
              show (s.extract 1 3).size ≤ 3
              rw [ByteArray.size_extract]
              omega
            · exact none_le s
          · exact none_le s
      · split
        · refine ⟨by show 1 ≤ _; omega, ?_⟩
          show (s.extract 0 1).size ≤ 1
          rw [ByteArray.size_extract]
          omega
        · exact none_le s
theorem namedAt_ok {s : ByteArray} {st : Int} {k : Nat} (hs : 2 ≤ s.size) (hk : 2 ≤ k) (hks : k ≤ s.size) (hb : bt s 1 = 110 ∨ bt s 1 = 42 ∨ bt s 1 = 36) : PieceOk s (namedAt s st k) := by
  obtain ⟨h1, h2⟩ := name_le (tail s k)
  rw [tail_size] at h1
  unfold namedAt
  split
  · exact one_ok (by omega)
  · rename_i h
    refine ⟨?_, by show 1 ≤ k + _; omega, by show k + _ ≤ _; omega, fun e => ?_, (fun _ _ => by show 3 ≤ k + _; omega), (by show (nameM (tail s k)).1.size < k + _; omega), fun e => ?_⟩
    · rcases hb with h | h | h <;> simp [h]
    · have e : bt s 1 = 0 := e
      omega
    · have e : bt s 1 = 34 := e
      omega
theorem prefix_pos {s : ByteArray} (h : stepM s ≠ 0) : 1 ≤ s.size := by
  rcases Nat.eq_zero_or_pos s.size with e | e
  · exfalso
    apply h
    have hn : s.data.toList = [] := by
      apply List.eq_nil_of_length_eq_zero
      rw [← Lib.size_eq]
      exact e
    unfold stepM
    rw [hn]
    rfl
  · exact e
theorem named_ok {s : ByteArray} (hs : 2 ≤ s.size) (hb : bt s 1 = 110 ∨ bt s 1 = 42 ∨ bt s 1 = 36) : PieceOk s (namedM s) := by
  unfold namedM
  split
  · split
    · exact namedAt_ok hs (Nat.le_refl _) hs hb
    · rename_i h
      have := prefix_pos h
      rw [tail_size] at this
      exact namedAt_ok hs (by omega) (by omega) hb
  · exact namedAt_ok hs (Nat.le_refl _) hs hb
theorem quoteB_lt (s : ByteArray) (h : ¬ quoteB s < 0) : 3 + (quoteB s).toNat < s.size := by
  obtain ⟨o, ho⟩ : ∃ o : Nat, quoteB s = o := ⟨(quoteB s).toNat, by omega⟩
  unfold quoteB at ho
  have h1 := (List.getElem?_eq_some_iff.1 (Lib.indexByte_some ho).1).1
  have h2 : (tail s 3).data.toList.length = (tail s 3).size := (Lib.size_eq _).symm
  rw [h2, tail_size] at h1
  have : quoteB s = o := ho
  omega
theorem meas_ok {s : ByteArray} (hs : 2 ≤ s.size) : PieceOk s (measM s) := by
  unfold measM
  split
  · exact one_ok (by omega)
  · split
    · exact one_ok (by omega)
    · split
      · exact one_ok (by omega)
      · rename_i h
        have := quoteB_lt s h
        refine ⟨by simp, by show 1 ≤ 3 + _ + 1; omega, by show 3 + _ + 1 ≤ _; omega, (fun e => by cases e), (fun _ _ => by show 3 ≤ 3 + _ + 1; omega), ?_, (fun e => by cases e)⟩
        show (s.extract 3 _).size < 3 + _ + 1
        rw [ByteArray.size_extract]
        omega
theorem first_ok {s : ByteArray} (h : 0 < s.size) (cm : Bool) : PieceOk s (firstM s cm) := by
  have two : 2 ≤ s.size → PieceOk s ⟨0, ⟨#[]⟩, 0, 2⟩ := fun h2 => ⟨.inl rfl, by decide, h2, fun _ => Nat.le_refl _, fun h => absurd rfl h, by decide, fun h => by cases h⟩
  unfold firstM
  split
  · split
    · exact one_ok h
    · split
      · exact ⟨by simp, h, Nat.le_refl _, (fun h => by cases h), fun _ h => absurd rfl h, h, fun _ => ⟨by omega, rfl⟩⟩
      · split
        · rename_i hb
          exact named_ok (by omega) hb
        · split
          · split
            · exact two (by omega)
            · exact meas_ok (by omega)
          · exact two (by omega)
  · exact one_ok h
end Go.Proofs.YtopgbbkndkincaaDoor
