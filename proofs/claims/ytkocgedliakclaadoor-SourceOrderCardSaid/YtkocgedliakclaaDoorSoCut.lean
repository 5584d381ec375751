/- The lines of a text, plain: as the program cuts it, and as the document does. No Go. -/
import Derived.PlainAid
import Derived.Lib.SplitLaws
import Derived.Lib.Strings
import Derived.Lib.IndexLaws
namespace Go.Proofs.YtkocgedliakclaaDoor
open Go.PlainAid

def nlB : ByteArray := ⟨#[10]⟩
/-- The parts of a text between line feeds. -/
def pieces (s : ByteArray) : List ByteArray := Lib.splitB nlB 0 (Lib.countB s nlB) s
theorem pieces_len (s : ByteArray) : (pieces s).length = Lib.countB s nlB + 1 := Lib.splitB_all nlB (by decide) 0 _ s rfl
theorem pieces_ne (s : ByteArray) : pieces s ≠ [] := fun e => by have := pieces_len s; rw [e] at this; simp at this
/-- The lines of a text. -/
def linesT (s : ByteArray) : List ByteArray := if ((pieces s).getLast (pieces_ne s)).size = 0 then (pieces s).dropLast else pieces s
theorem linesT_len (s : ByteArray) : (linesT s).length ≤ Lib.countB s nlB + 1 := by
  unfold linesT
  split
  · rw [List.length_dropLast, pieces_len]; omega
  · rw [pieces_len]; exact Nat.le_refl _
theorem countB_byte (s : ByteArray) : Lib.countB s nlB = Lib.countByte s.data.toList 10 := Lib.count_one _ _
theorem countB_bd (s : ByteArray) : Lib.countB s nlB ≤ s.size := by
  rw [countB_byte, Lib.size_eq]
  exact List.count_le_length ..


/-- The document's cut: the parts so far, and where the next one begins, when i bytes are read. -/
def doneL (s : ByteArray) : Nat → List ByteArray × Nat
  | 0 => ([], 0)
  | i + 1 => if s.data.toList[i]? = some 10 then ((doneL s i).1 ++ [s.extract (doneL s i).2 i], i + 1) else doneL s i
theorem doneL_from (s : ByteArray) : ∀ i, (doneL s i).2 ≤ i ∧ ∀ j, (doneL s i).2 ≤ j → j < i → s.data.toList[j]? ≠ some 10
  | 0 => ⟨Nat.le_refl _, fun j _ h => absurd h (Nat.not_lt_zero _)⟩
  | i + 1 => by
    obtain ⟨h1, h2⟩ := doneL_from s i
    unfold doneL
    by_cases h : s.data.toList[i]? = some 10
    · rw [if_pos h]
      exact ⟨Nat.le_refl _, fun j hj hi => by omega⟩
    · rw [if_neg h]
      refine ⟨by omega, fun j hj hi => ?_⟩
      by_cases e : j = i
      · subst e; exact h
      · exact h2 j hj (by omega)
theorem doneL_len (s : ByteArray) : ∀ i, (doneL s i).1.length ≤ i
  | 0 => Nat.le_refl _
  | i + 1 => by
    have := doneL_len s i
    unfold doneL
    split
    · rw [List.length_append]; simp; omega
    · omega
def refL (s : ByteArray) : List ByteArray := if (doneL s s.size).2 < s.size then (doneL s s.size).1 ++ [s.extract (doneL s s.size).2 s.size] else (doneL s s.size).1

theorem list_ext {a b : ByteArray} (h : a.data.toList = b.data.toList) : a = b := by
  obtain ⟨a⟩ := a
  obtain ⟨b⟩ := b
  have h : a.toList = b.toList := h
  rw [Array.toList_inj.1 h]
theorem at_end {s : ByteArray} {p : Nat} (j : Nat) : (s.extract p s.size).data.toList[j]? = s.data.toList[p + j]? := by
  rw [Lib.extract_to_end, List.getElem?_drop]
theorem index_nl (x : ByteArray) : Lib.indexB x nlB = Lib.indexByte x.data.toList 10 := Lib.index_one _ _
theorem first_at {l : List UInt8} {k : Nat} (hk : l[k]? = some 10) (hno : ∀ j, j < k → l[j]? ≠ some 10) : Lib.indexByte l 10 = k := by
  have hge := Lib.indexByte_ge l 10
  rcases Int.lt_or_le (Lib.indexByte l 10) 0 with h | h
  · have e : Lib.indexByte l 10 = -1 := by omega
    exact absurd hk (Lib.indexByte_none e k)
  · obtain ⟨o, ho⟩ : ∃ o : Nat, Lib.indexByte l 10 = o := ⟨_, (Int.toNat_of_nonneg h).symm⟩
    obtain ⟨h1, h2⟩ := Lib.indexByte_some ho
    rcases Nat.lt_trichotomy o k with hlt | e | hlt
    · exact absurd h1 (hno o hlt)
    · rw [ho, e]
    · exact absurd hk (h2 k hlt)
theorem first_none {l : List UInt8} (hno : ∀ j : Nat, l[j]? ≠ some 10) : Lib.indexByte l 10 = -1 := by
  have hge := Lib.indexByte_ge l 10
  rcases Int.lt_or_le (Lib.indexByte l 10) 0 with h | h
  · omega
  · obtain ⟨o, ho⟩ : ∃ o : Nat, Lib.indexByte l 10 = o := ⟨_, (Int.toNat_of_nonneg h).symm⟩
    exact absurd (Lib.indexByte_some ho).1 (hno o)
/-- What is left, cut. -/
def leftP (s : ByteArray) (p : Nat) : List ByteArray := Lib.splitB nlB 0 (Lib.countB (s.extract p s.size) nlB) (s.extract p s.size)
theorem leftP_hit {s : ByteArray} {p i : Nat} (hp : p ≤ i) (hi : i < s.size) (h : s.data.toList[i]? = some 10) (hno : ∀ j, p ≤ j → j < i → s.data.toList[j]? ≠ some 10) : leftP s p = s.extract p i :: leftP s (i + 1) := by
  have hx : Lib.indexB (s.extract p s.size) nlB = ((i - p : Nat) : Int) := by
    rw [index_nl]
    refine first_at (by rw [at_end, show p + (i - p) = i by omega]; exact h) fun j hj => ?_
    rw [at_end]
    exact hno _ (by omega) (by omega)
  have hc := Lib.countB_hit (s.extract p s.size) nlB (i - p) (by decide) hx
  have hsz : (s.extract p s.size).size = s.size - p := by rw [ByteArray.size_extract]; omega
  have e1 : (s.extract p s.size).extract (i - p + nlB.size) (s.extract p s.size).size = s.extract (i + 1) s.size := by
    apply list_ext
    rw [Lib.extract_to_end, Lib.extract_to_end, Lib.extract_to_end, List.drop_drop]
    congr 1
    show p + (i - p + 1) = i + 1
    omega
  have e2 : (s.extract p s.size).extract 0 (i - p + 0) = s.extract p i := by
    apply list_ext
    rw [Lib.extract_data, Lib.extract_to_end, Lib.extract_data, List.drop_zero]
    rfl
  unfold leftP
  rw [hc, Nat.add_comm, Lib.splitB_hit nlB 0 _ _ (i - p) hx, e1, e2]
theorem leftP_miss {s : ByteArray} {p : Nat} (hno : ∀ j, p ≤ j → s.data.toList[j]? ≠ some 10) : leftP s p = [s.extract p s.size] := by
  have hx : Lib.indexB (s.extract p s.size) nlB = -1 := by
    rw [index_nl]
    exact first_none fun j => by rw [at_end]; exact hno _ (by omega)
  unfold leftP
  exact Lib.splitB_miss nlB 0 _ _ hx
theorem pieces_at (s : ByteArray) : ∀ i, i ≤ s.size → pieces s = (doneL s i).1 ++ leftP s (doneL s i).2
  | 0, _ => by
    have e : s.extract 0 s.size = s := by
      apply list_ext
      rw [Lib.extract_to_end, List.drop_zero]
    unfold pieces leftP
    show _ = [] ++ Lib.splitB nlB 0 (Lib.countB (s.extract 0 s.size) nlB) (s.extract 0 s.size)
    rw [e]
    rfl
  | i + 1, hi => by
    have ih := pieces_at s i (by omega)
    obtain ⟨h1, h2⟩ := doneL_from s i
    unfold doneL
    by_cases h : s.data.toList[i]? = some 10
    · rw [if_pos h, ih, leftP_hit h1 (by omega) h h2]
      simp
    · rw [if_neg h]
      exact ih
theorem lines_ref (s : ByteArray) : linesT s = refL s := by
  have hp := pieces_at s s.size (Nat.le_refl _)
  obtain ⟨h1, h2⟩ := doneL_from s s.size
  rw [leftP_miss fun j hj => by
    rcases Nat.lt_or_ge j s.size with h | h
    · exact h2 j hj h
    · rw [List.getElem?_eq_none (by rw [← Lib.size_eq]; exact h)]; exact fun h => by cases h] at hp
  unfold linesT refL
  have hl : (pieces s).getLast (pieces_ne s) = s.extract (doneL s s.size).2 s.size := by
    simp only [hp]
    simp
  have hz : (s.extract (doneL s s.size).2 s.size).size = s.size - (doneL s s.size).2 := by rw [ByteArray.size_extract]; omega
  rw [hl, hz]
  by_cases h : (doneL s s.size).2 < s.size
  · rw [if_neg (by omega), if_pos h, hp]
  · rw [if_pos (by omega), if_neg h, hp, List.dropLast_concat]
/-- The lines, each with a line feed. -/
def joinL (l : List ByteArray) : ByteArray := l.foldl (fun a t => a ++ (t ++ nlB)) ⟨#[]⟩
theorem joinL_snoc (l : List ByteArray) (t : ByteArray) : joinL (l ++ [t]) = joinL l ++ (t ++ nlB) := by
  unfold joinL
  rw [List.foldl_append]
  rfl
theorem app_list (a b : ByteArray) : (a ++ b).data.toList = a.data.toList ++ b.data.toList := by simp
theorem join_done (s : ByteArray) : ∀ i, i ≤ s.size → joinL (doneL s i).1 = s.extract 0 (doneL s i).2
  | 0, _ => by
    apply list_ext
    rw [Lib.extract_data]
    simp [doneL, joinL]
  | i + 1, hi => by
    have ih := join_done s i (by omega)
    obtain ⟨h1, _⟩ := doneL_from s i
    unfold doneL
    by_cases h : s.data.toList[i]? = some 10
    · rw [if_pos h]
      show joinL ((doneL s i).1 ++ [s.extract (doneL s i).2 i]) = s.extract 0 (i + 1)
      rw [joinL_snoc, ih]
      apply list_ext
      rw [app_list, app_list, Lib.extract_data, Lib.extract_data, Lib.extract_data, List.drop_zero, Nat.sub_zero, Nat.sub_zero]
      have e : s.data.toList.take (i + 1) = s.data.toList.take i ++ [10] := by
        rw [List.take_add_one, h]
        rfl
      have e2 : s.data.toList.take i = s.data.toList.take (doneL s i).2 ++ (s.data.toList.drop (doneL s i).2).take (i - (doneL s i).2) := by
        rw [← List.take_add, show (doneL s i).2 + (i - (doneL s i).2) = i by omega]
      rw [e, e2, List.append_assoc]
      rfl
    · rw [if_neg h]
      exact ih
/-- Joined with line feeds the lines are the text, but for one at the end. -/
theorem join_lines (s : ByteArray) : joinL (linesT s) = s ∧ ¬ (doneL s s.size).2 < s.size ∨ joinL (linesT s) = s ++ nlB ∧ (doneL s s.size).2 < s.size := by
  have hj := join_done s s.size (Nat.le_refl _)
  obtain ⟨h1, _⟩ := doneL_from s s.size
  rw [lines_ref]
  unfold refL
  by_cases h : (doneL s s.size).2 < s.size
  · right
    rw [if_pos h, joinL_snoc, hj]
    refine ⟨?_, h⟩
    apply list_ext
    rw [app_list, app_list, app_list, Lib.extract_data, Lib.extract_to_end, List.drop_zero, Nat.sub_zero, ← List.append_assoc, List.take_append_drop]
  · left
    rw [if_neg h, hj, show (doneL s s.size).2 = s.size by omega]
    refine ⟨?_, by omega⟩
    apply list_ext
    rw [Lib.extract_to_end, List.drop_zero]
theorem last_byte {s : ByteArray} (h : (doneL s s.size).2 < s.size) : s.data.toList[s.size - 1]? ≠ some 10 := by
  obtain ⟨_, h2⟩ := doneL_from s s.size
  exact h2 _ (by omega) (by omega)
theorem joinL_size (l : List ByteArray) (t : ByteArray) : (joinL (l ++ [t])).size = (joinL l).size + t.size + 1 := by
  rw [joinL_snoc, ByteArray.size_append, ByteArray.size_append]
  have : nlB.size = 1 := rfl
  omega
theorem foldl_size : ∀ (l : List ByteArray) (a : ByteArray), a.size ≤ (l.foldl (fun a t => a ++ (t ++ nlB)) a).size
  | [], a => Nat.le_refl _
  | t :: r, a => by
    have := foldl_size r (a ++ (t ++ nlB))
    rw [ByteArray.size_append] at this
    exact Nat.le_trans (Nat.le_add_right _ _) this
theorem joinL_take (l : List ByteArray) (i : Nat) : (joinL (l.take i)).size ≤ (joinL l).size := by
  have e : l = l.take i ++ l.drop i := (List.take_append_drop _ _).symm
  have h : joinL l = (l.drop i).foldl (fun a t => a ++ (t ++ nlB)) (joinL (l.take i)) := by
    unfold joinL
    rw [← List.foldl_append, ← e]
  rw [h]
  exact foldl_size _ _
theorem joinL_bd (s : ByteArray) : (joinL (linesT s)).size ≤ s.size + 1 := by
  rcases join_lines s with ⟨h, _⟩ | ⟨h, _⟩
  · rw [h]; omega
  · rw [h, ByteArray.size_append]; exact Nat.le_refl _
end Go.Proofs.YtkocgedliakclaaDoor
