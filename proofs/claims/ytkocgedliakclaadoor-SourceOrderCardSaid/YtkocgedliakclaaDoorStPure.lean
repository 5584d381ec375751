/- Plain facts of layer 3: which names can be, which texts. No Go. -/
import Derived.PlainAid
import Derived.Test.YtkocgedliakclaaDoorRgPure
import Derived.Shelf.GgClosure.StringsIndexFunc
import Derived.Lib.IndexLaws
import Derived.Lib.Bytealg
namespace Go.Proofs.YtkocgedliakclaaDoor
open Go.PlainAid

/-- A rune that cannot stand in a name. -/
def unfitB (c : Nat) : Bool := !nmB (c : Int)
theorem nmB_ascii {c : Int} (h : nmB c = true) : c < 128 := by
  simp only [nmB, Bool.and_eq_true, decide_eq_true_eq] at h
  omega
theorem decode_low {s : ByteArray} {j : Nat} (_hj : j < s.size) (h : (s.get! j).toNat < 128) : Utf8.decode s j = ((s.get! j).toNat, 1) := by
  have h' : (s.get! (j + 0)).toNat < 128 := h
  unfold Utf8.decode
  simp only [Nat.add_zero] at h' ⊢
  rw [if_pos h']
theorem decode_high {s : ByteArray} {j : Nat} (h : ¬ (s.get! j).toNat < 128) : 128 ≤ (Utf8.decode s j).1 := by
  unfold Utf8.decode
  simp only [Nat.add_zero, ge_iff_le]
  rw [if_neg h]
  split
  · split
    · assumption
    · decide
  · split
    · split
      · rename_i hc
        simp only [Bool.and_eq_true, decide_eq_true_eq] at hc
        omega
      · decide
    · split
      · split
        · rename_i hc
          simp only [Bool.and_eq_true, decide_eq_true_eq] at hc
          omega
        · decide
      · decide
theorem bt_bang {s : ByteArray} {j : Nat} (h : j < s.size) : bt s j = ((s.get! j).toNat : Int) := by
  unfold bt
  rw [dif_pos h]
  congr 2
  show s[j] = s.data[j]!
  rw [getElem!_pos s.data j h]
  rfl

theorem idx_from (s : ByteArray) : ∀ (f pos : Nat), s.size ≤ pos + f →
    ((Lib.idxFuncFrom unfitB true s f pos = -1 ∧ ∀ j, pos ≤ j → j < s.size → nmB (bt s j) = true) ∨
     (0 ≤ Lib.idxFuncFrom unfitB true s f pos ∧ ∃ j, pos ≤ j ∧ j < s.size ∧ nmB (bt s j) = false))
  | 0, pos, h => .inl ⟨rfl, fun j h1 h2 => by omega⟩
  | f + 1, pos, h => by
    unfold Lib.idxFuncFrom
    by_cases hp : pos < s.size
    · rw [if_pos hp]
      by_cases hlow : (s.get! pos).toNat < 128
      · rw [decode_low hp hlow]
        have hb := bt_bang hp
        cases hn : nmB (bt s pos) with
        | true =>
          have hu : unfitB (s.get! pos).toNat = false := by unfold unfitB; rw [← hb, hn]; rfl
          rw [hu, if_neg (by simp)]
          rcases idx_from s f (pos + 1) (by omega) with ⟨h1, h2⟩ | ⟨h1, j, h2, h3, h4⟩
          · refine .inl ⟨h1, fun j hj1 hj2 => ?_⟩
            by_cases e : j = pos
            · subst e; exact hn
            · exact h2 j (by omega) hj2
          · exact .inr ⟨h1, j, by omega, h3, h4⟩
        | false =>
          have hu : unfitB (s.get! pos).toNat = true := by unfold unfitB; rw [← hb, hn]; rfl
          rw [hu, if_pos rfl]
          exact .inr ⟨by omega, pos, Nat.le_refl _, hp, hn⟩
      · have hc := decode_high hlow
        have hn : nmB (bt s pos) = false := by
          cases hn : nmB (bt s pos) with
          | false => rfl
          | true => have := nmB_ascii hn; rw [bt_bang hp] at this; omega
        have hu : unfitB (Utf8.decode s pos).1 = true := by
          unfold unfitB
          cases hk : nmB ((Utf8.decode s pos).1 : Int) with
          | false => rfl
          | true => have := nmB_ascii hk; omega
        rw [hu, if_pos rfl]
        exact .inr ⟨by omega, pos, Nat.le_refl _, hp, hn⟩
    · rw [if_neg hp]
      exact .inl ⟨rfl, fun j h1 h2 => by omega⟩

/-- A name of 1 to 20 bytes is one just where no rune of it is unfit. -/
theorem can_be {s : ByteArray} (h0 : 0 < s.size) (h1 : s.size ≤ 20) : (!decide (0 ≤ Lib.idxFunc unfitB true s)) = nameB s := by
  unfold Lib.idxFunc
  rcases idx_from s s.size 0 (by omega) with ⟨h, hall⟩ | ⟨h, j, _, hj, hb⟩
  · rw [nameB_all h0 h1 (fun j hj => hall j (Nat.zero_le _) hj), h]
    rfl
  · rw [nameB_byte hj hb]
    simp [h]

/-- Is a string a text? -/
def textB (s : ByteArray) : Bool := decide (s.size ≤ 2000) && !decide (0 ≤ Lib.indexByte s.data.toList 10)
theorem textB_short {s : ByteArray} (h : s.size ≤ 2000) : textB s = !decide (0 ≤ Lib.indexByte s.data.toList 10) := by simp [textB, h]
theorem textB_long {s : ByteArray} (h : ¬ s.size ≤ 2000) : textB s = false := by simp [textB, h]
theorem textB_size {s : ByteArray} (h : textB s = true) : s.size ≤ 2000 := by
  simp only [textB, Bool.and_eq_true, decide_eq_true_eq] at h
  exact h.1
end Go.Proofs.YtkocgedliakclaaDoor
