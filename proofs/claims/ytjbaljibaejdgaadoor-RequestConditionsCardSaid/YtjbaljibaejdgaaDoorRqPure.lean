/- What blanks, quotes and backslashes of a line are read as: no Go. -/
import Derived.PlainAid
import Derived.WalkKit
import Derived.Lib.IndexLaws
import Derived.Lib.Bytealg
import Derived.Lib.Strings
import Derived.Lib.SlTrimSet
import Derived.Lib.IndexAny
namespace Go.Proofs.YtjbaljibaejdgaaDoor
open Go.PlainAid

def blk (c : UInt8) : Bool := c == 32 || c == 9
/-- The bytes of a word up to a blank that no 92 holds. -/
def bareN : List UInt8 → Nat
  | [] => 0
  | [c] => if blk c then 0 else 1
  | c :: d :: r => if blk c then 0 else if c = 92 then 2 + bareN r else 1 + bareN (d :: r)
/-- How many bytes at the front are not to be parted. -/
def togN : List UInt8 → Nat
  | 92 :: _ :: _ => 2
  | _ => 1
/-- What stands behind a quote up to the one that ends it: the text, and the bytes that it takes with that quote. -/
def quotL : List UInt8 → List UInt8 × Nat
  | [] => ([], 0)
  | [c] => if c = 34 then ([], 1) else ([c], 1)
  | c :: d :: r =>
    if c = 34 then (if d = 34 then (34 :: (quotL r).1, 2 + (quotL r).2) else ([], 1))
    else if c = 92 then (92 :: d :: (quotL r).1, 2 + (quotL r).2)
    else (c :: (quotL (d :: r)).1, 1 + (quotL (d :: r)).2)
/-- The argument at the front, and its bytes. -/
def firstL (l : List UInt8) : List UInt8 × Nat :=
  match l with
  | [] => ([], 0)
  | c :: r => if c = 34 then ((quotL r).1 ++ (r.drop (quotL r).2).take (bareN (r.drop (quotL r).2)), 1 + (quotL r).2 + bareN (r.drop (quotL r).2)) else (l.take (bareN l), bareN l)
/-- A text's arguments. -/
inductive Wds : List UInt8 → List (List UInt8) → Prop
  | done {l : List UInt8} : l.dropWhile blk = [] → Wds l []
  | more {l m : List UInt8} {ws : List (List UInt8)} : l.dropWhile blk = m → m ≠ [] → Wds (m.drop (firstL m).2) ws → Wds l ((firstL m).1 :: ws)

theorem Wds.eq {l : List UInt8} {a : List (List UInt8)} (h : Wds l a) : ∀ {b : List (List UInt8)}, Wds l b → a = b := by
  induction h with
  | done h =>
    intro b hb
    cases hb with
    | done _ => rfl
    | more h2 hn _ => exact absurd (h2.symm.trans h) hn
  | more h hn _ ih =>
    intro b hb
    cases hb with
    | done h2 => exact absurd (h.symm.trans h2) hn
    | more h2 hn2 h3 =>
      obtain rfl := h.symm.trans h2
      rw [ih h3]

theorem bareN_le : ∀ l : List UInt8, bareN l ≤ l.length
  | [] => Nat.le_refl _
  | [c] => by unfold bareN; split <;> simp
  | c :: d :: r => by
    have h1 := bareN_le r
    have h2 := bareN_le (d :: r)
    unfold bareN
    simp only [List.length_cons] at h2 ⊢
    split
    · omega
    · split <;> omega
theorem quotL_le : ∀ l : List UInt8, (quotL l).2 ≤ l.length ∧ (quotL l).1.length ≤ (quotL l).2
  | [] => ⟨Nat.le_refl _, Nat.le_refl _⟩
  | [c] => by unfold quotL; split <;> simp
  | c :: d :: r => by
    have h1 := quotL_le r
    have h2 := quotL_le (d :: r)
    unfold quotL
    simp only [List.length_cons] at h2 ⊢
    split
    · split
      · simp only [List.length_cons]; omega
      · simp
    · split
      · simp only [List.length_cons]; omega
      · simp only [List.length_cons]; omega
theorem blk_92 : blk 92 = false := rfl
theorem blk_34 : blk 34 = false := rfl
theorem togN_le {l : List UInt8} (h : l ≠ []) : 1 ≤ togN l ∧ togN l ≤ l.length := by
  match l, h with
  | [c], _ => exact ⟨by unfold togN; split <;> omega, by unfold togN; split <;> simp_all⟩
  | c :: d :: r, _ =>
    unfold togN
    split
    · simp
    · simp
theorem bareN_stop {l : List UInt8} (h : ∀ c, l.head? = some c → blk c = true) : bareN l = 0 := by
  match l, h with
  | [], _ => rfl
  | [c], h => unfold bareN; rw [if_pos (h c rfl)]
  | c :: d :: r, h => unfold bareN; rw [if_pos (h c rfl)]
theorem bareN_step {l : List UInt8} {c : UInt8} (h : l.head? = some c) (hb : blk c = false) : bareN l = togN l + bareN (l.drop (togN l)) := by
  match l, h with
  | [x], h =>
    obtain rfl : x = c := Option.some.inj h
    have h1 : togN [x] = 1 := by unfold togN; split <;> simp_all
    rw [h1]
    unfold bareN
    rw [hb]
    rfl
  | x :: d :: r, h =>
    obtain rfl : x = c := Option.some.inj h
    by_cases e : x = 92
    · subst e
      have h1 : togN (92 :: d :: r) = 2 := rfl
      rw [h1]
      conv => lhs; unfold bareN
      rw [if_neg (by simp [blk_92]), if_pos rfl]
      rfl
    · have h1 : togN (x :: d :: r) = 1 := by
        unfold togN
        split
        · rename_i q; injection q with q; exact absurd q e
        · rfl
      rw [h1]
      conv => lhs; unfold bareN
      rw [if_neg (by simp [hb]), if_neg e]
      rfl
theorem firstL_le (l : List UInt8) : (firstL l).2 ≤ l.length ∧ (firstL l).1.length ≤ (firstL l).2 := by
  unfold firstL
  split
  · exact ⟨Nat.le_refl _, Nat.le_refl _⟩
  · rename_i c r
    split
    · have h1 := quotL_le r
      have h2 := bareN_le (r.drop (quotL r).2)
      have h3 : (r.drop (quotL r).2).length = r.length - (quotL r).2 := by simp
      simp only [List.length_cons, List.length_append, List.length_take]
      omega
    · have h2 := bareN_le (c :: r)
      simp only [List.length_take]
      omega
/-- An argument takes at least a byte. -/
theorem firstL_pos {l : List UInt8} {c : UInt8} (h : l.head? = some c) (hb : blk c = false) : 1 ≤ (firstL l).2 := by
  match l, h with
  | x :: r, h =>
    obtain rfl : x = c := Option.some.inj h
    unfold firstL
    simp only
    split
    · show 1 ≤ 1 + _ + _; omega
    · show 1 ≤ bareN _
      rw [bareN_step rfl hb]
      have := (togN_le (l := x :: r) (by simp)).1
      omega
/-- The blanks at the front. -/
def blkN (l : List UInt8) : Nat := (l.takeWhile blk).length
theorem dropW_drop (p : UInt8 → Bool) : ∀ l : List UInt8, l.dropWhile p = l.drop (l.takeWhile p).length
  | [] => rfl
  | c :: r => by
    by_cases h : p c = true
    · rw [List.dropWhile_cons_of_pos h, List.takeWhile_cons_of_pos h, dropW_drop p r]; rfl
    · rw [List.dropWhile_cons_of_neg h, List.takeWhile_cons_of_neg h]; rfl
theorem takeW_take (p : UInt8 → Bool) : ∀ l : List UInt8, l.takeWhile p = l.take (l.takeWhile p).length
  | [] => rfl
  | c :: r => by
    by_cases h : p c = true
    · rw [List.takeWhile_cons_of_pos h, List.length_cons, List.take_succ_cons, ← takeW_take p r]
    · rw [List.takeWhile_cons_of_neg h]; rfl
theorem blkN_drop (l : List UInt8) : l.dropWhile blk = l.drop (blkN l) := dropW_drop blk l
theorem blkN_le (l : List UInt8) : blkN l ≤ l.length := by
  have := congrArg List.length (blkN_drop l)
  unfold blkN
  have h := congrArg List.length (List.takeWhile_append_dropWhile (p := blk) (l := l))
  rw [List.length_append] at h
  omega
theorem head_dropW {p : UInt8 → Bool} : ∀ {l : List UInt8} {c : UInt8}, (l.dropWhile p).head? = some c → p c = false
  | [], c, h => by cases h
  | x :: r, c, h => by
    cases hx : p x with
    | true => rw [List.dropWhile_cons_of_pos hx] at h; exact head_dropW h
    | false =>
      rw [List.dropWhile_cons_of_neg (by simp [hx])] at h
      obtain rfl : x = c := Option.some.inj h
      exact hx
theorem trim_blk (s : List UInt8) : Lib.trimLeftS s [32, 9] = s.dropWhile blk := by
  unfold Lib.trimLeftS
  congr 1
  funext b
  rw [Bool.eq_iff_iff]
  simp [blk]
/-- A name or an expression at the front. -/
def wordN (l : List UInt8) : Nat := (l.takeWhile fun c => !blk c).length
theorem wordN_le (l : List UInt8) : wordN l ≤ l.length := by
  unfold wordN
  have h := congrArg List.length (List.takeWhile_append_dropWhile (p := fun c => !blk c) (l := l))
  rw [List.length_append] at h
  omega
theorem wordN_stop {l : List UInt8} {k : Nat} {c : UInt8} (h : ∀ (j : Nat) b, j < k → l[j]? = some b → blk b = false) (hc : l[k]? = some c) (hb : blk c = true) : wordN l = k := by
  induction k generalizing l with
  | zero =>
    match l, hc with
    | x :: r, hc =>
      obtain rfl : x = c := by simpa using hc
      unfold wordN
      rw [List.takeWhile_cons_of_neg (by simp [hb])]
      rfl
  | succ k ih =>
    match l, hc with
    | x :: r, hc =>
      have hx := h 0 x (by omega) rfl
      unfold wordN
      rw [List.takeWhile_cons_of_pos (by simp [hx])]
      have := ih (l := r) (fun j b hj hb => h (j + 1) b (by omega) (by simpa using hb)) (by simpa using hc)
      unfold wordN at this
      simp [this]
theorem wordN_all {l : List UInt8} (h : ∀ (j : Nat) b, l[j]? = some b → blk b = false) : wordN l = l.length := by
  induction l with
  | nil => rfl
  | cons x r ih =>
    have hx := h 0 x rfl
    have := ih (fun j b hb => h (j + 1) b (by simpa using hb))
    unfold wordN at this ⊢
    rw [List.takeWhile_cons_of_pos (by simp [hx])]
    simp [this]
theorem wordN_any (l : List UInt8) : wordN l = (if Lib.indexAny l [32, 9] < 0 then l.length else (Lib.indexAny l [32, 9]).toNat) := by
  have hblk : ∀ b : UInt8, [32, 9].contains b = blk b := fun b => by rw [Bool.eq_iff_iff]; simp [blk]
  by_cases h : ∀ (j : Nat) b, l[j]? = some b → blk b = false
  · have hn : Lib.NoAny l [32, 9] l.length := fun j b _ hb => by rw [hblk]; exact h j b hb
    rw [Lib.indexAny_none hn, if_pos (by omega), wordN_all h]
  · obtain ⟨k, c, hk, hc, hb, hno⟩ : ∃ (k : Nat) (c : UInt8), k < l.length ∧ l[k]? = some c ∧ blk c = true ∧ ∀ (j : Nat) b, j < k → l[j]? = some b → blk b = false := by
      clear hblk
      induction l with
      | nil => exact absurd (fun j b hb => by simp at hb) h
      | cons x r ih =>
        cases hx : blk x with
        | true => exact ⟨0, x, by simp, rfl, hx, fun j b hj => by omega⟩
        | false =>
          have : ¬ ∀ (j : Nat) b, r[j]? = some b → blk b = false := fun h2 => h fun j b hb => by
            cases j with
            | zero => obtain rfl : x = b := by simpa using hb
                      exact hx
            | succ j => exact h2 j b (by simpa using hb)
          obtain ⟨k, c, h1, h2, h3, h4⟩ := ih this
          refine ⟨k + 1, c, by simp; omega, by simpa using h2, h3, fun j b hj hb => ?_⟩
          cases j with
          | zero => obtain rfl : x = b := by simpa using hb
                    exact hx
          | succ j => exact h4 j b (by omega) (by simpa using hb)
    have hn : Lib.NoAny l [32, 9] k := fun j b hj hb => by rw [hblk]; exact hno j b hj hb
    rw [Lib.indexAny_hit hn hc (by rw [hblk]; exact hb), if_neg (by omega), wordN_stop hno hc hb]
    simp
end Go.Proofs.YtjbaljibaejdgaaDoor
