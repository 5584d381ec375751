/- Plain facts of layer 2: names, numerals. No Go. -/
import Derived.PlainAid
import Derived.Lib.ItoaMem
import Derived.Lib.ItoaLen
namespace Go.Proofs.YtkocgedliakclaaDoor
open Go.PlainAid

/-- Can a byte stand in a name? -/
def nmB (c : Int) : Bool := decide (33 ≤ c) && decide (c ≤ 126) && !(c == 93)
/-- Is a string a register's name? -/
def nameB (s : ByteArray) : Bool := decide (0 < s.size) && decide (s.size ≤ 20) && (List.range s.size).all fun j => nmB (bt s j)
def nameErr (s : ByteArray) : Int := if nameB s then 0 else 6

theorem bt_get {s : ByteArray} {j : Nat} (h : j < s.size) : bt s j = ((s.data.toList[j]'(by simpa using h)).toNat : Int) := by
  unfold bt
  rw [dif_pos h]
  rfl

theorem nameB_of {s : ByteArray} (h0 : 0 < s.size) (h1 : s.size ≤ 20) (h : ∀ x ∈ s.data.toList, 33 ≤ x.toNat ∧ x.toNat ≤ 126 ∧ x.toNat ≠ 93) : nameB s = true := by
  simp only [nameB, Bool.and_eq_true, decide_eq_true_eq, List.all_eq_true, List.mem_range]
  refine ⟨⟨h0, h1⟩, fun j hj => ?_⟩
  have := h _ (List.getElem_mem (l := s.data.toList) (n := j) (by simpa using hj))
  rw [bt_get hj]
  simp only [nmB, Bool.and_eq_true, decide_eq_true_eq, Bool.not_eq_true', beq_eq_false_iff_ne]
  omega

theorem nameB_yes {s : ByteArray} (h : nameB s = true) : 0 < s.size ∧ s.size ≤ 20 ∧ ∀ j, j < s.size → nmB (bt s j) = true := by
  simp only [nameB, Bool.and_eq_true, decide_eq_true_eq, List.all_eq_true, List.mem_range] at h
  exact ⟨h.1.1, h.1.2, h.2⟩
theorem nameB_byte {s : ByteArray} {j : Nat} (hj : j < s.size) (h : nmB (bt s j) = false) : nameB s = false := by
  cases hn : nameB s with
  | false => rfl
  | true =>
    have := (nameB_yes hn).2.2 j hj
    rw [h] at this; cases this
theorem nameB_long {s : ByteArray} (h : ¬ s.size ≤ 20) : nameB s = false := by simp [nameB, h]
theorem nameB_empty {s : ByteArray} (h : s.size = 0) : nameB s = false := by simp [nameB, h]
theorem nameB_all {s : ByteArray} (h0 : 0 < s.size) (h1 : s.size ≤ 20) (h : ∀ j, j < s.size → nmB (bt s j) = true) : nameB s = true := by
  simp only [nameB, Bool.and_eq_true, decide_eq_true_eq, List.all_eq_true, List.mem_range]
  exact ⟨⟨h0, h1⟩, h⟩

theorem dec_digit (u : Nat) : ∀ x ∈ Lib.decDigits u, 48 ≤ x.toNat ∧ x.toNat ≤ 57 := by
  induction u using Nat.strongRecOn with
  | _ u ih =>
    intro x hx
    rw [Lib.decDigits] at hx
    split at hx
    · rw [List.mem_singleton] at hx
      subst hx
      rw [UInt8.toNat_ofNat', Nat.mod_eq_of_lt (by omega)]; omega
    · rcases List.mem_append.1 hx with h | h
      · exact ih (u / 10) (by omega) x h
      · rw [List.mem_singleton] at h
        subst h
        rw [UInt8.toNat_ofNat', Nat.mod_eq_of_lt (by omega)]; omega

theorem dec_big {u : Nat} (h : ¬ u < 10) : Lib.decDigits u = Lib.decDigits (u / 10) ++ [UInt8.ofNat (48 + u % 10)] := by rw [Lib.decDigits, dif_neg h]
theorem dec_one {u : Nat} (h : u < 10) : Lib.decDigits u = [UInt8.ofNat (48 + u)] := by rw [Lib.decDigits, dif_pos h]
theorem ofNat_inj {a b : Nat} (ha : a < 256) (hb : b < 256) (h : UInt8.ofNat a = UInt8.ofNat b) : a = b := by
  have := congrArg UInt8.toNat h
  rwa [UInt8.toNat_ofNat', UInt8.toNat_ofNat', Nat.mod_eq_of_lt ha, Nat.mod_eq_of_lt hb] at this

theorem dec_inj (a : Nat) : ∀ b, Lib.decDigits a = Lib.decDigits b → a = b := by
  induction a using Nat.strongRecOn with
  | _ a ih =>
    intro b h
    have la := Lib.decDigits_length a
    have lb := Lib.decDigits_length b
    rw [h, lb] at la
    by_cases ha : a < 10
    · rw [Lib.nDigits_small ha] at la
      have hb : b < 10 := by
        by_cases hb : b < 10
        · exact hb
        · rw [Lib.nDigits_big hb] at la
          have := Lib.nDigits_pos (b / 10)
          omega
      rw [dec_one ha, dec_one hb] at h
      have := ofNat_inj (by omega) (by omega) (List.cons.inj h).1
      omega
    · have hb : ¬ b < 10 := by
        intro hb
        rw [Lib.nDigits_small hb, Lib.nDigits_big ha] at la
        have := Lib.nDigits_pos (a / 10)
        omega
      rw [dec_big ha, dec_big hb] at h
      obtain ⟨h1, h2⟩ := List.append_inj' h rfl
      have e1 := ih (a / 10) (by omega) _ h1
      have e2 := ofNat_inj (by omega) (by omega) (List.cons.inj h2).1
      omega

theorem dec_size {u : Nat} (h : u < 9223372036854775808) : (Lib.decDigits u).length ≤ 20 := by
  rw [Lib.decDigits_length]
  exact Lib.nDigits_le20 u (by omega)

theorem pow_le_dec (u : Nat) (h : 1 ≤ u) : 10 ^ (Lib.nDigits u - 1) ≤ u := by
  induction u using Nat.strongRecOn with
  | _ u ih =>
    by_cases hu : u < 10
    · rw [Lib.nDigits_small hu]; simpa using h
    · have h1 := ih (u / 10) (by omega) (by omega)
      have h2 := Lib.nDigits_pos (u / 10)
      rw [Lib.nDigits_big hu]
      obtain ⟨k, hk⟩ : ∃ k, Lib.nDigits (u / 10) = k + 1 := ⟨Lib.nDigits (u / 10) - 1, by omega⟩
      rw [hk] at h1 ⊢
      rw [show k + 1 + 1 - 1 = k + 1 from by omega, Nat.pow_succ]
      rw [show k + 1 - 1 = k from by omega] at h1
      omega
theorem dec_six {u : Nat} (h : u < 1000000) : (Lib.decDigits u).length ≤ 6 := by
  rw [Lib.decDigits_length]
  rcases Nat.eq_zero_or_pos u with h0 | h0
  · subst h0; rw [Lib.nDigits_small (by omega)]; omega
  · have h1 := pow_le_dec u h0
    rcases Nat.lt_or_ge (Lib.nDigits u) 7 with h2 | h2
    · omega
    · exfalso
      have h3 : 10 ^ 6 ≤ 10 ^ (Lib.nDigits u - 1) := Nat.pow_le_pow_right (by omega) (by omega)
      omega

/-- A register's name in the law: r and a numeral. -/
def rName (u : Nat) : ByteArray := ⟨#[114]⟩ ++ ⟨(Lib.decDigits u).toArray⟩
theorem rName_list (u : Nat) : (rName u).data.toList = 114 :: Lib.decDigits u := by simp [rName]
theorem rName_size (u : Nat) : (rName u).size = (Lib.decDigits u).length + 1 := by
  have := congrArg List.length (rName_list u)
  simpa using this
theorem rName_inj {a b : Nat} (h : (rName a).data.toList = (rName b).data.toList) : a = b := by
  rw [rName_list, rName_list] at h
  exact dec_inj _ _ (List.cons.inj h).2
theorem rName_ok {u : Nat} (h : u < 1000000) : nameB (rName u) = true := by
  have := dec_six h
  refine nameB_of (by rw [rName_size]; omega) (by rw [rName_size]; omega) fun x hx => ?_
  rw [rName_list] at hx
  rcases List.mem_cons.1 hx with rfl | hx
  · decide
  · have := dec_digit u x hx; omega
end Go.Proofs.YtkocgedliakclaaDoor
