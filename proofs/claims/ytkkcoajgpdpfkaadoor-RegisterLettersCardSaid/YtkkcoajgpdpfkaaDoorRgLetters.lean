/- RegisterLetters's walk. -/
import Derived.Test.YtkkcoajgpdpfkaaDoorRgWrite
namespace Go.Proofs.YtkkcoajgpdpfkaaDoor
open Go.RowKit Go.PlainAid

theorem lex_append : ∀ {a c x y : List UInt8}, a.length = c.length → a < c → a ++ x < c ++ y
  | [], [], _, _, _, h => by cases h
  | p :: a, q :: c, x, y, hl, h => by
    rw [List.cons_append, List.cons_append]
    rw [List.cons_lt_cons_iff] at h ⊢
    rcases h with h | ⟨rfl, h⟩
    · exact .inl h
    · exact .inr ⟨rfl, lex_append (by simpa using hl) h⟩
theorem lex_last : ∀ (a : List UInt8) {p q : UInt8}, p < q → a ++ [p] < a ++ [q]
  | [], p, q, h => by rw [List.nil_append, List.nil_append, List.cons_lt_cons_iff]; exact .inl h
  | r :: a, p, q, h => by
    rw [List.cons_append, List.cons_append, List.cons_lt_cons_iff]
    exact .inr ⟨rfl, lex_last a h⟩

theorem less_no : ∀ {a c : List UInt8}, a < c → Op.bytesLess c a = false
  | [], c, _ => by cases c <;> rfl
  | p :: a, [], h => by cases h
  | p :: a, q :: c, h => by
    rw [List.cons_lt_cons_iff] at h
    simp only [Op.bytesLess]
    rcases h with h | ⟨rfl, h⟩
    · have h1 : ¬ q < p := by rw [UInt8.lt_iff_toNat_lt] at h ⊢; omega
      have h2 : (q == p) = false := by rw [beq_eq_false_iff_ne]; rintro rfl; rw [UInt8.lt_iff_toNat_lt] at h; omega
      simp [h1, h2]
    · have h1 : ¬ p < p := by rw [UInt8.lt_iff_toNat_lt]; omega
      simp [h1, less_no h]
theorem lt_ne : ∀ {a c : List UInt8}, a < c → ¬ c = a
  | [], [], h, _ => by cases h
  | [], _ :: _, _, e => by cases e
  | p :: a, [], _, e => by cases e
  | p :: a, q :: c, h, e => by
    injection e with e1 e2
    subst e1
    rw [List.cons_lt_cons_iff] at h
    rcases h with h | ⟨_, h⟩
    · rw [UInt8.lt_iff_toNat_lt] at h; omega
    · exact lt_ne h e2

/-- The next number's letters are the next ones. -/
def NextL (a c : List UInt8) : Prop := a.length < c.length ∨ (a.length = c.length ∧ a < c)
theorem lets_next (n : Nat) : NextL (lets n) (lets (n + 1)) := by
  induction n using Nat.strongRecOn with
  | _ n ih =>
    rcases Nat.eq_zero_or_pos n with h | h
    · subst h
      rw [lets_zero, lets_pos (by omega)]
      exact .inl (by simp)
    · rw [lets_pos h, lets_pos (n := n + 1) (by omega), show n + 1 - 1 = n from rfl]
      by_cases hr : (n - 1) % 26 = 25
      · have e1 : n / 26 = (n - 1) / 26 + 1 := by omega
        rcases ih ((n - 1) / 26) (by omega) with h1 | ⟨h1, h2⟩
        · exact .inl (by rw [e1]; simp; omega)
        · refine .inr ⟨by rw [e1]; simp; omega, ?_⟩
          rw [e1]
          exact lex_append h1 h2
      · have e1 : n / 26 = (n - 1) / 26 := by omega
        refine .inr ⟨by rw [e1]; simp, ?_⟩
        rw [e1]
        refine lex_last _ ?_
        rw [UInt8.lt_iff_toNat_lt, UInt8.toNat_ofNat', UInt8.toNat_ofNat']
        omega

abbrev TrueS (w : World) (e : Ending) (w' : World) : Prop := e = .returned (.bool true) ∧ w = w'

set_option maxRecDepth 100000 in
set_option maxHeartbeats 1000000 in
theorem letters_zero (x : Int) (w : World) (eN : wrap64 ((IntKind.u64.wrap x).tmod 999999999) = 0) : Calls Tryd.prog 5 #[.int .i64 x] w (TrueS w) := by
  have e0 : letS 0 = ⟨#[48]⟩ := rfl
  have e1 : letS 1 = ⟨#[97]⟩ := by
    unfold letS
    rw [if_neg (by omega), lets_pos (by omega), show (1 - 1) / 26 = 0 from rfl, lets_zero]; rfl
  have hw := write_a 0 (by omega)
  have hv := write_a 1 (by omega)
  rw [e0, show ((0 : Nat) : Int) = 0 from rfl] at hw
  rw [e1, show ((1 : Nat) : Int) = 1 from rfl] at hv
  have HW := Lib.hid hw
  have HV := Lib.hid hv
  clear e0 e1 hw hv
  go_enter Tryd.func5, Tryd.ntmps5
  go_wp2_with fail
  refine (HW.out _).mono ?_
  rintro e w1 ⟨rfl, rfl⟩
  go_wp2_with fail
  refine (HV.out _).mono ?_
  rintro e w1 ⟨rfl, rfl⟩
  go_wp2_with fail
  refine (sane_any _).mono ?_
  rintro e w1 ⟨rfl, rfl⟩
  go_wp2_with fail
  go_ret
  exact ⟨rfl, rfl⟩

set_option maxRecDepth 100000 in
set_option maxHeartbeats 1000000 in
theorem letters_next (x f : Int) (S T : ByteArray) (w : World) (eN : wrap64 ((IntKind.u64.wrap x).tmod 999999999) = f) (f0 : 0 < f) (f1 : f < 999999999) (hn : NextL S.data.toList T.data.toList)
    (HW : Hid (∀ w, Calls Tryd.prog 7 #[.int .i64 f, .string ⟨#[97]⟩] w fun e w' => e = .returned (.tuple #[.string S, .int .i64 0]) ∧ w = w'))
    (HV : Hid (∀ w, Calls Tryd.prog 7 #[.int .i64 (f + 1), .string ⟨#[97]⟩] w fun e w' => e = .returned (.tuple #[.string T, .int .i64 0]) ∧ w = w')) : Calls Tryd.prog 5 #[.int .i64 x] w (TrueS w) := by
  have hne : (f == 0) = false := by rw [beq_eq_false_iff_ne]; omega
  rcases hn with h1 | ⟨h1, h2⟩
  · rw [← Lib.size_eq, ← Lib.size_eq] at h1
    go_enter Tryd.func5, Tryd.ntmps5
    go_wp2_with fail
    refine (HW.out _).mono ?_
    rintro e w1 ⟨rfl, rfl⟩
    go_wp2_with fail
    refine (HV.out _).mono ?_
    rintro e w1 ⟨rfl, rfl⟩
    go_wp2_with fail
    refine (sane_any _).mono ?_
    rintro e w1 ⟨rfl, rfl⟩
    go_wp2_with fail
    go_ret
    exact ⟨rfl, rfl⟩
  · rw [← Lib.size_eq, ← Lib.size_eq] at h1
    have q1 := less_no h2
    have q2 := lt_ne h2
    rw [← Lib.toList_data, ← Lib.toList_data] at q1 q2
    have q3 : (T.toList == S.toList) = false := by rw [beq_eq_false_iff_ne]; exact q2
    clear h2 q2
    go_enter Tryd.func5, Tryd.ntmps5
    go_wp2_with fail
    refine (HW.out _).mono ?_
    rintro e w1 ⟨rfl, rfl⟩
    go_wp2_with fail
    refine (HV.out _).mono ?_
    rintro e w1 ⟨rfl, rfl⟩
    go_wp2_with fail
    all_goals
      refine (sane_any _).mono ?_
      rintro e w1 ⟨rfl, rfl⟩
      go_wp2_with fail
      go_ret
      exact ⟨rfl, rfl⟩

theorem letters_law (x : Int) (w : World) : Calls Tryd.prog 5 #[.int .i64 x] w (TrueS w) := by
  obtain ⟨N, eN, hN⟩ := umod x 999999999 (by omega) (by omega)
  rcases Nat.eq_zero_or_pos N with h0 | h0
  · subst h0
    exact letters_zero x w eN
  · have hv := write_a (N + 1) (by omega)
    rw [show ((N + 1 : Nat) : Int) = (N : Int) + 1 from by push_cast; rfl] at hv
    refine letters_next x N _ _ w eN (by omega) hN ?_ (write_a N (by omega)) hv
    unfold letS
    rw [if_neg (by omega), if_neg (by omega)]
    exact lets_next N
end Go.Proofs.YtkkcoajgpdpfkaaDoor
