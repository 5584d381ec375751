/- The reference's operand: a sign ahead, all ways together; and the number and the bracket. -/
import Derived.Test.YtkkcoajgpdpfkabDoorRfSign2
namespace Go.Proofs.YtkkcoajgpdpfkabDoor
open Go.RowKit Go.PlainAid

theorem sign_val (E : Ms.Env) (hbl : E.bl = false) (n : Int) (q : Nat) : signOf E 43 (.ok (n, q)) = .ok (n, q) ∧ signOf E 45 (.ok (n, q)) = .ok (-n, q) ∧ (n ≤ 0 → signOf E 33 (.ok (n, q)) = .ok (1, q)) ∧ (¬ n ≤ 0 → signOf E 33 (.ok (n, q)) = .ok (0, q)) ∧
    (wthB (n - E.h) = true → signOf E 124 (.ok (n, q)) = .ok (n - E.h, q)) ∧ (wthB (n - E.h) = false → signOf E 124 (.ok (n, q)) = .er 5) := by
  refine ⟨by simp [signOf, Ms.signed], by simp [signOf, Ms.signed], fun h => by simp [signOf, Ms.signed, Ms.truthI, h], fun h => by simp [signOf, Ms.signed, Ms.truthI, h], fun h => ?_, fun h => ?_⟩
  · have := wthB_yes h
    simp [signOf, Ms.signed, Ms.reck, hbl, this]
  · have hw := wthB_no h
    unfold Ms.within at hw
    by_cases hh : -1000000000 ≤ n - E.h ∧ n - E.h ≤ 1000000000
    · rw [if_pos hh] at hw; cases hw
    · simp [signOf, Ms.signed, Ms.reck, hbl, hh]

theorem sgn_of {E : Ms.Env} {c d : Int} {p a : Nat} {w : World} (g : E.Good) (h1 : bt E.s a = 43 ∨ bt E.s a = 45 ∨ bt E.s a = 33 ∨ bt E.s a = 124) (lt : a < E.s.size)
    (sk : Calls Tryd.prog 68 #[RV E c, .int .i64 p, .int .i64 d] (w.alloc (boxO E c)) fun e w' => e = .returned (.int .i64 a) ∧ Below (w.alloc (boxO E c)).heap.size (w.alloc (boxO E c)) w')
    (r : Ms.Res (Int × Nat)) (hnz : NZ r) (hfi : Fine E (a + 1) r) (hrec : Rec E c d a r) : Opd E c d p (signOf E (bt E.s a) r) w := by
  have hw := SgnAt.ways h1 g.sz lt sk
  cases r with
  | er cc =>
    have hcc := nz3 hnz rfl
    rcases hw with ⟨_, hw⟩ | ⟨_, hw⟩ | ⟨_, hw⟩ | ⟨_, hw⟩
    · exact sgn_er_of hw .plus hcc hrec
    · exact sgn_er_of hw .minus hcc hrec
    · exact sgn_er_of hw .no hcc hrec
    · exact sgn_er_of hw .bar hcc hrec
  | ok y =>
    obtain ⟨n, q⟩ := y
    obtain ⟨n0, n1, _, _⟩ := hfi n q rfl
    cases hbl : E.bl with
    | true =>
      obtain ⟨x, hx⟩ := sign_form hbl h1 (n := n) (q := q)
      rw [hx]
      rcases hw with ⟨_, hw⟩ | ⟨_, hw⟩ | ⟨_, hw⟩ | ⟨_, hw⟩
      · exact sgn_form_of hw .plus hbl x hrec
      · exact sgn_form_of hw .minus hbl x hrec
      · exact sgn_form_of hw .no hbl x hrec
      · exact sgn_form_of hw .bar hbl x hrec
    | false =>
      obtain ⟨v1, v2, v3, v4, v5, v6⟩ := sign_val E hbl n q
      rcases hw with ⟨e, hw⟩ | ⟨e, hw⟩ | ⟨e, hw⟩ | ⟨e, hw⟩
      · rw [e, v1]; exact sgn_plus hw hbl n0 n1 hrec
      · rw [e, v2]; exact sgn_minus hw hbl n0 n1 hrec
      · by_cases hn : n ≤ 0
        · rw [e, v3 hn]; exact sgn_no_yes hw hbl n0 n1 hn hrec
        · rw [e, v4 hn]; exact sgn_no_no hw hbl n0 n1 hn hrec
      · cases hh : wthB (n - E.h) with
        | true => rw [e, v5 hh]; exact sgn_bar_ok hw hbl n0 n1 g.h0 g.h1 hh hrec
        | false => rw [e, v6 hh]; exact sgn_bar_er hw hbl n0 n1 g.h0 g.h1 hh hrec
end Go.Proofs.YtkkcoajgpdpfkabDoor
