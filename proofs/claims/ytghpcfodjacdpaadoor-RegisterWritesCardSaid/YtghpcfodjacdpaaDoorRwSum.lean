/- Roman digits, one by one: the document's digit; and the mathematics of their signed sum. -/
import Derived.Test.YtghpcfodjacdpaaDoorRwRoman
namespace Go.Proofs.YtghpcfodjacdpaaDoor
open Go.RowKit Go.PlainAid Go.Shelf

/-- What a small roman digit is; 0: it is none. -/
def digV (c : Int) : Int := if c = 105 then 1 else if c = 118 then 5 else if c = 120 then 10 else if c = 108 then 50 else if c = 99 then 100 else if c = 100 then 500 else if c = 109 then 1000 else 0
def digS : ByteArray := ⟨#[105, 118, 120, 108, 99, 100, 109]⟩
def digA : Array Value := #[.int .i64 1, .int .i64 5, .int .i64 10, .int .i64 50, .int .i64 100, .int .i64 500, .int .i64 1000]
theorem ways7 {k : Nat} (h : k < 7) : k = 0 ∨ k = 1 ∨ k = 2 ∨ k = 3 ∨ k = 4 ∨ k = 5 ∨ k = 6 := by omega
theorem dig_cells (w : World) {k : Nat} (h : k < 7) : (w.alloc (.cells digA 3)).cell? ⟨w.heap.size, k, none⟩ = some (.int .i64 (digV (bt digS k))) := by
  rcases ways7 h with rfl | rfl | rfl | rfl | rfl | rfl | rfl
  · rw [show digV (bt digS 0) = 1 from by decide]; simp [go_sem, digA]
  · rw [show digV (bt digS 1) = 5 from by decide]; simp [go_sem, digA]
  · rw [show digV (bt digS 2) = 10 from by decide]; simp [go_sem, digA]
  · rw [show digV (bt digS 3) = 50 from by decide]; simp [go_sem, digA]
  · rw [show digV (bt digS 4) = 100 from by decide]; simp [go_sem, digA]
  · rw [show digV (bt digS 5) = 500 from by decide]; simp [go_sem, digA]
  · rw [show digV (bt digS 6) = 1000 from by decide]; simp [go_sem, digA]
theorem digV_none {c : Int} (h : ∀ j, j < 7 → bt digS j ≠ c) : digV c = 0 := by
  have h0 : (105 : Int) ≠ c := h 0 (by omega)
  have h1 : (118 : Int) ≠ c := h 1 (by omega)
  have h2 : (120 : Int) ≠ c := h 2 (by omega)
  have h3 : (108 : Int) ≠ c := h 3 (by omega)
  have h4 : (99 : Int) ≠ c := h 4 (by omega)
  have h5 : (100 : Int) ≠ c := h 5 (by omega)
  have h6 : (109 : Int) ≠ c := h 6 (by omega)
  unfold digV
  rw [if_neg (Ne.symm h0), if_neg (Ne.symm h1), if_neg (Ne.symm h2), if_neg (Ne.symm h3), if_neg (Ne.symm h4), if_neg (Ne.symm h5), if_neg (Ne.symm h6)]
theorem digV_le (c : Int) : 0 ≤ digV c ∧ digV c ≤ 1000 := by
  unfold digV
  repeat' split
  all_goals omega

set_option maxRecDepth 100000 in
set_option maxHeartbeats 2000000 in
theorem rdigit_any (c : Int) (w : World) : Calls Tryd.prog 22 #[.int .u8 c] w fun e w' => e = .returned (.int .i64 (digV c)) ∧ Below w.heap.size w w' := by
  have hk0 : Below w.heap.size w (w.alloc (.cells digA 3)) := (Below.refl _ _).alloc (Nat.le_refl _) _
  have hb := get_bt digS
  unfold digS at hb
  go_enter Tryd.func22, Tryd.ntmps22
  go_wp2_with fail
  go_loop [5] (fun i => ∃ k : Nat, k ≤ 7 ∧ i = .int .i64 k ∧ Hid (∀ j, j < k → bt digS j ≠ c)) (fun i => 7 - (intOf i).toNat)
  case atStart => exact ⟨0, by omega, rfl, fun j hj => absurd hj (Nat.not_lt_zero _)⟩
  case round =>
    obtain ⟨k, hk, rfl, hd⟩ := hrel
    by_cases hlt : k < 7
    · have hc := dig_cells w hlt
      by_cases he : bt digS k = c
      · have hq : (bt digS k == c) = true := by rw [beq_iff_eq]; exact he
        rw [he] at hc
        unfold digA at hc
        unfold digS at hq
        clear hd he
        go_wp2_with fail
        go_ret
        exact ⟨rfl, hk0⟩
      · have hq : (bt digS k == c) = false := by rw [beq_eq_false_iff_ne]; exact he
        have hn : Hid (∀ j, j < k + 1 → bt digS j ≠ c) := fun j hj => by
          rcases Nat.lt_succ_iff_lt_or_eq.1 hj with h | h
          · exact hd.out j h
          · subst h; exact he
        unfold digS at hq
        clear hd he hc
        go_wp2_with fail
        go_round
        case rel => exact ⟨k + 1, by omega, by go_num, hn⟩
        case measure => simp only [intOf]; omega
    · obtain rfl : k = 7 := by omega
      have h0 := Lib.hid (digV_none hd.out)
      clear hd
      go_wp2_with fail
      go_ret
      exact ⟨by rw [h0.out]; rfl, hk0⟩

/-- A digit ahead of others: taken away if the next one is greater. -/
def sgn1 (a : UInt8) (r : List UInt8) : Int := match r with | b :: _ => if digV b.toNat > digV a.toNat then -digV a.toNat else digV a.toNat | [] => digV a.toNat
/-- The signed sum of digits. -/
def sgnL : List UInt8 → Int
  | [] => 0
  | a :: r => sgn1 a r + sgnL r
theorem sgn_small : ((List.range 1000).all fun m => decide (sgnL (romL (romT.drop 1) m) = m)) = true := by decide +kernel
theorem sgn_m : ∀ (q : Nat) (l : List UInt8), sgnL (Lib.repeatL [109] q ++ l) = 1000 * q + sgnL l
  | 0, l => by show sgnL l = _; omega
  | q + 1, l => by
    show sgnL (109 :: (Lib.repeatL [109] q ++ l)) = _
    show sgn1 109 (Lib.repeatL [109] q ++ l) + sgnL (Lib.repeatL [109] q ++ l) = _
    rw [sgn_m q l]
    have h : sgn1 109 (Lib.repeatL [109] q ++ l) = 1000 := by
      cases Lib.repeatL [109] q ++ l with
      | nil => rfl
      | cons b t =>
        have := digV_le b.toNat
        show (if digV b.toNat > 1000 then -1000 else 1000) = (1000 : Int)
        rw [if_neg (by omega)]
    rw [h]
    push_cast
    omega
theorem sgn_rom (n : Nat) : sgnL (romL romT n) = n := by
  rw [show romL romT n = Lib.repeatL [109] (n / 1000) ++ romL (romT.drop 1) (n % 1000) from rfl, sgn_m]
  have := List.all_eq_true.1 sgn_small (n % 1000) (List.mem_range.2 (Nat.mod_lt _ (by decide)))
  rw [decide_eq_true_eq] at this
  rw [this]
  omega
end Go.Proofs.YtghpcfodjacdpaaDoor
