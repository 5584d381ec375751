/- Which lines are ones, asked of all of them. -/
import Derived.Test.YtkocgedliakclaaDoorStRows
namespace Go.Proofs.YtkocgedliakclaaDoor
open Go.RowKit Go.PlainAid Go.Maps Go.Shelf

def linesB (X : Nat → LineV) (n : Nat) : Bool := (List.range n).all fun i => lineB (X i)
theorem linesB_yes {X : Nat → LineV} {n : Nat} (h : ∀ i, i < n → lineB (X i) = true) : linesB X n = true := by
  simp only [linesB, List.all_eq_true, List.mem_range]; exact h
theorem linesB_no {X : Nat → LineV} {n i : Nat} (hi : i < n) (h : lineB (X i) = false) : linesB X n = false := by
  cases hl : linesB X n with
  | false => rfl
  | true =>
    simp only [linesB, List.all_eq_true, List.mem_range] at hl
    rw [hl i hi] at h; cases h

set_option maxRecDepth 100000 in
set_option maxHeartbeats 1000000 in
theorem areLines_any (ao : Option Addr) (len cap : Nat) (X : Nat → LineV) (w : World) (hl : len ≤ maxLen) (h : LinesAt ao len X w) :
    Calls Tryd.prog 66 #[.slice ao len cap] w (Makes (.bool (linesB X len)) w) := by
  unfold maxLen at hl
  obtain ⟨b, off, h1, h2⟩ := h
  have H1 := Lib.hid h1
  have H2 := Lib.hid h2
  clear h1 h2
  go_enter Tryd.func66, Tryd.ntmps66
  go_wp2_with fail
  go_loopw [7] (fun i wr => ∃ k : Nat, k ≤ len ∧ i = .int .i64 k ∧ Hid (Below w.heap.size w wr) ∧ Hid (∀ j, j < k → lineB (X j) = true)) (fun i _ => len - (intOf i).toNat)
  case atStart => exact ⟨0, by omega, rfl, Below.refl _ _, fun j hj => absurd hj (Nat.not_lt_zero _)⟩
  case round =>
    obtain ⟨k, hk, rfl, hb, hn⟩ := hrel
    by_cases hlt : k < len
    · obtain ⟨hao, hbl⟩ := H1.out (by omega)
      obtain ⟨hok, hat⟩ := H2.out k hlt
      obtain ⟨c0, c1, c2, c3, c4⟩ := hat.below hb.out hbl
      subst hao
      have HC := Lib.hid (isLine_any (X k) hok)
      have HB := Lib.hid (hb.out.alloc hb.out.size (.cells #[.string (X k).text, .bool (X k).made, .int .i64 (X k).up, .int .i64 (X k).down, .slice (X k).ba (X k).bn (X k).bc] 37))
      clear hat hok
      cases hlb : lineB (X k) with
      | true =>
        rw [hlb] at HC
        have HN : Hid (∀ j, j < k + 1 → lineB (X j) = true) := fun j hj => by
          by_cases e : j = k
          · rw [e]; exact hlb
          · exact hn.out j (by omega)
        clear hn hlb
        go_wp2_with fail
        refine (HC.out _).mono ?_
        rintro e w2 ⟨rfl, hb2⟩
        have HB2 := Lib.hid (HB.out.trans (hb2.mono HB.out.size))
        clear HC
        go_wp2_with fail
        go_roundw
        case rel => exact ⟨k + 1, by omega, by go_num, HB2, HN⟩
        case measure => simp only [intOf]; omega
      | false =>
        rw [hlb] at HC
        have HN : Hid (linesB X len = false) := linesB_no hlt hlb
        clear hn hlb
        go_wp2_with fail
        refine (HC.out _).mono ?_
        rintro e w2 ⟨rfl, hb2⟩
        have HB2 := Lib.hid (HB.out.trans (hb2.mono HB.out.size))
        clear HC
        go_wp2_with fail
        go_ret
        exact ⟨by rw [HN.out]; rfl, HB2.out⟩
    · have HN : Hid (linesB X len = true) := linesB_yes (fun j hj => hn.out j (by omega))
      clear hn
      go_wp2_with fail
      go_ret
      exact ⟨by rw [HN.out]; rfl, hb.out⟩
end Go.Proofs.YtkocgedliakclaaDoor
