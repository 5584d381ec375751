/- The document's IsLine and AreLines. -/
import Derived.Test.YtkocgedliakclaaStAre
import Derived.Test.YtkocgedliakclaaStRText
namespace Go.Proofs.Ytkocgedliakclaa
open Go.RowKit Go.PlainAid Go.Maps Go.Shelf

set_option maxRecDepth 100000 in
set_option maxHeartbeats 2000000 in
theorem rIsLine_text (x : LineV) (hx : LineOk x) (w : World) (hm : x.made = false) : Calls Try.prog 27 #[lineV x] w (Makes (.bool (lineB x)) w) := by
  have hbn := hx.bn
  have htx := hx.text
  unfold maxLen at hbn htx
  have hbl : lineB x = (textB x.text && (x.up == 0) && (x.down == 0) && decide (x.bn = 0)) := by unfold lineB; rw [hm, if_neg (by simp)]
  rw [hbl]
  obtain ⟨t, m, u, d, ba, bn, bc⟩ := x
  simp only at hm hbn htx ⊢
  subst hm
  clear hbl hx
  have HT := Lib.hid (fun W => rIsText_any t (by omega) W)
  have hal : Below w.heap.size w (w.alloc (.cells #[.string t, .bool false, .int .i64 u, .int .i64 d, .slice ba bn bc] 61)) := (Below.refl _ _).alloc (Nat.le_refl _) _
  cases htb : textB t
  case' true =>
    cases hu : (u == 0)
    case' true =>
      cases hd : (d == 0)
      case' true =>
        obtain ⟨c, hc⟩ : ∃ c, decide (bn = 0) = c := ⟨_, rfl⟩
        have hc2 : ((bn : Int) == 0) = c := by rw [← hc, Bool.eq_iff_iff]; simp
        rw [hc]
        clear hc
  all_goals
    rw [htb] at HT
    clear htb
    go_enter Try.func27, Try.ntmps27
    go_wp2_with fail
    refine (HT.out _).mono ?_
    rintro e w1 ⟨rfl, rfl⟩
    go_wp2_with fail
    go_ret
    exact ⟨rfl, hal⟩
set_option maxRecDepth 100000 in
set_option maxHeartbeats 2000000 in
theorem rIsLine_made (x : LineV) (hx : LineOk x) (w : World) (hm : x.made = true) : Calls Try.prog 27 #[lineV x] w (Makes (.bool (lineB x)) w) := by
  have hbn := hx.bn
  unfold maxLen at hbn
  have hbl : lineB x = (decide (x.text.size = 0) && wayB x.up && wayB x.down && decide (x.bn ≤ 2000)) := by unfold lineB; rw [if_pos hm]
  rw [hbl]
  obtain ⟨t, m, u, d, ba, bn, bc⟩ := x
  simp only at hm hbn ⊢
  subst hm
  clear hbl hx
  have hal : Below w.heap.size w (w.alloc (.cells #[.string t, .bool true, .int .i64 u, .int .i64 d, .slice ba bn bc] 61)) := (Below.refl _ _).alloc (Nat.le_refl _) _
  unfold wayB
  by_cases ht : t.size = 0
  · rw [decide_eq_true ht]
    have he := isEmpty_yes ht
    clear ht
    cases hu1 : decide (-1000000 ≤ u)
    case' true =>
      cases hu2 : decide (u ≤ 1000000)
      case' true =>
        cases hd1 : decide (-1000000 ≤ d)
        case' true =>
          cases hd2 : decide (d ≤ 1000000)
          case' true =>
            obtain ⟨c, hc⟩ : ∃ c, decide (bn ≤ 2000) = c := ⟨_, rfl⟩
            have hc2 : decide ((bn : Int) ≤ 2000) = c := by rw [← hc]; exact decide_eq_decide.2 (by omega)
            rw [hc]
            clear hc
    all_goals
      go_enter Try.func27, Try.ntmps27
      go_wp2_with fail
      go_ret
      exact ⟨rfl, hal⟩
  · rw [decide_eq_false ht]
    have he := isEmpty_no (s := t) (by omega)
    clear ht
    go_enter Try.func27, Try.ntmps27
    go_wp2_with fail
    go_ret
    exact ⟨rfl, hal⟩
theorem rIsLine_any (x : LineV) (hx : LineOk x) (w : World) : Calls Try.prog 27 #[lineV x] w (Makes (.bool (lineB x)) w) := by
  cases hm : x.made with
  | true => exact rIsLine_made x hx w hm
  | false => exact rIsLine_text x hx w hm

set_option maxRecDepth 100000 in
set_option maxHeartbeats 1000000 in
theorem rAreLines_any (ao : Option Addr) (len cap : Nat) (X : Nat → LineV) (w : World) (hl : len ≤ maxLen) (h : LinesAt ao len X w) :
    Calls Try.prog 11 #[.slice ao len cap] w (Makes (.bool (linesB X len)) w) := by
  unfold maxLen at hl
  obtain ⟨b, off, h1, h2⟩ := h
  have H1 := Lib.hid h1
  have H2 := Lib.hid h2
  clear h1 h2
  go_enter Try.func11, Try.ntmps11
  go_wp2_with fail
  go_loopw [3] (fun i wr => ∃ k : Nat, k ≤ len ∧ i = .int .i64 k ∧ Hid (Below w.heap.size w wr) ∧ Hid (∀ j, j < k → lineB (X j) = true)) (fun i _ => len - (intOf i).toNat)
  case atStart => exact ⟨0, by omega, rfl, Below.refl _ _, fun j hj => absurd hj (Nat.not_lt_zero _)⟩
  case round =>
    obtain ⟨k, hk, rfl, hb, hn⟩ := hrel
    by_cases hlt : k < len
    · obtain ⟨hao, hbl⟩ := H1.out (by omega)
      obtain ⟨hok, hat⟩ := H2.out k hlt
      obtain ⟨c0, c1, c2, c3, c4⟩ := hat.below hb.out hbl
      subst hao
      have HC := Lib.hid (rIsLine_any (X k) hok)
      have hlz : (k : Int) < len := by omega
      have hkz : (0 : Int) ≤ k := by omega
      clear hat hok
      cases hlb : lineB (X k) with
      | true =>
        rw [hlb] at HC
        have HN : Hid (∀ j, j < k + 1 → lineB (X j) = true) := fun j hj => by
          by_cases e : j = k
          · rw [e]; exact hlb
          · exact hn.out j (by omega)
        clear hn hlb
        go_wp2_with fail
        refine (HC.out _).mono ?_
        rintro e w2 ⟨rfl, hb2⟩
        have HB2 := Lib.hid (hb.out.trans (hb2.mono hb.out.size))
        clear HC
        go_wp2_with fail
        go_roundw
        case rel => exact ⟨k + 1, by omega, by go_num, HB2, HN⟩
        case measure => simp only [intOf]; omega
      | false =>
        rw [hlb] at HC
        have HN : Hid (linesB X len = false) := linesB_no hlt hlb
        clear hn hlb
        go_wp2_with fail
        refine (HC.out _).mono ?_
        rintro e w2 ⟨rfl, hb2⟩
        have HB2 := Lib.hid (hb.out.trans (hb2.mono hb.out.size))
        clear HC
        go_wp2_with fail
        go_ret
        exact ⟨by rw [HN.out]; rfl, HB2.out⟩
    · have HN : Hid (linesB X len = true) := linesB_yes (fun j hj => hn.out j (by omega))
      clear hn
      go_wp2_with fail
      go_ret
      exact ⟨by rw [HN.out]; rfl, hb.out⟩
end Go.Proofs.Ytkocgedliakclaa
