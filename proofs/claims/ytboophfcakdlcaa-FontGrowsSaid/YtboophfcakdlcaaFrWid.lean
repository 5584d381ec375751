/- The document's standard fonts: the width of a byte in R. -/
import Derived.Test.YtboophfcakdlcaaFtStd
import Derived.Deep.DeepCutAuto
namespace Go.Proofs.Ytboophfcakdlcaa
open Go.RowKit Go.PlainAid Go.Shelf

set_option maxRecDepth 100000 in
set_option maxHeartbeats 2000000 in
theorem in_any (l : List UInt8) (b : UInt8) (w : World) (hl : l.length ≤ 1000) : Calls Try.prog 65 #[.string (mk8 l), .int .u8 b.toNat] w (Says (.bool (l.contains b)) w) := by
  have hgb := get_bt (mk8 l)
  have z1 : ((mk8 l).size : Int) = l.length := by rw [mk8_size]
  have z2 : (mk8 l).size = l.length := mk8_size l
  obtain ⟨V, hV⟩ : ∃ V, l.contains b = V := ⟨_, rfl⟩
  rw [hV]
  have HN : Hid ((∀ j c, j < l.length → l[j]? = some c → c ≠ b) → V = false) := fun h => by
    rw [← hV, List.contains_eq_any_beq, List.any_eq_false]
    intro c hc he
    obtain ⟨j, hj⟩ := List.getElem?_of_mem hc
    exact h j c (List.getElem?_eq_some_iff.1 hj).1 hj (eq_of_beq he).symm
  have HY : Hid (∀ j c, l[j]? = some c → c = b → V = true) := fun j c hj h => by
    rw [← hV, List.contains_iff_mem, ← h]
    exact List.mem_of_getElem? hj
  clear hV
  go_enter Try.func65, Try.ntmps65
  go_wp2_with fail
  go_loop [5] (fun i => ∃ k : Nat, k ≤ l.length ∧ i = .int .i64 k ∧ Hid (∀ j c, j < k → l[j]? = some c → c ≠ b)) (fun i => l.length - (intOf i).toNat)
  case atStart => exact ⟨0, by omega, rfl, fun j c hj => absurd hj (Nat.not_lt_zero _)⟩
  case round =>
    obtain ⟨k, hk, rfl, hn⟩ := hrel
    by_cases hlt : k < l.length
    · obtain ⟨c, hc, _⟩ := drop_cons hlt
      have hbt := bt_mk hc
      have hkz : (k : Int) < l.length := by omega
      have hks : k < (mk8 l).size := by omega
      have hz0 : (0 : Int) ≤ k := by omega
      by_cases he : c = b
      · have HV := Lib.hid (HY.out k c hc he)
        have d1 : (bt (mk8 l) k == (b.toNat : Int)) = true := by rw [hbt, he, beq_self_eq_true]
        clear hn hbt hc he
        go_wp2_with fail
        go_ret
        exact ⟨by rw [HV.out]; rfl, rfl⟩
      · have HS : Hid (∀ j c, j < k + 1 → l[j]? = some c → c ≠ b) := fun j x hj hx => by
          by_cases e : j = k
          · subst e
            obtain rfl := Option.some.inj (hc.symm.trans hx)
            exact he
          · exact hn.out j x (by omega) hx
        have d1 : (bt (mk8 l) k == (b.toNat : Int)) = false := by
          rw [hbt, beq_eq_false_iff_ne]
          intro h
          exact he (UInt8.toNat_inj.1 (Int.ofNat_inj.1 h))
        clear hn hbt hc he
        go_wp2_with fail
        go_round
        case rel => exact ⟨k + 1, by omega, by go_num, HS⟩
        case measure => simp [intOf]; omega
    · obtain rfl : k = l.length := by omega
      have HV := Lib.hid (HN.out hn.out)
      clear hn
      go_wp2_with fail
      go_ret
      exact ⟨by rw [HV.out]; rfl, rfl⟩

set_option maxRecDepth 100000 in
set_option maxHeartbeats 4000000 in
theorem roman_any (c : UInt8) (w : World) : Calls Try.prog 36 #[.int .u8 c.toNat] w (Says (.int .i64 (romanW c)) w) := by
  have h1 : Calls Try.prog 65 #[.string ⟨#[105, 106, 108, 116, 102, 46, 44, 58, 59, 39, 124, 33, 96]⟩, .int .u8 c.toNat] w (Says (.bool (thinS.contains c)) w) := in_any thinS c w (by decide)
  have h2 : Calls Try.prog 65 #[.string ⟨#[40, 41, 91, 93, 123, 125, 45, 114, 115, 47, 92, 34]⟩, .int .u8 c.toNat] w (Says (.bool (slimS.contains c)) w) := in_any slimS c w (by decide)
  have h3 : Calls Try.prog 65 #[.string ⟨#[77, 87, 64, 37]⟩, .int .u8 c.toNat] w (Says (.bool (wideS.contains c)) w) := in_any wideS c w (by decide)
  have f4 : (((c.toNat : Nat) : Int) == 109) = (c == 109) := (u8_beq c 109).symm
  have f5 : (((c.toNat : Nat) : Int) == 119) = (c == 119) := (u8_beq c 119).symm
  have f6 : decide ((65 : Int) ≤ ((c.toNat : Nat) : Int)) = decide (65 ≤ c.toNat) := by rw [Bool.eq_iff_iff, decide_eq_true_eq, decide_eq_true_eq]; omega
  have f7 : decide (((c.toNat : Nat) : Int) ≤ (90 : Int)) = decide (c.toNat ≤ 90) := by rw [Bool.eq_iff_iff, decide_eq_true_eq, decide_eq_true_eq]; omega
  unfold romanW
  obtain ⟨b1, e1⟩ : ∃ b, thinS.contains c = b := ⟨_, rfl⟩
  obtain ⟨b2, e2⟩ : ∃ b, slimS.contains c = b := ⟨_, rfl⟩
  obtain ⟨b3, e3⟩ : ∃ b, wideS.contains c = b := ⟨_, rfl⟩
  obtain ⟨b4, e4⟩ : ∃ b, (c == 109) = b := ⟨_, rfl⟩
  obtain ⟨b5, e5⟩ : ∃ b, (c == 119) = b := ⟨_, rfl⟩
  obtain ⟨b6, e6⟩ : ∃ b, decide (65 ≤ c.toNat) = b := ⟨_, rfl⟩
  obtain ⟨b7, e7⟩ : ∃ b, decide (c.toNat ≤ 90) = b := ⟨_, rfl⟩
  rw [e1] at h1 ⊢; rw [e2] at h2 ⊢; rw [e3] at h3 ⊢; rw [e4] at f4 ⊢; rw [e5] at f5 ⊢; rw [e6] at f6 ⊢; rw [e7] at f7 ⊢
  obtain ⟨k, hk⟩ : ∃ k : Int, (c.toNat : Int) = k := ⟨_, rfl⟩
  rw [hk] at h1 h2 h3 f4 f5 f6 f7 ⊢
  have H1 := Lib.hid h1
  have H2 := Lib.hid h2
  have H3 := Lib.hid h3
  clear e1 e2 e3 e4 e5 e6 e7 hk h1 h2 h3
  cases b1 with
  | true =>
    go_enter Try.func36, Try.ntmps36
    go_wp2_with fail
    refine H1.out.mono ?_
    rintro e w1 ⟨rfl, rfl⟩
    go_wp2_with fail
    go_ret
    exact ⟨rfl, rfl⟩
  | false =>
    cases b2 with
    | true =>
      go_enter Try.func36, Try.ntmps36
      go_wp2_with fail
      refine H1.out.mono ?_
      rintro e w1 ⟨rfl, rfl⟩
      go_wp2_with fail
      refine H2.out.mono ?_
      rintro e w1 ⟨rfl, rfl⟩
      go_wp2_with fail
      go_ret
      exact ⟨rfl, rfl⟩
    | false =>
      cases b4 with
      | true =>
        go_enter Try.func36, Try.ntmps36
        go_wp2_with fail
        refine H1.out.mono ?_
        rintro e w1 ⟨rfl, rfl⟩
        go_wp2_with fail
        refine H2.out.mono ?_
        rintro e w1 ⟨rfl, rfl⟩
        go_wp2_with fail
        go_ret
        exact ⟨rfl, rfl⟩
      | false =>
        cases b5 with
        | true =>
          go_enter Try.func36, Try.ntmps36
          go_wp2_with fail
          refine H1.out.mono ?_
          rintro e w1 ⟨rfl, rfl⟩
          go_wp2_with fail
          refine H2.out.mono ?_
          rintro e w1 ⟨rfl, rfl⟩
          go_wp2_with fail
          go_ret
          exact ⟨rfl, rfl⟩
        | false =>
          cases b3 with
          | true =>
            go_enter Try.func36, Try.ntmps36
            go_wp2_with fail
            refine H1.out.mono ?_
            rintro e w1 ⟨rfl, rfl⟩
            go_wp2_with fail
            refine H2.out.mono ?_
            rintro e w1 ⟨rfl, rfl⟩
            go_wp2_with fail
            refine H3.out.mono ?_
            rintro e w1 ⟨rfl, rfl⟩
            go_wp2_with fail
            go_ret
            exact ⟨rfl, rfl⟩
          | false =>
            cases b6 <;> cases b7 <;>
              (go_enter Try.func36, Try.ntmps36
               go_wp2_with fail
               refine H1.out.mono ?_
               rintro e w1 ⟨rfl, rfl⟩
               go_wp2_with fail
               refine H2.out.mono ?_
               rintro e w1 ⟨rfl, rfl⟩
               go_wp2_with fail
               refine H3.out.mono ?_
               rintro e w1 ⟨rfl, rfl⟩
               go_wp2_with fail
               go_ret
               exact ⟨rfl, rfl⟩)
end Go.Proofs.Ytboophfcakdlcaa
