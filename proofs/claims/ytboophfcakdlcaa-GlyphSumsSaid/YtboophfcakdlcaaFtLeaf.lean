/- The leaves of package font: bytes, names, the order of names. -/
import Derived.Test.YtboophfcakdlcaaFtPure
import Derived.Test.YtboophfcakdlcaaFtLay
import Derived.Test.YtboophfcakdlcaaProg
import Derived.WalkKit
import Derived.WalkSpells
import Derived.WalkLawsBesides
import Derived.Handy
import Derived.Below
import Derived.Lib.Hide
import Derived.Lib.Strings
import Derived.WalkMore
import Derived.Lib.OthersKept
import Derived.WalkSmall
import Derived.IntWalk
import Derived.Deep.QuietTactic
import Derived.BigQuiet
namespace Go.Proofs.Ytboophfcakdlcaa
open Go.RowKit Go.PlainAid Go.Shelf

abbrev Says (v : Value) (w : World) (e : Ending) (w' : World) : Prop := e = .returned v ∧ w = w'
abbrev Makes (v : Value) (w : World) (e : Ending) (w' : World) : Prop := e = .returned v ∧ Below w.heap.size w w'
def letZ (c : Int) : Bool := (decide (97 ≤ c) && decide (c ≤ 122)) || (decide (65 ≤ c) && decide (c ≤ 90))
def digZ (c : Int) : Bool := decide (48 ≤ c) && decide (c ≤ 57)
theorem dec_nat {a : Nat} {k : Nat} : decide ((k : Int) ≤ (a : Int)) = decide (k ≤ a) := by rw [Bool.eq_iff_iff, decide_eq_true_eq, decide_eq_true_eq]; omega
theorem letZ_u8 (c : UInt8) : letZ (c.toNat : Int) = letL c := by
  unfold letZ letL
  rw [Bool.eq_iff_iff]
  simp only [Bool.or_eq_true, Bool.and_eq_true, decide_eq_true_eq]
  omega
theorem digZ_u8 (c : UInt8) : digZ (c.toNat : Int) = digL c := by
  unfold digZ digL
  rw [Bool.eq_iff_iff]
  simp only [Bool.and_eq_true, decide_eq_true_eq]
  omega
set_option maxHeartbeats 2000000 in
theorem letter_any (c : Int) (w : World) : Calls Try.prog 66 #[.int .u8 c] w (Says (.bool (letZ c)) w) := by
  unfold letZ
  cases d1 : decide (97 ≤ c) <;> cases d2 : decide (c ≤ 122) <;> cases d3 : decide (65 ≤ c) <;> cases d4 : decide (c ≤ 90) <;>
    (go_enter Try.func66, Try.ntmps66; go_wp2_with fail; go_ret; exact ⟨rfl, rfl⟩)
theorem digit_any (c : Int) (w : World) : Calls Try.prog 67 #[.int .u8 c] w (Says (.bool (digZ c)) w) := by
  unfold digZ
  cases d1 : decide (48 ≤ c) <;> cases d2 : decide (c ≤ 57) <;>
    (go_enter Try.func67, Try.ntmps67; go_wp2_with fail; go_ret; exact ⟨rfl, rfl⟩)
theorem width_any (z : Int) (w : World) : Calls Try.prog 40 #[.int .i64 z] w (Says (.bool (widthB z)) w) := by
  unfold widthB
  cases d1 : decide (0 ≤ z) <;> cases d2 : decide (z ≤ 3000) <;>
    (go_enter Try.func40, Try.ntmps40; go_wp2_with fail; go_ret; exact ⟨rfl, rfl⟩)

theorem nan_any (s : ByteArray) (w : World) : Calls Try.prog 111 #[.string s] w (Says (.bool false) w) := by
  go_enter Try.func111, Try.ntmps111
  go_wp2_with fail
  go_ret
  exact ⟨by simp, rfl⟩
set_option maxHeartbeats 2000000 in
theorem compare_any (a b : List UInt8) (w : World) : Calls Try.prog 93 #[.string (mk8 a), .string (mk8 b)] w (Says (.int .i64 (cmpL a b)) w) := by
  unfold cmpL
  have h1 : Op.bytesLess (mk8 a).toList (mk8 b).toList = ltL a b := by rw [mk8_list, mk8_list]
  have h2 : Op.bytesLess (mk8 b).toList (mk8 a).toList = ltL b a := by rw [mk8_list, mk8_list]
  have h3 : ((mk8 a).toList == (mk8 b).toList) = (!ltL a b && !ltL b a) := by
    rw [mk8_list, mk8_list, Bool.eq_iff_iff, beq_iff_eq, Bool.and_eq_true, Bool.not_eq_true', Bool.not_eq_true']
    exact ⟨fun h => by subst h; exact ⟨ltL_irr a, ltL_irr a⟩, fun h => ltL_eq_of h.1 h.2⟩
  obtain ⟨s, hs⟩ : ∃ s, mk8 a = s := ⟨_, rfl⟩
  obtain ⟨t, ht⟩ : ∃ t, mk8 b = t := ⟨_, rfl⟩
  obtain ⟨x, hx⟩ : ∃ x, ltL a b = x := ⟨_, rfl⟩
  obtain ⟨y, hy⟩ : ∃ y, ltL b a = y := ⟨_, rfl⟩
  rw [hs, ht, hx, hy] at h3
  rw [hs, ht, hx] at h1
  rw [hs, ht, hy] at h2
  rw [hs, ht, hx, hy]
  clear hs ht hx hy
  have HN1 := Lib.hid (fun w => nan_any s w)
  have HN2 := Lib.hid (fun w => nan_any t w)
  cases x <;> cases y <;> simp only [Bool.not_true, Bool.not_false, Bool.and_true, Bool.and_false] at h3 <;>
    (go_enter Try.func93, Try.ntmps93
     go_wp2_with fail
     refine (HN1.out _).mono ?_
     rintro e w1 ⟨rfl, rfl⟩
     go_wp2_with fail
     refine (HN2.out _).mono ?_
     rintro e w1 ⟨rfl, rfl⟩
     go_wp2_with fail
     go_ret
     exact ⟨rfl, rfl⟩)

set_option maxRecDepth 100000 in
set_option maxHeartbeats 2000000 in
theorem glyphName_any (l : List UInt8) (w : World) : Calls Try.prog 69 #[.string (mk8 l)] w (Says (.bool (glyphNameB l)) w) := by
  have hgb := get_bt (mk8 l)
  have z1 : ((mk8 l).size : Int) = l.length := by rw [mk8_size]
  have z2 : (mk8 l).size = l.length := mk8_size l
  unfold glyphNameB
  by_cases h0 : l = []
  · have e0 : l.isEmpty = true := by rw [h0]; rfl
    have hv : (!l.isEmpty && decide (l.length ≤ 10) && l.all visL) = false := by rw [h0]; rfl
    rw [hv]
    clear hv h0
    go_enter Try.func69, Try.ntmps69
    go_wp2_with fail
    go_ret
    exact ⟨rfl, rfl⟩
  · have e1 : l.isEmpty = false := by rw [List.isEmpty_eq_false_iff]; exact h0
    rw [e1, Bool.not_false, Bool.true_and]
    by_cases h10 : 10 < l.length
    · have d1 : decide ((10 : Int) < l.length) = true := decide_eq_true (by omega)
      rw [decide_eq_false (show ¬ l.length ≤ 10 by omega), Bool.false_and]
      clear h0
      go_enter Try.func69, Try.ntmps69
      go_wp2_with fail
      go_ret
      exact ⟨rfl, rfl⟩
    · have d1 : decide ((10 : Int) < l.length) = false := decide_eq_false (by omega)
      rw [decide_eq_true (show l.length ≤ 10 by omega), Bool.true_and]
      obtain ⟨V, hV⟩ : ∃ V, l.all visL = V := ⟨_, rfl⟩
      rw [hV]
      have HY : Hid ((∀ j c, j < l.length → l[j]? = some c → visL c = true) → V = true) := fun h => by
        rw [← hV, List.all_eq_true]
        intro c hc
        obtain ⟨j, hj⟩ := List.getElem?_of_mem hc
        exact h j c (List.getElem?_eq_some_iff.1 hj).1 hj
      have HN : Hid (∀ j c, l[j]? = some c → visL c = false → V = false) := fun j c hj h => by
        rw [← hV]
        cases hb : l.all visL with
        | false => rfl
        | true => have := List.all_eq_true.1 hb c (List.mem_of_getElem? hj); rw [h] at this; cases this
      clear hV h0
      go_enter Try.func69, Try.ntmps69
      go_wp2_with fail
      go_loop [13] (fun i => ∃ k : Nat, k ≤ l.length ∧ i = .int .i64 k ∧ Hid (∀ j c, j < k → l[j]? = some c → visL c = true)) (fun i => l.length - (intOf i).toNat)
      case atStart => exact ⟨0, by omega, rfl, fun j c hj => absurd hj (Nat.not_lt_zero _)⟩
      case round =>
        obtain ⟨k, hk, rfl, hn⟩ := hrel
        by_cases hlt : k < l.length
        · obtain ⟨c, hc, _⟩ := drop_cons hlt
          have hbt := bt_mk hc
          have hkz : (k : Int) < l.length := by omega
          have hks : k < (mk8 l).size := by omega
          cases d2 : decide (bt (mk8 l) k < 33) with
          | true =>
            have HV := Lib.hid (HN.out k c hc (by unfold visL; rw [hbt, decide_eq_true_eq] at d2; rw [decide_eq_false (show ¬ 33 ≤ c.toNat by omega)]; rfl))
            clear hn hbt hc
            go_wp2_with fail
            go_ret
            exact ⟨by rw [HV.out]; rfl, rfl⟩
          | false =>
            cases d3 : decide ((126 : Int) < bt (mk8 l) k) with
            | true =>
              have HV := Lib.hid (HN.out k c hc (by unfold visL; rw [hbt, decide_eq_true_eq] at d3; rw [decide_eq_false (show ¬ c.toNat ≤ 126 by omega), Bool.and_false]))
              clear hn hbt hc
              go_wp2_with fail
              go_ret
              exact ⟨by rw [HV.out]; rfl, rfl⟩
            | false =>
              have HS : Hid (∀ j c, j < k + 1 → l[j]? = some c → visL c = true) := fun j x hj hx => by
                by_cases e : j = k
                · subst e
                  obtain rfl := Option.some.inj (hc.symm.trans hx)
                  rw [hbt, decide_eq_false_iff_not] at d2 d3
                  unfold visL
                  rw [decide_eq_true (show 33 ≤ c.toNat by omega), decide_eq_true (show c.toNat ≤ 126 by omega)]
                  rfl
                · exact hn.out j x (by omega) hx
              clear hn hbt hc
              go_wp2_with fail
              go_round
              case rel => exact ⟨k + 1, by omega, by go_num, HS⟩
              case measure => simp [intOf]; omega
        · obtain rfl : k = l.length := by omega
          have HV := Lib.hid (HY.out hn.out)
          clear hn
          go_wp2_with fail
          go_ret
          exact ⟨by rw [HV.out]; rfl, rfl⟩

set_option maxRecDepth 100000 in
set_option maxHeartbeats 2000000 in
theorem fontName_any (l : List UInt8) (w : World) : Calls Try.prog 39 #[.string (mk8 l)] w (Says (.bool (fontNameB l)) w) := by
  have hgb := get_bt (mk8 l)
  have z1 : ((mk8 l).size : Int) = l.length := by rw [mk8_size]
  have z2 : (mk8 l).size = l.length := mk8_size l
  cases hl : l with
  | nil =>
    have e0 : l.isEmpty = true := by rw [hl]; rfl
    rw [← hl]
    have hv : fontNameB l = false := by rw [hl]; rfl
    rw [hv]
    clear hv hl
    go_enter Try.func39, Try.ntmps39
    go_wp2_with fail
    go_ret
    exact ⟨rfl, rfl⟩
  | cons c0 r0 =>
    have e0 : l.isEmpty = false := by rw [hl]; rfl
    have hc0 : l[0]? = some c0 := by rw [hl]; rfl
    have hv : fontNameB l = (decide (l.length ≤ 10) && letL c0 && l.all fun c => letL c || digL c) := by rw [hl]; rfl
    rw [← hl, hv]
    have hln : 0 < l.length := by rw [hl]; simp
    clear hv hl
    by_cases h10 : 10 < l.length
    · have d1 : decide ((10 : Int) < l.length) = true := decide_eq_true (by omega)
      rw [decide_eq_false (show ¬ l.length ≤ 10 by omega), Bool.false_and, Bool.false_and]
      clear hc0
      go_enter Try.func39, Try.ntmps39
      go_wp2_with fail
      go_ret
      exact ⟨rfl, rfl⟩
    · have d1 : decide ((10 : Int) < l.length) = false := decide_eq_false (by omega)
      rw [decide_eq_true (show l.length ≤ 10 by omega), Bool.true_and]
      have hb0 := bt_mk hc0
      have H0 := Lib.hid (fun w => letter_any (bt (mk8 l) 0) w)
      simp only [hb0, letZ_u8] at H0
      simp only [← hb0] at H0
      have h0s : 0 < (mk8 l).size := by omega
      cases hl0 : letL c0 with
      | false =>
        rw [Bool.false_and]
        simp only [hl0] at H0
        clear hc0 hb0 hl0
        go_enter Try.func39, Try.ntmps39
        go_wp2_with fail
        refine (H0.out _).mono ?_
        rintro e w1 ⟨rfl, rfl⟩
        go_wp2_with fail
        go_ret
        exact ⟨rfl, rfl⟩
      | true =>
        rw [Bool.true_and]
        simp only [hl0] at H0
        obtain ⟨V, hV⟩ : ∃ V, (l.all fun c => letL c || digL c) = V := ⟨_, rfl⟩
        rw [hV]
        have HY : Hid ((∀ j c, j < l.length → l[j]? = some c → (letL c || digL c) = true) → V = true) := fun h => by
          rw [← hV, List.all_eq_true]
          intro c hc
          obtain ⟨j, hj⟩ := List.getElem?_of_mem hc
          exact h j c (List.getElem?_eq_some_iff.1 hj).1 hj
        have HN : Hid (∀ j c, l[j]? = some c → (letL c || digL c) = false → V = false) := fun j c hj h => by
          rw [← hV]
          cases hb : (l.all fun c => letL c || digL c) with
          | false => rfl
          | true => have := List.all_eq_true.1 hb c (List.mem_of_getElem? hj); rw [h] at this; cases this
        clear hV hc0 hb0 hl0
        go_enter Try.func39, Try.ntmps39
        go_wp2_with fail
        refine (H0.out _).mono ?_
        rintro e w1 ⟨rfl, rfl⟩
        go_wp2_with fail
        go_loop [19] (fun i => ∃ k : Nat, k ≤ l.length ∧ i = .int .i64 k ∧ Hid (∀ j c, j < k → l[j]? = some c → (letL c || digL c) = true)) (fun i => l.length - (intOf i).toNat)
        case atStart => exact ⟨0, by omega, rfl, fun j c hj => absurd hj (Nat.not_lt_zero _)⟩
        case round =>
          obtain ⟨k, hk, rfl, hn⟩ := hrel
          by_cases hlt : k < l.length
          · obtain ⟨c, hc, _⟩ := drop_cons hlt
            have hbt := bt_mk hc
            have hkz : (k : Int) < l.length := by omega
            have hks : k < (mk8 l).size := by omega
            have H1 := Lib.hid (fun w => letter_any (bt (mk8 l) k) w)
            have H2 := Lib.hid (fun w => digit_any (bt (mk8 l) k) w)
            simp only [hbt, letZ_u8, digZ_u8] at H1 H2
            simp only [← hbt] at H1 H2
            have HS : Hid ((letL c || digL c) = true → ∀ j c, j < k + 1 → l[j]? = some c → (letL c || digL c) = true) := fun h j x hj hx => by
              by_cases e : j = k
              · subst e
                obtain rfl := Option.some.inj (hc.symm.trans hx)
                exact h
              · exact hn.out j x (by omega) hx
            have HV := Lib.hid (HN.out k c hc)
            obtain ⟨x, hx⟩ : ∃ x, letL c = x := ⟨_, rfl⟩
            obtain ⟨y, hy⟩ : ∃ y, digL c = y := ⟨_, rfl⟩
            rw [hx, hy] at HS HV
            simp only [hx] at H1
            simp only [hy] at H2
            clear hn hbt hc hx hy
            cases x with
            | true =>
              go_wp2_with fail
              refine (H1.out _).mono ?_
              rintro e w1 ⟨rfl, rfl⟩
              go_wp2_with fail
              go_round
              case rel => exact ⟨k + 1, by omega, by go_num, HS.out rfl⟩
              case measure => simp [intOf]; omega
            | false =>
              cases y with
              | true =>
                go_wp2_with fail
                refine (H1.out _).mono ?_
                rintro e w1 ⟨rfl, rfl⟩
                go_wp2_with fail
                refine (H2.out _).mono ?_
                rintro e w1 ⟨rfl, rfl⟩
                go_wp2_with fail
                go_round
                case rel => exact ⟨k + 1, by omega, by go_num, HS.out rfl⟩
                case measure => simp [intOf]; omega
              | false =>
                go_wp2_with fail
                refine (H1.out _).mono ?_
                rintro e w1 ⟨rfl, rfl⟩
                go_wp2_with fail
                refine (H2.out _).mono ?_
                rintro e w1 ⟨rfl, rfl⟩
                go_wp2_with fail
                go_ret
                exact ⟨by rw [HV.out rfl]; rfl, rfl⟩
          · obtain rfl : k = l.length := by omega
            have HV := Lib.hid (HY.out hn.out)
            clear hn
            go_wp2_with fail
            go_ret
            exact ⟨by rw [HV.out]; rfl, rfl⟩
end Go.Proofs.Ytboophfcakdlcaa
