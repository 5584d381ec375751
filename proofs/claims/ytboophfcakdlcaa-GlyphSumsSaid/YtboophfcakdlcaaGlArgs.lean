/- What Boxes is asked of: fonts, a style, chars. -/
import Derived.Test.YtboophfcakdlcaaFtWidth
import Derived.Test.YtboophfcakdlcaaGlHas
import Derived.Deep.DeepCutAuto
namespace Go.Proofs.Ytboophfcakdlcaa
open Go.RowKit Go.PlainAid Go.Shelf

set_option maxRecDepth 100000 in
set_option maxHeartbeats 2000000 in
theorem gname_any (l : List UInt8) (w : World) : Calls Try.prog 80 #[.string (mk8 l), .int .i64 10] w (Says (.bool (glyphNameB l)) w) := by
  have hgb := get_bt (mk8 l)
  have z1 : ((mk8 l).size : Int) = l.length := by rw [mk8_size]
  have z2 : (mk8 l).size = l.length := mk8_size l
  unfold glyphNameB
  by_cases h0 : l = []
  · have e0 : l.isEmpty = true := by rw [h0]; rfl
    have hv : (!l.isEmpty && decide (l.length ≤ 10) && l.all visL) = false := by rw [h0]; rfl
    rw [hv]
    clear hv h0
    go_enter Try.func80, Try.ntmps80
    go_wp2_with fail
    go_ret
    exact ⟨rfl, rfl⟩
  · have e1 : l.isEmpty = false := by rw [List.isEmpty_eq_false_iff]; exact h0
    rw [e1, Bool.not_false, Bool.true_and]
    by_cases h10 : 10 < l.length
    · have d1 : decide ((10 : Int) < l.length) = true := decide_eq_true (by omega)
      rw [decide_eq_false (show ¬ l.length ≤ 10 by omega), Bool.false_and]
      clear h0
      go_enter Try.func80, Try.ntmps80
      go_wp2_with fail
      go_ret
      exact ⟨rfl, rfl⟩
    · have d1 : decide ((10 : Int) < l.length) = false := decide_eq_false (by omega)
      rw [decide_eq_true (show l.length ≤ 10 by omega), Bool.true_and]
      obtain ⟨V, hV⟩ : ∃ V, l.all visL = V := ⟨_, rfl⟩
      rw [hV]
      have HY : Hid ((∀ j c, j < l.length → l[j]? = some c → visL c = true) → V = true) := fun h => by
        rw [← hV, List.all_eq_true]
        intro c hc
        obtain ⟨j, hj⟩ := List.getElem?_of_mem hc
        exact h j c (List.getElem?_eq_some_iff.1 hj).1 hj
      have HN : Hid (∀ j c, l[j]? = some c → visL c = false → V = false) := fun j c hj h => by
        rw [← hV]
        cases hb : l.all visL with
        | false => rfl
        | true => have := List.all_eq_true.1 hb c (List.mem_of_getElem? hj); rw [h] at this; cases this
      clear hV h0
      go_enter Try.func80, Try.ntmps80
      go_wp2_with fail
      go_loop [16] (fun i => ∃ k : Nat, k ≤ l.length ∧ i = .int .i64 k ∧ Hid (∀ j c, j < k → l[j]? = some c → visL c = true)) (fun i => l.length - (intOf i).toNat)
      case atStart => exact ⟨0, by omega, rfl, fun j c hj => absurd hj (Nat.not_lt_zero _)⟩
      case round =>
        obtain ⟨k, hk, rfl, hn⟩ := hrel
        by_cases hlt : k < l.length
        · obtain ⟨c, hc, _⟩ := drop_cons hlt
          have hbt := bt_mk hc
          have hkz : (k : Int) < l.length := by omega
          have hks : k < (mk8 l).size := by omega
          cases d2 : decide (bt (mk8 l) k < 33) with
          | true =>
            have HV := Lib.hid (HN.out k c hc (by unfold visL; rw [hbt, decide_eq_true_eq] at d2; rw [decide_eq_false (show ¬ 33 ≤ c.toNat by omega)]; rfl))
            clear hn hbt hc
            go_wp2_with fail
            go_ret
            exact ⟨by rw [HV.out]; rfl, rfl⟩
          | false =>
            cases d3 : decide ((126 : Int) < bt (mk8 l) k) with
            | true =>
              have HV := Lib.hid (HN.out k c hc (by unfold visL; rw [hbt, decide_eq_true_eq] at d3; rw [decide_eq_false (show ¬ c.toNat ≤ 126 by omega), Bool.and_false]))
              clear hn hbt hc
              go_wp2_with fail
              go_ret
              exact ⟨by rw [HV.out]; rfl, rfl⟩
            | false =>
              have HS : Hid (∀ j c, j < k + 1 → l[j]? = some c → visL c = true) := fun j x hj hx => by
                by_cases e : j = k
                · subst e
                  obtain rfl := Option.some.inj (hc.symm.trans hx)
                  rw [hbt, decide_eq_false_iff_not] at d2 d3
                  unfold visL
                  rw [decide_eq_true (show 33 ≤ c.toNat by omega), decide_eq_true (show c.toNat ≤ 126 by omega)]
                  rfl
                · exact hn.out j x (by omega) hx
              clear hn hbt hc
              go_wp2_with fail
              go_round
              case rel => exact ⟨k + 1, by omega, by go_num, HS⟩
              case measure => simp [intOf]; omega
        · obtain rfl : k = l.length := by omega
          have HV := Lib.hid (HY.out hn.out)
          clear hn
          go_wp2_with fail
          go_ret
          exact ⟨by rw [HV.out]; rfl, rfl⟩
theorem gsize_any (z : Int) (w : World) : Calls Try.prog 57 #[.int .i64 z] w (Says (.bool (sizeB z)) w) := by
  unfold sizeB
  by_cases h1 : 1 ≤ z
  · have d1 : decide (1 ≤ z) = true := decide_eq_true h1
    rw [d1, Bool.true_and]
    obtain ⟨b, hb⟩ : ∃ b, decide (z ≤ 1000) = b := ⟨_, rfl⟩
    rw [hb]
    go_enter Try.func57, Try.ntmps57
    go_wp2_with fail
    go_ret
    exact ⟨rfl, rfl⟩
  · have d1 : decide (1 ≤ z) = false := decide_eq_false h1
    rw [d1, Bool.false_and]
    go_enter Try.func57, Try.ntmps57
    go_wp2_with fail
    go_ret
    exact ⟨rfl, rfl⟩
end Go.Proofs.Ytboophfcakdlcaa
