/- The document's line. -/
import Derived.Test.YtjbaljibaejdgaaDoorRqRef
namespace Go.Proofs.YtjbaljibaejdgaaDoor
open Go.RowKit Go.PlainAid Go.Shelf

theorem index_step {l : List UInt8} {c : UInt8} {k : Nat} (h : ∀ j b, j < k → l[j]? = some b → b ≠ c) : (∀ b, l[k]? = some b → b = c → 0 ≤ Lib.indexByte l c) ∧ (k = l.length → Lib.indexByte l c < 0) := by
  have hg := Lib.indexByte_ge l c
  refine ⟨fun b hb hbc => ?_, fun hk => ?_⟩
  · rcases Int.lt_or_le (Lib.indexByte l c) 0 with h1 | h1
    · exact absurd (List.mem_of_getElem? hb) (by subst hbc; intro hm; obtain ⟨j, hj⟩ := List.getElem?_of_mem hm; exact Lib.indexByte_none (by omega) j hj)
    · exact h1
  · rcases Int.lt_or_le (Lib.indexByte l c) 0 with h1 | h1
    · exact h1
    · exfalso
      obtain ⟨o, ho⟩ : ∃ o : Nat, Lib.indexByte l c = o := ⟨_, (Int.toNat_of_nonneg h1).symm⟩
      have h2 := (Lib.indexByte_some ho).1
      have h3 := (List.getElem?_eq_some_iff.1 h2).1
      exact h o c (by omega) h2 rfl
set_option maxRecDepth 100000 in
set_option maxHeartbeats 2000000 in
theorem rIsLine_any (l : List UInt8) (hl : l.length ≤ 1000000) (w : World) : Calls Tryd.prog 21 #[.string (mk8 l)] w (Says (.bool (lineL l)) w) := by
  have hgb := get_bt (mk8 l)
  have z1 : ((mk8 l).size : Int) = l.length := by rw [mk8_size]
  have z2 : (mk8 l).size = l.length := mk8_size l
  go_enter Tryd.func21, Tryd.ntmps21
  go_wp2_with fail
  go_loop [3] (fun i => ∃ k : Nat, k ≤ l.length ∧ i = .int .i64 k ∧ Hid (∀ (j : Nat) b, j < k → l[j]? = some b → b ≠ 10)) (fun i => l.length - (intOf i).toNat)
  case atStart => exact ⟨0, by omega, rfl, fun j b hj => absurd hj (Nat.not_lt_zero _)⟩
  case round =>
    obtain ⟨k, hk, rfl, hn⟩ := hrel
    obtain ⟨i1, i2⟩ := index_step (l := l) (c := 10) (k := k) hn.out
    by_cases hlt : k < l.length
    · obtain ⟨c, hc, _⟩ := drop_cons hlt
      have hbt := bt_mk hc
      have hkz : (k : Int) < l.length := by omega
      have hks : k < (mk8 l).size := by omega
      by_cases h10 : c = 10
      · have e1 : (bt (mk8 l) k == 10) = true := by rw [hbt, h10]; rfl
        have HV : Hid (lineL l = false) := by show _ = _; unfold lineL; rw [decide_eq_true (i1 c hc h10)]; simp
        clear hn hbt hc i1 i2
        go_wp2_with fail
        go_ret
        exact ⟨by rw [HV.out]; rfl, rfl⟩
      · have e1 : (bt (mk8 l) k == 10) = false := by rw [hbt]; exact (u8_eq (k := 10)).trans (by simpa using h10)
        have HS : Hid (∀ (j : Nat) b, j < k + 1 → l[j]? = some b → b ≠ 10) := fun j b hj hb => by
          by_cases e : j = k
          · subst e; obtain rfl : c = b := Option.some.inj (hc.symm.trans hb); exact h10
          · exact hn.out j b (by omega) hb
        clear hn hbt hc i1 i2
        go_wp2_with fail
        go_round
        case rel => exact ⟨k + 1, by omega, by go_num, HS⟩
        case measure => simp [intOf]; omega
    · obtain rfl : k = l.length := by omega
      have hno := i2 rfl
      have HV : Hid (lineL l = decide ((l.length : Int) ≤ 2000)) := by
        show _ = _
        unfold lineL
        rw [decide_eq_false (show ¬ 0 ≤ Lib.indexByte l 10 by omega), Bool.not_false, Bool.and_true, Bool.eq_iff_iff, decide_eq_true_eq, decide_eq_true_eq]
        omega
      clear hn i1 i2 hno
      go_wp2_with fail
      go_ret
      exact ⟨by rw [HV.out]; rfl, rfl⟩
end Go.Proofs.YtjbaljibaejdgaaDoor
