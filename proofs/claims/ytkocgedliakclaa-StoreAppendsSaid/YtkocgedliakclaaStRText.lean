/- The document's IsText. -/
import Derived.Test.YtkocgedliakclaaStPart
namespace Go.Proofs.Ytkocgedliakclaa
open Go.RowKit Go.PlainAid Go.Maps

theorem bt_list {s : ByteArray} {j : Nat} {c : UInt8} (hj : j < s.size) : bt s j = (c.toNat : Int) ↔ s.data.toList[j]? = some c := by
  have hl : j < s.data.toList.length := by rw [← Lib.size_eq]; exact hj
  rw [bt_get hj, List.getElem?_eq_getElem hl, Option.some.injEq]
  constructor
  · intro h; exact UInt8.toNat_inj.1 (Int.ofNat_inj.1 h)
  · intro h; rw [h]
theorem textB_nl {s : ByteArray} {j : Nat} (hj : j < s.size) (h : (bt s j == 10) = true) : textB s = false := by
  have h : bt s j = ((10 : UInt8).toNat : Int) := by simpa using h
  have := (bt_list hj).1 h
  have hge := Lib.indexByte_ge s.data.toList 10
  have : 0 ≤ Lib.indexByte s.data.toList 10 := by
    rcases Int.lt_or_le (Lib.indexByte s.data.toList 10) 0 with h1 | h1
    · exact absurd this (Lib.indexByte_none (by omega) j)
    · exact h1
  simp [textB, this]
theorem textB_clean {s : ByteArray} (h : ∀ j, j < s.size → (bt s j == 10) = false) : textB s = decide (s.size ≤ 2000) := by
  have : ¬ 0 ≤ Lib.indexByte s.data.toList 10 := by
    intro h0
    obtain ⟨o, ho⟩ : ∃ o : Nat, Lib.indexByte s.data.toList 10 = o := ⟨_, (Int.toNat_of_nonneg h0).symm⟩
    have hs := (Lib.indexByte_some ho).1
    have hlt : o < s.size := by
      rw [Lib.size_eq]
      exact (List.getElem?_eq_some_iff.1 hs).1
    have := (bt_list hlt).2 hs
    have h2 := h o hlt
    rw [this] at h2
    exact absurd h2 (by decide)
  simp [textB, this]

set_option maxRecDepth 100000 in
set_option maxHeartbeats 1000000 in
theorem rIsText_any (s : ByteArray) (hs : s.size ≤ 9223372036854775807) (w : World) : Calls Try.prog 5 #[.string s] w (Says (.bool (textB s)) w) := by
  have hgb := get_bt s
  go_enter Try.func5, Try.ntmps5
  go_wp2_with fail
  go_loop [3] (fun i => ∃ k : Nat, k ≤ s.size ∧ i = .int .i64 k ∧ Hid (∀ j, j < k → (bt s j == 10) = false)) (fun i => s.size - (intOf i).toNat)
  case atStart => exact ⟨0, by omega, rfl, fun j hj => absurd hj (Nat.not_lt_zero _)⟩
  case round =>
    obtain ⟨k, hk, rfl, hn⟩ := hrel
    by_cases hlt : k < s.size
    · cases hb : (bt s k == 10) with
      | false =>
        have hne : Hid (∀ j, j < k + 1 → (bt s j == 10) = false) := fun j hj => by
          by_cases e : j = k
          · rw [e]; exact hb
          · exact hn.out j (by omega)
        clear hn
        go_wp2
        go_round
        case rel => exact ⟨k + 1, by omega, by go_num, hne⟩
        case measure => simp [intOf]; omega
      | true =>
        have HN : Hid (textB s = false) := textB_nl hlt hb
        clear hn
        go_wp2
        go_ret
        exact ⟨by rw [HN.out]; rfl, rfl⟩
    · have HN : Hid (textB s = decide (s.size ≤ 2000)) := textB_clean (fun j hj => hn.out j (by omega))
      clear hn
      obtain ⟨c, hc⟩ : ∃ c, decide (s.size ≤ 2000) = c := ⟨_, rfl⟩
      have hc2 : decide ((s.size : Int) ≤ 2000) = c := by rw [← hc]; exact decide_eq_decide.2 (by omega)
      rw [hc] at HN
      clear hc
      go_wp2
      go_ret
      exact ⟨by rw [HN.out]; rfl, rfl⟩
end Go.Proofs.Ytkocgedliakclaa
