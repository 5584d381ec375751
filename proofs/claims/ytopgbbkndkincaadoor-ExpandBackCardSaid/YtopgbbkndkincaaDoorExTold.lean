/- Which texts are lines, by the document; a new teller. -/
import Derived.Test.YtopgbbkndkincaaDoorExTeller
namespace Go.Proofs.YtopgbbkndkincaaDoor
open Go.RowKit Go.PlainAid

theorem bt_list {s : ByteArray} {j : Nat} {c : UInt8} (hj : j < s.size) : bt s j = (c.toNat : Int) ↔ s.data.toList[j]? = some c := by
  have hl : j < s.data.toList.length := by rw [← Lib.size_eq]; exact hj
  unfold bt
  rw [dif_pos hj, List.getElem?_eq_getElem hl, Option.some.injEq]
  constructor
  · intro h; exact UInt8.toNat_inj.1 (Int.ofNat_inj.1 h)
  · intro h; rw [← h]; rfl
theorem lineB_nl {s : ByteArray} {j : Nat} (hj : j < s.size) (h : (bt s j == 10) = true) : lineB s = false := by
  have h : bt s j = ((10 : UInt8).toNat : Int) := by simpa using h
  have := (bt_list hj).1 h
  have : 0 ≤ Lib.indexByte s.data.toList 10 := by
    rcases Int.lt_or_le (Lib.indexByte s.data.toList 10) 0 with h1 | h1
    · exact absurd this (Lib.indexByte_none (by have := Lib.indexByte_ge s.data.toList 10; omega) j)
    · exact h1
  simp [lineB, this]
theorem lineB_clean {s : ByteArray} (h : ∀ j, j < s.size → (bt s j == 10) = false) : lineB s = decide (s.size ≤ 2000) := by
  have : ¬ 0 ≤ Lib.indexByte s.data.toList 10 := by
    intro h0
    obtain ⟨o, ho⟩ : ∃ o : Nat, Lib.indexByte s.data.toList 10 = o := ⟨_, (Int.toNat_of_nonneg h0).symm⟩
    have hs := (Lib.indexByte_some ho).1
    have hlt : o < s.size := by
      rw [Lib.size_eq]
      exact (List.getElem?_eq_some_iff.1 hs).1
    have := (bt_list hlt).2 hs
    have h2 := h o hlt
    rw [this] at h2
    exact absurd h2 (by decide)
  simp [lineB, this]

set_option maxRecDepth 100000 in
set_option maxHeartbeats 1000000 in
theorem rIsLine_any (s : ByteArray) (hs : s.size ≤ 9223372036854775807) (w : World) : Calls Tryd.prog 10 #[.string s] w (Says (.bool (lineB s)) w) := by
  have hgb := get_bt s
  go_enter Tryd.func10, Tryd.ntmps10
  go_wp2_with fail
  go_loop [3] (fun i => ∃ k : Nat, k ≤ s.size ∧ i = .int .i64 k ∧ Hid (∀ j, j < k → (bt s j == 10) = false)) (fun i => s.size - (intOf i).toNat)
  case atStart => exact ⟨0, by omega, rfl, fun j hj => absurd hj (Nat.not_lt_zero _)⟩
  case round =>
    obtain ⟨k, hk, rfl, hn⟩ := hrel
    by_cases hlt : k < s.size
    · cases hb : (bt s k == 10) with
      | false =>
        have hne : Hid (∀ j, j < k + 1 → (bt s j == 10) = false) := fun j hj => by
          by_cases e : j = k
          · rw [e]; exact hb
          · exact hn.out j (by omega)
        clear hn
        go_wp2
        go_round
        case rel => exact ⟨k + 1, by omega, by go_num, hne⟩
        case measure => simp [intOf]; omega
      | true =>
        have HN : Hid (lineB s = false) := lineB_nl hlt hb
        clear hn
        go_wp2
        go_ret
        exact ⟨by rw [HN.out]; rfl, rfl⟩
    · have HN : Hid (lineB s = decide (s.size ≤ 2000)) := lineB_clean (fun j hj => hn.out j (by omega))
      clear hn
      obtain ⟨c, hc⟩ : ∃ c, decide (s.size ≤ 2000) = c := ⟨_, rfl⟩
      have hc2 : decide ((s.size : Int) ≤ 2000) = c := by rw [← hc]; exact decide_eq_decide.2 (by omega)
      rw [hc] at HN
      clear hc
      go_wp2
      go_ret
      exact ⟨by rw [HN.out]; rfl, rfl⟩

theorem nil_app (s : ByteArray) : (⟨#[]⟩ : ByteArray) ++ s = s := by
  apply ByteArray.ext
  rw [ByteArray.data_append]
  simp
/-- A new teller. -/
abbrev newTeller (W : World) : World := W.alloc (.cells #[.slice none 0 0, .slice none 0 0] 36)
theorem told_new (W : World) : toldSt W.heap.size 0 (newTeller W) := ⟨_, _, heap_alloc_new _ _, World.ownsRow_nil _ _ _ _, fun h => by cases h⟩
theorem told_below {W W2 : World} (h : Left (toldTk W.heap.size) (newTeller W) W2) : Below W.heap.size W W2 := by
  have hb : Below W.heap.size W (newTeller W) := (Below.refl _ _).alloc (Nat.le_refl _) _
  refine ⟨h.os.trans hb.os, h.tape.trans hb.tape, h.output.trans hb.output, Nat.le_trans hb.size h.size, fun k hk => ?_⟩
  have hT : Told W.heap.size 0 (.slice none 0 0) [] (newTeller W) := ⟨heap_alloc_new _ _, World.ownsRow_nil _ _ _ _, fun h => by cases h⟩
  refine ((h.block k (Nat.lt_of_lt_of_le hk hb.size) fun e => ?_).1).trans (hb.block k hk)
  rcases (hT.tk k).1 e with e | e
  · omega
  · cases e
/-- How often it was asked, as the law reads it. -/
theorem told_len {t b : Nat} {W : World} (h : toldSt t b W) : ∃ ao c, W.cell? ⟨t, 0, none⟩ = some (.slice ao b c) := by
  obtain ⟨v, xs, h⟩ := h
  obtain ⟨ao, c, rfl⟩ := own_form h.row
  exact ⟨ao, c, by unfold World.cell?; rw [h.blk]; rfl⟩
theorem len_asks (ao : Option Addr) (m c : Nat) (W : World) : (Builtin.len_ #[32] 3 #[.slice ao m c]).run Tryd.prog W = .ok (.int .i64 m) W := by kernel_rfl

end Go.Proofs.YtopgbbkndkincaaDoor
