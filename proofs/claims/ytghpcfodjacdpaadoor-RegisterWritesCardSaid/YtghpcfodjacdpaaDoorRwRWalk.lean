/- The document's Roman, walked. -/
import Derived.Test.YtghpcfodjacdpaaDoorRwRRom
import Derived.Test.YtghpcfodjacdpaaDoorRwWrite
namespace Go.Proofs.YtghpcfodjacdpaaDoor
open Go.RowKit Go.PlainAid Go.Shelf

abbrev RdP (a b : Int) (w : World) (e : Ending) (w' : World) : Prop := e = .returned (.tuple #[.int .i64 a, .int .i64 b]) ∧ Below w.heap.size w w'
theorem ne_lists {S R : ByteArray} (h : ¬ S = R) : (S.toList == R.toList) = false ∧ (S.toList != R.toList) = true := by
  have h1 : (S.toList == R.toList) = false := by
    rw [beq_eq_false_iff_ne]
    intro e
    rw [Lib.toList_data, Lib.toList_data] at e
    exact h (ba_ext e)
  exact ⟨h1, by rw [bne, h1]; rfl⟩

theorem RowIs.drew {L : ByteArray} {B : Nat} {w : World} (h : RowIs L B w) : RowIs L B w.drew := ⟨fun j hj => h.cells j hj, h.lt⟩
/-- A text that the document's Roman reads; L: the text made small. -/
structure OkR (S L : ByteArray) : Prop where
  pos : 0 < S.size
  same : S = L ∨ S = upS L
  dig : ∀ j, j < L.size → digV (bt L j) ≠ 0
  ge : 1 ≤ sgnL L.data.toList
  le : sgnL L.data.toList ≤ 39999
  rom : (⟨(romL romT (sgnL L.data.toList).toNat).toArray⟩ : ByteArray) = L
abbrev RdQ (S L : ByteArray) (w : World) (e : Ending) (w' : World) : Prop := (OkR S L ∧ RdP (sgnL L.data.toList) 0 w e w') ∨ (¬ OkR S L ∧ RdP 0 4 w e w')

set_option maxRecDepth 100000 in
set_option maxHeartbeats 2000000 in
theorem rr_empty (S L : ByteArray) (h0 : S.size = 0) (hL : loS S = L) (w : World) : Calls Tryd.prog 8 #[.string S] w (RdP 0 4 w) := by
  have hLs : L.size = S.size := by rw [← hL]; exact loS_size S
  have he := isEmpty_yes h0
  have hcv := fun w => run_bytes_of_string (P := Tryd.prog) w 9 37 5 S Tryd.underlying9 Tryd.underlying37 Tryd.underlying5
  obtain ⟨cap, hcap⟩ : ∃ cap, grownCap w S.size 0 5 = cap := ⟨_, rfl⟩
  have hcv1 := hcv w
  rw [hcap] at hcv1
  have hst : RowLo S w.heap.size 0 (w.drew.alloc (.cells (bytesRow S cap) 5 ((bytesRow S cap).size, (bytesRow S cap).size + 1))) := RowLo.start S w.drew cap 5
  have hk0 : Below w.heap.size w (w.drew.alloc (.cells (bytesRow S cap) 5 ((bytesRow S cap).size, (bytesRow S cap).size + 1))) := Below.alloc (show Below w.heap.size w w.drew from ⟨rfl, rfl, rfl, Nat.le_refl _, fun _ _ => rfl⟩) (Nat.le_refl _) _
  have hl0 : w.heap.size < (w.drew.alloc (.cells (bytesRow S cap) 5 ((bytesRow S cap).size, (bytesRow S cap).size + 1))).heap.size := by simp
  clear hcv hcap
  go_enter Tryd.func8, Tryd.ntmps8
  go_wp2_with fail
  go_loopw [5] (fun i wr => ∃ k : Nat, k ≤ S.size ∧ i = .int .i64 k ∧ RowLo S w.heap.size k wr ∧ Below w.heap.size w wr ∧ w.heap.size < wr.heap.size) (fun i _ => S.size - (intOf i).toNat)
  case atStart => exact ⟨0, Nat.zero_le _, rfl, hst, hk0, hl0⟩
  case round =>
    obtain ⟨k, hk, rfl, hr, hb, hlt0⟩ := hrel
    clear hcv1 hst hk0 hl0
    by_cases hlt : k < S.size
    · exact absurd hlt (by omega)
    · obtain rfl : k = S.size := by omega
      have hri := hr.row hlt0
      rw [hL] at hri
      have hbk := hri.back hLs cap
      have HRI := Lib.hid hri
      clear hr hri hlt
      go_wp2_with fail
      go_ret2
      exact ⟨rfl, hb⟩
set_option maxRecDepth 100000 in
set_option maxHeartbeats 2000000 in
theorem rr_mixed (S L : ByteArray) (h0 : 0 < S.size) (hS : S.size ≤ 200) (hL : loS S = L) (h1 : ¬ S = L) (h2 : ¬ S = upS L) (w : World) : Calls Tryd.prog 8 #[.string S] w (RdP 0 4 w) := by
  have hLs : L.size = S.size := by rw [← hL]; exact loS_size S
  have he := isEmpty_no h0
  obtain ⟨q1, q2⟩ := ne_lists h1
  obtain ⟨q3, q4⟩ := ne_lists h2
  have HG := Lib.hid (great_any L (by omega))
  obtain ⟨U, hU⟩ : ∃ U, upS L = U := ⟨_, rfl⟩
  rw [hU] at HG q3 q4
  clear h1 h2 hU
  have hcv := fun w => run_bytes_of_string (P := Tryd.prog) w 9 37 5 S Tryd.underlying9 Tryd.underlying37 Tryd.underlying5
  obtain ⟨cap, hcap⟩ : ∃ cap, grownCap w S.size 0 5 = cap := ⟨_, rfl⟩
  have hcv1 := hcv w
  rw [hcap] at hcv1
  have hst : RowLo S w.heap.size 0 (w.drew.alloc (.cells (bytesRow S cap) 5 ((bytesRow S cap).size, (bytesRow S cap).size + 1))) := RowLo.start S w.drew cap 5
  have hk0 : Below w.heap.size w (w.drew.alloc (.cells (bytesRow S cap) 5 ((bytesRow S cap).size, (bytesRow S cap).size + 1))) := Below.alloc (show Below w.heap.size w w.drew from ⟨rfl, rfl, rfl, Nat.le_refl _, fun _ _ => rfl⟩) (Nat.le_refl _) _
  have hl0 : w.heap.size < (w.drew.alloc (.cells (bytesRow S cap) 5 ((bytesRow S cap).size, (bytesRow S cap).size + 1))).heap.size := by simp
  clear hcv hcap
  go_enter Tryd.func8, Tryd.ntmps8
  go_wp2_with fail
  go_loopw [5] (fun i wr => ∃ k : Nat, k ≤ S.size ∧ i = .int .i64 k ∧ RowLo S w.heap.size k wr ∧ Below w.heap.size w wr ∧ w.heap.size < wr.heap.size) (fun i _ => S.size - (intOf i).toNat)
  case atStart => exact ⟨0, Nat.zero_le _, rfl, hst, hk0, hl0⟩
  case round =>
    obtain ⟨k, hk, rfl, hr, hb, hlt0⟩ := hrel
    clear hcv1 hst hk0 hl0
    by_cases hlt : k < S.size
    · have hc := hr.cells k hlt
      rw [if_neg (Nat.lt_irrefl _)] at hc
      have hz := hr.free k hlt
      by_cases h1 : 65 ≤ bt S k ∧ bt S k ≤ 90
      · have hn := hr.set hlt
        rw [show loI (bt S k) = bt S k + 32 from if_pos h1] at hn
        obtain ⟨h1, h2⟩ := h1
        have e8 : IntKind.u8.wrap (bt S k + 32) = bt S k + 32 := by rw [IntKind.wrap_u8]; omega
        have HR := Lib.hid hn
        clear hr hn
        go_wp2_with fail
        go_roundw
        case rel => exact ⟨k + 1, by omega, by go_num, HR.out, hb.setCell (p := ⟨w.heap.size, k, none⟩) (Nat.le_refl _) _, by simpa using hlt0⟩
        case measure => simp only [intOf]; omega
      · have hn := hr.same (show loI (bt S k) = bt S k from if_neg h1)
        have HR := Lib.hid hn
        clear hr hn
        by_cases h2 : 65 ≤ bt S k
        case' pos => have h3 : 90 < bt S k := by omega
        all_goals
          clear h1
          go_wp2_with fail
          go_roundw
          case rel => exact ⟨k + 1, by omega, by go_num, HR.out, hb, hlt0⟩
          case measure => simp only [intOf]; omega
    · obtain rfl : k = S.size := by omega
      have hri := hr.row hlt0
      rw [hL] at hri
      have hbk := hri.back hLs cap
      have HRI := Lib.hid hri
      clear hr hri hlt
      go_wp2_with fail
      refine (HG.out _).mono ?_
      rintro e v1 ⟨rfl, b1⟩
      go_wp2_with fail
      go_ret2
      exact ⟨rfl, step_below hb b1⟩
end Go.Proofs.YtghpcfodjacdpaaDoor
