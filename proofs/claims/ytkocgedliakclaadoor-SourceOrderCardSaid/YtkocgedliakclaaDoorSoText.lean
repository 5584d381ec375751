/- A text's lines are made lines of input. -/
import Derived.Test.YtkocgedliakclaaDoorSoLines
import Derived.Test.YtkocgedliakclaaDoorSoPut
namespace Go.Proofs.YtkocgedliakclaaDoor
open Go.RowKit Go.PlainAid Go.Maps Go.Shelf

theorem own_lo {B n size : Nat} {t : TypeId} {v : Value} {xs : List Value} {w : World} (h : w.ownsRow B t size v n xs) {k : Nat} (hk : v.ownBlock = some k) : B ≤ k := by
  rcases h.2 with ⟨rfl, _⟩ | ⟨g, cap, cur, rfl, hg, _⟩
  · cases hk
  · injection hk with hk
    exact (show g = k from hk) ▸ hg
set_option maxRecDepth 100000 in
set_option maxHeartbeats 4000000 in
theorem textLines_any (s : ByteArray) (w : World) (hs : s.size ≤ 100000) : Calls Tryd.prog 56 #[.string s] w (TextLinesP s w) := by
  have HG := Lib.hid (linesOf_any s w (by omega))
  have hlb := linesT_len s
  have hcb := countB_bd s
  obtain ⟨ls, hls⟩ : ∃ ls, linesT s = ls := ⟨_, rfl⟩
  have hcell : ∀ j (h : j < ls.length), (w.alloc (.cells ((pieces s).map Value.string).toArray 9)).cell? ⟨w.heap.size, j, none⟩ = some (.string ls[j]) := fun j h => by
    have hh := heap_alloc_new w (.cells ((pieces s).map Value.string).toArray 9)
    have hp := pieces_len s
    have e : (pieces s)[j]? = some ls[j] := by
      subst hls
      unfold linesT at h ⊢
      split at h <;> rename_i hz
      · simp only [hz, ↓reduceIte]
        rw [List.getElem_dropLast]
        exact List.getElem?_eq_getElem _
      · simp only [hz, ↓reduceIte]
        exact List.getElem?_eq_getElem _
    simp only [World.cell?, hh]
    simp [e]
  unfold LinesOfP at HG
  have hn : ls.length ≤ 100001 := by rw [← hls]; omega
  rw [hls] at HG
  unfold TextLinesP
  rw [hls]
  obtain ⟨W1, hW1⟩ : ∃ W1, w.alloc (.cells ((pieces s).map Value.string).toArray 9) = W1 := ⟨_, rfl⟩
  rw [hW1] at HG hcell
  have hB1 : Below w.heap.size w W1 := by rw [← hW1]; exact (Below.refl _ _).alloc (Nat.le_refl _) _
  have hsz : W1.heap.size = w.heap.size + 1 := by rw [← hW1]; simp
  have HC := Lib.hid hcell
  have HB1 := Lib.hid hB1
  have HN := Lib.hid hn
  obtain ⟨i0, hi, hz0, hz1, hz2⟩ := info_parts lines_info
  have HI := Lib.hid hi
  have HZ0 := Lib.hid hz0
  have HZ1 := Lib.hid hz1
  have HZ2 := Lib.hid hz2
  have hn63 : ls.length ≤ 9000000000000000000 := Nat.le_trans hn (by decide)
  have hlt1 : w.heap.size < W1.heap.size := by omega
  clear hls hcell hB1 hs hlb hcb hW1 hi hz0 hz1 hz2 hn hsz
  go_enter Tryd.func56, Tryd.ntmps56
  go_wp2_with fail
  refine (HG.out).mono ?_
  rintro e w1 ⟨c, rfl, rfl, hc1, hc2⟩
  clear HG hc1 hc2
  go_wp2_with fail
  go_loopw [3, 9] (fun v i wr => ∃ j : Nat, j ≤ ls.length ∧ i = .int .i64 j ∧ Hid (wr.ownsRow w1.heap.size 37 5 v j (textCells (ls.take j))) ∧ Hid (Below w1.heap.size w1 wr)) (fun _ i _ => ls.length - (intOf i).toNat)
  case atStart => exact ⟨0, by omega, rfl, World.ownsRow_nil .., Below.refl _ _⟩
  case round =>
    obtain ⟨j, hj, rfl, hown, hb⟩ := hrel
    by_cases hlt : j < ls.length
    · have c0 := (hb.out.cell (p := ⟨w.heap.size, j, none⟩) hlt1).trans (HC.out j hlt)
      obtain ⟨t, ht⟩ : ∃ t, ls[j] = t := ⟨_, rfl⟩
      rw [ht] at c0
      have HT := Lib.hid (show ls.take (j + 1) = ls.take j ++ [t] by rw [List.take_succ_eq_append_getElem hlt, ht])
      have hjz : (j : Int) < ls.length := by omega
      have hjn : (0 : Int) ≤ j := by omega
      have HLT := Lib.hid hlt
      have hone : ∀ u ∈ ([.string t, .bool false, .int .i64 0, .int .i64 0, .slice none 0 0] : List Value), u.oneCell' = true := by simp [Value.oneCell']
      have HONE := Lib.hid hone
      have hjn2 : j + 1 ≤ 100001 := by have := HLT.out; have := HN.out; omega
      have HJN := Lib.hid hjn2
      have HW := Lib.hid (Nat.le_trans (show w1.heap.size ≤ wr.heap.size from hb.out.size) (Nat.le_succ _))
      clear ht hlt hone hjn2
      go_wp2_with (at_builtin; refine wpList_append_own _ rfl _ _ 22 rfl w1.heap.size 37 i0 _ 5 64 Tryd.underlying22 HI.out HZ0.out HZ1.out HZ2.out rfl (by decide) _ _ _ rfl (own_below hown.out ((Below.refl _ _).alloc (Nat.le_refl _) _)) ⟨wr.heap.size, 0, none⟩ 1 1 [.string t, .bool false, .int .i64 0, .int .i64 0, .slice none 0 0] rfl ?qc1 ?qc2 ?qc3 ?qc4 ?qc5 ?qc6 ?_)
      case qc1 => rfl
      case qc2 => exact new_cells rfl _ _
      case qc3 => exact HONE.out
      case qc4 => have := HJN.out; unfold maxLen; omega
      case qc5 => have := HJN.out; omega
      case qc6 => simp; have := HW.out; omega
      intro v' w2 hown2 hgrow hnil
      obtain ⟨ao, c', hv⟩ := own_form hown2
      subst hv
      have HO2 := Lib.hid (show w2.ownsRow w1.heap.size 37 5 (.slice ao (j + 1) c') (j + 1) (textCells (ls.take (j + 1))) by rw [HT.out, textCells_snoc]; exact hown2)
      have HB2 := Lib.hid ((hb.out.trans (((Below.refl wr.heap.size wr).alloc (Nat.le_refl _) _).mono hb.out.size)).trans (grown_low hgrow (fun k hk => own_lo hown.out hk) (by have := HW.out; simp; omega)))
      clear hown2 hgrow hnil hown hb
      go_wp2_with fail
      go_roundw
      case rel => exact ⟨j + 1, by have := HLT.out; omega, by go_num, HO2, HB2⟩
      case measure => have := HLT.out; simp only [intOf]; omega
    · obtain rfl : j = ls.length := by omega
      obtain ⟨ao, c', hv⟩ := own_form hown.out
      subst hv
      go_wp2_with fail
      go_ret
      have hown2 := hown.out
      rw [List.take_length] at hown2
      exact ⟨_, _, rfl, HB1.out.trans (Below.mono hb.out HB1.out.size), (text_rd hown2 (by unfold maxLen; omega)).mono fun k hk => by omega⟩
end Go.Proofs.YtkocgedliakclaaDoor
