/- SourceLines's walk. -/
import Derived.Test.YtkocgedliakclaaDoorSoRef
import Derived.Test.YtkocgedliakclaaDoorSoSane2
namespace Go.Proofs.YtkocgedliakclaaDoor
open Go.RowKit Go.PlainAid Go.Maps Go.Shelf

theorem lines_rd {s : ByteArray} {w : World} {c : Nat} (hc : (linesT s).length ≤ c) (hm : c ≤ maxLen) : StrsRd (· = w.heap.size) (.slice (some ⟨w.heap.size, 0, none⟩) (linesT s).length c) (linesT s) (w.alloc (.cells ((pieces s).map Value.string).toArray 9)) := by
  refine ⟨some ⟨w.heap.size, 0, none⟩, c, rfl, hc, hm, w.heap.size, 0, fun _ => ⟨rfl, rfl⟩, fun j h => ?_⟩
  have hh := heap_alloc_new w (.cells ((pieces s).map Value.string).toArray 9)
  have e : (pieces s)[j]? = some (linesT s)[j] := by
    unfold linesT at h ⊢
    split at h <;> rename_i hz
    · simp only [hz, ↓reduceIte]
      rw [List.getElem_dropLast]
      exact List.getElem?_eq_getElem _
    · simp only [hz, ↓reduceIte]
      exact List.getElem?_eq_getElem _
  rw [Nat.zero_add]
  simp only [World.cell?, hh]
  simp [e]

set_option maxRecDepth 100000 in
set_option maxHeartbeats 8000000 in
theorem lines_any (s : ByteArray) (w : World) (hs63 : s.size ≤ 9223372036854775807) : Calls Tryd.prog 5 #[.string s] w (Makes (.bool true) w) := by
  by_cases h4 : s.size ≤ 4000
  · have hz4 : ¬ (4000 : Int) < s.size := by omega
    have hgb := get_bt s
    have HG := Lib.hid (linesOf_any s w (by omega))
    have HR := Lib.hid (fun W => refLines_any s W (by omega))
    have HJ := Lib.hid (join_lines s)
    have HJB := Lib.hid (joinL_bd s)
    have HLB := Lib.hid (fun h : (doneL s s.size).2 < s.size => last_byte h)
    obtain ⟨ls, hls⟩ : ∃ ls, linesT s = ls := ⟨_, rfl⟩
    have HE := Lib.hid (show refL s = ls by rw [← lines_ref]; exact hls)
    have HRD := Lib.hid (fun (c : Nat) (h1 : (linesT s).length ≤ c) (h2 : c ≤ maxLen) => lines_rd (w := w) h1 h2)
    unfold LinesOfP at HG
    unfold RefLinesP at HR
    rw [hls] at HG HJ HJB HRD
    rw [HE.out] at HR
    have HTK := Lib.hid (joinL_take ls)
    clear hls
    go_enter Tryd.func5, Tryd.ntmps5
    go_wp2_with fail
    refine (HG.out).mono ?_
    rintro e w1 ⟨c, rfl, hw1, hc1, hc2⟩
    have hcm : c ≤ maxLen := by unfold maxLen; omega
    have HB1 := Lib.hid (show Below w.heap.size w w1 by rw [hw1]; exact (Below.refl _ _).alloc (Nat.le_refl _) _)
    have h1s : w.heap.size < w1.heap.size := by rw [hw1]; simp
    have HL1 := Lib.hid (show StrsRd (· = w.heap.size) (.slice (some ⟨w.heap.size, 0, none⟩) ls.length c) ls w1 by rw [hw1]; exact HRD.out c hc1 hcm)
    have hl63 : ls.length ≤ 9000000000000000 := by unfold maxLen at hcm; omega
    clear hw1 hc1 hc2 hcm HG HRD
    go_wp2_with fail
    refine (HR.out _).mono ?_
    rintro e w2 ⟨la, lc, rfl, hb2, hr2⟩
    have HT := Lib.hid (texts_same _ _ ls w2 ((HL1.out.under hb2).mono fun k hk => by have := hb2.size; omega) (hr2.both.mono fun k hk => hk.2))
    have HB2 := Lib.hid (HB1.out.trans (Below.mono hb2 HB1.out.size))
    have HL2 := Lib.hid (HL1.out.under hb2)
    clear hb2 hr2 HR
    go_wp2_with fail
    refine (HT.out).mono ?_
    rintro e w3 ⟨rfl, hb3⟩
    have HB3 := Lib.hid (HB2.out.trans (Below.mono hb3 HB2.out.size))
    have HL3 := Lib.hid (HL2.out.under hb3)
    clear hb3 HT
    go_wp2_with fail
    go_loop [4, 5] (fun a i => ∃ j : Nat, j ≤ ls.length ∧ i = .int .i64 j ∧ a = .string (joinL (ls.take j))) (fun _ i => ls.length - (intOf i).toNat)
    case atStart => exact ⟨0, by omega, rfl, rfl⟩
    case round =>
      obtain ⟨j, hj, rfl, rfl⟩ := hrel
      by_cases hlt : j < ls.length
      · obtain ⟨ao, cap, e, _, _, b, off, h1, h2⟩ := HL3.out
        cases e
        obtain ⟨e, _⟩ := h1 (by omega)
        cases e
        have c0 := h2 j hlt
        obtain ⟨t, ht⟩ : ∃ t, ls[j] = t := ⟨_, rfl⟩
        rw [ht, Nat.zero_add] at c0
        have hsn : joinL (ls.take (j + 1)) = joinL (ls.take j) ++ (t ++ nlB) := by rw [List.take_succ_eq_append_getElem hlt, ht, joinL_snoc]
        have hsz := HTK.out (j + 1)
        have hjb := HJB.out
        have hsz2 : (joinL (ls.take j)).size + (t.size + 1) ≤ 4001 := by
          rw [hsn, ByteArray.size_append, ByteArray.size_append] at hsz
          have : nlB.size = 1 := rfl
          omega
        have HSN := Lib.hid hsn
        have hjz : (j : Int) < ls.length := by omega
        have hjn : (0 : Int) ≤ j := by omega
        have hta : t.size + 1 ≤ 9223372036854775807 := by omega
        have HLT := Lib.hid hlt
        clear h1 h2 ht hsn hsz hjb hlt
        go_wp2_with fail
        go_round
        case rel => exact ⟨j + 1, HLT.out, by go_num, by rw [HSN.out]; rfl⟩
        case measure => have := HLT.out; simp only [intOf]; omega
      · obtain rfl : j = ls.length := by omega
        rw [List.take_length]
        have HS5 := Lib.hid (fun W => soSane_any W)
        rcases HJ.out with ⟨hs1, _⟩ | ⟨hs2, hlt⟩
        · rw [hs1]
          clear HJ HTK HJB HLB HE
          go_wp2_with fail
          refine (HS5.out _).mono ?_
          rintro e w5 ⟨rfl, hb5⟩
          go_wp2_with fail
          go_ret
          exact ⟨rfl, HB3.out.trans (Below.mono hb5 HB3.out.size)⟩
        · have hnl := HLB.out hlt
          rw [hs2]
          have hne : ((s ++ (⟨#[10]⟩ : ByteArray)).toList == s.toList) = false := by
            rw [Lib.toList_data, Lib.toList_data, beq_eq_false_iff_ne]
            intro e
            have e := list_ext e
            have := congrArg ByteArray.size e
            rw [ByteArray.size_append] at this
            have h1 : (⟨#[10]⟩ : ByteArray).size = 1 := rfl
            omega
          rw [show nlB = ⟨#[10]⟩ from rfl]
          have hs0 : 0 < s.size := by omega
          have hlb0 : ¬ bt s (s.size - 1) = 10 := fun e => hnl ((bt_nl (by omega)).1 (by rw [e]; rfl))
          have hlb : (bt s (s.size - 1) != 10) = true := by rw [bne_iff_ne]; exact hlb0
          clear HJ HTK HJB HLB HE hlt hnl
          go_wp2_with fail
          refine (HS5.out _).mono ?_
          rintro e w5 ⟨rfl, hb5⟩
          go_wp2_with fail
          go_ret
          exact ⟨rfl, HB3.out.trans (Below.mono hb5 HB3.out.size)⟩
  · have hz4 : (4000 : Int) < s.size := by omega
    go_enter Tryd.func5, Tryd.ntmps5
    go_wp2_with fail
    refine (soSane_any _).mono ?_
    rintro e w5 ⟨rfl, hb5⟩
    go_wp2_with fail
    go_ret
    exact ⟨rfl, hb5⟩
end Go.Proofs.YtkocgedliakclaaDoor
