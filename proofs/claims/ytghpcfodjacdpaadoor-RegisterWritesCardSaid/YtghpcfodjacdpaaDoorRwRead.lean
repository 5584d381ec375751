/- The program's Roman on every string. -/
import Derived.Test.YtghpcfodjacdpaaDoorRwProg
import Derived.Shelf.Strings.CaseAny
import Derived.Lib.MapLaws
namespace Go.Proofs.YtghpcfodjacdpaaDoor
open Go.RowKit Go.PlainAid Go.Shelf

theorem encode_le4 (z : Int) : (Lib.encodeRune z).length ≤ 4 := by
  unfold Lib.encodeRune Lib.encodeRuneZ
  rw [List.length_map]
  repeat' split
  all_goals simp
theorem mapD_len4 (f : Int → Int) : ∀ (n : Nat) (l : List UInt8), l.length ≤ n → (Lib.mapD f l).length ≤ 4 * l.length
  | 0, l, hn => by
    obtain rfl : l = [] := List.eq_nil_of_length_eq_zero (by omega)
    simp [Lib.mapD_nil]
  | n + 1, l, hn => by
    by_cases hne : l = []
    · subst hne
      simp [Lib.mapD_nil]
    · have hw := Lib.decodeL_width l
      have hle := Lib.decodeL_le l hne
      have ih := mapD_len4 f n (l.drop (Lib.decodeL l).2) (by rw [List.length_drop]; omega)
      rw [List.length_drop] at ih
      rw [Lib.mapD_step f l hne, List.length_append]
      have hh : (if 0 ≤ f (Lib.decodeL l).1 then Lib.encodeRune (f (Lib.decodeL l).1) else []).length ≤ 4 := by
        split
        · exact encode_le4 _
        · simp
      omega
/-- The tables that ToLower reads are there. -/
abbrev LowTabs (w : World) : Prop := Lib.CaseVar (Tryd.lowerL_ren.g 13) Lib.caseA w ∧ Lib.Utf8Tabs (Tryd.lowerL_ren.g 3) (Tryd.lowerL_ren.g 4) w
/-- What the numerals of a text made small come to. -/
def lowSum (S : ByteArray) : Nat := sumL romT (Lib.toLowerD S.data.toList)
def romB (N : Nat) : ByteArray := ⟨(romL romT N).toArray⟩
/-- Is a text the one that is written for a number, small or great? -/
def isRom (N : Nat) (S : ByteArray) : Prop := 1 ≤ N ∧ N ≤ 39999 ∧ (S = romB N ∨ S = upS (romB N))

abbrev ReadP (a b : Int) (w : World) (e : Ending) (w' : World) : Prop := e = .returned (.tuple #[.int .i64 a, .int .i64 b]) ∧ Below w.heap.size w w'
theorem ne_list {S R : ByteArray} (h : ¬ S = R) : (S.toList == R.toList) = false ∧ (S.toList != R.toList) = true := by
  have h1 : (S.toList == R.toList) = false := by
    rw [beq_eq_false_iff_ne]
    intro e
    rw [Lib.toList_data, Lib.toList_data] at e
    exact h (ba_ext e)
  exact ⟨h1, by rw [bne, h1]; rfl⟩
set_option maxRecDepth 100000 in
set_option maxHeartbeats 1000000 in
theorem pread_any (S : ByteArray) (hs : S.size ≤ 200) (w : World) (hw : Ready w) (ht : LowTabs w) :
    Calls Tryd.prog 7 #[.string S] w fun e w' => (isRom (lowSum S) S ∧ ReadP (lowSum S) 0 w e w') ∨ (¬ isRom (lowSum S) S ∧ ReadP 0 4 w e w') := by
  have hl := Any.strings_ToLower_any Tryd.lowerL x_lower S w (by omega) ht.1 ht.2
  have hz : (Lib.toLowerD S.data.toList).length ≤ 4 * S.data.toList.length := mapD_len4 _ _ _ (Nat.le_refl _)
  rw [← Lib.size_eq] at hz
  have HSUM : Hid (∀ w, Ready w → Calls Tryd.prog 18 #[.string ⟨(Lib.toLowerD S.data.toList).toArray⟩] w fun e w' => e = .returned (.int .i64 (lowSum S)) ∧ Below w.heap.size w w') := fun w hw => sum_any _ (by rw [Lib.size_eq]; show (Lib.toLowerD S.data.toList).length ≤ _; omega) w hw.1 hw.2
  obtain ⟨L, hL⟩ : ∃ L : ByteArray, (⟨(Lib.toLowerD S.data.toList).toArray⟩ : ByteArray) = L := ⟨_, rfl⟩
  have hl2 : Calls Tryd.prog 19 #[.string S] w fun e w' => e = .returned (.string L) ∧ Below w.heap.size w w' := by rw [← hL]; exact hl
  rw [hL] at HSUM
  obtain ⟨n, hN⟩ : ∃ n, lowSum S = n := ⟨_, rfl⟩
  rw [hN] at HSUM ⊢
  have HL := Lib.hid hl2
  have HW := Lib.hid hw
  clear hl hl2 hL hN ht hw hz
  by_cases h1 : 1 ≤ n
  case neg =>
    have hno : ¬ isRom n S := fun h => h1 h.1
    have HN := Lib.hid hno
    clear hno
    go_enter Tryd.func7, Tryd.ntmps7
    go_wp2_with fail
    refine HL.out.mono ?_
    rintro e w1 ⟨rfl, b1⟩
    go_wp2_with fail
    refine (HSUM.out _ (HW.out.below b1)).mono ?_
    rintro e w2 ⟨rfl, b2⟩
    go_wp2_with fail
    go_ret2
    exact .inr ⟨HN.out, rfl, below_step b1 b2⟩
  by_cases h2 : n ≤ 39999
  case neg =>
    have hno : ¬ isRom n S := fun h => h2 h.2.1
    have HN := Lib.hid hno
    clear hno
    go_enter Tryd.func7, Tryd.ntmps7
    go_wp2_with fail
    refine HL.out.mono ?_
    rintro e w1 ⟨rfl, b1⟩
    go_wp2_with fail
    refine (HSUM.out _ (HW.out.below b1)).mono ?_
    rintro e w2 ⟨rfl, b2⟩
    go_wp2_with fail
    go_ret2
    exact .inr ⟨HN.out, rfl, below_step b1 b2⟩
  obtain ⟨R, hR⟩ : ∃ R, romB n = R := ⟨_, rfl⟩
  have hrom : ∀ w, Ready w → Calls Tryd.prog 20 #[.int .i64 n] w (StrIs R w) := fun w hw => by rw [← hR]; exact roman_any n h1 h2 w hw.1 hw.2
  have hup : ∀ w, Calls Tryd.prog 21 #[.string R] w (StrIs (upS R) w) := fun w => by
    have hr : romB n = romS n := (romS_small h1 h2).symm
    rw [← hR, hr]
    exact upS_at (romS n) (by have := romS_le (N := n) (by omega); omega) rom_ascii w
  have HR := Lib.hid hrom
  have HU := Lib.hid hup
  obtain ⟨U, hU⟩ : ∃ U, upS R = U := ⟨_, rfl⟩
  have HI : Hid (isRom n S ↔ (S = R ∨ S = U)) := by rw [← hU, ← hR]; exact ⟨fun h => h.2.2, fun h => ⟨h1, h2, h⟩⟩
  rw [hU] at HU
  clear hR hrom hup hU
  by_cases e1 : S = R
  · subst e1
    have HN := Lib.hid (HI.out.2 (.inl rfl))
    clear HI
    go_enter Tryd.func7, Tryd.ntmps7
    go_wp2_with fail
    refine HL.out.mono ?_
    rintro e w1 ⟨rfl, b1⟩
    have HW1 := Lib.hid (HW.out.below b1)
    go_wp2_with fail
    refine (HSUM.out _ HW1.out).mono ?_
    rintro e w2 ⟨rfl, b2⟩
    have HW2 := Lib.hid (HW1.out.below b2)
    go_wp2_with fail
    refine (HR.out _ HW2.out).mono ?_
    rintro e w3 ⟨rfl, b3⟩
    go_wp2_with fail
    go_ret2
    exact .inl ⟨HN.out, rfl, below_step (below_step b1 b2) b3⟩
  obtain ⟨q1, q2⟩ := ne_list e1
  by_cases e2 : S = U
  · subst e2
    have HN := Lib.hid (HI.out.2 (.inr rfl))
    clear HI e1
    go_enter Tryd.func7, Tryd.ntmps7
    go_wp2_with fail
    refine HL.out.mono ?_
    rintro e w1 ⟨rfl, b1⟩
    have HW1 := Lib.hid (HW.out.below b1)
    go_wp2_with fail
    refine (HSUM.out _ HW1.out).mono ?_
    rintro e w2 ⟨rfl, b2⟩
    have HW2 := Lib.hid (HW1.out.below b2)
    go_wp2_with fail
    refine (HR.out _ HW2.out).mono ?_
    rintro e w3 ⟨rfl, b3⟩
    go_wp2_with fail
    refine (HU.out _).mono ?_
    rintro e w4 ⟨rfl, b4⟩
    go_wp2_with fail
    go_ret2
    exact .inl ⟨HN.out, rfl, below_step (below_step (below_step b1 b2) b3) b4⟩
  · obtain ⟨q3, q4⟩ := ne_list e2
    have HN := Lib.hid (fun h => (HI.out.1 h).elim e1 e2)
    clear HI e1 e2
    go_enter Tryd.func7, Tryd.ntmps7
    go_wp2_with fail
    refine HL.out.mono ?_
    rintro e w1 ⟨rfl, b1⟩
    have HW1 := Lib.hid (HW.out.below b1)
    go_wp2_with fail
    refine (HSUM.out _ HW1.out).mono ?_
    rintro e w2 ⟨rfl, b2⟩
    have HW2 := Lib.hid (HW1.out.below b2)
    go_wp2_with fail
    refine (HR.out _ HW2.out).mono ?_
    rintro e w3 ⟨rfl, b3⟩
    go_wp2_with fail
    refine (HU.out _).mono ?_
    rintro e w4 ⟨rfl, b4⟩
    go_wp2_with fail
    go_ret2
    exact .inr ⟨HN.out, rfl, below_step (below_step (below_step b1 b2) b3) b4⟩
end Go.Proofs.YtghpcfodjacdpaaDoor
