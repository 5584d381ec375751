/- RegisterWrites's walk: what both say of a text is one. -/
import Derived.Test.YtghpcfodjacdpaaDoorRwRead
import Derived.Test.YtghpcfodjacdpaaDoorRwRGreat
namespace Go.Proofs.YtghpcfodjacdpaaDoor
open Go.RowKit Go.PlainAid Go.Shelf

theorem rom_ascii_mem {N : Nat} : ∀ b ∈ romL romT N, b.toNat < 128 := fun _ hb => (rom_small (rom_set hb)).1
theorem romUp_ascii {N : Nat} : ∀ b ∈ Lib.toUpperA (romL romT N), b.toNat < 128 := fun b hb => by
  obtain ⟨x, hx, rfl⟩ := List.mem_map.1 hb
  exact (rom_small (rom_set hx)).2.2.2.1
/-- A text that is a number's, made small. -/
theorem lo_of_rom {N : Nat} {S : ByteArray} (h : S = romB N ∨ S = upS (romB N)) : loS S = romB N ∧ lowSum S = N := by
  rcases h with rfl | rfl
  · have hl : (romB N).data.toList = romL romT N := by simp [romB]
    refine ⟨ba_ext ?_, ?_⟩
    · rw [loS_list, hl, rom_lower]
    · unfold lowSum
      rw [hl, Lib.toLowerD_ascii _ rom_ascii_mem, rom_lower, sum_roman]
  · have hl : (romB N).data.toList = romL romT N := by simp [romB]
    refine ⟨ba_ext ?_, ?_⟩
    · rw [loS_list, upS_list, hl, rom_back]
    · unfold lowSum
      rw [upS_list, hl, Lib.toLowerD_ascii _ romUp_ascii, rom_back, sum_roman]
theorem dig_set {x : UInt8} (h : x ∈ romSet) : digV (x.toNat : Int) ≠ 0 := by
  have hall : (romSet.all fun x => decide (digV (x.toNat : Int) ≠ 0)) = true := by decide +kernel
  exact of_decide_eq_true (List.all_eq_true.1 hall x h)
theorem ok_of_rom {S : ByteArray} (h : isRom (lowSum S) S) : OkR S (loS S) ∧ sgnL (loS S).data.toList = lowSum S := by
  obtain ⟨h1, h2, h3⟩ := h
  obtain ⟨N, hN⟩ : ∃ N, lowSum S = N := ⟨_, rfl⟩
  rw [hN] at h1 h2 h3 ⊢
  have hl : (romB N).data.toList = romL romT N := by simp [romB]
  have hs : sgnL (romB N).data.toList = N := by rw [hl, sgn_rom]
  rw [(lo_of_rom h3).1]
  have hp : 0 < (romB N).size := by
    rw [Lib.size_eq, hl, List.length_pos_iff]
    exact rom_pos (by omega)
  refine ⟨⟨?_, h3, fun j hj => ?_, by rw [hs]; omega, by rw [hs]; omega, ?_⟩, hs⟩
  · rcases h3 with rfl | rfl
    · exact hp
    · rw [upS_size]; exact hp
  · rw [bt_get hj]
    exact dig_set (rom_set (by rw [← hl]; exact List.getElem_mem _))
  · rw [hs, Int.toNat_natCast]
    rfl
theorem rom_of_ok {S : ByteArray} (h : OkR S (loS S)) : isRom (lowSum S) S := by
  obtain ⟨_, hsame, _, hge, hle, hrom⟩ := h
  obtain ⟨N, hN⟩ : ∃ N, (sgnL (loS S).data.toList).toNat = N := ⟨_, rfl⟩
  have hlo : romB N = loS S := by rw [← hN]; exact hrom
  have h3 : S = romB N ∨ S = upS (romB N) := by rw [hlo]; exact hsame
  rw [(lo_of_rom h3).2]
  exact ⟨by omega, by omega, h3⟩

abbrev AllTabs (w : World) : Prop := Tabs w ∧ LowTabs w
theorem AllTabs.below {w w' : World} (h : AllTabs w) (hb : Below w.heap.size w w') : AllTabs w' := ⟨h.1.below hb, Lib.CaseVar_below h.2.1 hb, Utf8Tabs_below h.2.2 hb⟩

set_option maxRecDepth 100000 in
set_option maxHeartbeats 1000000 in
theorem writes_in (n : Int) (F S : ByteArray) (hF : F.size ≤ 50) (hS : S.size ≤ 200) (w : World) (hw : AllTabs w) :
    Calls Tryd.prog 3 #[.int .i64 n, .string F, .string S] w fun e w' => e = .returned (.bool true) ∧ Below w.heap.size w w' := by
  have HW := Lib.hid hw
  obtain ⟨a, ha⟩ : ∃ a, wrS n F = a := ⟨_, rfl⟩
  obtain ⟨e0, he⟩ : ∃ e, wrE n F = e := ⟨_, rfl⟩
  have h1 : ∀ w, Tabs w → Calls Tryd.prog 5 #[.int .i64 n, .string F] w fun e w' => e = .returned (.tuple #[.string a, .int .i64 e0]) ∧ Below w.heap.size w w' := fun w hw => by rw [← ha, ← he]; exact pwrite_any n F (by omega) w hw
  have h2 : ∀ w, Calls Tryd.prog 6 #[.int .i64 n, .string F] w fun e w' => e = .returned (.tuple #[.string a, .int .i64 e0]) ∧ Below w.heap.size w w' := fun w => by rw [← ha, ← he]; exact rwrite_any n F (by omega) w
  have h34 : ∃ x g : Int, (∀ w, AllTabs w → Calls Tryd.prog 7 #[.string S] w fun e w' => e = .returned (.tuple #[.int .i64 x, .int .i64 g]) ∧ Below w.heap.size w w') ∧
      (∀ w, Calls Tryd.prog 8 #[.string S] w fun e w' => e = .returned (.tuple #[.int .i64 x, .int .i64 g]) ∧ Below w.heap.size w w') := by
    by_cases hr : isRom (lowSum S) S
    · obtain ⟨ho, hv⟩ := ok_of_rom hr
      refine ⟨lowSum S, 0, fun w hw => (pread_any S hS w hw.1.1 hw.2).mono fun e w' h => ?_, fun w => (rr_any S hS w).mono fun e w' h => ?_⟩
      · exact h.elim (fun h => h.2) (fun h => absurd hr h.1)
      · rcases h with h | h
        · rw [← hv]; exact h.2
        · exact absurd ho h.1
    · refine ⟨0, 4, fun w hw => (pread_any S hS w hw.1.1 hw.2).mono fun e w' h => ?_, fun w => (rr_any S hS w).mono fun e w' h => ?_⟩
      · exact h.elim (fun h => absurd h.1 hr) (fun h => h.2)
      · exact h.elim (fun h => absurd (rom_of_ok h.1) hr) (fun h => h.2)
  obtain ⟨x, g, h3, h4⟩ := h34
  have H1 := Lib.hid h1
  have H2 := Lib.hid h2
  have H3 := Lib.hid h3
  have H4 := Lib.hid h4
  clear ha he h1 h2 h3 h4 hw
  have q1 : (a.toList == a.toList) = true := beq_self_eq_true _
  have q2 : (e0 == e0) = true := beq_self_eq_true _
  have q3 : (x == x) = true := beq_self_eq_true _
  have q4 : (g == g) = true := beq_self_eq_true _
  go_enter Tryd.func3, Tryd.ntmps3
  go_wp2_with fail
  refine (H1.out _ HW.out.1).mono ?_
  rintro e w1 ⟨rfl, b1⟩
  have HW1 := Lib.hid (HW.out.below b1)
  go_wp2_with fail
  refine (H2.out _).mono ?_
  rintro e w2 ⟨rfl, b2⟩
  have HW2 := Lib.hid (HW1.out.below b2)
  have b12 := step_below b1 b2
  clear b1 b2
  go_wp2_with fail
  refine (H3.out _ HW2.out).mono ?_
  rintro e w3 ⟨rfl, b3⟩
  have b13 := step_below b12 b3
  clear b12 b3
  go_wp2_with fail
  refine (H4.out _).mono ?_
  rintro e w4 ⟨rfl, b4⟩
  have b14 := step_below b13 b4
  clear b13 b4
  go_wp2_with fail
  refine (sane_any _).mono ?_
  rintro e w5 ⟨rfl, rfl⟩
  go_wp2_with fail
  go_ret
  exact ⟨rfl, b14⟩
theorem writes_out (n : Int) (F S : ByteArray) (h : 50 < F.size ∨ 200 < S.size) (w : World) :
    Calls Tryd.prog 3 #[.int .i64 n, .string F, .string S] w fun e w' => e = .returned (.bool true) ∧ Below w.heap.size w w' := by
  by_cases hS : 200 < S.size
  · clear h
    go_enter Tryd.func3, Tryd.ntmps3
    go_wp2_with fail
    refine (sane_any _).mono ?_
    rintro e w5 ⟨rfl, rfl⟩
    go_wp2_with fail
    go_ret
    exact ⟨rfl, Below.refl _ _⟩
  · have hF : 50 < F.size := by omega
    clear h
    go_enter Tryd.func3, Tryd.ntmps3
    go_wp2_with fail
    refine (sane_any _).mono ?_
    rintro e w5 ⟨rfl, rfl⟩
    go_wp2_with fail
    go_ret
    exact ⟨rfl, Below.refl _ _⟩
theorem writes_any (n : Int) (F S : ByteArray) (w : World) (hw : AllTabs w) :
    Calls Tryd.prog 3 #[.int .i64 n, .string F, .string S] w fun e w' => e = .returned (.bool true) ∧ Below w.heap.size w w' := by
  by_cases h : 50 < F.size ∨ 200 < S.size
  · exact writes_out n F S h w
  · exact writes_in n F S (by omega) (by omega) w hw
end Go.Proofs.YtghpcfodjacdpaaDoor
