/- The program's Write: roman, filled, text. -/
import Derived.Test.YtopgbbkndkincaaGreatDoorRgLay4
import Derived.Test.YtopgbbkndkincaaGreatDoorRwFill
import Derived.Test.YtopgbbkndkincaaGreatDoorRgReady
import Derived.Test.YtopgbbkndkincaaGreatDoorRgRomAid
import Derived.Lib.ItoaMem
namespace Go.Proofs.YtopgbbkndkincaaGreatDoor
open Go.RowKit Go.PlainAid Go.Shelf

theorem pow_named : Tryz.prog.globalNamed "internal/strconv.uint64pow10" = some 5 := by kernel_rfl
abbrev PowTab (w : World) : Prop := Lib.TabIs Tryz.prog w "internal/strconv.uint64pow10" .u64 Lib.pow10Tab
/-- The library's powers of ten are there. -/
def PowAt (w : World) : Prop := PowTab w ∧ 5 < w.heap.size
theorem PowAt.below {w w' : World} (h : PowAt w) (hb : Below w.heap.size w w') : PowAt w' := by
  obtain ⟨h, hg⟩ := h
  refine ⟨?_, Nat.lt_of_lt_of_le hg hb.size⟩
  unfold PowTab Lib.TabIs World.var? at *
  rw [pow_named] at *
  simp only [Option.bind_some] at *
  rw [hb.block _ hg]
  exact h
theorem itoa_at (n : Nat) (hn : n < 9223372036854775808) (w : World) (h : PowAt w) : Calls Tryz.prog 58 #[.int .i64 n] w (StrIs (decS n) w) := by
  refine (Any.strconv_Itoa Tryz.itoaL n (by omega) (by omega) w h.1).mono fun e w' ⟨he, k, os, hw⟩ => ?_
  rw [Lib.itoa_nonneg] at he
  refine ⟨he, ?_⟩
  subst hw
  refine ⟨rfl, rfl, rfl, ?_, fun j hj => ?_⟩
  · show w.heap.size ≤ (w.heap ++ os).size
    rw [Array.size_append]; omega
  · show (w.heap ++ os)[j]? = _
    exact Array.getElem?_append_left hj
/-- The tables that Write reads are there. -/
abbrev Tabs (w : World) : Prop := Ready w ∧ PowAt w
theorem Tabs.below {w w' : World} (h : Tabs w) (hb : Below w.heap.size w w') : Tabs w' := ⟨h.1.below hb, h.2.below hb⟩

set_option maxRecDepth 100000 in
set_option maxHeartbeats 1000000 in
theorem proman_any (N : Nat) (h2 : N ≤ 1000000000) (w : World) (hw : Tabs w) : Calls Tryz.prog 54 #[.int .i64 N] w (StrIs (romS N) w) := by
  by_cases h0 : N = 0
  · subst h0
    have hI := itoa_at 0 (by omega) w hw.2
    rw [show ((0 : Nat) : Int) = 0 from rfl] at hI
    rw [show romS 0 = decS 0 from if_pos (.inl rfl)]
    have HI := Lib.hid hI
    clear hI hw
    go_enter Tryz.func54, Tryz.ntmps54
    go_wp2_with fail
    refine HI.out.mono ?_
    rintro e w1 ⟨rfl, b1⟩
    go_wp2_with fail
    go_ret
    exact ⟨rfl, b1⟩
  · by_cases h1 : N ≤ 39999
    · rw [romS_small (by omega) h1]
      exact roman_any N (by omega) h1 w hw.1.1 hw.1.2
    · have HI := Lib.hid (itoa_at N (by omega) w hw.2)
      have hne : ((N : Int) == 0) = false := by rw [beq_eq_false_iff_ne]; omega
      rw [romS_big (by omega)]
      clear hw
      go_enter Tryz.func54, Tryz.ntmps54
      go_wp2_with fail
      refine HI.out.mono ?_
      rintro e w1 ⟨rfl, b1⟩
      go_wp2_with fail
      go_ret
      exact ⟨rfl, b1⟩

set_option maxRecDepth 100000 in
set_option maxHeartbeats 1000000 in
theorem filled_any (D : ByteArray) (n : Nat) (hD : D.size ≤ 20) (hn : n ≤ 9) (w : World) : Calls Tryz.prog 57 #[.string D, .int .i64 n] w (StrIs (zeros (n - D.size) D) w) := by
  have hr := fun w => repeat_at ⟨#[48]⟩ (n - D.size) (by omega) (by rw [show (⟨#[48]⟩ : ByteArray).size = 1 from rfl]; omega) w
  obtain ⟨R, hR⟩ : ∃ R : ByteArray, (⟨(Lib.repeatL (⟨#[48]⟩ : ByteArray).data.toList (n - D.size)).toArray⟩ : ByteArray) = R := ⟨_, rfl⟩
  have hz : R ++ D = zeros (n - D.size) D := by
    rw [← hR]
    refine ba_ext ?_
    rw [ByteArray.data_append, Array.toList_append]
    rfl
  have hR9 : R.size ≤ 9 := by
    have := congrArg ByteArray.size hz
    rw [zeros_size, ByteArray.size_append] at this
    omega
  unfold StrP at hr
  rw [hR] at hr
  rw [← hz]
  have HR := Lib.hid hr
  clear hr hR hz
  have e : ((n - D.size : Nat) : Int) = max 0 ((n : Int) - D.size) := by omega
  rw [e] at HR
  go_enter Tryz.func57, Tryz.ntmps57
  go_wp2_with fail
  refine (HR.out _).mono ?_
  rintro e w1 ⟨rfl, b1⟩
  go_wp2_with fail
  go_ret
  exact ⟨rfl, b1⟩

theorem rom_ascii {N : Nat} : ∀ (j : Nat) (b : UInt8), (romS N).data.toList[j]? = some b → b.toNat < 128 := by
  intro j b hb
  have hm := List.mem_of_getElem? hb
  unfold romS at hm
  split at hm
  · rw [decS_list] at hm
    have := dec_digit N b hm
    omega
  · exact (rom_small (rom_set hm)).1
theorem lets_ascii (N : Nat) : ∀ x ∈ lets N, x.toNat < 128 := by
  induction N using Nat.strongRecOn with
  | _ N ih =>
    rcases Nat.eq_zero_or_pos N with h | h
    · subst h; rw [lets_zero]; simp
    · rw [lets_pos h]
      intro x hx
      rcases List.mem_append.1 hx with hx | hx
      · exact ih ((N - 1) / 26) (by omega) x hx
      · obtain rfl := List.mem_singleton.1 hx
        rw [UInt8.toNat_ofNat']
        omega
theorem let_ascii {N : Nat} : ∀ (j : Nat) (b : UInt8), (letS N).data.toList[j]? = some b → b.toNat < 128 := by
  intro j b hb
  have hm := List.mem_of_getElem? hb
  unfold letS at hm
  split at hm
  · obtain rfl := List.mem_singleton.1 (show b ∈ [48] from hm)
    decide
  · exact lets_ascii N b hm
theorem upS_at (S : ByteArray) (hs : S.size ≤ 1000000000) (ha : ∀ (j : Nat) (b : UInt8), S.data.toList[j]? = some b → b.toNat < 128) (w : World) : Calls Tryz.prog 55 #[.string S] w (StrIs (upS S) w) :=
  upper_at S (by omega) ha w

set_option maxRecDepth 100000 in
set_option maxHeartbeats 1000000 in
theorem text_i (N : Nat) (h2 : N ≤ 1000000000) (w : World) (hw : Tabs w) : Calls Tryz.prog 29 #[.int .i64 N, .string ⟨#[105]⟩] w (StrIs (romS N) w) := by
  have HR := Lib.hid (proman_any N h2 w hw)
  clear hw
  go_enter Tryz.func29, Tryz.ntmps29
  go_wp2_with fail
  refine HR.out.mono ?_
  rintro e w3 ⟨rfl, b3⟩
  go_wp2_with fail
  go_ret
  exact ⟨rfl, b3⟩
set_option maxRecDepth 100000 in
set_option maxHeartbeats 1000000 in
theorem text_I (N : Nat) (h2 : N ≤ 1000000000) (w : World) (hw : Tabs w) : Calls Tryz.prog 29 #[.int .i64 N, .string ⟨#[73]⟩] w (StrIs (upS (romS N)) w) := by
  have HR := Lib.hid (proman_any N h2 w hw)
  have HU := Lib.hid (upS_at (romS N) (by have := romS_le h2; omega) rom_ascii)
  obtain ⟨R, hR⟩ : ∃ R, romS N = R := ⟨_, rfl⟩
  rw [hR] at HR HU ⊢
  clear hw hR
  go_enter Tryz.func29, Tryz.ntmps29
  go_wp2_with fail
  refine HR.out.mono ?_
  rintro e w3 ⟨rfl, b3⟩
  go_wp2_with fail
  refine (HU.out _).mono ?_
  rintro e w4 ⟨rfl, b4⟩
  go_wp2_with fail
  go_ret
  exact ⟨rfl, step_below b3 b4⟩
set_option maxRecDepth 100000 in
set_option maxHeartbeats 1000000 in
theorem text_A (N : Nat) (h2 : N ≤ 1000000000) (w : World) : Calls Tryz.prog 29 #[.int .i64 N, .string ⟨#[65]⟩] w (StrIs (upS (letS N)) w) := by
  have HL := Lib.hid (letters_any N h2)
  have HU := Lib.hid (upS_at (letS N) (letS_le h2) let_ascii)
  obtain ⟨R, hR⟩ : ∃ R, letS N = R := ⟨_, rfl⟩
  rw [hR] at HL HU ⊢
  clear hR
  go_enter Tryz.func29, Tryz.ntmps29
  go_wp2_with fail
  refine (HL.out _).mono ?_
  rintro e w3 ⟨rfl, rfl⟩
  go_wp2_with fail
  refine (HU.out _).mono ?_
  rintro e w4 ⟨rfl, b4⟩
  go_wp2_with fail
  go_ret
  exact ⟨rfl, b4⟩
set_option maxRecDepth 100000 in
set_option maxHeartbeats 1000000 in
theorem text_dig (N : Nat) (F : ByteArray) (h2 : N ≤ 1000000000) (hF : DigForm F) (w : World) (hw : Tabs w) : Calls Tryz.prog 29 #[.int .i64 N, .string F] w (StrIs (zeros (F.size - (decS N).size) (decS N)) w) := by
  have h9 := hF.le
  obtain ⟨q0, q1, q2, q3⟩ := no_let hF.lets
  have HI := Lib.hid (itoa_at N (by omega) w hw.2)
  have HL := Lib.hid (filled_any (decS N) F.size (decS_le h2) h9)
  obtain ⟨D, hD⟩ : ∃ D, decS N = D := ⟨_, rfl⟩
  rw [hD] at HI HL ⊢
  obtain ⟨Z, hZ⟩ : ∃ Z, zeros (F.size - D.size) D = Z := ⟨_, rfl⟩
  rw [hZ] at HL ⊢
  clear hw hD hZ hF
  go_enter Tryz.func29, Tryz.ntmps29
  go_wp2_with fail
  refine HI.out.mono ?_
  rintro e w3 ⟨rfl, b3⟩
  go_wp2_with fail
  refine (HL.out _).mono ?_
  rintro e w4 ⟨rfl, b4⟩
  go_wp2_with fail
  go_ret
  exact ⟨rfl, step_below b3 b4⟩

theorem text_any (N : Nat) (F : ByteArray) (h2 : N ≤ 1000000000) (hF : formB F = true) (w : World) (hw : Tabs w) : Calls Tryz.prog 29 #[.int .i64 N, .string F] w (StrIs (wTxt N F) w) := by
  unfold wTxt
  have lit : ∀ {c : UInt8}, (F.toList == [c]) = true → F = ⟨#[c]⟩ := fun {c} h => ba_ext (by rw [← Lib.toList_data]; exact beq_iff_eq.1 h)
  by_cases h0 : (F.toList == [105]) = true
  · rw [if_pos h0, lit h0]; exact text_i N h2 w hw
  rw [if_neg h0]
  by_cases h1 : (F.toList == [73]) = true
  · rw [if_pos h1, lit h1]; exact text_I N h2 w hw
  rw [if_neg h1]
  by_cases h3 : (F.toList == [97]) = true
  · rw [if_pos h3, lit h3]
    exact (text_a N h2 w).mono fun e w' ⟨he, hw'⟩ => ⟨he, hw' ▸ Below.refl _ _⟩
  rw [if_neg h3]
  by_cases h4 : (F.toList == [65]) = true
  · rw [if_pos h4, lit h4]; exact text_A N h2 w
  rw [if_neg h4]
  exact text_dig N F h2 (dig_form hF (by unfold letB; simp only [Bool.or_eq_false_iff]; exact ⟨⟨⟨Bool.not_eq_true _ ▸ h0, Bool.not_eq_true _ ▸ h1⟩, Bool.not_eq_true _ ▸ h3⟩, Bool.not_eq_true _ ▸ h4⟩)) w hw

set_option maxRecDepth 100000 in
set_option maxHeartbeats 1000000 in
theorem pwrite_any (n : Int) (F : ByteArray) (hF9 : F.size ≤ 100) (w : World) (hw : Tabs w) : Calls Tryz.prog 10 #[.int .i64 n, .string F] w (WriteP n F w) := by
  unfold WriteP
  have HF := Lib.hid (formError_any F (by omega))
  have HT := Lib.hid (rangeError_any n)
  have HW := Lib.hid hw
  clear hw
  unfold FormP formErr at HF
  cases hf : formB F with
  | false =>
    rw [if_neg (by rw [hf]; simp)] at HF
    rw [(wr_form hf).1, (wr_form hf).2]
    clear hf
    go_enter Tryz.func10, Tryz.ntmps10
    go_wp2_with fail
    refine (HF.out _).mono ?_
    rintro e w1 ⟨rfl, b1⟩
    go_wp2_with fail
    go_ret2
    exact ⟨rfl, b1⟩
  | true =>
    rw [if_pos hf] at HF
    have hrg : rangeErr n = if fitB n then 0 else 5 := by
      unfold rangeErr fitB
      by_cases h3 : -1000000000 ≤ n <;> by_cases h4 : n ≤ 1000000000 <;> simp [h3, h4]
    cases ht : fitB n with
    | false =>
      rw [hrg, if_neg (by rw [ht]; simp)] at HT
      rw [(wr_fit hf ht).1, (wr_fit hf ht).2]
      clear hf ht hrg
      go_enter Tryz.func10, Tryz.ntmps10
      go_wp2_with fail
      refine (HF.out _).mono ?_
      rintro e w1 ⟨rfl, b1⟩
      go_wp2_with fail
      refine (HT.out _).mono ?_
      rintro e w2 ⟨rfl, rfl⟩
      go_wp2_with fail
      go_ret2
      exact ⟨rfl, b1⟩
    | true =>
      rw [hrg, if_pos ht] at HT
      have ht0 := ht
      simp only [fitB, Bool.and_eq_true, decide_eq_true_eq] at ht
      clear hrg
      by_cases hn : n < 0
      · rw [(wr_neg hf ht0 hn).1, (wr_neg hf ht0 hn).2]
        clear ht0
        obtain ⟨N, hN⟩ : ∃ N, n.natAbs = N := ⟨_, rfl⟩
        have hneg : -n = (N : Int) := by omega
        have hN2 : N ≤ 1000000000 := by omega
        have HX := Lib.hid (text_any N F hN2 hf)
        have hle := wTxt_le (F := F) hN2 hF9
        rw [hN]
        obtain ⟨S, hS⟩ : ∃ S, wTxt N F = S := ⟨_, rfl⟩
        rw [hS] at HX hle ⊢
        clear hf hN hS
        go_enter Tryz.func10, Tryz.ntmps10
        go_wp2_with fail
        refine (HF.out _).mono ?_
        rintro e w1 ⟨rfl, b1⟩
        go_wp2_with fail
        refine (HT.out _).mono ?_
        rintro e w2 ⟨rfl, rfl⟩
        go_wp2_with fail
        refine (HX.out _ (HW.out.below b1)).mono ?_
        rintro e w3 ⟨rfl, b3⟩
        go_wp2_with fail
        go_ret2
        exact ⟨rfl, step_below b1 b3⟩
      · rw [(wr_pos hf ht0 hn).1, (wr_pos hf ht0 hn).2]
        obtain ⟨N, rfl⟩ : ∃ N : Nat, n = N := ⟨n.toNat, by omega⟩
        have HX := Lib.hid (text_any N F (by omega) hf)
        rw [show (N : Int).toNat = N from rfl]
        obtain ⟨S, hS⟩ : ∃ S, wTxt N F = S := ⟨_, rfl⟩
        rw [hS] at HX ⊢
        clear hf hS ht0
        go_enter Tryz.func10, Tryz.ntmps10
        go_wp2_with fail
        refine (HF.out _).mono ?_
        rintro e w1 ⟨rfl, b1⟩
        go_wp2_with fail
        refine (HT.out _).mono ?_
        rintro e w2 ⟨rfl, rfl⟩
        go_wp2_with fail
        refine (HX.out _ (HW.out.below b1)).mono ?_
        rintro e w3 ⟨rfl, b3⟩
        go_wp2_with fail
        go_ret2
        exact ⟨rfl, step_below b1 b3⟩
end Go.Proofs.YtopgbbkndkincaaGreatDoor
