/- The leaves of package expand: what can be seen, what is a name without brackets, steps, names. -/
import Derived.Test.YtopgbbkndkincaaDoorExPure
import Derived.Test.YtopgbbkndkincaaDoorExLay
import Derived.Test.YtopgbbkndkincaaDoorProg
import Derived.WalkKit
import Derived.WalkSpells
import Derived.WalkLawsBesides
import Derived.Handy
import Derived.Lib.Hide
import Derived.Lib.Strings
import Derived.Deep.QuietTactic
import Derived.BigQuiet
namespace Go.Proofs.YtopgbbkndkincaaDoor
open Go.RowKit Go.PlainAid Go.Shelf

theorem isEmpty_no {s : ByteArray} (h : 0 < s.size) : s.toList.isEmpty = false := by
  rw [Lib.toList_data, List.isEmpty_eq_false_iff, ← List.length_pos_iff, ← Lib.size_eq]; exact h
theorem isEmpty_yes {s : ByteArray} (h : s.size = 0) : s.toList.isEmpty = true := by
  rw [Lib.toList_data, List.isEmpty_iff, ← List.length_eq_zero_iff, ← Lib.size_eq]; exact h
abbrev Says (v : Value) (w : World) (e : Ending) (w' : World) : Prop := e = .returned v ∧ w = w'

theorem vis_any (c : Int) (w : World) : Calls Tryd.prog 80 #[.int .u8 c] w (Says (.bool (visB c)) w) := by
  unfold visB
  by_cases h : 33 ≤ c
  · have d : decide (33 ≤ c) = true := decide_eq_true h
    rw [d]
    go_enter Tryd.func80, Tryd.ntmps80
    go_wp2_with fail
    go_ret
    exact ⟨by rw [Bool.true_and]; rfl, rfl⟩
  · have d : decide (33 ≤ c) = false := decide_eq_false h
    rw [d]
    go_enter Tryd.func80, Tryd.ntmps80
    go_wp2_with fail
    go_ret
    exact ⟨rfl, rfl⟩

theorem index_four {c : Int} (h0 : 0 ≤ c) (h1 : c ≤ 255) : decide (Lib.indexByte (⟨#[40, 91, 43, 45]⟩ : ByteArray).data.toList c.toNat.toUInt8 < 0) = (!(c == 40) && !(c == 91) && !(c == 43) && !(c == 45)) := by
  obtain ⟨n, rfl⟩ : ∃ n : Nat, c = n := ⟨c.toNat, by omega⟩
  have hn : n < 256 := by omega
  have all : (List.range 256).all (fun n => decide (Lib.indexByte (⟨#[40, 91, 43, 45]⟩ : ByteArray).data.toList ((n : Int).toNat.toUInt8) < 0) == (!((n : Int) == 40) && !((n : Int) == 91) && !((n : Int) == 43) && !((n : Int) == 45))) = true := by decide +kernel
  have := List.all_eq_true.1 all n (List.mem_range.2 hn)
  exact eq_of_beq this

theorem short_any (c : Int) (h0 : 0 ≤ c) (h1 : c ≤ 255) (w : World) : Calls Tryd.prog 75 #[.int .u8 c] w (Says (.bool (shortB c)) w) := by
  have HV := Lib.hid (vis_any c w)
  have HI := Lib.hid (Any.strings_IndexByte Tryd.indexL ⟨#[40, 91, 43, 45]⟩ c w)
  have HF := Lib.hid (index_four h0 h1)
  unfold shortB
  cases hv : visB c with
  | true =>
    rw [hv] at HV
    obtain ⟨i, hi⟩ : ∃ i, Lib.indexByte (⟨#[40, 91, 43, 45]⟩ : ByteArray).data.toList c.toNat.toUInt8 = i := ⟨_, rfl⟩
    rw [hi] at HI HF
    clear hv hi
    go_enter Tryd.func75, Tryd.ntmps75
    go_wp2_with fail
    refine HV.out.mono ?_
    rintro e w1 ⟨rfl, rfl⟩
    go_wp2_with fail
    refine HI.out.mono ?_
    rintro e w1 ⟨rfl, rfl⟩
    go_wp2_with fail
    go_ret
    exact ⟨by rw [HF.out]; rfl, rfl⟩
  | false =>
    rw [hv] at HV
    clear hv HF HI
    go_enter Tryd.func75, Tryd.ntmps75
    go_wp2_with fail
    refine HV.out.mono ?_
    rintro e w1 ⟨rfl, rfl⟩
    go_wp2_with fail
    go_ret
    exact ⟨rfl, rfl⟩

theorem step_any (s : ByteArray) (w : World) : Calls Tryd.prog 61 #[.string s] w (Says (.int .i64 (stepM s)) w) := by
  have H1 := Lib.hid (Any.strings_HasPrefix Tryd.prefixL s ⟨#[43]⟩ w)
  have H2 := Lib.hid (Any.strings_HasPrefix Tryd.prefixL s ⟨#[45]⟩ w)
  unfold stepM
  cases h1 : Lib.hasPrefix s.data.toList [43] with
  | true =>
    rw [show (⟨#[43]⟩ : ByteArray).data.toList = [43] from rfl, h1] at H1
    rw [if_pos rfl]
    clear h1 H2
    go_enter Tryd.func61, Tryd.ntmps61
    go_wp2_with fail
    refine H1.out.mono ?_
    rintro e w1 ⟨rfl, rfl⟩
    go_wp2_with fail
    go_ret
    exact ⟨rfl, rfl⟩
  | false =>
    rw [show (⟨#[43]⟩ : ByteArray).data.toList = [43] from rfl, h1] at H1
    rw [if_neg (by simp)]
    clear h1
    cases h2 : Lib.hasPrefix s.data.toList [45] with
    | true =>
      rw [show (⟨#[45]⟩ : ByteArray).data.toList = [45] from rfl, h2] at H2
      rw [if_pos rfl]
      clear h2
      go_enter Tryd.func61, Tryd.ntmps61
      go_wp2_with fail
      refine H1.out.mono ?_
      rintro e w1 ⟨rfl, rfl⟩
      go_wp2_with fail
      refine H2.out.mono ?_
      rintro e w1 ⟨rfl, rfl⟩
      go_wp2_with fail
      go_ret
      exact ⟨rfl, rfl⟩
    | false =>
      rw [show (⟨#[45]⟩ : ByteArray).data.toList = [45] from rfl, h2] at H2
      rw [if_neg (by simp)]
      clear h2
      go_enter Tryd.func61, Tryd.ntmps61
      go_wp2_with fail
      refine H1.out.mono ?_
      rintro e w1 ⟨rfl, rfl⟩
      go_wp2_with fail
      refine H2.out.mono ?_
      rintro e w1 ⟨rfl, rfl⟩
      go_wp2_with fail
      go_ret
      exact ⟨rfl, rfl⟩

theorem visTo_yes {s : ByteArray} {e : Nat} (h : ∀ j, 1 ≤ j → j < e → visB (bt s j) = true) : visTo s e = true := by
  unfold visTo
  rw [List.all_eq_true]
  intro j hj
  rw [List.mem_range] at hj
  rcases Nat.eq_zero_or_pos j with rfl | hp
  · rfl
  · rw [h j hp hj, Bool.or_true]
theorem visTo_no {s : ByteArray} {e j : Nat} (h0 : 1 ≤ j) (h1 : j < e) (h : visB (bt s j) = false) : visTo s e = false := by
  cases hv : visTo s e with
  | false => rfl
  | true =>
    unfold visTo at hv
    have := List.all_eq_true.1 hv j (List.mem_range.2 h1)
    rw [h, Bool.or_false, beq_iff_eq] at this
    omega

theorem brkM_small {s : ByteArray} (h : endB s < 2) : brkM s = none' := by unfold brkM; rw [if_pos h]
theorem brkM_bad {s : ByteArray} (h : ¬ endB s < 2) (hv : visTo s (endB s).toNat = false) : brkM s = none' := by unfold brkM; rw [if_neg h, hv]; rfl
theorem brkM_yes {s : ByteArray} {k : Nat} (h : endB s = k) (h2 : 2 ≤ k) (hv : visTo s k = true) : brkM s = (s.extract 1 k, k + 1) := by
  have : (endB s).toNat = k := by omega
  unfold brkM
  rw [if_neg (by omega), this, hv]
  rfl

set_option maxRecDepth 100000 in
set_option maxHeartbeats 1000000 in
theorem brk_any (s : ByteArray) (hs : s.size ≤ 9223372036854775807) (w : World) : Calls Tryd.prog 74 #[.string s] w (Says (.tuple #[.string (brkM s).1, .int .i64 (brkM s).2]) w) := by
  have hgb := get_bt s
  obtain ⟨m, hm⟩ : ∃ m, min s.size 22 = m := ⟨_, rfl⟩
  have hm1 : m ≤ s.size := by omega
  have hmm : min (s.size : Int) 22 = (m : Int) := by omega
  have HI := Lib.hid (Any.strings_IndexByte Tryd.indexL (s.extract 0 m) 93 w)
  rw [show Lib.indexByte (s.extract 0 m).data.toList (93 : Int).toNat.toUInt8 = endB s from by unfold endB; rw [hm]; rfl] at HI
  by_cases h2 : endB s < 2
  · rw [brkM_small h2]
    obtain ⟨e0, he⟩ : ∃ e0, endB s = e0 := ⟨_, rfl⟩
    rw [he] at HI h2
    clear he hm
    go_enter Tryd.func74, Tryd.ntmps74
    go_wp2_with fail
    refine HI.out.mono ?_
    rintro e w1 ⟨rfl, rfl⟩
    clear hmm
    go_wp2_with fail
    go_ret2
    exact ⟨rfl, rfl⟩
  · obtain ⟨k, hk⟩ : ∃ k : Nat, endB s = k := ⟨(endB s).toNat, by omega⟩
    have hlt := endB_lt s (by omega)
    rw [hk] at HI h2 hlt
    have hlt : k < s.size := hlt
    have hk2 : 2 ≤ k := by omega
    have HK := Lib.hid hk
    clear hk hm h2
    go_enter Tryd.func74, Tryd.ntmps74
    go_wp2_with fail
    refine HI.out.mono ?_
    rintro e w1 ⟨rfl, hw⟩
    subst w1
    clear hmm hm1
    go_wp2_with fail
    go_loop [5] (fun i => ∃ j : Nat, 1 ≤ j ∧ j ≤ k ∧ i = .int .i64 j ∧ Hid (∀ q, 1 ≤ q → q < j → visB (bt s q) = true)) (fun i => k - (intOf i).toNat)
    case atStart => exact ⟨1, by omega, by omega, rfl, fun q h0 h1 => by omega⟩
    case round =>
      obtain ⟨j, hj1, hj, rfl, hn⟩ := hrel
      by_cases hjk : j < k
      · have HV := Lib.hid (vis_any (bt s j) w)
        cases hb : visB (bt s j) with
        | true =>
          have hne : Hid (∀ q, 1 ≤ q → q < j + 1 → visB (bt s q) = true) := fun q h0 h1 => by
            by_cases e : q = j
            · rw [e]; exact hb
            · exact hn.out q h0 (by omega)
          rw [hb] at HV
          have hjs : j < s.size := by omega
          clear hn hb
          go_wp2_with fail
          refine HV.out.mono ?_
          rintro e w1 ⟨rfl, rfl⟩
          go_wp2_with fail
          go_round
          case rel => exact ⟨j + 1, by omega, by omega, by go_num, hne⟩
          case measure => simp [intOf]; omega
        | false =>
          have HN : Hid (brkM s = none') := brkM_bad (by rw [HK.out]; omega) (visTo_no hj1 (by rw [HK.out]; simpa using hjk) hb)
          rw [hb] at HV
          have hjs : j < s.size := by omega
          clear hn hb
          go_wp2_with fail
          refine HV.out.mono ?_
          rintro e w1 ⟨rfl, rfl⟩
          go_wp2_with fail
          go_ret2
          exact ⟨by rw [HN.out]; rfl, rfl⟩
      · obtain rfl : j = k := by omega
        have HN : Hid (brkM s = (s.extract 1 j, j + 1)) := brkM_yes HK.out hk2 (visTo_yes hn.out)
        clear hn
        go_wp2_with fail
        go_ret2
        exact ⟨by rw [HN.out]; rfl, rfl⟩
end Go.Proofs.YtopgbbkndkincaaDoor
