/- What a format can be. -/
import Derived.Test.YtopgbbkndkincaaGreatDoorRgLay2
import Derived.Test.YtopgbbkndkincaaGreatDoorRgWrite
namespace Go.Proofs.YtopgbbkndkincaaGreatDoor
open Go.RowKit Go.PlainAid Go.Shelf

def digL : List UInt8 := [48, 49, 50, 51, 52, 53, 54, 55, 56, 57]
/-- Is it one of the four letters? -/
def letB (s : ByteArray) : Bool := s.toList == [105] || s.toList == [73] || s.toList == [97] || s.toList == [65]
def formB (s : ByteArray) : Bool := letB s || (decide (0 < s.size) && decide (s.size ≤ 9) && s.data.toList.all (digL.contains ·))
def formErr (s : ByteArray) : Int := if formB s then 0 else 4

theorem drop_nil {p : UInt8 → Bool} : ∀ {l : List UInt8}, l.dropWhile p = [] ↔ ∀ x ∈ l, p x = true
  | [] => by simp
  | a :: r => by
    cases h : p a with
    | true => rw [List.dropWhile_cons, if_pos h, drop_nil]; simp [h]
    | false => rw [List.dropWhile_cons, if_neg (by rw [h]; simp)]; simp [h]
theorem trim_all {l : List UInt8} (h : l.all (digL.contains ·) = true) : Lib.trimS l digL = [] := by
  have h1 : Lib.trimRightS l digL = [] := by
    unfold Lib.trimRightS
    rw [List.reverse_eq_nil_iff, drop_nil]
    intro x hx
    exact List.all_eq_true.1 h x (List.mem_reverse.1 hx)
  unfold Lib.trimS
  rw [h1]; rfl
theorem trim_some {l : List UInt8} (h : l.all (digL.contains ·) = false) : Lib.trimS l digL ≠ [] := by
  intro he
  unfold Lib.trimS Lib.trimLeftS at he
  rw [drop_nil] at he
  have h2 : l.all (digL.contains ·) = true := by
    rw [List.all_eq_true]
    intro x hx
    have hr : Lib.trimRightS l digL = (l.reverse.dropWhile (digL.contains ·)).reverse := rfl
    have hs : l.reverse = l.reverse.takeWhile (digL.contains ·) ++ l.reverse.dropWhile (digL.contains ·) := List.takeWhile_append_dropWhile.symm
    have hm := List.mem_reverse.2 hx
    rw [hs, List.mem_append] at hm
    rcases hm with hm | hm
    · exact List.all_eq_true.1 List.all_takeWhile x hm
    · exact he x (by rw [hr]; exact List.mem_reverse.2 hm)
  rw [h] at h2; cases h2

abbrev FormP (s : ByteArray) (w : World) (e : Ending) (w' : World) : Prop := e = .returned (.int .i64 (formErr s)) ∧ Below w.heap.size w w'

set_option maxRecDepth 100000 in
set_option maxHeartbeats 1000000 in
theorem formError_let (s : ByteArray) (h : letB s = true) (w : World) : Calls Tryz.prog 27 #[.string s] w (FormP s w) := by
  have hf : formErr s = 0 := by unfold formErr formB; rw [h]; rfl
  unfold FormP
  rw [hf]
  unfold letB at h
  cases h0 : (s.toList == [105])
  case' false =>
    cases h1 : (s.toList == [73])
    case' false =>
      cases h2 : (s.toList == [97])
      case' false =>
        have h3 : (s.toList == [65]) = true := by simpa [h0, h1, h2] using h
  all_goals
    clear h hf
    go_enter Tryz.func27, Tryz.ntmps27
    go_wp2_with fail
    go_ret
    exact ⟨rfl, Below.refl _ _⟩

/-- What is known of a string that is none of the four letters. -/
structure NoLet (s : ByteArray) : Prop where
  a : (s.toList == [105]) = false
  b : (s.toList == [73]) = false
  c : (s.toList == [97]) = false
  d : (s.toList == [65]) = false
theorem no_let {s : ByteArray} (h : letB s = false) : NoLet s := by
  unfold letB at h
  simp only [Bool.or_eq_false_iff] at h
  exact ⟨h.1.1.1, h.1.1.2, h.1.2, h.2⟩

set_option maxRecDepth 100000 in
set_option maxHeartbeats 1000000 in
theorem formError_any (s : ByteArray) (hs : s.size ≤ 9223372036854775807) (w : World) : Calls Tryz.prog 27 #[.string s] w (FormP s w) := by
  cases hl : letB s with
  | true => exact formError_let s hl w
  | false =>
    obtain ⟨q0, q1, q2, q3⟩ := no_let hl
    by_cases h0 : s.size = 0
    · have hf : formErr s = 4 := by unfold formErr formB; rw [hl]; simp [h0]
      have he := isEmpty_yes h0
      unfold FormP
      rw [hf]
      clear hl hf
      go_enter Tryz.func27, Tryz.ntmps27
      go_wp2_with fail
      go_ret
      exact ⟨rfl, Below.refl _ _⟩
    · have he := isEmpty_no (s := s) (by omega)
      by_cases h9 : 9 < s.size
      · have hf : formErr s = 4 := by unfold formErr formB; rw [hl]; simp; omega
        unfold FormP
        rw [hf]
        clear hl hf
        go_enter Tryz.func27, Tryz.ntmps27
        go_wp2_with fail
        go_ret
        exact ⟨rfl, Below.refl _ _⟩
      · have hcon := fun w => Any.strings_Trim_laid Tryz.trimL (by kernel_rfl) s ⟨#[48, 49, 50, 51, 52, 53, 54, 55, 56, 57]⟩ w hs (by decide) (ascii_of_all (by decide))
        obtain ⟨T, hT⟩ : ∃ T : ByteArray, (⟨(Lib.trimS s.data.toList digL).toArray⟩ : ByteArray) = T := ⟨_, rfl⟩
        have hcon2 : ∀ w, Calls Tryz.prog 53 #[.string s, .string ⟨#[48, 49, 50, 51, 52, 53, 54, 55, 56, 57]⟩] w fun e w' => e = .returned (.string T) ∧ Below w.heap.size w w' := fun w => by
          rw [← hT]; exact hcon w
        have HC := Lib.hid hcon2
        have hTl : T.data.toList = Lib.trimS s.data.toList digL := by rw [← hT]
        unfold FormP
        cases ha : s.data.toList.all (digL.contains ·) with
        | true =>
          have hf : formErr s = 0 := by unfold formErr formB; rw [hl, ha]; simp; omega
          have hT0 : T.toList.isEmpty = true := by rw [Lib.toList_data, hTl, trim_all ha]; rfl
          rw [hf]
          clear hl hf hcon hcon2 hT hTl ha
          go_enter Tryz.func27, Tryz.ntmps27
          go_wp2_with fail
          refine (HC.out _).mono ?_
          rintro e w1 ⟨rfl, hb⟩
          go_wp2_with fail
          go_ret
          exact ⟨rfl, hb⟩
        | false =>
          have hf : formErr s = 4 := by unfold formErr formB; rw [hl, ha]; simp
          have hT0 : T.toList.isEmpty = false := by rw [Lib.toList_data, hTl]; exact List.isEmpty_eq_false_iff.2 (trim_some ha)
          rw [hf]
          clear hl hf hcon hcon2 hT hTl ha
          go_enter Tryz.func27, Tryz.ntmps27
          go_wp2_with fail
          refine (HC.out _).mono ?_
          rintro e w1 ⟨rfl, hb⟩
          go_wp2_with fail
          go_ret
          exact ⟨rfl, hb⟩
end Go.Proofs.YtopgbbkndkincaaGreatDoor
