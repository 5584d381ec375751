/- The part behind a point; a number. -/
import Derived.Test.YtkkcoajgpdpfkabDoorMsRd4
import Derived.Test.YtkkcoajgpdpfkabDoorMsOps
import Derived.Lib.Strings
namespace Go.Proofs.YtkkcoajgpdpfkabDoor
open Go.RowKit Go.PlainAid

theorem extract_self (s : ByteArray) (p : Nat) : s.extract p p = ⟨#[]⟩ := by
  rw [Lib.extract_eq]; simp
theorem bt_extract (s : ByteArray) (p e j : Nat) (he : e ≤ s.size) (hj : j < e - p) : bt (s.extract p e) j = bt s (p + j) := by
  have h1 : p + j < s.size := by omega
  have h2 : j < (s.extract p e).size := by simp; omega
  unfold bt
  rw [dif_pos h1, dif_pos h2]
  simp [ByteArray.getElem_extract]
theorem size_extract (s : ByteArray) (p e : Nat) (he : e ≤ s.size) : (s.extract p e).size = e - p := by simp; omega
theorem dVal_extract (s : ByteArray) (p e n : Nat) (he : e ≤ s.size) (hn : n ≤ e - p) : Ms.dVal (s.extract p e) 0 n = Ms.dVal s p n := by
  induction n with
  | zero => rfl
  | succ n ih => rw [Ms.dVal, Ms.dVal, ih (by omega), Nat.zero_add, bt_extract s p e n he (by omega)]

theorem digits_no (E : Ms.Env) (b p : Nat) (d l : Int) (w : World) (hs : E.s.size ≤ 4611686018427387904) (hr : Rd E b p d l w) (hp : p ≤ E.s.size) (hd : Ms.digB (bt E.s p) = false) :
    Calls Tryd.prog 59 #[.pointer (some ⟨b, 0, none⟩)] w fun e w' => e = .returned (.string ⟨#[]⟩) ∧ Moved E b p d l w w' := by
  have := digits_any E b p d l w hs hr hp
  rw [dEnd_no hd, extract_self] at this
  exact this

theorem part_none0 {s : ByteArray} {p : Nat} (h : bt s p ≠ 46) : Ms.partLen s p = 0 := by simp [Ms.partLen, h]
theorem part_none1 {s : ByteArray} {p : Nat} (h : Ms.digB (bt s (p + 1)) = false) : Ms.partLen s p = 0 := by
  unfold Ms.partLen; split
  · rw [dEnd_no h]; omega
  · rfl
theorem part_ways {s : ByteArray} {p : Nat} (h : Ms.partLen s p = 0) : bt s p ≠ 46 ∨ (bt s p = 46 ∧ Ms.digB (bt s (p + 1)) = false) := by
  by_cases h1 : bt s p = 46
  · right; refine ⟨h1, ?_⟩
    cases h2 : Ms.digB (bt s (p + 1)) with
    | false => rfl
    | true =>
      exfalso
      rw [Ms.partLen, if_pos h1, show (9 : Nat) = 8 + 1 from rfl, dEnd_yes h2] at h
      have := Ms.dEnd_ge s 8 (p + 1 + 1)
      omega
  · exact .inl h1

set_option maxHeartbeats 1000000 in
theorem part_none (E : Ms.Env) (b p : Nat) (d l : Int) (w : World) (hs : E.s.size ≤ 4611686018427387904) (hr : Rd E b p d l w) (hp : p ≤ E.s.size) (hk : Ms.partLen E.s p = 0) :
    Calls Tryd.prog 60 #[.pointer (some ⟨b, 0, none⟩)] w fun e w' => e = .returned (.string ⟨#[]⟩) ∧ Moved E b p d l w w' := by
  have k1 := hr.c1
  rcases part_ways hk with h | ⟨h, hd⟩
  · clear hk
    go_enter Tryd.func60, Tryd.ntmps60
    go_wp2_with fail
    refine (takes_no E b p d l 46 _ hs hr hp h).mono ?_
    rintro e w1 ⟨rfl, n, rfl⟩
    go_wp2
    go_ret
    exact ⟨rfl, hr.drewN _, only_drewN (Only.refl _ _) _⟩
  · have hlt : p < E.s.size := Ms.lt_of_bt (by rw [h]; decide)
    have HH := Lib.hid h
    have HD := Lib.hid hd
    clear hk h hd
    go_enter Tryd.func60, Tryd.ntmps60
    go_wp2_with fail
    refine (takes_yes E b p d l 46 _ hs hr hlt HH.out).mono ?_
    rintro e w1 ⟨rfl, hm⟩
    clear k1
    go_wp2_with fail
    refine (digits_no E b (p + 1) d l _ hs hm.1 hlt HD.out).mono ?_
    rintro e w2 ⟨rfl, hm2⟩
    have kf := hm2.1.fz 1
    have k1 := hm2.1.c1
    go_wp2
    go_ret
    exact ⟨rfl, hm2.1.set1 _, only_set (hm.2.trans hm2.2) _⟩

set_option maxHeartbeats 1000000 in
theorem part_some (E : Ms.Env) (b p k : Nat) (d l : Int) (w : World) (hs : E.s.size ≤ 4611686018427387904) (hr : Rd E b p d l w) (hk : Ms.partLen E.s p = k) (h0 : 0 < k) :
    Calls Tryd.prog 60 #[.pointer (some ⟨b, 0, none⟩)] w fun e w' => e = .returned (.string (E.s.extract (p + 1) (p + 1 + k))) ∧ Moved E b (p + 1 + k) d l w w' := by
  have k1 := hr.c1
  have h : bt E.s p = 46 := by
    by_cases h : bt E.s p = 46
    · exact h
    · rw [part_none0 h] at hk; omega
  have hlt : p < E.s.size := Ms.lt_of_bt (by rw [h]; decide)
  have he : Ms.dEnd E.s (p + 1) 9 = p + 1 + k := by rw [Ms.partLen, if_pos h] at hk; omega
  have hle := Ms.dEnd_size E.s 9 (p + 1) hlt
  rw [he] at hle
  have hne : (E.s.extract (p + 1) (p + 1 + k)).toList.isEmpty = false := by
    rw [Lib.toList_data, List.isEmpty_eq_false_iff, ← List.length_pos_iff, ← Lib.size_eq, size_extract _ _ _ hle]; omega
  have HH := Lib.hid h
  have HE := Lib.hid he
  have hc := digits_any E b (p + 1)
  rw [HE.out] at hc
  have HC := Lib.hid hc
  clear hk h he hc
  go_enter Tryd.func60, Tryd.ntmps60
  go_wp2_with fail
  refine (takes_yes E b p d l 46 _ hs hr hlt HH.out).mono ?_
  rintro e w1 ⟨rfl, hm⟩
  clear k1
  go_wp2_with fail
  refine (HC.out d l _ hs hm.1 hlt).mono ?_
  rintro e w2 ⟨rfl, hm2⟩
  go_wp2
  go_ret
  exact ⟨rfl, hm2.1, hm.2.trans hm2.2⟩

/-- Where the part ends. -/
def partEnd (p k : Nat) : Nat := if k = 0 then p else p + 1 + k
theorem part_any (E : Ms.Env) (b p : Nat) (d l : Int) (w : World) (hs : E.s.size ≤ 4611686018427387904) (hr : Rd E b p d l w) (hp : p ≤ E.s.size) (k : Nat) (hk : Ms.partLen E.s p = k) :
    Calls Tryd.prog 60 #[.pointer (some ⟨b, 0, none⟩)] w fun e w' => e = .returned (.string (E.s.extract (p + 1) (p + 1 + k))) ∧ Moved E b (partEnd p k) d l w w' := by
  by_cases h : k = 0
  · subst h
    rw [Nat.add_zero, extract_self]
    exact part_none E b p d l w hs hr hp hk
  · rw [show partEnd p k = p + 1 + k from if_neg h]
    exact part_some E b p k d l w hs hr hk (by omega)

theorem unit_any (E : Ms.Env) (g : E.Good) (b p : Nat) (d l : Int) (w : World) (hr : Rd E b p d l w) (_hp : p ≤ E.s.size) (u : Int) (hu : (Ms.unitO (bt E.s p) E.z E.v).getD E.one = u) (q : Nat) (hq : (if (Ms.unitO (bt E.s p) E.z E.v).isSome then p + 1 else p) = q) :
    Calls Tryd.prog 61 #[.pointer (some ⟨b, 0, none⟩)] w fun e w' => e = .returned (.int .i64 u) ∧ Moved E b q d l w w' := by
  cases ho : Ms.unitO (bt E.s p) E.z E.v with
  | none =>
    rw [ho] at hu hq
    subst hu hq
    exact unit_given E g b p d l w hr ho
  | some v =>
    rw [ho] at hu hq
    subst hu hq
    refine unit_own E g b p d l v w hr ?_ ho
    refine Ms.lt_of_bt fun h0 => ?_
    rw [h0] at ho
    simp [Ms.unitO] at ho

theorem valueOf_at (s : ByteArray) (p e : Nat) (he : e ≤ s.size) (h9 : e - p ≤ 9) (hd : ∀ j, p ≤ j → j < e → Ms.digB (bt s j) = true) (w : World) :
    Calls Tryd.prog 63 #[.string (s.extract p e)] w fun f w' => f = .returned (.int .i64 (Ms.dVal s p (e - p))) ∧ w = w' := by
  have := valueOf_any (s.extract p e) (by rw [size_extract _ _ _ he]; exact h9) (fun j hj => by
    rw [size_extract _ _ _ he] at hj
    rw [bt_extract s p e j he hj]
    exact hd _ (by omega) (by omega)) w
  rw [size_extract _ _ _ he, dVal_extract s p e _ he (Nat.le_refl _)] at this
  exact this

/-- What a reader's method that gives a value leaves: the value and where it stands; or a throw. -/
def After (E : Ms.Env) (b : Nat) (d l l' : Int) (w : World) (r : Ms.Res (Int × Nat)) (e : Ending) (w' : World) : Prop :=
  match r with
  | .ok (v, q) => e = .returned (.int .i64 v) ∧ Moved E b q d l' w w'
  | .er c => e = thrown c ∧ ∃ (a : Nat) (d' : Int), Moved E b a d' l w w'

theorem empty_of {s : ByteArray} {p e : Nat} (he : e ≤ s.size) : (s.extract p e).toList.isEmpty = decide (e ≤ p) := by
  rw [Lib.toList_data]
  by_cases h : e ≤ p
  · rw [decide_eq_true h, List.isEmpty_iff, ← List.length_eq_zero_iff, ← Lib.size_eq, size_extract _ _ _ he]; omega
  · rw [decide_eq_false h, List.isEmpty_eq_false_iff, ← List.length_pos_iff, ← Lib.size_eq, size_extract _ _ _ he]; omega

theorem part_size {s : ByteArray} {p : Nat} (_hp : p ≤ s.size) : (Ms.partLen s p = 0 ∨ p + 1 + Ms.partLen s p ≤ s.size) ∧ Ms.partLen s p ≤ 9 ∧ ∀ j, p + 1 ≤ j → j < p + 1 + Ms.partLen s p → Ms.digB (bt s j) = true := by
  unfold Ms.partLen
  split
  · rename_i h
    have hlt : p < s.size := Ms.lt_of_bt (by rw [h]; decide)
    have h1 := Ms.dEnd_size s 9 (p + 1) hlt
    have h2 := Ms.dEnd_le s 9 (p + 1)
    have h3 := Ms.dEnd_ge s 9 (p + 1)
    exact ⟨by omega, by omega, fun j a c => Ms.dEnd_dig s 9 (p + 1) j a (by omega)⟩
  · exact ⟨.inl rfl, by omega, fun j a c => by omega⟩
end Go.Proofs.YtkkcoajgpdpfkabDoor
