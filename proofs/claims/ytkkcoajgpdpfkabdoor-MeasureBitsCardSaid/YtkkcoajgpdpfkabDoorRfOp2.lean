/- The reference's operator. -/
import Derived.Test.YtkkcoajgpdpfkabDoorRfOp
namespace Go.Proofs.YtkkcoajgpdpfkabDoor
open Go.RowKit Go.PlainAid

theorem drop_at {s : ByteArray} {p : Nat} (h : p < s.size) : s.data.toList.drop p = s[p] :: s.data.toList.drop (p + 1) := by
  rw [List.drop_eq_getElem_cons (by rw [← Lib.size_eq]; exact h)]
  rfl
theorem ext2 {s : ByteArray} {p : Nat} (h : p + 1 < s.size) : (s.extract p (p + 2)).toList = [s[p]'(by omega), s[p + 1]] := by
  rw [Lib.extract_toList, drop_at (by omega), drop_at h, show p + 2 - p = 2 from by omega]; rfl
theorem ext1 {s : ByteArray} {p : Nat} (h : p < s.size) : (s.extract p (p + 1)).toList = [s[p]] := by
  rw [Lib.extract_toList, drop_at h, show p + 1 - p = 1 from by omega]; rfl
theorem byte_is {s : ByteArray} {p : Nat} (h : p < s.size) (m : UInt8) : s[p] = m ↔ bt s p = m.toNat := by
  rw [← get_bt s p h]
  constructor
  · intro e; rw [e]
  · intro e; apply UInt8.toNat_inj.1; omega
theorem two_is {s : ByteArray} {p : Nat} (h : p + 1 < s.size) (m n : UInt8) : (s.extract p (p + 2)).toList = [m, n] ↔ bt s p = m.toNat ∧ bt s (p + 1) = n.toNat := by
  rw [ext2 h, ← byte_is (by omega), ← byte_is h]; simp
theorem one_is {s : ByteArray} {p : Nat} (h : p < s.size) (m : UInt8) : (s.extract p (p + 1)).toList = [m] ↔ bt s p = m.toNat := by
  rw [ext1 h, ← byte_is h]; simp

def OpPost (s : ByteArray) (p : Nat) (w : World) (e : Ending) (w' : World) : Prop :=
  e = .returned (.tuple #[.string (Ms.opBytes (Ms.opAt s p)), .int .i64 ((p + (Ms.opBytes (Ms.opAt s p)).size : Nat) : Int)]) ∧ Below w.heap.size w w'
theorem opPost_of {s : ByteArray} {p k : Nat} {w w' : World} {e : Ending} (hk : Ms.opAt s p = k) (he : e = .returned (.tuple #[.string (Ms.opBytes k), .int .i64 ((p + (Ms.opBytes k).size : Nat) : Int)])) (hb : Below w.heap.size w w') : OpPost s p w e w' := by
  unfold OpPost; rw [hk]; exact ⟨he, hb⟩
theorem bytes_of {x : ByteArray} {l : List UInt8} (h : x.toList = l) : x = ⟨l.toArray⟩ := by
  rw [← h, Lib.toList_data, Lib.mk_data]

def ropsStr : ByteArray := ⟨#[43, 45, 42, 47, 37, 60, 62, 61, 38, 58]⟩
theorem rop_str {i : Nat} (h : i < 10) : ropsStr.extract i (i + 1) = chr (opC i) := by
  rcases ways10 h with rfl | rfl | rfl | rfl | rfl | rfl | rfl | rfl | rfl | rfl <;> rfl
theorem opIs_one {s : ByteArray} {p i : Nat} (hi : i < 10) : Ms.opIs s p (i + 3) = (bt s p == opC i) := by
  rcases ways10 hi with rfl | rfl | rfl | rfl | rfl | rfl | rfl | rfl | rfl | rfl <;> rfl
theorem opFrom_skip {s : ByteArray} {p : Nat} : ∀ i, i ≤ 10 → (∀ j, j < i → bt s p ≠ opC j) → Ms.opFrom s p 3 = Ms.opFrom s p (i + 3)
  | 0, _, _ => rfl
  | i + 1, hi, h => by
    rw [opFrom_skip i (by omega) (fun j hj => h j (by omega)), opFrom_no (by omega) (by rw [opIs_one (by omega)]; exact beq_eq_false_iff_ne.2 (h i (by omega)))]
theorem opAt_three {s : ByteArray} {p : Nat} (h0 : Ms.opIs s p 0 = false) (h1 : Ms.opIs s p 1 = false) (h2 : Ms.opIs s p 2 = false) : Ms.opAt s p = Ms.opFrom s p 3 := by
  unfold Ms.opAt
  rw [opFrom_no (by omega) h0, opFrom_no (by omega) h1, opFrom_no (by omega) h2]
theorem opAt_one {s : ByteArray} {p i : Nat} (h3 : Ms.opAt s p = Ms.opFrom s p 3) (hi : i < 10) (hn : ∀ j, j < i → bt s p ≠ opC j) (h : bt s p = opC i) : Ms.opAt s p = i + 3 := by
  rw [h3, opFrom_skip i (by omega) hn, opFrom_yes (by omega) (by rw [opIs_one hi]; exact beq_iff_eq.2 h)]
theorem opAt_no {s : ByteArray} {p : Nat} (h3 : Ms.opAt s p = Ms.opFrom s p 3) (hn : ∀ j, j < 10 → bt s p ≠ opC j) : Ms.opAt s p = 13 := by
  rw [h3, opFrom_skip 10 (by omega) hn, opFrom_13]
theorem opBytes_one {i : Nat} (hi : i < 10) : Ms.opBytes (i + 3) = chr (opC i) := by
  rcases ways10 hi with rfl | rfl | rfl | rfl | rfl | rfl | rfl | rfl | rfl | rfl <;> rfl
theorem opC_bd {i : Nat} (hi : i < 10) : 0 ≤ opC i ∧ opC i ≤ 255 := by
  rcases ways10 hi with rfl | rfl | rfl | rfl | rfl | rfl | rfl | rfl | rfl | rfl <;> simp [opC]
theorem chr_is {s : ByteArray} {p i : Nat} (h : p < s.size) (hi : i < 10) : (chr (opC i)).toList = (s.extract p (p + 1)).toList ↔ bt s p = opC i := by
  rw [ext1 h, ← get_bt s p h]
  have hb := opC_bd hi
  rw [show (chr (opC i)).toList = [UInt8.ofNat (opC i).toNat] from by rw [Lib.toList_data]; rfl]
  constructor
  · intro e
    have e1 := (List.cons.inj e).1
    rw [← e1, UInt8.toNat_ofNat', Nat.mod_eq_of_lt (by omega)]; omega
  · intro e
    congr 1
    apply UInt8.toNat_inj.1
    rw [UInt8.toNat_ofNat', Nat.mod_eq_of_lt (by omega)]; omega

set_option maxHeartbeats 2000000 in
theorem roperator_any (E : Ms.Env) (hs : E.s.size ≤ 4611686018427387904) (c : Int) (p : Nat) (w : World) :
    Calls Tryd.prog 67 #[RV E c, .int .i64 p] w (OpPost E.s p w) := by
  have hal : ∀ o, Below w.heap.size w (w.alloc o) := fun o => (Below.refl _ _).alloc (Nat.le_refl _) o
  have HAL := Lib.hid hal
  clear hal
  by_cases h0 : p < E.s.size
  case neg =>
    have h13 : Ms.opAt E.s p = 13 := op_none (.inl (bt_end E.s (by omega)))
    have H13 := Lib.hid h13
    clear h13
    go_enter Tryd.func67, Tryd.ntmps67
    go_wp2
    go_ret2
    exact opPost_of H13.out rfl (HAL.out _)
  case pos =>
    have two : p + 1 < E.s.size → ((E.s.extract p (p + 2)).toList = [60, 61] ↔ Ms.opIs E.s p 0 = true) ∧ ((E.s.extract p (p + 2)).toList = [62, 61] ↔ Ms.opIs E.s p 1 = true) ∧ ((E.s.extract p (p + 2)).toList = [61, 61] ↔ Ms.opIs E.s p 2 = true) := fun h => by
      refine ⟨(two_is h _ _).trans ?_, (two_is h _ _).trans ?_, (two_is h _ _).trans ?_⟩ <;> simp [Ms.opIs]
    by_cases hl : p + 1 < E.s.size ∧ (Ms.opIs E.s p 0 = true ∨ Ms.opIs E.s p 1 = true ∨ Ms.opIs E.s p 2 = true)
    · obtain ⟨h1, h2⟩ := hl
      obtain ⟨t0, t1, t2⟩ := two h1
      clear two
      cases i0 : Ms.opIs E.s p 0 with
      | true =>
        have e0 := t0.2 i0
        have hx := bytes_of e0
        have HK := Lib.hid (show Ms.opAt E.s p = 0 from opFrom_yes (by omega) i0)
        have HX := Lib.hid hx
        clear t0 t1 t2 h2 i0 hx
        go_enter Tryd.func67, Tryd.ntmps67
        go_wp2
        go_ret2
        exact opPost_of HK.out (by show Ending.returned (.tuple #[.string (E.s.extract p (p + 2)), _]) = _; rw [HX.out]; rfl) (HAL.out _)
      | false =>
        cases i1 : Ms.opIs E.s p 1 with
        | true =>
          have e0 := t1.2 i1
          have hx := bytes_of e0
          have HK := Lib.hid (show Ms.opAt E.s p = 1 from (opFrom_no (by omega) i0).trans (opFrom_yes (by omega) i1))
          have HX := Lib.hid hx
          clear t0 t1 t2 h2 i0 i1 hx
          go_enter Tryd.func67, Tryd.ntmps67
          go_wp2
          go_ret2
          exact opPost_of HK.out (by show Ending.returned (.tuple #[.string (E.s.extract p (p + 2)), _]) = _; rw [HX.out]; rfl) (HAL.out _)
        | false =>
          have i2 : Ms.opIs E.s p 2 = true := by rw [i0, i1] at h2; simpa using h2
          have e0 := t2.2 i2
          have hx := bytes_of e0
          have HK := Lib.hid (show Ms.opAt E.s p = 2 from (opFrom_no (by omega) i0).trans ((opFrom_no (by omega) i1).trans (opFrom_yes (by omega) i2)))
          have HX := Lib.hid hx
          clear t0 t1 t2 h2 i0 i1 i2 hx
          go_enter Tryd.func67, Tryd.ntmps67
          go_wp2
          go_ret2
          exact opPost_of HK.out (by show Ending.returned (.tuple #[.string (E.s.extract p (p + 2)), _]) = _; rw [HX.out]; rfl) (HAL.out _)
    · have hnot : Ms.opIs E.s p 0 = false ∧ Ms.opIs E.s p 1 = false ∧ Ms.opIs E.s p 2 = false := by
        by_cases h1 : p + 1 < E.s.size
        · have h2 : ¬ (Ms.opIs E.s p 0 = true ∨ Ms.opIs E.s p 1 = true ∨ Ms.opIs E.s p 2 = true) := fun h => hl ⟨h1, h⟩
          simpa using h2
        · simp [Ms.opIs, bt_end E.s (show E.s.size ≤ p + 1 from by omega)]
      have h3 := Lib.hid (opAt_three hnot.1 hnot.2.1 hnot.2.2)
      have hone := fun i hi => chr_is (s := E.s) (p := p) (i := i) h0 hi
      have HO := Lib.hid hone
      have hnt : p + 1 < E.s.size → ¬ (E.s.extract p (p + 2)).toList = [60, 61] ∧ ¬ (E.s.extract p (p + 2)).toList = [62, 61] ∧ ¬ (E.s.extract p (p + 2)).toList = [61, 61] := fun h => by
        obtain ⟨t0, t1, t2⟩ := two h
        refine ⟨fun e => ?_, fun e => ?_, fun e => ?_⟩
        · rw [t0.1 e] at hnot; exact absurd hnot.1 (by simp)
        · rw [t1.1 e] at hnot; exact absurd hnot.2.1 (by simp)
        · rw [t2.1 e] at hnot; exact absurd hnot.2.2 (by simp)
      clear hnot hl two hone
      by_cases h1 : p + 1 < E.s.size
      · obtain ⟨n0, n1, n2⟩ := hnt h1
        have b0 : ((E.s.extract p (p + 2)).toList == [60, 61]) = false := beq_eq_false_iff_ne.2 n0
        have b1 : ((E.s.extract p (p + 2)).toList == [62, 61]) = false := beq_eq_false_iff_ne.2 n1
        have b2 : ((E.s.extract p (p + 2)).toList == [61, 61]) = false := beq_eq_false_iff_ne.2 n2
        clear hnt n0 n1 n2
        go_enter Tryd.func67, Tryd.ntmps67
        go_wp2
        go_loop [8] (fun a => ∃ i : Nat, i ≤ 10 ∧ a = .int .i64 i ∧ Hid (∀ j, j < i → bt E.s p ≠ opC j)) (fun a => 10 - (intOf a).toNat)
        case atStart => exact ⟨0, by omega, rfl, fun j hj => absurd hj (Nat.not_lt_zero _)⟩
        case round =>
          obtain ⟨i, hi, rfl, hn⟩ := hrel
          by_cases hlt : i < 10
          · have hp := rop_str hlt
            unfold ropsStr at hp
            by_cases he : bt E.s p = opC i
            · have e0 := (HO.out i hlt).2 he
              have HK := Lib.hid (opAt_one h3.out hlt hn.out he)
              have hx : E.s.extract p (p + 1) = Ms.opBytes (i + 3) := by rw [opBytes_one hlt, bytes_of e0.symm, Lib.toList_data, Lib.mk_data]
              have hz : (Ms.opBytes (i + 3)).size = 1 := by rw [opBytes_one hlt, chr_size]
              have HX := Lib.hid hx
              have HZ := Lib.hid hz
              clear he hx hz
              go_wp2
              go_ret2
              exact opPost_of HK.out (by show Ending.returned (.tuple #[.string (E.s.extract p (p + 1)), _]) = _; rw [HX.out, HZ.out]; rfl) (HAL.out _)
            · have e0 := fun h => he ((HO.out i hlt).1 h)
              have hn2 : Hid (∀ j, j < i + 1 → bt E.s p ≠ opC j) := fun j hj => by
                by_cases e : j = i
                · rw [e]; exact he
                · exact hn.out j (by omega)
              have e1 : ((chr (opC i)).toList == (E.s.extract p (p + 1)).toList) = false := beq_eq_false_iff_ne.2 e0
              clear he e0
              go_wp2
              go_round
              case rel => exact ⟨i + 1, by omega, by go_num, hn2⟩
              case measure => simp [intOf]; omega
          · have h10 : 10 ≤ i := by omega
            have HK := Lib.hid (opAt_no h3.out (fun j hj => hn.out j (by omega)))
            go_wp2
            go_ret2
            exact opPost_of HK.out rfl (HAL.out _)
      · clear hnt
        go_enter Tryd.func67, Tryd.ntmps67
        go_wp2
        go_loop [8] (fun a => ∃ i : Nat, i ≤ 10 ∧ a = .int .i64 i ∧ Hid (∀ j, j < i → bt E.s p ≠ opC j)) (fun a => 10 - (intOf a).toNat)
        case atStart => exact ⟨0, by omega, rfl, fun j hj => absurd hj (Nat.not_lt_zero _)⟩
        case round =>
          obtain ⟨i, hi, rfl, hn⟩ := hrel
          by_cases hlt : i < 10
          · have hp := rop_str hlt
            unfold ropsStr at hp
            by_cases he : bt E.s p = opC i
            · have e0 := (HO.out i hlt).2 he
              have HK := Lib.hid (opAt_one h3.out hlt hn.out he)
              have hx : E.s.extract p (p + 1) = Ms.opBytes (i + 3) := by rw [opBytes_one hlt, bytes_of e0.symm, Lib.toList_data, Lib.mk_data]
              have hz : (Ms.opBytes (i + 3)).size = 1 := by rw [opBytes_one hlt, chr_size]
              have HX := Lib.hid hx
              have HZ := Lib.hid hz
              clear he hx hz
              go_wp2
              go_ret2
              exact opPost_of HK.out (by show Ending.returned (.tuple #[.string (E.s.extract p (p + 1)), _]) = _; rw [HX.out, HZ.out]; rfl) (HAL.out _)
            · have e0 := fun h => he ((HO.out i hlt).1 h)
              have hn2 : Hid (∀ j, j < i + 1 → bt E.s p ≠ opC j) := fun j hj => by
                by_cases e : j = i
                · rw [e]; exact he
                · exact hn.out j (by omega)
              have e1 : ((chr (opC i)).toList == (E.s.extract p (p + 1)).toList) = false := beq_eq_false_iff_ne.2 e0
              clear he e0
              go_wp2
              go_round
              case rel => exact ⟨i + 1, by omega, by go_num, hn2⟩
              case measure => simp [intOf]; omega
          · have h10 : 10 ≤ i := by omega
            have HK := Lib.hid (opAt_no h3.out (fun j hj => hn.out j (by omega)))
            go_wp2
            go_ret2
            exact opPost_of HK.out rfl (HAL.out _)
end Go.Proofs.YtkkcoajgpdpfkabDoor
