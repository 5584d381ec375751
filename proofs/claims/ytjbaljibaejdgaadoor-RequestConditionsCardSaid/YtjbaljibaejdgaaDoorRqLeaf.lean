/- The leaves of package request: bytes and extents. -/
import Derived.Test.YtjbaljibaejdgaaDoorRqAny
import Derived.Shelf.Strings.Search3
namespace Go.Proofs.YtjbaljibaejdgaaDoor
open Go.RowKit Go.PlainAid Go.Shelf

abbrev mk8 (l : List UInt8) : ByteArray := ⟨l.toArray⟩
theorem mk8_size (l : List UInt8) : (mk8 l).size = l.length := by rw [Lib.size_eq]
theorem mk8_of (s : ByteArray) : mk8 s.data.toList = s := by apply ByteArray.ext; simp
theorem mk8_app (a b : List UInt8) : mk8 a ++ mk8 b = mk8 (a ++ b) := ByteArray.mk_append_mk a b
theorem mk8_ext (l : List UInt8) (a b : Nat) : (mk8 l).extract a b = mk8 ((l.take b).drop a) := by
  apply ByteArray.ext
  rw [ByteArray.data_extract]
  show (l.toArray).extract a b = ((l.take b).drop a).toArray
  rw [List.extract_toArray]
  congr 1
  simp [List.extract, List.drop_take]
theorem mk8_front (l : List UInt8) (n : Nat) : (mk8 l).extract 0 n = mk8 (l.take n) := by rw [mk8_ext, List.drop_zero]
theorem mk8_tail (l : List UInt8) (n : Nat) : (mk8 l).extract n (mk8 l).size = mk8 (l.drop n) := by rw [mk8_ext, mk8_size, List.take_length]
theorem bt_mk {l : List UInt8} {k : Nat} {c : UInt8} (h : l[k]? = some c) : bt (mk8 l) k = c.toNat := by
  obtain ⟨h1, h2⟩ := List.getElem?_eq_some_iff.1 h
  have hk : k < (mk8 l).size := by rw [mk8_size]; exact h1
  unfold bt
  rw [dif_pos hk]
  have : (mk8 l)[k]'hk = l[k] := rfl
  rw [this, h2]
theorem mk8_empty {l : List UInt8} (h : l = []) : (mk8 l).toList.isEmpty = true := by subst h; rw [Lib.toList_data]; rfl
theorem mk8_some {l : List UInt8} (h : l ≠ []) : (mk8 l).toList.isEmpty = false := by
  rw [Lib.toList_data, List.isEmpty_eq_false_iff]; exact h

def letB (c : Int) : Bool := (decide (97 ≤ c) && decide (c ≤ 122)) || (decide (65 ≤ c) && decide (c ≤ 90))
def digB (c : Int) : Bool := decide (48 ≤ c) && decide (c ≤ 57)
def blkI (c : Int) : Bool := (c == 32) || (c == 9)
def ctlB (c : Int) : Bool := !letB c && !digB c && !blkI c && !(c == 92)
theorem u8_beq (b k : UInt8) : (b == k) = (((b.toNat : Nat) : Int) == ((k.toNat : Nat) : Int)) := by
  rw [Bool.eq_iff_iff, beq_iff_eq, beq_iff_eq]
  exact ⟨fun h => by rw [h], fun h => UInt8.toNat_inj.1 (Int.ofNat_inj.1 h)⟩
theorem blkI_u8 (b : UInt8) : blkI (b.toNat : Int) = blk b := by
  unfold blkI blk
  rw [u8_beq b 32, u8_beq b 9]
  rfl

set_option maxHeartbeats 2000000 in
theorem letter_any (c : Int) (w : World) : Calls Tryd.prog 32 #[.int .u8 c] w (Says (.bool (letB c)) w) := by
  unfold letB
  cases d1 : decide (97 ≤ c) <;> cases d2 : decide (c ≤ 122) <;> cases d3 : decide (65 ≤ c) <;> cases d4 : decide (c ≤ 90) <;>
    (go_enter Tryd.func32, Tryd.ntmps32; go_wp2_with fail; go_ret; exact ⟨rfl, rfl⟩)
theorem digit_any (c : Int) (w : World) : Calls Tryd.prog 33 #[.int .u8 c] w (Says (.bool (digB c)) w) := by
  unfold digB
  cases d1 : decide (48 ≤ c) <;> cases d2 : decide (c ≤ 57) <;>
    (go_enter Tryd.func33, Tryd.ntmps33; go_wp2_with fail; go_ret; exact ⟨rfl, rfl⟩)
theorem blank_any (c : Int) (w : World) : Calls Tryd.prog 34 #[.int .u8 c] w (Says (.bool (blkI c)) w) := by
  unfold blkI
  cases d1 : (c == 32) <;> cases d2 : (c == 9) <;>
    (go_enter Tryd.func34, Tryd.ntmps34; go_wp2_with fail; go_ret; exact ⟨rfl, rfl⟩)

set_option maxHeartbeats 2000000 in
theorem control_any (c : Int) (w : World) : Calls Tryd.prog 17 #[.int .u8 c] w (Says (.bool (ctlB c)) w) := by
  have H1 := Lib.hid (letter_any c w)
  have H2 := Lib.hid (digit_any c w)
  have H3 := Lib.hid (blank_any c w)
  unfold ctlB
  have d4 : (c != 92) = !(c == 92) := rfl
  obtain ⟨x, hx⟩ : ∃ x, letB c = x := ⟨_, rfl⟩
  obtain ⟨y, hy⟩ : ∃ y, digB c = y := ⟨_, rfl⟩
  obtain ⟨z, hz⟩ : ∃ z, blkI c = z := ⟨_, rfl⟩
  obtain ⟨u, hu⟩ : ∃ u, (c == 92) = u := ⟨_, rfl⟩
  rw [hx] at H1 ⊢; rw [hy] at H2 ⊢; rw [hz] at H3 ⊢; rw [hu] at d4 ⊢
  clear hx hy hz hu
  cases x with
  | true =>
    go_enter Tryd.func17, Tryd.ntmps17
    go_wp2_with fail
    refine H1.out.mono ?_
    rintro e w1 ⟨rfl, rfl⟩
    go_wp2_with fail
    go_ret
    exact ⟨rfl, rfl⟩
  | false =>
    cases y with
    | true =>
      go_enter Tryd.func17, Tryd.ntmps17
      go_wp2_with fail
      refine H1.out.mono ?_
      rintro e w1 ⟨rfl, rfl⟩
      go_wp2_with fail
      refine H2.out.mono ?_
      rintro e w1 ⟨rfl, rfl⟩
      go_wp2_with fail
      go_ret
      exact ⟨rfl, rfl⟩
    | false =>
      cases z with
      | true =>
        go_enter Tryd.func17, Tryd.ntmps17
        go_wp2_with fail
        refine H1.out.mono ?_
        rintro e w1 ⟨rfl, rfl⟩
        go_wp2_with fail
        refine H2.out.mono ?_
        rintro e w1 ⟨rfl, rfl⟩
        go_wp2_with fail
        refine H3.out.mono ?_
        rintro e w1 ⟨rfl, rfl⟩
        go_wp2_with fail
        go_ret
        exact ⟨rfl, rfl⟩
      | false =>
        go_enter Tryd.func17, Tryd.ntmps17
        go_wp2_with fail
        refine H1.out.mono ?_
        rintro e w1 ⟨rfl, rfl⟩
        go_wp2_with fail
        refine H2.out.mono ?_
        rintro e w1 ⟨rfl, rfl⟩
        go_wp2_with fail
        refine H3.out.mono ?_
        rintro e w1 ⟨rfl, rfl⟩
        go_wp2_with fail
        go_ret
        exact ⟨rfl, rfl⟩

/-- A line of input. -/
def lineL (l : List UInt8) : Bool := decide (l.length ≤ 2000) && !decide (0 ≤ Lib.indexByte l 10)
theorem contains_lf (l : List UInt8) (w : World) : Calls Tryd.prog 27 #[.string (mk8 l), .string ⟨#[10]⟩] w (Says (.bool (decide (0 ≤ Lib.indexByte l 10))) w) := by
  refine (Any.strings_Contains_one Tryd.containsL (mk8 l) 10 w).mono fun e w' ⟨h1, h2⟩ => ⟨h1, h2.symm⟩
theorem isLine_any (l : List UInt8) (w : World) : Calls Tryd.prog 11 #[.string (mk8 l)] w (Says (.bool (lineL l)) w) := by
  have hz : ((mk8 l).size : Int) = l.length := by rw [mk8_size]
  unfold lineL
  by_cases h : l.length ≤ 2000
  · have HC := Lib.hid (contains_lf l w)
    have d : decide ((l.length : Int) ≤ 2000) = true := decide_eq_true (by omega)
    rw [decide_eq_true h]
    obtain ⟨x, hx⟩ : ∃ x, decide (0 ≤ Lib.indexByte l 10) = x := ⟨_, rfl⟩
    rw [hx] at HC ⊢
    clear hx
    go_enter Tryd.func11, Tryd.ntmps11
    go_wp2_with fail
    refine HC.out.mono ?_
    rintro e w1 ⟨rfl, rfl⟩
    go_wp2_with fail
    go_ret
    exact ⟨by rw [Bool.true_and]; rfl, rfl⟩
  · have d : decide ((l.length : Int) ≤ 2000) = false := decide_eq_false (by omega)
    rw [decide_eq_false h]
    go_enter Tryd.func11, Tryd.ntmps11
    go_wp2_with fail
    go_ret
    exact ⟨rfl, rfl⟩
end Go.Proofs.YtjbaljibaejdgaaDoor
