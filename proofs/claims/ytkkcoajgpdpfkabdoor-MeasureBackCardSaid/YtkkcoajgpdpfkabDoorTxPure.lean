/- Numbers as texts: the mathematics, and the library's calls. -/
import Derived.Test.YtkkcoajgpdpfkabDoorDigits
import Derived.Test.YtkkcoajgpdpfkabDoorMsLay
import Derived.Test.YtkkcoajgpdpfkabDoorMsEval
import Derived.Test.YtkkcoajgpdpfkabDoorRfLeaf
import Derived.Lib.ItoaNum
import Derived.Lib.ItoaMem
import Derived.Lib.ItoaLen
import Derived.Lib.TrimByte
namespace Go.Proofs.YtkkcoajgpdpfkabDoor
open Go.RowKit Go.PlainAid Go.Shelf

theorem dec_big {u : Nat} (h : ¬ u < 10) : Lib.decDigits u = Lib.decDigits (u / 10) ++ [UInt8.ofNat (48 + u % 10)] := by rw [Lib.decDigits, dif_neg h]
theorem dec_one {u : Nat} (h : u < 10) : Lib.decDigits u = [UInt8.ofNat (48 + u)] := by rw [Lib.decDigits, dif_pos h]
theorem dec_size {u : Nat} (h : u < 9223372036854775808) : (Lib.decDigits u).length ≤ 20 := by
  rw [Lib.decDigits_length]
  exact Lib.nDigits_le20 u (by omega)
def decS (N : Nat) : ByteArray := ⟨(Lib.decDigits N).toArray⟩
theorem decS_list (N : Nat) : (decS N).data.toList = Lib.decDigits N := by simp [decS]
theorem decS_size {N : Nat} (h : N < 9223372036854775808) : (decS N).size ≤ 20 := by rw [Lib.size_eq, decS_list]; exact dec_size h
theorem ba_ext {a c : ByteArray} (h : a.data.toList = c.data.toList) : a = c := by
  obtain ⟨a⟩ := a; obtain ⟨c⟩ := c
  have h : a.toList = c.toList := h
  rw [Array.toList_inj.1 h]

/-- The four digits behind a 1. -/
theorem dec_five {R : Nat} (h : R < 10000) : Lib.decDigits (10000 + R) = [49, UInt8.ofNat (48 + R / 1000), UInt8.ofNat (48 + R / 100 % 10), UInt8.ofNat (48 + R / 10 % 10), UInt8.ofNat (48 + R % 10)] := by
  rw [dec_big (by omega), dec_big (by omega), dec_big (by omega), dec_big (by omega), dec_one (by omega)]
  have e0 : (10000 + R) / 10 / 10 / 10 / 10 = 1 := by omega
  have e1 : (10000 + R) / 10 / 10 / 10 % 10 = R / 1000 := by omega
  have e2 : (10000 + R) / 10 / 10 % 10 = R / 100 % 10 := by omega
  have e3 : (10000 + R) / 10 % 10 = R / 10 % 10 := by omega
  have e4 : (10000 + R) % 10 = R % 10 := by omega
  rw [e0, e1, e2, e3, e4]
  rfl
/-- The four digits. -/
def four (R : Nat) : ByteArray := (decS (10000 + R)).extract 1 (decS (10000 + R)).size
theorem four_list {R : Nat} (h : R < 10000) : (four R).data.toList = [UInt8.ofNat (48 + R / 1000), UInt8.ofNat (48 + R / 100 % 10), UInt8.ofNat (48 + R / 10 % 10), UInt8.ofNat (48 + R % 10)] := by
  unfold four
  simp only [ByteArray.data_extract, Array.toList_extract, List.extract_eq_take_drop]
  rw [decS_list, Lib.size_eq, decS_list, dec_five h]
  rfl
theorem decS_five {R : Nat} (h : R < 10000) : (decS (10000 + R)).size = 5 := by rw [Lib.size_eq, decS_list, dec_five h]; rfl
theorem four_size {R : Nat} (h : R < 10000) : (four R).size = 4 := by rw [Lib.size_eq, four_list h]; rfl
/-- What stands behind the point. -/
def trimS (D : ByteArray) : ByteArray := ⟨(Lib.trimRightB D.data.toList 48).toArray⟩
theorem trimS_list (D : ByteArray) : (trimS D).data.toList = Lib.trimRightB D.data.toList 48 := by simp [trimS]
theorem ofNat_zero {d : Nat} (h : d < 10) : (UInt8.ofNat (48 + d) == 48) = decide (d = 0) := by
  by_cases hd : d = 0
  · subst hd; rfl
  · rw [decide_eq_false hd, beq_eq_false_iff_ne]
    intro he
    have := congrArg UInt8.toNat he
    rw [UInt8.toNat_ofNat', Nat.mod_eq_of_lt (by omega)] at this
    exact hd (by have h2 : (48 : UInt8).toNat = 48 := rfl; omega)
theorem drop_nil {p : UInt8 → Bool} : ∀ {l : List UInt8}, l.dropWhile p = [] ↔ ∀ x ∈ l, p x = true
  | [] => by simp
  | a :: r => by
    cases h : p a with
    | true => rw [List.dropWhile_cons, if_pos h, drop_nil]; simp [h]
    | false => rw [List.dropWhile_cons, if_neg (by rw [h]; simp)]; simp [h]
theorem trim_zero {R : Nat} (h : R < 10000) : Lib.trimRightB (four R).data.toList 48 = [] ↔ R = 0 := by
  unfold Lib.trimRightB
  rw [List.reverse_eq_nil_iff, drop_nil, four_list h]
  simp only [List.mem_reverse, List.mem_cons, List.mem_nil_iff, or_false]
  constructor
  · intro hx
    have h1 := hx _ (.inl rfl)
    have h2 := hx _ (.inr (.inl rfl))
    have h3 := hx _ (.inr (.inr (.inl rfl)))
    have h4 := hx _ (.inr (.inr (.inr rfl)))
    rw [ofNat_zero (by omega)] at h1 h2 h3 h4
    simp only [decide_eq_true_eq] at h1 h2 h3 h4
    omega
  · rintro rfl x hx
    rcases hx with rfl | rfl | rfl | rfl <;> rfl

/-- A number in a scale, as a text. -/
def fracS (R : Nat) : ByteArray := if R = 0 then ⟨#[]⟩ else ⟨#[46]⟩ ++ trimS (four R)
def textS (n u : Nat) (c : Int) : ByteArray := decS (n / u) ++ fracS (n % u * 10000 / u) ++ chr c
theorem append_nil (D : ByteArray) : D ++ (⟨#[]⟩ : ByteArray) = D := by refine ba_ext ?_; simp

/-! The powers of ten that the library reads. -/
theorem pow_named : Tryd.prog.globalNamed "internal/strconv.uint64pow10" = some 2 := by kernel_rfl
abbrev PowTab (w : World) : Prop := Lib.TabIs Tryd.prog w "internal/strconv.uint64pow10" .u64 Lib.pow10Tab
/-- The table is there. -/
def PowAt (w : World) : Prop := PowTab w ∧ 2 < w.heap.size
theorem PowAt.below {w w' : World} (h : PowAt w) (hb : Below w.heap.size w w') : PowAt w' := by
  obtain ⟨h, hg⟩ := h
  refine ⟨?_, Nat.lt_of_lt_of_le hg hb.size⟩
  unfold PowTab Lib.TabIs World.var? at *
  rw [pow_named] at *
  simp only [Option.bind_some] at *
  rw [hb.block _ hg]
  exact h
abbrev StrIs (S : ByteArray) (w : World) (e : Ending) (w' : World) : Prop := e = .returned (.string S) ∧ Kept w w'
theorem itoa_at (n : Nat) (hn : n < 9223372036854775808) (w : World) (h : PowAt w) : Calls Tryd.prog 28 #[.int .i64 n] w (StrIs (decS n) w) := by
  refine (Any.strconv_Itoa Tryd.itoaL n (by omega) (by omega) w h.1).mono fun e w' ⟨he, k, os, hw⟩ => ?_
  rw [Lib.itoa_nonneg] at he
  refine ⟨he, ?_⟩
  subst hw
  refine ⟨rfl, rfl, rfl, ?_, fun j hj => ?_⟩
  · show w.heap.size ≤ (w.heap ++ os).size
    rw [Array.size_append]; omega
  · show (w.heap ++ os)[j]? = _
    exact Array.getElem?_append_left hj
theorem trim_at (s : ByteArray) (hs : s.size ≤ 1000) (w : World) : Calls Tryd.prog 29 #[.string s, .string ⟨#[48]⟩] w fun e w' => e = .returned (.string (trimS s)) ∧ w' = w :=
  Any.strings_TrimRight_one Tryd.trimrL s 48 (by decide) w (by omega)
theorem index_at (s : ByteArray) (c : Int) (w : World) : Calls Tryd.prog 27 #[.string s, .int .u8 c] w fun e w' => e = .returned (.int .i64 (Lib.indexByte s.data.toList c.toNat.toUInt8)) ∧ w' = w :=
  Any.strings_IndexByte Tryd.ibyteL s c w
end Go.Proofs.YtkkcoajgpdpfkabDoor
