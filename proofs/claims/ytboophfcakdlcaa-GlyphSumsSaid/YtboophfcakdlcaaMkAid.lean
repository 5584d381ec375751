/- Texts as lists of bytes. Over any program. -/
import Derived.PlainAid
import Derived.Lib.Strings
namespace Go.Proofs.Ytboophfcakdlcaa
open Go.RowKit Go.PlainAid

abbrev mk8 (l : List UInt8) : ByteArray := ⟨l.toArray⟩
theorem mk8_size (l : List UInt8) : (mk8 l).size = l.length := by rw [Lib.size_eq]
theorem mk8_of (s : ByteArray) : mk8 s.data.toList = s := by apply ByteArray.ext; simp
theorem mk8_list (l : List UInt8) : (mk8 l).toList = l := by rw [Lib.toList_data]
theorem mk8_app (a b : List UInt8) : mk8 a ++ mk8 b = mk8 (a ++ b) := ByteArray.mk_append_mk a b
theorem mk8_ext (l : List UInt8) (a b : Nat) : (mk8 l).extract a b = mk8 ((l.take b).drop a) := by
  apply ByteArray.ext
  rw [ByteArray.data_extract]
  show (l.toArray).extract a b = ((l.take b).drop a).toArray
  rw [List.extract_toArray]
  congr 1
  simp [List.extract, List.drop_take]
theorem bt_mk {l : List UInt8} {k : Nat} {c : UInt8} (h : l[k]? = some c) : bt (mk8 l) k = c.toNat := by
  obtain ⟨h1, h2⟩ := List.getElem?_eq_some_iff.1 h
  have hk : k < (mk8 l).size := by rw [mk8_size]; exact h1
  unfold bt
  rw [dif_pos hk]
  have : (mk8 l)[k]'hk = l[k] := rfl
  rw [this, h2]
theorem mk8_empty {l : List UInt8} (h : l = []) : (mk8 l).toList.isEmpty = true := by subst h; rw [Lib.toList_data]; rfl
theorem mk8_some {l : List UInt8} (h : l ≠ []) : (mk8 l).toList.isEmpty = false := by
  rw [Lib.toList_data, List.isEmpty_eq_false_iff]; exact h
theorem u8_beq (b k : UInt8) : (b == k) = (((b.toNat : Nat) : Int) == ((k.toNat : Nat) : Int)) := by
  rw [Bool.eq_iff_iff, beq_iff_eq, beq_iff_eq]
  exact ⟨fun h => by rw [h], fun h => UInt8.toNat_inj.1 (Int.ofNat_inj.1 h)⟩
theorem drop_cons {l : List UInt8} {k : Nat} (h : k < l.length) : ∃ c, l[k]? = some c ∧ l.drop k = c :: l.drop (k + 1) := ⟨l[k], List.getElem?_eq_getElem h, List.drop_eq_getElem_cons h⟩
end Go.Proofs.Ytboophfcakdlcaa
