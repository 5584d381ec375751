/- What Protect writes, and that it is expanded to the text again: no Go. -/
import Derived.Test.YtopgbbkndkincaaDoorExSane
import Derived.Lib.Replace
import Derived.Lib.IndexBytes
namespace Go.Proofs.YtopgbbkndkincaaDoor
open Go.PlainAid

/-- Each 92 twice. -/
def dbl (l : List UInt8) : List UInt8 := l.flatMap fun b => if b = 92 then [92, 92] else [b]
theorem dbl_yes (l : List UInt8) : dbl (92 :: l) = 92 :: 92 :: dbl l := by simp [dbl]
theorem dbl_no {b : UInt8} (h : b ≠ 92) (l : List UInt8) : dbl (b :: l) = b :: dbl l := by simp [dbl, h]
theorem dbl_length : ∀ l : List UInt8, (dbl l).length ≤ 2 * l.length
  | [] => by simp [dbl]
  | b :: l => by
    have := dbl_length l
    by_cases h : b = 92
    · subst h; rw [dbl_yes]; simp; omega
    · rw [dbl_no h]; simp; omega
theorem dbl_mem {l : List UInt8} {b : UInt8} (h : b ∈ dbl l) : b ∈ l := by
  obtain ⟨c, h1, h2⟩ := List.mem_flatMap.1 h
  split at h2
  · rename_i hc
    subst hc
    simp at h2
    rw [h2]; exact h1
  · simp at h2
    rw [h2]; exact h1
theorem index_cons_ne {b : UInt8} {l : List UInt8} {i : Nat} (hb : b ≠ 92) (h : Lib.index l [92] = i) : Lib.index (b :: l) [92] = (i + 1 : Nat) := by
  rw [Lib.index_one] at h ⊢
  have hg := Lib.indexByte_ge l 92
  unfold Lib.indexByte
  have h1 : (b == 92) = false := by simpa using hb
  rw [h1]
  simp only [h]
  split <;> first | omega | (rename_i q; first | (simp at q; omega) | (simp; omega)) | simp_all
theorem index_cons_eq (l : List UInt8) : Lib.index (92 :: l) [92] = (0 : Nat) := by
  rw [Lib.index_one]
  unfold Lib.indexByte
  simp
theorem replace_dbl : ∀ l : List UInt8, Lib.replaceK [92] [92, 92] (l.count 92) l = dbl l
  | [] => rfl
  | b :: l => by
    have ih := replace_dbl l
    by_cases h : b = 92
    · subst h
      rw [List.count_cons_self, Lib.replaceK_hit _ _ _ _ 0 (index_cons_eq l), dbl_yes, ← ih]
      rfl
    · rw [List.count_cons_of_ne h, dbl_no h]
      rcases Nat.eq_zero_or_pos (l.count 92) with hz | hz
      · rw [hz] at ih ⊢
        rw [← ih]
        rfl
      · obtain ⟨i, hi⟩ := Lib.index_of_count (s := l) (old := [92]) (by rw [Lib.count_one]; exact hz)
        obtain ⟨k, hk⟩ : ∃ k, l.count 92 = k + 1 := ⟨l.count 92 - 1, by omega⟩
        rw [hk] at ih ⊢
        rw [Lib.replaceK_hit _ _ _ _ i hi] at ih
        rw [Lib.replaceK_hit _ _ _ _ (i + 1) (index_cons_ne h hi), ← ih]
        simp
theorem replaceAll_dbl (l : List UInt8) : Lib.replaceAll l [92] [92, 92] = dbl l := by
  unfold Lib.replaceAll Lib.replace Lib.replaceNum
  rw [if_neg (by decide), if_pos (.inl (by decide)), Lib.count_one]
  exact replace_dbl l

/-- A text of a list of bytes. -/
abbrev mkT (l : List UInt8) : ByteArray := ⟨l.toArray⟩
def protB (s : ByteArray) : ByteArray := mkT (dbl s.data.toList)
theorem mkT_size (l : List UInt8) : (mkT l).size = l.length := by rw [Lib.size_eq]
theorem mkT_of (s : ByteArray) : mkT s.data.toList = s := by apply ByteArray.ext; simp
theorem mkT_app (a b : List UInt8) : mkT a ++ mkT b = mkT (a ++ b) := ByteArray.mk_append_mk a b
theorem bt_mk {l : List UInt8} {k : Nat} {c : UInt8} (h : l[k]? = some c) : bt (mkT l) k = c.toNat := by
  obtain ⟨h1, h2⟩ := List.getElem?_eq_some_iff.1 h
  have hk : k < (mkT l).size := by rw [mkT_size]; exact h1
  unfold bt
  rw [dif_pos hk]
  have : (mkT l)[k]'hk = l[k] := rfl
  rw [this, h2]
theorem ext_mk (l : List UInt8) (a b : Nat) : (mkT l).extract a b = mkT ((l.take b).drop a) := by
  apply ByteArray.ext
  rw [ByteArray.data_extract]
  show (l.toArray).extract a b = ((l.take b).drop a).toArray
  rw [List.extract_toArray]
  congr 1
  simp [List.extract, List.drop_take]
theorem tail_mk (l : List UInt8) (k : Nat) : tail (mkT l) k = mkT (l.drop k) := by
  unfold tail
  rw [ext_mk, mkT_size, List.take_length]
theorem u8_ne {b : UInt8} (h : b ≠ 92) : ((b.toNat : Nat) : Int) ≠ 92 := fun e => h (by
  apply UInt8.toNat_inj.1
  exact Int.ofNat_inj.1 e)
theorem writM_one (b : UInt8) : writM true (mkT [b]) = mkT [b] := by
  unfold writM
  have h : ∀ x y : UInt8, ((mkT [b]).toList == [x, y]) = false := fun x y => by
    rw [Lib.toList_data]
    simp
  rw [h, h]
  rfl
theorem writM_two : writM true (mkT [92, 92]) = mkT [92] := by kernel_rfl
theorem ex_prot {r : ByteArray} {a : Nat} : ∀ (l : List UInt8) {acc : ByteArray} {o : Option (ByteArray × Nat)}, Ex r true acc (mkT (dbl l)) a o → o = some (acc ++ mkT l, a)
  | [], acc, o, h => by
    rw [h.empty rfl]
    congr 2
    apply ByteArray.ext
    rw [ByteArray.data_append]
    simp
  | b :: l, acc, o, h => by
    by_cases hb : b = 92
    · subst hb
      rw [dbl_yes] at h
      have hf : firstM (mkT (92 :: 92 :: dbl l)) true = twoPiece := by
        refine firstM_other (by rw [bt_mk (c := 92) rfl]; rfl) (by rw [mkT_size]; simp) ?_ ?_ ?_ <;> (rw [bt_mk (c := 92) rfl]; decide)
      have h1 := h.stays (by rw [mkT_size]; simp) hf rfl
      rw [show twoPiece.size = 2 from rfl, tail_mk, ext_mk] at h1
      simp only [List.drop_succ_cons, List.drop_zero, List.take_succ_cons, List.take_zero] at h1
      rw [writM_two] at h1
      rw [ex_prot l h1, ByteArray.append_assoc, mkT_app]
      rfl
    · rw [dbl_no hb] at h
      have hf : firstM (mkT (b :: dbl l)) true = onePiece := firstM_plain (by rw [bt_mk (c := b) rfl]; exact u8_ne hb)
      have h1 := h.stays (by rw [mkT_size]; simp) hf rfl
      rw [show onePiece.size = 1 from rfl, tail_mk, ext_mk] at h1
      simp only [List.drop_succ_cons, List.drop_zero, List.take_succ_cons, List.take_zero] at h1
      rw [writM_one] at h1
      rw [ex_prot l h1, ByteArray.append_assoc, mkT_app]
      rfl
theorem ex_protB {r s : ByteArray} {a : Nat} {o : Option (ByteArray × Nat)} (h : Ex r true ⟨#[]⟩ (protB s) a o) : o = some (s, a) := by
  rw [ex_prot s.data.toList h, mkT_of, show (⟨#[]⟩ : ByteArray) ++ s = s from by apply ByteArray.ext; rw [ByteArray.data_append]; simp]
/-- As often as is said. -/
def protN : Nat → ByteArray → ByteArray
  | 0, s => s
  | k + 1, s => protB (protN k s)
theorem protB_size (s : ByteArray) : (protB s).size ≤ 2 * s.size := by
  unfold protB
  rw [mkT_size, Lib.size_eq s]
  exact dbl_length _
theorem protB_line {s : ByteArray} (h : lineB s = true) (hs : s.size ≤ 1000) : lineB (protB s) = true := by
  have hz := protB_size s
  have hn : Lib.indexByte s.data.toList 10 < 0 := by
    simp only [lineB, Bool.and_eq_true, decide_eq_true_eq, Bool.not_eq_true', decide_eq_false_iff_not] at h
    omega
  have hn2 : ¬ 0 ≤ Lib.indexByte (protB s).data.toList 10 := by
    intro h0
    obtain ⟨o, ho⟩ : ∃ o : Nat, Lib.indexByte (protB s).data.toList 10 = o := ⟨_, (Int.toNat_of_nonneg h0).symm⟩
    have h1 := (Lib.indexByte_some ho).1
    have h2 : (10 : UInt8) ∈ dbl s.data.toList := List.mem_of_getElem? h1
    have h3 := dbl_mem h2
    obtain ⟨j, hj⟩ := List.getElem?_of_mem h3
    exact Lib.indexByte_none (by have := Lib.indexByte_ge s.data.toList 10; omega) j hj
  unfold lineB
  rw [decide_eq_true (by omega), decide_eq_false hn2]
  rfl
theorem protN_ok {s : ByteArray} (h : lineB s = true) (hs : s.size ≤ 120) : ∀ k, k ≤ 3 → lineB (protN k s) = true ∧ (protN k s).size ≤ 120 * 2 ^ k
  | 0, _ => ⟨h, by show s.size ≤ 120 * 2 ^ 0; omega⟩
  | k + 1, hk => by
    obtain ⟨h1, h2⟩ := protN_ok h hs k (by omega)
    have h3 := protB_size (protN k s)
    have h4 : 120 * 2 ^ k ≤ 480 := by
      rcases (show k = 0 ∨ k = 1 ∨ k = 2 by omega) with rfl | rfl | rfl <;> decide
    exact ⟨protB_line h1 (by omega), by show (protB (protN k s)).size ≤ _; rw [Nat.pow_succ]; omega⟩
end Go.Proofs.YtopgbbkndkincaaDoor
