/- The document's Roman. -/
import Derived.Test.YtghpcfodjacdpaaDoorRwSum
import Derived.Deep.RegionHeld3
namespace Go.Proofs.YtghpcfodjacdpaaDoor
open Go.RowKit Go.PlainAid Go.Shelf

def loI (c : Int) : Int := if 65 ≤ c ∧ c ≤ 90 then c + 32 else c
def loS (S : ByteArray) : ByteArray := ⟨(Lib.toLowerA S.data.toList).toArray⟩
theorem loS_list (S : ByteArray) : (loS S).data.toList = Lib.toLowerA S.data.toList := by simp [loS]
theorem loS_size (S : ByteArray) : (loS S).size = S.size := by rw [Lib.size_eq, loS_list, Lib.size_eq]; simp [Lib.toLowerA]
theorem lo_byte (b : UInt8) : ((Lib.lowerB b).toNat : Int) = loI b.toNat := by
  have h : ∀ k : Fin 256, ((Lib.lowerB (UInt8.ofNat k.val)).toNat : Int) = loI (UInt8.ofNat k.val).toNat := by decide +kernel
  have := h ⟨b.toNat, UInt8.toNat_lt b⟩
  rw [UInt8.ofNat_toNat] at this
  exact this
/-- A row of bytes, the first k of them made small. -/
structure RowLo (S : ByteArray) (B k : Nat) (w : World) : Prop where
  cells : ∀ j, j < S.size → w.cell? ⟨B, j, none⟩ = some (.int .u8 (if j < k then loI (bt S j) else bt S j))
  free : ∀ j, j < S.size → w.frozen? ⟨B, j, none⟩ = false
theorem RowLo.same {S : ByteArray} {B k : Nat} {w : World} (h : RowLo S B k w) (hu : loI (bt S k) = bt S k) : RowLo S B (k + 1) w :=
  ⟨fun j hj => by
    rw [h.cells j hj]
    by_cases h1 : j < k
    · rw [if_pos h1, if_pos (by omega)]
    · by_cases h2 : j = k
      · subst h2; rw [if_neg h1, if_pos (by omega), hu]
      · rw [if_neg h1, if_neg (by omega)], h.free⟩
theorem RowLo.set {S : ByteArray} {B k : Nat} {w : World} (h : RowLo S B k w) (hk : k < S.size) : RowLo S B (k + 1) (w.setCell ⟨B, k, none⟩ (.int .u8 (loI (bt S k)))) :=
  ⟨fun j hj => by
    by_cases h2 : j = k
    · subst h2
      rw [World.cell?_setCell_same _ _ _ (h.cells j hj), if_pos (by omega)]
    · rw [World.cell?_setCell_other _ _ _ _ (by intro e; injection e with _ e2 _; exact h2 e2.symm), h.cells j hj]
      by_cases h1 : j < k
      · rw [if_pos h1, if_pos (by omega)]
      · rw [if_neg h1, if_neg (by omega)], fun j hj => by rw [World.frozen?_setCell]; exact h.free j hj⟩
theorem RowLo.start (S : ByteArray) (w : World) (cap : Nat) (T : TypeId) : RowLo S w.heap.size 0 (w.alloc (.cells (bytesRow S cap) T ((bytesRow S cap).size, (bytesRow S cap).size + 1))) :=
  ⟨fun j hj => by
    have hj' : j < S.data.size := hj
    rw [World.cell?_alloc_mark, bytesRow_at S cap j hj', if_neg (Nat.not_lt_zero _)]
    unfold bt
    rw [dif_pos hj]
    rfl, fun j hj => by
    have hsz : S.size ≤ (bytesRow S cap).size := by unfold bytesRow; rw [Array.size_append, Array.size_map]; exact Nat.le_add_right _ _
    rw [World.frozen?_alloc_mark]
    simp only [Bool.and_eq_false_iff, decide_eq_false_iff_not]
    left; omega⟩
theorem RowLo.back {S : ByteArray} {B : Nat} {w : World} (h : RowLo S B S.size w) (cap : Nat) : (convert 37 9 (.slice (some ⟨B, 0, none⟩) S.size cap)).run Tryd.prog w = .ok (.string (loS S)) w := by
  have hl : (Lib.toLowerA S.data.toList).length = S.size := by rw [Lib.size_eq]; simp [Lib.toLowerA]
  have := run_convert_bytes_back (P := Tryd.prog) w 37 9 5 ⟨B, 0, none⟩ cap (Lib.toLowerA S.data.toList) Tryd.underlying37 Tryd.underlying5 Tryd.underlying9 (fun j hj => by
    have hj' : j < S.size := by rw [← hl]; exact hj
    rw [show (⟨B, 0, none⟩ : Addr).add j = ⟨B, j, none⟩ from by simp [Addr.add]; omega, h.cells j hj', if_pos hj', bt_get hj', ← lo_byte]
    simp [Lib.toLowerA])
  rw [hl] at this
  exact this


/-- A row that holds the bytes of L. -/
structure RowIs (L : ByteArray) (B : Nat) (w : World) : Prop where
  cells : ∀ j, j < L.size → w.cell? ⟨B, j, none⟩ = some (.int .u8 (bt L j))
  lt : B < w.heap.size
theorem RowIs.below {L : ByteArray} {B : Nat} {w w' : World} (h : RowIs L B w) (hb : Below w.heap.size w w') : RowIs L B w' :=
  ⟨fun j hj => by rw [hb.cell (p := ⟨B, j, none⟩) h.lt]; exact h.cells j hj, Nat.lt_of_lt_of_le h.lt hb.size⟩
theorem bt_loS {S : ByteArray} {j : Nat} (h : j < S.size) : bt (loS S) j = loI (bt S j) := by
  have h2 : j < (loS S).size := by rw [loS_size]; exact h
  rw [bt_get h2, bt_get h, ← lo_byte]
  congr 2
  simp [loS, Lib.toLowerA]
theorem RowLo.row {S : ByteArray} {B : Nat} {w : World} (h : RowLo S B S.size w) (hl : B < w.heap.size) : RowIs (loS S) B w :=
  ⟨fun j hj => by
    rw [loS_size] at hj
    rw [h.cells j hj, if_pos hj, bt_loS hj], hl⟩
theorem RowIs.back {L : ByteArray} {B : Nat} {w : World} (h : RowIs L B w) {n : Nat} (hn : L.size = n) (cap : Nat) : (convert 37 9 (.slice (some ⟨B, 0, none⟩) n cap)).run Tryd.prog w = .ok (.string L) w := by
  have hl : L.data.toList.length = n := by rw [← Lib.size_eq]; exact hn
  have := run_convert_bytes_back (P := Tryd.prog) w 37 9 5 ⟨B, 0, none⟩ cap L.data.toList Tryd.underlying37 Tryd.underlying5 Tryd.underlying9 (fun j hj => by
    have hj' : j < L.size := by rw [Lib.size_eq]; exact hj
    rw [show (⟨B, 0, none⟩ : Addr).add j = ⟨B, j, none⟩ from by simp [Addr.add]; omega, h.cells j hj', bt_get hj'])
  rw [hl] at this
  exact this

/-- Where the adding up of digits stands. -/
structure SgnAt (L : ByteArray) (k : Nat) (acc : Int) : Prop where
  val : sgnL L.data.toList = acc + sgnL (L.data.toList.drop k)
  dig : ∀ j, j < k → digV (bt L j) ≠ 0
theorem sgnAt_zero (L : ByteArray) : SgnAt L 0 0 := ⟨by rw [List.drop_zero]; omega, fun j hj => absurd hj (Nat.not_lt_zero _)⟩
theorem drop_bt {L : ByteArray} {k : Nat} (h : k < L.size) : ∃ x : UInt8, L.data.toList.drop k = x :: L.data.toList.drop (k + 1) ∧ (x.toNat : Int) = bt L k := by
  have h' : k < L.data.toList.length := by rw [← Lib.size_eq]; exact h
  exact ⟨L.data.toList[k], List.drop_eq_getElem_cons h', (bt_get h).symm⟩
theorem sgnAt_next {L : ByteArray} {k : Nat} {acc : Int} (h : SgnAt L k acc) (hk : k < L.size) (hd : digV (bt L k) ≠ 0) :
    SgnAt L (k + 1) (acc + (if k + 1 < L.size ∧ digV (bt L k) < digV (bt L (k + 1)) then -digV (bt L k) else digV (bt L k))) := by
  obtain ⟨x, hx, hxb⟩ := drop_bt hk
  refine ⟨?_, fun j hj => ?_⟩
  · rw [h.val, hx]
    show acc + (sgn1 x (L.data.toList.drop (k + 1)) + _) = _
    have e : sgn1 x (L.data.toList.drop (k + 1)) = (if k + 1 < L.size ∧ digV (bt L k) < digV (bt L (k + 1)) then -digV (bt L k) else digV (bt L k)) := by
      by_cases h1 : k + 1 < L.size
      · obtain ⟨y, hy, hyb⟩ := drop_bt h1
        rw [hy]
        show (if digV y.toNat > digV x.toNat then -digV x.toNat else digV x.toNat) = _
        rw [hxb, hyb]
        by_cases h2 : digV (bt L k) < digV (bt L (k + 1))
        · rw [if_pos h2, if_pos ⟨h1, h2⟩]
        · rw [if_neg h2, if_neg (fun hh => h2 hh.2)]
      · rw [List.drop_eq_nil_of_le (by rw [← Lib.size_eq]; omega), if_neg (fun hh => h1 hh.1)]
        show digV x.toNat = _
        rw [hxb]
    rw [e]; omega
  · rcases Nat.lt_succ_iff_lt_or_eq.1 hj with h1 | h1
    · exact h.dig j h1
    · subst h1; exact hd
theorem sgnAt_end {L : ByteArray} {acc : Int} (h : SgnAt L L.size acc) : acc = sgnL L.data.toList := by
  have := h.val
  rw [List.drop_eq_nil_of_le (by rw [← Lib.size_eq]; exact Nat.le_refl _), show sgnL [] = 0 from rfl] at this
  omega
end Go.Proofs.YtghpcfodjacdpaaDoor
