/- The document's great: small letters as great ones. -/
import Derived.Test.YtopgbbkndkincaaGreatDoorRwDoc
import Derived.Test.YtopgbbkndkincaaGreatDoorRgRomPure
import Derived.Laws.IdiomStrings
namespace Go.Proofs.YtopgbbkndkincaaGreatDoor
open Go.RowKit Go.PlainAid Go.Shelf

def upI (c : Int) : Int := if 97 ≤ c ∧ c ≤ 122 then c - 32 else c
def upS (S : ByteArray) : ByteArray := ⟨(Lib.toUpperA S.data.toList).toArray⟩
theorem upS_list (S : ByteArray) : (upS S).data.toList = Lib.toUpperA S.data.toList := by simp [upS]
theorem upS_size (S : ByteArray) : (upS S).size = S.size := by rw [Lib.size_eq, upS_list, Lib.size_eq]; simp [Lib.toUpperA]
theorem up_byte (b : UInt8) : ((Lib.upperB b).toNat : Int) = upI b.toNat := by
  have h : ∀ k : Fin 256, ((Lib.upperB (UInt8.ofNat k.val)).toNat : Int) = upI (UInt8.ofNat k.val).toNat := by decide +kernel
  have := h ⟨b.toNat, UInt8.toNat_lt b⟩
  rw [UInt8.ofNat_toNat] at this
  exact this
/-- A row of bytes, the first k of them made great. -/
structure RowUp (S : ByteArray) (B k : Nat) (w : World) : Prop where
  cells : ∀ j, j < S.size → w.cell? ⟨B, j, none⟩ = some (.int .u8 (if j < k then upI (bt S j) else bt S j))
  free : ∀ j, j < S.size → w.frozen? ⟨B, j, none⟩ = false
theorem RowUp.same {S : ByteArray} {B k : Nat} {w : World} (h : RowUp S B k w) (hu : upI (bt S k) = bt S k) : RowUp S B (k + 1) w :=
  ⟨fun j hj => by
    rw [h.cells j hj]
    by_cases h1 : j < k
    · rw [if_pos h1, if_pos (by omega)]
    · by_cases h2 : j = k
      · subst h2; rw [if_neg h1, if_pos (by omega), hu]
      · rw [if_neg h1, if_neg (by omega)], h.free⟩
theorem RowUp.set {S : ByteArray} {B k : Nat} {w : World} (h : RowUp S B k w) (hk : k < S.size) : RowUp S B (k + 1) (w.setCell ⟨B, k, none⟩ (.int .u8 (upI (bt S k)))) :=
  ⟨fun j hj => by
    by_cases h2 : j = k
    · subst h2
      rw [World.cell?_setCell_same _ _ _ (h.cells j hj), if_pos (by omega)]
    · rw [World.cell?_setCell_other _ _ _ _ (by intro e; injection e with _ e2 _; exact h2 e2.symm), h.cells j hj]
      by_cases h1 : j < k
      · rw [if_pos h1, if_pos (by omega)]
      · rw [if_neg h1, if_neg (by omega)], fun j hj => by rw [World.frozen?_setCell]; exact h.free j hj⟩
theorem RowUp.start (S : ByteArray) (w : World) (cap : Nat) (T : TypeId) : RowUp S w.heap.size 0 (w.alloc (.cells (bytesRow S cap) T ((bytesRow S cap).size, (bytesRow S cap).size + 1))) :=
  ⟨fun j hj => by
    have hj' : j < S.data.size := hj
    rw [World.cell?_alloc_mark, bytesRow_at S cap j hj', if_neg (Nat.not_lt_zero _)]
    unfold bt
    rw [dif_pos hj]
    rfl, fun j hj => by
    have hsz : S.size ≤ (bytesRow S cap).size := by unfold bytesRow; rw [Array.size_append, Array.size_map]; exact Nat.le_add_right _ _
    rw [World.frozen?_alloc_mark]
    simp only [Bool.and_eq_false_iff, decide_eq_false_iff_not]
    left; omega⟩
theorem RowUp.back {S : ByteArray} {B : Nat} {w : World} (h : RowUp S B S.size w) (cap : Nat) : (convert 89 9 (.slice (some ⟨B, 0, none⟩) S.size cap)).run Tryz.prog w = .ok (.string (upS S)) w := by
  have hl : (Lib.toUpperA S.data.toList).length = S.size := by rw [Lib.size_eq]; simp [Lib.toUpperA]
  have := run_convert_bytes_back (P := Tryz.prog) w 89 9 5 ⟨B, 0, none⟩ cap (Lib.toUpperA S.data.toList) Tryz.underlying89 Tryz.underlying5 Tryz.underlying9 (fun j hj => by
    have hj' : j < S.size := by rw [← hl]; exact hj
    rw [show (⟨B, 0, none⟩ : Addr).add j = ⟨B, j, none⟩ from by simp [Addr.add]; omega, h.cells j hj', if_pos hj', bt_get hj', ← up_byte]
    simp [Lib.toUpperA])
  rw [hl] at this
  exact this

abbrev StrB (S : ByteArray) (w : World) (e : Ending) (w' : World) : Prop := e = .returned (.string S) ∧ Below w.heap.size w w'
set_option maxRecDepth 100000 in
set_option maxHeartbeats 1000000 in
theorem great_any (S : ByteArray) (hS : S.size ≤ 9223372036854775807) (w : World) : Calls Tryz.prog 81 #[.string S] w (StrB (upS S) w) := by
  have hcv := fun w => run_bytes_of_string (P := Tryz.prog) w 9 89 5 S Tryz.underlying9 Tryz.underlying89 Tryz.underlying5
  obtain ⟨cap, hcap⟩ : ∃ cap, grownCap w S.size 0 5 = cap := ⟨_, rfl⟩
  have hcv1 := hcv w
  rw [hcap] at hcv1
  have hst : RowUp S w.heap.size 0 (w.drew.alloc (.cells (bytesRow S cap) 5 ((bytesRow S cap).size, (bytesRow S cap).size + 1))) := RowUp.start S w.drew cap 5
  have hk0 : Below w.heap.size w (w.drew.alloc (.cells (bytesRow S cap) 5 ((bytesRow S cap).size, (bytesRow S cap).size + 1))) := Below.alloc (show Below w.heap.size w w.drew from ⟨rfl, rfl, rfl, Nat.le_refl _, fun _ _ => rfl⟩) (Nat.le_refl _) _
  clear hcv hcap
  go_enter Tryz.func81, Tryz.ntmps81
  go_wp2_with fail
  go_loopw [4] (fun i wr => ∃ k : Nat, k ≤ S.size ∧ i = .int .i64 k ∧ RowUp S w.heap.size k wr ∧ Below w.heap.size w wr) (fun i _ => S.size - (intOf i).toNat)
  case atStart => exact ⟨0, Nat.zero_le _, rfl, hst, hk0⟩
  case round =>
    obtain ⟨k, hk, rfl, hr, hb⟩ := hrel
    clear hcv1
    by_cases hlt : k < S.size
    · have hc := hr.cells k hlt
      rw [if_neg (Nat.lt_irrefl _)] at hc
      have hz := hr.free k hlt
      by_cases h1 : 97 ≤ bt S k ∧ bt S k ≤ 122
      · have hn := hr.set hlt
        rw [show upI (bt S k) = bt S k - 32 from if_pos h1] at hn
        obtain ⟨h1, h2⟩ := h1
        have e8 : IntKind.u8.wrap (bt S k - 32) = bt S k - 32 := by rw [IntKind.wrap_u8]; omega
        have HR := Lib.hid hn
        clear hr hn
        go_wp2_with fail
        go_roundw
        case rel => exact ⟨k + 1, by omega, by go_num, HR.out, hb.setCell (p := ⟨w.heap.size, k, none⟩) (Nat.le_refl _) _⟩
        case measure => simp only [intOf]; omega
      · have hn := hr.same (show upI (bt S k) = bt S k from if_neg h1)
        have HR := Lib.hid hn
        clear hr hn
        by_cases h2 : 97 ≤ bt S k
        case' pos => have h3 : 122 < bt S k := by omega
        all_goals
          clear h1
          go_wp2_with fail
          go_roundw
          case rel => exact ⟨k + 1, by omega, by go_num, HR.out, hb⟩
          case measure => simp only [intOf]; omega
    · obtain rfl : k = S.size := by omega
      have hbk := hr.back cap
      clear hr
      go_wp2_with fail
      go_ret
      exact ⟨rfl, hb⟩
end Go.Proofs.YtopgbbkndkincaaGreatDoor
