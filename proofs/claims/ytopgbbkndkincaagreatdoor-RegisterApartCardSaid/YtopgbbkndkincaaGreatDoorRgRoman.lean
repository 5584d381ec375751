/- roman and sum: numbers as roman texts, and back. -/
import Derived.Test.YtopgbbkndkincaaGreatDoorRgRomAid
namespace Go.Proofs.YtopgbbkndkincaaGreatDoor
open Go.RowKit Go.PlainAid Go.Shelf

def numArr : Array Value := #[.int .i64 1000, .string ⟨#[109]⟩, .int .i64 900, .string ⟨#[99, 109]⟩, .int .i64 500, .string ⟨#[100]⟩, .int .i64 400, .string ⟨#[99, 100]⟩, .int .i64 100, .string ⟨#[99]⟩, .int .i64 90, .string ⟨#[120, 99]⟩, .int .i64 50, .string ⟨#[108]⟩, .int .i64 40, .string ⟨#[120, 108]⟩, .int .i64 10, .string ⟨#[120]⟩, .int .i64 9, .string ⟨#[105, 120]⟩, .int .i64 5, .string ⟨#[118]⟩, .int .i64 4, .string ⟨#[105, 118]⟩, .int .i64 1, .string ⟨#[105]⟩]
/-- The variable 'numerals' holds them. -/
def NumsAt (w : World) : Prop := ∃ t fr, w.heap[0]? = some (.cells numArr t fr)
theorem NumsAt.below {b : Nat} {w w' : World} (h : NumsAt w) (hb : Below b w w') (h0 : 0 < b) : NumsAt w' := by
  obtain ⟨t, fr, h⟩ := h
  exact ⟨t, fr, by rw [hb.block _ h0]; exact h⟩

/-- A numeral of the table. -/
structure NumOf (k : Nat) (v : Nat) (T : ByteArray) : Prop where
  v1 : 1 ≤ v
  v2 : v ≤ 1000
  t1 : 0 < T.size
  t2 : T.size ≤ 2
  drop : romT.drop k = (v, T.data.toList) :: romT.drop (k + 1)
  index : ∀ w, (Instr.index 93 (.agg numArr) (.int .i64 k)).run Tryz.prog w = .ok (.agg #[.int .i64 v, .string T]) w

set_option maxRecDepth 100000 in
theorem num_of {k : Nat} (h : k < 13) : ∃ v T, NumOf k v T := by
  have hk : k = 0 ∨ k = 1 ∨ k = 2 ∨ k = 3 ∨ k = 4 ∨ k = 5 ∨ k = 6 ∨ k = 7 ∨ k = 8 ∨ k = 9 ∨ k = 10 ∨ k = 11 ∨ k = 12 := by omega
  rcases hk with rfl | rfl | rfl | rfl | rfl | rfl | rfl | rfl | rfl | rfl | rfl | rfl | rfl
  · exact ⟨1000, ⟨#[109]⟩, by decide, by decide, by decide, by decide, rfl, fun _ => rfl⟩
  · exact ⟨900, ⟨#[99, 109]⟩, by decide, by decide, by decide, by decide, rfl, fun _ => rfl⟩
  · exact ⟨500, ⟨#[100]⟩, by decide, by decide, by decide, by decide, rfl, fun _ => rfl⟩
  · exact ⟨400, ⟨#[99, 100]⟩, by decide, by decide, by decide, by decide, rfl, fun _ => rfl⟩
  · exact ⟨100, ⟨#[99]⟩, by decide, by decide, by decide, by decide, rfl, fun _ => rfl⟩
  · exact ⟨90, ⟨#[120, 99]⟩, by decide, by decide, by decide, by decide, rfl, fun _ => rfl⟩
  · exact ⟨50, ⟨#[108]⟩, by decide, by decide, by decide, by decide, rfl, fun _ => rfl⟩
  · exact ⟨40, ⟨#[120, 108]⟩, by decide, by decide, by decide, by decide, rfl, fun _ => rfl⟩
  · exact ⟨10, ⟨#[120]⟩, by decide, by decide, by decide, by decide, rfl, fun _ => rfl⟩
  · exact ⟨9, ⟨#[105, 120]⟩, by decide, by decide, by decide, by decide, rfl, fun _ => rfl⟩
  · exact ⟨5, ⟨#[118]⟩, by decide, by decide, by decide, by decide, rfl, fun _ => rfl⟩
  · exact ⟨4, ⟨#[105, 118]⟩, by decide, by decide, by decide, by decide, rfl, fun _ => rfl⟩
  · exact ⟨1, ⟨#[105]⟩, by decide, by decide, by decide, by decide, rfl, fun _ => rfl⟩

theorem len_next {a b c d e : Nat} (h1 : a + 2 * b ≤ 2 * c) (h2 : d + 2 * e ≤ 2 * b) : a + d + 2 * e ≤ 2 * c := by omega
theorem after_drew {B : Nat} {a W w2 : World} (h : Below B a W) (hle : B ≤ W.heap.size) (k : Below W.drew.heap.size W.drew w2) : Below B a w2 :=
  h.trans (Below.mono (show Below W.heap.size W w2 from ⟨k.os, k.tape, k.output, k.size, k.block⟩) hle)

set_option maxRecDepth 100000 in
set_option maxHeartbeats 1000000 in
theorem roman_any (N : Nat) (h0 : 0 < N) (h1 : N ≤ 39999) (w : World) (hn : NumsAt w) (hg : 0 < w.heap.size) :
    Calls Tryz.prog 54 #[.int .i64 N] w (StrP (romL romT N) w) := by
  have hne : ((N : Int) == 0) = false := by rw [beq_eq_false_iff_ne]; omega
  have hb1 : Below w.heap.size w (w.alloc (.cells #[.pointer none, .slice none 0 0] 91)) := (Below.refl _ _).alloc (Nat.le_refl _) _
  obtain ⟨t, fr, hgl⟩ := hn.below hb1 hg
  go_enter Tryz.func54, Tryz.ntmps54
  go_wp2_with (refine wpList_load_row rfl 93 _ rfl 0 rfl t _ fr _ hgl Tryz.underlying93 rfl (by kernel_rfl) ?_)
  go_loopw [0, 15] (fun i c wr => ∃ (k m : Nat) (L : List UInt8), k ≤ 13 ∧ c = .int .i64 k ∧ i = .int .i64 m ∧ Hid (romL romT N = L ++ romL (romT.drop k) m) ∧ L.length + 2 * m ≤ 2 * N ∧ IsB w.heap.size w.heap.size L wr ∧ Below w.heap.size w wr) (fun _ c _ => 13 - (intOf c).toNat)
  case atStart => exact ⟨0, N, [], by omega, rfl, rfl, rfl, by simp, isB_new w, hb1⟩
  case round =>
    obtain ⟨k, m, L, hk, rfl, rfl, he, hl, hI, hb⟩ := hrel
    by_cases hlt : k < 13
    · obtain ⟨v, T, O⟩ := num_of hlt
      have hi := O.index
      have v1 := O.v1
      have v2 := O.v2
      have hvz : ((v : Int) == 0) = false := by rw [beq_eq_false_iff_ne]; omega
      have hml : T.size * (m / v) ≤ 140737488355328 := by
        have a1 : m / v ≤ m := Nat.div_le_self _ _
        have a2 : T.size * (m / v) ≤ 2 * (m / v) := Nat.mul_le_mul_right _ O.t2
        omega
      have hrp := fun W => repeat_at T (m / v) (by have : m / v ≤ m := Nat.div_le_self _ _; omega) hml W
      obtain ⟨R, hR⟩ : ∃ R, Lib.repeatL T.data.toList (m / v) = R := ⟨_, rfl⟩
      have hRl : R.length = m / v * T.size := by rw [← hR, Lib.repeatL_length, Lib.size_eq]
      have hRm : R.length + 2 * (m % v) ≤ 2 * m := by
        have a1 := Nat.div_add_mod m v
        have a2 : m / v * T.size ≤ m / v * 2 := Nat.mul_le_mul_left _ O.t2
        have a3 : m / v ≤ v * (m / v) := Nat.le_mul_of_pos_left _ O.v1
        omega
      rw [hR] at hrp
      have hRs : (⟨R.toArray⟩ : ByteArray).size = R.length := by simp [ByteArray.size]
      have hbx := hb.alloc hb.size (.cells #[.int .i64 v, .string T] 92)
      have hIx : IsB w.heap.size w.heap.size L (wr.alloc (.cells #[.int .i64 v, .string T] 92)) := isB_below hI ((Below.refl _ _).alloc (Nat.le_refl _) _)
      have HW := Lib.hid (fun W hW hB => write_at w.heap.size w.heap.size L ⟨R.toArray⟩ W hW (by rw [hRs]; omega) hB)
      have HE : Hid (romL romT N = L ++ R ++ romL (romT.drop (k + 1)) (m % v)) := by
        rw [he.out, O.drop, List.append_assoc, ← hR]; rfl
      have hv0 : ¬ v = 0 := by omega
      obtain ⟨Q, hQ⟩ : ∃ Q, m / v = Q := ⟨_, rfl⟩
      have hqm : Q ≤ m := hQ ▸ Nat.div_le_self _ _
      have hq0 : (m : Int) / (v : Int) = (Q : Int) := by rw [← hQ]; push_cast; rfl
      have hq1 : wrap64 ((m : Int) / (v : Int)) = (Q : Int) := by rw [hq0]; exact IntWalk.wrap64_in _ (by omega)
      have hq2 : IntKind.i64.wrap ((m : Int) / (v : Int)) = (Q : Int) := by rw [i64_is]; exact hq1
      obtain ⟨M, hM⟩ : ∃ M, m % v = M := ⟨_, rfl⟩
      have hmm : M ≤ m := hM ▸ Nat.mod_le _ _
      have hm0 : (m : Int) % (v : Int) = (M : Int) := by rw [← hM]; push_cast; rfl
      have hm1 : wrap64 ((m : Int) % (v : Int)) = (M : Int) := by rw [hm0]; exact IntWalk.wrap64_in _ (by omega)
      have hm2 : IntKind.i64.wrap ((m : Int) % (v : Int)) = (M : Int) := by rw [i64_is]; exact hm1
      rw [hQ] at hrp
      rw [hM] at HE hRm
      have HR := Lib.hid hrp
      have hx : (L ++ R).length + 2 * M ≤ 2 * N := by rw [List.length_append]; exact len_next hl hRm
      have HX := Lib.hid hx
      have HM0 := Lib.hid hm0
      have HL := Lib.hid hRl
      have hbn : wr.heap.size ≠ w.heap.size := by have := isB_lt hI; omega
      clear hx he hrp hml hR hRl hRm hRs O hI hq0 hqm hQ hm0 hM
      go_wp2_with fail
      go_region_with (first | (go_at_call 71; refine (HR.out _).mono ?_; rintro e w2 ⟨rfl, hb2⟩; have hI2 := isB_below (by exact hIx) hb2; have hbw2 := after_drew hbx hbx.size hb2; have hc2 : w2.heap[wr.heap.size]? = _ := (hb2.block _ (by simp)).trans (heap_alloc_new wr _)) | (go_at_call 70; refine (HW.out _ (by exact hI2) (by exact hbw2.size)).mono ?_; rintro e w3 ⟨rfl, hI3, hb3, ho3⟩))
      all_goals
        have hc3 := box_kept ho3 hbn hc2
        have d0 : w3.cell? ⟨wr.heap.size, 0, none⟩ = some (.int .i64 v) := by simp [World.cell?, hc3]
        have hbw3 := hbw2.trans hb3
        go_wp2_with fail
        go_roundw
        case rel => exact ⟨k + 1, M, L ++ R, by omega, by go_num, by rw [HM0.out], HE.out, HX.out, hI3, hbw3⟩
        case measure => simp only [intOf]; omega
    · obtain rfl : k = 13 := by omega
      have hL : romL romT N = L := by rw [he.out, show romT.drop 13 = [] from rfl, show romL [] m = [] from rfl, List.append_nil]
      have HS := Lib.hid (string_at w.heap.size w.heap.size L wr hI hb.size)
      have HL := Lib.hid hL
      clear he hI hL
      go_wp2_with fail
      refine (HS.out).mono ?_
      rintro e w2 ⟨rfl, hb2⟩
      go_wp2_with fail
      go_ret
      exact ⟨by rw [HL.out]; rfl, hb.trans hb2⟩
end Go.Proofs.YtopgbbkndkincaaGreatDoor
