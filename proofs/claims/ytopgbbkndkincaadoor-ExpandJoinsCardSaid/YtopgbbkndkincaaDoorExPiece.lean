/- What the beginning of a text is read as. -/
import Derived.Test.YtopgbbkndkincaaDoorExFirst
namespace Go.Proofs.YtopgbbkndkincaaDoor
open Go.RowKit Go.PlainAid Go.Shelf

theorem nbeq {a b : Int} (h : ¬ a = b) : (a == b) = false := by simpa using h
theorem ybeq {a b : Int} (h : a = b) : (a == b) = true := by simpa using h
def twoPiece : Piece := ⟨0, ⟨#[]⟩, 0, 2⟩
theorem firstM_plain {s : ByteArray} {cm : Bool} (h : ¬ bt s 0 = 92) : firstM s cm = onePiece := by unfold firstM; rw [if_neg h]
theorem firstM_last {s : ByteArray} {cm : Bool} (h : s.size = 1) : firstM s cm = onePiece := by unfold firstM; rw [if_pos h]; split <;> rfl
theorem firstM_rem {s : ByteArray} {cm : Bool} (h : bt s 0 = 92) (h1 : ¬ s.size = 1) (h2 : bt s 1 = 34) : firstM s cm = ⟨34, ⟨#[]⟩, 0, s.size⟩ := by unfold firstM; rw [if_pos h, if_neg h1, if_pos h2]
theorem firstM_named {s : ByteArray} {cm : Bool} (h : bt s 0 = 92) (h1 : ¬ s.size = 1) (h3 : bt s 1 = 110 ∨ bt s 1 = 42 ∨ bt s 1 = 36) : firstM s cm = namedM s := by unfold firstM; rw [if_pos h, if_neg h1, if_neg (by omega), if_pos h3]
theorem firstM_other {s : ByteArray} {cm : Bool} (h : bt s 0 = 92) (h1 : ¬ s.size = 1) (h2 : ¬ bt s 1 = 34) (h3 : ¬ (bt s 1 = 110 ∨ bt s 1 = 42 ∨ bt s 1 = 36)) (h4 : ¬ bt s 1 = 119) : firstM s cm = twoPiece := by
  unfold firstM; rw [if_pos h, if_neg h1, if_neg h2, if_neg h3, if_neg h4]; rfl
theorem firstM_copy {s : ByteArray} (h : bt s 0 = 92) (h1 : ¬ s.size = 1) (h4 : bt s 1 = 119) : firstM s true = twoPiece := by
  unfold firstM; rw [if_pos h, if_neg h1, if_neg (by omega), if_neg (by omega), if_pos h4]; rfl
theorem firstM_width {s : ByteArray} (h : bt s 0 = 92) (h1 : ¬ s.size = 1) (h4 : bt s 1 = 119) : firstM s false = measM s := by
  unfold firstM; rw [if_pos h, if_neg h1, if_neg (by omega), if_neg (by omega), if_pos h4]; rfl

theorem box_cells {W : World} {b : Nat} {x0 x1 x2 x3 : Value} (hx : W.heap[b]? = some (.cells #[x0, x1, x2, x3] 59 (0, 0))) :
    W.cell? ⟨b, 0, none⟩ = some x0 ∧ W.cell? ⟨b, 1, none⟩ = some x1 ∧ W.cell? ⟨b, 2, none⟩ = some x2 ∧ W.cell? ⟨b, 3, none⟩ = some x3 ∧ ∀ j, W.frozen? ⟨b, j, none⟩ = false := by
  refine ⟨?_, ?_, ?_, ?_, fun j => by simp [World.frozen?, hx]⟩ <;> (unfold World.cell?; rw [hx]; rfl)
theorem below_box {w w1 : World} {o : Obj} (h : Below (w.alloc o).heap.size (w.alloc o) w1) : Below w.heap.size w w1 := ((Below.refl _ _).alloc (Nat.le_refl _) _).trans (h.mono (by simp))
theorem four_set {w w1 : World} (h : Below w.heap.size w w1) (a b c d : Value) : Below w.heap.size w ((((w1.setCell ⟨w.heap.size, 0, none⟩ a).setCell ⟨w.heap.size, 1, none⟩ b).setCell ⟨w.heap.size, 2, none⟩ c).setCell ⟨w.heap.size, 3, none⟩ d) :=
  (((h.setCell (p := ⟨w.heap.size, 0, none⟩) (Nat.le_refl _) _).setCell (p := ⟨w.heap.size, 1, none⟩) (Nat.le_refl _) _).setCell (p := ⟨w.heap.size, 2, none⟩) (Nat.le_refl _) _).setCell (p := ⟨w.heap.size, 3, none⟩) (Nat.le_refl _) _

set_option maxRecDepth 100000 in
set_option maxHeartbeats 4000000 in
theorem first_any (s : ByteArray) (hs : s.size ≤ 9223372036854775807) (h0 : 0 < s.size) (cm : Bool) (w : World) : Calls Tryd.prog 32 #[.string s, .bool cm] w (Makes (pieceV (firstM s cm)) w) := by
  have hgb := get_bt s
  by_cases a1 : bt s 0 = 92
  · have b1 : (bt s 0 != 92) = false := by simpa using a1
    by_cases a2 : s.size = 1
    · rw [firstM_last a2]
      have b2 : ((s.size : Int) == 1) = true := ybeq (by omega)
      clear a1 a2
      go_enter Tryd.func32, Tryd.ntmps32
      go_wp2_with fail
      simp [bodyPost, results, Tryd.results32, go_sem]
      exact ⟨rfl, (Below.refl _ _).alloc (Nat.le_refl _) _⟩
    · have b2 : ((s.size : Int) == 1) = false := nbeq (by omega)
      have l1 : 1 < s.size := by omega
      by_cases a3 : bt s 1 = 34
      · rw [firstM_rem a1 a2 a3]
        have b3 := ybeq a3
        clear a1 a2 a3
        go_enter Tryd.func32, Tryd.ntmps32
        go_wp2_with fail
        simp [bodyPost, results, Tryd.results32, go_sem]
        exact ⟨rfl, (Below.refl _ _).alloc (Nat.le_refl _) _⟩
      · have b3 := nbeq a3
        by_cases a4 : bt s 1 = 110 ∨ bt s 1 = 42 ∨ bt s 1 = 36
        · rw [firstM_named a1 a2 a4]
          have HN := Lib.hid (fun W => named_any s hs (by omega) W)
          obtain ⟨p, hp⟩ : ∃ p, namedM s = p := ⟨_, rfl⟩
          rw [hp] at HN ⊢
          have hkinds : (bt s 1 == 110) = true ∨ ((bt s 1 == 110) = false ∧ (bt s 1 == 42) = true) ∨ ((bt s 1 == 110) = false ∧ (bt s 1 == 42) = false ∧ (bt s 1 == 36) = true) := by
            rcases a4 with h | h | h
            · exact .inl (ybeq h)
            · exact .inr (.inl ⟨nbeq (by omega), ybeq h⟩)
            · exact .inr (.inr ⟨nbeq (by omega), nbeq (by omega), ybeq h⟩)
          clear a1 a2 a3 a4 hp
          rcases hkinds with c1 | ⟨c1, c2⟩ | ⟨c1, c2, c3⟩
          all_goals
            go_enter Tryd.func32, Tryd.ntmps32
            go_wp2_with fail
            refine (HN.out _).mono ?_
            rintro e w1 ⟨rfl, hb⟩
            have hx : w1.heap[w.heap.size]? = some (.cells #[.int .u8 0, .string ⟨#[]⟩, .int .i64 0, .int .i64 0] 59 (0, 0)) := by rw [hb.block _ (by simp)]; exact heap_alloc_new _ _
            obtain ⟨k0, k1, k2, k3, f0⟩ := box_cells hx
            have hbb := below_box hb
            clear hx hb
            go_wp2_with fail
            simp [bodyPost, results, Tryd.results32, go_sem, k0, k1, k2, k3]
            exact ⟨rfl, four_set hbb _ _ _ _⟩
        · have c1 : (bt s 1 == 110) = false := nbeq (by omega)
          have c2 : (bt s 1 == 42) = false := nbeq (by omega)
          have c3 : (bt s 1 == 36) = false := nbeq (by omega)
          by_cases a5 : bt s 1 = 119
          · have c4 := ybeq a5
            cases cm with
            | true =>
              rw [firstM_copy a1 a2 a5]
              clear a1 a2 a3 a4 a5
              go_enter Tryd.func32, Tryd.ntmps32
              go_wp2_with fail
              simp [bodyPost, results, Tryd.results32, go_sem]
              exact ⟨rfl, (Below.refl _ _).alloc (Nat.le_refl _) _⟩
            | false =>
              rw [firstM_width a1 a2 a5]
              have HN := Lib.hid (fun W => meas_any s hs (by omega) W)
              obtain ⟨p, hp⟩ : ∃ p, measM s = p := ⟨_, rfl⟩
              rw [hp] at HN ⊢
              clear a1 a2 a3 a4 a5 hp
              go_enter Tryd.func32, Tryd.ntmps32
              go_wp2_with fail
              refine (HN.out _).mono ?_
              rintro e w1 ⟨rfl, hb⟩
              have hx : w1.heap[w.heap.size]? = some (.cells #[.int .u8 0, .string ⟨#[]⟩, .int .i64 0, .int .i64 0] 59 (0, 0)) := by rw [hb.block _ (by simp)]; exact heap_alloc_new _ _
              obtain ⟨k0, k1, k2, k3, f0⟩ := box_cells hx
              have hbb := below_box hb
              clear hx hb
              go_wp2_with fail
              simp [bodyPost, results, Tryd.results32, go_sem, k0, k1, k2, k3]
              exact ⟨rfl, four_set hbb _ _ _ _⟩
          · rw [firstM_other a1 a2 a3 a4 a5]
            have c4 := nbeq a5
            clear a1 a2 a3 a4 a5
            go_enter Tryd.func32, Tryd.ntmps32
            go_wp2_with fail
            simp [bodyPost, results, Tryd.results32, go_sem]
            exact ⟨rfl, (Below.refl _ _).alloc (Nat.le_refl _) _⟩
  · rw [firstM_plain a1]
    have b1 : (bt s 0 != 92) = true := by simpa using a1
    clear a1
    go_enter Tryd.func32, Tryd.ntmps32
    go_wp2_with fail
    simp [bodyPost, results, Tryd.results32, go_sem]
    exact ⟨rfl, (Below.refl _ _).alloc (Nat.le_refl _) _⟩
end Go.Proofs.YtopgbbkndkincaaDoor
