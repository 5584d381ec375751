/- Whether deeds are too many. -/
import Derived.Test.YtkocgedliakclaaDoorSoDo
import Derived.Deep.QuietTactic
import Derived.BigQuiet
namespace Go.Proofs.YtkocgedliakclaaDoor
open Go.RowKit Go.PlainAid Go.Maps Go.Shelf

def BigP (t : ByteArray) (w : World) (e : Ending) (w' : World) : Prop := ∃ q, e = .returned (.bool q) ∧ Below w.heap.size w w' ∧ (q = false → t.size < 8000)
set_option maxRecDepth 100000 in
set_option maxHeartbeats 8000000 in
theorem big_one (g : Nat) (k z : Int) (s t : ByteArray) (ao : Option Addr) (c : Nat) (l : List LineC) (aa : Option Addr) (ac an : Nat) (w : World)
    (h : w.heap[g]? = some (.cells #[.int .i64 k, .string s, .string t, .slice ao l.length c, .slice aa an ac, .int .i64 z] 25 (0, 0)))
    (hr : LinesRd (· < w.heap.size) (.slice ao l.length c) l w) (hf : Fit l) (hx : ∀ x ∈ l, x.text.size ≤ 140737488355328) (ht : t.size ≤ 140737488355328) (ha : an ≤ 140737488355328) :
    Calls Tryd.prog 7 #[.slice (some ⟨g, 0, none⟩) 1 1] w (BigP t w) := by
  have hg : g < w.heap.size := (Array.getElem?_eq_some_iff.1 h).1
  have HR := Lib.hid hr
  have c2 : w.cell? ⟨g, 2, none⟩ = some (.string t) := by simp [World.cell?, h]
  have c3 : w.cell? ⟨g, 3, none⟩ = some (.slice ao l.length c) := by simp [World.cell?, h]
  have c4 : w.cell? ⟨g, 4, none⟩ = some (.slice aa an ac) := by simp [World.cell?, h]
  have hl : l.length ≤ 140737488355328 := by have := hf.lines; omega
  have HX := Lib.hid (show ∀ j (h : j < l.length), l[j].text.size ≤ 140737488355328 ∧ l[j].boxes.length ≤ 140737488355328 from fun j h => ⟨hx _ (List.getElem_mem h), by have := hf.boxes _ (List.getElem_mem h); omega⟩)
  clear h hr hf hx
  go_enter Tryd.func7, Tryd.ntmps7
  go_wp2_with fail
  go_loopw [3, 4] (fun n i wr => (i = .int .i64 0 ∧ n = .int .i64 0 ∨ ∃ N : Nat, i = .int .i64 1 ∧ n = .int .i64 N ∧ t.size ≤ N) ∧ Hid (Below w.heap.size w wr)) (fun _ i _ => 1 - (intOf i).toNat)
  case atStart => exact ⟨.inl ⟨rfl, rfl⟩, Below.refl _ _⟩
  case round =>
    obtain ⟨⟨rfl, rfl⟩ | ⟨N, rfl, rfl, hN⟩, hb⟩ := hrel
    · have d2 := (hb.out.cell (p := ⟨g, 2, none⟩) hg).trans c2
      have d3 := (hb.out.cell (p := ⟨g, 3, none⟩) hg).trans c3
      have d4 := (hb.out.cell (p := ⟨g, 4, none⟩) hg).trans c4
      go_wp2_with fail
      go_quiet (fail)
      have hb1 := Lib.hid (below_drewN' hb.out nq)
      clear d2 d3 d4 hb
      go_wp2_with fail
      go_loopw [3, 5] (fun n i wr => ∃ (j N : Nat), i = .int .i64 j ∧ n = .int .i64 N ∧ j ≤ l.length ∧ t.size ≤ N ∧ N ≤ 1000000000000000000 ∧ Hid (Below w.heap.size w wr)) (fun _ i _ => l.length - (intOf i).toNat)
      case atStart => exact ⟨0, t.size + l.length + an, rfl, by go_num, by omega, by omega, by omega, hb1⟩
      case round =>
        obtain ⟨j, N, rfl, rfl, hj, hN, hN9, hb2⟩ := hrel
        clear hb1
        have d3 := (hb2.out.cell (p := ⟨g, 3, none⟩) hg).trans c3
        by_cases hlt : j < l.length
        · by_cases hz : N < 8000
          · obtain ⟨ao', cap, e, _, b, off, h1, h2⟩ := HR.out
            cases e
            obtain ⟨rfl, hbl⟩ := h1 (by omega)
            obtain ⟨bv, hat⟩ := h2 j hlt
            obtain ⟨hx1, hx2⟩ := HX.out j hlt
            obtain ⟨x, hx⟩ : ∃ x, l[j] = x := ⟨_, rfl⟩
            rw [hx] at hat hx1 hx2
            obtain ⟨y1, y2, rfl⟩ : ∃ y1 y2, bv = .slice y1 x.boxes.length y2 := by obtain ⟨_, _, rfl, _⟩ := hat.boxes; exact ⟨_, _, rfl⟩
            have l0 := (hb2.out.cell (p := ⟨b, _, none⟩) hbl).trans hat.c0
            have l4 := (hb2.out.cell (p := ⟨b, _, none⟩) hbl).trans hat.c4
            have htz : (j : Int) < l.length := by omega
            have htn : (0 : Int) ≤ j := by omega
            have hzz : (N : Int) < 8000 := by omega
            clear h1 h2 hat hx
            go_wp2_with fail
            go_quiet (fail)
            have hb3 := Lib.hid (below_drewN' hb2.out nq)
            clear d3 l0 l4 hb2
            go_wp2_with fail
            go_roundw
            case rel => exact ⟨j + 1, N + (x.text.size + x.boxes.length), by go_num, by go_num, by omega, by omega, by omega, hb3⟩
            case measure => simp only [intOf]; omega
          · have hzz : ¬ (N : Int) < 8000 := by omega
            go_wp2_with fail
            go_roundw
            case rel => exact ⟨.inr ⟨N, rfl, rfl, hN⟩, hb2⟩
            case measure => simp only [intOf]; omega
        · have htz : ¬ (j : Int) < l.length := by omega
          go_wp2_with fail
          go_roundw
          case rel => exact ⟨.inr ⟨N, rfl, rfl, hN⟩, hb2⟩
          case measure => simp only [intOf]; omega
    · by_cases h8 : 8000 ≤ N
      · have h8z : (8000 : Int) ≤ N := by omega
        go_wp2_with fail
        go_ret
        exact ⟨_, rfl, hb.out, fun h => by simp at h⟩
      · have h8z : ¬ (8000 : Int) ≤ N := by omega
        go_wp2_with fail
        go_ret
        exact ⟨_, rfl, hb.out, fun _ => by omega⟩
end Go.Proofs.YtkocgedliakclaaDoor
