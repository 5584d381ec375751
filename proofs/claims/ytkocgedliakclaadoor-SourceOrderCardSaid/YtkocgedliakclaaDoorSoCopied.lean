/- The program's copies of lines, in package source. -/
import Derived.Test.YtkocgedliakclaaDoorSoAre
namespace Go.Proofs.YtkocgedliakclaaDoor
open Go.RowKit Go.PlainAid Go.Maps Go.Shelf

/-- Five cells are stored, four of them as they were. -/
theorem five_cells {w : World} {g o : Nat} {cur : Array Value} {t : TypeId} {c0 c1 c2 c3 c4 : Value} (h : w.heap[g]? = some (.cells cur t (0, 0))) (ho : o + 4 < cur.size)
    (e0 : w.cell? ⟨g, o, none⟩ = some c0) (e1 : w.cell? ⟨g, o + 1, none⟩ = some c1) (e2 : w.cell? ⟨g, o + 2, none⟩ = some c2) (e3 : w.cell? ⟨g, o + 3, none⟩ = some c3) :
    (∃ cur', (((((w.setCell ⟨g, o, none⟩ c0).setCell ⟨g, o + 1, none⟩ c1).setCell ⟨g, o + 2, none⟩ c2).setCell ⟨g, o + 3, none⟩ c3).setCell ⟨g, o + 4, none⟩ c4).heap[g]? = some (.cells cur' t (0, 0)) ∧ cur'.size = cur.size) ∧
    (∀ k, k ≠ o + 4 → (((((w.setCell ⟨g, o, none⟩ c0).setCell ⟨g, o + 1, none⟩ c1).setCell ⟨g, o + 2, none⟩ c2).setCell ⟨g, o + 3, none⟩ c3).setCell ⟨g, o + 4, none⟩ c4).cell? ⟨g, k, none⟩ = w.cell? ⟨g, k, none⟩) ∧
    (((((w.setCell ⟨g, o, none⟩ c0).setCell ⟨g, o + 1, none⟩ c1).setCell ⟨g, o + 2, none⟩ c2).setCell ⟨g, o + 3, none⟩ c3).setCell ⟨g, o + 4, none⟩ c4).cell? ⟨g, o + 4, none⟩ = some c4 ∧
    w.grownBy (((((w.setCell ⟨g, o, none⟩ c0).setCell ⟨g, o + 1, none⟩ c1).setCell ⟨g, o + 2, none⟩ c2).setCell ⟨g, o + 3, none⟩ c3).setCell ⟨g, o + 4, none⟩ c4) (some g) := by
  have h0 := heap_set_at h o c0
  have h1 := heap_set_at h0 (o + 1) c1
  have h2 := heap_set_at h1 (o + 2) c2
  have h3 := heap_set_at h2 (o + 3) c3
  have h4 := heap_set_at h3 (o + 4) c4
  refine ⟨⟨_, h4, by simp⟩, fun k hk => ?_, cell_set_same h3 (by simpa using ho), grown_trans (grown_trans (grown_trans (grown_trans (grown_set _ _ _ _) (grown_set _ _ _ _)) (grown_set _ _ _ _)) (grown_set _ _ _ _)) (grown_set _ _ _ _)⟩
  rw [cell_set_other (.inr (fun e => hk e.symm))]
  by_cases k3 : k = o + 3
  · subst k3; rw [cell_set_same h2 (by simp; omega), e3]
  rw [cell_set_other (.inr (fun e => k3 e.symm))]
  by_cases k2 : k = o + 2
  · subst k2; rw [cell_set_same h1 (by simp; omega), e2]
  rw [cell_set_other (.inr (fun e => k2 e.symm))]
  by_cases k1 : k = o + 1
  · subst k1; rw [cell_set_same h0 (by simp; omega), e1]
  rw [cell_set_other (.inr (fun e => k1 e.symm))]
  by_cases k0 : k = o
  · subst k0; rw [cell_set_same h (by omega), e0]
  rw [cell_set_other (.inr (fun e => k0 e.symm))]

set_option maxRecDepth 100000 in
set_option maxHeartbeats 4000000 in
theorem soCopied_any (ao : Option Addr) (c : Nat) (l : List LineC) (w : World) (h : LinesRd (· < w.heap.size) (.slice ao l.length c) l w) (hf : Fit l) : Calls Tryd.prog 50 #[.slice ao l.length c] w (CopiedP l w) := by
  have hm : l.length ≤ maxLen := by obtain ⟨_, _, _, h, _⟩ := h; exact h
  have HC := Lib.hid (clone_lines ao l.length c w hm hf.lines (lines_cells h))
  have HL := Lib.hid (fun W (hs : Below w.heap.size w W) v' (hc : Cloned 5 37 _ v' w W) => cloned_lines h (Stay.below hs fun _ h => h) hc)
  unfold maxLen at hm
  clear h
  go_enter Tryd.func50, Tryd.ntmps50
  go_wp2_with fail
  refine HC.out.mono ?_
  rintro e w1 ⟨v1, rfl, hb1, hc1⟩
  have HB1 := Lib.hid hb1
  rcases HL.out w1 hb1 v1 hc1 with ⟨rfl, rfl⟩ | ⟨g, cap, cur, rfl, hg, hh, hlc, hcm, hcs, hin⟩
  · clear hb1 hc1 HC HL
    go_wp2_with fail
    go_loopw [10] (fun i wr => i = .int .i64 0 ∧ Hid (Below w.heap.size w wr)) (fun _ _ => 0)
    case atStart => exact ⟨rfl, HB1⟩
    case round =>
      obtain ⟨rfl, hb⟩ := hrel
      go_wp2_with fail
      go_ret
      exact ⟨_, rfl, hb.out, .inl ⟨rfl, rfl⟩⟩
  · have H0 : Hid (In1 w.heap.size g cap w w1 l 0) := Lib.hid ⟨hb1, ⟨cur, hh, hcs⟩, fun j _ h => absurd h (Nat.not_lt_zero _), fun j hj _ => hin j hj⟩
    clear hb1 hc1 HC HL HB1 hh hcs hin
    go_wp2_with fail
    go_loopw [10] (fun i wr => ∃ j : Nat, j ≤ l.length ∧ i = .int .i64 j ∧ Hid (In1 w.heap.size g cap w wr l j)) (fun i _ => l.length - (intOf i).toNat)
    case atStart => exact ⟨0, by omega, rfl, H0⟩
    case round =>
      obtain ⟨j, hj, rfl, hi1⟩ := hrel
      by_cases hlt : j < l.length
      · obtain ⟨u, hu⟩ := hi1.out.todo j hlt (Nat.le_refl _)
        obtain ⟨c0, c1, c2, c3, c4, hbx⟩ := hu
        have hfb := hf.boxes l[j] (List.getElem_mem hlt)
        have hfn := hf.nums l[j] (List.getElem_mem hlt)
        have hgw : g < wr.heap.size := ltC_of_cell c0
        obtain ⟨x, hx⟩ : ∃ x, l[j] = x := ⟨_, rfl⟩
        rw [hx] at c0 c1 c2 c3 hbx hfb hfn
        have HX := Lib.hid (show ∃ h : j < l.length, l[j] = x from ⟨hlt, hx⟩)
        obtain ⟨ba, bc, rfl, _⟩ := id hbx
        have hw0 : w.heap.size ≤ wr.heap.size := by omega
        have hal : Below wr.heap.size wr (wr.alloc (.cells #[.string x.text, .bool x.made, .int .i64 x.up, .int .i64 x.down, .slice ba x.boxes.length bc] 37)) := (Below.refl _ _).alloc (Nat.le_refl _) _
        have HA := Lib.hid (apart_any x ba bc _ ((hbx.stay (Stay.below hal fun k hk => Nat.lt_of_lt_of_le hk hw0)).mono fun k hk => Nat.lt_of_lt_of_le hk (Nat.le_trans hw0 hal.size)) hfb hfn)
        have HAl := Lib.hid hal
        have hjz : (j : Int) < l.length := by omega
        have hjn : (0 : Int) ≤ j := by omega
        have E0 := Lib.hid c0
        have E1 := Lib.hid c1
        have E2 := Lib.hid c2
        have E3 := Lib.hid c3
        clear hbx hal hx hlt hfb hfn
        go_wp2_with fail
        refine (HA.out).mono ?_
        rintro e w4 ⟨bv, rfl, hb4, hbx4⟩
        have hAb : Below wr.heap.size wr w4 := HAl.out.trans (Below.mono hb4 HAl.out.size)
        have k0 := (hAb.cell (p := ⟨g, j * 5, none⟩) hgw).trans E0.out
        have k1 := (hAb.cell (p := ⟨g, j * 5 + 1, none⟩) hgw).trans E1.out
        have k2 := (hAb.cell (p := ⟨g, j * 5 + 2, none⟩) hgw).trans E2.out
        have k3 := (hAb.cell (p := ⟨g, j * 5 + 3, none⟩) hgw).trans E3.out
        obtain ⟨k4v, k4⟩ : ∃ u, w4.cell? ⟨g, j * 5 + 4, none⟩ = some u := ⟨_, (hAb.cell (p := ⟨g, j * 5 + 4, none⟩) hgw).trans c4⟩
        obtain ⟨cur, hcur, hcsz⟩ := hi1.out.row
        have hcur4 := (hAb.block g hgw).trans hcur
        have fz : ∀ k, w4.frozen? ⟨g, k, none⟩ = false := fun k => by simp [World.frozen?, hcur4]
        have f0 := fz (j * 5)
        have f1 := fz (j * 5 + 1)
        have f2 := fz (j * 5 + 2)
        have f3 := fz (j * 5 + 3)
        have f4 := fz (j * 5 + 4)
        obtain ⟨z1, z2, rfl⟩ : ∃ z1 z2, bv = .slice z1 x.boxes.length z2 := by obtain ⟨_, _, rfl, _⟩ := hbx4; exact ⟨_, _, rfl⟩
        have H5 := Lib.hid (five_cells (c4 := .slice z1 x.boxes.length z2) hcur4 (o := j * 5) (by omega) k0 k1 k2 k3)
        have HAb := Lib.hid hAb
        have HBx := Lib.hid hbx4
        have hs4 := hb4.size
        have hal2 := HAl.out.size
        clear hAb hcur hcur4 fz HA HAl hbx4 hb4 c0 c1 c2 c3 c4
        go_wp2_with fail
        obtain ⟨⟨cur', hcur', hsz'⟩, hoth, hnew, hgr⟩ := H5.out
        go_roundw
        case rel =>
          obtain ⟨hlt, hx⟩ := HX.out
          refine ⟨j + 1, by omega, by go_num, Lib.hid (hi1.out.step hlt hg (v' := .slice z1 x.boxes.length z2) (fun k hk hkg => ?_) ?_ ⟨cur', hcur', by rw [hsz']; exact hcsz⟩ (fun k hk => ?_) hnew ?_)⟩
          · rw [hgr.block k (Nat.lt_of_lt_of_le hk HAb.out.size) (by simpa using hkg), HAb.out.block k hk]
          · exact (hi1.out.below.trans (Below.mono HAb.out hw0)).trans (grown_to_below hgr hg (Nat.le_trans hw0 HAb.out.size))
          · rw [hoth k hk, HAb.out.cell (p := ⟨g, k, none⟩) hgw]
          · rw [hx]
            exact (HBx.out.both.stay fun k off hk => by
              have h1 : k ≠ g := by have := hk.1; omega
              simp [World.cell?, hgr.block k hk.2 (by simpa using h1)]).mono fun k hk => by have := hk.1; exact ⟨by omega, by omega⟩
        case measure => obtain ⟨hlt, _⟩ := HX.out; simp only [intOf]; omega
      · obtain rfl : j = l.length := by omega
        go_wp2_with fail
        go_ret
        obtain ⟨cur, h1, h2⟩ := hi1.out.row
        exact ⟨_, rfl, hi1.out.below, .inr ⟨g, cap, cur, rfl, hg, h1, hlc, hcm, h2, fun i hi => hi1.out.done i hi hi⟩⟩
end Go.Proofs.YtkocgedliakclaaDoor
