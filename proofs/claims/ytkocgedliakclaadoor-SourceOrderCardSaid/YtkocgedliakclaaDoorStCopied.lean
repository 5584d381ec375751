/- The program's copies of lines. -/
import Derived.Test.YtkocgedliakclaaDoorStCopyPure
import Derived.Deep.RegionWith
namespace Go.Proofs.YtkocgedliakclaaDoor
open Go.RowKit Go.PlainAid Go.Maps Go.Shelf

theorem Cloned.slice {size : Nat} {t : TypeId} {v v' : Value} {w w' : World} (h : Cloned size t v v' w w') : ∃ ao n c, v' = .slice ao n c := by
  rcases h with ⟨_, _, _, h⟩ | ⟨_, _, _, _, _, _, _, h, _⟩
  · exact ⟨_, _, _, h⟩
  · exact ⟨_, _, _, h⟩
def CopiedP (l : List LineC) (w : World) (e : Ending) (w' : World) : Prop := ∃ v', e = .returned v' ∧ Below w.heap.size w w' ∧ OwnLines w.heap.size v' l w'
set_option maxRecDepth 100000 in
set_option maxHeartbeats 4000000 in
theorem copied_any (ao : Option Addr) (c : Nat) (l : List LineC) (w : World) (h : LinesRd (· < w.heap.size) (.slice ao l.length c) l w) (hf : Fit l) : Calls Tryd.prog 68 #[.slice ao l.length c] w (CopiedP l w) := by
  have hm : l.length ≤ maxLen := by obtain ⟨_, _, _, h, _⟩ := h; exact h
  have HC := Lib.hid (clone_lines ao l.length c w hm hf.lines (lines_cells h))
  have HL := Lib.hid (fun W (hs : Below w.heap.size w W) v' (hc : Cloned 5 37 _ v' w W) => cloned_lines h (Stay.below hs fun _ h => h) hc)
  unfold maxLen at hm
  clear h
  go_enter Tryd.func68, Tryd.ntmps68
  go_wp2_with fail
  refine HC.out.mono ?_
  rintro e w1 ⟨v1, rfl, hb1, hc1⟩
  have HB1 := Lib.hid hb1
  rcases HL.out w1 hb1 v1 hc1 with ⟨rfl, rfl⟩ | ⟨g, cap, cur, rfl, hg, hh, hlc, hcm, hcs, hin⟩
  · clear hb1 hc1 HC HL
    go_wp2_with fail
    go_loopw [12] (fun i wr => i = .int .i64 0 ∧ Hid (Below w.heap.size w wr)) (fun _ _ => 0)
    case atStart => exact ⟨rfl, HB1⟩
    case round =>
      obtain ⟨rfl, hb⟩ := hrel
      go_wp2_with fail
      go_ret
      exact ⟨_, rfl, hb.out, .inl ⟨rfl, rfl⟩⟩
  · have H0 : Hid (In1 w.heap.size g cap w w1 l 0) := Lib.hid ⟨hb1, ⟨cur, hh, hcs⟩, fun j _ h => absurd h (Nat.not_lt_zero _), fun j hj _ => hin j hj⟩
    clear hb1 hc1 HC HL HB1 hh hcs hin
    go_wp2_with fail
    go_loopw [12] (fun i wr => ∃ j : Nat, j ≤ l.length ∧ i = .int .i64 j ∧ Hid (In1 w.heap.size g cap w wr l j)) (fun i _ => l.length - (intOf i).toNat)
    case atStart => exact ⟨0, by omega, rfl, H0⟩
    case round =>
      obtain ⟨j, hj, rfl, hi1⟩ := hrel
      by_cases hlt : j < l.length
      · obtain ⟨u, hu⟩ := hi1.out.todo j hlt (Nat.le_refl _)
        obtain ⟨c0, c1, c2, c3, c4, hbx⟩ := hu
        have hfb := hf.boxes l[j] (List.getElem_mem hlt)
        have HN := Lib.hid (show ∀ y ∈ l[j].boxes, y.ns.length * 8 ≤ 140737488355328 from fun y hy => hf.nums l[j] (List.getElem_mem hlt) y hy)
        have hgw : g < wr.heap.size := ltC_of_cell c0
        obtain ⟨x, hx⟩ : ∃ x, l[j] = x := ⟨_, rfl⟩
        rw [hx] at c0 c1 c2 c3 hbx hfb HN
        have HX := Lib.hid (show ∃ h : j < l.length, l[j] = x from ⟨hlt, hx⟩)
        obtain ⟨t, m, up, dn, bs⟩ := x
        simp only at c0 c1 c2 c3 c4 hbx hfb HN
        obtain ⟨ba, bc, rfl, hbn, _⟩ := id hbx
        have HBx := Lib.hid (fun W (h : Below wr.heap.size wr W) => hbx.stay (Stay.below h fun _ h => Nat.lt_of_lt_of_le h hi1.out.below.size))
        have HAl := Lib.hid (fun o => (Below.refl wr.heap.size wr).alloc (Nat.le_refl _) o)
        have hjz : (j : Int) < l.length := by omega
        have hjn : (0 : Int) ≤ j := by omega
        have hlt' := Lib.hid hlt
        clear hx hbx hlt
        go_wp2_with fail
        refine (clone_boxes ba bs.length bc _ hbn hfb (boxes_cells (HBx.out _ (HAl.out _)))).mono ?_
        rintro e w4 ⟨v4, rfl, hb4, hc4⟩
        have HAb := Lib.hid (show Below wr.heap.size wr w4 from (HAl.out _).trans (Below.mono hb4 (HAl.out _).size))
        have e4 : w4.cell? ⟨g, j * 5 + 4, none⟩ = some (.slice ba bs.length bc) := by rw [HAb.out.cell (p := ⟨g, j * 5 + 4, none⟩) hgw]; exact c4
        have fz : w4.frozen? ⟨g, j * 5 + 4, none⟩ = false := by
          obtain ⟨cur, hcur, _⟩ := hi1.out.row
          have : w4.heap[g]? = some (.cells cur 37 (0, 0)) := by rw [HAb.out.block g hgw]; exact hcur
          simp [World.frozen?, this]
        have h4w : wr.heap.size ≤ w4.heap.size := HAb.out.size
        have HM := Lib.hid (fun u => hi1.out.mid HAb.out u hg (Nat.le_refl _) (by omega : j < cap))
        have hcl := cloned_boxes (HBx.out _ (HAl.out _)) (Stay.below hb4 fun k hk => Nat.lt_of_lt_of_le hk (Nat.le_trans hi1.out.below.size (HAl.out _).size)) hc4
        have h1w := (HAl.out (.cells #[.string t, .bool m, .int .i64 up, .int .i64 dn, .slice ba bs.length bc] 37)).size
        have h0w := hi1.out.below.size
        clear c0 c1 c2 c3 c4 hb4 hc4 HAb
        rcases hcl with ⟨rfl, rfl⟩ | ⟨bb, bcap, bcur, rfl, hbb, hbh, hbl, hbm, hbs, hbi⟩
        · go_wp2_with fail
          go_loopw [30] (fun i w5 => i = .int .i64 0 ∧ w5 = w4.setCell ⟨g, j * 5 + 4, none⟩ (.slice none 0 0)) (fun _ _ => 0)
          case atStart => exact ⟨rfl, rfl⟩
          case round =>
            obtain ⟨rfl, rfl⟩ := hrel
            have hlt2 := hlt'.out
            go_wp2_with fail
            go_roundw
            case rel =>
              obtain ⟨_, hx⟩ := HX.out
              exact ⟨j + 1, by omega, by go_num, Lib.hid ((HM.out _).next hi1.out hlt2 hg (by rw [hx]; exact ⟨none, 0, rfl, Nat.zero_le _, 0, 0, fun h => absurd h (Nat.lt_irrefl _), fun i hi => absurd hi (Nat.not_lt_zero _)⟩))⟩
            case measure => simp only [intOf]; omega
        · have hbbw : wr.heap.size ≤ bb := Nat.le_trans h1w hbb
          have hbb4 : bb < w4.heap.size := (Array.getElem?_eq_some_iff.1 hbh).1
          have HS := Lib.hid (In2.start (a := ⟨g, j * 5 + 4, none⟩) (u := .slice (some ⟨bb, 0, none⟩) bs.length bcap) rfl hg (show g ≠ bb by omega) hbh hbs hbi)
          go_wp2_with fail
          obtain ⟨wo, hwo⟩ : ∃ wo, wo = wr := ⟨_, rfl⟩
          subst hwo
          obtain ⟨W5, hW5⟩ : ∃ W5, W5 = w4.setCell ⟨g, j * 5 + 4, none⟩ (.slice (some ⟨bb, 0, none⟩) bs.length bcap) := ⟨_, rfl⟩
          have h5w : W5.heap.size = w4.heap.size := by rw [hW5]; simp [World.setCell]
          have HM5 := Lib.hid (HM.out (.slice (some ⟨bb, 0, none⟩) bs.length bcap))
          rw [← hW5] at HS HM5 ⊢
          clear hW5 hbh hbs hbi HM e4 fz HBx
          go_loopw [30] (fun i w5 => ∃ q : Nat, q ≤ bs.length ∧ i = .int .i64 q ∧ Hid (In2 w.heap.size g bb bcap W5 w5 bs q)) (fun i _ => bs.length - (intOf i).toNat)
          case atStart => exact ⟨0, by omega, rfl, HS⟩
          case round =>
            obtain ⟨q, hq, rfl, hi2⟩ := hrel
            have HM6 := Lib.hid (HM5.out.on hi2.out.grown hbbw hgw (by omega) (by omega) h0w)
            have e6 := HM6.out.here
            by_cases hqt : q < bs.length
            · obtain ⟨u, hu⟩ := hi2.out.todo q hqt (Nat.le_refl _)
              obtain ⟨d0, d1, d2, d3, d4, d5, d6, hns⟩ := hu
              have hfn := HN.out _ (List.getElem_mem hqt)
              obtain ⟨y, hy⟩ : ∃ y, bs[q] = y := ⟨_, rfl⟩
              rw [hy] at d0 d1 d2 d3 d4 d5 hns hfn
              obtain ⟨na, nc, rfl, hnn, _⟩ := id hns
              have HY := Lib.hid (show ∃ h : q < bs.length, bs[q] = y from ⟨hqt, hy⟩)
              have hqz : (q : Int) < bs.length := by omega
              have hqn : (0 : Int) ≤ q := by omega
              have hbw : bb < wr.heap.size := ltC_of_cell d0
              have hgr : g < wr.heap.size := ltC_of_cell e6
              have hwr : w.heap.size ≤ wr.heap.size := by omega
              have HNx := Lib.hid (fun W (h : Below wr.heap.size wr W) => hns.stay (Stay.below h fun _ h => Nat.lt_of_lt_of_le h hwr))
              have HAl2 := Lib.hid (show ∀ o, Below wr.heap.size wr (wr.alloc o).drew from fun o => have h := (Below.refl wr.heap.size wr).alloc (Nat.le_refl _) o; ⟨h.os, h.tape, h.output, h.size, h.block⟩)
              have HF := Lib.hid (show ∀ W, Below wr.heap.size wr W → W.cell? ⟨g, j * 5 + 4, none⟩ = some (.slice (some ⟨bb, 0, none⟩) bs.length bcap) ∧ W.cell? ⟨bb, q * 7 + 6, none⟩ = some (.slice na y.ns.length nc) ∧ W.frozen? ⟨bb, q * 7 + 6, none⟩ = false ∧ wr.heap.size ≤ W.heap.size from fun W h => by
                obtain ⟨cur, hcur, _⟩ := hi2.out.row
                have hW : W.heap[bb]? = some (.cells cur 78 (0, 0)) := by rw [h.block bb hbw]; exact hcur
                refine ⟨by rw [h.cell (p := ⟨g, j * 5 + 4, none⟩) hgr]; exact e6, by rw [h.cell (p := ⟨bb, q * 7 + 6, none⟩) hbw]; exact d6, by simp [World.frozen?, hW], h.size⟩)
              have hqt' := Lib.hid hqt
              clear hy hns hqt
              go_wp2_with fail
              go_region_with (go_at_call 53; refine (clone_nums na y.ns.length nc _ hnn hfn (nums_cells (HNx.out _ (HAl2.out _)))).mono ?_; rintro e w7 ⟨v7, rfl, hb7, hc7⟩; obtain ⟨z1, z2, z3, rfl⟩ := hc7.slice; obtain ⟨f1, f2, f3, f4⟩ := HF.out w7 ((HAl2.out _).trans (Below.mono hb7 (HAl2.out _).size)))
              all_goals
                have HB7 := Lib.hid ((HAl2.out _).trans (Below.mono hb7 (HAl2.out _).size))
                have HV7 := Lib.hid ((cloned_nums (HNx.out _ (HAl2.out _)) hc7).mono fun k hk => Nat.le_trans (HAl2.out _).size hk)
                clear hb7 hc7 d0 d1 d2 d3 d4 d5 d6 e6 f1 f2 f3 HNx HAl2 HF
                go_wp2_with fail
                go_roundw
                case rel =>
                  obtain ⟨hqt, hy⟩ := HY.out
                  exact ⟨q + 1, by omega, by go_num, Lib.hid (hi2.out.step hqt hbl (by omega) (by omega) (by omega) HB7.out (by rw [hy]; exact HV7.out))⟩
                case measure => have := hqt'.out; simp only [intOf]; omega
            · have hlt2 := hlt'.out
              have hqe : q = bs.length := by omega
              subst hqe
              go_wp2_with fail
              go_roundw
              case rel =>
                obtain ⟨_, hx⟩ := HX.out
                exact ⟨j + 1, by omega, by go_num, Lib.hid (HM6.out.next hi1.out hlt2 hg (by rw [hx]; exact hi2.out.all hbn (by omega) (by omega)))⟩
              case measure => simp only [intOf]; omega
      · have hje : j = l.length := by omega
        subst hje
        go_wp2_with fail
        go_ret
        obtain ⟨cur, h1, h2⟩ := hi1.out.row
        exact ⟨_, rfl, hi1.out.below, .inr ⟨g, cap, cur, rfl, hg, h1, hlc, hcm, h2, fun i hi => hi1.out.done i hi hi⟩⟩
end Go.Proofs.YtkocgedliakclaaDoor
