/- A line that shares nothing with another. -/
import Derived.Test.YtkocgedliakclaaDoorStCopied
import Derived.Test.YtkocgedliakclaaDoorSoBook
namespace Go.Proofs.YtkocgedliakclaaDoor
open Go.RowKit Go.PlainAid Go.Maps Go.Shelf

theorem set5 {w : World} {b : Nat} {a0 a1 a2 a3 a4 c0 c1 c2 c3 c4 : Value} {t : TypeId} (h : w.heap[b]? = some (.cells #[a0, a1, a2, a3, a4] t (0, 0))) :
    (((((w.setCell ⟨b, 0, none⟩ c0).setCell ⟨b, 1, none⟩ c1).setCell ⟨b, 2, none⟩ c2).setCell ⟨b, 3, none⟩ c3).setCell ⟨b, 4, none⟩ c4).heap[b]? = some (.cells #[c0, c1, c2, c3, c4] t (0, 0)) ∧
    w.grownBy (((((w.setCell ⟨b, 0, none⟩ c0).setCell ⟨b, 1, none⟩ c1).setCell ⟨b, 2, none⟩ c2).setCell ⟨b, 3, none⟩ c3).setCell ⟨b, 4, none⟩ c4) (some b) :=
  ⟨heap_set_at (heap_set_at (heap_set_at (heap_set_at (heap_set_at h 0 c0) 1 c1) 2 c2) 3 c3) 4 c4, grown_trans (grown_trans (grown_trans (grown_trans (grown_set _ _ _ _) (grown_set _ _ _ _)) (grown_set _ _ _ _)) (grown_set _ _ _ _)) (grown_set _ _ _ _)⟩
theorem cells5 {w : World} {b : Nat} {a0 a1 a2 a3 a4 : Value} {t : TypeId} (h : w.heap[b]? = some (.cells #[a0, a1, a2, a3, a4] t (0, 0))) :
    (w.cell? ⟨b, 0, none⟩ = some a0 ∧ w.cell? ⟨b, 1, none⟩ = some a1 ∧ w.cell? ⟨b, 2, none⟩ = some a2 ∧ w.cell? ⟨b, 3, none⟩ = some a3 ∧ w.cell? ⟨b, 4, none⟩ = some a4) ∧
    w.frozen? ⟨b, 0, none⟩ = false ∧ w.frozen? ⟨b, 1, none⟩ = false ∧ w.frozen? ⟨b, 2, none⟩ = false ∧ w.frozen? ⟨b, 3, none⟩ = false ∧ w.frozen? ⟨b, 4, none⟩ = false := by
  refine ⟨⟨?_, ?_, ?_, ?_, ?_⟩, ?_, ?_, ?_, ?_, ?_⟩ <;> simp [World.cell?, World.frozen?, h]

theorem In2.lift {B B' g bb bcap : Nat} {W5 w2 : World} {bs : List BoxC} (h : In2 B g bb bcap W5 w2 bs 0) (hB : B ≤ B') : In2 B' g bb bcap W5 w2 bs 0 :=
  ⟨h.grown, h.row, fun _ _ h => absurd h (Nat.not_lt_zero _), fun r hr hq => by
    obtain ⟨u, hu⟩ := h.todo r hr hq
    exact ⟨u, hu.mono fun k hk => Nat.lt_of_lt_of_le hk hB⟩⟩
def ApartP (x : LineC) (w : World) (e : Ending) (w' : World) : Prop :=
  ∃ bv, e = .returned (.agg #[.string x.text, .bool x.made, .int .i64 x.up, .int .i64 x.down, bv]) ∧ Below w.heap.size w w' ∧ BoxesRd (w.heap.size ≤ ·) bv x.boxes w'
set_option maxRecDepth 100000 in
set_option maxHeartbeats 4000000 in
theorem apart_any (x : LineC) (ba : Option Addr) (bc : Nat) (w : World) (h : BoxesRd (· < w.heap.size) (.slice ba x.boxes.length bc) x.boxes w) (hfb : x.boxes.length * 88 ≤ 140737488355328) (hfn : ∀ y ∈ x.boxes, y.ns.length * 8 ≤ 140737488355328) :
    Calls Tryd.prog 41 #[.agg #[.string x.text, .bool x.made, .int .i64 x.up, .int .i64 x.down, .slice ba x.boxes.length bc]] w (ApartP x w) := by
  obtain ⟨t, m, up, dn, bs⟩ := x
  simp only at h hfb hfn ⊢
  have hbn : bs.length ≤ maxLen := by obtain ⟨_, _, _, h, _⟩ := h; exact h
  obtain ⟨W2, hW2⟩ : ∃ W2, (w.alloc (.cells #[.string t, .bool m, .int .i64 up, .int .i64 dn, .slice ba bs.length bc] 37)).alloc (.cells #[.string ⟨#[]⟩, .bool false, .int .i64 0, .int .i64 0, .slice none 0 0] 37) = W2 := ⟨_, rfl⟩
  have hB2 : Below w.heap.size w W2 := by rw [← hW2]; exact ((Below.refl _ _).alloc (Nat.le_refl _) _).alloc (by simp) _
  have hsz : W2.heap.size = w.heap.size + 2 := by rw [← hW2]; simp
  have hp : W2.heap[w.heap.size]? = some (.cells #[.string t, .bool m, .int .i64 up, .int .i64 dn, .slice ba bs.length bc] 37 (0, 0)) := by
    rw [← hW2, Below.heap_alloc _ _ _ (by simp)]; exact heap_alloc_new w _
  have hr : W2.heap[w.heap.size + 1]? = some (.cells #[.string ⟨#[]⟩, .bool false, .int .i64 0, .int .i64 0, .slice none 0 0] 37 (0, 0)) := by
    rw [← hW2]; have := heap_alloc_new (w.alloc (.cells #[.string t, .bool m, .int .i64 up, .int .i64 dn, .slice ba bs.length bc] 37)) (.cells #[.string ⟨#[]⟩, .bool false, .int .i64 0, .int .i64 0, .slice none 0 0] 37); rwa [World.size_alloc] at this
  have h2 := h.stay (Stay.below hB2 fun _ h => h)
  have HC := Lib.hid (clone_boxes ba bs.length bc W2 hbn hfb (boxes_cells h2))
  have HX := Lib.hid h2
  have HP := Lib.hid hp
  have HR := Lib.hid hr
  have HB2 := Lib.hid hB2
  have HN := Lib.hid hfn
  unfold maxLen at hbn
  obtain ⟨⟨_, _, _, _, hp4⟩, _⟩ := cells5 hp
  have hpl : w.heap.size < W2.heap.size := by omega
  have hrl : w.heap.size + 1 < W2.heap.size := by omega
  clear h h2 hB2 hfn hr hp
  go_enter Tryd.func41, Tryd.ntmps41
  go_wp2_with fail
  refine HC.out.mono ?_
  rintro e w4 ⟨v4, rfl, hb4, hc4⟩
  have HP4 := Lib.hid ((hb4.block _ hpl).trans HP.out)
  have HR4 := Lib.hid ((hb4.block _ hrl).trans HR.out)
  have HB4 := Lib.hid (HB2.out.trans (Below.mono hb4 HB2.out.size))
  have hs4 := hb4.size
  obtain ⟨⟨d0, d1, d2, d3, d4⟩, _, _, _, _, e4⟩ := cells5 HP4.out
  have hcl := cloned_boxes HX.out (Stay.below hb4 fun k hk => Nat.lt_of_lt_of_le hk (by omega)) hc4
  clear hb4 hc4 HC hp4 hW2 HP HR HB2
  rcases hcl with ⟨rfl, rfl⟩ | ⟨bb, bcap, bcur, rfl, hbb, hbh, hbl, hbm, hbs, hbi⟩
  · have HP5 := Lib.hid (heap_set_at HP4.out 4 (.slice none 0 0))
    have HR5 := Lib.hid ((Below.heap_setCell w4 ⟨w.heap.size, 4, none⟩ (.slice none 0 0) (w.heap.size + 1) (by simp)).trans HR4.out)
    have HB5 := Lib.hid (HB4.out.setCell (p := ⟨w.heap.size, 4, none⟩) (Nat.le_refl _) (.slice none 0 0))
    go_wp2_with fail
    obtain ⟨W5, hW5⟩ : ∃ W5, W5 = w4.setCell ⟨w.heap.size, 4, none⟩ (.slice none 0 0) := ⟨_, rfl⟩
    rw [← hW5] at HP5 HR5 HB5 ⊢
    clear hW5 d0 d1 d2 d3 d4 e4
    obtain ⟨⟨d0, d1, d2, d3, d4⟩, _⟩ := cells5 HP5.out
    obtain ⟨⟨r0, r1, r2, r3, r4⟩, f0, f1, f2, f3, f4⟩ := cells5 HR5.out
    go_wp2_with fail
    go_loopw [12] (fun i wr => i = .int .i64 0 ∧ W5 = wr) (fun _ _ => 0)
    case atStart => exact ⟨rfl, rfl⟩
    case round =>
      obtain ⟨rfl, rfl⟩ := hrel
      go_wp2_with fail
      obtain ⟨hset, hgs⟩ := set5 (c0 := .string t) (c1 := .bool m) (c2 := .int .i64 up) (c3 := .int .i64 dn) (c4 := .slice none 0 0) HR5.out
      refine bodyPost_ret (v := .agg #[.string t, .bool m, .int .i64 up, .int .i64 dn, .slice none 0 0]) (by simp [results, Tryd.results41, go_sem, (cells5 hset).1]) rfl ⟨_, rfl, HB5.out.trans (grown_to_below hgs (by omega) HB5.out.size), ⟨none, 0, rfl, Nat.zero_le _, 0, 0, fun h => absurd h (Nat.lt_irrefl _), fun i hi => absurd hi (Nat.not_lt_zero _)⟩⟩
  · have hbbp : w.heap.size + 2 ≤ bb := by omega
    have HP5 := Lib.hid (heap_set_at HP4.out 4 (.slice (some ⟨bb, 0, none⟩) bs.length bcap))
    have HR5 := Lib.hid ((Below.heap_setCell w4 ⟨w.heap.size, 4, none⟩ (.slice (some ⟨bb, 0, none⟩) bs.length bcap) (w.heap.size + 1) (by simp)).trans HR4.out)
    have HB5 := Lib.hid (HB4.out.setCell (p := ⟨w.heap.size, 4, none⟩) (Nat.le_refl _) (.slice (some ⟨bb, 0, none⟩) bs.length bcap))
    have hbb4 : bb < w4.heap.size := (Array.getElem?_eq_some_iff.1 hbh).1
    have HS := Lib.hid (In2.lift (B := w.heap.size) (B' := w.heap.size + 2) (In2.start (a := ⟨w.heap.size, 4, none⟩) (u := .slice (some ⟨bb, 0, none⟩) bs.length bcap) rfl (Nat.le_refl _) (show w.heap.size ≠ bb by omega) hbh hbs hbi) (Nat.le_add_right _ _))
    go_wp2_with fail
    obtain ⟨W5, hW5⟩ : ∃ W5, W5 = w4.setCell ⟨w.heap.size, 4, none⟩ (.slice (some ⟨bb, 0, none⟩) bs.length bcap) := ⟨_, rfl⟩
    have h5w : W5.heap.size = w4.heap.size := by rw [hW5]; simp [World.setCell]
    rw [← hW5] at HP5 HR5 HB5 HS ⊢
    clear hW5 d0 d1 d2 d3 d4 e4 hbh hbs hbi
    obtain ⟨⟨d0, d1, d2, d3, d4⟩, _⟩ := cells5 HP5.out
    go_wp2_with fail
    clear d0 d1 d2 d3 d4
    go_loopw [12] (fun i wr => ∃ q : Nat, q ≤ bs.length ∧ i = .int .i64 q ∧ Hid (In2 (w.heap.size + 2) w.heap.size bb bcap W5 wr bs q)) (fun i _ => bs.length - (intOf i).toNat)
    case atStart => exact ⟨0, by omega, rfl, HS⟩
    case round =>
      obtain ⟨q, hq, rfl, hi2⟩ := hrel
      have hgsz := hi2.out.grown.size
      have hp6 := (hi2.out.grown.block w.heap.size (by omega) (by simp; omega)).trans HP5.out
      have hr6 := (hi2.out.grown.block (w.heap.size + 1) (by omega) (by simp; omega)).trans HR5.out
      obtain ⟨⟨p0, p1, p2, p3, p4⟩, _⟩ := cells5 hp6
      have hB6 := HB5.out.trans (grown_to_below hi2.out.grown (by omega) HB5.out.size)
      have HB6 := Lib.hid hB6
      clear hB6
      by_cases hqt : q < bs.length
      · obtain ⟨u, hu⟩ := hi2.out.todo q hqt (Nat.le_refl _)
        obtain ⟨d0, d1, d2, d3, d4, d5, d6, hns⟩ := hu
        have hfn := HN.out _ (List.getElem_mem hqt)
        obtain ⟨y, hy⟩ : ∃ y, bs[q] = y := ⟨_, rfl⟩
        rw [hy] at d0 d1 d2 d3 d4 d5 hns hfn
        obtain ⟨na, nc, rfl, hnn, _⟩ := id hns
        have HY := Lib.hid (show ∃ h : q < bs.length, bs[q] = y from ⟨hqt, hy⟩)
        have hqz : (q : Int) < bs.length := by omega
        have hqn : (0 : Int) ≤ q := by omega
        have hbw : bb < wr.heap.size := ltC_of_cell d0
        have hgr : w.heap.size < wr.heap.size := ltC_of_cell p4
        have hwr : w.heap.size ≤ wr.heap.size := by omega
        have hwr2 : w.heap.size + 2 ≤ wr.heap.size := by omega
        have HNx := Lib.hid (fun W (h : Below wr.heap.size wr W) => hns.stay (Stay.below h fun _ h => Nat.lt_of_lt_of_le h hwr2))
        have HAl2 := Lib.hid (show ∀ o, Below wr.heap.size wr (wr.alloc o).drew from fun o => have h := (Below.refl wr.heap.size wr).alloc (Nat.le_refl _) o; ⟨h.os, h.tape, h.output, h.size, h.block⟩)
        have HF := Lib.hid (show ∀ W, Below wr.heap.size wr W → W.cell? ⟨w.heap.size, 4, none⟩ = some (.slice (some ⟨bb, 0, none⟩) bs.length bcap) ∧ W.cell? ⟨bb, q * 7 + 6, none⟩ = some (.slice na y.ns.length nc) ∧ W.frozen? ⟨bb, q * 7 + 6, none⟩ = false ∧ wr.heap.size ≤ W.heap.size from fun W h => by
          obtain ⟨cur, hcur, _⟩ := hi2.out.row
          have hW : W.heap[bb]? = some (.cells cur 78 (0, 0)) := by rw [h.block bb hbw]; exact hcur
          refine ⟨by rw [h.cell (p := ⟨w.heap.size, 4, none⟩) hgr]; exact p4, by rw [h.cell (p := ⟨bb, q * 7 + 6, none⟩) hbw]; exact d6, by simp [World.frozen?, hW], h.size⟩)
        have hqt' := Lib.hid hqt
        clear hy hns hqt p0 p1 p2 p3 hp6 hr6
        go_wp2_with fail
        go_region_with (go_at_call 53; refine (clone_nums na y.ns.length nc _ hnn hfn (nums_cells (HNx.out _ (HAl2.out _)))).mono ?_; rintro e w7 ⟨v7, rfl, hb7, hc7⟩; obtain ⟨z1, z2, z3, rfl⟩ := hc7.slice; obtain ⟨f1, f2, f3, f4⟩ := HF.out w7 ((HAl2.out _).trans (Below.mono hb7 (HAl2.out _).size)))
        all_goals
          have HB7 := Lib.hid ((HAl2.out _).trans (Below.mono hb7 (HAl2.out _).size))
          have HV7 := Lib.hid ((cloned_nums (HNx.out _ (HAl2.out _)) hc7).mono fun k hk => Nat.le_trans (HAl2.out _).size hk)
          clear hb7 hc7 d0 d1 d2 d3 d4 d5 d6 p4 f1 f2 f3 HNx HAl2 HF
          go_wp2_with fail
          go_roundw
          case rel =>
            obtain ⟨hqt, hy⟩ := HY.out
            exact ⟨q + 1, by omega, by go_num, Lib.hid (hi2.out.step hqt hbl (by omega) (by omega) (by omega) HB7.out (by rw [hy]; exact HV7.out))⟩
          case measure => have := hqt'.out; simp only [intOf]; omega
      · have hqe : q = bs.length := by omega
        subst hqe
        obtain ⟨⟨r0, r1, r2, r3, r4⟩, f0, f1, f2, f3, f4⟩ := cells5 hr6
        go_wp2_with fail
        obtain ⟨hset, hgs⟩ := set5 (c0 := .string t) (c1 := .bool m) (c2 := .int .i64 up) (c3 := .int .i64 dn) (c4 := .slice (some ⟨bb, 0, none⟩) bs.length bcap) hr6
        have hbx := hi2.out.all (c := bcap) (show bs.length ≤ maxLen by unfold maxLen; omega) (by omega) (by omega)
        refine bodyPost_ret (v := .agg #[.string t, .bool m, .int .i64 up, .int .i64 dn, .slice (some ⟨bb, 0, none⟩) bs.length bcap]) (by simp [results, Tryd.results41, go_sem, (cells5 hset).1]) rfl ⟨_, rfl, HB6.out.trans (grown_to_below hgs (by omega) HB6.out.size), ?_⟩
        exact (hbx.both.stay fun k off hk => by
          have h1 := hk.1.1
          have h2 : k ≠ w.heap.size + 1 := by omega
          simp [World.cell?, hgs.block k hk.2 (by simpa using h2)]).mono fun k hk => by have := hk.1.1; omega
end Go.Proofs.YtkocgedliakclaaDoor
