/- Boxes are set in another size. -/
import Derived.Test.YtboophfcakdlcaaGlRow
import Derived.Test.YtboophfcakdlcaaGlAsk
import Derived.Test.YtboophfcakdlcaaGlLay2
import Derived.Deep.DeepCutAuto
namespace Go.Proofs.Ytboophfcakdlcaa
open Go.RowKit Go.PlainAid Go.Shelf

theorem clone0_any (w : World) : Calls Try.prog 90 #[.slice none 0 0] w (Says (.slice none 0 0) w) := (AnyE.slices_Clone_nil Try.cloneIL 0 0 w).mono fun _ _ ⟨h1, h2⟩ => ⟨h1, h2.symm⟩
set_option maxRecDepth 100000 in
set_option maxHeartbeats 4000000 in
theorem copied_any (k wd f z : Int) (sn : ByteArray) (w : World) : Calls Try.prog 59 #[.agg #[.int .i64 k, .int .i64 wd, .int .i64 f, .int .i64 z, .string sn, .string ⟨#[]⟩, .slice none 0 0]] w (Makes (.agg #[.int .i64 k, .int .i64 wd, .int .i64 f, .int .i64 z, .string sn, .string ⟨#[]⟩, .slice none 0 0]) w) := by
  have HC := Lib.hid (fun w => clone0_any w)
  go_enter Try.func59, Try.ntmps59
  go_upto_region 1 with fail
  generalize hw1 : w.alloc _ = w1
  have hb1 : Below w.heap.size w w1 := by rw [← hw1]; exact (Below.refl _ _).alloc (Nat.le_refl _) _
  have t1 : w1.heap[w.heap.size]? = some (.cells #[.int .i64 k, .int .i64 wd, .int .i64 f, .int .i64 z, .string sn, .string ⟨#[]⟩, .slice none 0 0] 70 (0, 0)) := by rw [← hw1]; exact heap_alloc_new w _
  have hs1 : w1.heap.size = w.heap.size + 1 := by rw [← hw1]; simp
  generalize hw2 : w1.alloc _ = w2
  have hb2 : Below w1.heap.size w1 w2 := by rw [← hw2]; exact (Below.refl _ _).alloc (Nat.le_refl _) _
  have t2 : w2.heap[w1.heap.size]? = some (.cells #[.int .i64 0, .int .i64 0, .int .i64 0, .int .i64 0, .string ⟨#[]⟩, .string ⟨#[]⟩, .slice none 0 0] 70 (0, 0)) := by rw [← hw2]; exact heap_alloc_new w1 _
  have t1' : w2.heap[w.heap.size]? = some (.cells #[.int .i64 k, .int .i64 wd, .int .i64 f, .int .i64 z, .string sn, .string ⟨#[]⟩, .slice none 0 0] 70 (0, 0)) := by rw [hb2.block _ (by omega)]; exact t1
  have HB := Lib.hid (hb1.trans (hb2.mono hb1.size))
  rw [hs1] at t2
  obtain ⟨p, hp⟩ : ∃ p, w.heap.size = p := ⟨_, rfl⟩
  obtain ⟨r, hr⟩ : ∃ r, p + 1 = r := ⟨_, rfl⟩
  have HRW : Hid (w.heap.size ≤ r) := by show _ ≤ _; omega
  have HPW : Hid (w.heap.size ≤ p) := by show _ ≤ _; omega
  have hpr : p ≠ r := by omega
  rw [hp] at t1' t2
  rw [hr] at t2
  try simp only [hp, hr]
  have HT1 := Lib.hid t1'
  have HT2 := Lib.hid t2
  have b6 := cell_of (j := 6) t1' rfl
  have d6 := frozen_of (j := 6) t1'
  clear hw1 hw2 hb1 hb2 t1 t2 t1' hs1 hp hr
  go_upto_region 2 with (go_at_call 90; refine (HC.out _).mono ?_; rintro e w3 ⟨rfl, rfl⟩)
  have k1 : (w2.setCell ⟨p, 6, none⟩ (.slice none 0 0)).heap[p]? = some (.cells #[.int .i64 k, .int .i64 wd, .int .i64 f, .int .i64 z, .string sn, .string ⟨#[]⟩, .slice none 0 0] 70 (0, 0)) := by simpa using heap_setCell_c HT1.out 6 (.slice none 0 0)
  have k4 : (w2.setCell ⟨p, 6, none⟩ (.slice none 0 0)).heap[r]? = some (.cells #[.int .i64 0, .int .i64 0, .int .i64 0, .int .i64 0, .string ⟨#[]⟩, .string ⟨#[]⟩, .slice none 0 0] 70 (0, 0)) := by rw [Below.heap_setCell _ _ _ _ (by simpa using Ne.symm hpr)]; exact HT2.out
  have HB4 : Hid (Below w.heap.size w (w2.setCell ⟨p, 6, none⟩ (.slice none 0 0))) := below_setA HB.out HPW.out
  clear b6 d6 HT1 HT2 HB
  generalize w2.setCell ⟨p, 6, none⟩ (.slice none 0 0) = w4 at k1 k4 HB4 ⊢
  have HT4 := Lib.hid k4
  have b0 := cell_of (j := 0) k1 rfl
  have b1 := cell_of (j := 1) k1 rfl
  have b2 := cell_of (j := 2) k1 rfl
  have b3 := cell_of (j := 3) k1 rfl
  have b4 := cell_of (j := 4) k1 rfl
  have b5 := cell_of (j := 5) k1 rfl
  have b6 := cell_of (j := 6) k1 rfl
  have e0 := cell_of (j := 0) k4 rfl
  have e1 := cell_of (j := 1) k4 rfl
  have e2 := cell_of (j := 2) k4 rfl
  have e3 := cell_of (j := 3) k4 rfl
  have e4 := cell_of (j := 4) k4 rfl
  have e5 := cell_of (j := 5) k4 rfl
  have e6 := cell_of (j := 6) k4 rfl
  have d0 := frozen_of (j := 0) k4
  have d1 := frozen_of (j := 1) k4
  have d2 := frozen_of (j := 2) k4
  have d3 := frozen_of (j := 3) k4
  have d4 := frozen_of (j := 4) k4
  have d5 := frozen_of (j := 5) k4
  have d6 := frozen_of (j := 6) k4
  clear k1 k4
  go_wp2_with fail
  have HZ : (((((((w4.setCell ⟨r, 0, none⟩ (.int .i64 k)).setCell ⟨r, 1, none⟩ (.int .i64 wd)).setCell ⟨r, 2, none⟩ (.int .i64 f)).setCell ⟨r, 3, none⟩ (.int .i64 z)).setCell ⟨r, 4, none⟩ (.string sn)).setCell ⟨r, 5, none⟩ (.string ⟨#[]⟩)).setCell ⟨r, 6, none⟩ (.slice none 0 0)).heap[r]? = some (.cells #[.int .i64 k, .int .i64 wd, .int .i64 f, .int .i64 z, .string sn, .string ⟨#[]⟩, .slice none 0 0] 70 (0, 0)) := by
    have q0 := heap_setCell_c HT4.out 0 (.int .i64 k)
    have q1 := heap_setCell_c q0 1 (.int .i64 wd)
    have q2 := heap_setCell_c q1 2 (.int .i64 f)
    have q3 := heap_setCell_c q2 3 (.int .i64 z)
    have q4 := heap_setCell_c q3 4 (.string sn)
    have q5 := heap_setCell_c q4 5 (.string ⟨#[]⟩)
    have q6 := heap_setCell_c q5 6 (.slice none 0 0)
    simpa using q6
  have HBZ : Hid (Below w.heap.size w (((((((w4.setCell ⟨r, 0, none⟩ (.int .i64 k)).setCell ⟨r, 1, none⟩ (.int .i64 wd)).setCell ⟨r, 2, none⟩ (.int .i64 f)).setCell ⟨r, 3, none⟩ (.int .i64 z)).setCell ⟨r, 4, none⟩ (.string sn)).setCell ⟨r, 5, none⟩ (.string ⟨#[]⟩)).setCell ⟨r, 6, none⟩ (.slice none 0 0))) := (below_setA (below_setA (below_setA (below_setA (below_setA (below_setA (below_setA HB4.out HRW.out) HRW.out) HRW.out) HRW.out) HRW.out) HRW.out) HRW.out)
  generalize (((((((w4.setCell ⟨r, 0, none⟩ (.int .i64 k)).setCell ⟨r, 1, none⟩ (.int .i64 wd)).setCell ⟨r, 2, none⟩ (.int .i64 f)).setCell ⟨r, 3, none⟩ (.int .i64 z)).setCell ⟨r, 4, none⟩ (.string sn)).setCell ⟨r, 5, none⟩ (.string ⟨#[]⟩)).setCell ⟨r, 6, none⟩ (.slice none 0 0)) = wz at HZ HBZ ⊢
  have gz0 := cell_of (j := 0) HZ rfl
  have gz1 := cell_of (j := 1) HZ rfl
  have gz2 := cell_of (j := 2) HZ rfl
  have gz3 := cell_of (j := 3) HZ rfl
  have gz4 := cell_of (j := 4) HZ rfl
  have gz5 := cell_of (j := 5) HZ rfl
  have gz6 := cell_of (j := 6) HZ rfl
  clear HZ HT4
  refine bodyPost_ret (v := .agg #[.int .i64 k, .int .i64 wd, .int .i64 f, .int .i64 z, .string sn, .string ⟨#[]⟩, .slice none 0 0]) (by simp [results, Try.results59, go_sem, gz0, gz1, gz2, gz3, gz4, gz5, gz6]) rfl ?_
  exact ⟨rfl, HBZ.out⟩
/-- A glyph of a font that has it. -/
def Fine (l : List FA) (b : Bx') : Prop := b.kind = 0 ∧ ∃ h : Nat, b.font = h ∧ h < l.length ∧ hasB l[h]!.F.gs b.nm = true
def shiftB (l : List FA) (z : Int) (b : Bx') : Bx' := ⟨0, scaleZ (widL l[b.font.toNat]!.F.gs b.nm) z, b.font, z, b.nm⟩
set_option maxRecDepth 100000 in
set_option maxHeartbeats 8000000 in
theorem shift_any (a1 : Option Addr) (bs : List Bx') (c1 : Nat) (z : Int) (ao : Option Addr) (l : List FA) (c : Nat) (W : World) (hr : RowK encB 7 a1 bs W) (hn : bs.length ≤ 2000) (hz : sizeB z = true) (h : Fonts ao l W) (hv : ∀ x ∈ l, validB x.F = true) (hf : ∀ b ∈ bs, Fine l b) :
    Calls Try.prog 22 #[.slice a1 bs.length c1, .int .i64 z, .slice ao l.length c] W (fun e w' => ∃ v, e = .returned (.tuple #[v, .int .i64 0]) ∧ OwnB W.heap.size v (bs.map (shiftB l z)) w' ∧ Below W.heap.size W w') := by
  have hva : (l.all fun x => validB x.F) = true := List.all_eq_true.2 hv
  have H1 := Lib.hid (fun w => gsize_any z w)
  rw [hz] at H1
  have H2 : Hid (∀ W', Below W.heap.size W W' → Calls Try.prog 49 #[.slice ao l.length c] W' (Makes (.bool true) W')) := fun W' hb => by have := areFonts_any ao l c W' (h.below hb); rwa [hva] at this
  have H3 := Lib.hid (fun (k wd f s : Int) (sn : ByteArray) (w : World) => copied_any k wd f s sn w)
  have HF := Lib.hid h
  have HV := Lib.hid hv
  have HZ := Lib.hid hz
  have HR := Lib.hid hr
  have HFi := Lib.hid hf
  clear h hv hz hr hf hva
  go_enter Try.func22, Try.ntmps22
  go_wp2_with fail
  refine (H1.out _).mono ?_
  rintro e w1 ⟨rfl, rfl⟩
  go_wp2_with fail
  refine (H2.out _ (Below.refl _ _)).mono ?_
  rintro e w1 ⟨rfl, hb1⟩
  have HB1 := Lib.hid hb1
  clear hb1
  go_wp2_with fail
  go_loopw [8, 23] (fun u i wr => ∃ k : Nat, k ≤ bs.length ∧ i = .int .i64 k ∧ Hid (OwnB w1.heap.size u ((bs.take k).map (shiftB l z)) wr) ∧ Hid (Below w1.heap.size w1 wr)) (fun _ i _ => bs.length - (intOf i).toNat)
  case atStart => exact ⟨0, by omega, rfl, World.ownsRow_nil _ _ _ _, Below.refl _ _⟩
  case round =>
    obtain ⟨k, hk, rfl, ho, hbl⟩ := hrel
    by_cases hlt : k < bs.length
    · have HLT := Lib.hid hlt
      have HBW := Lib.hid (HB1.out.trans (hbl.out.mono HB1.out.size))
      obtain ⟨b2, o2, ha2, hc2⟩ := HR.out.below HBW.out
      obtain ⟨rfl, hl2⟩ := ha2 (by omega)
      have hx := hc2 k hlt
      have hfi := HFi.out bs[k]! (by rw [getElem!_pos bs k hlt]; exact List.getElem_mem hlt)
      have HS : Hid (((bs.take (k + 1)).map (shiftB l z)) = ((bs.take k).map (shiftB l z)) ++ [shiftB l z bs[k]!]) := by
        show _ = _
        rw [List.take_add_one, List.getElem?_eq_getElem hlt, getElem!_pos bs k hlt, Option.toList_some, List.map_append]
        rfl
      have hlen : ((bs.take k).map (shiftB l z)).length ≤ 2000 := by rw [List.length_map, List.length_take]; omega
      have hz1 : (k : Int) < bs.length := by omega
      have hz0 : (0 : Int) ≤ k := by omega
      obtain ⟨X, hX⟩ : ∃ X, bs[k]! = X := ⟨_, rfl⟩
      rw [hX] at hx hfi HS
      obtain ⟨kd, wd, fo, sz, nm⟩ := X
      obtain ⟨hk0, h, hfo, hhl, hhas⟩ := hfi
      simp only at hk0 hfo hhas
      subst hk0 hfo
      have x0 := hx 0 _ rfl
      have x1 := hx 1 _ rfl
      have x2 := hx 2 _ rfl
      have x3 := hx 3 _ rfl
      have x4 := hx 4 _ rfl
      have x5 := hx 5 _ rfl
      have x6 := hx 6 _ rfl
      simp only [Nat.add_zero] at x0 x1 x2 x3 x4 x5 x6
      have HSz : Hid (∀ W', Below wr.heap.size wr W' → Calls Try.prog 58 #[.agg #[.int .i64 0, .int .i64 wd, .int .i64 h, .int .i64 sz, .string (mk8 nm), .string ⟨#[]⟩, .slice none 0 0], .slice ao l.length c, .int .i64 z] W' (Makes (.tuple #[.agg #[.int .i64 0, .int .i64 (scaleZ (widL l[h]!.F.gs nm) z), .int .i64 h, .int .i64 z, .string (mk8 nm), .string ⟨#[]⟩, .slice none 0 0], .int .i64 0]) W')) := fun W' hb =>
        sized_has wd sz z h nm ⟨#[]⟩ none 0 0 ao l c W' (HF.out.below (HBW.out.trans (hb.mono HBW.out.size))) HV.out hhl HZ.out hhas
      have HSB : Hid (shiftB l z ⟨0, wd, h, sz, nm⟩ = ⟨0, scaleZ (widL l[h]!.F.gs nm) z, h, z, nm⟩) := by show _ = _; unfold shiftB; simp only [Int.toNat_natCast]
      rw [HSB.out] at HS
      obtain ⟨Wd, hWd⟩ : ∃ Wd, scaleZ (widL l[h]!.F.gs nm) z = Wd := ⟨_, rfl⟩
      rw [hWd] at HS HSz
      obtain ⟨sn, hsn⟩ : ∃ s, mk8 nm = s := ⟨_, rfl⟩
      have HSN := Lib.hid hsn
      rw [hsn] at x4
      simp only [hsn] at HSz
      clear hX hx hc2 ha2 hlt hWd hsn hhl hhas HSB
      go_upto_region 7 with fail
      generalize hw4 : wr.alloc _ = w4
      have hb4 : Below wr.heap.size wr w4 := by rw [← hw4]; exact (Below.refl _ _).alloc (Nat.le_refl _) _
      have t4 : w4.heap[wr.heap.size]? = some (.cells #[.int .i64 0, .int .i64 wd, .int .i64 h, .int .i64 sz, .string sn, .string ⟨#[]⟩, .slice none 0 0] 70 (0, 0)) := by rw [← hw4]; exact heap_alloc_new wr _
      obtain ⟨q, hq⟩ : ∃ q, wr.heap.size = q := ⟨_, rfl⟩
      have HB4 := Lib.hid hb4
      rw [hq] at t4
      rw [hq]
      have y0 := cell_of (j := 0) t4 rfl
      have y1 := cell_of (j := 1) t4 rfl
      have y2 := cell_of (j := 2) t4 rfl
      have y3 := cell_of (j := 3) t4 rfl
      have y4 := cell_of (j := 4) t4 rfl
      have y5 := cell_of (j := 5) t4 rfl
      have y6 := cell_of (j := 6) t4 rfl
      clear hw4 hb4 t4 hq x0 x1 x2 x3 x4 x5 x6
      go_wp2_with fail
      refine (H3.out _ _ _ _ _ _).mono ?_
      rintro e w5 ⟨rfl, hb5⟩
      have HB5 := Lib.hid (HB4.out.trans (hb5.mono HB4.out.size))
      clear hb5 y0 y1 y2 y3 y4 y5 y6
      go_wp2_with fail
      refine (HSz.out _ HB5.out).mono ?_
      rintro e w6 ⟨rfl, hb6⟩
      have HB6 := Lib.hid (HB5.out.trans (hb6.mono HB5.out.size))
      clear hb6
      go_upto_region 8 with fail
      generalize hw7 : w6.alloc _ = w7
      have hb7 : Below w6.heap.size w6 w7 := by rw [← hw7]; exact (Below.refl _ _).alloc (Nat.le_refl _) _
      have t7 : w7.heap[w6.heap.size]? = some (.cells #[.int .i64 0, .int .i64 Wd, .int .i64 h, .int .i64 z, .string sn, .string ⟨#[]⟩, .slice none 0 0] 70 (0, 0)) := by rw [← hw7]; exact heap_alloc_new w6 _
      obtain ⟨q7, hq7⟩ : ∃ q, w6.heap.size = q := ⟨_, rfl⟩
      have HB7 := Lib.hid (HB6.out.trans (hb7.mono HB6.out.size))
      rw [hq7] at t7
      rw [hq7]
      have y0 := cell_of (j := 0) t7 rfl
      have y1 := cell_of (j := 1) t7 rfl
      have y2 := cell_of (j := 2) t7 rfl
      have y3 := cell_of (j := 3) t7 rfl
      have y4 := cell_of (j := 4) t7 rfl
      have y5 := cell_of (j := 5) t7 rfl
      have y6 := cell_of (j := 6) t7 rfl
      have HBN := Lib.hid (hbl.out.trans (HB7.out.mono hbl.out.size))
      have HO7 := Lib.hid (owns_below ho.out HB7.out)
      have hsz := HBN.out.size
      have hlo : ∀ j, u8.ownBlock = some j → w1.heap.size ≤ j ∧ j < w7.heap.size := fun j hj => HO7.out.lt j hj
      clear hw7 hb7 t7 hq7 ho hbl HB4 HB5 HB6
      go_wp2_with (at_builtin; refine wpList_box (v := u8) (xs := (bs.take k).map (shiftB l z)) (e := ⟨0, Wd, h, z, nm⟩) rfl (.tmp 38) (.tmp 40) rfl rfl ⟨w7.heap.size, 0, none⟩ rfl (fun j u hu => World.news_of_block (heap_alloc_new w7 _) j u (by rw [← HSN.out]; simpa [encB] using hu)) (HO7.out.alloc _) (by omega) (by simp; omega) ?_; intro v' w' h1 h2 h3; have G1 := Lib.hid h1; have G2 := Lib.hid h2; clear h1 h2 h3)
      have N1 : Hid (OwnB w1.heap.size v' ((bs.take (k + 1)).map (shiftB l z)) w') := by rw [HS.out]; exact G1.out
      have N2 : Hid (Below w1.heap.size w1 w') := grown_base HBN.out hsz (fun j hj => (hlo j hj).1) G2.out
      clear HS y0 y1 y2 y3 y4 y5 y6
      go_roundw
      case rel => exact ⟨k + 1, by have := HLT.out; omega, by go_num, N1, N2⟩
      case measure => have := HLT.out; simp only [intOf]; omega
    · obtain rfl : k = bs.length := by omega
      have hz1 : ¬ ((bs.length : Nat) : Int) < bs.length := by omega
      rw [List.take_length] at ho
      have N1 := Lib.hid (own_base ho.out HB1.out.size)
      clear ho
      go_wp2_with fail
      go_ret2
      exact ⟨u8, rfl, N1.out, HB1.out.trans (hbl.out.mono HB1.out.size)⟩
end Go.Proofs.Ytboophfcakdlcaa
