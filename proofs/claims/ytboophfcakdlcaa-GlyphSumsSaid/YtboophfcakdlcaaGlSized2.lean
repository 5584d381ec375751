/- A glyph in a size, set; a glyph without a font is refused. -/
import Derived.Test.YtboophfcakdlcaaGlSized
import Derived.Deep.DeepCutAuto
namespace Go.Proofs.Ytboophfcakdlcaa
open Go.RowKit Go.PlainAid Go.Shelf

set_option maxRecDepth 100000 in
set_option maxHeartbeats 4000000 in
theorem asked_out (k wd f sz z : Int) (nm col : ByteArray) (na : Option Addr) (nn nc : Nat) (ao : Option Addr) (n c : Nat) (fv : Value) (w : World) (hf : f < 0) :
    Calls Try.prog 86 #[.agg #[.int .i64 k, .int .i64 wd, .int .i64 f, .int .i64 sz, .string nm, .string col, .slice na nn nc], .slice ao n c, .int .i64 z, fv] w (Makes (.tuple #[.agg #[.int .i64 0, .int .i64 0, .int .i64 0, .int .i64 0, .string ⟨#[]⟩, .string ⟨#[]⟩, .slice none 0 0], .int .i64 1]) w) := by
  go_enter Try.func86, Try.ntmps86
  go_upto_region 1 with fail
  generalize hw1 : w.alloc _ = w1
  have hb1 : Below w.heap.size w w1 := by rw [← hw1]; exact (Below.refl _ _).alloc (Nat.le_refl _) _
  have t1 : w1.heap[w.heap.size]? = some (.cells #[.int .i64 k, .int .i64 wd, .int .i64 f, .int .i64 sz, .string nm, .string col, .slice na nn nc] 70 (0, 0)) := by rw [← hw1]; exact heap_alloc_new w _
  have hs1 : w1.heap.size = w.heap.size + 1 := by rw [← hw1]; simp
  generalize hw2 : w1.alloc _ = w2
  have hb2 : Below w1.heap.size w1 w2 := by rw [← hw2]; exact (Below.refl _ _).alloc (Nat.le_refl _) _
  have t2 : w2.heap[w1.heap.size]? = some (.cells #[.int .i64 0, .int .i64 0, .int .i64 0, .int .i64 0, .string ⟨#[]⟩, .string ⟨#[]⟩, .slice none 0 0] 70 (0, 0)) := by rw [← hw2]; exact heap_alloc_new w1 _
  have t1' : w2.heap[w.heap.size]? = some (.cells #[.int .i64 k, .int .i64 wd, .int .i64 f, .int .i64 sz, .string nm, .string col, .slice na nn nc] 70 (0, 0)) := by rw [hb2.block _ (by omega)]; exact t1
  have HB := Lib.hid (hb1.trans (hb2.mono hb1.size))
  rw [hs1] at t2
  obtain ⟨p, hp⟩ : ∃ p, w.heap.size = p := ⟨_, rfl⟩
  obtain ⟨r, hr⟩ : ∃ r, p + 1 = r := ⟨_, rfl⟩
  have HRW : Hid (w.heap.size ≤ r) := by show _ ≤ _; omega
  rw [hp] at t1' t2
  rw [hr] at t2
  try simp only [hp, hr]
  have HT4 := Lib.hid t2
  have b0 := cell_of (j := 0) t1' rfl
  have b1 := cell_of (j := 1) t1' rfl
  have b2 := cell_of (j := 2) t1' rfl
  have b3 := cell_of (j := 3) t1' rfl
  have b4 := cell_of (j := 4) t1' rfl
  have b5 := cell_of (j := 5) t1' rfl
  have b6 := cell_of (j := 6) t1' rfl
  have e0 := cell_of (j := 0) t2 rfl
  have e1 := cell_of (j := 1) t2 rfl
  have e2 := cell_of (j := 2) t2 rfl
  have e3 := cell_of (j := 3) t2 rfl
  have e4 := cell_of (j := 4) t2 rfl
  have e5 := cell_of (j := 5) t2 rfl
  have e6 := cell_of (j := 6) t2 rfl
  have d0 := frozen_of (j := 0) t2
  have d1 := frozen_of (j := 1) t2
  have d2 := frozen_of (j := 2) t2
  have d3 := frozen_of (j := 3) t2
  have d4 := frozen_of (j := 4) t2
  have d5 := frozen_of (j := 5) t2
  have d6 := frozen_of (j := 6) t2
  clear hw1 hw2 hb1 hb2 t1 t2 t1' hs1 hp hr
  go_wp2_with fail
  have HZ : (((((((w2.setCell ⟨r, 0, none⟩ (.int .i64 0)).setCell ⟨r, 1, none⟩ (.int .i64 0)).setCell ⟨r, 2, none⟩ (.int .i64 0)).setCell ⟨r, 3, none⟩ (.int .i64 0)).setCell ⟨r, 4, none⟩ (.string ⟨#[]⟩)).setCell ⟨r, 5, none⟩ (.string ⟨#[]⟩)).setCell ⟨r, 6, none⟩ (.slice none 0 0)).heap[r]? = some (.cells #[.int .i64 0, .int .i64 0, .int .i64 0, .int .i64 0, .string ⟨#[]⟩, .string ⟨#[]⟩, .slice none 0 0] 70 (0, 0)) := by
    have q0 := heap_setCell_c HT4.out 0 (.int .i64 0)
    have q1 := heap_setCell_c q0 1 (.int .i64 0)
    have q2 := heap_setCell_c q1 2 (.int .i64 0)
    have q3 := heap_setCell_c q2 3 (.int .i64 0)
    have q4 := heap_setCell_c q3 4 (.string ⟨#[]⟩)
    have q5 := heap_setCell_c q4 5 (.string ⟨#[]⟩)
    have q6 := heap_setCell_c q5 6 (.slice none 0 0)
    simpa using q6
  have HBZ : Hid (Below w.heap.size w (((((((w2.setCell ⟨r, 0, none⟩ (.int .i64 0)).setCell ⟨r, 1, none⟩ (.int .i64 0)).setCell ⟨r, 2, none⟩ (.int .i64 0)).setCell ⟨r, 3, none⟩ (.int .i64 0)).setCell ⟨r, 4, none⟩ (.string ⟨#[]⟩)).setCell ⟨r, 5, none⟩ (.string ⟨#[]⟩)).setCell ⟨r, 6, none⟩ (.slice none 0 0))) := (below_setA (below_setA (below_setA (below_setA (below_setA (below_setA (below_setA HB.out HRW.out) HRW.out) HRW.out) HRW.out) HRW.out) HRW.out) HRW.out)
  generalize (((((((w2.setCell ⟨r, 0, none⟩ (.int .i64 0)).setCell ⟨r, 1, none⟩ (.int .i64 0)).setCell ⟨r, 2, none⟩ (.int .i64 0)).setCell ⟨r, 3, none⟩ (.int .i64 0)).setCell ⟨r, 4, none⟩ (.string ⟨#[]⟩)).setCell ⟨r, 5, none⟩ (.string ⟨#[]⟩)).setCell ⟨r, 6, none⟩ (.slice none 0 0)) = wz at HZ HBZ ⊢
  have gz0 := cell_of (j := 0) HZ rfl
  have gz1 := cell_of (j := 1) HZ rfl
  have gz2 := cell_of (j := 2) HZ rfl
  have gz3 := cell_of (j := 3) HZ rfl
  have gz4 := cell_of (j := 4) HZ rfl
  have gz5 := cell_of (j := 5) HZ rfl
  have gz6 := cell_of (j := 6) HZ rfl
  clear HZ HT4
  refine bodyPost_ret (v := .tuple #[.agg #[.int .i64 0, .int .i64 0, .int .i64 0, .int .i64 0, .string ⟨#[]⟩, .string ⟨#[]⟩, .slice none 0 0], .int .i64 1]) (by simp [results, Try.results86, go_sem, gz0, gz1, gz2, gz3, gz4, gz5, gz6]) rfl ?_
  exact ⟨rfl, HBZ.out⟩
set_option maxRecDepth 100000 in
set_option maxHeartbeats 4000000 in
theorem sized_via (wd f sz z r0 r1 r2 r3 E : Int) (nm col r4 r5 : ByteArray) (na ra : Option Addr) (nn nc rn rc : Nat) (ao : Option Addr) (n c : Nat) (w : World)
    (h : ∀ (p s : Nat) (W : World), Below w.heap.size w W → p < W.heap.size → s < W.heap.size → W.cell? ⟨p, 4, none⟩ = some (.string nm) → W.cell? ⟨s, 0, none⟩ = some (.int .i64 z) → Calls Try.prog 86 #[.agg #[.int .i64 0, .int .i64 wd, .int .i64 f, .int .i64 sz, .string nm, .string col, .slice na nn nc], .slice ao n c, .int .i64 z, .func (.func 87) #[] #[.pointer (some ⟨p, 0, none⟩), .pointer (some ⟨s, 0, none⟩)]] W (Makes (.tuple #[.agg #[.int .i64 r0, .int .i64 r1, .int .i64 r2, .int .i64 r3, .string r4, .string r5, .slice ra rn rc], .int .i64 E]) W)) :
    Calls Try.prog 58 #[.agg #[.int .i64 0, .int .i64 wd, .int .i64 f, .int .i64 sz, .string nm, .string col, .slice na nn nc], .slice ao n c, .int .i64 z] w (Makes (.tuple #[.agg #[.int .i64 r0, .int .i64 r1, .int .i64 r2, .int .i64 r3, .string r4, .string r5, .slice ra rn rc], .int .i64 E]) w) := by
  have hmf := make_func
  have HH := Lib.hid h
  clear h
  go_enter Try.func58, Try.ntmps58
  go_upto_region 1 with fail
  generalize hw1 : w.alloc _ = w1
  have hb1 : Below w.heap.size w w1 := by rw [← hw1]; exact (Below.refl _ _).alloc (Nat.le_refl _) _
  have t1 : w1.heap[w.heap.size]? = some (.cells #[.int .i64 0, .int .i64 wd, .int .i64 f, .int .i64 sz, .string nm, .string col, .slice na nn nc] 70 (0, 0)) := by rw [← hw1]; exact heap_alloc_new w _
  have hs1 : w1.heap.size = w.heap.size + 1 := by rw [← hw1]; simp
  generalize hw2 : w1.alloc _ = w2
  have hb2 : Below w1.heap.size w1 w2 := by rw [← hw2]; exact (Below.refl _ _).alloc (Nat.le_refl _) _
  have t2 : w2.heap[w1.heap.size]? = some (.cells #[.int .i64 z] 3 (0, 0)) := by rw [← hw2]; exact heap_alloc_new w1 _
  have hs2 : w2.heap.size = w.heap.size + 2 := by rw [← hw2]; simp; omega
  generalize hw3 : w2.alloc _ = w3
  have hb3 : Below w2.heap.size w2 w3 := by rw [← hw3]; exact (Below.refl _ _).alloc (Nat.le_refl _) _
  have t3 : w3.heap[w2.heap.size]? = some (.cells #[.int .i64 0, .int .i64 0, .int .i64 0, .int .i64 0, .string ⟨#[]⟩, .string ⟨#[]⟩, .slice none 0 0] 70 (0, 0)) := by rw [← hw3]; exact heap_alloc_new w2 _
  have t1' : w3.heap[w.heap.size]? = some (.cells #[.int .i64 0, .int .i64 wd, .int .i64 f, .int .i64 sz, .string nm, .string col, .slice na nn nc] 70 (0, 0)) := by rw [hb3.block _ (by omega), hb2.block _ (by omega)]; exact t1
  have t2' : w3.heap[w1.heap.size]? = some (.cells #[.int .i64 z] 3 (0, 0)) := by rw [hb3.block _ (by omega)]; exact t2
  have HB := Lib.hid ((hb1.trans (hb2.mono hb1.size)).trans (hb3.mono (by omega)))
  rw [hs1] at t2'
  rw [hs2] at t3
  obtain ⟨p, hp⟩ : ∃ p, w.heap.size = p := ⟨_, rfl⟩
  rw [hp] at t1' t2' t3
  obtain ⟨s, hs⟩ : ∃ s, p + 1 = s := ⟨_, rfl⟩
  obtain ⟨r, hr⟩ : ∃ r, p + 2 = r := ⟨_, rfl⟩
  have HRW : Hid (w.heap.size ≤ r) := by show _ ≤ _; omega
  rw [hs] at t2'
  rw [hr] at t3
  have hr' : s + 1 = r := by omega
  try simp only [hp, hs, hr']
  have HT3 := Lib.hid t3
  have b0 := cell_of (j := 0) t1' rfl
  have b1 := cell_of (j := 1) t1' rfl
  have b2 := cell_of (j := 2) t1' rfl
  have b3 := cell_of (j := 3) t1' rfl
  have b4 := cell_of (j := 4) t1' rfl
  have b5 := cell_of (j := 5) t1' rfl
  have b6 := cell_of (j := 6) t1' rfl
  have s0 := cell_of (j := 0) t2' rfl
  have HC := Lib.hid (HH.out p s w3 HB.out (Array.getElem?_eq_some_iff.1 t1').1 (Array.getElem?_eq_some_iff.1 t2').1 b4 s0)
  clear hw1 hw2 hw3 hb1 hb2 hb3 t1 t2 t3 t1' t2' hs1 hs2 hp hs hr hr' HH
  go_wp2_with fail
  refine HC.out.mono ?_
  rintro e w4 ⟨rfl, hb4⟩
  have t4 : w4.heap[r]? = some (.cells #[.int .i64 0, .int .i64 0, .int .i64 0, .int .i64 0, .string ⟨#[]⟩, .string ⟨#[]⟩, .slice none 0 0] 70 (0, 0)) := by rw [hb4.block r (Array.getElem?_eq_some_iff.1 HT3.out).1]; exact HT3.out
  have HB4 := Lib.hid (HB.out.trans (hb4.mono HB.out.size))
  have HT4 := Lib.hid t4
  clear b0 b1 b2 b3 b4 b5 b6 s0 hb4 HT3 HB HC
  have e0 := cell_of (j := 0) t4 rfl
  have e1 := cell_of (j := 1) t4 rfl
  have e2 := cell_of (j := 2) t4 rfl
  have e3 := cell_of (j := 3) t4 rfl
  have e4 := cell_of (j := 4) t4 rfl
  have e5 := cell_of (j := 5) t4 rfl
  have e6 := cell_of (j := 6) t4 rfl
  have d0 := frozen_of (j := 0) t4
  have d1 := frozen_of (j := 1) t4
  have d2 := frozen_of (j := 2) t4
  have d3 := frozen_of (j := 3) t4
  have d4 := frozen_of (j := 4) t4
  have d5 := frozen_of (j := 5) t4
  have d6 := frozen_of (j := 6) t4
  clear t4
  go_wp2_with fail
  have HZ : (((((((w4.setCell ⟨r, 0, none⟩ (.int .i64 r0)).setCell ⟨r, 1, none⟩ (.int .i64 r1)).setCell ⟨r, 2, none⟩ (.int .i64 r2)).setCell ⟨r, 3, none⟩ (.int .i64 r3)).setCell ⟨r, 4, none⟩ (.string r4)).setCell ⟨r, 5, none⟩ (.string r5)).setCell ⟨r, 6, none⟩ (.slice ra rn rc)).heap[r]? = some (.cells #[.int .i64 r0, .int .i64 r1, .int .i64 r2, .int .i64 r3, .string r4, .string r5, .slice ra rn rc] 70 (0, 0)) := by
    have q0 := heap_setCell_c HT4.out 0 (.int .i64 r0)
    have q1 := heap_setCell_c q0 1 (.int .i64 r1)
    have q2 := heap_setCell_c q1 2 (.int .i64 r2)
    have q3 := heap_setCell_c q2 3 (.int .i64 r3)
    have q4 := heap_setCell_c q3 4 (.string r4)
    have q5 := heap_setCell_c q4 5 (.string r5)
    have q6 := heap_setCell_c q5 6 (.slice ra rn rc)
    simpa using q6
  have HBZ : Hid (Below w.heap.size w (((((((w4.setCell ⟨r, 0, none⟩ (.int .i64 r0)).setCell ⟨r, 1, none⟩ (.int .i64 r1)).setCell ⟨r, 2, none⟩ (.int .i64 r2)).setCell ⟨r, 3, none⟩ (.int .i64 r3)).setCell ⟨r, 4, none⟩ (.string r4)).setCell ⟨r, 5, none⟩ (.string r5)).setCell ⟨r, 6, none⟩ (.slice ra rn rc))) := (below_setA (below_setA (below_setA (below_setA (below_setA (below_setA (below_setA HB4.out HRW.out) HRW.out) HRW.out) HRW.out) HRW.out) HRW.out) HRW.out)
  generalize (((((((w4.setCell ⟨r, 0, none⟩ (.int .i64 r0)).setCell ⟨r, 1, none⟩ (.int .i64 r1)).setCell ⟨r, 2, none⟩ (.int .i64 r2)).setCell ⟨r, 3, none⟩ (.int .i64 r3)).setCell ⟨r, 4, none⟩ (.string r4)).setCell ⟨r, 5, none⟩ (.string r5)).setCell ⟨r, 6, none⟩ (.slice ra rn rc)) = wz at HZ HBZ ⊢
  have gz0 := cell_of (j := 0) HZ rfl
  have gz1 := cell_of (j := 1) HZ rfl
  have gz2 := cell_of (j := 2) HZ rfl
  have gz3 := cell_of (j := 3) HZ rfl
  have gz4 := cell_of (j := 4) HZ rfl
  have gz5 := cell_of (j := 5) HZ rfl
  have gz6 := cell_of (j := 6) HZ rfl
  clear HZ HT4
  refine bodyPost_ret (v := .tuple #[.agg #[.int .i64 r0, .int .i64 r1, .int .i64 r2, .int .i64 r3, .string r4, .string r5, .slice ra rn rc], .int .i64 E]) (by simp [results, Try.results58, go_sem, gz0, gz1, gz2, gz3, gz4, gz5, gz6]) rfl ?_
  exact ⟨rfl, HBZ.out⟩
/-- A glyph of a font that has it, in a size. -/
theorem sized_has (wd sz z : Int) (f : Nat) (nm : List UInt8) (col : ByteArray) (na : Option Addr) (nn nc : Nat) (ao : Option Addr) (l : List FA) (c : Nat) (w : World) (h : Fonts ao l w) (hv : ∀ x ∈ l, validB x.F = true) (hf : f < l.length) (hz : sizeB z = true) (hh : hasB l[f]!.F.gs nm = true) :
    Calls Try.prog 58 #[.agg #[.int .i64 0, .int .i64 wd, .int .i64 f, .int .i64 sz, .string (mk8 nm), .string col, .slice na nn nc], .slice ao l.length c, .int .i64 z] w
      (Makes (.tuple #[.agg #[.int .i64 0, .int .i64 (scaleZ (widL l[f]!.F.gs nm) z), .int .i64 f, .int .i64 z, .string (mk8 nm), .string col, .slice na nn nc], .int .i64 0]) w) := by
  have hm : l[f]! ∈ l := by rw [getElem!_pos l f hf]; exact List.getElem_mem hf
  exact sized_via wd f sz z 0 _ f z 0 (mk8 nm) col (mk8 nm) col na na nn nc nn nc ao l.length c w (fun p s W hb hp hs cp cs =>
    asked_any 0 wd sz z _ f (mk8 nm) col na nn nc ao l c 87 #[.pointer (some ⟨p, 0, none⟩), .pointer (some ⟨s, 0, none⟩)] W (h.below hb) hf enters_z1 (fun W' hb' =>
      sz1_any l[f]! nm z p s W' (((h.ok _ hm).below hb).below hb') (hv _ hm) hz hh (Nat.lt_of_lt_of_le hp hb'.size) (Nat.lt_of_lt_of_le hs hb'.size) ((hb'.cell (p := ⟨p, 4, none⟩) hp).trans cp) ((hb'.cell (p := ⟨s, 0, none⟩) hs).trans cs)))
/-- A glyph that no font has. -/
theorem sized_out (wd f sz z : Int) (nm col : ByteArray) (na : Option Addr) (nn nc : Nat) (ao : Option Addr) (n c : Nat) (w : World) (hf : f < 0) :
    Calls Try.prog 58 #[.agg #[.int .i64 0, .int .i64 wd, .int .i64 f, .int .i64 sz, .string nm, .string col, .slice na nn nc], .slice ao n c, .int .i64 z] w (Makes (.tuple #[.agg #[.int .i64 0, .int .i64 0, .int .i64 0, .int .i64 0, .string ⟨#[]⟩, .string ⟨#[]⟩, .slice none 0 0], .int .i64 1]) w) :=
  sized_via wd f sz z 0 0 0 0 1 nm col ⟨#[]⟩ ⟨#[]⟩ na none nn nc 0 0 ao n c w (fun _ _ W _ _ _ _ _ => asked_out 0 wd f sz z nm col na nn nc ao n c _ W hf)
end Go.Proofs.Ytboophfcakdlcaa
