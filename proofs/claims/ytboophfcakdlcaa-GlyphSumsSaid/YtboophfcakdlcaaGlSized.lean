/- A glyph in a size: its width is asked of its font. -/
import Derived.Test.YtboophfcakdlcaaGlFonts
import Derived.Test.YtboophfcakdlcaaFtAs
import Derived.Deep.DeepCutAuto
namespace Go.Proofs.Ytboophfcakdlcaa
open Go.RowKit Go.PlainAid Go.Shelf

theorem below_setA {B : Nat} {a w : World} {p : Addr} {u : Value} (h : Below B a w) (hx : B ≤ p.block) : Below B a (w.setCell p u) :=
  ⟨h.os, h.tape, h.output, by simpa using h.size, fun k hk => by rw [Below.heap_setCell _ _ _ _ (by simp; omega)]; exact h.block k hk⟩
/-- The width of a name in a list of glyphs. -/
def widL (gs : List Gl) (nm : List UInt8) : Int := match gs.find? fun g => g.nm == nm with | some g => g.wd | none => 0
theorem has_index : ∀ {gs : List Gl} {nm : List UInt8}, hasB gs nm = true → ∃ i, i < gs.length ∧ gs[i]!.nm = nm ∧ (∀ j, j < i → gs[j]!.nm ≠ nm) ∧ widL gs nm = gs[i]!.wd
  | [], nm, h => by simp [hasB] at h
  | g :: r, nm, h => by
    by_cases e : g.nm = nm
    · refine ⟨0, by simp, e, fun j hj => absurd hj (Nat.not_lt_zero _), ?_⟩
      unfold widL
      rw [List.find?_cons_of_pos (by rw [e]; exact beq_self_eq_true _)]
      rfl
    · have hr : hasB r nm = true := by
        unfold hasB at h ⊢
        rw [List.any_cons] at h
        rw [beq_eq_false_iff_ne.2 e, Bool.false_or] at h
        exact h
      obtain ⟨i, h1, h2, h3, h4⟩ := has_index hr
      refine ⟨i + 1, by simpa using h1, by simpa using h2, fun j hj => ?_, ?_⟩
      · cases j with
        | zero => exact e
        | succ j => have := h3 j (by omega); simpa using this
      · unfold widL at h4 ⊢
        rw [List.find?_cons_of_neg (by rw [beq_eq_false_iff_ne.2 e]; exact Bool.false_ne_true), h4]
        simp
theorem width_has (x : FA) (nm : List UInt8) (z : Int) (w : World) (h : x.ok w) (hv : validB x.F = true) (hz : sizeB z = true) (hh : hasB x.F.gs nm = true) : Calls Try.prog 18 #[fontVal x, .string (mk8 nm), .int .i64 z] w (Makes (.tuple #[.int .i64 (scaleZ (widL x.F.gs nm) z), .int .i64 0]) w) := by
  obtain ⟨i, h1, h2, h3, h4⟩ := has_index hh
  rw [h4]
  exact width_found x nm z i w h hv hz h1 h2 h3
theorem enters_z1 (args : Array Value) (w : World) : (callFunc 87 args).run Try.prog w = .ok (.enter 87 args) w := by kernel_rfl
set_option maxRecDepth 100000 in
set_option maxHeartbeats 2000000 in
theorem sz1_any (x : FA) (nm : List UInt8) (z : Int) (pb ps : Nat) (w : World) (h : x.ok w) (hv : validB x.F = true) (hz : sizeB z = true) (hh : hasB x.F.gs nm = true) (hb : pb < w.heap.size) (hs : ps < w.heap.size) (cb : w.cell? ⟨pb, 4, none⟩ = some (.string (mk8 nm))) (cs : w.cell? ⟨ps, 0, none⟩ = some (.int .i64 z)) :
    Calls Try.prog 87 #[fontVal x, .pointer (some ⟨pb, 0, none⟩), .pointer (some ⟨ps, 0, none⟩)] w (Makes (.tuple #[.int .i64 (scaleZ (widL x.F.gs nm) z), .int .i64 0]) w) := by
  have H1 := Lib.hid (fun (W : World) (hb : Below w.heap.size w W) => width_has x nm z W (h.below hb) hv hz hh)
  obtain ⟨V, hV⟩ : ∃ V, scaleZ (widL x.F.gs nm) z = V := ⟨_, rfl⟩
  simp only [hV] at H1
  rw [hV]
  clear h hV hv hh hz
  obtain ⟨⟨fn, fs, fz, gs, ls, ks⟩, ag, al, ak, cg, cl, ck⟩ := x
  show Calls _ _ #[.agg #[.string (mk8 fn), .bool fs, .int .i64 fz, .slice ag gs.length cg, .slice al ls.length cl, .slice ak ks.length ck], .pointer (some ⟨pb, 0, none⟩), .pointer (some ⟨ps, 0, none⟩)] w _
  simp only [fontVal] at H1
  generalize mk8 fn = m1 at H1 ⊢
  generalize mk8 nm = m2 at H1 cb
  have hc := fun o => (Below.refl w.heap.size w).alloc (Nat.le_refl _) o
  go_enter Try.func87, Try.ntmps87
  go_upto_region 1 with fail
  generalize hw2 : w.alloc _ = w2
  have hb2 : Below w.heap.size w w2 := by rw [← hw2]; exact hc _
  have ht : w2.heap[w.heap.size]? = some (.cells #[.string m1, .bool fs, .int .i64 fz, .slice ag gs.length cg, .slice al ls.length cl, .slice ak ks.length ck] 37 (0, 0)) := by rw [← hw2]; exact heap_alloc_new w _
  have y4 := (hb2.cell (p := ⟨pb, 4, none⟩) hb).trans cb
  have y0 := (hb2.cell (p := ⟨ps, 0, none⟩) hs).trans cs
  have x0 := cell_of (j := 0) ht rfl
  have x1 := cell_of (j := 1) ht rfl
  have x2 := cell_of (j := 2) ht rfl
  have x3 := cell_of (j := 3) ht rfl
  have x4 := cell_of (j := 4) ht rfl
  have x5 := cell_of (j := 5) ht rfl
  have HB := Lib.hid hb2
  have HC := Lib.hid (H1.out w2 hb2)
  clear hw2 hb2 ht H1 hc hb hs cb cs
  go_wp2_with fail
  refine HC.out.mono ?_
  rintro e w3 ⟨rfl, hb3⟩
  have HB3 := Lib.hid (HB.out.trans (hb3.mono HB.out.size))
  clear hb3
  go_wp2_with fail
  go_ret2
  exact ⟨rfl, HB3.out⟩
set_option maxRecDepth 100000 in
set_option maxHeartbeats 4000000 in
theorem asked_any (k wd sz z Wd : Int) (f : Nat) (nm col : ByteArray) (na : Option Addr) (nn nc : Nat) (ao : Option Addr) (l : List FA) (c : Nat) (g : FuncId) (lb : Array Value) (w : World) (h : Fonts ao l w) (hf : f < l.length)
    (hcf : ∀ args w', (callFunc g args).run Try.prog w' = .ok (.enter g args) w') (ha : ∀ W, Below w.heap.size w W → Calls Try.prog g (#[fontVal l[f]!] ++ lb) W (Makes (.tuple #[.int .i64 Wd, .int .i64 0]) W)) :
    Calls Try.prog 86 #[.agg #[.int .i64 k, .int .i64 wd, .int .i64 f, .int .i64 sz, .string nm, .string col, .slice na nn nc], .slice ao l.length c, .int .i64 z, .func (.func g) #[] lb] w (Makes (.tuple #[.agg #[.int .i64 k, .int .i64 Wd, .int .i64 f, .int .i64 z, .string nm, .string col, .slice na nn nc], .int .i64 0]) w) := by
  have HA := Lib.hid ha
  have hlt : (f : Int) < l.length := by omega
  have hz0 : (0 : Int) ≤ f := by omega
  have hfew := h.few
  obtain ⟨b, off, rfl, hb, hc⟩ := h.at_
  have hx := hc f hf
  obtain ⟨X, hX⟩ : ∃ X, l[f]! = X := ⟨_, rfl⟩
  simp only [hX] at HA hx
  clear ha h hX hc hf
  obtain ⟨⟨fn, fs, fz, gs, ls, ks⟩, ag, al, ak, cg, cl, ck⟩ := X
  have x0 := hx 0 _ rfl
  have x1 := hx 1 _ rfl
  have x2 := hx 2 _ rfl
  have x3 := hx 3 _ rfl
  have x4 := hx 4 _ rfl
  have x5 := hx 5 _ rfl
  simp only [fontVal] at HA
  simp only [Nat.add_zero] at x0 x1 x2 x3 x4 x5
  generalize mk8 fn = m1 at HA x0
  generalize l.length = n at hlt hfew ⊢
  clear hx
  go_enter Try.func86, Try.ntmps86
  go_upto_region 1 with fail
  generalize hw1 : w.alloc _ = w1
  have hb1 : Below w.heap.size w w1 := by rw [← hw1]; exact (Below.refl _ _).alloc (Nat.le_refl _) _
  have t1 : w1.heap[w.heap.size]? = some (.cells #[.int .i64 k, .int .i64 wd, .int .i64 f, .int .i64 sz, .string nm, .string col, .slice na nn nc] 70 (0, 0)) := by rw [← hw1]; exact heap_alloc_new w _
  have hs1 : w1.heap.size = w.heap.size + 1 := by rw [← hw1]; simp
  generalize hw2 : w1.alloc _ = w2
  have hb2 : Below w1.heap.size w1 w2 := by rw [← hw2]; exact (Below.refl _ _).alloc (Nat.le_refl _) _
  have t2 : w2.heap[w1.heap.size]? = some (.cells #[.int .i64 0, .int .i64 0, .int .i64 0, .int .i64 0, .string ⟨#[]⟩, .string ⟨#[]⟩, .slice none 0 0] 70 (0, 0)) := by rw [← hw2]; exact heap_alloc_new w1 _
  have t1' : w2.heap[w.heap.size]? = some (.cells #[.int .i64 k, .int .i64 wd, .int .i64 f, .int .i64 sz, .string nm, .string col, .slice na nn nc] 70 (0, 0)) := by rw [hb2.block _ (by omega)]; exact t1
  have HB := Lib.hid (hb1.trans (hb2.mono hb1.size))
  rw [hs1] at t2
  obtain ⟨p, hp⟩ : ∃ p, w.heap.size = p := ⟨_, rfl⟩
  obtain ⟨r, hr⟩ : ∃ r, p + 1 = r := ⟨_, rfl⟩
  have HPW : Hid (w.heap.size = p) := hp
  rw [hp] at t1' t2
  rw [hr] at t2
  try simp only [hp, hr]
  have hpr : p ≠ r := by omega
  have hbb : b < p := by omega
  have HT1 := Lib.hid t1'
  have HT2 := Lib.hid t2
  have cx := fun (i : Nat) => HB.out.cell (p := ⟨b, off + f * 6 + i, none⟩) hb
  have y0 := (cx 0).trans x0
  have y1 := (cx 1).trans x1
  have y2 := (cx 2).trans x2
  have y3 := (cx 3).trans x3
  have y4 := (cx 4).trans x4
  have y5 := (cx 5).trans x5
  simp only [Nat.add_zero] at y0
  have b0 := cell_of (j := 0) t1' rfl
  have b1 := cell_of (j := 1) t1' rfl
  have b2 := cell_of (j := 2) t1' rfl
  have b3 := cell_of (j := 3) t1' rfl
  have b4 := cell_of (j := 4) t1' rfl
  have b5 := cell_of (j := 5) t1' rfl
  have b6 := cell_of (j := 6) t1' rfl
  clear hw1 hw2 hb1 hb2 t1 t2 t1' hs1 hp x0 x1 x2 x3 x4 x5 cx hb
  go_wp2_with fail
  refine (HA.out _ HB.out).mono ?_
  rintro e w3 ⟨rfl, hb3⟩
  have HB3 := Lib.hid (HB.out.trans (hb3.mono HB.out.size))
  have t1 : w3.heap[p]? = some (.cells #[.int .i64 k, .int .i64 wd, .int .i64 f, .int .i64 sz, .string nm, .string col, .slice na nn nc] 70 (0, 0)) := by rw [hb3.block p (Array.getElem?_eq_some_iff.1 HT1.out).1]; exact HT1.out
  have t2 : w3.heap[r]? = some (.cells #[.int .i64 0, .int .i64 0, .int .i64 0, .int .i64 0, .string ⟨#[]⟩, .string ⟨#[]⟩, .slice none 0 0] 70 (0, 0)) := by rw [hb3.block r (Array.getElem?_eq_some_iff.1 HT2.out).1]; exact HT2.out
  clear b0 b1 b2 b3 b4 b5 b6 y0 y1 y2 y3 y4 y5 HT1 HT2 hb3
  have HT1 := Lib.hid t1
  have HT2 := Lib.hid t2
  have b0 := cell_of (j := 0) t1 rfl
  have b1 := cell_of (j := 1) t1 rfl
  have b2 := cell_of (j := 2) t1 rfl
  have b3 := cell_of (j := 3) t1 rfl
  have b4 := cell_of (j := 4) t1 rfl
  have b5 := cell_of (j := 5) t1 rfl
  have b6 := cell_of (j := 6) t1 rfl
  have d0 := frozen_of (j := 0) t1
  have d1 := frozen_of (j := 1) t1
  have d2 := frozen_of (j := 2) t1
  have d3 := frozen_of (j := 3) t1
  have d4 := frozen_of (j := 4) t1
  have d5 := frozen_of (j := 5) t1
  have d6 := frozen_of (j := 6) t1
  clear t1 t2
  go_upto_region 7 with fail
  have HRW : Hid (w.heap.size ≤ r) := by have := HPW.out; show _ ≤ _; omega
  have k1 := heap_setCell_c HT1.out 3 (.int .i64 z)
  have k2 := heap_setCell_c k1 1 (.int .i64 Wd)
  have k3 : ((w3.setCell ⟨p, 3, none⟩ (.int .i64 z)).setCell ⟨p, 1, none⟩ (.int .i64 Wd)).heap[p]? = some (.cells #[.int .i64 k, .int .i64 Wd, .int .i64 f, .int .i64 z, .string nm, .string col, .slice na nn nc] 70 (0, 0)) := by simpa using k2
  have k4 : ((w3.setCell ⟨p, 3, none⟩ (.int .i64 z)).setCell ⟨p, 1, none⟩ (.int .i64 Wd)).heap[r]? = some (.cells #[.int .i64 0, .int .i64 0, .int .i64 0, .int .i64 0, .string ⟨#[]⟩, .string ⟨#[]⟩, .slice none 0 0] 70 (0, 0)) := by rw [Below.heap_setCell _ _ _ _ (by simpa using Ne.symm hpr), Below.heap_setCell _ _ _ _ (by simpa using Ne.symm hpr)]; exact HT2.out
  have HB4 : Hid (Below w.heap.size w ((w3.setCell ⟨p, 3, none⟩ (.int .i64 z)).setCell ⟨p, 1, none⟩ (.int .i64 Wd))) := below_setA (below_setA HB3.out (by show w.heap.size ≤ p; rw [HPW.out]; exact Nat.le_refl _)) (by show w.heap.size ≤ p; rw [HPW.out]; exact Nat.le_refl _)
  clear k1 k2 b0 b1 b2 b3 b4 b5 b6 d0 d1 d2 d3 d4 d5 d6 HT1 HT2 HB3
  generalize (w3.setCell ⟨p, 3, none⟩ (.int .i64 z)).setCell ⟨p, 1, none⟩ (.int .i64 Wd) = w4 at k3 k4 HB4 ⊢
  have HT4 := Lib.hid k4
  have b0 := cell_of (j := 0) k3 rfl
  have b1 := cell_of (j := 1) k3 rfl
  have b2 := cell_of (j := 2) k3 rfl
  have b3 := cell_of (j := 3) k3 rfl
  have b4 := cell_of (j := 4) k3 rfl
  have b5 := cell_of (j := 5) k3 rfl
  have b6 := cell_of (j := 6) k3 rfl
  have e0 := cell_of (j := 0) k4 rfl
  have e1 := cell_of (j := 1) k4 rfl
  have e2 := cell_of (j := 2) k4 rfl
  have e3 := cell_of (j := 3) k4 rfl
  have e4 := cell_of (j := 4) k4 rfl
  have e5 := cell_of (j := 5) k4 rfl
  have e6 := cell_of (j := 6) k4 rfl
  have d0 := frozen_of (j := 0) k4
  have d1 := frozen_of (j := 1) k4
  have d2 := frozen_of (j := 2) k4
  have d3 := frozen_of (j := 3) k4
  have d4 := frozen_of (j := 4) k4
  have d5 := frozen_of (j := 5) k4
  have d6 := frozen_of (j := 6) k4
  clear k3 k4
  go_wp2_with fail
  have HZ : (((((((w4.setCell ⟨r, 0, none⟩ (.int .i64 k)).setCell ⟨r, 1, none⟩ (.int .i64 Wd)).setCell ⟨r, 2, none⟩ (.int .i64 f)).setCell ⟨r, 3, none⟩ (.int .i64 z)).setCell ⟨r, 4, none⟩ (.string nm)).setCell ⟨r, 5, none⟩ (.string col)).setCell ⟨r, 6, none⟩ (.slice na nn nc)).heap[r]? = some (.cells #[.int .i64 k, .int .i64 Wd, .int .i64 f, .int .i64 z, .string nm, .string col, .slice na nn nc] 70 (0, 0)) := by
    have q0 := heap_setCell_c HT4.out 0 (.int .i64 k)
    have q1 := heap_setCell_c q0 1 (.int .i64 Wd)
    have q2 := heap_setCell_c q1 2 (.int .i64 f)
    have q3 := heap_setCell_c q2 3 (.int .i64 z)
    have q4 := heap_setCell_c q3 4 (.string nm)
    have q5 := heap_setCell_c q4 5 (.string col)
    have q6 := heap_setCell_c q5 6 (.slice na nn nc)
    simpa using q6
  have HBZ : Hid (Below w.heap.size w (((((((w4.setCell ⟨r, 0, none⟩ (.int .i64 k)).setCell ⟨r, 1, none⟩ (.int .i64 Wd)).setCell ⟨r, 2, none⟩ (.int .i64 f)).setCell ⟨r, 3, none⟩ (.int .i64 z)).setCell ⟨r, 4, none⟩ (.string nm)).setCell ⟨r, 5, none⟩ (.string col)).setCell ⟨r, 6, none⟩ (.slice na nn nc))) := below_setA (below_setA (below_setA (below_setA (below_setA (below_setA (below_setA HB4.out HRW.out) HRW.out) HRW.out) HRW.out) HRW.out) HRW.out) HRW.out
  generalize (((((((w4.setCell ⟨r, 0, none⟩ (.int .i64 k)).setCell ⟨r, 1, none⟩ (.int .i64 Wd)).setCell ⟨r, 2, none⟩ (.int .i64 f)).setCell ⟨r, 3, none⟩ (.int .i64 z)).setCell ⟨r, 4, none⟩ (.string nm)).setCell ⟨r, 5, none⟩ (.string col)).setCell ⟨r, 6, none⟩ (.slice na nn nc)) = wz at HZ HBZ ⊢
  have gz0 := cell_of (j := 0) HZ rfl
  have gz1 := cell_of (j := 1) HZ rfl
  have gz2 := cell_of (j := 2) HZ rfl
  have gz3 := cell_of (j := 3) HZ rfl
  have gz4 := cell_of (j := 4) HZ rfl
  have gz5 := cell_of (j := 5) HZ rfl
  have gz6 := cell_of (j := 6) HZ rfl
  clear HZ HT4
  refine bodyPost_ret (v := .tuple #[.agg #[.int .i64 k, .int .i64 Wd, .int .i64 f, .int .i64 z, .string nm, .string col, .slice na nn nc], .int .i64 0]) (by simp [results, Try.results86, go_sem, gz0, gz1, gz2, gz3, gz4, gz5, gz6]) rfl ?_
  exact ⟨rfl, HBZ.out⟩
end Go.Proofs.Ytboophfcakdlcaa
