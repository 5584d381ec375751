/- Widths at a size. -/
import Derived.Test.YtboophfcakdlcaaFtValid
import Derived.Deep.DeepCutAuto
namespace Go.Proofs.Ytboophfcakdlcaa
open Go.RowKit Go.PlainAid Go.Shelf

def sizeB (z : Int) : Bool := decide (1 ≤ z) && decide (z ≤ 1000)
theorem size_any (z : Int) (w : World) : Calls Try.prog 75 #[.int .i64 z] w (Says (.bool (sizeB z)) w) := by
  unfold sizeB
  cases d1 : decide (1 ≤ z) <;> cases d2 : decide (z ≤ 1000) <;>
    (go_enter Try.func75, Try.ntmps75; go_wp2_with fail; go_ret; exact ⟨rfl, rfl⟩)
theorem down_neg {p : Int} (h : p.tmod 1000 < 0) : p.tdiv 1000 - 1 = p / 1000 := by
  rcases Int.lt_or_le p 0 with hp | hp
  · obtain ⟨n, rfl⟩ : ∃ n : Int, p = -n := ⟨-p, by omega⟩
    rw [Int.neg_tmod, Int.tmod_eq_emod_of_nonneg (by omega)] at h
    rw [Int.neg_tdiv, Int.tdiv_eq_ediv_of_nonneg (by omega)]
    omega
  · rw [Int.tmod_eq_emod_of_nonneg hp] at h
    omega
theorem down_pos {p : Int} (h : ¬ p.tmod 1000 < 0) : p.tdiv 1000 = p / 1000 := by
  rcases Int.lt_or_le p 0 with hp | hp
  · obtain ⟨n, rfl⟩ : ∃ n : Int, p = -n := ⟨-p, by omega⟩
    rw [Int.neg_tmod, Int.tmod_eq_emod_of_nonneg (by omega)] at h
    rw [Int.neg_tdiv, Int.tdiv_eq_ediv_of_nonneg (by omega)]
    omega
  · exact Int.tdiv_eq_ediv_of_nonneg hp
theorem part_range {n z : Int} (h1 : -3000 ≤ n) (h2 : n ≤ 3000) (h3 : 1 ≤ z) (h4 : z ≤ 1000) : -30000000 ≤ 10 * z * n ∧ 10 * z * n ≤ 30000000 := by
  have a : 0 ≤ (n + 3000) * z := Int.mul_nonneg (by omega) (by omega)
  have b : 0 ≤ (3000 - n) * z := Int.mul_nonneg (by omega) (by omega)
  rw [Int.add_mul] at a
  rw [Int.sub_mul] at b
  have e : 10 * z * n = 10 * (n * z) := by rw [Int.mul_assoc, Int.mul_comm z n]
  rw [e]
  omega
set_option maxRecDepth 100000 in
set_option maxHeartbeats 2000000 in
theorem scale_any (n z : Int) (h1 : -3000 ≤ n) (h2 : n ≤ 3000) (h3 : 1 ≤ z) (h4 : z ≤ 1000) (w : World) : Calls Try.prog 48 #[.int .i64 n, .int .i64 z] w (Says (.tuple #[.int .i64 (scaleZ n z), .int .i64 0]) w) := by
  have HS := Lib.hid (fun w => size_any z w)
  have hsz : sizeB z = true := by unfold sizeB; rw [decide_eq_true h3, decide_eq_true h4]; rfl
  simp only [hsz] at HS
  have d1 : decide (n < -3000) = false := decide_eq_false (by omega)
  have d2 : decide (3000 < n) = false := decide_eq_false (by omega)
  obtain ⟨b1, b2⟩ := part_range h1 h2 h3 h4
  unfold scaleZ
  have w1 : IntKind.i64.wrap (10 * z) = 10 * z := by simp [IntKind.wrap, IntKind.bits, IntKind.signed]; omega
  obtain ⟨p, hp⟩ : ∃ p, 10 * z * n = p := ⟨_, rfl⟩
  rw [hp] at b1 b2 ⊢
  have w2 : IntKind.i64.wrap (10 * z * n) = p := by rw [hp]; simp [IntKind.wrap, IntKind.bits, IntKind.signed]; omega
  have q1 : -30001 ≤ p / 1000 ∧ p / 1000 ≤ 30001 := by omega
  by_cases h0 : p.tmod 1000 < 0
  · have HV := Lib.hid (down_neg h0)
    have d3 : decide (p.tmod 1000 < 0) = true := decide_eq_true h0
    obtain ⟨t, ht⟩ : ∃ t, p.tdiv 1000 = t := ⟨_, rfl⟩
    have HT := Lib.hid ht
    have ht3 : -40000 ≤ t ∧ t ≤ 40000 := by have := HV.out; rw [ht] at this; omega
    have w3 : IntKind.i64.wrap (p.tdiv 1000) = t := by rw [ht]; simp [IntKind.wrap, IntKind.bits, IntKind.signed]; omega
    have w4 : IntKind.i64.wrap (t - 1) = t - 1 := by simp [IntKind.wrap, IntKind.bits, IntKind.signed]; omega
    clear hsz hp ht h0
    go_enter Try.func48, Try.ntmps48
    go_wp2_with fail
    refine (HS.out _).mono ?_
    rintro e v1 ⟨rfl, rfl⟩
    go_wp2_with fail
    go_ret2
    exact ⟨by rw [← HV.out, HT.out]; rfl, rfl⟩
  · have HV := Lib.hid (down_pos h0)
    have d3 : decide (p.tmod 1000 < 0) = false := decide_eq_false h0
    obtain ⟨t, ht⟩ : ∃ t, p.tdiv 1000 = t := ⟨_, rfl⟩
    have HT := Lib.hid ht
    have ht3 : -40000 ≤ t ∧ t ≤ 40000 := by have := HV.out; rw [ht] at this; omega
    have w3 : IntKind.i64.wrap (p.tdiv 1000) = t := by rw [ht]; simp [IntKind.wrap, IntKind.bits, IntKind.signed]; omega
    clear hsz hp ht h0
    go_enter Try.func48, Try.ntmps48
    go_wp2_with fail
    refine (HS.out _).mono ?_
    rintro e v1 ⟨rfl, rfl⟩
    go_wp2_with fail
    go_ret2
    exact ⟨by rw [← HV.out, HT.out]; rfl, rfl⟩
set_option maxRecDepth 100000 in
set_option maxHeartbeats 2000000 in
theorem argError_any (x : FA) (z : Int) (w : World) (h : x.ok w) (hv : validB x.F = true) (hz : sizeB z = true) : Calls Try.prog 47 #[fontVal x, .int .i64 z] w (Makes (.int .i64 0) w) := by
  have H1 := Lib.hid (fun (W : World) (hb : Below w.heap.size w W) => valid_any x W (h.below hb))
  have H2 := Lib.hid (fun w => size_any z w)
  simp only [hv] at H1
  simp only [hz] at H2
  clear h hv hz
  obtain ⟨⟨fn, fs, fz, gs, ls, ks⟩, ag, al, ak, cg, cl, ck⟩ := x
  have H1 : Hid (∀ (W : World), Below w.heap.size w W → Calls Try.prog 13 #[.agg #[.string (mk8 fn), .bool fs, .int .i64 fz, .slice ag gs.length cg, .slice al ls.length cl, .slice ak ks.length ck]] W (Makes (.bool true) W)) := H1.out
  show Calls _ _ #[.agg #[.string (mk8 fn), .bool fs, .int .i64 fz, .slice ag gs.length cg, .slice al ls.length cl, .slice ak ks.length ck], .int .i64 z] w _
  go_enter Try.func47, Try.ntmps47
  go_upto_region 1 with fail
  generalize hw2 : w.alloc _ = w2
  have hb2 : Below w.heap.size w w2 := by rw [← hw2]; exact (Below.refl _ _).alloc (Nat.le_refl _) _
  have ht : w2.heap[w.heap.size]? = some (.cells #[.string (mk8 fn), .bool fs, .int .i64 fz, .slice ag gs.length cg, .slice al ls.length cl, .slice ak ks.length ck] 37 (0, 0)) := by rw [← hw2]; exact heap_alloc_new w _
  have x0 := cell_of (j := 0) ht rfl
  have x1 := cell_of (j := 1) ht rfl
  have x2 := cell_of (j := 2) ht rfl
  have x3 := cell_of (j := 3) ht rfl
  have x4 := cell_of (j := 4) ht rfl
  have x5 := cell_of (j := 5) ht rfl
  have HB := Lib.hid hb2
  have HC := Lib.hid (H1.out w2 hb2)
  clear hw2 hb2 ht H1
  go_wp2_with fail
  refine HC.out.mono ?_
  rintro e w3 ⟨rfl, hb3⟩
  have HB3 := Lib.hid (HB.out.trans (hb3.mono HB.out.size))
  clear hb3
  go_wp2_with fail
  refine (H2.out _).mono ?_
  rintro e w4 ⟨rfl, rfl⟩
  go_wp2_with fail
  go_ret
  exact ⟨rfl, HB3.out⟩
theorem valid_widths {F : FontL} (h : validB F = true) : ∀ k, k < F.gs.length → 0 ≤ F.gs[k]!.wd ∧ F.gs[k]!.wd ≤ 3000 := fun k hk => by
  unfold validB glyphsB at h
  simp only [Bool.and_eq_true, List.all_eq_true] at h
  have := h.1.1.2.2 F.gs[k]! (by rw [getElem!_pos F.gs k hk]; exact List.getElem_mem hk)
  unfold widthB at this
  simp only [Bool.and_eq_true, decide_eq_true_eq] at this
  exact this.2
set_option maxRecDepth 100000 in
set_option maxHeartbeats 4000000 in
theorem width_found (x : FA) (nm : List UInt8) (z : Int) (i : Nat) (w : World) (h : x.ok w) (hv : validB x.F = true) (hz : sizeB z = true) (hi : i < x.F.gs.length) (hm : x.F.gs[i]!.nm = nm) (hne : ∀ j, j < i → x.F.gs[j]!.nm ≠ nm) :
    Calls Try.prog 18 #[fontVal x, .string (mk8 nm), .int .i64 z] w (Makes (.tuple #[.int .i64 (scaleZ x.F.gs[i]!.wd z), .int .i64 0]) w) := by
  have H1 := Lib.hid (fun (W : World) (hb : Below w.heap.size w W) => argError_any x z W (h.below hb) hv hz)
  have hwd := valid_widths hv i hi
  have hzz : 1 ≤ z ∧ z ≤ 1000 := by
    unfold sizeB at hz
    simpa only [Bool.and_eq_true, decide_eq_true_eq] using hz
  have H2 := Lib.hid (fun w => scale_any x.F.gs[i]!.wd z (by omega) (by omega) hzz.1 hzz.2 w)
  have hlen : x.F.gs.length ≤ 400 := by
    have hv2 := hv
    unfold validB at hv2
    simp only [Bool.and_eq_true] at hv2
    exact (glyphs_facts hv2.1.1.2).1
  have HR := Lib.hid h.gs
  clear h hv hz hwd hzz
  obtain ⟨⟨fn, fs, fz, gs, ls, ks⟩, ag, al, ak, cg, cl, ck⟩ := x
  simp only at hi hm hne H2 HR hlen ⊢
  have H1 : Hid (∀ (W : World), Below w.heap.size w W → Calls Try.prog 47 #[.agg #[.string (mk8 fn), .bool fs, .int .i64 fz, .slice ag gs.length cg, .slice al ls.length cl, .slice ak ks.length ck], .int .i64 z] W (Makes (.int .i64 0) W)) := H1.out
  show Calls _ _ #[.agg #[.string (mk8 fn), .bool fs, .int .i64 fz, .slice ag gs.length cg, .slice al ls.length cl, .slice ak ks.length ck], .string (mk8 nm), .int .i64 z] w _
  obtain ⟨Z, hZ⟩ : ∃ Z, scaleZ gs[i]!.wd z = Z := ⟨_, rfl⟩
  simp only [hZ] at H2
  rw [hZ]
  have HM := Lib.hid hm
  have HNe := Lib.hid hne
  have HN : Hid ((mk8 nm).toList = nm) := mk8_list nm
  obtain ⟨sm, hsm⟩ : ∃ s, mk8 nm = s := ⟨_, rfl⟩
  rw [hsm] at HN ⊢
  clear hZ hm hne hsm
  go_enter Try.func18, Try.ntmps18
  go_upto_region 1 with fail
  generalize hw2 : w.alloc _ = w2
  have hb2 : Below w.heap.size w w2 := by rw [← hw2]; exact (Below.refl _ _).alloc (Nat.le_refl _) _
  have ht : w2.heap[w.heap.size]? = some (.cells #[.string (mk8 fn), .bool fs, .int .i64 fz, .slice ag gs.length cg, .slice al ls.length cl, .slice ak ks.length ck] 37 (0, 0)) := by rw [← hw2]; exact heap_alloc_new w _
  have x0 := cell_of (j := 0) ht rfl
  have x1 := cell_of (j := 1) ht rfl
  have x2 := cell_of (j := 2) ht rfl
  have x3 := cell_of (j := 3) ht rfl
  have x4 := cell_of (j := 4) ht rfl
  have x5 := cell_of (j := 5) ht rfl
  have HB := Lib.hid hb2
  have HT := Lib.hid ht
  have HC := Lib.hid (H1.out w2 hb2)
  clear hw2 hb2 ht H1
  go_wp2_with fail
  refine HC.out.mono ?_
  rintro e w3 ⟨rfl, hb3⟩
  have hl := (Array.getElem?_eq_some_iff.1 HT.out).1
  have ht3 := hb3.block _ hl
  rw [HT.out] at ht3
  have y3 := cell_of (j := 3) ht3 rfl
  have HB3 := Lib.hid (HB.out.trans (hb3.mono HB.out.size))
  clear hb3 ht3 hl HT HC HB x0 x1 x2 x3 x4 x5
  go_wp2_with fail
  go_loopw [20] (fun s wr => ∃ k : Nat, k ≤ i ∧ s = .int .i64 k ∧ Hid (Below w.heap.size w wr)) (fun s _ => gs.length - (intOf s).toNat)
  case atStart => exact ⟨0, by omega, rfl, HB3⟩
  case round =>
    obtain ⟨k, hk, rfl, hbl⟩ := hrel
    obtain ⟨b, off, ha, hr⟩ := HR.out.below hbl.out
    obtain ⟨rfl, hbw⟩ := ha (by omega)
    obtain ⟨x, hx⟩ : ∃ x, gs[k]! = x := ⟨_, rfl⟩
    have r1 := hr k (by omega)
    rw [hx] at r1
    obtain ⟨a, m⟩ := x
    have c0 := r1 0 _ rfl
    have c1 := r1 1 _ rfl
    rw [Nat.add_zero] at c0
    simp only at c0 c1
    have hz1 : (k : Int) < gs.length := by omega
    have e1 : ((mk8 a).toList == sm.toList) = (a == nm) := by rw [mk8_list, HN.out]
    have HX := Lib.hid hx
    obtain ⟨sa, hsa⟩ : ∃ s, mk8 a = s := ⟨_, rfl⟩
    rw [hsa] at c0 e1
    clear hx r1 hr ha hsa
    by_cases hki : k = i
    · subst hki
      have d1 : (a == nm) = true := by
        have := HM.out
        rw [HX.out] at this
        simpa using this
      rw [d1] at e1
      have hmw : Hid (gs[k]!.wd = m) := by show _ = _; rw [HX.out]
      rw [hmw.out] at H2
      clear d1 HM HNe HX hmw
      go_upto_region 7 with fail
      generalize hw4 : wr.alloc _ = w4
      have hb4 : Below wr.heap.size wr w4 := by rw [← hw4]; exact (Below.refl _ _).alloc (Nat.le_refl _) _
      have hcell : w4.heap[wr.heap.size]? = some (.cells #[.string sa, .int .i64 m] 44 (0, 0)) := by rw [← hw4]; exact heap_alloc_new wr _
      have HB4 := Lib.hid (hbl.out.trans (hb4.mono hbl.out.size))
      have f0 := cell_of (j := 0) hcell rfl
      have f1 := cell_of (j := 1) hcell rfl
      obtain ⟨q, hq⟩ : ∃ q, wr.heap.size = q := ⟨_, rfl⟩
      rw [hq] at f0 f1
      rw [hq]
      clear hw4 hb4 hcell hbl hq c0 c1
      go_wp2_with fail
      refine (H2.out _).mono ?_
      rintro e w5 ⟨rfl, rfl⟩
      go_wp2_with fail
      go_ret2
      exact ⟨rfl, HB4.out⟩
    · have d1 : (a == nm) = false := by
        have := HNe.out k (by omega)
        rw [HX.out] at this
        simpa using this
      rw [d1] at e1
      clear d1 HX
      go_upto_region 7 with fail
      generalize hw4 : wr.alloc _ = w4
      have hb4 : Below wr.heap.size wr w4 := by rw [← hw4]; exact (Below.refl _ _).alloc (Nat.le_refl _) _
      have hcell : w4.heap[wr.heap.size]? = some (.cells #[.string sa, .int .i64 m] 44 (0, 0)) := by rw [← hw4]; exact heap_alloc_new wr _
      have HB4 := Lib.hid (hbl.out.trans (hb4.mono hbl.out.size))
      have f0 := cell_of (j := 0) hcell rfl
      have f1 := cell_of (j := 1) hcell rfl
      obtain ⟨q, hq⟩ : ∃ q, wr.heap.size = q := ⟨_, rfl⟩
      rw [hq] at f0 f1
      rw [hq]
      clear hw4 hb4 hcell hbl hq c0 c1
      go_wp2_with fail
      go_roundw
      case rel => exact ⟨k + 1, by omega, by go_num, HB4⟩
      case measure => simp [intOf]; omega
end Go.Proofs.Ytboophfcakdlcaa
