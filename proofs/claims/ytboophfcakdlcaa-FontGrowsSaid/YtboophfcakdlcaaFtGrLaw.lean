/- FontGrows's law, walked. -/
import Derived.Test.YtboophfcakdlcaaFtAll
import Derived.BigQuiet
import Derived.Deep.DeepCutAuto
namespace Go.Proofs.Ytboophfcakdlcaa
open Go.RowKit Go.PlainAid Go.Shelf

theorem modN (a : Int) (m : Nat) (hm : 0 < m) (hm2 : m ≤ 1000000) : ∃ n : Nat, wrap64 ((IntKind.u64.wrap a).tmod m) = n ∧ IntKind.i64.wrap ((IntKind.u64.wrap a).tmod m) = n ∧ n < m := by
  have hu : 0 ≤ IntKind.u64.wrap a := by rw [IntKind.wrap_u64]; omega
  have e : (IntKind.u64.wrap a).tmod m = IntKind.u64.wrap a % m := Int.tmod_eq_emod_of_nonneg hu
  have l0 := Int.emod_nonneg (IntKind.u64.wrap a) (show (m : Int) ≠ 0 by omega)
  have l1 := Int.emod_lt_of_pos (IntKind.u64.wrap a) (show (0 : Int) < m by omega)
  refine ⟨(IntKind.u64.wrap a % m).toNat, ?_, ?_, by omega⟩
  · rw [e, IntWalk.wrap64_in _ (by omega)]
    exact (Int.toNat_of_nonneg l0).symm
  · rw [e, IntWalk.i64_in _ (by omega)]
    exact (Int.toNat_of_nonneg l0).symm
theorem scale_up {n s t : Int} (hn : 0 ≤ n) (hst : s ≤ t) : scaleZ n s ≤ scaleZ n t := by
  unfold scaleZ
  refine Int.ediv_le_ediv (by omega) ?_
  exact Int.mul_le_mul_of_nonneg_right (by omega) hn
theorem scale_two {n s : Int} : 2 * scaleZ n s ≤ scaleZ n (2 * s) := by
  unfold scaleZ
  have h := Int.emod_add_mul_ediv (10 * s * n) 1000
  have h0 := Int.emod_nonneg (10 * s * n) (show (1000 : Int) ≠ 0 by omega)
  have e : 10 * (2 * s) * n = 2 * (10 * s * n) := by rw [show 10 * (2 * s) = 2 * (10 * s) by omega, Int.mul_assoc]
  rw [e]
  generalize 10 * s * n = X at *
  omega
theorem scale_small {n s : Int} (h0 : 0 ≤ n) (h1 : n ≤ 3000) (h2 : 1 ≤ s) (h3 : s ≤ 1000) : 0 ≤ scaleZ n s ∧ scaleZ n s ≤ 30000 := by
  unfold scaleZ
  have a : 0 ≤ 10 * s * n := Int.mul_nonneg (by omega) h0
  have b : 10 * s * n ≤ 10000 * 3000 := Int.mul_le_mul (by omega) h1 h0 (by omega)
  omega
theorem below_dN {B : Nat} {w w' : World} (h : Below B w w') (q : Nat) : Below B w (w'.drewN q) := ⟨h.os, h.tape, h.output, h.size, h.block⟩

set_option maxRecDepth 100000 in
set_option maxHeartbeats 8000000 in
theorem law_fgrows (a b c : Int) (w : World) : Calls Try.prog 4 #[.int .i64 a, .int .i64 b, .int .i64 c] w (Makes (.bool true) w) := by
  have HS := Lib.hid (fun w' => sane_any w')
  have HA := Lib.hid (all_any w)
  unfold AllP at HA
  obtain ⟨k, hk, _, hlt⟩ := modN a 5 (by decide) (by decide)
  obtain ⟨z, hz, _, hzl⟩ := modN c 500 (by decide) (by decide)
  have HZ := Lib.hid hz
  rw [show ((5 : Nat) : Int) = 5 from rfl] at hk
  clear hz
  go_enter Try.func4, Try.ntmps4
  go_wp2_with fail
  refine HA.out.mono ?_
  rintro e w1 ⟨ao, cap, xs, rfl, hl, hr, hok, hb⟩
  obtain ⟨hF, hm⟩ := map_at hl hl hlt
  have n1 := map_len hl
  obtain ⟨hv, q1, q2, q3⟩ := std_all _ hm
  have hp := std_pos _ hm
  have ox := hok xs[k]! (by rw [getElem!_pos xs k (by omega)]; exact List.getElem_mem _)
  obtain ⟨g, off, ha, hc⟩ := hr
  obtain ⟨rfl, hgl⟩ := ha (by omega)
  have hx := hc k (by omega)
  obtain ⟨X, hX⟩ : ∃ X, xs[k]! = X := ⟨_, rfl⟩
  rw [hX] at hv q1 q2 q3 hp ox hx
  have HB := Lib.hid hb
  clear hl hok hb hF hm n1 ha hc hX HA
  have hz1 : (k : Int) < 5 := by omega
  have hz0 : (0 : Int) ≤ k := by omega
  obtain ⟨j, hj, hj2, hjl⟩ := modN b X.F.gs.length hp (by omega)
  have hgb : glyphsB X.F.gs = true := by have h := hv; unfold validB at h; simp only [Bool.and_eq_true] at h; exact h.1.1.2
  have hup : ∀ i, i < j → ltL X.F.gs[i]!.nm X.F.gs[j]!.nm = true := fun i hi => asc_lt (glyphs_facts hgb).2 hi hjl
  have hwd := valid_widths hv j hjl
  have HW : Hid (∀ (t : Int) (w' : World), Below w1.heap.size w1 w' → 1 ≤ t → t ≤ 1000 → Calls Try.prog 18 #[fontVal X, .string (mk8 X.F.gs[j]!.nm), .int .i64 t] w' (Makes (.tuple #[.int .i64 (scaleZ X.F.gs[j]!.wd t), .int .i64 0]) w')) := fun t w' h h1 h2 =>
    width_found X X.F.gs[j]!.nm t j w' (ox.below h) hv (by unfold sizeB; rw [decide_eq_true h1, decide_eq_true h2]; rfl) hjl rfl (fun i hi e => by
      have := hup i hi
      rw [e, ltL_irr] at this
      cases this)
  have og := ox.gs
  clear hup hv ox hgb
  obtain ⟨⟨fn, fs, fz, gs, ls, ks⟩, ag, al, ak, cg, cl, ck⟩ := X
  simp only at q1 q2 q3 hp hj hj2 hjl hwd og
  obtain ⟨bg, og', hag, hcg⟩ := og
  obtain ⟨rfl, hbg⟩ := hag hp
  have e0 := hcg j hjl 0 _ rfl
  rw [Nat.add_zero] at e0
  obtain ⟨nm, hnm⟩ : ∃ nm, mk8 gs[j]!.nm = nm := ⟨_, rfl⟩
  obtain ⟨wd, hwdd⟩ : ∃ wd, gs[j]!.wd = wd := ⟨_, rfl⟩
  obtain ⟨m1, hm1⟩ : ∃ m, mk8 fn = m := ⟨_, rfl⟩
  have x0 := hx 0 _ rfl
  have x1 := hx 1 _ rfl
  have x2 := hx 2 _ rfl
  have x3 := hx 3 _ rfl
  have x4 := hx 4 _ rfl
  have x5 := hx 5 _ rfl
  simp only [fontVal] at HW
  simp only [Nat.add_zero] at x0
  simp only [hnm, hwdd, hm1] at HW e0 x0 hwd
  have HE0 := Lib.hid e0
  have hpz : (0 : Int) < gs.length := by omega
  have hjz : (j : Int) < gs.length := by omega
  have hj0 : (0 : Int) ≤ j := by omega
  have hul : IntKind.u64.wrap (gs.length : Int) = gs.length := by rw [IntKind.wrap_u64]; omega
  clear hx hag hcg hnm hwdd hm1 e0
  go_upto_region 2 with fail
  generalize hw3 : w1.alloc _ = w3
  have hb3 : Below w1.heap.size w1 w3 := by rw [← hw3]; exact (Below.refl _ _).alloc (Nat.le_refl _) _
  have t3 : w3.heap[w1.heap.size]? = some (.cells #[.string m1, .bool fs, .int .i64 fz, .slice (some ⟨bg, og', none⟩) gs.length cg, .slice al ls.length cl, .slice ak ks.length ck] 37 (0, 0)) := by rw [← hw3]; exact heap_alloc_new w1 _
  have hl3 := (Array.getElem?_eq_some_iff.1 t3).1
  obtain ⟨p, hp'⟩ : ∃ p, w1.heap.size = p := ⟨_, rfl⟩
  have e3 := (hb3.cell (p := ⟨bg, og' + j * 2, none⟩) hbg).trans HE0.out
  have HB3 := Lib.hid hb3
  rw [hp'] at t3 hl3
  rw [hp']
  have HT3 := Lib.hid t3
  have c3 := cell_of (j := 3) t3 rfl
  clear hw3 hb3 t3 hp' x0 x1 x2 x3 x4 x5 hz1 hz0 hgl hbg
  go_quiet (fail)
  obtain ⟨w4, hw4⟩ : ∃ w4, w4 = w3.drewN nq := ⟨_, rfl⟩
  rw [← hw4]
  have HB4 : Hid (Below w3.heap.size w3 w4) := by rw [hw4]; exact below_dN (Below.refl _ _) _
  have t4 : w4.heap[p]? = some (.cells #[.string m1, .bool fs, .int .i64 fz, .slice (some ⟨bg, og', none⟩) gs.length cg, .slice al ls.length cl, .slice ak ks.length ck] 37 (0, 0)) := by rw [hw4]; exact HT3.out
  have hl4 := (Array.getElem?_eq_some_iff.1 t4).1
  have HT4 := Lib.hid t4
  have HB0 := Lib.hid (HB3.out.trans (HB4.out.mono HB3.out.size))
  have c0 := cell_of (j := 0) t4 rfl
  have c1 := cell_of (j := 1) t4 rfl
  have c2 := cell_of (j := 2) t4 rfl
  have c3 := cell_of (j := 3) t4 rfl
  have c4 := cell_of (j := 4) t4 rfl
  have c5 := cell_of (j := 5) t4 rfl
  clear hw4 t4 e3 HB3 HB4 HT3 hl3 hj hj2 hul
  have hzz : (0 : Int) ≤ z := by omega
  have hzh : (z : Int) < 500 := by omega
  rw [show ((500 : Nat) : Int) = 500 from rfl] at HZ
  have hz := HZ.out
  go_wp2_with fail
  obtain ⟨S, hS⟩ : ∃ S : Int, 1 + (z : Int) = S := ⟨_, rfl⟩
  simp only [hS]
  have s1 : 1 ≤ S := by omega
  have s2 : S ≤ 500 := by omega
  have HBw4 := Lib.hid HB0.out
  have HTw4 := Lib.hid HT4.out
  have hlw4 := hl4
  clear hS hz hzz hzh HB0 HT4 hl4
  refine (HW.out (S) w4 HBw4.out (by omega) (by omega)).mono ?_
  rintro e w5 ⟨rfl, hb⟩
  have t5 : w5.heap[p]? = some (.cells #[.string m1, .bool fs, .int .i64 fz, .slice (some ⟨bg, og', none⟩) gs.length cg, .slice al ls.length cl, .slice ak ks.length ck] 37 (0, 0)) := by rw [hb.block p hlw4]; exact HTw4.out
  have hlw5 := (Array.getElem?_eq_some_iff.1 t5).1
  have HTw5 := Lib.hid t5
  have HBw5 := Lib.hid (HBw4.out.trans (hb.mono HBw4.out.size))
  clear c0 c1 c2 c3 c4 c5
  have c0 := cell_of (j := 0) t5 rfl
  have c1 := cell_of (j := 1) t5 rfl
  have c2 := cell_of (j := 2) t5 rfl
  have c3 := cell_of (j := 3) t5 rfl
  have c4 := cell_of (j := 4) t5 rfl
  have c5 := cell_of (j := 5) t5 rfl
  clear t5 hb hlw4 HTw4 HBw4
  go_wp2_with fail
  refine (HW.out (S + 1) w5 HBw5.out (by omega) (by omega)).mono ?_
  rintro e w6 ⟨rfl, hb⟩
  have t5 : w6.heap[p]? = some (.cells #[.string m1, .bool fs, .int .i64 fz, .slice (some ⟨bg, og', none⟩) gs.length cg, .slice al ls.length cl, .slice ak ks.length ck] 37 (0, 0)) := by rw [hb.block p hlw5]; exact HTw5.out
  have hlw6 := (Array.getElem?_eq_some_iff.1 t5).1
  have HTw6 := Lib.hid t5
  have HBw6 := Lib.hid (HBw5.out.trans (hb.mono HBw5.out.size))
  clear c0 c1 c2 c3 c4 c5
  have c0 := cell_of (j := 0) t5 rfl
  have c1 := cell_of (j := 1) t5 rfl
  have c2 := cell_of (j := 2) t5 rfl
  have c3 := cell_of (j := 3) t5 rfl
  have c4 := cell_of (j := 4) t5 rfl
  have c5 := cell_of (j := 5) t5 rfl
  clear t5 hb hlw5 HTw5 HBw5
  go_wp2_with fail
  refine (HW.out (2 * S) w6 HBw6.out (by omega) (by omega)).mono ?_
  rintro e w7 ⟨rfl, hb⟩
  have t5 : w7.heap[p]? = some (.cells #[.string m1, .bool fs, .int .i64 fz, .slice (some ⟨bg, og', none⟩) gs.length cg, .slice al ls.length cl, .slice ak ks.length ck] 37 (0, 0)) := by rw [hb.block p hlw6]; exact HTw6.out
  have hlw7 := (Array.getElem?_eq_some_iff.1 t5).1
  have HTw7 := Lib.hid t5
  have HBw7 := Lib.hid (HBw6.out.trans (hb.mono HBw6.out.size))
  clear c0 c1 c2 c3 c4 c5
  have c0 := cell_of (j := 0) t5 rfl
  have c1 := cell_of (j := 1) t5 rfl
  have c2 := cell_of (j := 2) t5 rfl
  have c3 := cell_of (j := 3) t5 rfl
  have c4 := cell_of (j := 4) t5 rfl
  have c5 := cell_of (j := 5) t5 rfl
  clear t5 hb hlw6 HTw6 HBw6
  have b0 := scale_small hwd.1 hwd.2 s1 (show S ≤ 1000 by omega)
  have hAB := scale_up hwd.1 (show S ≤ S + 1 by omega)
  have hAC := scale_two (n := wd) (s := S)
  obtain ⟨A, hA⟩ : ∃ A, scaleZ wd S = A := ⟨_, rfl⟩
  obtain ⟨B, hB⟩ : ∃ B, scaleZ wd (S + 1) = B := ⟨_, rfl⟩
  obtain ⟨C, hC⟩ : ∃ C, scaleZ wd (2 * S) = C := ⟨_, rfl⟩
  rw [hA] at b0 hAB hAC
  rw [hB] at hAB
  rw [hC] at hAC
  simp only [hA, hB, hC]
  clear hA hB hC HW HTw7 hlw7
  go_wp2_with fail
  refine (HS.out _).mono ?_
  rintro e w8 ⟨rfl, hb8⟩
  have HB8 := Lib.hid (HB.out.trans ((HBw7.out.trans (hb8.mono HBw7.out.size)).mono HB.out.size))
  clear hb8
  go_wp2_with fail
  go_ret
  exact ⟨rfl, HB8.out⟩
end Go.Proofs.Ytboophfcakdlcaa
