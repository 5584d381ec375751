/- The orders of ligatures and kerns. -/
import Derived.Test.YtboophfcakdlcaaFtOrd
import Derived.Deep.RegionWith
import Derived.Deep.RegionHeld3
import Derived.Deep.DeepCutAuto
namespace Go.Proofs.Ytboophfcakdlcaa
open Go.RowKit Go.PlainAid Go.Shelf

set_option maxRecDepth 100000 in
set_option maxHeartbeats 2000000 in
theorem or_any (g : Nat) (x y : Int) (w : World) (c0 : w.cell? ⟨g, 0, none⟩ = some (.int .i64 x)) (c1 : w.cell? ⟨g, 1, none⟩ = some (.int .i64 y)) : Calls Try.prog 95 #[.slice (some ⟨g, 0, none⟩) 2 2] w (Says (.int .i64 (orI x y)) w) := by
  obtain ⟨O, hO⟩ : ∃ O, orI x y = O := ⟨_, rfl⟩
  rw [hO]
  have H1 : Hid (x ≠ 0 → O = x) := fun h => by rw [← hO]; unfold orI; rw [if_neg h]
  have H2 : Hid (x = 0 → y ≠ 0 → O = y) := fun h _ => by rw [← hO]; unfold orI; rw [if_pos h]
  have H3 : Hid (x = 0 → y = 0 → O = 0) := fun h h2 => by rw [← hO]; unfold orI; rw [if_pos h, h2]
  clear hO
  go_enter Try.func95, Try.ntmps95
  go_wp2_with fail
  go_loop [8] (fun i => ∃ k : Nat, k ≤ 2 ∧ i = .int .i64 k ∧ Hid ((1 ≤ k → x = 0) ∧ (k = 2 → y = 0))) (fun i => 2 - (intOf i).toNat)
  case atStart => exact ⟨0, by omega, rfl, fun h => absurd h (by omega), fun h => absurd h (by omega)⟩
  case round =>
    obtain ⟨k, hk, rfl, hn⟩ := hrel
    obtain rfl | rfl | rfl : k = 0 ∨ k = 1 ∨ k = 2 := by omega
    · by_cases hx : x = 0
      · have HX := Lib.hid hx
        have d1 : (x == 0) = true := by simpa using hx
        clear hx hn
        go_wp2_with fail
        go_round
        case rel => exact ⟨1, by omega, rfl, fun _ => HX.out, fun h => absurd h (by omega)⟩
        case measure => simp [intOf]
      · have HV := Lib.hid (H1.out hx)
        have d1 : (x == 0) = false := by simpa using hx
        clear hx hn
        go_wp2_with fail
        go_ret
        exact ⟨by rw [HV.out]; rfl, rfl⟩
    · have HX := Lib.hid (hn.out.1 (Nat.le_refl _))
      by_cases hy : y = 0
      · have HY := Lib.hid hy
        have d1 : (y == 0) = true := by simpa using hy
        clear hy hn
        go_wp2_with fail
        go_round
        case rel => exact ⟨2, by omega, rfl, fun _ => HX.out, fun _ => HY.out⟩
        case measure => simp [intOf]
      · have HV := Lib.hid (H2.out HX.out hy)
        have d1 : (y == 0) = false := by simpa using hy
        clear hy hn
        go_wp2_with fail
        go_ret
        exact ⟨by rw [HV.out]; rfl, rfl⟩
    · have HV := Lib.hid (H3.out (hn.out.1 (by omega)) (hn.out.2 rfl))
      clear hn
      go_wp2_with fail
      go_ret
      exact ⟨by rw [HV.out]; rfl, rfl⟩

theorem cell_of {w : World} {p j : Nat} {c : Array Value} {t : TypeId} {f : Nat × Nat} {v : Value} (h : w.heap[p]? = some (.cells c t f)) (hj : c[j]? = some v) : w.cell? ⟨p, j, none⟩ = some v := by simp [World.cell?, h, hj]
theorem two_cells {w : World} {p : Nat} (h : w.heap.size = p) (x y : Int) : (w.alloc (.cells #[.int .i64 x, .int .i64 y] 3)).drew.cell? ⟨p, 0, none⟩ = some (.int .i64 x) ∧ (w.alloc (.cells #[.int .i64 x, .int .i64 y] 3)).drew.cell? ⟨p, 1, none⟩ = some (.int .i64 y) := by
  subst h
  exact ⟨cell_of (w := w.alloc _) (heap_alloc_new w _) rfl, cell_of (w := w.alloc _) (heap_alloc_new w _) rfl⟩
def cmpS (s t : ByteArray) : Int := cmpL s.toList t.toList
theorem cmpS_mk (a b : List UInt8) : cmpS (mk8 a) (mk8 b) = cmpL a b := by unfold cmpS; rw [mk8_list, mk8_list]
theorem compareS (s t : ByteArray) (w : World) : Calls Try.prog 93 #[.string s, .string t] w (Says (.int .i64 (cmpS s t)) w) := by
  have h := compare_any s.data.toList t.data.toList w
  rw [mk8_of, mk8_of, ← cmpS_mk, mk8_of, mk8_of] at h
  exact h

set_option maxRecDepth 100000 in
set_option maxHeartbeats 4000000 in
theorem ligOrder_any (x y : Lg) (w : World) : Calls Try.prog 71 #[.agg (encLg x).toArray, .agg (encLg y).toArray] w (Makes (.int .i64 (cmpLg x y)) w) := by
  obtain ⟨a, b, i⟩ := x
  obtain ⟨c, d, j⟩ := y
  show Calls _ _ #[.agg #[.string (mk8 a), .string (mk8 b), .string (mk8 i)], .agg #[.string (mk8 c), .string (mk8 d), .string (mk8 j)]] w (Makes (.int .i64 (orI (cmpL a c) (cmpL b d))) w)
  rw [← cmpS_mk a c, ← cmpS_mk b d]
  obtain ⟨sa, ha⟩ : ∃ s, mk8 a = s := ⟨_, rfl⟩
  obtain ⟨sb, hb⟩ : ∃ s, mk8 b = s := ⟨_, rfl⟩
  obtain ⟨sc, hc⟩ : ∃ s, mk8 c = s := ⟨_, rfl⟩
  obtain ⟨sd, hd⟩ : ∃ s, mk8 d = s := ⟨_, rfl⟩
  obtain ⟨si, hi⟩ : ∃ s, mk8 i = s := ⟨_, rfl⟩
  obtain ⟨sj, hj⟩ : ∃ s, mk8 j = s := ⟨_, rfl⟩
  rw [ha, hb, hc, hd, hi, hj]
  clear ha hb hc hd hi hj
  go_enter Try.func71, Try.ntmps71
  go_upto_region 1 with fail
  generalize hw1 : w.alloc _ = w1
  have hb1 : Below w.heap.size w w1 := by rw [← hw1]; exact (Below.refl _ _).alloc (Nat.le_refl _) _
  have h1 : w1.heap[w.heap.size]? = some (.cells #[.string sa, .string sb, .string si] 89 (0, 0)) := by rw [← hw1]; exact heap_alloc_new w _
  have hs1 : w1.heap.size = w.heap.size + 1 := by rw [← hw1]; simp
  generalize hw2 : w1.alloc _ = w2
  have hb2 : Below w1.heap.size w1 w2 := by rw [← hw2]; exact (Below.refl _ _).alloc (Nat.le_refl _) _
  have h2 : w2.heap[w1.heap.size]? = some (.cells #[.string sc, .string sd, .string sj] 89 (0, 0)) := by rw [← hw2]; exact heap_alloc_new w1 _
  have h3 : w2.heap[w.heap.size]? = some (.cells #[.string sa, .string sb, .string si] 89 (0, 0)) := by rw [hb2.block _ (by omega)]; exact h1
  have hlt : w.heap.size + 1 < w2.heap.size := by have := (Array.getElem?_eq_some_iff.1 h2).1; omega
  have HB := Lib.hid (hb1.trans (hb2.mono hb1.size))
  rw [hs1] at h2
  have c0 := cell_of (j := 0) h3 rfl
  have c1 := cell_of (j := 1) h3 rfl
  have c2 := cell_of (j := 0) h2 rfl
  have c3 := cell_of (j := 1) h2 rfl
  have n1 : w2.heap.size ≠ w.heap.size := by omega
  have n2 : w2.heap.size ≠ w.heap.size + 1 := by omega
  clear hw1 hw2 hb1 hb2 h1 h2 h3 hs1 hlt
  go_region_held3 (fun w' => w'.cell? ⟨w.heap.size, 0, none⟩ = some (.string sa) ∧ w'.cell? ⟨w.heap.size, 1, none⟩ = some (.string sb) ∧ w'.cell? ⟨w.heap.size + 1, 0, none⟩ = some (.string sc) ∧ w'.cell? ⟨w.heap.size + 1, 1, none⟩ = some (.string sd)) (go_keep) (first | (go_at_call 93; refine (compareS _ _ _).mono ?_; rintro e w' ⟨rfl, rfl⟩) | (go_at_call 95; refine (or_any _ _ _ _ (two_cells ?h1 _ _).1 (two_cells ?h1 _ _).2).mono ?_; (case h1 => simp); rintro e w' ⟨rfl, rfl⟩))
  all_goals
    go_wp2_with fail
    go_ret
    exact ⟨rfl, HB.out.trans (((Below.refl _ _).alloc (Nat.le_refl _) _).drew.mono HB.out.size)⟩
set_option maxRecDepth 100000 in
set_option maxHeartbeats 4000000 in
theorem kernOrder_any (x y : Kn) (w : World) : Calls Try.prog 74 #[.agg (encKn x).toArray, .agg (encKn y).toArray] w (Makes (.int .i64 (cmpKn x y)) w) := by
  obtain ⟨a, b, i⟩ := x
  obtain ⟨c, d, j⟩ := y
  show Calls _ _ #[.agg #[.string (mk8 a), .string (mk8 b), .int .i64 i], .agg #[.string (mk8 c), .string (mk8 d), .int .i64 j]] w (Makes (.int .i64 (orI (cmpL a c) (cmpL b d))) w)
  rw [← cmpS_mk a c, ← cmpS_mk b d]
  obtain ⟨sa, ha⟩ : ∃ s, mk8 a = s := ⟨_, rfl⟩
  obtain ⟨sb, hb⟩ : ∃ s, mk8 b = s := ⟨_, rfl⟩
  obtain ⟨sc, hc⟩ : ∃ s, mk8 c = s := ⟨_, rfl⟩
  obtain ⟨sd, hd⟩ : ∃ s, mk8 d = s := ⟨_, rfl⟩
  rw [ha, hb, hc, hd]
  clear ha hb hc hd
  go_enter Try.func74, Try.ntmps74
  go_upto_region 1 with fail
  generalize hw1 : w.alloc _ = w1
  have hb1 : Below w.heap.size w w1 := by rw [← hw1]; exact (Below.refl _ _).alloc (Nat.le_refl _) _
  have h1 : w1.heap[w.heap.size]? = some (.cells #[.string sa, .string sb, .int .i64 i] 90 (0, 0)) := by rw [← hw1]; exact heap_alloc_new w _
  have hs1 : w1.heap.size = w.heap.size + 1 := by rw [← hw1]; simp
  generalize hw2 : w1.alloc _ = w2
  have hb2 : Below w1.heap.size w1 w2 := by rw [← hw2]; exact (Below.refl _ _).alloc (Nat.le_refl _) _
  have h2 : w2.heap[w1.heap.size]? = some (.cells #[.string sc, .string sd, .int .i64 j] 90 (0, 0)) := by rw [← hw2]; exact heap_alloc_new w1 _
  have h3 : w2.heap[w.heap.size]? = some (.cells #[.string sa, .string sb, .int .i64 i] 90 (0, 0)) := by rw [hb2.block _ (by omega)]; exact h1
  have hlt : w.heap.size + 1 < w2.heap.size := by have := (Array.getElem?_eq_some_iff.1 h2).1; omega
  have HB := Lib.hid (hb1.trans (hb2.mono hb1.size))
  rw [hs1] at h2
  have c0 := cell_of (j := 0) h3 rfl
  have c1 := cell_of (j := 1) h3 rfl
  have c2 := cell_of (j := 0) h2 rfl
  have c3 := cell_of (j := 1) h2 rfl
  have n1 : w2.heap.size ≠ w.heap.size := by omega
  have n2 : w2.heap.size ≠ w.heap.size + 1 := by omega
  clear hw1 hw2 hb1 hb2 h1 h2 h3 hs1 hlt
  go_region_held3 (fun w' => w'.cell? ⟨w.heap.size, 0, none⟩ = some (.string sa) ∧ w'.cell? ⟨w.heap.size, 1, none⟩ = some (.string sb) ∧ w'.cell? ⟨w.heap.size + 1, 0, none⟩ = some (.string sc) ∧ w'.cell? ⟨w.heap.size + 1, 1, none⟩ = some (.string sd)) (go_keep) (first | (go_at_call 93; refine (compareS _ _ _).mono ?_; rintro e w' ⟨rfl, rfl⟩) | (go_at_call 95; refine (or_any _ _ _ _ (two_cells ?h1 _ _).1 (two_cells ?h1 _ _).2).mono ?_; (case h1 => simp); rintro e w' ⟨rfl, rfl⟩))
  all_goals
    go_wp2_with fail
    go_ret
    exact ⟨rfl, HB.out.trans (((Below.refl _ _).alloc (Nat.le_refl _) _).drew.mono HB.out.size)⟩
end Go.Proofs.Ytboophfcakdlcaa
