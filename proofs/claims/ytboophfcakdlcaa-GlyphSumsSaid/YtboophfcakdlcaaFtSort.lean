/- Glyphs of the call's own, sorted. -/
import Derived.Test.YtboophfcakdlcaaFtMake
import Derived.Test.YtboophfcakdlcaaFtAsc
import Derived.Test.YtboophfcakdlcaaFtLay2
import Derived.Shelf.SlSortCmp.WholeK
import Derived.Sort.LotA
namespace Go.Proofs.Ytboophfcakdlcaa
open Go.RowKit Go.PlainAid Go.Shelf

set_option maxRecDepth 100000 in
set_option maxHeartbeats 2000000 in
theorem byName_grow (x y : Gl) (w : World) : Calls Try.prog 62 #[.agg (encG x).toArray, .agg (encG y).toArray] w (fun e w' => e = .returned (.int .i64 (cmpG x y)) ∧ ∃ q os, w' = Sort.grow (w.drewN q) os) := by
  obtain ⟨a, m⟩ := x
  obtain ⟨b, n⟩ := y
  have HC := Lib.hid (fun w => compare_any a b w)
  show Calls _ _ #[.agg #[.string (mk8 a), .int .i64 m], .agg #[.string (mk8 b), .int .i64 n]] w (fun e w' => e = .returned (.int .i64 (cmpL a b)) ∧ ∃ q os, w' = Sort.grow (w.drewN q) os)
  obtain ⟨z, hz⟩ : ∃ z, cmpL a b = z := ⟨_, rfl⟩
  simp only [hz] at HC
  rw [hz]
  clear hz
  go_enter Try.func62, Try.ntmps62
  go_wp2_with fail
  refine (HC.out _).mono ?_
  rintro e w1 ⟨rfl, rfl⟩
  go_wp2_with fail
  go_ret
  exact ⟨rfl, 0, _, by rw [Sort.alloc_eq_grow, Sort.alloc_eq_grow, Sort.grow_grow]; rfl⟩
theorem cmp_lays (blk off size : Nat) (w : World) : CmpLays Try.prog 62 #[] encG 2 cmpG blk off size w := fun _ _ _ _ x y => byName_grow x y _
theorem ltOf_eq (x y : Gl) : ltOf cmpG x y = ltL x.nm y.nm := by
  unfold ltOf
  rw [Bool.eq_iff_iff, decide_eq_true_eq]
  exact cmpL_neg
theorem swo_G : Sort.SWO (ltOf cmpG) where
  irrefl x := by rw [ltOf_eq]; exact ltL_irr _
  trans x y z h1 h2 := by rw [ltOf_eq] at *; exact ltL_trans h1 h2
  ntrans x y z h1 h2 := by
    rw [ltOf_eq] at *
    rw [ltL_eq, decide_eq_false_iff_not] at *
    exact fun h => List.not_lt.1 h1 |> fun h3 => List.not_lt.1 h2 |> fun h4 => absurd h (List.not_lt.2 (List.le_trans h4 h3))
/-- The own row, as the sort asks it. -/
theorem holds_own {B : Nat} {v : Value} {xs : List Gl} {w : World} (h : OwnG B v xs w) (h0 : 0 < xs.length) : ∃ g cap, v = .slice (some ⟨g, 0, none⟩) xs.length cap ∧ B ≤ g ∧ g < w.heap.size ∧ Sort.HoldsK encG 2 w g 0 xs.toArray := by
  rcases h.2 with ⟨_, h2⟩ | ⟨g, cap, cur, h1, h2, h3, h4, h5, h6, h7⟩
  · omega
  · refine ⟨g, cap, h1, h2, (Array.getElem?_eq_some_iff.1 h3).1, fun t ht => ?_⟩
    rw [Sort.size_flatK] at ht
    have ht : t < xs.length * 2 := by simpa using ht
    rw [Sort.get_flatK _ _ _ _ (by simpa using ht)]
    have hf := flat_get encG_len xs (t / 2) (t % 2) (by omega) (by omega)
    rw [show t / 2 * 2 + t % 2 = t by omega, ← h7, List.getElem?_take, if_pos ht, Array.getElem?_toList] at hf
    have hm : t % 2 < (encG xs[t / 2]!).length := by rw [encG_len]; omega
    refine ⟨?_, by simp [World.frozen?, h3]⟩
    rw [Nat.zero_add, cell_of h3 (hf.trans (List.getElem?_eq_getElem hm))]
    congr 1
    have hx : (xs.toArray)[t / 2]! = xs[t / 2]! := by simp
    rw [hx]
    exact (getElem!_pos (encG xs[t / 2]!) (t % 2) hm).symm
/-- A permutation of glyphs, none behind a greater one. -/
structure Sorted (xs ys : List Gl) : Prop where
  perm : ys.Perm xs
  sort : ∀ i j : Nat, i < j → j < ys.length → ltL ys[j]!.nm ys[i]!.nm = false
theorem below_sorted {B : Nat} {w : World} {g n : Nat} {os : Array Obj} (d : Array Gl) (hB : B ≤ g) (hg : g < w.heap.size) : Below B w (sortWorldK encG 2 w g 0 n d os) := by
  refine ⟨rfl, rfl, rfl, by unfold sortWorldK Sort.putRowK; simp, fun k hk => ?_⟩
  unfold sortWorldK Sort.putRowK
  rw [Sort.heap_grow_old _ _ (by simp; omega)]
  have : g ≠ k := by omega
  simp [Sort.putRow, Sort.mapBlock, Sort.ahead, Array.getElem?_modify, this]
theorem bang_list {d : Array Gl} {i : Nat} (h : i < d.size) : d.toList[i]! = d[i]! := by
  rw [getElem!_pos d.toList i (by simpa using h), getElem!_pos d i h]
  simp

set_option maxHeartbeats 2000000 in
theorem sort_any (B : Nat) (v : Value) (xs : List Gl) (w : World) (h : OwnG B v xs w) (h0 : 0 < xs.length) (hl : xs.length ≤ 100000) : Calls Try.prog 61 #[v, .func (.func 62) #[] #[]] w
    (fun e w' => e = .returned (.tuple #[]) ∧ ∃ ao cap ys, v = .slice ao xs.length cap ∧ Sorted xs ys ∧ RowK encG 2 ao ys w' ∧ Below B w w') := by
  obtain ⟨g, cap, rfl, hB, hg, hH⟩ := holds_own h h0
  have hs := AnyQ.slices_SortFunc Try.sortG 2 Try.isAgg44 Try.sizeOf44 encG encG_len (fun x u hu => by simp [encG] at hu; rcases hu with rfl | rfl <;> rfl) cmpG swo_G 62 #[] g 0 cap xs.toArray w enters_byName (cmp_lays _ _ _ _) hH hg (by simp; omega)
  have hsz : xs.toArray.size = xs.length := by simp
  rw [hsz] at hs
  refine hs.mono fun e w' ⟨he, d, n, os, hp, hsr, hw⟩ => ?_
  have hd : d.size = xs.length := by rw [hp.1, hsz]
  have hH2 : Sort.HoldsK encG 2 w' g 0 d := by rw [hw]; exact holdsK_sortWorldK_c encG 2 w g 0 xs.toArray d n os hH hg hp.1
  have hg2 : g < w'.heap.size := by rw [hw]; exact Nat.lt_of_lt_of_le hg (size_sortWorldK_c encG 2 w g 0 n d os)
  refine ⟨he, _, cap, d.toList, rfl, ⟨?_, ?_⟩, ?_, ?_⟩
  · have h3 := hp.2.2
    rw [show xs.length = xs.toArray.size by simp] at h3
    rw [Array.extract_size] at h3
    rw [← hp.1, Array.extract_size] at h3
    simpa using h3
  · intro i j hij hj
    have hj : j < d.size := by simpa using hj
    have := hsr i j (Nat.zero_le _) hij (by rw [← hd]; exact hj)
    rw [ltOf_eq] at this
    rw [bang_list hj, bang_list (by omega)]
    exact this
  · refine ⟨g, 0, fun _ => ⟨rfl, hg2⟩, fun j hj i u hu => ?_⟩
    have hj : j < d.size := by simpa using hj
    rw [bang_list hj] at hu
    have hi : i < 2 := by have := (List.getElem?_eq_some_iff.1 hu).1; rw [encG_len] at this; exact this
    have hc := (Sort.HoldsK.cell hH2 hj hi).1
    rw [hc]
    obtain ⟨h1, h2⟩ := List.getElem?_eq_some_iff.1 hu
    rw [getElem!_pos (encG d[j]!) i h1, h2]
  · rw [hw]; exact below_sorted d hB hg
end Go.Proofs.Ytboophfcakdlcaa
