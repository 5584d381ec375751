/- Are glyphs valid. -/
import Derived.Test.YtboophfcakdlcaaFtAsc
import Derived.Deep.DeepCutAuto
namespace Go.Proofs.Ytboophfcakdlcaa
open Go.RowKit Go.PlainAid Go.Shelf

abbrev okG (g : Gl) : Bool := glyphNameB g.nm && widthB g.wd
theorem all_of {α : Type} [Inhabited α] {p : α → Bool} {xs : List α} (h : ∀ j, j < xs.length → p xs[j]! = true) : xs.all p = true := by
  rw [List.all_eq_true]
  intro x hx
  obtain ⟨j, hj, rfl⟩ := List.getElem_of_mem hx
  have := h j hj
  rwa [getElem!_pos xs j hj] at this
theorem all_no {α : Type} [Inhabited α] {p : α → Bool} {xs : List α} {j : Nat} (hj : j < xs.length) (h : p xs[j]! = false) : xs.all p = false := by
  cases hb : xs.all p with
  | false => rfl
  | true =>
    rw [getElem!_pos xs j hj] at h
    have := List.all_eq_true.1 hb _ (List.getElem_mem hj)
    rw [h] at this
    cases this

set_option maxRecDepth 100000 in
set_option maxHeartbeats 4000000 in
theorem validGlyphs_any (ao : Option Addr) (xs : List Gl) (cap : Nat) (w : World) (h : RowK encG 2 ao xs w) : Calls Try.prog 41 #[.slice ao xs.length cap] w (Makes (.bool (glyphsB xs)) w) := by
  unfold glyphsB
  by_cases h4 : 400 < xs.length
  · have d1 : decide ((400 : Int) < xs.length) = true := decide_eq_true (by omega)
    rw [decide_eq_false (show ¬ xs.length ≤ 400 by omega), Bool.false_and, Bool.false_and]
    clear h
    go_enter Try.func41, Try.ntmps41
    go_wp2_with fail
    go_ret
    exact ⟨rfl, Below.refl _ _⟩
  · have d1 : decide ((400 : Int) < xs.length) = false := decide_eq_false (by omega)
    rw [decide_eq_true (show xs.length ≤ 400 by omega), Bool.true_and]
    have HA := Lib.hid (ascG_any ao xs cap w h (by omega))
    have hce := enters_byName
    have HR := Lib.hid h
    clear h
    cases hasc : ascB cmpG xs with
    | false =>
      rw [hasc] at HA
      rw [Bool.false_and]
      clear hasc HR
      go_enter Try.func41, Try.ntmps41
      go_wp2_with fail
      refine HA.out.mono ?_
      rintro e w1 ⟨rfl, hb⟩
      go_wp2_with fail
      go_ret
      exact ⟨rfl, hb⟩
    | true =>
      rw [hasc] at HA
      rw [Bool.true_and]
      clear hasc
      obtain ⟨V, hV⟩ : ∃ V, (xs.all fun g => glyphNameB g.nm && widthB g.wd) = V := ⟨_, rfl⟩
      rw [hV]
      have HY : Hid ((∀ j, j < xs.length → okG xs[j]! = true) → V = true) := fun h => by rw [← hV]; exact all_of h
      have HN : Hid (∀ j, j < xs.length → okG xs[j]! = false → V = false) := fun j hj h => by rw [← hV]; exact all_no hj h
      clear hV
      go_enter Try.func41, Try.ntmps41
      go_wp2_with fail
      refine HA.out.mono ?_
      rintro e w1 ⟨rfl, hb⟩
      have HB1 := Lib.hid hb
      have HR1 := Lib.hid (HR.out.below hb)
      clear hb HA HR
      go_wp2_with fail
      go_loopw [15] (fun i wr => ∃ k : Nat, k ≤ xs.length ∧ i = .int .i64 k ∧ Hid (∀ j, j < k → okG xs[j]! = true) ∧ Hid (Below w.heap.size w wr) ∧ Hid (RowK encG 2 ao xs wr)) (fun i _ => xs.length - (intOf i).toNat)
      case atStart => exact ⟨0, by omega, rfl, fun j hj => absurd hj (Nat.not_lt_zero _), HB1, HR1⟩
      case round =>
        obtain ⟨k, hk, rfl, hn, hbl, hrw⟩ := hrel
        by_cases hlt : k < xs.length
        · obtain ⟨b, off, ha, hr⟩ := hrw.out
          obtain ⟨rfl, hbw⟩ := ha (by omega)
          obtain ⟨x, hx⟩ : ∃ x, xs[k]! = x := ⟨_, rfl⟩
          have r1 := hr k hlt
          rw [hx] at r1
          obtain ⟨a, m⟩ := x
          have hz1 : (k : Int) < xs.length := by omega
          have c0 := r1 0 _ rfl
          have c1 := r1 1 _ rfl
          rw [Nat.add_zero] at c0
          simp only at c0 c1
          have H1 := Lib.hid (fun w => glyphName_any a w)
          have H2 := Lib.hid (fun w => width_any m w)
          have hno := HN.out k hlt
          have HS : Hid (okG ⟨a, m⟩ = true → ∀ j, j < k + 1 → okG xs[j]! = true) := fun h j hj => by
            by_cases e : j = k
            · subst e; rw [hx]; exact h
            · exact hn.out j (by omega)
          rw [hx] at hno
          have HV := Lib.hid hno
          clear hx r1 hr ha hn hno
          go_upto_region 6 with fail
          generalize hw2 : wr.alloc _ = w2
          have hb2 : Below wr.heap.size wr w2 := by rw [← hw2]; exact (Below.refl _ _).alloc (Nat.le_refl _) _
          have hcell : w2.heap[wr.heap.size]? = some (.cells #[.string (mk8 a), .int .i64 m] 44 (0, 0)) := by rw [← hw2]; exact heap_alloc_new wr _
          have HB2 := Lib.hid (hbl.out.trans (hb2.mono hbl.out.size))
          have HR2 := Lib.hid (hrw.out.below hb2)
          have e0 := cell_of (j := 0) hcell rfl
          have e1 := cell_of (j := 1) hcell rfl
          obtain ⟨p, hp⟩ : ∃ p, wr.heap.size = p := ⟨_, rfl⟩
          rw [hp] at e0 e1
          rw [hp]
          clear hw2 hb2 hcell hbl hrw c0 c1 hp
          cases hx1 : glyphNameB a with
          | false =>
            simp only [hx1] at H1
            have HV2 := Lib.hid (HV.out (by show (glyphNameB a && widthB m) = false; rw [hx1]; rfl))
            clear hx1
            go_wp2_with fail
            refine (H1.out _).mono ?_
            rintro e w3 ⟨rfl, rfl⟩
            go_wp2_with fail
            go_ret
            exact ⟨by rw [HV2.out]; rfl, HB2.out⟩
          | true =>
            simp only [hx1] at H1
            cases hx2 : widthB m with
            | false =>
              simp only [hx2] at H2
              have HV2 := Lib.hid (HV.out (by show (glyphNameB a && widthB m) = false; rw [hx1, hx2]; rfl))
              clear hx1 hx2
              go_wp2_with fail
              refine (H1.out _).mono ?_
              rintro e w3 ⟨rfl, rfl⟩
              go_wp2_with fail
              refine (H2.out _).mono ?_
              rintro e w3 ⟨rfl, rfl⟩
              go_wp2_with fail
              go_ret
              exact ⟨by rw [HV2.out]; rfl, HB2.out⟩
            | true =>
              simp only [hx2] at H2
              have HS2 := Lib.hid (HS.out (by show (glyphNameB a && widthB m) = true; rw [hx1, hx2]; rfl))
              clear hx1 hx2
              go_wp2_with fail
              refine (H1.out _).mono ?_
              rintro e w3 ⟨rfl, rfl⟩
              go_wp2_with fail
              refine (H2.out _).mono ?_
              rintro e w3 ⟨rfl, rfl⟩
              go_wp2_with fail
              go_roundw
              case rel => exact ⟨k + 1, by omega, by go_num, HS2, HB2, HR2⟩
              case measure => simp [intOf]; omega
        · obtain rfl : k = xs.length := by omega
          have HV := Lib.hid (HY.out hn.out)
          clear hn
          go_wp2_with fail
          go_ret
          exact ⟨by rw [HV.out]; rfl, hbl.out⟩
end Go.Proofs.Ytboophfcakdlcaa
