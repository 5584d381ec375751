/- Are kerns valid. -/
import Derived.Test.YtboophfcakdlcaaFtLg
import Derived.Test.YtboophfcakdlcaaFtAscK
import Derived.Deep.DeepCutAuto
namespace Go.Proofs.Ytboophfcakdlcaa
open Go.RowKit Go.PlainAid Go.Shelf

set_option maxRecDepth 100000 in
set_option maxHeartbeats 4000000 in
theorem validKerns_any (x : FA) (w : World) (h : x.ok w) (hg : glyphsB x.F.gs = true) : Calls Try.prog 43 #[fontVal x] w (Makes (.bool (kernsB x.F.gs x.F.ks)) w) := by
  have hce := enters_kernOrder
  obtain ⟨hg1, hg2⟩ := glyphs_facts hg
  unfold kernsB
  have HH := Lib.hid (fun g ns (W : World) (hb : Below w.heap.size w W) (hn : NamesAt g ns W) (hl : ns.length ≤ 1000) (cap : Nat) => hasAll_any x g cap ns W (h.below hb) hg2 hg1 hn hl)
  by_cases h5 : 500 < x.F.ks.length
  · have d1 : decide ((500 : Int) < x.F.ks.length) = true := decide_eq_true (by omega)
    rw [decide_eq_false (show ¬ x.F.ks.length ≤ 500 by omega), Bool.false_and, Bool.false_and]
    clear h HH
    go_enter Try.func43, Try.ntmps43
    go_wp2_with fail
    go_ret
    exact ⟨rfl, (Below.refl _ _).alloc (Nat.le_refl _) _⟩
  · have d1 : decide ((500 : Int) < x.F.ks.length) = false := decide_eq_false (by omega)
    rw [decide_eq_true (show x.F.ks.length ≤ 500 by omega), Bool.true_and]
    have HA := Lib.hid (fun (W : World) (hb : Below w.heap.size w W) => ascK_any x.ak x.F.ks x.ck W (h.ks.below hb) (by omega))
    have HR := Lib.hid h.ks
    clear h
    obtain ⟨⟨fn, fs, fz, gs, ls, ks⟩, ag, al, ak, cg, cl, ck⟩ := x
    simp only at HA HR HH d1 h5 ⊢
    have HH : Hid (∀ g ns (W : World), Below w.heap.size w W → NamesAt g ns W → ns.length ≤ 1000 → ∀ cap : Nat, Calls Try.prog 72 #[.agg #[.string (mk8 fn), .bool fs, .int .i64 fz, .slice ag gs.length cg, .slice al ls.length cl, .slice ak ks.length ck], .slice (some ⟨g, 0, none⟩) ns.length cap] W (Makes (.bool (ns.all (hasB gs))) W)) := HH.out
    show Calls _ _ #[.agg #[.string (mk8 fn), .bool fs, .int .i64 fz, .slice ag gs.length cg, .slice al ls.length cl, .slice ak ks.length ck]] w _
    obtain ⟨sn, hsn⟩ : ∃ s, mk8 fn = s := ⟨_, rfl⟩
    simp only [hsn] at HH
    rw [hsn]
    clear hsn
    have START : Hid (∀ w2, w2 = w.alloc (.cells #[.string sn, .bool fs, .int .i64 fz, .slice ag gs.length cg, .slice al ls.length cl, .slice ak ks.length ck] 37) → w2.heap[w.heap.size]? = some (.cells #[.string sn, .bool fs, .int .i64 fz, .slice ag gs.length cg, .slice al ls.length cl, .slice ak ks.length ck] 37 (0, 0)) ∧ Below w.heap.size w w2) := fun w2 e => by rw [e]; exact ⟨heap_alloc_new w _, (Below.refl _ _).alloc (Nat.le_refl _) _⟩
    cases hasc : ascB cmpKn ks with
    | false =>
      simp only [hasc] at HA
      rw [Bool.false_and]
      clear hasc HR HH
      go_enter Try.func43, Try.ntmps43
      go_upto_region 1 with fail
      generalize hw2 : w.alloc _ = w2
      obtain ⟨ht, hb2⟩ := START.out w2 hw2.symm
      have x4 := cell_of (j := 5) ht rfl
      have HA2 := Lib.hid (HA.out w2 hb2)
      have HB2 := Lib.hid hb2
      clear hw2 hb2 ht HA START
      go_wp2_with fail
      refine HA2.out.mono ?_
      rintro e w3 ⟨rfl, hb3⟩
      go_wp2_with fail
      go_ret
      exact ⟨rfl, HB2.out.trans (hb3.mono HB2.out.size)⟩
    | true =>
      simp only [hasc] at HA
      rw [Bool.true_and]
      clear hasc
      obtain ⟨V, hV⟩ : ∃ V, ks.all (kernB gs) = V := ⟨_, rfl⟩
      rw [hV]
      have HY : Hid ((∀ j, j < ks.length → kernB gs ks[j]! = true) → V = true) := fun h => by rw [← hV]; exact all_of h
      have HN : Hid (∀ j, j < ks.length → kernB gs ks[j]! = false → V = false) := fun j hj h => by rw [← hV]; exact all_no hj h
      clear hV
      go_enter Try.func43, Try.ntmps43
      go_upto_region 1 with fail
      generalize hw2 : w.alloc _ = w2
      obtain ⟨ht, hb2⟩ := START.out w2 hw2.symm
      have x4 := cell_of (j := 5) ht rfl
      have HA2 := Lib.hid (HA.out w2 hb2)
      have HB2 := Lib.hid hb2
      have HT := Lib.hid ht
      have hpl := (Array.getElem?_eq_some_iff.1 ht).1
      clear hw2 hb2 ht HA START
      go_wp2_with fail
      refine HA2.out.mono ?_
      rintro e w3 ⟨rfl, hb3⟩
      have ht3 := hb3.block _ hpl
      rw [HT.out] at ht3
      have y4 := cell_of (j := 5) ht3 rfl
      have HT3 := Lib.hid ht3
      have hpl3 := (Array.getElem?_eq_some_iff.1 ht3).1
      have HB3 := Lib.hid (HB2.out.trans (hb3.mono HB2.out.size))
      clear hb3 ht3 HA2 HT hpl HB2 x4
      go_wp2_with fail
      go_loopw [18] (fun i wr => ∃ k : Nat, k ≤ ks.length ∧ i = .int .i64 k ∧ Hid (∀ j, j < k → kernB gs ks[j]! = true) ∧ Hid (Below w3.heap.size w3 wr)) (fun i _ => ks.length - (intOf i).toNat)
      case atStart => exact ⟨0, by omega, rfl, fun j hj => absurd hj (Nat.not_lt_zero _), Below.refl _ _⟩
      case round =>
        obtain ⟨k, hk, rfl, hn, hbl⟩ := hrel
        by_cases hlt : k < ks.length
        · have HBr := Lib.hid (HB3.out.trans (hbl.out.mono HB3.out.size))
          obtain ⟨b, off, ha, hr⟩ := HR.out.below HBr.out
          obtain ⟨rfl, hbw⟩ := ha (by omega)
          obtain ⟨x, hx⟩ : ∃ x, ks[k]! = x := ⟨_, rfl⟩
          have r1 := hr k hlt
          rw [hx] at r1
          obtain ⟨la, lb, li⟩ := x
          have hz1 : (k : Int) < ks.length := by omega
          have c0 := r1 0 _ rfl
          have c1 := r1 1 _ rfl
          have c2 := r1 2 _ rfl
          rw [Nat.add_zero] at c0
          simp only at c0 c1 c2
          have htr := hbl.out.block _ hpl3
          rw [HT3.out] at htr
          have hplr := (Array.getElem?_eq_some_iff.1 htr).1
          have HV := Lib.hid (HN.out k hlt)
          have HS : Hid (kernB gs ⟨la, lb, li⟩ = true → ∀ j, j < k + 1 → kernB gs ks[j]! = true) := fun h j hj => by
            by_cases e : j = k
            · subst e; rw [hx]; exact h
            · exact hn.out j (by omega)
          rw [hx] at HV
          clear hx r1 hr ha hn
          go_upto_region 6 with fail
          generalize hw4 : wr.alloc _ = w4
          have hb4 : Below wr.heap.size wr w4 := by rw [← hw4]; exact (Below.refl _ _).alloc (Nat.le_refl _) _
          have hcell : w4.heap[wr.heap.size]? = some (.cells #[.string (mk8 la), .string (mk8 lb), .int .i64 li] 90 (0, 0)) := by rw [← hw4]; exact heap_alloc_new wr _
          have ht4 := hb4.block _ hplr
          rw [htr] at ht4
          have HB4 := Lib.hid (HBr.out.trans (hb4.mono HBr.out.size))
          have HBl4 := Lib.hid (hbl.out.trans (hb4.mono hbl.out.size))
          have e0 := cell_of (j := 0) hcell rfl
          have e1 := cell_of (j := 1) hcell rfl
          have e2 := cell_of (j := 2) hcell rfl
          have z0 := cell_of (j := 0) ht4 rfl
          have z1 := cell_of (j := 1) ht4 rfl
          have z2 := cell_of (j := 2) ht4 rfl
          have z3 := cell_of (j := 3) ht4 rfl
          have z4 := cell_of (j := 4) ht4 rfl
          have z5 := cell_of (j := 5) ht4 rfl
          obtain ⟨q, hq⟩ : ∃ q, wr.heap.size = q := ⟨_, rfl⟩
          rw [hq] at e0 e1 e2
          rw [hq]
          have hc := HH.out w4.heap.size [la, lb] _ (HB4.out.trans (((Below.refl w4.heap.size w4).alloc (Nat.le_refl _) _).mono HB4.out.size)) (names2 w4 la lb) (by simp) 2
          have hkb : kernB gs ⟨la, lb, li⟩ = (decide (-500 ≤ li) && decide (li ≤ 500) && !(li == 0) && [la, lb].all (hasB gs)) := by simp [kernB, Bool.and_assoc]
          obtain ⟨u, hu⟩ : ∃ u, [la, lb].all (hasB gs) = u := ⟨_, rfl⟩
          rw [hu] at hc hkb
          have HC := Lib.hid hc
          rw [hkb] at HV HS
          clear hw4 hb4 hcell ht4 htr hbl HBr c0 c1 c2 hq hc y4 hkb hu
          by_cases q1 : li < -500
          · have d2 : decide (li < -500) = true := decide_eq_true q1
            have HV2 := Lib.hid (HV.out (by rw [decide_eq_false (show ¬ -500 ≤ li by omega)]; rfl))
            clear q1 HS HV HC
            go_wp2_with fail
            go_ret
            exact ⟨by rw [HV2.out]; rfl, HB4.out⟩
          · have d2 : decide (li < -500) = false := decide_eq_false q1
            by_cases q2 : 500 < li
            · have d3 : decide (500 < li) = true := decide_eq_true q2
              have HV2 := Lib.hid (HV.out (by rw [decide_eq_false (show ¬ li ≤ 500 by omega), Bool.and_false]; rfl))
              clear q1 q2 HS HV HC
              go_wp2_with fail
              go_ret
              exact ⟨by rw [HV2.out]; rfl, HB4.out⟩
            · have d3 : decide (500 < li) = false := decide_eq_false q2
              by_cases q3 : li = 0
              · have d4 : (li == 0) = true := by simpa using q3
                have HV2 := Lib.hid (HV.out (by rw [d4]; simp))
                clear q1 q2 q3 HS HV HC
                go_wp2_with fail
                go_ret
                exact ⟨by rw [HV2.out]; rfl, HB4.out⟩
              · have d4 : (li == 0) = false := by simpa using q3
                rw [decide_eq_true (show -500 ≤ li by omega), decide_eq_true (show li ≤ 500 by omega), d4] at HV HS
                simp only [Bool.true_and, Bool.not_false] at HV HS
                clear q1 q2 q3
                cases u with
                | false =>
                  have HV2 := Lib.hid (HV.out rfl)
                  clear HS HV
                  go_wp2_with fail
                  refine HC.out.mono ?_
                  rintro e w5 ⟨rfl, hb5⟩
                  have HB5 := Lib.hid ((HB4.out.trans (((Below.refl w4.heap.size w4).alloc (Nat.le_refl _) _).mono HB4.out.size)).trans (hb5.mono (Nat.le_trans HB4.out.size (by simp))))
                  clear hb5
                  go_wp2_with fail
                  go_ret
                  exact ⟨by rw [HV2.out]; rfl, HB5.out⟩
                | true =>
                  have HS2 := Lib.hid (HS.out rfl)
                  clear HS HV
                  go_wp2_with fail
                  refine HC.out.mono ?_
                  rintro e w5 ⟨rfl, hb5⟩
                  have HB5 := Lib.hid ((HBl4.out.trans (((Below.refl w4.heap.size w4).alloc (Nat.le_refl _) _).mono HBl4.out.size)).trans (hb5.mono (Nat.le_trans HBl4.out.size (by simp))))
                  clear hb5
                  go_wp2_with fail
                  go_roundw
                  case rel => exact ⟨k + 1, by omega, by go_num, HS2, HB5⟩
                  case measure => simp [intOf]; omega
        · obtain rfl : k = ks.length := by omega
          have HV := Lib.hid (HY.out hn.out)
          clear hn
          go_wp2_with fail
          go_ret
          exact ⟨by rw [HV.out]; rfl, HB3.out.trans (hbl.out.mono HB3.out.size)⟩
end Go.Proofs.Ytboophfcakdlcaa
