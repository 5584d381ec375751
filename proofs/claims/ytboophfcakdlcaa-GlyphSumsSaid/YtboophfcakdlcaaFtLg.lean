/- Are ligatures valid. -/
import Derived.Test.YtboophfcakdlcaaFtVal
import Derived.Test.YtboophfcakdlcaaFtAscL
import Derived.Test.YtboophfcakdlcaaFtGs
import Derived.Deep.DeepCutAuto
namespace Go.Proofs.Ytboophfcakdlcaa
open Go.RowKit Go.PlainAid Go.Shelf

theorem names3 (w : World) (a b c : List UInt8) : NamesAt w.heap.size [a, b, c] (w.alloc (.cells #[.string (mk8 a), .string (mk8 b), .string (mk8 c)] 9)) := by
  refine ⟨by simp, fun j hj => ?_⟩
  have hj : j < 3 := hj
  obtain rfl | rfl | rfl : j = 0 ∨ j = 1 ∨ j = 2 := by omega
  all_goals exact cell_of (heap_alloc_new w _) rfl
theorem names2 (w : World) (a b : List UInt8) : NamesAt w.heap.size [a, b] (w.alloc (.cells #[.string (mk8 a), .string (mk8 b)] 9)) := by
  refine ⟨by simp, fun j hj => ?_⟩
  have hj : j < 2 := hj
  obtain rfl | rfl : j = 0 ∨ j = 1 := by omega
  all_goals exact cell_of (heap_alloc_new w _) rfl
theorem glyphs_facts {gs : List Gl} (h : glyphsB gs = true) : gs.length ≤ 400 ∧ ascB cmpG gs = true := by
  unfold glyphsB at h
  simp only [Bool.and_eq_true, decide_eq_true_eq] at h
  exact h.1
abbrev okL (gs : List Gl) (l : Lg) : Bool := hasB gs l.a && hasB gs l.b && hasB gs l.is
theorem okL_all (gs : List Gl) (a b c : List UInt8) : [a, b, c].all (hasB gs) = okL gs ⟨a, b, c⟩ := by simp [okL, Bool.and_assoc]

set_option maxRecDepth 100000 in
set_option maxHeartbeats 4000000 in
theorem validLigs_any (x : FA) (w : World) (h : x.ok w) (hg : glyphsB x.F.gs = true) : Calls Try.prog 42 #[fontVal x] w (Makes (.bool (ligsB x.F.gs x.F.ls)) w) := by
  have hce := enters_ligOrder
  obtain ⟨hg1, hg2⟩ := glyphs_facts hg
  unfold ligsB
  have HH := Lib.hid (fun g ns (W : World) (hb : Below w.heap.size w W) (hn : NamesAt g ns W) (hl : ns.length ≤ 1000) (cap : Nat) => hasAll_any x g cap ns W (h.below hb) hg2 hg1 hn hl)
  by_cases h5 : 50 < x.F.ls.length
  · have d1 : decide ((50 : Int) < x.F.ls.length) = true := decide_eq_true (by omega)
    rw [decide_eq_false (show ¬ x.F.ls.length ≤ 50 by omega), Bool.false_and, Bool.false_and]
    clear h HH
    go_enter Try.func42, Try.ntmps42
    go_wp2_with fail
    go_ret
    exact ⟨rfl, (Below.refl _ _).alloc (Nat.le_refl _) _⟩
  · have d1 : decide ((50 : Int) < x.F.ls.length) = false := decide_eq_false (by omega)
    rw [decide_eq_true (show x.F.ls.length ≤ 50 by omega), Bool.true_and]
    have HA := Lib.hid (fun (W : World) (hb : Below w.heap.size w W) => ascL_any x.al x.F.ls x.cl W (h.ls.below hb) (by omega))
    have HR := Lib.hid h.ls
    clear h
    obtain ⟨⟨fn, fs, fz, gs, ls, ks⟩, ag, al, ak, cg, cl, ck⟩ := x
    simp only at HA HR HH d1 h5 ⊢
    have HH : Hid (∀ g ns (W : World), Below w.heap.size w W → NamesAt g ns W → ns.length ≤ 1000 → ∀ cap : Nat, Calls Try.prog 72 #[.agg #[.string (mk8 fn), .bool fs, .int .i64 fz, .slice ag gs.length cg, .slice al ls.length cl, .slice ak ks.length ck], .slice (some ⟨g, 0, none⟩) ns.length cap] W (Makes (.bool (ns.all (hasB gs))) W)) := HH.out
    show Calls _ _ #[.agg #[.string (mk8 fn), .bool fs, .int .i64 fz, .slice ag gs.length cg, .slice al ls.length cl, .slice ak ks.length ck]] w _
    obtain ⟨sn, hsn⟩ : ∃ s, mk8 fn = s := ⟨_, rfl⟩
    simp only [hsn] at HH
    rw [hsn]
    clear hsn
    have START : Hid (∀ w2, w2 = w.alloc (.cells #[.string sn, .bool fs, .int .i64 fz, .slice ag gs.length cg, .slice al ls.length cl, .slice ak ks.length ck] 37) → w2.heap[w.heap.size]? = some (.cells #[.string sn, .bool fs, .int .i64 fz, .slice ag gs.length cg, .slice al ls.length cl, .slice ak ks.length ck] 37 (0, 0)) ∧ Below w.heap.size w w2) := fun w2 e => by rw [e]; exact ⟨heap_alloc_new w _, (Below.refl _ _).alloc (Nat.le_refl _) _⟩
    cases hasc : ascB cmpLg ls with
    | false =>
      simp only [hasc] at HA
      rw [Bool.false_and]
      clear hasc HR HH
      go_enter Try.func42, Try.ntmps42
      go_upto_region 1 with fail
      generalize hw2 : w.alloc _ = w2
      obtain ⟨ht, hb2⟩ := START.out w2 hw2.symm
      have x4 := cell_of (j := 4) ht rfl
      have HA2 := Lib.hid (HA.out w2 hb2)
      have HB2 := Lib.hid hb2
      clear hw2 hb2 ht HA START
      go_wp2_with fail
      refine HA2.out.mono ?_
      rintro e w3 ⟨rfl, hb3⟩
      go_wp2_with fail
      go_ret
      exact ⟨rfl, HB2.out.trans (hb3.mono HB2.out.size)⟩
    | true =>
      simp only [hasc] at HA
      rw [Bool.true_and]
      clear hasc
      obtain ⟨V, hV⟩ : ∃ V, (ls.all fun l => hasB gs l.a && hasB gs l.b && hasB gs l.is) = V := ⟨_, rfl⟩
      rw [hV]
      have HY : Hid ((∀ j, j < ls.length → okL gs ls[j]! = true) → V = true) := fun h => by rw [← hV]; exact all_of h
      have HN : Hid (∀ j, j < ls.length → okL gs ls[j]! = false → V = false) := fun j hj h => by rw [← hV]; exact all_no hj h
      clear hV
      go_enter Try.func42, Try.ntmps42
      go_upto_region 1 with fail
      generalize hw2 : w.alloc _ = w2
      obtain ⟨ht, hb2⟩ := START.out w2 hw2.symm
      have x4 := cell_of (j := 4) ht rfl
      have HA2 := Lib.hid (HA.out w2 hb2)
      have HB2 := Lib.hid hb2
      have HT := Lib.hid ht
      have hpl := (Array.getElem?_eq_some_iff.1 ht).1
      clear hw2 hb2 ht HA START
      go_wp2_with fail
      refine HA2.out.mono ?_
      rintro e w3 ⟨rfl, hb3⟩
      have ht3 := hb3.block _ hpl
      rw [HT.out] at ht3
      have y4 := cell_of (j := 4) ht3 rfl
      have HT3 := Lib.hid ht3
      have hpl3 := (Array.getElem?_eq_some_iff.1 ht3).1
      have HB3 := Lib.hid (HB2.out.trans (hb3.mono HB2.out.size))
      clear hb3 ht3 HA2 HT hpl HB2 x4
      go_wp2_with fail
      go_loopw [18] (fun i wr => ∃ k : Nat, k ≤ ls.length ∧ i = .int .i64 k ∧ Hid (∀ j, j < k → okL gs ls[j]! = true) ∧ Hid (Below w3.heap.size w3 wr)) (fun i _ => ls.length - (intOf i).toNat)
      case atStart => exact ⟨0, by omega, rfl, fun j hj => absurd hj (Nat.not_lt_zero _), Below.refl _ _⟩
      case round =>
        obtain ⟨k, hk, rfl, hn, hbl⟩ := hrel
        by_cases hlt : k < ls.length
        · have HBr := Lib.hid (HB3.out.trans (hbl.out.mono HB3.out.size))
          obtain ⟨b, off, ha, hr⟩ := HR.out.below HBr.out
          obtain ⟨rfl, hbw⟩ := ha (by omega)
          obtain ⟨x, hx⟩ : ∃ x, ls[k]! = x := ⟨_, rfl⟩
          have r1 := hr k hlt
          rw [hx] at r1
          obtain ⟨la, lb, li⟩ := x
          have hz1 : (k : Int) < ls.length := by omega
          have c0 := r1 0 _ rfl
          have c1 := r1 1 _ rfl
          have c2 := r1 2 _ rfl
          rw [Nat.add_zero] at c0
          simp only at c0 c1 c2
          have htr := hbl.out.block _ hpl3
          rw [HT3.out] at htr
          have hplr := (Array.getElem?_eq_some_iff.1 htr).1
          have HV := Lib.hid (HN.out k hlt)
          have HS : Hid (okL gs ⟨la, lb, li⟩ = true → ∀ j, j < k + 1 → okL gs ls[j]! = true) := fun h j hj => by
            by_cases e : j = k
            · subst e; rw [hx]; exact h
            · exact hn.out j (by omega)
          rw [hx] at HV
          clear hx r1 hr ha hn
          go_upto_region 6 with fail
          generalize hw4 : wr.alloc _ = w4
          have hb4 : Below wr.heap.size wr w4 := by rw [← hw4]; exact (Below.refl _ _).alloc (Nat.le_refl _) _
          have hcell : w4.heap[wr.heap.size]? = some (.cells #[.string (mk8 la), .string (mk8 lb), .string (mk8 li)] 89 (0, 0)) := by rw [← hw4]; exact heap_alloc_new wr _
          have ht4 := hb4.block _ hplr
          rw [htr] at ht4
          have HB4 := Lib.hid (HBr.out.trans (hb4.mono HBr.out.size))
          have HBl4 := Lib.hid (hbl.out.trans (hb4.mono hbl.out.size))
          have e0 := cell_of (j := 0) hcell rfl
          have e1 := cell_of (j := 1) hcell rfl
          have e2 := cell_of (j := 2) hcell rfl
          have z0 := cell_of (j := 0) ht4 rfl
          have z1 := cell_of (j := 1) ht4 rfl
          have z2 := cell_of (j := 2) ht4 rfl
          have z3 := cell_of (j := 3) ht4 rfl
          have z4 := cell_of (j := 4) ht4 rfl
          have z5 := cell_of (j := 5) ht4 rfl
          obtain ⟨q, hq⟩ : ∃ q, wr.heap.size = q := ⟨_, rfl⟩
          rw [hq] at e0 e1 e2
          rw [hq]
          have hc := HH.out w4.heap.size [la, lb, li] _ (HB4.out.trans (((Below.refl w4.heap.size w4).alloc (Nat.le_refl _) _).mono HB4.out.size)) (names3 w4 la lb li) (by simp) 3
          rw [okL_all] at hc
          have HC := Lib.hid hc
          clear hw4 hb4 hcell ht4 htr hbl HBr c0 c1 c2 hq hc y4
          cases hv : okL gs ⟨la, lb, li⟩ with
          | false =>
            have HV2 := Lib.hid (HV.out hv)
            rw [hv] at HC
            clear hv
            go_wp2_with fail
            refine HC.out.mono ?_
            rintro e w5 ⟨rfl, hb5⟩
            have HB5 := Lib.hid ((HB4.out.trans (((Below.refl w4.heap.size w4).alloc (Nat.le_refl _) _).mono HB4.out.size)).trans (hb5.mono (Nat.le_trans HB4.out.size (by simp))))
            clear hb5
            go_wp2_with fail
            go_ret
            exact ⟨by rw [HV2.out]; rfl, HB5.out⟩
          | true =>
            have HS2 := Lib.hid (HS.out hv)
            rw [hv] at HC
            clear hv
            go_wp2_with fail
            refine HC.out.mono ?_
            rintro e w5 ⟨rfl, hb5⟩
            have HB5 := Lib.hid ((HBl4.out.trans (((Below.refl w4.heap.size w4).alloc (Nat.le_refl _) _).mono HBl4.out.size)).trans (hb5.mono (Nat.le_trans HBl4.out.size (by simp))))
            clear hb5
            go_wp2_with fail
            go_roundw
            case rel => exact ⟨k + 1, by omega, by go_num, HS2, HB5⟩
            case measure => simp [intOf]; omega
        · obtain rfl : k = ls.length := by omega
          have HV := Lib.hid (HY.out hn.out)
          clear hn
          go_wp2_with fail
          go_ret
          exact ⟨by rw [HV.out]; rfl, HB3.out.trans (hbl.out.mono HB3.out.size)⟩
end Go.Proofs.Ytboophfcakdlcaa
