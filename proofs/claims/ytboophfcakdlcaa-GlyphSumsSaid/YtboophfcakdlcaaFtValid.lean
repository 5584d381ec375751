/- Is a font valid. -/
import Derived.Test.YtboophfcakdlcaaFtKn
import Derived.Deep.DeepCutAuto
namespace Go.Proofs.Ytboophfcakdlcaa
open Go.RowKit Go.PlainAid Go.Shelf

set_option maxRecDepth 100000 in
set_option maxHeartbeats 4000000 in
theorem valid_any (x : FA) (w : World) (h : x.ok w) : Calls Try.prog 13 #[fontVal x] w (Makes (.bool (validB x.F)) w) := by
  have H1 := Lib.hid (fun w => fontName_any x.F.name w)
  have H2 := Lib.hid (fun w => width_any x.F.space w)
  have H3 := Lib.hid (fun (W : World) (hb : Below w.heap.size w W) => validGlyphs_any x.ag x.F.gs x.cg W (h.gs.below hb))
  have H4 := Lib.hid (fun (W : World) (hb : Below w.heap.size w W) (hg : glyphsB x.F.gs = true) => validLigs_any x W (h.below hb) hg)
  have H5 := Lib.hid (fun (W : World) (hb : Below w.heap.size w W) (hg : glyphsB x.F.gs = true) => validKerns_any x W (h.below hb) hg)
  unfold validB
  clear h
  obtain ⟨⟨fn, fs, fz, gs, ls, ks⟩, ag, al, ak, cg, cl, ck⟩ := x
  simp only at H1 H2 H3 H4 H5 ⊢
  have H4 : Hid (∀ (W : World), Below w.heap.size w W → glyphsB gs = true → Calls Try.prog 42 #[.agg #[.string (mk8 fn), .bool fs, .int .i64 fz, .slice ag gs.length cg, .slice al ls.length cl, .slice ak ks.length ck]] W (Makes (.bool (ligsB gs ls)) W)) := H4.out
  have H5 : Hid (∀ (W : World), Below w.heap.size w W → glyphsB gs = true → Calls Try.prog 43 #[.agg #[.string (mk8 fn), .bool fs, .int .i64 fz, .slice ag gs.length cg, .slice al ls.length cl, .slice ak ks.length ck]] W (Makes (.bool (kernsB gs ks)) W)) := H5.out
  show Calls _ _ #[.agg #[.string (mk8 fn), .bool fs, .int .i64 fz, .slice ag gs.length cg, .slice al ls.length cl, .slice ak ks.length ck]] w _
  have HG : Hid (∀ a3 : Bool, glyphsB gs = a3 → a3 = true → glyphsB gs = true) := fun a h1 h2 => h1.trans h2
  obtain ⟨a1, ha1⟩ : ∃ b, fontNameB fn = b := ⟨_, rfl⟩
  obtain ⟨a2, ha2⟩ : ∃ b, widthB fz = b := ⟨_, rfl⟩
  obtain ⟨a3, ha3⟩ : ∃ b, glyphsB gs = b := ⟨_, rfl⟩
  obtain ⟨a4, ha4⟩ : ∃ b, ligsB gs ls = b := ⟨_, rfl⟩
  obtain ⟨a5, ha5⟩ : ∃ b, kernsB gs ks = b := ⟨_, rfl⟩
  obtain ⟨sn, hsn⟩ : ∃ s, mk8 fn = s := ⟨_, rfl⟩
  simp only [ha1, hsn] at H1
  simp only [ha2] at H2
  simp only [ha3] at H3 H4 H5
  simp only [ha4, hsn] at H4
  simp only [ha5, hsn] at H5
  rw [ha1, ha2, ha3, ha4, ha5, hsn]
  clear ha1 ha2 ha3 ha4 ha5 hsn HG
  have START : Hid (∀ w2, w2 = w.alloc (.cells #[.string sn, .bool fs, .int .i64 fz, .slice ag gs.length cg, .slice al ls.length cl, .slice ak ks.length ck] 37) → w2.heap[w.heap.size]? = some (.cells #[.string sn, .bool fs, .int .i64 fz, .slice ag gs.length cg, .slice al ls.length cl, .slice ak ks.length ck] 37 (0, 0)) ∧ Below w.heap.size w w2) := fun w2 e => by rw [e]; exact ⟨heap_alloc_new w _, (Below.refl _ _).alloc (Nat.le_refl _) _⟩
  cases a1 with
  | false =>
    simp only [Bool.false_and]
    go_enter Try.func13, Try.ntmps13
    go_upto_region 1 with fail
    generalize hw2 : w.alloc _ = w2
    obtain ⟨ht, hb2⟩ := START.out w2 hw2.symm
    have x0 := cell_of (j := 0) ht rfl
    have x2 := cell_of (j := 2) ht rfl
    have x3 := cell_of (j := 3) ht rfl
    have HB2 := Lib.hid hb2
    have HT2 := Lib.hid ht
    clear hw2 hb2 ht START
    go_wp2_with fail
    refine (H1.out _).mono ?_
    rintro e v1 ⟨rfl, rfl⟩
    go_wp2_with fail
    go_ret
    exact ⟨rfl, HB2.out⟩
  | true =>
    cases a2 with
    | false =>
      simp only [Bool.false_and, Bool.and_false]
      go_enter Try.func13, Try.ntmps13
      go_upto_region 1 with fail
      generalize hw2 : w.alloc _ = w2
      obtain ⟨ht, hb2⟩ := START.out w2 hw2.symm
      have x0 := cell_of (j := 0) ht rfl
      have x2 := cell_of (j := 2) ht rfl
      have x3 := cell_of (j := 3) ht rfl
      have HB2 := Lib.hid hb2
      have HT2 := Lib.hid ht
      clear hw2 hb2 ht START
      go_wp2_with fail
      refine (H1.out _).mono ?_
      rintro e v1 ⟨rfl, rfl⟩
      go_wp2_with fail
      refine (H2.out _).mono ?_
      rintro e v1 ⟨rfl, rfl⟩
      go_wp2_with fail
      go_ret
      exact ⟨rfl, HB2.out⟩
    | true =>
      cases a3 with
      | false =>
        simp only [Bool.false_and, Bool.true_and, Bool.and_false]
        go_enter Try.func13, Try.ntmps13
        go_upto_region 1 with fail
        generalize hw2 : w.alloc _ = w2
        obtain ⟨ht, hb2⟩ := START.out w2 hw2.symm
        have x0 := cell_of (j := 0) ht rfl
        have x2 := cell_of (j := 2) ht rfl
        have x3 := cell_of (j := 3) ht rfl
        have HB2 := Lib.hid hb2
        have HT2 := Lib.hid ht
        clear hw2 hb2 ht START
        go_wp2_with fail
        refine (H1.out _).mono ?_
        rintro e v1 ⟨rfl, rfl⟩
        go_wp2_with fail
        refine (H2.out _).mono ?_
        rintro e v1 ⟨rfl, rfl⟩
        go_wp2_with fail
        clear x0 x2
        refine (H3.out _ HB2.out).mono ?_
        rintro e w3 ⟨rfl, hc⟩
        have HB3 := Lib.hid (HB2.out.trans (hc.mono HB2.out.size))
        clear hc HT2
        go_wp2_with fail
        go_ret
        exact ⟨rfl, HB3.out⟩
      | true =>
        cases a4 with
        | false =>
          simp only [Bool.false_and, Bool.true_and, Bool.and_false]
          go_enter Try.func13, Try.ntmps13
          go_upto_region 1 with fail
          generalize hw2 : w.alloc _ = w2
          obtain ⟨ht, hb2⟩ := START.out w2 hw2.symm
          have x0 := cell_of (j := 0) ht rfl
          have x2 := cell_of (j := 2) ht rfl
          have x3 := cell_of (j := 3) ht rfl
          have HB2 := Lib.hid hb2
          have HT2 := Lib.hid ht
          clear hw2 hb2 ht START
          go_wp2_with fail
          refine (H1.out _).mono ?_
          rintro e v1 ⟨rfl, rfl⟩
          go_wp2_with fail
          refine (H2.out _).mono ?_
          rintro e v1 ⟨rfl, rfl⟩
          go_wp2_with fail
          clear x0 x2
          refine (H3.out _ HB2.out).mono ?_
          rintro e w3 ⟨rfl, hc⟩
          have hl := (Array.getElem?_eq_some_iff.1 HT2.out).1
          have ht := hc.block _ hl
          rw [HT2.out] at ht
          have y30 := cell_of (j := 0) ht rfl
          have y31 := cell_of (j := 1) ht rfl
          have y32 := cell_of (j := 2) ht rfl
          have y33 := cell_of (j := 3) ht rfl
          have y34 := cell_of (j := 4) ht rfl
          have y35 := cell_of (j := 5) ht rfl
          have HT3 := Lib.hid ht
          have HB3 := Lib.hid (HB2.out.trans (hc.mono HB2.out.size))
          clear hc ht hl HT2
          go_wp2_with fail
          clear x3
          refine (H4.out _ HB3.out (by simp)).mono ?_
          rintro e w4 ⟨rfl, hc⟩
          have HB4 := Lib.hid (HB3.out.trans (hc.mono HB3.out.size))
          clear hc HT3
          go_wp2_with fail
          go_ret
          exact ⟨rfl, HB4.out⟩
        | true =>
          cases a5 with
          | false =>
            simp only [Bool.true_and, Bool.and_false]
            go_enter Try.func13, Try.ntmps13
            go_upto_region 1 with fail
            generalize hw2 : w.alloc _ = w2
            obtain ⟨ht, hb2⟩ := START.out w2 hw2.symm
            have x0 := cell_of (j := 0) ht rfl
            have x2 := cell_of (j := 2) ht rfl
            have x3 := cell_of (j := 3) ht rfl
            have HB2 := Lib.hid hb2
            have HT2 := Lib.hid ht
            clear hw2 hb2 ht START
            go_wp2_with fail
            refine (H1.out _).mono ?_
            rintro e v1 ⟨rfl, rfl⟩
            go_wp2_with fail
            refine (H2.out _).mono ?_
            rintro e v1 ⟨rfl, rfl⟩
            go_wp2_with fail
            clear x0 x2
            refine (H3.out _ HB2.out).mono ?_
            rintro e w3 ⟨rfl, hc⟩
            have hl := (Array.getElem?_eq_some_iff.1 HT2.out).1
            have ht := hc.block _ hl
            rw [HT2.out] at ht
            have y30 := cell_of (j := 0) ht rfl
            have y31 := cell_of (j := 1) ht rfl
            have y32 := cell_of (j := 2) ht rfl
            have y33 := cell_of (j := 3) ht rfl
            have y34 := cell_of (j := 4) ht rfl
            have y35 := cell_of (j := 5) ht rfl
            have HT3 := Lib.hid ht
            have HB3 := Lib.hid (HB2.out.trans (hc.mono HB2.out.size))
            clear hc ht hl HT2
            go_wp2_with fail
            clear x3
            refine (H4.out _ HB3.out (by simp)).mono ?_
            rintro e w4 ⟨rfl, hc⟩
            have hl := (Array.getElem?_eq_some_iff.1 HT3.out).1
            have ht := hc.block _ hl
            rw [HT3.out] at ht
            have y40 := cell_of (j := 0) ht rfl
            have y41 := cell_of (j := 1) ht rfl
            have y42 := cell_of (j := 2) ht rfl
            have y43 := cell_of (j := 3) ht rfl
            have y44 := cell_of (j := 4) ht rfl
            have y45 := cell_of (j := 5) ht rfl
            have HT4 := Lib.hid ht
            have HB4 := Lib.hid (HB3.out.trans (hc.mono HB3.out.size))
            clear hc ht hl HT3
            go_wp2_with fail
            refine (H5.out _ HB4.out (by simp)).mono ?_
            rintro e w5 ⟨rfl, hc⟩
            have HB5 := Lib.hid (HB4.out.trans (hc.mono HB4.out.size))
            clear hc HT4
            go_wp2_with fail
            go_ret
            exact ⟨rfl, HB5.out⟩
          | true =>
            simp only [Bool.true_and]
            go_enter Try.func13, Try.ntmps13
            go_upto_region 1 with fail
            generalize hw2 : w.alloc _ = w2
            obtain ⟨ht, hb2⟩ := START.out w2 hw2.symm
            have x0 := cell_of (j := 0) ht rfl
            have x2 := cell_of (j := 2) ht rfl
            have x3 := cell_of (j := 3) ht rfl
            have HB2 := Lib.hid hb2
            have HT2 := Lib.hid ht
            clear hw2 hb2 ht START
            go_wp2_with fail
            refine (H1.out _).mono ?_
            rintro e v1 ⟨rfl, rfl⟩
            go_wp2_with fail
            refine (H2.out _).mono ?_
            rintro e v1 ⟨rfl, rfl⟩
            go_wp2_with fail
            clear x0 x2
            refine (H3.out _ HB2.out).mono ?_
            rintro e w3 ⟨rfl, hc⟩
            have hl := (Array.getElem?_eq_some_iff.1 HT2.out).1
            have ht := hc.block _ hl
            rw [HT2.out] at ht
            have y30 := cell_of (j := 0) ht rfl
            have y31 := cell_of (j := 1) ht rfl
            have y32 := cell_of (j := 2) ht rfl
            have y33 := cell_of (j := 3) ht rfl
            have y34 := cell_of (j := 4) ht rfl
            have y35 := cell_of (j := 5) ht rfl
            have HT3 := Lib.hid ht
            have HB3 := Lib.hid (HB2.out.trans (hc.mono HB2.out.size))
            clear hc ht hl HT2
            go_wp2_with fail
            clear x3
            refine (H4.out _ HB3.out (by simp)).mono ?_
            rintro e w4 ⟨rfl, hc⟩
            have hl := (Array.getElem?_eq_some_iff.1 HT3.out).1
            have ht := hc.block _ hl
            rw [HT3.out] at ht
            have y40 := cell_of (j := 0) ht rfl
            have y41 := cell_of (j := 1) ht rfl
            have y42 := cell_of (j := 2) ht rfl
            have y43 := cell_of (j := 3) ht rfl
            have y44 := cell_of (j := 4) ht rfl
            have y45 := cell_of (j := 5) ht rfl
            have HT4 := Lib.hid ht
            have HB4 := Lib.hid (HB3.out.trans (hc.mono HB3.out.size))
            clear hc ht hl HT3
            go_wp2_with fail
            refine (H5.out _ HB4.out (by simp)).mono ?_
            rintro e w5 ⟨rfl, hc⟩
            have HB5 := Lib.hid (HB4.out.trans (hc.mono HB4.out.size))
            clear hc HT4
            go_wp2_with fail
            go_ret
            exact ⟨rfl, HB5.out⟩
end Go.Proofs.Ytboophfcakdlcaa
