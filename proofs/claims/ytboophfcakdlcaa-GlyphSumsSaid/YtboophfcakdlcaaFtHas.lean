/- A glyph is looked for among those that ascend. -/
import Derived.Test.YtboophfcakdlcaaFtGs
import Derived.Deep.RegionWith
import Derived.Deep.DeepCutAuto
import Derived.Deep.RegionHeld3
namespace Go.Proofs.Ytboophfcakdlcaa
open Go.RowKit Go.PlainAid Go.Shelf

theorem search_mono {gs : List Gl} {n : List UInt8} (h : ascB cmpG gs = true) {a b : Nat} (hab : a ≤ b) (hb : b < gs.length) (hn : cmpL gs[b]!.nm n < 0) : cmpL gs[a]!.nm n < 0 := by
  by_cases e : a = b
  · subst e; exact hn
  · exact cmpL_neg.2 (ltL_trans (asc_lt h (by omega) hb) (cmpL_neg.1 hn))

set_option maxRecDepth 100000 in
set_option maxHeartbeats 4000000 in
theorem search_any (ao : Option Addr) (xs : List Gl) (cap : Nat) (nm : List UInt8) (w : World) (h : RowK encG 2 ao xs w) (hasc : ascB cmpG xs = true) (hl : xs.length ≤ 400) :
    Calls Try.prog 96 #[.slice ao xs.length cap, .agg #[.string (mk8 nm), .int .i64 0], .func (.func 62) #[] #[]] w (fun e w' => ∃ z : Int, e = .returned (.tuple #[.int .i64 z, .bool (hasB xs nm)]) ∧ Below w.heap.size w w') := by
  have hce := enters_byName
  obtain ⟨V, hV⟩ : ∃ V, hasB xs nm = V := ⟨_, rfl⟩
  rw [hV]
  have HE : Hid (∀ c, c ≤ xs.length → (∀ t, t < c → cmpL xs[t]!.nm nm < 0) → (∀ t, c ≤ t → t < xs.length → 0 ≤ cmpL xs[t]!.nm nm) → V = (decide (c < xs.length) && decide (cmpL xs[c]!.nm nm = 0))) := fun c hc h1 h2 => by rw [← hV]; exact search_has h1 h2 hasc hc
  have HM : Hid (∀ a b, a ≤ b → b < xs.length → cmpL xs[b]!.nm nm < 0 → cmpL xs[a]!.nm nm < 0) := fun a b hab hb hn => search_mono hasc hab hb hn
  have HC0 := Lib.hid (fun a m w => byName_any ⟨a, m⟩ ⟨nm, 0⟩ w)
  have HC0 : Hid (∀ a m w, Calls Try.prog 62 #[.agg #[.string (mk8 a), .int .i64 m], .agg #[.string (mk8 nm), .int .i64 0]] w (Makes (.int .i64 (cmpL a nm)) w)) := HC0.out
  obtain ⟨sn, hsn⟩ : ∃ s, mk8 nm = s := ⟨_, rfl⟩
  simp only [hsn] at HC0
  rw [hsn]
  have HR0 := Lib.hid h
  clear hV hsn h hasc
  go_enter Try.func96, Try.ntmps96
  go_upto_region 1 with fail
  generalize hw2 : w.alloc _ = w2
  have hb2 : Below w.heap.size w w2 := by rw [← hw2]; exact (Below.refl _ _).alloc (Nat.le_refl _) _
  have HT : Hid (w2.heap[w.heap.size]? = some (.cells #[.string sn, .int .i64 0] 44 (0, 0))) := by rw [← hw2]; exact heap_alloc_new w _
  have HB2 := Lib.hid hb2
  have HR2 := Lib.hid (HR0.out.below hb2)
  obtain ⟨p, hp⟩ : ∃ p, w.heap.size = p := ⟨_, rfl⟩
  rw [hp] at HT
  rw [hp]
  have hpl : p < w2.heap.size := (Array.getElem?_eq_some_iff.1 HT.out).1
  clear hw2 hb2 HR0
  go_wp2_with fail
  go_loopw [9, 10] (fun i j wr => ∃ lo hi : Nat, lo ≤ hi ∧ hi ≤ xs.length ∧ i = .int .i64 lo ∧ j = .int .i64 hi ∧ Hid ((∀ t, t < lo → cmpL xs[t]!.nm nm < 0) ∧ (∀ t, hi ≤ t → t < xs.length → 0 ≤ cmpL xs[t]!.nm nm)) ∧ Hid (Below w2.heap.size w2 wr)) (fun i j _ => (intOf j).toNat - (intOf i).toNat)
  case atStart => exact ⟨0, xs.length, by omega, Nat.le_refl _, rfl, rfl, ⟨fun t ht => absurd ht (Nat.not_lt_zero _), fun t h1 h2 => absurd h1 (by omega)⟩, Below.refl _ _⟩
  case round =>
    obtain ⟨lo, hi, hlh, hin, rfl, rfl, hI, hbl⟩ := hrel
    have HRr := Lib.hid (HR2.out.below hbl.out)
    have ht := hbl.out.block p hpl
    rw [HT.out] at ht
    have t0 := cell_of (j := 0) ht rfl
    have t1 := cell_of (j := 1) ht rfl
    by_cases hlt : lo < hi
    · obtain ⟨b, off, ha, hr⟩ := HRr.out
      obtain ⟨rfl, hbw⟩ := ha (by omega)
      obtain ⟨M, hM⟩ : ∃ M, (lo + hi) / 2 = M := ⟨_, rfl⟩
      obtain ⟨x, hx⟩ : ∃ x, xs[M]! = x := ⟨_, rfl⟩
      have r1 := hr M (by omega)
      rw [hx] at r1
      obtain ⟨a, m⟩ := x
      have c0 := r1 0 _ rfl
      have c1 := r1 1 _ rfl
      rw [Nat.add_zero] at c0
      simp only at c0 c1
      have hz1 : (lo : Int) < hi := by omega
      have hz2 : (M : Int) < xs.length := by omega
      have HC := Lib.hid (HC0.out a m)
      have HX : Hid (cmpL xs[M]!.nm nm = cmpL a nm) := by show _ = _; rw [hx]
      obtain ⟨z, hz⟩ : ∃ z, cmpL a nm = z := ⟨_, rfl⟩
      obtain ⟨sa, hsa⟩ : ∃ s, mk8 a = s := ⟨_, rfl⟩
      rw [hz] at HX
      simp only [hz, hsa] at HC
      rw [hsa] at c0
      clear hx r1 hr ha ht hz hsa
      have hMz : ((lo : Int) + (hi : Int)) / 2 = ((M : Nat) : Int) := by omega
      have hMl : lo ≤ M := by omega
      have hMh : M < hi := by omega
      clear hM
      by_cases h0 : z < 0
      · have d0 : decide (z < 0) = true := decide_eq_true h0
        have HS : Hid ((∀ t, t < M + 1 → cmpL xs[t]!.nm nm < 0) ∧ (∀ t, hi ≤ t → t < xs.length → 0 ≤ cmpL xs[t]!.nm nm)) := ⟨fun t ht => HM.out t M (by omega) (by omega) (by rw [HX.out]; exact h0), hI.out.2⟩
        clear h0 hI HX
        go_upto_region 5 with fail
        go_region_with (go_at_call 62; refine (HC.out _).mono ?_; rintro e w1 ⟨rfl, hb1⟩)
        all_goals
          have HB3 := Lib.hid (hbl.out.trans ((below_undrew hb1).mono hbl.out.size))
          clear hb1
          go_wp2_with fail
          go_roundw
          case rel => exact ⟨M + 1, hi, by omega, hin, by go_num, rfl, HS, HB3⟩
          case measure => simp [intOf]; omega
      · have d0 : decide (z < 0) = false := decide_eq_false h0
        have HS : Hid ((∀ t, t < lo → cmpL xs[t]!.nm nm < 0) ∧ (∀ t, M ≤ t → t < xs.length → 0 ≤ cmpL xs[t]!.nm nm)) := ⟨hI.out.1, fun t h1 h2 => Int.not_lt.1 fun h => h0 (by rw [← HX.out]; exact HM.out M t h1 h2 h)⟩
        clear h0 hI HX
        go_upto_region 5 with fail
        go_region_with (go_at_call 62; refine (HC.out _).mono ?_; rintro e w1 ⟨rfl, hb1⟩)
        all_goals
          have HB3 := Lib.hid (hbl.out.trans ((below_undrew hb1).mono hbl.out.size))
          clear hb1
          go_wp2_with fail
          go_roundw
          case rel => exact ⟨lo, M, by omega, by omega, rfl, rfl, HS, HB3⟩
          case measure => simp [intOf]; omega
    · obtain rfl : lo = hi := by omega
      have hz1 : ¬ (lo : Int) < lo := by omega
      have HV := Lib.hid (HE.out lo hin hI.out.1 hI.out.2)
      clear hI
      by_cases hln : lo < xs.length
      · obtain ⟨b, off, ha, hr⟩ := HRr.out
        obtain ⟨rfl, hbw⟩ := ha (by omega)
        obtain ⟨x, hx⟩ : ∃ x, xs[lo]! = x := ⟨_, rfl⟩
        have r1 := hr lo hln
        rw [hx] at r1
        obtain ⟨a, m⟩ := x
        have c0 := r1 0 _ rfl
        have c1 := r1 1 _ rfl
        rw [Nat.add_zero] at c0
        simp only at c0 c1
        have hz2 : (lo : Int) < xs.length := by omega
        have HC := Lib.hid (HC0.out a m)
        have HX : Hid (V = decide (cmpL a nm = 0)) := by show _ = _; rw [HV.out, hx, decide_eq_true hln, Bool.true_and]
        obtain ⟨z, hz⟩ : ∃ z, cmpL a nm = z := ⟨_, rfl⟩
        obtain ⟨sa, hsa⟩ : ∃ s, mk8 a = s := ⟨_, rfl⟩
        rw [hz] at HX
        simp only [hz, hsa] at HC
        rw [hsa] at c0
        clear hx r1 hr ha ht hz hsa HV
        by_cases h0 : z = 0
        · have d0 : (z == 0) = true := by simpa using h0
          have HV : Hid (V = true) := by show _ = _; rw [HX.out]; exact decide_eq_true h0
          clear h0 HX
          have HK : Hid (∀ w1, Below wr.drew.heap.size wr.drew w1 → w1.cell? ⟨p, 0, none⟩ = some (.string sn) ∧ w1.cell? ⟨p, 1, none⟩ = some (.int .i64 0) ∧ w1.cell? ⟨b, off + lo * 2, none⟩ = some (.string sa) ∧ w1.cell? ⟨b, off + lo * 2 + 1, none⟩ = some (.int .i64 m)) := fun w1 hb1 => by
            have hb := below_undrew hb1
            have hpr : p < wr.heap.size := Nat.lt_of_lt_of_le hpl hbl.out.size
            exact ⟨(hb.cell (p := ⟨p, 0, none⟩) hpr).trans t0, (hb.cell (p := ⟨p, 1, none⟩) hpr).trans t1, (hb.cell (p := ⟨b, off + lo * 2, none⟩) hbw).trans c0, (hb.cell (p := ⟨b, off + lo * 2 + 1, none⟩) hbw).trans c1⟩
          go_upto_region 8 with fail
          go_region_held3 (fun w' => w'.cell? ⟨p, 0, none⟩ = some (.string sn) ∧ w'.cell? ⟨p, 1, none⟩ = some (.int .i64 0) ∧ w'.cell? ⟨b, off + lo * 2, none⟩ = some (.string sa) ∧ w'.cell? ⟨b, off + lo * 2 + 1, none⟩ = some (.int .i64 m)) (first | exact ⟨t0, t1, c0, c1⟩ | exact HK.out _ hb1) (first | (go_at_call 62; refine (HC.out _).mono ?_; rintro e w1 ⟨rfl, hb1⟩))
          all_goals
            have HB3 := Lib.hid (HB2.out.trans ((hbl.out.trans ((below_undrew hb1).mono hbl.out.size)).mono HB2.out.size))
            clear hb1
            go_wp2_with fail
            go_ret2
            exact ⟨_, by rw [HV.out]; rfl, HB3.out⟩
        · have d0 : (z == 0) = false := by simpa using h0
          have HV : Hid (V = false) := by show _ = _; rw [HX.out]; exact decide_eq_false h0
          clear h0 HX
          have HK : Hid (∀ w1, Below wr.drew.heap.size wr.drew w1 → w1.cell? ⟨p, 0, none⟩ = some (.string sn) ∧ w1.cell? ⟨p, 1, none⟩ = some (.int .i64 0) ∧ w1.cell? ⟨b, off + lo * 2, none⟩ = some (.string sa) ∧ w1.cell? ⟨b, off + lo * 2 + 1, none⟩ = some (.int .i64 m)) := fun w1 hb1 => by
            have hb := below_undrew hb1
            have hpr : p < wr.heap.size := Nat.lt_of_lt_of_le hpl hbl.out.size
            exact ⟨(hb.cell (p := ⟨p, 0, none⟩) hpr).trans t0, (hb.cell (p := ⟨p, 1, none⟩) hpr).trans t1, (hb.cell (p := ⟨b, off + lo * 2, none⟩) hbw).trans c0, (hb.cell (p := ⟨b, off + lo * 2 + 1, none⟩) hbw).trans c1⟩
          go_upto_region 8 with fail
          go_region_held3 (fun w' => w'.cell? ⟨p, 0, none⟩ = some (.string sn) ∧ w'.cell? ⟨p, 1, none⟩ = some (.int .i64 0) ∧ w'.cell? ⟨b, off + lo * 2, none⟩ = some (.string sa) ∧ w'.cell? ⟨b, off + lo * 2 + 1, none⟩ = some (.int .i64 m)) (first | exact ⟨t0, t1, c0, c1⟩ | exact HK.out _ hb1) (first | (go_at_call 62; refine (HC.out _).mono ?_; rintro e w1 ⟨rfl, hb1⟩))
          all_goals
            have HB3 := Lib.hid (HB2.out.trans ((hbl.out.trans ((below_undrew hb1).mono hbl.out.size)).mono HB2.out.size))
            clear hb1
            go_wp2_with fail
            go_ret2
            exact ⟨_, by rw [HV.out]; rfl, HB3.out⟩
      · have hz2 : ¬ (lo : Int) < xs.length := by omega
        have HV2 : Hid (V = false) := by show _ = _; rw [HV.out, decide_eq_false hln]; rfl
        clear HV ht
        go_upto_region 8 with fail
        go_region
        all_goals
          go_wp2_with fail
          go_ret2
          have hb9 := HB2.out.trans (hbl.out.drew.mono HB2.out.size)
          rw [hp] at hb9
          refine ⟨⟨lo, ?_⟩, hb9⟩
          rw [HV2.out]
          rfl
end Go.Proofs.Ytboophfcakdlcaa
