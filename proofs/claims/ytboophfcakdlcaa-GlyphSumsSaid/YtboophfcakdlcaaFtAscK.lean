/- Do lists ascend: kerns. -/
import Derived.Test.YtboophfcakdlcaaFtAsc
import Derived.Deep.RegionWith
import Derived.Deep.DeepCutAuto
namespace Go.Proofs.Ytboophfcakdlcaa
open Go.RowKit Go.PlainAid Go.Shelf

set_option maxRecDepth 100000 in
set_option maxHeartbeats 4000000 in
theorem ascK_any (ao : Option Addr) (xs : List Kn) (cap : Nat) (w : World) (h : RowK encKn 3 ao xs w) (hl : xs.length ≤ 1000000) : Calls Try.prog 73 #[.slice ao xs.length cap, .func (.func 74) #[] #[]] w (Makes (.bool (ascB cmpKn xs)) w) := by
  have hce := enters_kernOrder
  obtain ⟨b, off, hb, hr⟩ := h
  obtain ⟨V, hV⟩ : ∃ V, ascB cmpKn xs = V := ⟨_, rfl⟩
  rw [hV]
  have HY : Hid ((∀ j, j + 1 < xs.length → cmpKn xs[j]! xs[j + 1]! < 0) → V = true) := fun h => by rw [← hV]; exact ascB_iff.2 h
  have HN : Hid (∀ j, j + 1 < xs.length → 0 ≤ cmpKn xs[j]! xs[j + 1]! → V = false) := fun j hj h => by rw [← hV]; exact ascB_no hj h
  have HR := Lib.hid hr
  have HA := Lib.hid hb
  clear hV hr hb
  go_enter Try.func73, Try.ntmps73
  go_wp2_with fail
  go_loopw [5] (fun i wr => ∃ k : Nat, (k = 0 ∨ k < xs.length) ∧ i = .int .i64 ((k : Int) + 1) ∧ Hid (∀ j, j < k → cmpKn xs[j]! xs[j + 1]! < 0) ∧ Hid (Below w.heap.size w wr)) (fun i _ => xs.length + 1 - (intOf i).toNat)
  case atStart => exact ⟨0, .inl rfl, rfl, fun j hj => absurd hj (Nat.not_lt_zero _), Below.refl _ _⟩
  case round =>
    obtain ⟨k, hk, rfl, hn, hbl⟩ := hrel
    by_cases hlt : k + 1 < xs.length
    · obtain ⟨rfl, hbw⟩ := HA.out (by omega)
      obtain ⟨x, hx⟩ : ∃ x, xs[k]! = x := ⟨_, rfl⟩
      obtain ⟨y, hy⟩ : ∃ y, xs[k + 1]! = y := ⟨_, rfl⟩
      have r1 := HR.out k (by omega)
      have r2 := HR.out (k + 1) hlt
      rw [hx] at r1
      rw [hy] at r2
      have hz1 : (k : Int) + 1 < xs.length := by omega
      have hz2 : (k : Int) < xs.length := by omega
      have hz3 : (0 : Int) ≤ (k : Int) + 1 := by omega
      have hz0 : (0 : Int) ≤ (k : Int) := by omega
      have hz4 : (k : Int) + 1 - 1 = k := by omega
      have hz5 : ((k : Int) + 1).toNat = k + 1 := by omega
      have hwr : IntKind.i64.wrap (k : Int) = (k : Int) := by simp [IntKind.wrap, IntKind.bits, IntKind.signed]; omega
      have c0 := (hbl.out.cell (p := ⟨b, off + k * 3 + 0, none⟩) hbw).trans (r1 0 _ rfl)
      have c1 := (hbl.out.cell (p := ⟨b, off + k * 3 + 1, none⟩) hbw).trans (r1 1 _ rfl)
      have c4 := (hbl.out.cell (p := ⟨b, off + k * 3 + 2, none⟩) hbw).trans (r1 2 _ rfl)
      have c5 := (hbl.out.cell (p := ⟨b, off + (k + 1) * 3 + 2, none⟩) hbw).trans (r2 2 _ rfl)
      have c2 := (hbl.out.cell (p := ⟨b, off + (k + 1) * 3 + 0, none⟩) hbw).trans (r2 0 _ rfl)
      have c3 := (hbl.out.cell (p := ⟨b, off + (k + 1) * 3 + 1, none⟩) hbw).trans (r2 1 _ rfl)
      rw [Nat.add_zero] at c0 c2
      have HC := Lib.hid (fun w => kernOrder_any x y w)
      obtain ⟨a, a2, m⟩ := x
      obtain ⟨c, c2', n⟩ := y
      have HC : Hid (∀ w, Calls Try.prog 74 #[.agg #[.string (mk8 a), .string (mk8 a2), .int .i64 m], .agg #[.string (mk8 c), .string (mk8 c2'), .int .i64 n]] w (Makes (.int .i64 (orI (cmpL a c) (cmpL a2 c2'))) w)) := HC.out
      have HZ : Hid (cmpKn xs[k]! xs[k + 1]! = orI (cmpL a c) (cmpL a2 c2')) := by show _ = _; rw [hx, hy]
      simp only at c0 c1 c2 c3 c4 c5
      obtain ⟨z, hz⟩ : ∃ z, orI (cmpL a c) (cmpL a2 c2') = z := ⟨_, rfl⟩
      obtain ⟨sa, ha⟩ : ∃ s, mk8 a = s := ⟨_, rfl⟩
      obtain ⟨sc, hc⟩ : ∃ s, mk8 c = s := ⟨_, rfl⟩
      obtain ⟨sa2, ha2⟩ : ∃ s, mk8 a2 = s := ⟨_, rfl⟩
      obtain ⟨sc2, hc2⟩ : ∃ s, mk8 c2' = s := ⟨_, rfl⟩
      simp only [hz, ha, hc, ha2, hc2] at HC
      rw [hz] at HZ
      rw [ha] at c0
      rw [hc] at c2
      rw [ha2] at c1
      rw [hc2] at c3
      clear hx hy r1 r2 hz ha hc ha2 hc2 HR
      by_cases h0 : 0 ≤ z
      · have d0 : decide (0 ≤ z) = true := decide_eq_true h0
        have HV := Lib.hid (HN.out k hlt (by rw [HZ.out]; exact h0))
        go_upto_region 4 with fail
        go_region_with (go_at_call 74; refine (HC.out _).mono ?_; rintro e w1 ⟨rfl, hb1⟩)
        all_goals
          have hb2 := hbl.out.trans ((below_undrew hb1).mono hbl.out.size)
          clear hb1
          go_wp2_with fail
          go_ret
          exact ⟨by rw [HV.out]; rfl, hb2⟩
      · have d0 : decide (0 ≤ z) = false := decide_eq_false h0
        have HS : Hid (∀ j, j < k + 1 → cmpKn xs[j]! xs[j + 1]! < 0) := fun j hj => by
          by_cases e : j = k
          · subst e; rw [HZ.out]; omega
          · exact hn.out j (by omega)
        go_upto_region 4 with fail
        go_region_with (go_at_call 74; refine (HC.out _).mono ?_; rintro e w1 ⟨rfl, hb1⟩)
        all_goals
          have HB2 := Lib.hid (hbl.out.trans ((below_undrew hb1).mono hbl.out.size))
          clear hb1
          go_wp2_with fail
          go_roundw
          case rel => exact ⟨k + 1, .inr hlt, by go_num, HS, HB2⟩
          case measure => simp [intOf]; omega
    · have hz1 : ¬ (k : Int) + 1 < xs.length := by omega
      have HV := Lib.hid (HY.out fun j hj => hn.out j (by omega))
      go_wp2_with fail
      go_ret
      exact ⟨by rw [HV.out]; rfl, hbl.out⟩
end Go.Proofs.Ytboophfcakdlcaa
