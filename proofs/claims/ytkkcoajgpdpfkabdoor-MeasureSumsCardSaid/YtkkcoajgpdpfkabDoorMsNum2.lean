/- A number. -/
import Derived.Test.YtkkcoajgpdpfkabDoorMsNum
namespace Go.Proofs.YtkkcoajgpdpfkabDoor
open Go.RowKit Go.PlainAid

theorem mul_bd {x u : Int} (h0 : 0 ≤ x) (h1 : x ≤ 1000000000) (h2 : 0 ≤ u) (h3 : u ≤ 10000000) : 0 ≤ x * u ∧ x * u ≤ 10000000000000000 := by
  refine ⟨Int.mul_nonneg h0 h2, ?_⟩
  have := Int.mul_le_mul h1 h3 h2 (by omega)
  omega
theorem div_bd {x y : Int} (h0 : 0 ≤ x) (h1 : 1 ≤ y) : 0 ≤ x / y ∧ x / y ≤ x := ⟨Int.ediv_nonneg h0 (by omega), Int.ediv_le_self _ h0⟩

theorem number_is {E : Ms.Env} {p e1 k q : Nat} {u A B C : Int} (he1 : Ms.dEnd E.s p 9 = e1) (hk : Ms.partLen E.s e1 = k) (h0 : ¬ (e1 = p ∧ k = 0))
    (hu : (Ms.unitO (bt E.s (partEnd e1 k)) E.z E.v).getD E.one = u) (hq : (if (Ms.unitO (bt E.s (partEnd e1 k)) E.z E.v).isSome then partEnd e1 k + 1 else partEnd e1 k) = q)
    (hA : Ms.dVal E.s p (e1 - p) = A) (hB : Ms.dVal E.s (e1 + 1) k = B) (hC : Ms.tenTo k = C) :
    Ms.number E p = (match Ms.reck E (A * u + B * u / C) with | .ok n => .ok (n, q) | .er c => .er c) := by
  have hn : Ms.numEnd E.s p = partEnd e1 k := by unfold Ms.numEnd partEnd; rw [he1, hk]
  unfold Ms.number
  simp only [hn, he1, hk, hA, hB, hC, hu, hq]
  rw [if_neg h0]
  rfl

set_option maxHeartbeats 2000000 in
theorem number_any (E : Ms.Env) (g : E.Good) (b p : Nat) (d l : Int) (w : World) (hr : Rd E b p d l w) (hp : p ≤ E.s.size) :
    Calls Tryd.prog 42 #[.pointer (some ⟨b, 0, none⟩)] w (After E b d l l w (Ms.number E p)) := by
  have hs := g.sz
  obtain ⟨e1, he1⟩ : ∃ e1, Ms.dEnd E.s p 9 = e1 := ⟨_, rfl⟩
  obtain ⟨k, hk⟩ : ∃ k, Ms.partLen E.s e1 = k := ⟨_, rfl⟩
  have e1ge : p ≤ e1 := he1 ▸ Ms.dEnd_ge E.s 9 p
  have e1le : e1 ≤ p + 9 := he1 ▸ Ms.dEnd_le E.s 9 p
  have e1sz : e1 ≤ E.s.size := he1 ▸ Ms.dEnd_size E.s 9 p hp
  have e1dg : ∀ j, p ≤ j → j < e1 → Ms.digB (bt E.s j) = true := fun j a c => Ms.dEnd_dig E.s 9 p j a (he1 ▸ c)
  have hps := part_size e1sz
  rw [hk] at hps
  obtain ⟨ksz, k9, kdg⟩ := hps
  have hx := empty_of (p := p) e1sz
  have hy : (E.s.extract (e1 + 1) (e1 + 1 + k)).toList.isEmpty = decide (k = 0) := by
    rcases ksz with h | h
    · rw [h, Nat.add_zero, extract_self]; simp [Lib.toList_data]
    · rw [empty_of h]; simp; omega
  have hc := digits_any E b p d l w hs hr hp
  rw [he1] at hc
  by_cases h0 : e1 = p ∧ k = 0
  · have hn : Ms.number E p = .er 4 := by unfold Ms.number; simp only [he1, hk]; rw [if_pos h0]
    rw [hn]
    rw [decide_eq_true (by omega)] at hx
    rw [decide_eq_true h0.2] at hy
    have HC := Lib.hid hc
    have HK := Lib.hid hk
    clear hc hk he1 hn h0 e1dg kdg ksz
    go_enter Tryd.func42, Tryd.ntmps42
    go_wp2_with fail
    refine HC.out.mono ?_
    rintro e w1 ⟨rfl, hm1⟩
    go_wp2_with fail
    refine (part_any E b e1 d l _ hs hm1.1 e1sz k HK.out).mono ?_
    rintro e w2 ⟨rfl, hm2⟩
    go_wp2
    exact ⟨rfl, rfl, _, _, hm1.trans hm2⟩
  · obtain ⟨u, hu⟩ : ∃ u, (Ms.unitO (bt E.s (partEnd e1 k)) E.z E.v).getD E.one = u := ⟨_, rfl⟩
    obtain ⟨q, hq⟩ : ∃ q, (if (Ms.unitO (bt E.s (partEnd e1 k)) E.z E.v).isSome then partEnd e1 k + 1 else partEnd e1 k) = q := ⟨_, rfl⟩
    have ub : 0 ≤ u ∧ u ≤ 10000000 := by
      cases ho : Ms.unitO (bt E.s (partEnd e1 k)) E.z E.v with
      | none => rw [ho] at hu; subst hu; exact ⟨g.o0, g.o1⟩
      | some v => rw [ho] at hu; subst hu; exact unitO_bd ho g.z0 g.z1 g.v0 g.v1
    have pe : partEnd e1 k ≤ E.s.size := by unfold partEnd; split <;> omega
    have hAc := fun w => valueOf_at E.s p e1 e1sz (by omega) e1dg w
    have hBc : ∀ w, Calls Tryd.prog 63 #[.string (E.s.extract (e1 + 1) (e1 + 1 + k))] w fun f w' => f = .returned (.int .i64 (Ms.dVal E.s (e1 + 1) k)) ∧ w = w' := by
      intro w
      rcases ksz with h | h
      · subst h
        rw [Nat.add_zero, extract_self]
        exact valueOf_any ⟨#[]⟩ (by decide) (fun j hj => absurd hj (Nat.not_lt_zero _)) w
      · have := valueOf_at E.s (e1 + 1) (e1 + 1 + k) h (by omega) kdg w
        rw [show e1 + 1 + k - (e1 + 1) = k from by omega] at this
        exact this
    obtain ⟨A, hA⟩ : ∃ A, Ms.dVal E.s p (e1 - p) = A := ⟨_, rfl⟩
    obtain ⟨B, hB⟩ : ∃ B, Ms.dVal E.s (e1 + 1) k = B := ⟨_, rfl⟩
    obtain ⟨C, hC⟩ : ∃ C, Ms.tenTo k = C := ⟨_, rfl⟩
    have Ab := Ms.dVal_bd E.s p (e1 - p) (fun j a c => e1dg j a (by omega))
    have Bb := Ms.dVal_bd E.s (e1 + 1) k kdg
    have t1 := Ms.tenTo_mono (m := e1 - p) (n := 9) (by omega)
    have t2 := Ms.tenTo_mono (m := k) (n := 9) k9
    have t3 := Ms.tenTo_pos k
    rw [Ms.tenTo9] at t1 t2
    have hCc := fun w => powerOfTen_any k k9 w
    rw [number_is he1 hk h0 hu hq hA hB hC]
    rw [hA] at Ab
    rw [hB] at Bb
    rw [hC] at Bb t2 t3
    simp only [hA] at hAc
    simp only [hB] at hBc
    simp only [hC] at hCc
    have b1 := mul_bd (x := A) (u := u) Ab.1 (by omega) ub.1 ub.2
    have b2 := mul_bd (x := B) (u := u) Bb.1 (by omega) ub.1 ub.2
    have b3 := div_bd (x := B * u) (y := C) b2.1 t3
    obtain ⟨a1, a2⟩ := b1
    obtain ⟨a3, a4⟩ := b2
    obtain ⟨a5, a6⟩ := b3
    have hlen : (E.s.extract (e1 + 1) (e1 + 1 + k)).size = k := by
      rcases ksz with h | h
      · rw [h, Nat.add_zero, extract_self]; rfl
      · rw [size_extract _ _ _ h]; omega
    have HC := Lib.hid hc
    have HK := Lib.hid hk
    have HU := Lib.hid hu
    have HQ := Lib.hid hq
    have HA := Lib.hid hAc
    have HB := Lib.hid hBc
    have HP := Lib.hid hCc
    clear hc hk he1 e1dg kdg ksz hu hq hAc hBc hCc hA hB hC Ab Bb t1 t2
    have main : ∀ (x y : Bool) (r : Ms.Res Int), decide (e1 ≤ p) = x → decide (k = 0) = y → (x && y) = false → Ms.reck E (A * u + B * u / C) = r → Calls Tryd.prog 42 #[.pointer (some ⟨b, 0, none⟩)] w (After E b d l l w (match r with | .ok n => .ok (n, q) | .er c => .er c)) := by
      intro x y r hx' hy' hxy hrr
      rw [hx'] at hx
      rw [hy'] at hy
      have HR := Lib.hid hrr
      clear hx' hy' h0 hrr
      cases x <;> cases y <;> simp at hxy
      all_goals
        cases r with
        | ok n =>
          go_enter Tryd.func42, Tryd.ntmps42
          go_wp2_with fail
          refine HC.out.mono ?_
          rintro e w1 ⟨rfl, hm1⟩
          go_wp2_with fail
          refine (part_any E b e1 d l _ hs hm1.1 e1sz k HK.out).mono ?_
          rintro e w2 ⟨rfl, hm2⟩
          go_wp2_with fail
          refine (unit_any E g b (partEnd e1 k) d l _ hm2.1 pe u HU.out q HQ.out).mono ?_
          rintro e w3 ⟨rfl, hm3⟩
          go_wp2_with fail
          refine (HA.out _).mono ?_
          rintro e w4 ⟨rfl, rfl⟩
          go_wp2_with fail
          refine (HB.out _).mono ?_
          rintro e w4 ⟨rfl, rfl⟩
          go_wp2_with fail
          refine (HP.out _).mono ?_
          rintro e w4 ⟨rfl, rfl⟩
          have CC : ¬ C = 0 := by omega
          go_wp2_with fail
          refine (reckoned_any E b q d l _ _ hm3.1).mono ?_
          rw [HR.out]
          rintro e w4 ⟨rfl, rfl⟩
          go_wp2
          go_ret
          exact ⟨rfl, (hm1.trans hm2).trans hm3⟩
        | er c =>
          go_enter Tryd.func42, Tryd.ntmps42
          go_wp2_with fail
          refine HC.out.mono ?_
          rintro e w1 ⟨rfl, hm1⟩
          go_wp2_with fail
          refine (part_any E b e1 d l _ hs hm1.1 e1sz k HK.out).mono ?_
          rintro e w2 ⟨rfl, hm2⟩
          go_wp2_with fail
          refine (unit_any E g b (partEnd e1 k) d l _ hm2.1 pe u HU.out q HQ.out).mono ?_
          rintro e w3 ⟨rfl, hm3⟩
          go_wp2_with fail
          refine (HA.out _).mono ?_
          rintro e w4 ⟨rfl, rfl⟩
          go_wp2_with fail
          refine (HB.out _).mono ?_
          rintro e w4 ⟨rfl, rfl⟩
          go_wp2_with fail
          refine (HP.out _).mono ?_
          rintro e w4 ⟨rfl, rfl⟩
          have CC : ¬ C = 0 := by omega
          go_wp2_with fail
          refine (reckoned_any E b q d l _ _ hm3.1).mono ?_
          rw [HR.out]
          rintro e w4 ⟨rfl, rfl⟩
          go_wp2
          exact ⟨rfl, rfl, _, _, (hm1.trans hm2).trans hm3⟩
    exact main _ _ _ rfl rfl (by simp; omega) rfl
end Go.Proofs.YtkkcoajgpdpfkabDoor
