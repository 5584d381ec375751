/- RequestConditions, walked. -/
import Derived.Test.YtjbaljibaejdgaaDoorRqRCond2
import Derived.Test.YtjbaljibaejdgaaDoorRqBits
namespace Go.Proofs.YtjbaljibaejdgaaDoor
open Go.RowKit Go.PlainAid Go.Shelf

set_option maxRecDepth 100000 in
set_option maxHeartbeats 4000000 in
theorem conditions_any (l : List UInt8) (hl : l.length ≤ 1000000) (W : World) : Calls Tryd.prog 6 #[.string (mk8 l)] W (Makes (.bool true) W) := by
  have HP := Lib.hid (fun w => cond_any l w)
  have HR := Lib.hid (fun w => rcond_any l hl w)
  unfold CondQ at HP HR
  obtain ⟨N, hN⟩ : ∃ N, notC l = N := ⟨_, rfl⟩
  obtain ⟨E, hE⟩ : ∃ E, errC l = E := ⟨_, rfl⟩
  obtain ⟨K, hK⟩ : ∃ K : Int, ((outA l).kind.toNat : Int) = K := ⟨_, rfl⟩
  obtain ⟨Na, hNa⟩ : ∃ Na, (outA l).name = Na := ⟨_, rfl⟩
  obtain ⟨Le, hLe⟩ : ∃ Le, (outA l).left = Le := ⟨_, rfl⟩
  obtain ⟨Ri, hRi⟩ : ∃ Ri, (outA l).right = Ri := ⟨_, rfl⟩
  obtain ⟨Re, hRe⟩ : ∃ Re, (outA l).rest.dropWhile blk = Re := ⟨_, rfl⟩
  simp only [hN, hE, hK, hNa, hLe, hRi, hRe] at HP HR
  have e1 : (N == N) = true := by simp
  have e2 : (E == E) = true := by simp
  have e5 : (K == K) = true := by simp
  clear hN hE hK hNa hLe hRi hRe hl
  go_enter Tryd.func6, Tryd.ntmps6
  go_wp2_with fail
  refine (HP.out _).mono ?_
  rintro e w1 ⟨rfl, hb1⟩
  have HB1 := Lib.hid hb1
  clear hb1
  go_upto_region 2 with fail
  generalize hw2 : w1.alloc _ = w2
  have hb2 : Below w1.heap.size w1 w2 := by rw [← hw2]; exact (Below.refl _ _).alloc (Nat.le_refl _) _
  have HP2 : Hid (Cd w1.heap.size N K Na Le Ri Re w2) := by rw [← hw2]; exact cd_new N K Na Le Ri Re w1
  have HB2 := Lib.hid (HB1.out.trans (hb2.mono HB1.out.size))
  obtain ⟨p1, hp1⟩ : ∃ p, w1.heap.size = p := ⟨_, rfl⟩
  rw [hp1] at HP2
  rw [hp1]
  clear hw2 hb2 HB1 hp1
  go_wp2_with fail
  refine (HR.out _).mono ?_
  rintro e w3 ⟨rfl, hb3⟩
  have HB3 := Lib.hid (HB2.out.trans (hb3.mono HB2.out.size))
  have HP3 := Lib.hid (HP2.out.below hb3)
  clear hb3 HB2 HP2
  go_upto_region 3 with fail
  generalize hw4 : w3.alloc _ = w4
  have hb4 : Below w3.heap.size w3 w4 := by rw [← hw4]; exact (Below.refl _ _).alloc (Nat.le_refl _) _
  have HQ4 : Hid (Dc w3.heap.size N K Na Le Ri Re w4) := by rw [← hw4]; exact dc_new N K Na Le Ri Re w3
  have HB4 := Lib.hid (HB3.out.trans (hb4.mono HB3.out.size))
  have HP4 := Lib.hid (HP3.out.below hb4)
  obtain ⟨p2, hp2⟩ : ∃ p, w3.heap.size = p := ⟨_, rfl⟩
  rw [hp2] at HQ4
  rw [hp2]
  clear hw4 hb4 HB3 HP3 hp2
  have c0 := HP4.out.c0
  have c1 := HP4.out.c1
  have c2 := HP4.out.c2
  have c3 := HP4.out.c3
  have c4 := HP4.out.c4
  have c5 := HP4.out.c5
  have a0 := HQ4.out.c0
  have a1 := HQ4.out.c1
  have a2 := HQ4.out.c2
  have a3 := HQ4.out.c3
  have a4 := HQ4.out.c4
  have a5 := HQ4.out.c5
  go_wp2_with fail
  go_ret
  exact ⟨rfl, HB4.out⟩

set_option maxRecDepth 100000 in
set_option maxHeartbeats 4000000 in
theorem law_conditions (l : List UInt8) (ao : Option Addr) (len cap : Nat) (W : World) (h : BytesAt ao len W) : Calls Tryd.prog 3 #[.string (mk8 l), .slice ao len cap] W (Makes (.bool true) W) := by
  have HS := Lib.hid sane_any
  have z1 : ((mk8 l).size : Int) = l.length := by rw [mk8_size]
  by_cases h1 : 2200 < l.length
  · have d1 : decide ((2200 : Int) < l.length) = true := decide_eq_true (by omega)
    go_enter Tryd.func3, Tryd.ntmps3
    go_wp2_with fail
    refine (HS.out _).mono ?_
    rintro e w1 ⟨rfl, hb⟩
    go_wp2_with fail
    go_ret
    exact ⟨rfl, hb⟩
  · have d1 : decide ((2200 : Int) < l.length) = false := decide_eq_false (by omega)
    by_cases h2 : 40 < len
    · have d2 : decide ((40 : Int) < len) = true := decide_eq_true (by omega)
      go_enter Tryd.func3, Tryd.ntmps3
      go_wp2_with fail
      refine (HS.out _).mono ?_
      rintro e w1 ⟨rfl, hb⟩
      go_wp2_with fail
      go_ret
      exact ⟨rfl, hb⟩
    · have d2 : decide ((40 : Int) < len) = false := decide_eq_false (by omega)
      have H1 := Lib.hid (fun w => conditions_any l (by omega) w)
      have HB := Lib.hid h
      have HBits := Lib.hid (fun w (hb : Below W.heap.size W w) => bits_any ao len cap w (HB.out.below hb) (by omega))
      have H2 := Lib.hid (fun (m : List UInt8) (hm : m.length ≤ 5 * len) w => conditions_any m (by omega) w)
      clear h h1 h2
      go_enter Tryd.func3, Tryd.ntmps3
      go_wp2_with fail
      refine (H1.out _).mono ?_
      rintro e w1 ⟨rfl, hb1⟩
      have HB1 := Lib.hid hb1
      clear hb1
      go_wp2_with fail
      refine (HBits.out _ HB1.out).mono ?_
      rintro e w2 ⟨s, rfl, hs, hb2⟩
      have HB2 := Lib.hid (HB1.out.trans (hb2.mono HB1.out.size))
      clear hb2
      go_wp2_with fail
      refine (H2.out s hs _).mono ?_
      rintro e w3 ⟨rfl, hb3⟩
      have HB3 := Lib.hid (HB2.out.trans (hb3.mono HB2.out.size))
      clear hb3
      go_wp2_with fail
      refine (HS.out _).mono ?_
      rintro e w4 ⟨rfl, hb4⟩
      go_wp2_with fail
      go_ret
      exact ⟨rfl, HB3.out.trans (hb4.mono HB3.out.size)⟩
end Go.Proofs.YtjbaljibaejdgaaDoor
