/- RequestNots, walked. -/
import Derived.Test.YtjbaljibaejdgaaDoorRqCondition
import Derived.Deep.DeepCutAuto
namespace Go.Proofs.YtjbaljibaejdgaaDoor
open Go.RowKit Go.PlainAid Go.Shelf

def zeroA : Ask := ⟨0, [], [], [], []⟩
def okC (l : List UInt8) : Bool := lineL l && (askL l).isSome
def outA (l : List UInt8) : Ask := if lineL l then (askL l).getD zeroA else zeroA
def notC (l : List UInt8) : Bool := okC l && ((exN 33 (l.dropWhile blk) : Int) % 2 == 1)
def errC (l : List UInt8) : Int := if lineL l then (if (askL l).isSome then 0 else 4) else 1
/-- What either Condition gives, at whatever text. -/
def CondQ (l : List UInt8) (W : World) (e : Ending) (W' : World) : Prop :=
  e = .returned (.tuple #[CondV (notC l) (outA l).kind.toNat (outA l).name (outA l).left (outA l).right ((outA l).rest.dropWhile blk), .int .i64 (errC l)]) ∧ Below W.heap.size W W'
theorem cond_any (l : List UInt8) (W : World) : Calls Tryd.prog 8 #[.string (mk8 l)] W (CondQ l W) := by
  unfold CondQ
  cases h : lineL l with
  | false =>
    have h1 : outA l = zeroA := by unfold outA; rw [h]; rfl
    have h2 : notC l = false := by unfold notC okC; rw [h]; rfl
    have h3 : errC l = 1 := by unfold errC; rw [h]; rfl
    rw [h1, h2, h3]
    exact cond_bad l W h
  | true =>
    cases hx : askL l with
    | none =>
      have h1 : outA l = zeroA := by unfold outA; rw [h, hx]; rfl
      have h2 : notC l = false := by unfold notC okC; rw [h, hx]; rfl
      have h3 : errC l = 4 := by unfold errC; rw [h, hx]; rfl
      rw [h1, h2, h3]
      exact cond_none l W h hx
    | some x =>
      have h1 : outA l = x := by unfold outA; rw [h, hx]; rfl
      have h2 : notC l = ((exN 33 (l.dropWhile blk) : Int) % 2 == 1) := by unfold notC okC; rw [h, hx]; rfl
      have h3 : errC l = 0 := by unfold errC; rw [h, hx]; rfl
      rw [h1, h2, h3]
      exact cond_some l x W h hx
theorem line_turn (l : List UInt8) (hl : l.length ≤ 1999) : lineL (33 :: l) = lineL l := by
  have hk : decide (0 ≤ Lib.indexByte (33 :: l) 10) = decide (0 ≤ Lib.indexByte l 10) := by
    have e1 := Lib.contains_iff_indexByte (33 :: l) 10
    have e2 := Lib.contains_iff_indexByte l 10
    rw [← e1, ← e2, List.contains_cons]
    rfl
  unfold lineL
  rw [hk]
  have h1 : decide ((33 :: l).length ≤ 2000) = true := decide_eq_true (by simp; omega)
  have h2 : decide (l.length ≤ 2000) = true := decide_eq_true (by omega)
  rw [h1, h2]
theorem ask_turn (l : List UInt8) (h : l.dropWhile blk = l) : askL (33 :: l) = askL l ∧ exN 33 ((33 :: l).dropWhile blk) = 1 + exN 33 (l.dropWhile blk) := by
  have hd : (33 :: l).dropWhile blk = 33 :: l := rfl
  have he : exN 33 (33 :: l) = 1 + exN 33 l := by simp [exN, Nat.add_comm]
  refine ⟨?_, by rw [hd, h, he]⟩
  unfold askL turnsN
  rw [hd, h, he, Nat.add_comm, List.drop_succ_cons]
/-- One ! more. -/
theorem turn_out (l : List UInt8) (hl : l.length ≤ 1999) (h : l.dropWhile blk = l) : outA (33 :: l) = outA l ∧ errC (33 :: l) = errC l ∧ okC (33 :: l) = okC l ∧ (okC l = true → notC (33 :: l) = !notC l) := by
  obtain ⟨h1, h2⟩ := ask_turn l h
  have h0 := line_turn l hl
  have ho : okC (33 :: l) = okC l := by unfold okC; rw [h0, h1]
  refine ⟨by unfold outA; rw [h0, h1], by unfold errC; rw [h0, h1], ho, fun hk => ?_⟩
  unfold notC
  rw [ho, hk, h2, Bool.true_and, Bool.true_and]
  obtain ⟨n, hn⟩ : ∃ n, exN 33 (l.dropWhile blk) = n := ⟨_, rfl⟩
  rw [hn, Bool.eq_iff_iff]
  simp only [beq_iff_eq, Bool.not_eq_true', beq_eq_false_iff_ne, ne_eq]
  omega
theorem err_ok (l : List UInt8) : (errC l == 0) = okC l := by
  unfold errC okC
  cases lineL l <;> cases (askL l).isSome <;> rfl

set_option maxRecDepth 100000 in
set_option maxHeartbeats 4000000 in
theorem law_nots (l : List UInt8) (W : World) : Calls Tryd.prog 4 #[.string (mk8 l)] W (Makes (.bool true) W) := by
  have HS := Lib.hid sane_any
  have z1 : ((mk8 l).size : Int) = l.length := by rw [mk8_size]
  by_cases h1 : 500 < l.length
  · have d1 : decide ((500 : Int) < l.length) = true := decide_eq_true (by omega)
    go_enter Tryd.func4, Tryd.ntmps4
    go_wp2_with fail
    refine (HS.out _).mono ?_
    rintro e w1 ⟨rfl, hb⟩
    go_wp2_with fail
    go_ret
    exact ⟨rfl, hb⟩
  · have d1 : decide ((500 : Int) < l.length) = false := decide_eq_false (by omega)
    cases hl0 : l with
    | nil =>
      have d2 : (((l.length : Nat) : Int) == 0) = true := by rw [hl0]; rfl
      rw [← hl0]
      clear hl0 h1
      go_enter Tryd.func4, Tryd.ntmps4
      go_wp2_with fail
      refine (HS.out _).mono ?_
      rintro e w1 ⟨rfl, hb⟩
      go_wp2_with fail
      go_ret
      exact ⟨rfl, hb⟩
    | cons c r =>
      have d2 : (((l.length : Nat) : Int) == 0) = false := by rw [hl0]; simp; omega
      have hbt : bt (mk8 l) 0 = c.toNat := bt_mk (by rw [hl0]; rfl)
      have hgb := get_bt (mk8 l)
      have z3 : 0 < (mk8 l).size := by rw [mk8_size, hl0]; simp
      have hb2 := blkI_u8 c
      unfold blkI at hb2
      rw [← hl0]
      by_cases hc : blk c = true
      · have d3 : (((c.toNat : Nat) : Int) == 32 || ((c.toNat : Nat) : Int) == 9) = true := by rw [hb2, hc]
        rw [← hbt] at d3
        obtain ⟨k, hk⟩ : ∃ k, bt (mk8 l) 0 = k := ⟨_, rfl⟩
        rw [hk] at d3
        clear hb2 hbt hl0 h1
        by_cases h32 : k = 32
        · have d4 : (k == (32 : Int)) = true := by simp [h32]
          go_enter Tryd.func4, Tryd.ntmps4
          go_wp2_with fail
          refine (HS.out _).mono ?_
          rintro e w1 ⟨rfl, hb⟩
          go_wp2_with fail
          go_ret
          exact ⟨rfl, hb⟩
        · have d4 : (k == (32 : Int)) = false := by simpa using h32
          have d5 : (k == (9 : Int)) = true := by rw [d4, Bool.false_or] at d3; exact d3
          clear d3 h32
          go_enter Tryd.func4, Tryd.ntmps4
          go_wp2_with fail
          refine (HS.out _).mono ?_
          rintro e w1 ⟨rfl, hb⟩
          go_wp2_with fail
          go_ret
          exact ⟨rfl, hb⟩
      · have hc : blk c = false := by simpa using hc
        have hdw : l.dropWhile blk = l := by rw [hl0, List.dropWhile_cons_of_neg (by simp [hc])]
        have d3 : (((c.toNat : Nat) : Int) == 32 || ((c.toNat : Nat) : Int) == 9) = false := by rw [hb2, hc]
        rw [← hbt] at d3
        obtain ⟨k, hk⟩ : ∃ k, bt (mk8 l) 0 = k := ⟨_, rfl⟩
        rw [hk] at d3
        obtain ⟨d4, d5⟩ := Bool.or_eq_false_iff.1 d3
        have H1 := Lib.hid (fun w => cond_any l w)
        have H2 := Lib.hid (fun w => cond_any (33 :: l) w)
        have H3 := Lib.hid (fun w => cond_any (33 :: 33 :: l) w)
        obtain ⟨o1, o2, o3, o4⟩ := turn_out l (by omega) hdw
        obtain ⟨p1, p2, p3, p4⟩ := turn_out (33 :: l) (by simp; omega) rfl
        have he := err_ok l
        unfold CondQ at H1 H2 H3
        rw [o1] at p1
        rw [o2] at p2
        rw [o3] at p3 p4
        simp only [o1, o2, p1, p2] at H1 H2 H3
        obtain ⟨N1, hN1⟩ : ∃ N1, notC l = N1 := ⟨_, rfl⟩
        obtain ⟨N2, hN2⟩ : ∃ N2, notC (33 :: l) = N2 := ⟨_, rfl⟩
        obtain ⟨N3, hN3⟩ : ∃ N3, notC (33 :: 33 :: l) = N3 := ⟨_, rfl⟩
        obtain ⟨O, hO⟩ : ∃ O, okC l = O := ⟨_, rfl⟩
        obtain ⟨E, hE⟩ : ∃ E, errC l = E := ⟨_, rfl⟩
        obtain ⟨K, hK⟩ : ∃ K : Int, ((outA l).kind.toNat : Int) = K := ⟨_, rfl⟩
        obtain ⟨Na, hNa⟩ : ∃ Na, (outA l).name = Na := ⟨_, rfl⟩
        obtain ⟨Le, hLe⟩ : ∃ Le, (outA l).left = Le := ⟨_, rfl⟩
        obtain ⟨Ri, hRi⟩ : ∃ Ri, (outA l).right = Ri := ⟨_, rfl⟩
        obtain ⟨Re, hRe⟩ : ∃ Re, (outA l).rest.dropWhile blk = Re := ⟨_, rfl⟩
        rw [hN1, hN2, hO] at o4
        rw [hN2, hN3, hO] at p4
        rw [hE, hO] at he
        simp only [hN1, hN2, hN3, hE, hK, hNa, hLe, hRi, hRe] at H1 H2 H3
        have A1 : Hid ((⟨#[33]⟩ : ByteArray) ++ mk8 l = mk8 (33 :: l)) := mk8_app [33] l
        have A2 : Hid ((⟨#[33, 33]⟩ : ByteArray) ++ mk8 l = mk8 (33 :: 33 :: l)) := mk8_app [33, 33] l
        have hfit : l.length ≤ 1000 := by omega
        have e2 : (E == E) = true := by simp
        have e5 : (K == K) = true := by simp
        clear hb2 hbt hl0 h1 d3 hN1 hN2 hN3 hO hE hK hNa hLe hRi hRe o1 o2 o3 p1 p2 p3 hdw hc
        go_enter Tryd.func4, Tryd.ntmps4
        go_wp2_with fail
        refine (H1.out _).mono ?_
        rintro e w1 ⟨rfl, hb1⟩
        have HB1 := Lib.hid hb1
        clear hb1
        go_upto_region 4 with fail
        generalize hw2 : w1.alloc _ = w2
        have hp2 : Cd w1.heap.size N1 K Na Le Ri Re w2 := by rw [← hw2]; exact cd_new N1 K Na Le Ri Re w1
        have HB2 := Lib.hid (HB1.out.trans (show Below W.heap.size w1 w2 by rw [← hw2]; exact (Below.refl _ _).alloc HB1.out.size _))
        have HP2 := Lib.hid hp2
        obtain ⟨p1, hp1⟩ : ∃ p, w1.heap.size = p := ⟨_, rfl⟩
        rw [hp1] at HP2
        rw [hp1]
        clear hw2 hp2 HB1 hp1
        go_wp2_with fail
        rw [A1.out]
        refine (H2.out _).mono ?_
        rintro e w3 ⟨rfl, hb3⟩
        have HB3 := Lib.hid (HB2.out.trans (hb3.mono HB2.out.size))
        have HP3 := Lib.hid (HP2.out.below hb3)
        clear hb3 HB2 HP2
        go_upto_region 5 with fail
        generalize hw4 : w3.alloc _ = w4
        have hb4 : Below w3.heap.size w3 w4 := by rw [← hw4]; exact (Below.refl _ _).alloc (Nat.le_refl _) _
        have HQ4 : Hid (Cd w3.heap.size N2 K Na Le Ri Re w4) := by rw [← hw4]; exact cd_new N2 K Na Le Ri Re w3
        have HB4 := Lib.hid (HB3.out.trans (hb4.mono HB3.out.size))
        have HP4 := Lib.hid (HP3.out.below hb4)
        obtain ⟨p2, hp2⟩ : ∃ p, w3.heap.size = p := ⟨_, rfl⟩
        rw [hp2] at HQ4
        rw [hp2]
        clear hw4 hb4 HB3 HP3 hp2
        go_wp2_with fail
        rw [A2.out]
        refine (H3.out _).mono ?_
        rintro e w5 ⟨rfl, hb5⟩
        have HB5 := Lib.hid (HB4.out.trans (hb5.mono HB4.out.size))
        have HP5 := Lib.hid (HP4.out.below hb5)
        have HQ5 := Lib.hid (HQ4.out.below hb5)
        clear hb5 HB4 HP4 HQ4
        go_upto_region 6 with fail
        generalize hw6 : w5.alloc _ = w6
        have hb6 : Below w5.heap.size w5 w6 := by rw [← hw6]; exact (Below.refl _ _).alloc (Nat.le_refl _) _
        have HR6 : Hid (Cd w5.heap.size N3 K Na Le Ri Re w6) := by rw [← hw6]; exact cd_new N3 K Na Le Ri Re w5
        have HB6 := Lib.hid (HB5.out.trans (hb6.mono HB5.out.size))
        have HP6 := Lib.hid (HP5.out.below hb6)
        have HQ6 := Lib.hid (HQ5.out.below hb6)
        obtain ⟨p3, hp3⟩ : ∃ p, w5.heap.size = p := ⟨_, rfl⟩
        rw [hp3] at HR6
        rw [hp3]
        clear hw6 hb6 HB5 HP5 HQ5 hp3
        cases O with
        | false =>
          clear o4 p4
          go_wp2_with fail
          refine (HS.out _).mono ?_
          rintro e w7 ⟨rfl, hb⟩
          go_wp2_with fail
          go_ret
          exact ⟨rfl, HB6.out.trans (hb.mono HB6.out.size)⟩
        | true =>
          have o5 := o4 rfl
          have p5 := p4 rfl
          rw [o5, Bool.not_not] at p5
          subst o5
          subst p5
          have c0 := HP6.out.c0
          have c1 := HP6.out.c1
          have c5 := HP6.out.c5
          have a0 := HQ6.out.c0
          have a1 := HQ6.out.c1
          have a5 := HQ6.out.c5
          have b0 := HR6.out.c0
          have b1 := HR6.out.c1
          have e6 : (!N3 == N3) = false := by cases N3 <;> rfl
          have e7 : (N3 == !N3) = false := by cases N3 <;> rfl
          have e8 : (N3 == N3) = true := by simp
          clear o4 p4
          go_wp2_with fail
          refine (HS.out _).mono ?_
          rintro e w7 ⟨rfl, hb⟩
          go_wp2_with fail
          go_ret
          exact ⟨rfl, HB6.out.trans (hb.mono HB6.out.size)⟩
end Go.Proofs.YtjbaljibaejdgaaDoor
