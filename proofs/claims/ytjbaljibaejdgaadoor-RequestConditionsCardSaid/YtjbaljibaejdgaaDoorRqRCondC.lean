/- The document's condition: two texts between quotes. -/
import Derived.Test.YtjbaljibaejdgaaDoorRqRCondA
import Derived.Deep.DeepCutAuto
namespace Go.Proofs.YtjbaljibaejdgaaDoor
open Go.RowKit Go.PlainAid Go.Shelf

set_option maxRecDepth 100000 in
set_option maxHeartbeats 4000000 in
theorem rcond_q1 (l : List UInt8) (at0 b0 t : Nat) (c : UInt8) (hc : l[at0]? = some c) (hk : blk c = false) (hn1 : oneK c = false) (hn2 : namK c = false) (hqt : quoB c = true) (h2 : toZ l (at0 + 1) c < 0) (W : World) (h : lineL l = true) (hb0 : blkN l = b0) (T : Turns l b0 t) (hat : b0 + t = at0) : Calls Tryd.prog 10 #[.string (mk8 l)] W (fun e W' => e = .returned (.tuple #[CondV false 0 [] [] [] [], .int .i64 4]) ∧ Below W.heap.size W W') := by
  have hlen : l.length ≤ 2000 := by
    simp only [lineL, Bool.and_eq_true, decide_eq_true_eq] at h
    exact h.1
  have HL := Lib.hid (fun w => rIsLine_any l (by omega) w)
  simp only [h] at HL
  have HSk := Lib.hid (fun w => skip_any l 0 (Nat.zero_le _) (by omega) w)
  simp only [List.drop_zero, hb0, Nat.zero_add] at HSk
  have hgb := get_bt (mk8 l)
  have z1 : ((mk8 l).size : Int) = l.length := by rw [mk8_size]
  have z2 : (mk8 l).size = l.length := mk8_size l
  have HT := Lib.hid T
  have hle := T.le
  clear h hb0 T
  go_enter Tryd.func10, Tryd.ntmps10
  go_wp2_with fail
  refine (HL.out _).mono ?_
  rintro e w1 ⟨rfl, rfl⟩
  go_upto_region 4 with fail
  generalize hw1 : W.alloc _ = w1
  have hb1 : Below W.heap.size W w1 := by rw [← hw1]; exact (Below.refl _ _).alloc (Nat.le_refl _) _
  have HR1 : Hid (Dc W.heap.size false 0 [] [] [] [] w1) := by rw [← hw1]; exact dc_new _ _ _ _ _ _ _
  generalize hw2 : w1.alloc _ = w2
  have hb2 : Below w1.heap.size w1 w2 := by rw [← hw2]; exact (Below.refl _ _).alloc (Nat.le_refl _) _
  have HP2 : Hid (Dc w1.heap.size false 0 [] [] [] [] w2) := by rw [← hw2]; exact dc_new _ _ _ _ _ _ _
  have HR2 := Lib.hid (HR1.out.below hb2)
  have HB2 := Lib.hid (hb1.trans (hb2.mono hb1.size))
  have hlt1 := HR1.out.lt
  have hs1 : w1.heap.size = W.heap.size + 1 := by rw [← hw1]; simp
  obtain ⟨p, hp⟩ : ∃ p, W.heap.size + 1 = p := ⟨_, rfl⟩
  rw [hs1, hp] at HP2 hlt1
  rw [hp]
  clear hs1 hw1 hw2 hb1 hb2 HR1 hp
  go_wp2_with fail
  refine (HSk.out _).mono ?_
  rintro e w3 ⟨rfl, rfl⟩
  go_wp2_with fail
  go_loopw [5] (fun i wr => ∃ j : Nat, b0 ≤ j ∧ j ≤ at0 ∧ i = .int .i64 j ∧ Hid (Dc p (par (j - b0)) 0 [] [] [] [] wr) ∧ Hid (Only p w2 wr)) (fun i _ => at0 - (intOf i).toNat)
  case atStart => exact ⟨b0, Nat.le_refl _, by omega, rfl, by rw [Nat.sub_self]; exact HP2, Only.refl _ _⟩
  case round =>
    obtain ⟨j, hj1, hj2, rfl, hp, ho⟩ := hrel
    by_cases hlt : j < at0
    · have hc := HT.out.yes j hj1 (by omega)
      have hbt := bt_mk hc
      have hjz : (j : Int) < l.length := by have := (List.getElem?_eq_some_iff.1 hc).1; omega
      have hjs : j < (mk8 l).size := by omega
      have d1 : (bt (mk8 l) j == (33 : Int)) = true := by rw [hbt]; rfl
      obtain ⟨q, hq⟩ : ∃ q, par (j - b0) = q := ⟨_, rfl⟩
      have hq2 : Hid (par (j + 1 - b0) = !q) := by show _ = _; rw [show j + 1 - b0 = (j - b0) + 1 by omega, par_succ, hq]
      rw [hq] at hp
      have k0 := hp.out.c0
      have f0 := hp.out.fz 0
      have HN : Hid (Dc p (!q) 0 [] [] [] [] (wr.setCell ⟨p, 0, none⟩ (.bool (!q)))) := hp.out.set0 _
      have HO : Hid (Only p w2 (wr.setCell ⟨p, 0, none⟩ (.bool (!q)))) := ho.out.set _
      clear hbt hc hq hp ho
      go_wp2_with fail
      go_roundw
      case rel => exact ⟨j + 1, by omega, by omega, by go_num, by rw [hq2.out]; exact HN, HO⟩
      case measure => simp [intOf]; omega
    · obtain rfl : j = at0 := by omega
      have HP : Hid (Dc p (par t) 0 [] [] [] [] wr) := by rw [show t = j - b0 by omega]; exact hp
      have hno := HT.out.no
      rw [hat] at hno
      have HR : Hid (Dc W.heap.size false 0 [] [] [] [] wr) := HR2.out.only ho.out (by omega)
      have HB : Hid (Below W.heap.size W wr) := HB2.out.trans (ho.out.below (by omega) HB2.out.size)
      clear hp ho HR2 HB2 HP2 HSk HL HT hlt hj2
      obtain ⟨hjl, hcd⟩ := List.getElem?_eq_some_iff.1 hc
      have hbt := bt_mk hc
      have HBt := Lib.hid hbt
      have hjz : (j : Int) < l.length := by omega
      have hjs : j < (mk8 l).size := by omega
      have d0 : ((j : Int) == (l.length : Int)) = false := by simp; omega
      have d1 : (bt (mk8 l) j == (33 : Int)) = false := by
        rw [hbt]; refine (u8_eq (k := 33)).trans ?_
        simp only [beq_eq_false_iff_ne, ne_eq]
        intro e; exact hno (by rw [hc, e])
      have HBk := Lib.hid (fun w => rblank_any (bt (mk8 l) j) w)
      simp only [hbt, blkI_u8, hk] at HBk
      simp only [← hbt] at HBk
      have k1 : (bt (mk8 l) j == (111 : Int)) = false := by rw [hbt]; exact (u8_eq (k := 111)).trans (beq_eq_false_iff_ne.2 fun e => by subst e; revert hn1; decide)
      have k2 : (bt (mk8 l) j == (101 : Int)) = false := by rw [hbt]; exact (u8_eq (k := 101)).trans (beq_eq_false_iff_ne.2 fun e => by subst e; revert hn1; decide)
      have k3 : (bt (mk8 l) j == (116 : Int)) = false := by rw [hbt]; exact (u8_eq (k := 116)).trans (beq_eq_false_iff_ne.2 fun e => by subst e; revert hn1; decide)
      have k4 : (bt (mk8 l) j == (110 : Int)) = false := by rw [hbt]; exact (u8_eq (k := 110)).trans (beq_eq_false_iff_ne.2 fun e => by subst e; revert hn1; decide)
      have k5 : (bt (mk8 l) j == (100 : Int)) = false := by rw [hbt]; exact (u8_eq (k := 100)).trans (beq_eq_false_iff_ne.2 fun e => by subst e; revert hn2; decide)
      have k6 : (bt (mk8 l) j == (114 : Int)) = false := by rw [hbt]; exact (u8_eq (k := 114)).trans (beq_eq_false_iff_ne.2 fun e => by subst e; revert hn2; decide)
      have HQ := Lib.hid (fun w => rquotes_any c w)
      simp only [hqt] at HQ
      rw [← hbt] at HQ
      obtain ⟨j1, hj1'⟩ : ∃ j1, j + 1 = j1 := ⟨_, rfl⟩
      rw [hj1'] at h2
      have hj1z : ((j : Int) + 1) = ((j1 : Nat) : Int) := by omega
      have HT1 : Hid (∀ w, Calls Tryd.prog 26 #[.string (mk8 l), .int .i64 ((j1 : Nat) : Int), .int .u8 (bt (mk8 l) j)] w (Says (.int .i64 (toZ l j1 c)) w)) := fun w => by
        have h := to_any l j1 c (by omega) (by omega) w
        rw [← hbt] at h
        exact h
      obtain ⟨Z, hZ⟩ : ∃ Z, toZ l j1 c = Z := ⟨_, rfl⟩
      rw [hZ] at HT1 h2
      have dz : decide (Z < 0) = true := decide_eq_true h2
      clear hZ h2 hqt hn1 hn2
      clear hbt hcd
      go_wp2_with fail
      refine (HBk.out _).mono ?_
      rintro e w4 ⟨rfl, rfl⟩
      clear HBk hno d0 d1
      go_wp2_with fail
      refine (HQ.out _).mono ?_
      rintro e w5 ⟨rfl, rfl⟩
      go_wp2_with fail
      refine (HT1.out _).mono ?_
      rintro e w5 ⟨rfl, rfl⟩
      have q0 := HR.out.c0
      have q1 := HR.out.c1
      have q2 := HR.out.c2
      have q3 := HR.out.c3
      have q4 := HR.out.c4
      have q5 := HR.out.c5
      have g0 := HR.out.fz 0
      have g1 := HR.out.fz 1
      have g2 := HR.out.fz 2
      have g3 := HR.out.fz 3
      have g4 := HR.out.fz 4
      have g5 := HR.out.fz 5
      go_wp2_with fail
      obtain ⟨w6, hw6⟩ : ∃ w6, w6 = (((((wr.setCell ⟨W.heap.size, 0, none⟩ (.bool false)).setCell ⟨W.heap.size, 1, none⟩ (.int .u8 0)).setCell ⟨W.heap.size, 2, none⟩ (.string (mk8 []))).setCell ⟨W.heap.size, 3, none⟩ (.string (mk8 []))).setCell ⟨W.heap.size, 4, none⟩ (.string (mk8 []))).setCell ⟨W.heap.size, 5, none⟩ (.string (mk8 [])) := ⟨_, rfl⟩
      have hd : Dc W.heap.size false 0 [] [] [] [] w6 := by rw [hw6]; exact (((((HR.out.set0 _).set1 _).set2 _).set3 _).set4 _).set5 _
      have ho6 : Only W.heap.size wr w6 := by rw [hw6]; exact putCd_only wr W.heap.size false 0 [] [] [] []
      have HB6 := Lib.hid (HB.out.trans (ho6.below (Nat.le_refl _) HB.out.size))
      have e0 := hd.c0
      have e1 := hd.c1
      have e2 := hd.c2
      have e3 := hd.c3
      have e4 := hd.c4
      have e5 := hd.c5
      clear q0 q1 q2 q3 q4 q5 g0 g1 g2 g3 g4 g5 hd ho6
      show bodyPost _ _ _ _ _ ((((((wr.setCell ⟨W.heap.size, 0, none⟩ (.bool false)).setCell ⟨W.heap.size, 1, none⟩ (.int .u8 0)).setCell ⟨W.heap.size, 2, none⟩ (.string (mk8 []))).setCell ⟨W.heap.size, 3, none⟩ (.string (mk8 []))).setCell ⟨W.heap.size, 4, none⟩ (.string (mk8 []))).setCell ⟨W.heap.size, 5, none⟩ (.string (mk8 [])))
      rw [← hw6]
      clear hw6
      simp [bodyPost, results, Tryd.results10, go_sem, e0, e1, e2, e3, e4, e5]
      exact HB6.out
set_option maxRecDepth 100000 in
set_option maxHeartbeats 4000000 in
theorem rcond_q2 (l : List UInt8) (at0 b0 t : Nat) (c : UInt8) (hc : l[at0]? = some c) (hk : blk c = false) (hn1 : oneK c = false) (hn2 : namK c = false) (hqt : quoB c = true) (s2 : Nat) (h2 : toZ l (at0 + 1) c = s2) (hs2 : s2 < l.length) (h3 : toZ l (s2 + 1) c < 0) (W : World) (h : lineL l = true) (hb0 : blkN l = b0) (T : Turns l b0 t) (hat : b0 + t = at0) : Calls Tryd.prog 10 #[.string (mk8 l)] W (fun e W' => e = .returned (.tuple #[CondV false 0 [] [] [] [], .int .i64 4]) ∧ Below W.heap.size W W') := by
  have hlen : l.length ≤ 2000 := by
    simp only [lineL, Bool.and_eq_true, decide_eq_true_eq] at h
    exact h.1
  have HL := Lib.hid (fun w => rIsLine_any l (by omega) w)
  simp only [h] at HL
  have HSk := Lib.hid (fun w => skip_any l 0 (Nat.zero_le _) (by omega) w)
  simp only [List.drop_zero, hb0, Nat.zero_add] at HSk
  have hgb := get_bt (mk8 l)
  have z1 : ((mk8 l).size : Int) = l.length := by rw [mk8_size]
  have z2 : (mk8 l).size = l.length := mk8_size l
  have HT := Lib.hid T
  have hle := T.le
  clear h hb0 T
  go_enter Tryd.func10, Tryd.ntmps10
  go_wp2_with fail
  refine (HL.out _).mono ?_
  rintro e w1 ⟨rfl, rfl⟩
  go_upto_region 4 with fail
  generalize hw1 : W.alloc _ = w1
  have hb1 : Below W.heap.size W w1 := by rw [← hw1]; exact (Below.refl _ _).alloc (Nat.le_refl _) _
  have HR1 : Hid (Dc W.heap.size false 0 [] [] [] [] w1) := by rw [← hw1]; exact dc_new _ _ _ _ _ _ _
  generalize hw2 : w1.alloc _ = w2
  have hb2 : Below w1.heap.size w1 w2 := by rw [← hw2]; exact (Below.refl _ _).alloc (Nat.le_refl _) _
  have HP2 : Hid (Dc w1.heap.size false 0 [] [] [] [] w2) := by rw [← hw2]; exact dc_new _ _ _ _ _ _ _
  have HR2 := Lib.hid (HR1.out.below hb2)
  have HB2 := Lib.hid (hb1.trans (hb2.mono hb1.size))
  have hlt1 := HR1.out.lt
  have hs1 : w1.heap.size = W.heap.size + 1 := by rw [← hw1]; simp
  obtain ⟨p, hp⟩ : ∃ p, W.heap.size + 1 = p := ⟨_, rfl⟩
  rw [hs1, hp] at HP2 hlt1
  rw [hp]
  clear hs1 hw1 hw2 hb1 hb2 HR1 hp
  go_wp2_with fail
  refine (HSk.out _).mono ?_
  rintro e w3 ⟨rfl, rfl⟩
  go_wp2_with fail
  go_loopw [5] (fun i wr => ∃ j : Nat, b0 ≤ j ∧ j ≤ at0 ∧ i = .int .i64 j ∧ Hid (Dc p (par (j - b0)) 0 [] [] [] [] wr) ∧ Hid (Only p w2 wr)) (fun i _ => at0 - (intOf i).toNat)
  case atStart => exact ⟨b0, Nat.le_refl _, by omega, rfl, by rw [Nat.sub_self]; exact HP2, Only.refl _ _⟩
  case round =>
    obtain ⟨j, hj1, hj2, rfl, hp, ho⟩ := hrel
    by_cases hlt : j < at0
    · have hc := HT.out.yes j hj1 (by omega)
      have hbt := bt_mk hc
      have hjz : (j : Int) < l.length := by have := (List.getElem?_eq_some_iff.1 hc).1; omega
      have hjs : j < (mk8 l).size := by omega
      have d1 : (bt (mk8 l) j == (33 : Int)) = true := by rw [hbt]; rfl
      obtain ⟨q, hq⟩ : ∃ q, par (j - b0) = q := ⟨_, rfl⟩
      have hq2 : Hid (par (j + 1 - b0) = !q) := by show _ = _; rw [show j + 1 - b0 = (j - b0) + 1 by omega, par_succ, hq]
      rw [hq] at hp
      have k0 := hp.out.c0
      have f0 := hp.out.fz 0
      have HN : Hid (Dc p (!q) 0 [] [] [] [] (wr.setCell ⟨p, 0, none⟩ (.bool (!q)))) := hp.out.set0 _
      have HO : Hid (Only p w2 (wr.setCell ⟨p, 0, none⟩ (.bool (!q)))) := ho.out.set _
      clear hbt hc hq hp ho
      go_wp2_with fail
      go_roundw
      case rel => exact ⟨j + 1, by omega, by omega, by go_num, by rw [hq2.out]; exact HN, HO⟩
      case measure => simp [intOf]; omega
    · obtain rfl : j = at0 := by omega
      have HP : Hid (Dc p (par t) 0 [] [] [] [] wr) := by rw [show t = j - b0 by omega]; exact hp
      have hno := HT.out.no
      rw [hat] at hno
      have HR : Hid (Dc W.heap.size false 0 [] [] [] [] wr) := HR2.out.only ho.out (by omega)
      have HB : Hid (Below W.heap.size W wr) := HB2.out.trans (ho.out.below (by omega) HB2.out.size)
      clear hp ho HR2 HB2 HP2 HSk HL HT hlt hj2
      obtain ⟨hjl, hcd⟩ := List.getElem?_eq_some_iff.1 hc
      have hbt := bt_mk hc
      have HBt := Lib.hid hbt
      have hjz : (j : Int) < l.length := by omega
      have hjs : j < (mk8 l).size := by omega
      have d0 : ((j : Int) == (l.length : Int)) = false := by simp; omega
      have d1 : (bt (mk8 l) j == (33 : Int)) = false := by
        rw [hbt]; refine (u8_eq (k := 33)).trans ?_
        simp only [beq_eq_false_iff_ne, ne_eq]
        intro e; exact hno (by rw [hc, e])
      have HBk := Lib.hid (fun w => rblank_any (bt (mk8 l) j) w)
      simp only [hbt, blkI_u8, hk] at HBk
      simp only [← hbt] at HBk
      have k1 : (bt (mk8 l) j == (111 : Int)) = false := by rw [hbt]; exact (u8_eq (k := 111)).trans (beq_eq_false_iff_ne.2 fun e => by subst e; revert hn1; decide)
      have k2 : (bt (mk8 l) j == (101 : Int)) = false := by rw [hbt]; exact (u8_eq (k := 101)).trans (beq_eq_false_iff_ne.2 fun e => by subst e; revert hn1; decide)
      have k3 : (bt (mk8 l) j == (116 : Int)) = false := by rw [hbt]; exact (u8_eq (k := 116)).trans (beq_eq_false_iff_ne.2 fun e => by subst e; revert hn1; decide)
      have k4 : (bt (mk8 l) j == (110 : Int)) = false := by rw [hbt]; exact (u8_eq (k := 110)).trans (beq_eq_false_iff_ne.2 fun e => by subst e; revert hn1; decide)
      have k5 : (bt (mk8 l) j == (100 : Int)) = false := by rw [hbt]; exact (u8_eq (k := 100)).trans (beq_eq_false_iff_ne.2 fun e => by subst e; revert hn2; decide)
      have k6 : (bt (mk8 l) j == (114 : Int)) = false := by rw [hbt]; exact (u8_eq (k := 114)).trans (beq_eq_false_iff_ne.2 fun e => by subst e; revert hn2; decide)
      have HQ := Lib.hid (fun w => rquotes_any c w)
      simp only [hqt] at HQ
      rw [← hbt] at HQ
      obtain ⟨j1, hj1'⟩ : ∃ j1, j + 1 = j1 := ⟨_, rfl⟩
      rw [hj1'] at h2
      have hj1z : ((j : Int) + 1) = ((j1 : Nat) : Int) := by omega
      have HT1 : Hid (∀ w, Calls Tryd.prog 26 #[.string (mk8 l), .int .i64 ((j1 : Nat) : Int), .int .u8 (bt (mk8 l) j)] w (Says (.int .i64 ((s2 : Nat))) w)) := fun w => by
        have h := to_any l j1 c (by omega) (by omega) w
        rw [← hbt, h2] at h
        exact h
      obtain ⟨j2, hj2'⟩ : ∃ j2, s2 + 1 = j2 := ⟨_, rfl⟩
      rw [hj2'] at h3
      have hs2z : decide ((s2 : Int) < 0) = false := decide_eq_false (by omega)
      have hj2z : ((s2 : Int) + 1) = ((j2 : Nat) : Int) := by omega
      have HT2 : Hid (∀ w, Calls Tryd.prog 26 #[.string (mk8 l), .int .i64 ((j2 : Nat) : Int), .int .u8 (bt (mk8 l) j)] w (Says (.int .i64 (toZ l j2 c)) w)) := fun w => by
        have h := to_any l j2 c (by omega) (by omega) w
        rw [← hbt] at h
        exact h
      obtain ⟨Z, hZ⟩ : ∃ Z, toZ l j2 c = Z := ⟨_, rfl⟩
      rw [hZ] at HT2 h3
      have dz : decide (Z < 0) = true := decide_eq_true h3
      clear hZ h2 h3 hqt hn1 hn2
      clear hbt hcd
      go_wp2_with fail
      refine (HBk.out _).mono ?_
      rintro e w4 ⟨rfl, rfl⟩
      clear HBk hno d0 d1
      go_wp2_with fail
      refine (HQ.out _).mono ?_
      rintro e w5 ⟨rfl, rfl⟩
      go_wp2_with fail
      refine (HT1.out _).mono ?_
      rintro e w5 ⟨rfl, rfl⟩
      go_wp2_with fail
      refine (HT2.out _).mono ?_
      rintro e w5 ⟨rfl, rfl⟩
      have q0 := HR.out.c0
      have q1 := HR.out.c1
      have q2 := HR.out.c2
      have q3 := HR.out.c3
      have q4 := HR.out.c4
      have q5 := HR.out.c5
      have g0 := HR.out.fz 0
      have g1 := HR.out.fz 1
      have g2 := HR.out.fz 2
      have g3 := HR.out.fz 3
      have g4 := HR.out.fz 4
      have g5 := HR.out.fz 5
      go_wp2_with fail
      obtain ⟨w6, hw6⟩ : ∃ w6, w6 = (((((wr.setCell ⟨W.heap.size, 0, none⟩ (.bool false)).setCell ⟨W.heap.size, 1, none⟩ (.int .u8 0)).setCell ⟨W.heap.size, 2, none⟩ (.string (mk8 []))).setCell ⟨W.heap.size, 3, none⟩ (.string (mk8 []))).setCell ⟨W.heap.size, 4, none⟩ (.string (mk8 []))).setCell ⟨W.heap.size, 5, none⟩ (.string (mk8 [])) := ⟨_, rfl⟩
      have hd : Dc W.heap.size false 0 [] [] [] [] w6 := by rw [hw6]; exact (((((HR.out.set0 _).set1 _).set2 _).set3 _).set4 _).set5 _
      have ho6 : Only W.heap.size wr w6 := by rw [hw6]; exact putCd_only wr W.heap.size false 0 [] [] [] []
      have HB6 := Lib.hid (HB.out.trans (ho6.below (Nat.le_refl _) HB.out.size))
      have e0 := hd.c0
      have e1 := hd.c1
      have e2 := hd.c2
      have e3 := hd.c3
      have e4 := hd.c4
      have e5 := hd.c5
      clear q0 q1 q2 q3 q4 q5 g0 g1 g2 g3 g4 g5 hd ho6
      show bodyPost _ _ _ _ _ ((((((wr.setCell ⟨W.heap.size, 0, none⟩ (.bool false)).setCell ⟨W.heap.size, 1, none⟩ (.int .u8 0)).setCell ⟨W.heap.size, 2, none⟩ (.string (mk8 []))).setCell ⟨W.heap.size, 3, none⟩ (.string (mk8 []))).setCell ⟨W.heap.size, 4, none⟩ (.string (mk8 []))).setCell ⟨W.heap.size, 5, none⟩ (.string (mk8 [])))
      rw [← hw6]
      clear hw6
      simp [bodyPost, results, Tryd.results10, go_sem, e0, e1, e2, e3, e4, e5]
      exact HB6.out
set_option maxRecDepth 100000 in
set_option maxHeartbeats 4000000 in
theorem rcond_q3 (l : List UInt8) (at0 b0 t : Nat) (c : UInt8) (hc : l[at0]? = some c) (hk : blk c = false) (hn1 : oneK c = false) (hn2 : namK c = false) (hqt : quoB c = true) (s2 s3 at1 q : Nat) (h2 : toZ l (at0 + 1) c = s2) (hs2 : s2 < l.length) (hs1 : at0 + 1 ≤ s2) (h3 : toZ l (s2 + 1) c = s3) (hs3 : s3 < l.length) (hs4 : s2 + 1 ≤ s3) (ha1 : s3 + 1 = at1) (hal : at1 ≤ l.length) (hq : at1 + blkN (l.drop at1) = q) (W : World) (h : lineL l = true) (hb0 : blkN l = b0) (T : Turns l b0 t) (hat : b0 + t = at0) : Calls Tryd.prog 10 #[.string (mk8 l)] W (fun e W' => e = .returned (.tuple #[CondV (par t) 39 [] ((l.take s2).drop (at0 + 1)) ((l.take s3).drop (s2 + 1)) (l.drop q), .int .i64 0]) ∧ Below W.heap.size W W') := by
  have hlen : l.length ≤ 2000 := by
    simp only [lineL, Bool.and_eq_true, decide_eq_true_eq] at h
    exact h.1
  have HL := Lib.hid (fun w => rIsLine_any l (by omega) w)
  simp only [h] at HL
  have HSk := Lib.hid (fun w => skip_any l 0 (Nat.zero_le _) (by omega) w)
  simp only [List.drop_zero, hb0, Nat.zero_add] at HSk
  have hgb := get_bt (mk8 l)
  have z1 : ((mk8 l).size : Int) = l.length := by rw [mk8_size]
  have z2 : (mk8 l).size = l.length := mk8_size l
  have HT := Lib.hid T
  have hle := T.le
  clear h hb0 T
  have hql : q ≤ l.length := by
    have := blkN_le (l.drop at1)
    rw [List.length_drop] at this
    omega
  have hqz : (q : Int) ≤ l.length := by omega
  have HS2 : Hid (∀ w, Calls Tryd.prog 22 #[.string (mk8 l), .int .i64 ((at1 : Nat) : Int)] w (Says (.int .i64 q) w)) := fun w => by
    have h := skip_any l at1 hal (by omega) w
    rw [hq] at h
    exact h
  have HRs : Hid ((mk8 l).extract q l.length = mk8 (l.drop q)) := ext_tail l q
  clear hq
  obtain ⟨ta, hta⟩ : ∃ x, (l.take s2).drop (at0 + 1) = x := ⟨_, rfl⟩
  obtain ⟨tb, htb⟩ : ∃ x, (l.take s3).drop (s2 + 1) = x := ⟨_, rfl⟩
  rw [hta, htb]
  have HTa : Hid ((mk8 l).extract (at0 + 1) s2 = mk8 ta) := by show _ = _; rw [mk8_ext, hta]
  have HTb : Hid ((mk8 l).extract (s2 + 1) s3 = mk8 tb) := by show _ = _; rw [mk8_ext, htb]
  clear hta htb
  go_enter Tryd.func10, Tryd.ntmps10
  go_wp2_with fail
  refine (HL.out _).mono ?_
  rintro e w1 ⟨rfl, rfl⟩
  go_upto_region 4 with fail
  generalize hw1 : W.alloc _ = w1
  have hb1 : Below W.heap.size W w1 := by rw [← hw1]; exact (Below.refl _ _).alloc (Nat.le_refl _) _
  have HR1 : Hid (Dc W.heap.size false 0 [] [] [] [] w1) := by rw [← hw1]; exact dc_new _ _ _ _ _ _ _
  generalize hw2 : w1.alloc _ = w2
  have hb2 : Below w1.heap.size w1 w2 := by rw [← hw2]; exact (Below.refl _ _).alloc (Nat.le_refl _) _
  have HP2 : Hid (Dc w1.heap.size false 0 [] [] [] [] w2) := by rw [← hw2]; exact dc_new _ _ _ _ _ _ _
  have HR2 := Lib.hid (HR1.out.below hb2)
  have HB2 := Lib.hid (hb1.trans (hb2.mono hb1.size))
  have hlt1 := HR1.out.lt
  have hs1 : w1.heap.size = W.heap.size + 1 := by rw [← hw1]; simp
  obtain ⟨p, hp⟩ : ∃ p, W.heap.size + 1 = p := ⟨_, rfl⟩
  rw [hs1, hp] at HP2 hlt1
  rw [hp]
  clear hs1 hw1 hw2 hb1 hb2 HR1 hp
  go_wp2_with fail
  refine (HSk.out _).mono ?_
  rintro e w3 ⟨rfl, rfl⟩
  go_wp2_with fail
  go_loopw [5] (fun i wr => ∃ j : Nat, b0 ≤ j ∧ j ≤ at0 ∧ i = .int .i64 j ∧ Hid (Dc p (par (j - b0)) 0 [] [] [] [] wr) ∧ Hid (Only p w2 wr)) (fun i _ => at0 - (intOf i).toNat)
  case atStart => exact ⟨b0, Nat.le_refl _, by omega, rfl, by rw [Nat.sub_self]; exact HP2, Only.refl _ _⟩
  case round =>
    obtain ⟨j, hj1, hj2, rfl, hp, ho⟩ := hrel
    by_cases hlt : j < at0
    · have hc := HT.out.yes j hj1 (by omega)
      have hbt := bt_mk hc
      have hjz : (j : Int) < l.length := by have := (List.getElem?_eq_some_iff.1 hc).1; omega
      have hjs : j < (mk8 l).size := by omega
      have d1 : (bt (mk8 l) j == (33 : Int)) = true := by rw [hbt]; rfl
      obtain ⟨q, hq⟩ : ∃ q, par (j - b0) = q := ⟨_, rfl⟩
      have hq2 : Hid (par (j + 1 - b0) = !q) := by show _ = _; rw [show j + 1 - b0 = (j - b0) + 1 by omega, par_succ, hq]
      rw [hq] at hp
      have k0 := hp.out.c0
      have f0 := hp.out.fz 0
      have HN : Hid (Dc p (!q) 0 [] [] [] [] (wr.setCell ⟨p, 0, none⟩ (.bool (!q)))) := hp.out.set0 _
      have HO : Hid (Only p w2 (wr.setCell ⟨p, 0, none⟩ (.bool (!q)))) := ho.out.set _
      clear hbt hc hq hp ho
      go_wp2_with fail
      go_roundw
      case rel => exact ⟨j + 1, by omega, by omega, by go_num, by rw [hq2.out]; exact HN, HO⟩
      case measure => simp [intOf]; omega
    · obtain rfl : j = at0 := by omega
      have HP : Hid (Dc p (par t) 0 [] [] [] [] wr) := by rw [show t = j - b0 by omega]; exact hp
      have hno := HT.out.no
      rw [hat] at hno
      have HR : Hid (Dc W.heap.size false 0 [] [] [] [] wr) := HR2.out.only ho.out (by omega)
      have HB : Hid (Below W.heap.size W wr) := HB2.out.trans (ho.out.below (by omega) HB2.out.size)
      clear hp ho HR2 HB2 HP2 HSk HL HT hlt hj2
      obtain ⟨hjl, hcd⟩ := List.getElem?_eq_some_iff.1 hc
      have hbt := bt_mk hc
      have HBt := Lib.hid hbt
      have hjz : (j : Int) < l.length := by omega
      have hjs : j < (mk8 l).size := by omega
      have d0 : ((j : Int) == (l.length : Int)) = false := by simp; omega
      have d1 : (bt (mk8 l) j == (33 : Int)) = false := by
        rw [hbt]; refine (u8_eq (k := 33)).trans ?_
        simp only [beq_eq_false_iff_ne, ne_eq]
        intro e; exact hno (by rw [hc, e])
      have HBk := Lib.hid (fun w => rblank_any (bt (mk8 l) j) w)
      simp only [hbt, blkI_u8, hk] at HBk
      simp only [← hbt] at HBk
      have k1 : (bt (mk8 l) j == (111 : Int)) = false := by rw [hbt]; exact (u8_eq (k := 111)).trans (beq_eq_false_iff_ne.2 fun e => by subst e; revert hn1; decide)
      have k2 : (bt (mk8 l) j == (101 : Int)) = false := by rw [hbt]; exact (u8_eq (k := 101)).trans (beq_eq_false_iff_ne.2 fun e => by subst e; revert hn1; decide)
      have k3 : (bt (mk8 l) j == (116 : Int)) = false := by rw [hbt]; exact (u8_eq (k := 116)).trans (beq_eq_false_iff_ne.2 fun e => by subst e; revert hn1; decide)
      have k4 : (bt (mk8 l) j == (110 : Int)) = false := by rw [hbt]; exact (u8_eq (k := 110)).trans (beq_eq_false_iff_ne.2 fun e => by subst e; revert hn1; decide)
      have k5 : (bt (mk8 l) j == (100 : Int)) = false := by rw [hbt]; exact (u8_eq (k := 100)).trans (beq_eq_false_iff_ne.2 fun e => by subst e; revert hn2; decide)
      have k6 : (bt (mk8 l) j == (114 : Int)) = false := by rw [hbt]; exact (u8_eq (k := 114)).trans (beq_eq_false_iff_ne.2 fun e => by subst e; revert hn2; decide)
      have HQ := Lib.hid (fun w => rquotes_any c w)
      simp only [hqt] at HQ
      rw [← hbt] at HQ
      obtain ⟨j1, hj1'⟩ : ∃ j1, j + 1 = j1 := ⟨_, rfl⟩
      rw [hj1'] at h2
      have hj1z : ((j : Int) + 1) = ((j1 : Nat) : Int) := by omega
      have HT1 : Hid (∀ w, Calls Tryd.prog 26 #[.string (mk8 l), .int .i64 ((j1 : Nat) : Int), .int .u8 (bt (mk8 l) j)] w (Says (.int .i64 ((s2 : Nat))) w)) := fun w => by
        have h := to_any l j1 c (by omega) (by omega) w
        rw [← hbt, h2] at h
        exact h
      obtain ⟨j2, hj2'⟩ : ∃ j2, s2 + 1 = j2 := ⟨_, rfl⟩
      rw [hj2'] at h3
      have hs2z : decide ((s2 : Int) < 0) = false := decide_eq_false (by omega)
      have hj2z : ((s2 : Int) + 1) = ((j2 : Nat) : Int) := by omega
      have HT2 : Hid (∀ w, Calls Tryd.prog 26 #[.string (mk8 l), .int .i64 ((j2 : Nat) : Int), .int .u8 (bt (mk8 l) j)] w (Says (.int .i64 ((s3 : Nat))) w)) := fun w => by
        have h := to_any l j2 c (by omega) (by omega) w
        rw [← hbt, h3] at h
        exact h
      have hs3z : decide ((s3 : Int) < 0) = false := decide_eq_false (by omega)
      have ha1z : ((s3 : Int) + 1) = ((at1 : Nat) : Int) := by omega
      have b1 : ((j1 : Nat) : Int) ≤ ((s2 : Nat) : Int) := by omega
      have b2 : ((s2 : Nat) : Int) ≤ l.length := by omega
      have b3 : ((j2 : Nat) : Int) ≤ ((s3 : Nat) : Int) := by omega
      have b4 : ((s3 : Nat) : Int) ≤ l.length := by omega
      rw [hj1'] at HTa
      rw [hj2'] at HTb
      clear h2 h3 hqt hn1 hn2
      clear hbt hcd
      go_wp2_with fail
      refine (HBk.out _).mono ?_
      rintro e w4 ⟨rfl, rfl⟩
      clear HBk hno d0 d1
      go_wp2_with fail
      refine (HQ.out _).mono ?_
      rintro e w5 ⟨rfl, rfl⟩
      go_wp2_with fail
      refine (HT1.out _).mono ?_
      rintro e w5 ⟨rfl, rfl⟩
      go_wp2_with fail
      refine (HT2.out _).mono ?_
      rintro e w5 ⟨rfl, rfl⟩
      have cc := HP.out.c1
      have ff := HP.out.fz 1
      go_upto_region 33 with fail
      generalize hw : wr.setCell _ _ = wa
      have hs : Only p wr wa := by rw [← hw]; exact sets_only _ _
      have HPwa : Hid (Dc p (par t) 39 [] [] [] [] wa) := by rw [← hw]; exact HP.out.set1 _
      have HRwa := Lib.hid (HR.out.only hs (by omega))
      have HBwa := Lib.hid (HB.out.trans (hs.below (by omega) HB.out.size))
      clear hw hs cc ff HP HR HB
      have cc := HPwa.out.c3
      have ff := HPwa.out.fz 3
      go_upto_region 34 with fail
      rw [HTa.out]
      generalize hw : wa.setCell _ _ = wb
      have hs : Only p wa wb := by rw [← hw]; exact sets_only _ _
      have HPwb : Hid (Dc p (par t) 39 [] ta [] [] wb) := by rw [← hw]; exact HPwa.out.set3 _
      have HRwb := Lib.hid (HRwa.out.only hs (by omega))
      have HBwb := Lib.hid (HBwa.out.trans (hs.below (by omega) HBwa.out.size))
      clear hw hs cc ff HPwa HRwa HBwa
      have cc := HPwb.out.c4
      have ff := HPwb.out.fz 4
      go_upto_region 35 with fail
      rw [HTb.out]
      generalize hw : wb.setCell _ _ = wd
      have hs : Only p wb wd := by rw [← hw]; exact sets_only _ _
      have HPwd : Hid (Dc p (par t) 39 [] ta tb [] wd) := by rw [← hw]; exact HPwb.out.set4 _
      have HRwd := Lib.hid (HRwb.out.only hs (by omega))
      have HBwd := Lib.hid (HBwb.out.trans (hs.below (by omega) HBwb.out.size))
      clear hw hs cc ff HPwb HRwb HBwb
      go_wp2_with fail
      refine (HS2.out _).mono ?_
      rintro e w7 ⟨rfl, rfl⟩
      have cc := HPwd.out.c5
      have ff := HPwd.out.fz 5
      go_upto_region 37 with fail
      rw [HRs.out]
      generalize hw : wd.setCell _ _ = w9
      have hs : Only p wd w9 := by rw [← hw]; exact sets_only _ _
      have HPw9 : Hid (Dc p (par t) 39 [] ta tb (l.drop q) w9) := by rw [← hw]; exact HPwd.out.set5 _
      have HRw9 := Lib.hid (HRwd.out.only hs (by omega))
      have HBw9 := Lib.hid (HBwd.out.trans (hs.below (by omega) HBwd.out.size))
      clear hw hs cc ff HPwd HRwd HBwd
      have q0 := HRw9.out.c0
      have q1 := HRw9.out.c1
      have q2 := HRw9.out.c2
      have q3 := HRw9.out.c3
      have q4 := HRw9.out.c4
      have q5 := HRw9.out.c5
      have g0 := HRw9.out.fz 0
      have g1 := HRw9.out.fz 1
      have g2 := HRw9.out.fz 2
      have g3 := HRw9.out.fz 3
      have g4 := HRw9.out.fz 4
      have g5 := HRw9.out.fz 5
      have m0 := HPw9.out.c0
      have m1 := HPw9.out.c1
      have m2 := HPw9.out.c2
      have m3 := HPw9.out.c3
      have m4 := HPw9.out.c4
      have m5 := HPw9.out.c5
      clear HRs HS2
      go_wp2_with fail
      obtain ⟨w6, hw6⟩ : ∃ w6, w6 = (((((w9.setCell ⟨W.heap.size, 0, none⟩ (.bool (par t))).setCell ⟨W.heap.size, 1, none⟩ (.int .u8 (39))).setCell ⟨W.heap.size, 2, none⟩ (.string (mk8 ([])))).setCell ⟨W.heap.size, 3, none⟩ (.string (mk8 (ta)))).setCell ⟨W.heap.size, 4, none⟩ (.string (mk8 (tb)))).setCell ⟨W.heap.size, 5, none⟩ (.string (mk8 (l.drop q))) := ⟨_, rfl⟩
      have hd : Dc W.heap.size (par t) 39 [] ta tb (l.drop q) w6 := by rw [hw6]; exact (((((HRw9.out.set0 _).set1 _).set2 _).set3 _).set4 _).set5 _
      have ho6 : Only W.heap.size w9 w6 := by rw [hw6]; exact putCd_only w9 W.heap.size _ _ _ _ _ _
      have HB6 := Lib.hid (HBw9.out.trans (ho6.below (Nat.le_refl _) HBw9.out.size))
      have e0 := hd.c0
      have e1 := hd.c1
      have e2 := hd.c2
      have e3 := hd.c3
      have e4 := hd.c4
      have e5 := hd.c5
      clear q0 q1 q2 q3 q4 q5 g0 g1 g2 g3 g4 g5 m0 m1 m2 m3 m4 m5 hd ho6
      rw [← hw6]
      clear hw6
      simp [bodyPost, results, Tryd.results10, go_sem, e0, e1, e2, e3, e4, e5]
      exact HB6.out
end Go.Proofs.YtjbaljibaejdgaaDoor
