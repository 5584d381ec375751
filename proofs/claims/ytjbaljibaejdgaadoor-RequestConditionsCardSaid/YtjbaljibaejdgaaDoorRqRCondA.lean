/- The document's condition: nothing behind the !, a blank there, or a kind of one byte. -/
import Derived.Test.YtjbaljibaejdgaaDoorRqRCond
import Derived.Deep.DeepCutAuto
namespace Go.Proofs.YtjbaljibaejdgaaDoor
open Go.RowKit Go.PlainAid Go.Shelf

set_option maxRecDepth 100000 in
set_option maxHeartbeats 4000000 in
theorem rcond_end (l : List UInt8) (at0 b0 t : Nat) (hend : at0 = l.length) (W : World) (h : lineL l = true) (hb0 : blkN l = b0) (T : Turns l b0 t) (hat : b0 + t = at0) : Calls Tryd.prog 10 #[.string (mk8 l)] W (fun e W' => e = .returned (.tuple #[CondV false 0 [] [] [] [], .int .i64 4]) ∧ Below W.heap.size W W') := by
  have hlen : l.length ≤ 2000 := by
    simp only [lineL, Bool.and_eq_true, decide_eq_true_eq] at h
    exact h.1
  have HL := Lib.hid (fun w => rIsLine_any l (by omega) w)
  simp only [h] at HL
  have HSk := Lib.hid (fun w => skip_any l 0 (Nat.zero_le _) (by omega) w)
  simp only [List.drop_zero, hb0, Nat.zero_add] at HSk
  have hgb := get_bt (mk8 l)
  have z1 : ((mk8 l).size : Int) = l.length := by rw [mk8_size]
  have z2 : (mk8 l).size = l.length := mk8_size l
  have HT := Lib.hid T
  have hle := T.le
  clear h hb0 T
  go_enter Tryd.func10, Tryd.ntmps10
  go_wp2_with fail
  refine (HL.out _).mono ?_
  rintro e w1 ⟨rfl, rfl⟩
  go_upto_region 4 with fail
  generalize hw1 : W.alloc _ = w1
  have hb1 : Below W.heap.size W w1 := by rw [← hw1]; exact (Below.refl _ _).alloc (Nat.le_refl _) _
  have HR1 : Hid (Dc W.heap.size false 0 [] [] [] [] w1) := by rw [← hw1]; exact dc_new _ _ _ _ _ _ _
  generalize hw2 : w1.alloc _ = w2
  have hb2 : Below w1.heap.size w1 w2 := by rw [← hw2]; exact (Below.refl _ _).alloc (Nat.le_refl _) _
  have HP2 : Hid (Dc w1.heap.size false 0 [] [] [] [] w2) := by rw [← hw2]; exact dc_new _ _ _ _ _ _ _
  have HR2 := Lib.hid (HR1.out.below hb2)
  have HB2 := Lib.hid (hb1.trans (hb2.mono hb1.size))
  have hlt1 := HR1.out.lt
  have hs1 : w1.heap.size = W.heap.size + 1 := by rw [← hw1]; simp
  obtain ⟨p, hp⟩ : ∃ p, W.heap.size + 1 = p := ⟨_, rfl⟩
  rw [hs1, hp] at HP2 hlt1
  rw [hp]
  clear hs1 hw1 hw2 hb1 hb2 HR1 hp
  go_wp2_with fail
  refine (HSk.out _).mono ?_
  rintro e w3 ⟨rfl, rfl⟩
  go_wp2_with fail
  go_loopw [5] (fun i wr => ∃ j : Nat, b0 ≤ j ∧ j ≤ at0 ∧ i = .int .i64 j ∧ Hid (Dc p (par (j - b0)) 0 [] [] [] [] wr) ∧ Hid (Only p w2 wr)) (fun i _ => at0 - (intOf i).toNat)
  case atStart => exact ⟨b0, Nat.le_refl _, by omega, rfl, by rw [Nat.sub_self]; exact HP2, Only.refl _ _⟩
  case round =>
    obtain ⟨j, hj1, hj2, rfl, hp, ho⟩ := hrel
    by_cases hlt : j < at0
    · have hc := HT.out.yes j hj1 (by omega)
      have hbt := bt_mk hc
      have hjz : (j : Int) < l.length := by have := (List.getElem?_eq_some_iff.1 hc).1; omega
      have hjs : j < (mk8 l).size := by omega
      have d1 : (bt (mk8 l) j == (33 : Int)) = true := by rw [hbt]; rfl
      obtain ⟨q, hq⟩ : ∃ q, par (j - b0) = q := ⟨_, rfl⟩
      have hq2 : Hid (par (j + 1 - b0) = !q) := by show _ = _; rw [show j + 1 - b0 = (j - b0) + 1 by omega, par_succ, hq]
      rw [hq] at hp
      have k0 := hp.out.c0
      have f0 := hp.out.fz 0
      have HN : Hid (Dc p (!q) 0 [] [] [] [] (wr.setCell ⟨p, 0, none⟩ (.bool (!q)))) := hp.out.set0 _
      have HO : Hid (Only p w2 (wr.setCell ⟨p, 0, none⟩ (.bool (!q)))) := ho.out.set _
      clear hbt hc hq hp ho
      go_wp2_with fail
      go_roundw
      case rel => exact ⟨j + 1, by omega, by omega, by go_num, by rw [hq2.out]; exact HN, HO⟩
      case measure => simp [intOf]; omega
    · obtain rfl : j = at0 := by omega
      have hjz : ¬ (j : Int) < l.length := by omega
      have d0 : ((j : Int) == (l.length : Int)) = true := by simp; omega
      have HP : Hid (Dc p (par t) 0 [] [] [] [] wr) := by rw [show t = j - b0 by omega]; exact hp
      have hno := HT.out.no
      rw [hat] at hno
      have HR : Hid (Dc W.heap.size false 0 [] [] [] [] wr) := HR2.out.only ho.out (by omega)
      have HB : Hid (Below W.heap.size W wr) := HB2.out.trans (ho.out.below (by omega) HB2.out.size)
      clear hp ho HR2 HB2 HP2 HSk HL HT hlt hj2
      have q0 := HR.out.c0
      have q1 := HR.out.c1
      have q2 := HR.out.c2
      have q3 := HR.out.c3
      have q4 := HR.out.c4
      have q5 := HR.out.c5
      have g0 := HR.out.fz 0
      have g1 := HR.out.fz 1
      have g2 := HR.out.fz 2
      have g3 := HR.out.fz 3
      have g4 := HR.out.fz 4
      have g5 := HR.out.fz 5
      go_wp2_with fail
      obtain ⟨w6, hw6⟩ : ∃ w6, w6 = (((((wr.setCell ⟨W.heap.size, 0, none⟩ (.bool false)).setCell ⟨W.heap.size, 1, none⟩ (.int .u8 0)).setCell ⟨W.heap.size, 2, none⟩ (.string (mk8 []))).setCell ⟨W.heap.size, 3, none⟩ (.string (mk8 []))).setCell ⟨W.heap.size, 4, none⟩ (.string (mk8 []))).setCell ⟨W.heap.size, 5, none⟩ (.string (mk8 [])) := ⟨_, rfl⟩
      have hd : Dc W.heap.size false 0 [] [] [] [] w6 := by rw [hw6]; exact (((((HR.out.set0 _).set1 _).set2 _).set3 _).set4 _).set5 _
      have ho6 : Only W.heap.size wr w6 := by rw [hw6]; exact putCd_only wr W.heap.size false 0 [] [] [] []
      have HB6 := Lib.hid (HB.out.trans (ho6.below (Nat.le_refl _) HB.out.size))
      have e0 := hd.c0
      have e1 := hd.c1
      have e2 := hd.c2
      have e3 := hd.c3
      have e4 := hd.c4
      have e5 := hd.c5
      clear q0 q1 q2 q3 q4 q5 g0 g1 g2 g3 g4 g5 hd ho6
      show bodyPost _ _ _ _ _ ((((((wr.setCell ⟨W.heap.size, 0, none⟩ (.bool false)).setCell ⟨W.heap.size, 1, none⟩ (.int .u8 0)).setCell ⟨W.heap.size, 2, none⟩ (.string (mk8 []))).setCell ⟨W.heap.size, 3, none⟩ (.string (mk8 []))).setCell ⟨W.heap.size, 4, none⟩ (.string (mk8 []))).setCell ⟨W.heap.size, 5, none⟩ (.string (mk8 [])))
      rw [← hw6]
      clear hw6
      simp [bodyPost, results, Tryd.results10, go_sem, e0, e1, e2, e3, e4, e5]
      exact HB6.out
set_option maxRecDepth 100000 in
set_option maxHeartbeats 4000000 in
theorem rcond_blank (l : List UInt8) (at0 b0 t : Nat) (c : UInt8) (hc : l[at0]? = some c) (hk : blk c = true) (W : World) (h : lineL l = true) (hb0 : blkN l = b0) (T : Turns l b0 t) (hat : b0 + t = at0) : Calls Tryd.prog 10 #[.string (mk8 l)] W (fun e W' => e = .returned (.tuple #[CondV false 0 [] [] [] [], .int .i64 4]) ∧ Below W.heap.size W W') := by
  have hlen : l.length ≤ 2000 := by
    simp only [lineL, Bool.and_eq_true, decide_eq_true_eq] at h
    exact h.1
  have HL := Lib.hid (fun w => rIsLine_any l (by omega) w)
  simp only [h] at HL
  have HSk := Lib.hid (fun w => skip_any l 0 (Nat.zero_le _) (by omega) w)
  simp only [List.drop_zero, hb0, Nat.zero_add] at HSk
  have hgb := get_bt (mk8 l)
  have z1 : ((mk8 l).size : Int) = l.length := by rw [mk8_size]
  have z2 : (mk8 l).size = l.length := mk8_size l
  have HT := Lib.hid T
  have hle := T.le
  clear h hb0 T
  go_enter Tryd.func10, Tryd.ntmps10
  go_wp2_with fail
  refine (HL.out _).mono ?_
  rintro e w1 ⟨rfl, rfl⟩
  go_upto_region 4 with fail
  generalize hw1 : W.alloc _ = w1
  have hb1 : Below W.heap.size W w1 := by rw [← hw1]; exact (Below.refl _ _).alloc (Nat.le_refl _) _
  have HR1 : Hid (Dc W.heap.size false 0 [] [] [] [] w1) := by rw [← hw1]; exact dc_new _ _ _ _ _ _ _
  generalize hw2 : w1.alloc _ = w2
  have hb2 : Below w1.heap.size w1 w2 := by rw [← hw2]; exact (Below.refl _ _).alloc (Nat.le_refl _) _
  have HP2 : Hid (Dc w1.heap.size false 0 [] [] [] [] w2) := by rw [← hw2]; exact dc_new _ _ _ _ _ _ _
  have HR2 := Lib.hid (HR1.out.below hb2)
  have HB2 := Lib.hid (hb1.trans (hb2.mono hb1.size))
  have hlt1 := HR1.out.lt
  have hs1 : w1.heap.size = W.heap.size + 1 := by rw [← hw1]; simp
  obtain ⟨p, hp⟩ : ∃ p, W.heap.size + 1 = p := ⟨_, rfl⟩
  rw [hs1, hp] at HP2 hlt1
  rw [hp]
  clear hs1 hw1 hw2 hb1 hb2 HR1 hp
  go_wp2_with fail
  refine (HSk.out _).mono ?_
  rintro e w3 ⟨rfl, rfl⟩
  go_wp2_with fail
  go_loopw [5] (fun i wr => ∃ j : Nat, b0 ≤ j ∧ j ≤ at0 ∧ i = .int .i64 j ∧ Hid (Dc p (par (j - b0)) 0 [] [] [] [] wr) ∧ Hid (Only p w2 wr)) (fun i _ => at0 - (intOf i).toNat)
  case atStart => exact ⟨b0, Nat.le_refl _, by omega, rfl, by rw [Nat.sub_self]; exact HP2, Only.refl _ _⟩
  case round =>
    obtain ⟨j, hj1, hj2, rfl, hp, ho⟩ := hrel
    by_cases hlt : j < at0
    · have hc := HT.out.yes j hj1 (by omega)
      have hbt := bt_mk hc
      have hjz : (j : Int) < l.length := by have := (List.getElem?_eq_some_iff.1 hc).1; omega
      have hjs : j < (mk8 l).size := by omega
      have d1 : (bt (mk8 l) j == (33 : Int)) = true := by rw [hbt]; rfl
      obtain ⟨q, hq⟩ : ∃ q, par (j - b0) = q := ⟨_, rfl⟩
      have hq2 : Hid (par (j + 1 - b0) = !q) := by show _ = _; rw [show j + 1 - b0 = (j - b0) + 1 by omega, par_succ, hq]
      rw [hq] at hp
      have k0 := hp.out.c0
      have f0 := hp.out.fz 0
      have HN : Hid (Dc p (!q) 0 [] [] [] [] (wr.setCell ⟨p, 0, none⟩ (.bool (!q)))) := hp.out.set0 _
      have HO : Hid (Only p w2 (wr.setCell ⟨p, 0, none⟩ (.bool (!q)))) := ho.out.set _
      clear hbt hc hq hp ho
      go_wp2_with fail
      go_roundw
      case rel => exact ⟨j + 1, by omega, by omega, by go_num, by rw [hq2.out]; exact HN, HO⟩
      case measure => simp [intOf]; omega
    · obtain rfl : j = at0 := by omega
      have HP : Hid (Dc p (par t) 0 [] [] [] [] wr) := by rw [show t = j - b0 by omega]; exact hp
      have hno := HT.out.no
      rw [hat] at hno
      have HR : Hid (Dc W.heap.size false 0 [] [] [] [] wr) := HR2.out.only ho.out (by omega)
      have HB : Hid (Below W.heap.size W wr) := HB2.out.trans (ho.out.below (by omega) HB2.out.size)
      clear hp ho HR2 HB2 HP2 HSk HL HT hlt hj2
      obtain ⟨hjl, hcd⟩ := List.getElem?_eq_some_iff.1 hc
      have hbt := bt_mk hc
      have hjz : (j : Int) < l.length := by omega
      have hjs : j < (mk8 l).size := by omega
      have d0 : ((j : Int) == (l.length : Int)) = false := by simp; omega
      have d1 : (bt (mk8 l) j == (33 : Int)) = false := by
        rw [hbt]; refine (u8_eq (k := 33)).trans ?_
        simp only [beq_eq_false_iff_ne, ne_eq]
        intro e; exact hno (by rw [hc, e])
      have HBk := Lib.hid (fun w => rblank_any (bt (mk8 l) j) w)
      simp only [hbt, blkI_u8, hk] at HBk
      simp only [← hbt] at HBk
      clear hbt
      go_wp2_with fail
      refine (HBk.out _).mono ?_
      rintro e w4 ⟨rfl, rfl⟩
      clear HBk hno d0 d1
      have q0 := HR.out.c0
      have q1 := HR.out.c1
      have q2 := HR.out.c2
      have q3 := HR.out.c3
      have q4 := HR.out.c4
      have q5 := HR.out.c5
      have g0 := HR.out.fz 0
      have g1 := HR.out.fz 1
      have g2 := HR.out.fz 2
      have g3 := HR.out.fz 3
      have g4 := HR.out.fz 4
      have g5 := HR.out.fz 5
      go_wp2_with fail
      obtain ⟨w6, hw6⟩ : ∃ w6, w6 = (((((wr.setCell ⟨W.heap.size, 0, none⟩ (.bool false)).setCell ⟨W.heap.size, 1, none⟩ (.int .u8 0)).setCell ⟨W.heap.size, 2, none⟩ (.string (mk8 []))).setCell ⟨W.heap.size, 3, none⟩ (.string (mk8 []))).setCell ⟨W.heap.size, 4, none⟩ (.string (mk8 []))).setCell ⟨W.heap.size, 5, none⟩ (.string (mk8 [])) := ⟨_, rfl⟩
      have hd : Dc W.heap.size false 0 [] [] [] [] w6 := by rw [hw6]; exact (((((HR.out.set0 _).set1 _).set2 _).set3 _).set4 _).set5 _
      have ho6 : Only W.heap.size wr w6 := by rw [hw6]; exact putCd_only wr W.heap.size false 0 [] [] [] []
      have HB6 := Lib.hid (HB.out.trans (ho6.below (Nat.le_refl _) HB.out.size))
      have e0 := hd.c0
      have e1 := hd.c1
      have e2 := hd.c2
      have e3 := hd.c3
      have e4 := hd.c4
      have e5 := hd.c5
      clear q0 q1 q2 q3 q4 q5 g0 g1 g2 g3 g4 g5 hd ho6
      show bodyPost _ _ _ _ _ ((((((wr.setCell ⟨W.heap.size, 0, none⟩ (.bool false)).setCell ⟨W.heap.size, 1, none⟩ (.int .u8 0)).setCell ⟨W.heap.size, 2, none⟩ (.string (mk8 []))).setCell ⟨W.heap.size, 3, none⟩ (.string (mk8 []))).setCell ⟨W.heap.size, 4, none⟩ (.string (mk8 []))).setCell ⟨W.heap.size, 5, none⟩ (.string (mk8 [])))
      rw [← hw6]
      clear hw6
      simp [bodyPost, results, Tryd.results10, go_sem, e0, e1, e2, e3, e4, e5]
      exact HB6.out
end Go.Proofs.YtjbaljibaejdgaaDoor
