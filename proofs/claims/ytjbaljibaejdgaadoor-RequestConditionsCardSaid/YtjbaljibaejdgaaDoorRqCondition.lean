/- Condition of the program. -/
import Derived.Test.YtjbaljibaejdgaaDoorRqReadT
namespace Go.Proofs.YtjbaljibaejdgaaDoor
open Go.RowKit Go.PlainAid Go.Shelf

theorem cond_bad (l : List UInt8) (W : World) (h : lineL l = false) : Calls Tryd.prog 8 #[.string (mk8 l)] W (fun e W' => e = .returned (.tuple #[CondV false 0 [] [] [] [], .int .i64 1]) ∧ Below W.heap.size W W') := by
  have HL := Lib.hid (fun w => isLine_any l w)
  simp only [h] at HL
  clear h
  go_enter Tryd.func8, Tryd.ntmps8
  go_wp2_with fail
  refine (HL.out _).mono ?_
  rintro e w1 ⟨rfl, rfl⟩
  go_wp2_with fail
  simp [bodyPost, results, Tryd.results8, go_sem]
  exact (Below.refl _ _).alloc (Nat.le_refl _) _

set_option maxRecDepth 100000 in
set_option maxHeartbeats 4000000 in
theorem cond_none (l : List UInt8) (W : World) (h : lineL l = true) (hx : askL l = none) : Calls Tryd.prog 8 #[.string (mk8 l)] W (fun e W' => e = .returned (.tuple #[CondV false 0 [] [] [] [], .int .i64 4]) ∧ Below W.heap.size W W') := by
  have HL := Lib.hid (fun w => isLine_any l w)
  have hlen : l.length ≤ 2000 := by
    simp only [lineL, Bool.and_eq_true, decide_eq_true_eq] at h
    exact h.1
  simp only [h] at HL
  clear h
  have hce := enters_cut
  obtain ⟨d, hd⟩ : ∃ d, l.drop (blkN l) = d := ⟨_, rfl⟩
  have hd2 : l.dropWhile blk = d := by rw [blkN_drop, hd]
  have hdl : d.length ≤ 2000 := by rw [← hd, List.length_drop]; omega
  unfold askL turnsN at hx
  rw [hd2] at hx
  obtain ⟨t, ht⟩ : ∃ t, exN 33 d = t := ⟨_, rfl⟩
  have htl : t ≤ d.length := by rw [← ht]; exact exN_le 33 d
  have HT := Lib.hid (fun b w (h : Box b d w) => cut_turns b d (by omega) w h)
  unfold CutP at HT
  simp only [ht] at HT
  rw [ht] at hx
  obtain ⟨m, hm⟩ : ∃ m, d.drop t = m := ⟨_, rfl⟩
  have hml : m.length ≤ 2000 := by rw [← hm, List.length_drop]; omega
  rw [hm] at hx
  simp only [hm] at HT
  obtain ⟨s, hs⟩ : ∃ s, mk8 (d.take t) = s := ⟨_, rfl⟩
  have z1 : (s.size : Int) = t := by rw [← hs, mk8_size, List.length_take]; omega
  simp only [hs] at HT
  have HRd := Lib.hid (fun b w (h : Box b m w) => read_any b m hml w h)
  unfold ReadP at HRd
  simp only [hx, Option.isSome_none] at HRd
  clear hx hs
  go_enter Tryd.func8, Tryd.ntmps8
  go_wp2_with fail
  refine (HL.out _).mono ?_
  rintro e w1 ⟨rfl, rfl⟩
  go_wp2_with fail
  refine (cutter_any l _).mono ?_
  rintro e w1 ⟨rfl, hx, hb⟩
  have HB := Lib.hid ((((Below.refl W.heap.size W).alloc (Nat.le_refl _) _)).trans (hb.mono (by simp)))
  have HR := Lib.hid ((cd_new false 0 [] [] [] [] W).below hb)
  have hx : Box (W.heap.size + 1) l w1 := by simpa using hx
  have HX := Lib.hid hx
  clear hx hb
  go_wp2_with fail
  refine (cut_blanks _ l (by omega) w1 HX.out).mono ?_
  rintro e w2 ⟨rfl, hx, ho⟩
  rw [hd] at hx
  have HB2 := Lib.hid (HB.out.trans (ho.below (by omega) HB.out.size))
  have HR2 := Lib.hid (HR.out.only ho (by omega))
  have HX2 := Lib.hid hx
  clear hx ho HB HR HX
  go_wp2_with fail
  refine (HT.out _ w2 HX2.out).mono ?_
  rintro e w3 ⟨rfl, hx, ho⟩
  have HB3 := Lib.hid (HB2.out.trans (ho.below (by omega) HB2.out.size))
  have HR3 := Lib.hid (HR2.out.only ho (by omega))
  have HX3 := Lib.hid hx
  clear hx ho HB2 HR2 HX2
  go_wp2_with fail
  refine (HRd.out _ w3 HX3.out).mono ?_
  rintro e w4 ⟨k, n, a, bb, rest, rfl, hx, ho, hall⟩
  have HB4 := Lib.hid (HB3.out.trans (ho.below (by omega) HB3.out.size))
  have HR4 := Lib.hid (HR3.out.only ho (by omega))
  have HX4 := Lib.hid hx
  have HA := Lib.hid hall
  clear hx ho hall HB3 HR3 HX3
  go_upto_region 8 with fail
  generalize hw5 : w4.alloc _ = w5
  have hb5 : Below w4.heap.size w4 w5 := by rw [← hw5]; exact (Below.refl _ _).alloc (Nat.le_refl _) _
  have HP : Hid (Cd w4.heap.size false k n a bb [] w5) := by rw [← hw5]; exact cd_new false k n a bb [] w4
  have HB5 := Lib.hid (HB4.out.trans (hb5.mono HB4.out.size))
  have HR5 := Lib.hid (HR4.out.below hb5)
  have HX5 := Lib.hid (HX4.out.below hb5)
  obtain ⟨p, hp⟩ : ∃ p, w4.heap.size = p := ⟨_, rfl⟩
  have hxl := HX4.out.lt
  rw [hp] at HP hxl
  rw [hp]
  clear hw5 hb5 HB4 HR4 HX4 hp
  have q0 := HR5.out.c0
  have q1 := HR5.out.c1
  have q2 := HR5.out.c2
  have q3 := HR5.out.c3
  have q4 := HR5.out.c4
  have q5 := HR5.out.c5
  have g0 := HR5.out.fz 0
  have g1 := HR5.out.fz 1
  have g2 := HR5.out.fz 2
  have g3 := HR5.out.fz 3
  have g4 := HR5.out.fz 4
  have g5 := HR5.out.fz 5
  go_wp2_with fail
  obtain ⟨w6, hw6⟩ : ∃ w6, w6 = (((((w5.setCell ⟨W.heap.size, 0, none⟩ (.bool false)).setCell ⟨W.heap.size, 1, none⟩ (.int .u8 0)).setCell ⟨W.heap.size, 2, none⟩ (.string (mk8 []))).setCell ⟨W.heap.size, 3, none⟩ (.string (mk8 []))).setCell ⟨W.heap.size, 4, none⟩ (.string (mk8 []))).setCell ⟨W.heap.size, 5, none⟩ (.string (mk8 [])) := ⟨_, rfl⟩
  have hd : Cd W.heap.size false 0 [] [] [] [] w6 := by rw [hw6]; exact putCd_is HR5.out
  have ho6 : Only W.heap.size w5 w6 := by rw [hw6]; exact putCd_only w5 W.heap.size false 0 [] [] [] []
  have HB6 := Lib.hid (HB5.out.trans (ho6.below (Nat.le_refl _) HB5.out.size))
  have e0 := hd.c0
  have e1 := hd.c1
  have e2 := hd.c2
  have e3 := hd.c3
  have e4 := hd.c4
  have e5 := hd.c5
  clear q0 q1 q2 q3 q4 q5 g0 g1 g2 g3 g4 g5 hd ho6
  show bodyPost _ _ _ _ _ ((((((w5.setCell ⟨W.heap.size, 0, none⟩ (.bool false)).setCell ⟨W.heap.size, 1, none⟩ (.int .u8 0)).setCell ⟨W.heap.size, 2, none⟩ (.string (mk8 []))).setCell ⟨W.heap.size, 3, none⟩ (.string (mk8 []))).setCell ⟨W.heap.size, 4, none⟩ (.string (mk8 []))).setCell ⟨W.heap.size, 5, none⟩ (.string (mk8 [])))
  rw [← hw6]
  clear hw6
  simp [bodyPost, results, Tryd.results8, go_sem, e0, e1, e2, e3, e4, e5]
  exact HB6.out
theorem read_len {m : List UInt8} {x : Ask} (h : readL m = some x) : x.rest.length ≤ m.length := by
  cases m with
  | nil => cases h
  | cons c r =>
    unfold readL at h
    simp only at h
    split at h
    · obtain rfl := Option.some.inj h
      simp
    · split at h
      · split at h
        · cases h
        · obtain rfl := Option.some.inj h
          simp only [List.length_drop, List.length_cons]
          omega
      · split at h
        · unfold textsL at h
          split at h
          · cases h
          · split at h
            · cases h
            · obtain rfl := Option.some.inj h
              simp only [List.length_drop, List.length_cons]
              omega
        · split at h
          · cases h
          · obtain rfl := Option.some.inj h
            simp only [List.length_drop, List.length_cons]
            omega
set_option maxRecDepth 100000 in
set_option maxHeartbeats 4000000 in
theorem cond_some (l : List UInt8) (x : Ask) (W : World) (h : lineL l = true) (hx : askL l = some x) : Calls Tryd.prog 8 #[.string (mk8 l)] W (fun e W' => e = .returned (.tuple #[CondV ((exN 33 (l.dropWhile blk) : Int) % 2 == 1) x.kind.toNat x.name x.left x.right (x.rest.dropWhile blk), .int .i64 0]) ∧ Below W.heap.size W W') := by
  have HL := Lib.hid (fun w => isLine_any l w)
  have hlen : l.length ≤ 2000 := by
    simp only [lineL, Bool.and_eq_true, decide_eq_true_eq] at h
    exact h.1
  simp only [h] at HL
  clear h
  have hce := enters_cut
  obtain ⟨d, hd⟩ : ∃ d, l.drop (blkN l) = d := ⟨_, rfl⟩
  have hd2 : l.dropWhile blk = d := by rw [blkN_drop, hd]
  have hdl : d.length ≤ 2000 := by rw [← hd, List.length_drop]; omega
  unfold askL turnsN at hx
  rw [hd2] at hx
  obtain ⟨t, ht⟩ : ∃ t, exN 33 d = t := ⟨_, rfl⟩
  have htl : t ≤ d.length := by rw [← ht]; exact exN_le 33 d
  have HT := Lib.hid (fun b w (h : Box b d w) => cut_turns b d (by omega) w h)
  unfold CutP at HT
  simp only [ht] at HT
  rw [ht] at hx
  rw [hd2, ht]
  obtain ⟨m, hm⟩ : ∃ m, d.drop t = m := ⟨_, rfl⟩
  have hml : m.length ≤ 2000 := by rw [← hm, List.length_drop]; omega
  rw [hm] at hx
  simp only [hm] at HT
  obtain ⟨s, hs⟩ : ∃ s, mk8 (d.take t) = s := ⟨_, rfl⟩
  have z1 : (s.size : Int) = t := by rw [← hs, mk8_size, List.length_take]; omega
  simp only [hs] at HT
  have HRd := Lib.hid (fun b w (h : Box b m w) => read_any b m hml w h)
  unfold ReadP at HRd
  have hxr := read_len hx
  simp only [hx, Option.isSome_some] at HRd
  clear hx hs
  go_enter Tryd.func8, Tryd.ntmps8
  go_wp2_with fail
  refine (HL.out _).mono ?_
  rintro e w1 ⟨rfl, rfl⟩
  go_wp2_with fail
  refine (cutter_any l _).mono ?_
  rintro e w1 ⟨rfl, hx, hb⟩
  have HB := Lib.hid ((((Below.refl W.heap.size W).alloc (Nat.le_refl _) _)).trans (hb.mono (by simp)))
  have HR := Lib.hid ((cd_new false 0 [] [] [] [] W).below hb)
  have hx : Box (W.heap.size + 1) l w1 := by simpa using hx
  have HX := Lib.hid hx
  clear hx hb
  go_wp2_with fail
  refine (cut_blanks _ l (by omega) w1 HX.out).mono ?_
  rintro e w2 ⟨rfl, hx, ho⟩
  rw [hd] at hx
  have HB2 := Lib.hid (HB.out.trans (ho.below (by omega) HB.out.size))
  have HR2 := Lib.hid (HR.out.only ho (by omega))
  have HX2 := Lib.hid hx
  clear hx ho HB HR HX
  go_wp2_with fail
  refine (HT.out _ w2 HX2.out).mono ?_
  rintro e w3 ⟨rfl, hx, ho⟩
  have HB3 := Lib.hid (HB2.out.trans (ho.below (by omega) HB2.out.size))
  have HR3 := Lib.hid (HR2.out.only ho (by omega))
  have HX3 := Lib.hid hx
  clear hx ho HB2 HR2 HX2
  go_wp2_with fail
  refine (HRd.out _ w3 HX3.out).mono ?_
  rintro e w4 ⟨k, n, a, bb, rest, rfl, hx, ho, hall⟩
  have HB4 := Lib.hid (HB3.out.trans (ho.below (by omega) HB3.out.size))
  have HR4 := Lib.hid (HR3.out.only ho (by omega))
  have HX4 := Lib.hid hx
  have HA := Lib.hid hall
  clear hx ho hall HB3 HR3 HX3
  go_upto_region 9 with fail
  generalize hw5 : w4.alloc _ = w5
  have hb5 : Below w4.heap.size w4 w5 := by rw [← hw5]; exact (Below.refl _ _).alloc (Nat.le_refl _) _
  have HP : Hid (Cd w4.heap.size false k n a bb [] w5) := by rw [← hw5]; exact cd_new false k n a bb [] w4
  have HB5 := Lib.hid (HB4.out.trans (hb5.mono HB4.out.size))
  have HR5 := Lib.hid (HR4.out.below hb5)
  have HX5 := Lib.hid (HX4.out.below hb5)
  obtain ⟨p, hp⟩ : ∃ p, w4.heap.size = p := ⟨_, rfl⟩
  have hxl := HX4.out.lt
  rw [hp] at HP hxl
  rw [hp]
  clear hw5 hb5 HB4 HR4 HX4 hp
  obtain ⟨hk1, hk2, hk3, hk4, hk5⟩ := HA.out x rfl
  subst hk1 hk2 hk3 hk4 hk5
  have k0 := HP.out.c0
  have f0 := HP.out.fz 0
  go_wp2_with fail
  generalize hw6 : w5.setCell _ _ = w6
  have hs6 : Only p w5 w6 := by rw [← hw6]; exact sets_only _ _
  have HP6 : Hid (Cd p ((t : Int) % 2 == 1) x.kind.toNat x.name x.left x.right [] w6) := by rw [← hw6]; exact HP.out.set0 _
  have HX6 := Lib.hid (HX5.out.far hs6 (by omega))
  have HR6 := Lib.hid (HR5.out.only hs6 (by omega))
  have HB6 := Lib.hid (HB5.out.trans (hs6.below (by omega) HB5.out.size))
  clear hw6 hs6 k0 f0 HP HX5 HR5 HB5 HA
  refine (cut_blanks _ x.rest (by omega) w6 HX6.out).mono ?_
  rintro e w7 ⟨rfl, hx, ho⟩
  obtain ⟨y, hy⟩ : ∃ y, x.rest.drop (blkN x.rest) = y := ⟨_, rfl⟩
  have hy2 : Hid (x.rest.dropWhile blk = y) := by show _ = _; rw [blkN_drop, hy]
  rw [hy] at hx
  have HP7 := Lib.hid (HP6.out.only ho (by omega))
  have HR7 := Lib.hid (HR6.out.only ho (by omega))
  have HB7 := Lib.hid (HB6.out.trans (ho.below (by omega) HB6.out.size))
  have HX7 := Lib.hid hx
  clear hx ho hy HP6 HR6 HB6 HX6
  go_wp2_with fail
  refine (cut_whole _ y w7 HX7.out).mono ?_
  rintro e w8 ⟨rfl, hx, ho⟩
  rw [List.take_length]
  have HP8 := Lib.hid (HP7.out.only ho (by omega))
  have HR8 := Lib.hid (HR7.out.only ho (by omega))
  have HB8 := Lib.hid (HB7.out.trans (ho.below (by omega) HB7.out.size))
  have k5 := HP8.out.c5
  have f5 := HP8.out.fz 5
  clear hx ho HP7 HR7 HB7 HX7
  go_upto_region 12 with fail
  generalize hw9 : w8.setCell _ _ = w9
  have hs9 : Only p w8 w9 := by rw [← hw9]; exact sets_only _ _
  have HP9 : Hid (Cd p ((t : Int) % 2 == 1) x.kind.toNat x.name x.left x.right y w9) := by rw [← hw9]; exact HP8.out.set5 _
  have HR9 := Lib.hid (HR8.out.only hs9 (by omega))
  have HB9 := Lib.hid (HB8.out.trans (hs9.below (by omega) HB8.out.size))
  clear hw9 hs9 k5 f5 HP8 HR8 HB8
  have q0 := HR9.out.c0
  have q1 := HR9.out.c1
  have q2 := HR9.out.c2
  have q3 := HR9.out.c3
  have q4 := HR9.out.c4
  have q5 := HR9.out.c5
  have g0 := HR9.out.fz 0
  have g1 := HR9.out.fz 1
  have g2 := HR9.out.fz 2
  have g3 := HR9.out.fz 3
  have g4 := HR9.out.fz 4
  have g5 := HR9.out.fz 5
  have k0 := HP9.out.c0
  have k1 := HP9.out.c1
  have k2 := HP9.out.c2
  have k3 := HP9.out.c3
  have k4 := HP9.out.c4
  have k5 := HP9.out.c5
  go_wp2_with fail
  obtain ⟨w6, hw6⟩ : ∃ w6, w6 = (((((w9.setCell ⟨W.heap.size, 0, none⟩ (.bool ((t : Int) % 2 == 1))).setCell ⟨W.heap.size, 1, none⟩ (.int .u8 x.kind.toNat)).setCell ⟨W.heap.size, 2, none⟩ (.string (mk8 x.name))).setCell ⟨W.heap.size, 3, none⟩ (.string (mk8 x.left))).setCell ⟨W.heap.size, 4, none⟩ (.string (mk8 x.right))).setCell ⟨W.heap.size, 5, none⟩ (.string (mk8 y)) := ⟨_, rfl⟩
  have hd : Cd W.heap.size ((t : Int) % 2 == 1) x.kind.toNat x.name x.left x.right y w6 := by rw [hw6]; exact putCd_is HR9.out
  have ho6 : Only W.heap.size w9 w6 := by rw [hw6]; exact putCd_only w9 W.heap.size _ _ _ _ _ _
  have HB6 := Lib.hid (HB9.out.trans (ho6.below (Nat.le_refl _) HB9.out.size))
  have e0 := hd.c0
  have e1 := hd.c1
  have e2 := hd.c2
  have e3 := hd.c3
  have e4 := hd.c4
  have e5 := hd.c5
  clear q0 q1 q2 q3 q4 q5 g0 g1 g2 g3 g4 g5 k0 k1 k2 k3 k4 k5 hd ho6
  rw [← hw6]
  clear hw6
  simp [bodyPost, results, Tryd.results8, go_sem, e0, e1, e2, e3, e4, e5, hy2.out]
  exact HB6.out
end Go.Proofs.YtjbaljibaejdgaaDoor
