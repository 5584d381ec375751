/- Two texts in quotes of one byte, read. -/
import Derived.Test.YtjbaljibaejdgaaDoorRqCd
namespace Go.Proofs.YtjbaljibaejdgaaDoor
open Go.RowKit Go.PlainAid Go.Shelf

theorem one_empty (m : List UInt8) : (m.take (oneN m)).isEmpty = m.isEmpty := by
  unfold oneN
  cases m with
  | nil => rfl
  | cons c r => simp
set_option maxRecDepth 100000 in
set_option maxHeartbeats 16000000 in
theorem readTexts_any (b : Nat) (c : UInt8) (r : List UInt8) (hr : r.length ≤ 2000) (W : World) (hB : Box b r W) : Calls Tryd.prog 31 #[.func (.func 28) #[] #[.pointer (some ⟨b, 0, none⟩)], .int .u8 c.toNat] W (TextsP c r b W) := by
  have hbl := hB.lt
  have hce := enters_cut
  have HUp := Lib.hid (fun w => upTo_any c w)
  have HCut := Lib.hid (fun l (hl : l.length ≤ 1000000) p w (h1 : Box b l w) h2 => cut_upTo b p c l hl w h1 h2)
  have HOne := Lib.hid (fun l w (h1 : Box b l w) => cut_one b l w h1)
  have HB0 := Lib.hid hB
  obtain ⟨z, hz⟩ : ∃ z : Int, (c.toNat : Int) = z := ⟨_, rfl⟩
  rw [hz] at HUp ⊢
  have h1 : (W.alloc (.cells (condCells false 0 [] [] [] []) 28)).heap.size = W.heap.size + 1 := by simp
  have HO1 := Lib.hid (show Only b W ((W.alloc (.cells (condCells false 0 [] [] [] []) 28)).alloc (.cells (condCells false 39 [] [] [] []) 28)) from only_of (((Below.refl _ _).alloc (Nat.le_refl _) _).alloc (by rw [h1]; omega) _))
  have HR1 := Lib.hid ((cd_new false 0 [] [] [] [] W).below ((Below.refl _ _).alloc (Nat.le_refl _) (.cells (condCells false 39 [] [] [] []) 28)))
  have hT := cd_new false 39 [] [] [] [] (W.alloc (.cells (condCells false 0 [] [] [] []) 28))
  rw [h1] at hT
  have HT1 := Lib.hid hT
  clear hB hT h1
  go_enter Tryd.func31, Tryd.ntmps31
  go_upto_region 2 with fail
  generalize hw1 : (W.alloc _).alloc _ = w1
  have HO : Hid (Only b W w1) := by rw [← hw1]; exact HO1
  have HR : Hid (Cd W.heap.size false 0 [] [] [] [] w1) := by rw [← hw1]; exact HR1
  have HT : Hid (Cd (W.heap.size + 1) false 39 [] [] [] [] w1) := by rw [← hw1]; exact HT1
  have hbR : W.heap.size ≠ b := by omega
  have hbT : W.heap.size + 1 ≠ b := by omega
  have HB : Hid (Box b r w1) := by rw [← hw1]; exact HB0.out.below (((Below.refl _ _).alloc (Nat.le_refl _) _).alloc (by simp) _)
  clear hw1 HO1 HR1 HT1
  go_wp2_with fail
  refine (HUp.out w1).mono ?_
  rintro e w2 ⟨rfl, hp, hb⟩
  have HB2 := Lib.hid (HB.out.below hb)
  have HR2 := Lib.hid (HR.out.below hb)
  have HT2 := Lib.hid (HT.out.below hb)
  have HO2 := Lib.hid (HO.out.trans (only_of hb))
  have hnew : w1.heap.size < w2.heap.size := World.block_lt_of_cell? _ _ hp
  have HCt := Lib.hid (HCut.out r (by omega) w1.heap.size w2 HB2.out hp)
  clear hp hb HB HR HT HO
  go_wp2_with fail
  refine HCt.out.mono ?_
  rintro e w3 ⟨rfl, hx, ho⟩
  have HB3 := Lib.hid hx
  have HR3 := Lib.hid (HR2.out.only ho hbR)
  have HT3 := Lib.hid (HT2.out.only ho hbT)
  have HO3 := Lib.hid (HO2.out.trans ho)
  have k3 := HT3.out.c3
  have f3 := HT3.out.fz 3
  clear hx ho HB2 HR2 HT2 HO2 hnew
  go_upto_region 3 with fail
  generalize hw4 : w3.setCell _ _ = w4
  have hs4 : Only (W.heap.size + 1) w3 w4 := by rw [← hw4]; exact sets_only _ _
  have HT4 : Hid (Cd (W.heap.size + 1) false 39 [] (r.take (upN c r)) [] [] w4) := by rw [← hw4]; exact HT3.out.set3 _
  have HB4 := Lib.hid (HB3.out.far hs4 (Ne.symm hbT))
  have HR4 := Lib.hid (HR3.out.only hs4 (by omega))
  have HO4 : Hid (Only b W w4) := ⟨hs4.os.trans HO3.out.os, hs4.tape.trans HO3.out.tape, hs4.output.trans HO3.out.output, Nat.le_trans HO3.out.size hs4.size, fun i hi hb => (hs4.block i (Nat.lt_of_lt_of_le hi HO3.out.size) (by omega)).trans (HO3.out.block i hi hb)⟩
  clear hw4 hs4 k3 f3 HT3 HB3 HR3 HO3
  obtain ⟨A, hA⟩ : ∃ A, r.take (upN c r) = A := ⟨_, rfl⟩
  obtain ⟨m1, hm1⟩ : ∃ m1, r.drop (upN c r) = m1 := ⟨_, rfl⟩
  have hm1l : m1.length ≤ 2000 := by rw [← hm1, List.length_drop]; omega
  rw [hA] at HT4
  rw [hm1] at HB4
  go_wp2_with fail
  refine (HOne.out m1 w4 HB4.out).mono ?_
  rintro e w5 ⟨rfl, hx, ho⟩
  rw [one_drop1] at hx
  have HB5 := Lib.hid hx
  have HR5 := Lib.hid (HR4.out.only ho hbR)
  have HT5 := Lib.hid (HT4.out.only ho hbT)
  have HO5 := Lib.hid (HO4.out.trans ho)
  clear hx ho HB4 HR4 HT4 HO4
  obtain ⟨m2, hm2⟩ : ∃ m2, m1.drop 1 = m2 := ⟨_, rfl⟩
  have hm2l : m2.length ≤ 2000 := by rw [← hm2, List.length_drop]; omega
  rw [hm2] at HB5
  go_wp2_with fail
  refine (HUp.out w5).mono ?_
  rintro e w6 ⟨rfl, hp, hb⟩
  have HB6 := Lib.hid (HB5.out.below hb)
  have HR6 := Lib.hid (HR5.out.below hb)
  have HT6 := Lib.hid (HT5.out.below hb)
  have HO6 := Lib.hid (HO5.out.trans (only_of hb))
  have HCt2 := Lib.hid (HCut.out m2 (by omega) w5.heap.size w6 HB6.out hp)
  clear hp hb HB5 HR5 HT5 HO5
  go_wp2_with fail
  refine HCt2.out.mono ?_
  rintro e w7 ⟨rfl, hx, ho⟩
  have HB7 := Lib.hid hx
  have HR7 := Lib.hid (HR6.out.only ho hbR)
  have HT7 := Lib.hid (HT6.out.only ho hbT)
  have HO7 := Lib.hid (HO6.out.trans ho)
  have k4 := HT7.out.c4
  have f4 := HT7.out.fz 4
  clear hx ho HB6 HR6 HT6 HO6
  go_upto_region 5 with fail
  generalize hw8 : w7.setCell _ _ = w8
  have hs8 : Only (W.heap.size + 1) w7 w8 := by rw [← hw8]; exact sets_only _ _
  have HT8 : Hid (Cd (W.heap.size + 1) false 39 [] A (m2.take (upN c m2)) [] w8) := by rw [← hw8]; exact HT7.out.set4 _
  have HB8 := Lib.hid (HB7.out.far hs8 (Ne.symm hbT))
  have HR8 := Lib.hid (HR7.out.only hs8 (by omega))
  have HO8 : Hid (Only b W w8) := ⟨hs8.os.trans HO7.out.os, hs8.tape.trans HO7.out.tape, hs8.output.trans HO7.out.output, Nat.le_trans HO7.out.size hs8.size, fun i hi hb => (hs8.block i (Nat.lt_of_lt_of_le hi HO7.out.size) (by omega)).trans (HO7.out.block i hi hb)⟩
  clear hw8 hs8 k4 f4 HT7 HB7 HR7 HO7
  have HE : Hid (atEnd c r = m2.drop (upN c m2)) := by show _ = _; unfold atEnd; rw [hm1, hm2]
  have HBB : Hid (((r.drop (upN c r)).drop 1).take (upN c ((r.drop (upN c r)).drop 1)) = m2.take (upN c m2)) := by show _ = _; rw [hm1, hm2]
  have HAA := Lib.hid hA
  obtain ⟨B2, hB2⟩ : ∃ B2, m2.take (upN c m2) = B2 := ⟨_, rfl⟩
  obtain ⟨m3, hm3⟩ : ∃ m3, m2.drop (upN c m2) = m3 := ⟨_, rfl⟩
  rw [hB2] at HT8 HBB
  rw [hm3] at HB8 HE
  clear hA hm1 hm2 hB2 hm3 HUp HCut
  have k0 := HT8.out.c0
  have k1 := HT8.out.c1
  have k2 := HT8.out.c2
  have k3 := HT8.out.c3
  have k4 := HT8.out.c4
  have k5 := HT8.out.c5
  have q0 := HR8.out.c0
  have q1 := HR8.out.c1
  have q2 := HR8.out.c2
  have q3 := HR8.out.c3
  have q4 := HR8.out.c4
  have q5 := HR8.out.c5
  have g0 := HR8.out.fz 0
  have g1 := HR8.out.fz 1
  have g2 := HR8.out.fz 2
  have g3 := HR8.out.fz 3
  have g4 := HR8.out.fz 4
  have g5 := HR8.out.fz 5
  have HBd : Hid (Box b m3 w8.drew) := Lib.hid HB8.out.drew
  have HTd : Hid (∀ w9, Only b w8.drew w9 → Cd (W.heap.size + 1) false 39 [] A B2 [] w9) := Lib.hid fun w9 ho => HT8.out.only ho.undrew hbT
  have HRd : Hid (∀ w9, Only b w8.drew w9 → Cd W.heap.size false 0 [] [] [] [] w9) := Lib.hid fun w9 ho => HR8.out.only ho.undrew hbR
  go_region_with (first | (go_at_call 28; refine (HOne.out m3 w8.drew HBd.out).mono ?_; rintro e w9 ⟨rfl, hx9, ho9⟩; have ht9 := HTd.out w9 ho9; have hr9 := HRd.out w9 ho9; have j0 := ht9.c0; have j1 := ht9.c1; have j2 := ht9.c2; have j3 := ht9.c3; have j4 := ht9.c4; have j5 := ht9.c5; have u0 := hr9.c0; have u1 := hr9.c1; have u2 := hr9.c2; have u3 := hr9.c3; have u4 := hr9.c4; have u5 := hr9.c5; have y0 := hr9.fz 0; have y1 := hr9.fz 1; have y2 := hr9.fz 2; have y3 := hr9.fz 3; have y4 := hr9.fz 4; have y5 := hr9.fz 5))
  all_goals
    clear j0 j1 j2 j3 j4 j5 u0 u1 u2 u3 u4 u5 y0 y1 y2 y3 y4 y5
    go_wp2_with fail
    have hTP : TextsP c r b W = fun e W' => ∃ a bb, e = .returned (.tuple #[CondV false 39 [] a bb [], .bool (!(m3.take (oneN m3)).isEmpty)]) ∧ Box b (m3.drop (oneN m3)) W' ∧ Only b W W' ∧ a = A ∧ bb = B2 := by
      funext e W'
      unfold TextsP
      rw [HE.out, HAA.out, HBB.out, one_empty, one_drop1]
    rw [hTP]
    clear hTP HE HAA HBB HTd HRd HBd
    obtain ⟨on, hon⟩ : ∃ on, m3.take (oneN m3) = on := ⟨_, rfl⟩
    obtain ⟨m4, hm4⟩ : ∃ m4, m3.drop (oneN m3) = m4 := ⟨_, rfl⟩
    rw [hm4] at hx9
    rw [hon, hm4]
    clear hon hm4
    obtain ⟨w10, hw10⟩ : ∃ w10, w10 = (((((w9.setCell ⟨W.heap.size, 0, none⟩ (.bool false)).setCell ⟨W.heap.size, 1, none⟩ (.int .u8 39)).setCell ⟨W.heap.size, 2, none⟩ (.string (mk8 []))).setCell ⟨W.heap.size, 3, none⟩ (.string (mk8 A))).setCell ⟨W.heap.size, 4, none⟩ (.string (mk8 B2))).setCell ⟨W.heap.size, 5, none⟩ (.string (mk8 [])) := ⟨_, rfl⟩
    have hd : Cd W.heap.size false 39 [] A B2 [] w10 := by rw [hw10]; exact putCd_is hr9
    have ho10 : Only W.heap.size w9 w10 := by rw [hw10]; exact putCd_only w9 W.heap.size false 39 [] A B2 []
    have HB10 := Lib.hid (hx9.far ho10 (Ne.symm hbR))
    have HO9 := Lib.hid (HO8.out.trans ho9.undrew)
    have HO10 : Hid (Only b W w10) := ⟨ho10.os.trans HO9.out.os, ho10.tape.trans HO9.out.tape, ho10.output.trans HO9.out.output, Nat.le_trans HO9.out.size ho10.size, fun i hi hb => (ho10.block i (Nat.lt_of_lt_of_le hi HO9.out.size) (by omega)).trans (HO9.out.block i hi hb)⟩
    have e0 := hd.c0
    have e1 := hd.c1
    have e2 := hd.c2
    have e3 := hd.c3
    have e4 := hd.c4
    have e5 := hd.c5
    rw [← hw10]
    clear hw10 hd ho10 HT8 HR8 HB8 HO8 ht9 hr9 k0 k1 k2 k3 k4 k5 q0 q1 q2 q3 q4 q5 g0 g1 g2 g3 g4 g5
    simp [bodyPost, results, Tryd.results31, go_sem, e0, e1, e2, e3, e4, e5]
    first
      | exact ⟨HB10.out, HO10.out⟩
      | exact ⟨_, _, ⟨rfl, rfl⟩, HB10.out, HO10.out, rfl, rfl⟩
      | trace_state
end Go.Proofs.YtjbaljibaejdgaaDoor
