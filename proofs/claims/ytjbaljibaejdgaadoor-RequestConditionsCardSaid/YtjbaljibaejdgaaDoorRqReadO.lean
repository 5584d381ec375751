/- What is asked behind every !, read: one of the four short kinds. -/
import Derived.Test.YtjbaljibaejdgaaDoorRqReadC
namespace Go.Proofs.YtjbaljibaejdgaaDoor
open Go.RowKit Go.PlainAid Go.Shelf

theorem read_c {c : UInt8} {r : List UInt8} (h : oneK c = true) : readL (c :: r) = some ⟨c, [], [], [], r⟩ ∧ kindN (c :: r) = 1 := by
  constructor
  · unfold readL; simp only [h, if_true]
  · unfold kindN; simp [h]

set_option maxRecDepth 100000 in
set_option maxHeartbeats 4000000 in
theorem read_o (b : Nat) (r : List UInt8) (W : World) (hB : Box b (111 :: r) W) : Calls Tryd.prog 15 #[.func (.func 28) #[] #[.pointer (some ⟨b, 0, none⟩)]] W (ReadP b (111 :: r) W) := by
  have hbl := hB.lt
  have hce := enters_cut
  obtain ⟨hs, hk⟩ := read_c (c := 111) (r := r) rfl
  have hbR : W.heap.size ≠ b := by omega
  have HW0 := Lib.hid (show Below W.heap.size W (W.alloc (.cells (condCells false 0 [] [] [] []) 28)) from (Below.refl _ _).alloc (Nat.le_refl _) _)
  have hB1 := hB.below HW0.out
  have HR1 := Lib.hid (cd_new false 0 [] [] [] [] W)
  have HK := Lib.hid (cut_kind b (111 :: r) _ hB1)
  unfold CutP at HK
  rw [hk, show (111 :: r).take 1 = [(111 : UInt8)] from rfl, show (111 :: r).drop 1 = r from rfl] at HK
  have HO1 := Lib.hid (only_of (b := b) HW0.out)
  unfold ReadP
  rw [hs]
  clear hs hk hB hB1
  go_enter Tryd.func15, Tryd.ntmps15
  go_wp2_with fail
  refine HK.out.mono ?_
  rintro e w2 ⟨rfl, hx2, ho2⟩
  have HR2 := Lib.hid (HR1.out.only ho2 hbR)
  have HO2 := Lib.hid (HO1.out.trans ho2)
  have HB2 := Lib.hid hx2
  clear hx2 ho2 HR1 HO1
  have q0 := HR2.out.c0
  have q1 := HR2.out.c1
  have q2 := HR2.out.c2
  have q3 := HR2.out.c3
  have q4 := HR2.out.c4
  have q5 := HR2.out.c5
  have g0 := HR2.out.fz 0
  have g1 := HR2.out.fz 1
  have g2 := HR2.out.fz 2
  have g3 := HR2.out.fz 3
  have g4 := HR2.out.fz 4
  have g5 := HR2.out.fz 5
  go_wp2_with fail
  obtain ⟨w5, hw5⟩ : ∃ w5, w5 = (((((w2.setCell ⟨W.heap.size, 0, none⟩ (.bool false)).setCell ⟨W.heap.size, 1, none⟩ (.int .u8 111)).setCell ⟨W.heap.size, 2, none⟩ (.string (mk8 []))).setCell ⟨W.heap.size, 3, none⟩ (.string (mk8 []))).setCell ⟨W.heap.size, 4, none⟩ (.string (mk8 []))).setCell ⟨W.heap.size, 5, none⟩ (.string (mk8 [])) := ⟨_, rfl⟩
  have hd : Cd W.heap.size false 111 [] [] [] [] w5 := by rw [hw5]; exact putCd_is HR2.out
  have ho5 : Only W.heap.size w2 w5 := by rw [hw5]; exact putCd_only w2 W.heap.size false 111 [] [] [] []
  have HB5 := Lib.hid (HB2.out.far ho5 (Ne.symm hbR))
  have HO5 : Hid (Only b W w5) := ⟨ho5.os.trans HO2.out.os, ho5.tape.trans HO2.out.tape, ho5.output.trans HO2.out.output, Nat.le_trans HO2.out.size ho5.size, fun i hi hb => (ho5.block i (Nat.lt_of_lt_of_le hi HO2.out.size) (by omega)).trans (HO2.out.block i hi hb)⟩
  have e0 := hd.c0
  have e1 := hd.c1
  have e2 := hd.c2
  have e3 := hd.c3
  have e4 := hd.c4
  have e5 := hd.c5
  clear q0 q1 q2 q3 q4 q5 g0 g1 g2 g3 g4 g5 hd ho5
  show bodyPost _ _ _ _ _ ((((((w2.setCell ⟨W.heap.size, 0, none⟩ (.bool false)).setCell ⟨W.heap.size, 1, none⟩ (.int .u8 111)).setCell ⟨W.heap.size, 2, none⟩ (.string (mk8 []))).setCell ⟨W.heap.size, 3, none⟩ (.string (mk8 []))).setCell ⟨W.heap.size, 4, none⟩ (.string (mk8 []))).setCell ⟨W.heap.size, 5, none⟩ (.string (mk8 [])))
  rw [← hw5]
  clear hw5
  simp [bodyPost, results, Tryd.results15, go_sem, e0, e1, e2, e3, e4, e5]
  exact ⟨_, _, _, _, ⟨rfl, rfl, rfl, rfl⟩, _, HB5.out, HO5.out, rfl, rfl, rfl, rfl, rfl⟩
set_option maxRecDepth 100000 in
set_option maxHeartbeats 4000000 in
theorem read_e (b : Nat) (r : List UInt8) (W : World) (hB : Box b (101 :: r) W) : Calls Tryd.prog 15 #[.func (.func 28) #[] #[.pointer (some ⟨b, 0, none⟩)]] W (ReadP b (101 :: r) W) := by
  have hbl := hB.lt
  have hce := enters_cut
  obtain ⟨hs, hk⟩ := read_c (c := 101) (r := r) rfl
  have hbR : W.heap.size ≠ b := by omega
  have HW0 := Lib.hid (show Below W.heap.size W (W.alloc (.cells (condCells false 0 [] [] [] []) 28)) from (Below.refl _ _).alloc (Nat.le_refl _) _)
  have hB1 := hB.below HW0.out
  have HR1 := Lib.hid (cd_new false 0 [] [] [] [] W)
  have HK := Lib.hid (cut_kind b (101 :: r) _ hB1)
  unfold CutP at HK
  rw [hk, show (101 :: r).take 1 = [(101 : UInt8)] from rfl, show (101 :: r).drop 1 = r from rfl] at HK
  have HO1 := Lib.hid (only_of (b := b) HW0.out)
  unfold ReadP
  rw [hs]
  clear hs hk hB hB1
  go_enter Tryd.func15, Tryd.ntmps15
  go_wp2_with fail
  refine HK.out.mono ?_
  rintro e w2 ⟨rfl, hx2, ho2⟩
  have HR2 := Lib.hid (HR1.out.only ho2 hbR)
  have HO2 := Lib.hid (HO1.out.trans ho2)
  have HB2 := Lib.hid hx2
  clear hx2 ho2 HR1 HO1
  have q0 := HR2.out.c0
  have q1 := HR2.out.c1
  have q2 := HR2.out.c2
  have q3 := HR2.out.c3
  have q4 := HR2.out.c4
  have q5 := HR2.out.c5
  have g0 := HR2.out.fz 0
  have g1 := HR2.out.fz 1
  have g2 := HR2.out.fz 2
  have g3 := HR2.out.fz 3
  have g4 := HR2.out.fz 4
  have g5 := HR2.out.fz 5
  go_wp2_with fail
  obtain ⟨w5, hw5⟩ : ∃ w5, w5 = (((((w2.setCell ⟨W.heap.size, 0, none⟩ (.bool false)).setCell ⟨W.heap.size, 1, none⟩ (.int .u8 101)).setCell ⟨W.heap.size, 2, none⟩ (.string (mk8 []))).setCell ⟨W.heap.size, 3, none⟩ (.string (mk8 []))).setCell ⟨W.heap.size, 4, none⟩ (.string (mk8 []))).setCell ⟨W.heap.size, 5, none⟩ (.string (mk8 [])) := ⟨_, rfl⟩
  have hd : Cd W.heap.size false 101 [] [] [] [] w5 := by rw [hw5]; exact putCd_is HR2.out
  have ho5 : Only W.heap.size w2 w5 := by rw [hw5]; exact putCd_only w2 W.heap.size false 101 [] [] [] []
  have HB5 := Lib.hid (HB2.out.far ho5 (Ne.symm hbR))
  have HO5 : Hid (Only b W w5) := ⟨ho5.os.trans HO2.out.os, ho5.tape.trans HO2.out.tape, ho5.output.trans HO2.out.output, Nat.le_trans HO2.out.size ho5.size, fun i hi hb => (ho5.block i (Nat.lt_of_lt_of_le hi HO2.out.size) (by omega)).trans (HO2.out.block i hi hb)⟩
  have e0 := hd.c0
  have e1 := hd.c1
  have e2 := hd.c2
  have e3 := hd.c3
  have e4 := hd.c4
  have e5 := hd.c5
  clear q0 q1 q2 q3 q4 q5 g0 g1 g2 g3 g4 g5 hd ho5
  show bodyPost _ _ _ _ _ ((((((w2.setCell ⟨W.heap.size, 0, none⟩ (.bool false)).setCell ⟨W.heap.size, 1, none⟩ (.int .u8 101)).setCell ⟨W.heap.size, 2, none⟩ (.string (mk8 []))).setCell ⟨W.heap.size, 3, none⟩ (.string (mk8 []))).setCell ⟨W.heap.size, 4, none⟩ (.string (mk8 []))).setCell ⟨W.heap.size, 5, none⟩ (.string (mk8 [])))
  rw [← hw5]
  clear hw5
  simp [bodyPost, results, Tryd.results15, go_sem, e0, e1, e2, e3, e4, e5]
  exact ⟨_, _, _, _, ⟨rfl, rfl, rfl, rfl⟩, _, HB5.out, HO5.out, rfl, rfl, rfl, rfl, rfl⟩
set_option maxRecDepth 100000 in
set_option maxHeartbeats 4000000 in
theorem read_t (b : Nat) (r : List UInt8) (W : World) (hB : Box b (116 :: r) W) : Calls Tryd.prog 15 #[.func (.func 28) #[] #[.pointer (some ⟨b, 0, none⟩)]] W (ReadP b (116 :: r) W) := by
  have hbl := hB.lt
  have hce := enters_cut
  obtain ⟨hs, hk⟩ := read_c (c := 116) (r := r) rfl
  have hbR : W.heap.size ≠ b := by omega
  have HW0 := Lib.hid (show Below W.heap.size W (W.alloc (.cells (condCells false 0 [] [] [] []) 28)) from (Below.refl _ _).alloc (Nat.le_refl _) _)
  have hB1 := hB.below HW0.out
  have HR1 := Lib.hid (cd_new false 0 [] [] [] [] W)
  have HK := Lib.hid (cut_kind b (116 :: r) _ hB1)
  unfold CutP at HK
  rw [hk, show (116 :: r).take 1 = [(116 : UInt8)] from rfl, show (116 :: r).drop 1 = r from rfl] at HK
  have HO1 := Lib.hid (only_of (b := b) HW0.out)
  unfold ReadP
  rw [hs]
  clear hs hk hB hB1
  go_enter Tryd.func15, Tryd.ntmps15
  go_wp2_with fail
  refine HK.out.mono ?_
  rintro e w2 ⟨rfl, hx2, ho2⟩
  have HR2 := Lib.hid (HR1.out.only ho2 hbR)
  have HO2 := Lib.hid (HO1.out.trans ho2)
  have HB2 := Lib.hid hx2
  clear hx2 ho2 HR1 HO1
  have q0 := HR2.out.c0
  have q1 := HR2.out.c1
  have q2 := HR2.out.c2
  have q3 := HR2.out.c3
  have q4 := HR2.out.c4
  have q5 := HR2.out.c5
  have g0 := HR2.out.fz 0
  have g1 := HR2.out.fz 1
  have g2 := HR2.out.fz 2
  have g3 := HR2.out.fz 3
  have g4 := HR2.out.fz 4
  have g5 := HR2.out.fz 5
  go_wp2_with fail
  obtain ⟨w5, hw5⟩ : ∃ w5, w5 = (((((w2.setCell ⟨W.heap.size, 0, none⟩ (.bool false)).setCell ⟨W.heap.size, 1, none⟩ (.int .u8 116)).setCell ⟨W.heap.size, 2, none⟩ (.string (mk8 []))).setCell ⟨W.heap.size, 3, none⟩ (.string (mk8 []))).setCell ⟨W.heap.size, 4, none⟩ (.string (mk8 []))).setCell ⟨W.heap.size, 5, none⟩ (.string (mk8 [])) := ⟨_, rfl⟩
  have hd : Cd W.heap.size false 116 [] [] [] [] w5 := by rw [hw5]; exact putCd_is HR2.out
  have ho5 : Only W.heap.size w2 w5 := by rw [hw5]; exact putCd_only w2 W.heap.size false 116 [] [] [] []
  have HB5 := Lib.hid (HB2.out.far ho5 (Ne.symm hbR))
  have HO5 : Hid (Only b W w5) := ⟨ho5.os.trans HO2.out.os, ho5.tape.trans HO2.out.tape, ho5.output.trans HO2.out.output, Nat.le_trans HO2.out.size ho5.size, fun i hi hb => (ho5.block i (Nat.lt_of_lt_of_le hi HO2.out.size) (by omega)).trans (HO2.out.block i hi hb)⟩
  have e0 := hd.c0
  have e1 := hd.c1
  have e2 := hd.c2
  have e3 := hd.c3
  have e4 := hd.c4
  have e5 := hd.c5
  clear q0 q1 q2 q3 q4 q5 g0 g1 g2 g3 g4 g5 hd ho5
  show bodyPost _ _ _ _ _ ((((((w2.setCell ⟨W.heap.size, 0, none⟩ (.bool false)).setCell ⟨W.heap.size, 1, none⟩ (.int .u8 116)).setCell ⟨W.heap.size, 2, none⟩ (.string (mk8 []))).setCell ⟨W.heap.size, 3, none⟩ (.string (mk8 []))).setCell ⟨W.heap.size, 4, none⟩ (.string (mk8 []))).setCell ⟨W.heap.size, 5, none⟩ (.string (mk8 [])))
  rw [← hw5]
  clear hw5
  simp [bodyPost, results, Tryd.results15, go_sem, e0, e1, e2, e3, e4, e5]
  exact ⟨_, _, _, _, ⟨rfl, rfl, rfl, rfl⟩, _, HB5.out, HO5.out, rfl, rfl, rfl, rfl, rfl⟩
set_option maxRecDepth 100000 in
set_option maxHeartbeats 4000000 in
theorem read_n (b : Nat) (r : List UInt8) (W : World) (hB : Box b (110 :: r) W) : Calls Tryd.prog 15 #[.func (.func 28) #[] #[.pointer (some ⟨b, 0, none⟩)]] W (ReadP b (110 :: r) W) := by
  have hbl := hB.lt
  have hce := enters_cut
  obtain ⟨hs, hk⟩ := read_c (c := 110) (r := r) rfl
  have hbR : W.heap.size ≠ b := by omega
  have HW0 := Lib.hid (show Below W.heap.size W (W.alloc (.cells (condCells false 0 [] [] [] []) 28)) from (Below.refl _ _).alloc (Nat.le_refl _) _)
  have hB1 := hB.below HW0.out
  have HR1 := Lib.hid (cd_new false 0 [] [] [] [] W)
  have HK := Lib.hid (cut_kind b (110 :: r) _ hB1)
  unfold CutP at HK
  rw [hk, show (110 :: r).take 1 = [(110 : UInt8)] from rfl, show (110 :: r).drop 1 = r from rfl] at HK
  have HO1 := Lib.hid (only_of (b := b) HW0.out)
  unfold ReadP
  rw [hs]
  clear hs hk hB hB1
  go_enter Tryd.func15, Tryd.ntmps15
  go_wp2_with fail
  refine HK.out.mono ?_
  rintro e w2 ⟨rfl, hx2, ho2⟩
  have HR2 := Lib.hid (HR1.out.only ho2 hbR)
  have HO2 := Lib.hid (HO1.out.trans ho2)
  have HB2 := Lib.hid hx2
  clear hx2 ho2 HR1 HO1
  have q0 := HR2.out.c0
  have q1 := HR2.out.c1
  have q2 := HR2.out.c2
  have q3 := HR2.out.c3
  have q4 := HR2.out.c4
  have q5 := HR2.out.c5
  have g0 := HR2.out.fz 0
  have g1 := HR2.out.fz 1
  have g2 := HR2.out.fz 2
  have g3 := HR2.out.fz 3
  have g4 := HR2.out.fz 4
  have g5 := HR2.out.fz 5
  go_wp2_with fail
  obtain ⟨w5, hw5⟩ : ∃ w5, w5 = (((((w2.setCell ⟨W.heap.size, 0, none⟩ (.bool false)).setCell ⟨W.heap.size, 1, none⟩ (.int .u8 110)).setCell ⟨W.heap.size, 2, none⟩ (.string (mk8 []))).setCell ⟨W.heap.size, 3, none⟩ (.string (mk8 []))).setCell ⟨W.heap.size, 4, none⟩ (.string (mk8 []))).setCell ⟨W.heap.size, 5, none⟩ (.string (mk8 [])) := ⟨_, rfl⟩
  have hd : Cd W.heap.size false 110 [] [] [] [] w5 := by rw [hw5]; exact putCd_is HR2.out
  have ho5 : Only W.heap.size w2 w5 := by rw [hw5]; exact putCd_only w2 W.heap.size false 110 [] [] [] []
  have HB5 := Lib.hid (HB2.out.far ho5 (Ne.symm hbR))
  have HO5 : Hid (Only b W w5) := ⟨ho5.os.trans HO2.out.os, ho5.tape.trans HO2.out.tape, ho5.output.trans HO2.out.output, Nat.le_trans HO2.out.size ho5.size, fun i hi hb => (ho5.block i (Nat.lt_of_lt_of_le hi HO2.out.size) (by omega)).trans (HO2.out.block i hi hb)⟩
  have e0 := hd.c0
  have e1 := hd.c1
  have e2 := hd.c2
  have e3 := hd.c3
  have e4 := hd.c4
  have e5 := hd.c5
  clear q0 q1 q2 q3 q4 q5 g0 g1 g2 g3 g4 g5 hd ho5
  show bodyPost _ _ _ _ _ ((((((w2.setCell ⟨W.heap.size, 0, none⟩ (.bool false)).setCell ⟨W.heap.size, 1, none⟩ (.int .u8 110)).setCell ⟨W.heap.size, 2, none⟩ (.string (mk8 []))).setCell ⟨W.heap.size, 3, none⟩ (.string (mk8 []))).setCell ⟨W.heap.size, 4, none⟩ (.string (mk8 []))).setCell ⟨W.heap.size, 5, none⟩ (.string (mk8 [])))
  rw [← hw5]
  clear hw5
  simp [bodyPost, results, Tryd.results15, go_sem, e0, e1, e2, e3, e4, e5]
  exact ⟨_, _, _, _, ⟨rfl, rfl, rfl, rfl⟩, _, HB5.out, HO5.out, rfl, rfl, rfl, rfl, rfl⟩
theorem read_one (b : Nat) (c : UInt8) (r : List UInt8) (h : oneK c = true) (W : World) (hB : Box b (c :: r) W) : Calls Tryd.prog 15 #[.func (.func 28) #[] #[.pointer (some ⟨b, 0, none⟩)]] W (ReadP b (c :: r) W) := by
  unfold oneK at h
  simp only [List.contains_cons, List.contains_nil, Bool.or_eq_true, beq_iff_eq, Bool.or_false] at h
  rcases h with rfl | rfl | rfl | rfl
  · exact read_o b r W hB
  · exact read_e b r W hB
  · exact read_t b r W hB
  · exact read_n b r W hB
end Go.Proofs.YtjbaljibaejdgaaDoor
