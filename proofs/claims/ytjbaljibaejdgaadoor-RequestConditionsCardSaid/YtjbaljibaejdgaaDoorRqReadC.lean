/- What is asked behind every !, read. -/
import Derived.Test.YtjbaljibaejdgaaDoorRqCd
import Derived.BigRegion
import Derived.Deep.QuietTactic
import Derived.BigQuiet
namespace Go.Proofs.YtjbaljibaejdgaaDoor
open Go.RowKit Go.PlainAid Go.Shelf

/-- What reading a condition behind every ! gives. -/
def ReadP (b : Nat) (m : List UInt8) (W : World) (e : Ending) (W' : World) : Prop :=
  ∃ (k : Int) (n a bb rest : List UInt8), e = .returned (.tuple #[CondV false k n a bb [], .bool (readL m).isSome]) ∧ Box b rest W' ∧ Only b W W' ∧ ∀ x, readL m = some x → k = x.kind.toNat ∧ n = x.name ∧ a = x.left ∧ bb = x.right ∧ rest = x.rest
theorem read_x {m : List UInt8} (h : kindN m = 0) : (readL m).isSome = !(m.take (wordN m)).isEmpty ∧ ∀ x, readL m = some x → x = ⟨120, m.take (wordN m), [], [], m.drop (wordN m)⟩ := by
  cases m with
  | nil => exact ⟨rfl, fun x hx => by cases hx⟩
  | cons c r =>
    have hk : (oneK c || namK c || quoB c) = false := by
      cases hq : (oneK c || namK c || quoB c) with
      | false => rfl
      | true => unfold kindN at h; simp only [hq, if_true] at h; cases h
    simp only [Bool.or_eq_false_iff] at hk
    have hr : readL (c :: r) = if wordN (c :: r) = 0 then none else some ⟨120, (c :: r).take (wordN (c :: r)), [], [], (c :: r).drop (wordN (c :: r))⟩ := by
      conv => lhs; unfold readL
      simp only [hk.1.1, hk.1.2, hk.2]
      rfl
    rw [hr]
    by_cases hw : wordN (c :: r) = 0
    · rw [if_pos hw, hw]
      exact ⟨rfl, fun x hx => by cases hx⟩
    · rw [if_neg hw]
      refine ⟨?_, fun x hx => (Option.some.inj hx).symm⟩
      obtain ⟨j, hj⟩ : ∃ j, wordN (c :: r) = j + 1 := ⟨wordN (c :: r) - 1, by omega⟩
      rw [hj]
      rfl

set_option maxRecDepth 100000 in
set_option maxHeartbeats 4000000 in
theorem read_none (b : Nat) (m : List UInt8) (hm : m.length ≤ 2000) (W : World) (hB : Box b m W) (h0 : kindN m = 0) : Calls Tryd.prog 15 #[.func (.func 28) #[] #[.pointer (some ⟨b, 0, none⟩)]] W (ReadP b m W) := by
  have hbl := hB.lt
  have hce := enters_cut
  obtain ⟨hs, hx⟩ := read_x h0
  have hbR : W.heap.size ≠ b := by omega
  have HW0 := Lib.hid (show Below W.heap.size W (W.alloc (.cells (condCells false 0 [] [] [] []) 28)) from (Below.refl _ _).alloc (Nat.le_refl _) _)
  have hB1 := hB.below HW0.out
  have HR1 := Lib.hid (cd_new false 0 [] [] [] [] W)
  have HK := Lib.hid (cut_kind b m _ hB1)
  unfold CutP at HK
  rw [h0, List.take_zero, List.drop_zero] at HK
  have HO1 := Lib.hid (only_of (b := b) HW0.out)
  have HWd := Lib.hid (fun w (h : Box b m w) => cut_word b m (by omega) w h)
  have hRP : Hid (ReadP b m W = fun e W' => ∃ (k : Int) (n a bb rest : List UInt8), e = .returned (.tuple #[CondV false k n a bb [], .bool (!(m.take (wordN m)).isEmpty)]) ∧ Box b rest W' ∧ Only b W W' ∧ ∀ x, readL m = some x → k = x.kind.toNat ∧ n = x.name ∧ a = x.left ∧ bb = x.right ∧ rest = x.rest) := by
    show _ = _
    funext e W'
    unfold ReadP
    rw [hs]
  rw [hRP.out]
  have HX := Lib.hid hx
  clear hs hx h0 hB hB1 hRP
  unfold CutP at HWd
  obtain ⟨nm, hnm⟩ : ∃ nm, m.take (wordN m) = nm := ⟨_, rfl⟩
  obtain ⟨rs, hrs⟩ : ∃ rs, m.drop (wordN m) = rs := ⟨_, rfl⟩
  rw [hnm, hrs] at HX
  simp only [hnm, hrs] at HWd
  rw [hnm]
  clear hnm hrs
  go_enter Tryd.func15, Tryd.ntmps15
  go_wp2_with fail
  refine HK.out.mono ?_
  rintro e w2 ⟨rfl, hx2, ho2⟩
  have HR2 := Lib.hid (HR1.out.only ho2 hbR)
  have HO2 := Lib.hid (HO1.out.trans ho2)
  have HB2 := Lib.hid hx2
  clear hx2 ho2 HR1 HO1
  go_wp2_with fail
  refine (HWd.out w2 HB2.out).mono ?_
  rintro e w3 ⟨rfl, hx3, ho3⟩
  have HR3 := Lib.hid (HR2.out.only ho3 hbR)
  have HO3 := Lib.hid (HO2.out.trans ho3)
  have HB3 := Lib.hid hx3
  have hlt3 := HR3.out.lt
  clear hx3 ho3 HR2 HO2 HB2
  go_upto_region 6 with fail
  generalize hw4 : w3.alloc _ = w4
  have HT4 : Hid (Cd w3.heap.size false 120 nm [] [] [] w4) := by rw [← hw4]; exact cd_new false 120 nm [] [] [] w3
  have hb4 : Below w3.heap.size w3 w4 := by rw [← hw4]; exact (Below.refl _ _).alloc (Nat.le_refl _) _
  have HR4 := Lib.hid (HR3.out.below hb4)
  have HB4 := Lib.hid (HB3.out.below hb4)
  have HO4 := Lib.hid (HO3.out.trans (only_of hb4))
  obtain ⟨p, hp⟩ : ∃ p, w3.heap.size = p := ⟨_, rfl⟩
  rw [hp] at HT4 hlt3
  have hpb : b < p := by rw [← hp]; exact HB3.out.lt
  rw [hp]
  clear hw4 hb4 hp HR3 HB3 HO3
  have k0 := HT4.out.c0
  have k1 := HT4.out.c1
  have k2 := HT4.out.c2
  have k3 := HT4.out.c3
  have k4 := HT4.out.c4
  have k5 := HT4.out.c5
  have q0 := HR4.out.c0
  have q1 := HR4.out.c1
  have q2 := HR4.out.c2
  have q3 := HR4.out.c3
  have q4 := HR4.out.c4
  have q5 := HR4.out.c5
  have g0 := HR4.out.fz 0
  have g1 := HR4.out.fz 1
  have g2 := HR4.out.fz 2
  have g3 := HR4.out.fz 3
  have g4 := HR4.out.fz 4
  have g5 := HR4.out.fz 5
  have hne : p ≠ W.heap.size := by omega
  go_region
  obtain ⟨w5, hw5⟩ : ∃ w5, w5 = ((((((w4.setCell ⟨W.heap.size, 0, none⟩ (.bool false)).setCell ⟨W.heap.size, 1, none⟩ (.int .u8 120)).setCell ⟨W.heap.size, 2, none⟩ (.string (mk8 nm))).setCell ⟨W.heap.size, 3, none⟩ (.string (mk8 []))).setCell ⟨W.heap.size, 4, none⟩ (.string (mk8 []))).setCell ⟨W.heap.size, 5, none⟩ (.string (mk8 []))).drew := ⟨_, rfl⟩
  have d := putCd_is (nt' := false) (k' := 120) (n' := nm) (a' := []) (bb' := []) (r' := []) HR4.out
  have hd : Cd W.heap.size false 120 nm [] [] [] w5 := by rw [hw5]; exact d.drew
  have ho5 : Only W.heap.size w4 w5 := by rw [hw5]; exact (putCd_only w4 W.heap.size false 120 nm [] [] []).drew
  have HB5 := Lib.hid (HB4.out.far ho5 (Ne.symm hbR))
  have HO5 : Hid (Only b W w5) := ⟨ho5.os.trans HO4.out.os, ho5.tape.trans HO4.out.tape, ho5.output.trans HO4.out.output, Nat.le_trans HO4.out.size ho5.size, fun i hi hb => (ho5.block i (Nat.lt_of_lt_of_le hi HO4.out.size) (by omega)).trans (HO4.out.block i hi hb)⟩
  have e0 := hd.c0
  have e1 := hd.c1
  have e2 := hd.c2
  have e3 := hd.c3
  have e4 := hd.c4
  have e5 := hd.c5
  clear k0 k1 k2 k3 k4 k5 q0 q1 q2 q3 q4 q5 g0 g1 g2 g3 g4 g5 d ho5 HR4 HT4 HO4 HB4
  rw [← hw5]
  clear hw5
  go_wp2_with fail
  simp [bodyPost, results, Tryd.results15, go_sem, e0, e1, e2, e3, e4, e5]
  exact ⟨_, _, _, _, ⟨rfl, rfl, rfl, rfl⟩, rs, HB5.out, HO5.out, fun x hx => by rw [HX.out x hx]; exact ⟨rfl, rfl, rfl, rfl, rfl⟩⟩
end Go.Proofs.YtjbaljibaejdgaaDoor
