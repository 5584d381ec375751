/- What is asked behind every !, read: one of the two kinds with a name. -/
import Derived.Test.YtjbaljibaejdgaaDoorRqReadO
namespace Go.Proofs.YtjbaljibaejdgaaDoor
open Go.RowKit Go.PlainAid Go.Shelf

theorem read_nam {c : UInt8} {r : List UInt8} (h1 : oneK c = false) (h : namK c = true) : kindN (c :: r) = 1 ∧ (readL (c :: r)).isSome = !(r.take (wordN r)).isEmpty ∧ ∀ x, readL (c :: r) = some x → x = ⟨c, r.take (wordN r), [], [], r.drop (wordN r)⟩ := by
  have hr : readL (c :: r) = if wordN r = 0 then none else some ⟨c, r.take (wordN r), [], [], r.drop (wordN r)⟩ := by
    conv => lhs; unfold readL
    simp only [h1, h]
    rfl
  refine ⟨by unfold kindN; simp [h], ?_⟩
  rw [hr]
  by_cases hw : wordN r = 0
  · rw [if_pos hw, hw]
    exact ⟨rfl, fun x hx => by cases hx⟩
  · rw [if_neg hw]
    refine ⟨?_, fun x hx => (Option.some.inj hx).symm⟩
    have hl : wordN r ≤ r.length := wordN_le r
    cases hr : r with
    | nil => rw [hr] at hl hw; simp at hl; omega
    | cons y s =>
      obtain ⟨j, hj⟩ : ∃ j, wordN (y :: s) = j + 1 := ⟨wordN (y :: s) - 1, by rw [hr] at hw; omega⟩
      rw [hj]
      rfl
/-- The condition is begun: its kind and its name stand. -/
structure CMade (W : World) (b p : Nat) (k : Int) (n m : List UInt8) (w : World) : Prop where
  cd : Cd p false k n [] [] [] w
  box : Box b m w
  res : Cd W.heap.size false 0 [] [] [] [] w
  only : Only b W w
  new : W.heap.size < p
theorem cmade_a {W w2 w3 : World} {b : Nat} {k : Int} {n m : List UInt8} (hr : Cd W.heap.size false 0 [] [] [] [] w2) (h2 : Only b W w2) (hbR : W.heap.size ≠ b) (hx3 : Box b m w3) (ho : Only b w2.drew w3) :
    CMade W b w3.heap.size k n m (w3.alloc (.cells (condCells false k n [] [] []) 28)) := by
  have h1 := ho.undrew
  have hb3 : Below w3.heap.size w3 (w3.alloc (.cells (condCells false k n [] [] []) 28)) := (Below.refl _ _).alloc (Nat.le_refl _) _
  have hr3 := hr.only h1 hbR
  exact ⟨cd_new false k n [] [] [] w3, hx3.below hb3, hr3.below hb3, (h2.trans h1).trans (only_of hb3), hr3.lt⟩
theorem cmade_b {W w2 w3 : World} {b : Nat} {d : List UInt8} {k : Int} {n m : List UInt8} (hx : Box b d w2) (hr : Cd W.heap.size false 0 [] [] [] [] w2) (h2 : Only b W w2) (hbR : W.heap.size ≠ b) (hx3 : Box b m w3)
    (ho : Only b (w2.alloc (.cells (condCells false 0 [] [] [] []) 28)).drew w3) :
    CMade W b w2.heap.size k n m (putCd w3 w2.heap.size false k n [] [] []) := by
  have hlt := hx.lt
  have hpb : w2.heap.size ≠ b := by omega
  have h1 := ho.undrew
  have hb2 : Below w2.heap.size w2 (w2.alloc (.cells (condCells false 0 [] [] [] []) 28)) := (Below.refl _ _).alloc (Nat.le_refl _) _
  have hq := (cd_new false 0 [] [] [] [] w2).only h1 hpb
  have hr3 := (hr.below hb2).only h1 hbR
  have h3 := (h2.trans (only_of hb2)).trans h1
  have hs := putCd_only w3 w2.heap.size false k n [] [] []
  have hsz := hr.lt
  exact ⟨putCd_is hq, hx3.far hs (Ne.symm hpb), hr3.only hs (by omega), ⟨hs.os.trans h3.os, hs.tape.trans h3.tape, hs.output.trans h3.output, Nat.le_trans h3.size hs.size, fun i hi hb => (hs.block i (Nat.lt_of_lt_of_le hi h3.size) (by omega)).trans (h3.block i hi hb)⟩, hsz⟩

set_option maxRecDepth 100000 in
set_option maxHeartbeats 4000000 in
theorem read_d (b : Nat) (r : List UInt8) (hm : r.length ≤ 2000) (W : World) (hB : Box b (100 :: r) W) : Calls Tryd.prog 15 #[.func (.func 28) #[] #[.pointer (some ⟨b, 0, none⟩)]] W (ReadP b (100 :: r) W) := by
  have hbl := hB.lt
  have hce := enters_cut
  obtain ⟨hk, hs, hx⟩ := read_nam (c := 100) (r := r) rfl rfl
  have hbR : W.heap.size ≠ b := by omega
  have HW0 := Lib.hid (show Below W.heap.size W (W.alloc (.cells (condCells false 0 [] [] [] []) 28)) from (Below.refl _ _).alloc (Nat.le_refl _) _)
  have hB1 := hB.below HW0.out
  have HR1 := Lib.hid (cd_new false 0 [] [] [] [] W)
  have HK := Lib.hid (cut_kind b (100 :: r) _ hB1)
  unfold CutP at HK
  rw [hk, show (100 :: r).take 1 = [(100 : UInt8)] from rfl, show (100 :: r).drop 1 = r from rfl] at HK
  have HO1 := Lib.hid (only_of (b := b) HW0.out)
  have HWd := Lib.hid (fun w (h : Box b r w) => cut_word b r (by omega) w h)
  have hRP : Hid (ReadP b (100 :: r) W = fun e W' => ∃ (k : Int) (n a bb rest : List UInt8), e = .returned (.tuple #[CondV false k n a bb [], .bool (!(r.take (wordN r)).isEmpty)]) ∧ Box b rest W' ∧ Only b W W' ∧ ∀ x, readL (100 :: r) = some x → k = x.kind.toNat ∧ n = x.name ∧ a = x.left ∧ bb = x.right ∧ rest = x.rest) := by
    show _ = _
    funext e W'
    unfold ReadP
    rw [hs]
  rw [hRP.out]
  have HX := Lib.hid hx
  clear hs hx hk hB hB1 hRP
  unfold CutP at HWd
  obtain ⟨nm, hnm⟩ : ∃ nm, r.take (wordN r) = nm := ⟨_, rfl⟩
  obtain ⟨rs, hrs⟩ : ∃ rs, r.drop (wordN r) = rs := ⟨_, rfl⟩
  rw [hnm, hrs] at HX
  simp only [hnm, hrs] at HWd
  rw [hnm]
  clear hnm hrs
  go_enter Tryd.func15, Tryd.ntmps15
  go_wp2_with fail
  refine HK.out.mono ?_
  rintro e w2 ⟨rfl, hx2, ho2⟩
  have HR2 := Lib.hid (HR1.out.only ho2 hbR)
  have HO2 := Lib.hid (HO1.out.trans ho2)
  have HB2 := Lib.hid hx2
  clear hx2 ho2 HR1 HO1
  go_upto_region 14 with fail
  go_cut [6] (fun s6 wx => ∃ p : Nat, s6 = .pointer (some ⟨p, 0, none⟩) ∧ Hid (CMade W b p 100 nm rs wx))
  case first =>
    go_region_with (first | (go_at_call 28; refine (HWd.out _ (by exact HB2.out)).mono ?_; rintro e w3 ⟨rfl, hx3, ho3⟩) | (go_at_call 28; refine (HWd.out _ (by exact HB2.out.below ((Below.refl _ _).alloc (Nat.le_refl _) _).drew)).mono ?_; rintro e w3 ⟨rfl, hx3, ho3⟩; have hq3 := Cd.only (w := (w2.alloc (.cells (condCells false 0 [] [] [] []) 28)).drew) (cd_new false 0 [] [] [] [] w2) (by exact ho3) (by have := HB2.out.lt; omega); have k0 := hq3.c0; have k1 := hq3.c1; have k2 := hq3.c2; have k3 := hq3.c3; have k4 := hq3.c4; have k5 := hq3.c5; have f0 := hq3.fz 0; have f1 := hq3.fz 1; have f2 := hq3.fz 2; have f3 := hq3.fz 3; have f4 := hq3.fz 4; have f5 := hq3.fz 5))
    all_goals
      go_wp2_with fail
      go_meet
      case rel =>
        first
          | (have hq4 := hq3; exact ⟨_, rfl, Lib.hid (cmade_b HB2.out HR2.out HO2.out hbR hx3 ho3)⟩)
          | exact ⟨_, rfl, Lib.hid (cmade_a HR2.out HO2.out hbR hx3 ho3)⟩
  case rest =>
    obtain ⟨p, rfl, hp⟩ := hcut
    have HD := Lib.hid hp.out.cd
    have HR4 := Lib.hid hp.out.res
    have HB4 := Lib.hid hp.out.box
    have HO4 := Lib.hid hp.out.only
    have hnew := hp.out.new
    clear hp HR2 HO2 HB2
    have k0 := HD.out.c0
    have k1 := HD.out.c1
    have k2 := HD.out.c2
    have k3 := HD.out.c3
    have k4 := HD.out.c4
    have k5 := HD.out.c5
    have q0 := HR4.out.c0
    have q1 := HR4.out.c1
    have q2 := HR4.out.c2
    have q3 := HR4.out.c3
    have q4 := HR4.out.c4
    have q5 := HR4.out.c5
    have g0 := HR4.out.fz 0
    have g1 := HR4.out.fz 1
    have g2 := HR4.out.fz 2
    have g3 := HR4.out.fz 3
    have g4 := HR4.out.fz 4
    have g5 := HR4.out.fz 5
    have hne : p ≠ W.heap.size := by omega
    go_upto_region 15 with fail
    go_region
    obtain ⟨w5, hw5⟩ : ∃ w5, w5 = ((((((wc.setCell ⟨W.heap.size, 0, none⟩ (.bool false)).setCell ⟨W.heap.size, 1, none⟩ (.int .u8 100)).setCell ⟨W.heap.size, 2, none⟩ (.string (mk8 nm))).setCell ⟨W.heap.size, 3, none⟩ (.string (mk8 []))).setCell ⟨W.heap.size, 4, none⟩ (.string (mk8 []))).setCell ⟨W.heap.size, 5, none⟩ (.string (mk8 []))).drew := ⟨_, rfl⟩
    have d := putCd_is (nt' := false) (k' := 100) (n' := nm) (a' := []) (bb' := []) (r' := []) HR4.out
    have hd : Cd W.heap.size false 100 nm [] [] [] w5 := by rw [hw5]; exact d.drew
    have ho5 : Only W.heap.size wc w5 := by rw [hw5]; exact (putCd_only wc W.heap.size false 100 nm [] [] []).drew
    have HB5 := Lib.hid (HB4.out.far ho5 (Ne.symm hbR))
    have HO5 : Hid (Only b W w5) := ⟨ho5.os.trans HO4.out.os, ho5.tape.trans HO4.out.tape, ho5.output.trans HO4.out.output, Nat.le_trans HO4.out.size ho5.size, fun i hi hb => (ho5.block i (Nat.lt_of_lt_of_le hi HO4.out.size) (by omega)).trans (HO4.out.block i hi hb)⟩
    have e0 := hd.c0
    have e1 := hd.c1
    have e2 := hd.c2
    have e3 := hd.c3
    have e4 := hd.c4
    have e5 := hd.c5
    clear k0 k1 k2 k3 k4 k5 q0 q1 q2 q3 q4 q5 g0 g1 g2 g3 g4 g5 d ho5 HR4 HD HO4 HB4
    rw [← hw5]
    clear hw5
    go_wp2_with fail
    simp [bodyPost, results, Tryd.results15, go_sem, e0, e1, e2, e3, e4, e5]
    exact ⟨_, _, _, _, ⟨rfl, rfl, rfl, rfl⟩, rs, HB5.out, HO5.out, fun x hx => by rw [HX.out x hx]; exact ⟨rfl, rfl, rfl, rfl, rfl⟩⟩
set_option maxRecDepth 100000 in
set_option maxHeartbeats 4000000 in
theorem read_r (b : Nat) (r : List UInt8) (hm : r.length ≤ 2000) (W : World) (hB : Box b (114 :: r) W) : Calls Tryd.prog 15 #[.func (.func 28) #[] #[.pointer (some ⟨b, 0, none⟩)]] W (ReadP b (114 :: r) W) := by
  have hbl := hB.lt
  have hce := enters_cut
  obtain ⟨hk, hs, hx⟩ := read_nam (c := 114) (r := r) rfl rfl
  have hbR : W.heap.size ≠ b := by omega
  have HW0 := Lib.hid (show Below W.heap.size W (W.alloc (.cells (condCells false 0 [] [] [] []) 28)) from (Below.refl _ _).alloc (Nat.le_refl _) _)
  have hB1 := hB.below HW0.out
  have HR1 := Lib.hid (cd_new false 0 [] [] [] [] W)
  have HK := Lib.hid (cut_kind b (114 :: r) _ hB1)
  unfold CutP at HK
  rw [hk, show (114 :: r).take 1 = [(114 : UInt8)] from rfl, show (114 :: r).drop 1 = r from rfl] at HK
  have HO1 := Lib.hid (only_of (b := b) HW0.out)
  have HWd := Lib.hid (fun w (h : Box b r w) => cut_word b r (by omega) w h)
  have hRP : Hid (ReadP b (114 :: r) W = fun e W' => ∃ (k : Int) (n a bb rest : List UInt8), e = .returned (.tuple #[CondV false k n a bb [], .bool (!(r.take (wordN r)).isEmpty)]) ∧ Box b rest W' ∧ Only b W W' ∧ ∀ x, readL (114 :: r) = some x → k = x.kind.toNat ∧ n = x.name ∧ a = x.left ∧ bb = x.right ∧ rest = x.rest) := by
    show _ = _
    funext e W'
    unfold ReadP
    rw [hs]
  rw [hRP.out]
  have HX := Lib.hid hx
  clear hs hx hk hB hB1 hRP
  unfold CutP at HWd
  obtain ⟨nm, hnm⟩ : ∃ nm, r.take (wordN r) = nm := ⟨_, rfl⟩
  obtain ⟨rs, hrs⟩ : ∃ rs, r.drop (wordN r) = rs := ⟨_, rfl⟩
  rw [hnm, hrs] at HX
  simp only [hnm, hrs] at HWd
  rw [hnm]
  clear hnm hrs
  go_enter Tryd.func15, Tryd.ntmps15
  go_wp2_with fail
  refine HK.out.mono ?_
  rintro e w2 ⟨rfl, hx2, ho2⟩
  have HR2 := Lib.hid (HR1.out.only ho2 hbR)
  have HO2 := Lib.hid (HO1.out.trans ho2)
  have HB2 := Lib.hid hx2
  clear hx2 ho2 HR1 HO1
  go_upto_region 14 with fail
  go_cut [6] (fun s6 wx => ∃ p : Nat, s6 = .pointer (some ⟨p, 0, none⟩) ∧ Hid (CMade W b p 114 nm rs wx))
  case first =>
    go_region_with (first | (go_at_call 28; refine (HWd.out _ (by exact HB2.out)).mono ?_; rintro e w3 ⟨rfl, hx3, ho3⟩) | (go_at_call 28; refine (HWd.out _ (by exact HB2.out.below ((Below.refl _ _).alloc (Nat.le_refl _) _).drew)).mono ?_; rintro e w3 ⟨rfl, hx3, ho3⟩; have hq3 := Cd.only (w := (w2.alloc (.cells (condCells false 0 [] [] [] []) 28)).drew) (cd_new false 0 [] [] [] [] w2) (by exact ho3) (by have := HB2.out.lt; omega); have k0 := hq3.c0; have k1 := hq3.c1; have k2 := hq3.c2; have k3 := hq3.c3; have k4 := hq3.c4; have k5 := hq3.c5; have f0 := hq3.fz 0; have f1 := hq3.fz 1; have f2 := hq3.fz 2; have f3 := hq3.fz 3; have f4 := hq3.fz 4; have f5 := hq3.fz 5))
    all_goals
      go_wp2_with fail
      go_meet
      case rel =>
        first
          | (have hq4 := hq3; exact ⟨_, rfl, Lib.hid (cmade_b HB2.out HR2.out HO2.out hbR hx3 ho3)⟩)
          | exact ⟨_, rfl, Lib.hid (cmade_a HR2.out HO2.out hbR hx3 ho3)⟩
  case rest =>
    obtain ⟨p, rfl, hp⟩ := hcut
    have HD := Lib.hid hp.out.cd
    have HR4 := Lib.hid hp.out.res
    have HB4 := Lib.hid hp.out.box
    have HO4 := Lib.hid hp.out.only
    have hnew := hp.out.new
    clear hp HR2 HO2 HB2
    have k0 := HD.out.c0
    have k1 := HD.out.c1
    have k2 := HD.out.c2
    have k3 := HD.out.c3
    have k4 := HD.out.c4
    have k5 := HD.out.c5
    have q0 := HR4.out.c0
    have q1 := HR4.out.c1
    have q2 := HR4.out.c2
    have q3 := HR4.out.c3
    have q4 := HR4.out.c4
    have q5 := HR4.out.c5
    have g0 := HR4.out.fz 0
    have g1 := HR4.out.fz 1
    have g2 := HR4.out.fz 2
    have g3 := HR4.out.fz 3
    have g4 := HR4.out.fz 4
    have g5 := HR4.out.fz 5
    have hne : p ≠ W.heap.size := by omega
    go_upto_region 15 with fail
    go_region
    obtain ⟨w5, hw5⟩ : ∃ w5, w5 = ((((((wc.setCell ⟨W.heap.size, 0, none⟩ (.bool false)).setCell ⟨W.heap.size, 1, none⟩ (.int .u8 114)).setCell ⟨W.heap.size, 2, none⟩ (.string (mk8 nm))).setCell ⟨W.heap.size, 3, none⟩ (.string (mk8 []))).setCell ⟨W.heap.size, 4, none⟩ (.string (mk8 []))).setCell ⟨W.heap.size, 5, none⟩ (.string (mk8 []))).drew := ⟨_, rfl⟩
    have d := putCd_is (nt' := false) (k' := 114) (n' := nm) (a' := []) (bb' := []) (r' := []) HR4.out
    have hd : Cd W.heap.size false 114 nm [] [] [] w5 := by rw [hw5]; exact d.drew
    have ho5 : Only W.heap.size wc w5 := by rw [hw5]; exact (putCd_only wc W.heap.size false 114 nm [] [] []).drew
    have HB5 := Lib.hid (HB4.out.far ho5 (Ne.symm hbR))
    have HO5 : Hid (Only b W w5) := ⟨ho5.os.trans HO4.out.os, ho5.tape.trans HO4.out.tape, ho5.output.trans HO4.out.output, Nat.le_trans HO4.out.size ho5.size, fun i hi hb => (ho5.block i (Nat.lt_of_lt_of_le hi HO4.out.size) (by omega)).trans (HO4.out.block i hi hb)⟩
    have e0 := hd.c0
    have e1 := hd.c1
    have e2 := hd.c2
    have e3 := hd.c3
    have e4 := hd.c4
    have e5 := hd.c5
    clear k0 k1 k2 k3 k4 k5 q0 q1 q2 q3 q4 q5 g0 g1 g2 g3 g4 g5 d ho5 HR4 HD HO4 HB4
    rw [← hw5]
    clear hw5
    go_wp2_with fail
    simp [bodyPost, results, Tryd.results15, go_sem, e0, e1, e2, e3, e4, e5]
    exact ⟨_, _, _, _, ⟨rfl, rfl, rfl, rfl⟩, rs, HB5.out, HO5.out, fun x hx => by rw [HX.out x hx]; exact ⟨rfl, rfl, rfl, rfl, rfl⟩⟩
theorem read_name (b : Nat) (c : UInt8) (r : List UInt8) (hm : r.length ≤ 2000) (h : namK c = true) (W : World) (hB : Box b (c :: r) W) : Calls Tryd.prog 15 #[.func (.func 28) #[] #[.pointer (some ⟨b, 0, none⟩)]] W (ReadP b (c :: r) W) := by
  unfold namK at h
  simp only [List.contains_cons, List.contains_nil, Bool.or_eq_true, beq_iff_eq, Bool.or_false] at h
  rcases h with rfl | rfl
  · exact read_d b r hm W hB
  · exact read_r b r hm W hB
end Go.Proofs.YtjbaljibaejdgaaDoor
