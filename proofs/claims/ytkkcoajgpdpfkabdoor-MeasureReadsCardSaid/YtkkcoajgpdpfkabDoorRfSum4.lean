/- The reference's sum, where the form alone is asked, outside of brackets: it ends ahead of an operator without an operand. -/
import Derived.Test.YtkkcoajgpdpfkabDoorRfSum3
namespace Go.Proofs.YtkkcoajgpdpfkabDoor
open Go.RowKit Go.PlainAid

/-- A round of it. -/
inductive SumF (E : Ms.Env) (br : Nat → Ms.Res (Int × Nat)) (i : Bool) (r : Ms.Res (Int × Nat) × Nat) (w0 : World) (at1 n1 e1 : Value) (wr : World) : Prop
  | go (f : Nat) (x n : Int) (t : Nat) (ha : at1 = .int .i64 t) (hn : n1 = .int .i64 n) (he : e1 = .int .i64 0) (ht : t ≤ E.s.size) (hf : E.s.size - t ≤ f)
      (hr : r = Ms.exprFrom E br i (f + 1) x t) (hb : Below w0.heap.size w0 wr)

set_option maxRecDepth 100000 in
set_option maxHeartbeats 1000000 in
theorem sum_form_start {E : Ms.Env} {c : Int} {br : Nat → Ms.Res (Int × Nat)} {i : Bool} {p q : Nat} {v : Int} {w : World} (R : Round E c 0 br i) (_hs : E.s.size ≤ 4611686018427387904) (hp : p ≤ E.s.size) (hr : Ms.operand E br i p = .ok (v, q))
    (hbb : E.bl = true) :
    Sm E c 0 p (fun e w' => ∃ n : Int, e = ret3 n (Ms.sum E br i p 0).2 0 ∧ Below w.heap.size w w') w := by
  obtain ⟨v0, v1, q0, q1⟩ := R.fine p hp v q hr
  have hop := R.opd p hp
  rw [hr] at hop
  have hsum : Ms.sum E br i p 0 = Ms.exprFrom E br i (E.s.size + 1) v q := by unfold Ms.sum; rw [hr]
  rw [hsum]
  obtain ⟨r, hrr⟩ : ∃ r, Ms.exprFrom E br i (E.s.size + 1) v q = r := ⟨_, rfl⟩
  rw [hrr]
  have HOP := Lib.hid hop
  have HSKIP := Lib.hid R.skip
  have HOPER := Lib.hid R.oper
  have HOPD := Lib.hid R.opd
  have HF := Lib.hid R.fine
  have HNZ := Lib.hid R.nz
  have HBL := Lib.hid hbb
  have HR := Lib.hid hrr
  have hb0 := Box.new E c w
  have hal : Below w.heap.size w (w.alloc (boxO E c)) := (Below.refl _ _).alloc (Nat.le_refl _) _
  have HAL := Lib.hid hal
  clear hop hr hsum hrr hbb hal R
  go_enter Tryd.func45, Tryd.ntmps45
  go_wp2_with fail
  refine (HOP.out _).mono ?_
  rintro e w1 ⟨n, rfl, hv, hb⟩
  have HV := Lib.hid hv
  clear hv
  go_wp2_with fail
  go_loopw [1, 9, 10] (fun at1 n1 e1 wr => SumF E br i r (w.alloc (boxO E c)) at1 n1 e1 wr) (fun at1 _ e1 _ => if intOf e1 = 0 then E.s.size - (intOf at1).toNat + 1 else 0)
  case atStart => exact .go E.s.size v n q rfl rfl rfl q1 (by omega) HR.out.symm hb
  case round =>
    rcases hrel with ⟨f, x, n', t, rfl, rfl, rfl, ht, hf, hr, hbr⟩
    · have HRR := Lib.hid hr
      clear hr
      have hB := hb0.below hbr
      obtain ⟨k0, k1, k2, k3, k4, k5, kl⟩ := hB
      go_wp2_with fail
      obtain ⟨a, ha⟩ : ∃ a, Ms.skp E.s i t = a := ⟨_, rfl⟩
      have hsk := HSKIP.out t ht
      have hop := HOPER.out a
      rw [ha] at hsk
      obtain ⟨k, hk⟩ : ∃ k, Ms.opAt E.s a = k := ⟨_, rfl⟩
      have hk13 : k ≤ 13 := hk ▸ opAt_le E.s a
      have hfit : ¬ k = 13 → a + (Ms.opBytes k).size ≤ E.s.size := fun h => by have := opAt_fit (s := E.s) (a := a) (by rw [hk]; exact h); rwa [hk] at this
      have age : t ≤ a := ha ▸ Ms.skp_ge E.s i t
      unfold OpPost at hop
      rw [hk] at hop
      have HA := Lib.hid ha
      have HK := Lib.hid hk
      have HFIT := Lib.hid hfit
      clear ha hk hfit
      have hsk2 := fun (W : World) (hW : Box E c w.heap.size W) => (hsk W).mono (fun e w' (h : e = .returned (.int .i64 a) ∧ Below W.heap.size W w') => (⟨h.1, h.2, hW.below h.2⟩ : e = .returned (.int .i64 a) ∧ Below W.heap.size W w' ∧ Box E c w.heap.size w'))
      have hop2 := fun (W : World) (hW : Box E c w.heap.size W) => (hop W).mono (fun e w' (h : e = .returned (.tuple #[.string (Ms.opBytes k), .int .i64 ((a + (Ms.opBytes k).size : Nat) : Int)]) ∧ Below W.heap.size W w') => (⟨h.1, h.2, hW.below h.2⟩ : e = .returned (.tuple #[.string (Ms.opBytes k), .int .i64 ((a + (Ms.opBytes k).size : Nat) : Int)]) ∧ Below W.heap.size W w' ∧ Box E c w.heap.size w'))
      have HSK := Lib.hid hsk2
      have HO := Lib.hid hop2
      clear hsk hop hsk2 hop2
      go_region_held3 (fun w' => w'.cell? ⟨w.heap.size, 0, none⟩ = some (.string E.s) ∧ w'.cell? ⟨w.heap.size, 1, none⟩ = some (.int .u8 c) ∧ w'.cell? ⟨w.heap.size, 2, none⟩ = some (.int .i64 E.z) ∧ w'.cell? ⟨w.heap.size, 3, none⟩ = some (.int .i64 E.v) ∧ w'.cell? ⟨w.heap.size, 4, none⟩ = some (.int .i64 E.h) ∧ w'.cell? ⟨w.heap.size, 5, none⟩ = some (.bool E.bl)) (simp [*])
        (first | (go_at_call 68; refine (HSK.out _ ⟨by simp [*], by simp [*], by simp [*], by simp [*], by simp [*], by simp [*], by simp [*]⟩).mono ?_; rintro e w2 ⟨rfl, hb2, j0, j1, j2, j3, j4, j5, jl⟩) | (go_at_call 67; refine (HO.out _ ⟨by simp [*], by simp [*], by simp [*], by simp [*], by simp [*], by simp [*], by simp [*]⟩).mono ?_; rintro e w3 ⟨rfl, hb3, l0, l1, l2, l3, l4, l5, ll⟩))
      have hB2 : Below (w.alloc (boxO E c)).heap.size (w.alloc (boxO E c)) w2 := by
        first
          | exact hbr.trans (hb2.mono hbr.size)
          | exact Below.trans (show Below (w.alloc (boxO E c)).heap.size (w.alloc (boxO E c)) wr.drew from below_drewN hbr 1) (hb2.mono hbr.size)
      have hBB : Below (w.alloc (boxO E c)).heap.size (w.alloc (boxO E c)) w3 := by
        first
          | exact hB2.trans (hb3.mono hB2.size)
          | exact Below.trans (show Below (w.alloc (boxO E c)).heap.size (w.alloc (boxO E c)) w2.drew from below_drewN hB2 1) (hb3.mono hB2.size)
      have HBB := Lib.hid hBB
      clear hBB hB2 hb2 hb3 hbr k0 k1 k2 k3 k4 k5 kl j0 j1 j2 j3 j4 j5 jl
      by_cases h13 : k = 13
      · have hek : Ms.opBytes k = ⟨#[]⟩ := by rw [h13]; rfl
        have hfin : r = (.ok (x, a), t) := by rw [HRR.out]; exact expr_13 HA.out (by rw [HK.out, h13])
        have HFin := Lib.hid hfin
        clear hfin
        rw [hek]
        go_wp2_with fail
        go_ret3
        rw [HFin.out]
        exact ⟨n', rfl, HAL.out.trans (HBB.out.mono (by simp))⟩
      · have hlt : k < 13 := by omega
        have hem := op_empty hlt
        have hft := HFIT.out h13
        obtain ⟨r2, hr2⟩ : ∃ r2, Ms.operand E br i (a + (Ms.opBytes k).size) = r2 := ⟨_, rfl⟩
        have ho2 := HOPD.out _ hft
        have hfi := HF.out _ hft
        have hnz := HNZ.out (a + (Ms.opBytes k).size)
        rw [hr2] at ho2 hfi hnz
        have ho3 : ∀ w, Calls Tryd.prog 66 #[RV E c, .int .i64 ((a : Int) + ((Ms.opBytes k).size : Int)), .int .i64 0] w (ROut r2 E.bl w) := ho2
        have hnx : r = nextOf E br i f x t k r2 := by rw [HRR.out]; exact expr_next HA.out HK.out h13 hr2
        have HO2 := Lib.hid ho3
        have HFI := Lib.hid hfi
        have HNX := Lib.hid hnx
        clear hr2 ho2 ho3 hfi hnx HRR
        rcases r2 with ⟨y, t2⟩ | cc
        · obtain ⟨y0, y1, y2, y3⟩ := HFI.out y t2 rfl
          obtain ⟨f', hf'⟩ : ∃ f', f = f' + 1 := ⟨f - 1, by omega⟩
          clear hnz
          go_wp2_with fail
          refine (HO2.out _).mono ?_
          rintro e w4 ⟨n2, rfl, hv2, hb4⟩
          have g5 := (bcell hb4).1 _ 5 ll
          rw [l5, HBL.out] at g5
          have hB4 := HBB.out.trans (hb4.mono HBB.out.size)
          clear l0 l1 l2 l3 l4 l5
          have hnx2 : r = (match Ms.done E k x y with | .er c => (.er c, t2) | .ok w => Ms.exprFrom E br i f w t2) := HNX.out
          rw [show Ms.done E k x y = .ok 0 from by unfold Ms.done; rw [if_pos HBL.out]] at hnx2
          have HN2 := Lib.hid hnx2
          clear hnx2
          go_wp2_with fail
          go_round
          case rel => exact .go f' 0 n' t2 rfl rfl rfl y3 (by omega) (by rw [HN2.out, hf']) hB4
          case measure => simp [intOf]; omega
        · have hcc := nz3 hnz rfl
          clear hnz
          go_wp2_with fail
          refine (HO2.out _).mono ?_
          rintro e w4 ⟨n2, q2, rfl, hb4⟩
          have g5 := (bcell hb4).1 _ 5 ll
          rw [l5, HBL.out] at g5
          have hB4 := HBB.out.trans (hb4.mono HBB.out.size)
          clear l0 l1 l2 l3 l4 l5
          have hfin : r.2 = t := by rw [HNX.out]; rfl
          have HFin := Lib.hid hfin
          clear hfin
          go_wp2_with fail
          go_ret3
          rw [HFin.out]
          exact ⟨n', rfl, HAL.out.trans (hB4.mono (by simp))⟩
end Go.Proofs.YtkkcoajgpdpfkabDoor
