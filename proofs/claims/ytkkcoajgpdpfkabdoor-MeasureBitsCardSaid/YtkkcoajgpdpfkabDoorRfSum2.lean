/- The reference's sum, where an error behind the first operand ends it. -/
import Derived.Test.YtkkcoajgpdpfkabDoorRfSum
import Derived.Deep.RegionHeld3
namespace Go.Proofs.YtkkcoajgpdpfkabDoor
open Go.RowKit Go.PlainAid

/-- A round of the reference's sum: still going, or ended by an error. -/
inductive SumR (E : Ms.Env) (br : Nat → Ms.Res (Int × Nat)) (i : Bool) (r : Ms.Res (Int × Nat) × Nat) (bl : Bool) (w0 : World) (at1 n1 e1 : Value) (wr : World) : Prop
  | go (f : Nat) (x n : Int) (t : Nat) (ha : at1 = .int .i64 t) (hn : n1 = .int .i64 n) (he : e1 = .int .i64 0) (ht : t ≤ E.s.size) (hf : E.s.size - t ≤ f) (x0 : -1000000000 ≤ x) (x1 : x ≤ 1000000000)
      (hx : bl = false → n = x) (hr : r = Ms.exprFrom E br i (f + 1) x t) (hb : Below w0.heap.size w0 wr)
  | bad (q n c : Int) (ha : at1 = .int .i64 q) (hn : n1 = .int .i64 n) (he : e1 = .int .i64 c) (hc : (c == 0) = false) (hr : r.1 = .er c) (hb : Below w0.heap.size w0 wr)

/-- All that a round calls. -/
structure Round (E : Ms.Env) (c d : Int) (br : Nat → Ms.Res (Int × Nat)) (i : Bool) : Prop where
  skip : ∀ t, t ≤ E.s.size → ∀ w, Calls Tryd.prog 68 #[RV E c, .int .i64 t, .int .i64 d] w fun e w' => e = .returned (.int .i64 (Ms.skp E.s i t)) ∧ Below w.heap.size w w'
  oper : ∀ (a : Nat), ∀ w, Calls Tryd.prog 67 #[RV E c, .int .i64 a] w (OpPost E.s a w)
  opd : ∀ t, t ≤ E.s.size → ∀ w, Opd E c d t (Ms.operand E br i t) w
  fine : ∀ t, t ≤ E.s.size → Fine E t (Ms.operand E br i t)
  nz : ∀ t, NZ (Ms.operand E br i t)

theorem sout_er {r : Ms.Res (Int × Nat) × Nat} {bl : Bool} {w w' : World} {n q c : Int} (h : r.1 = .er c) (hb : Below w.heap.size w w') : SOut r bl w (ret3 n q c) w' := by
  unfold SOut; rw [h]; exact ⟨n, q, rfl, hb⟩

set_option maxRecDepth 100000 in
set_option maxHeartbeats 1000000 in
theorem sum_round_start {E : Ms.Env} {c d : Int} {br : Nat → Ms.Res (Int × Nat)} {i : Bool} {p q : Nat} {v : Int} {w : World} (R : Round E c d br i) (_hs : E.s.size ≤ 4611686018427387904) (hp : p ≤ E.s.size) (hr : Ms.operand E br i p = .ok (v, q))
    (bb : Bool) (hbb : E.bl = bb) (hm : bb = true → (d == 0) = false) (_d0 : 0 ≤ d) (_d1 : d ≤ 20) :
    Sm E c d p (SOut (Ms.sum E br i p 0) E.bl w) w := by
  obtain ⟨v0, v1, q0, q1⟩ := R.fine p hp v q hr
  have hop := R.opd p hp
  rw [hr] at hop
  have hsum : Ms.sum E br i p 0 = Ms.exprFrom E br i (E.s.size + 1) v q := by unfold Ms.sum; rw [hr]
  rw [hsum]
  obtain ⟨r, hrr⟩ : ∃ r, Ms.exprFrom E br i (E.s.size + 1) v q = r := ⟨_, rfl⟩
  rw [hrr]
  have HOP := Lib.hid hop
  have HSKIP := Lib.hid R.skip
  have HOPER := Lib.hid R.oper
  have HOPD := Lib.hid R.opd
  have HF := Lib.hid R.fine
  have HNZ := Lib.hid R.nz
  have HBL := Lib.hid hbb
  have HM := Lib.hid hm
  have HR := Lib.hid hrr
  have hb0 := Box.new E c w
  have hal : Below w.heap.size w (w.alloc (boxO E c)) := (Below.refl _ _).alloc (Nat.le_refl _) _
  have HAL := Lib.hid hal
  clear hop hr hsum hrr hbb hm hal R
  go_enter Tryd.func45, Tryd.ntmps45
  go_wp2_with fail
  refine (HOP.out _).mono ?_
  rintro e w1 ⟨n, rfl, hv, hb⟩
  have HV := Lib.hid hv
  clear hv
  go_wp2_with fail
  go_loopw [1, 9, 10] (fun at1 n1 e1 wr => SumR E br i r E.bl (w.alloc (boxO E c)) at1 n1 e1 wr) (fun at1 _ e1 _ => if intOf e1 = 0 then E.s.size - (intOf at1).toNat + 1 else 0)
  case atStart => exact .go E.s.size v n q rfl rfl rfl q1 (by omega) v0 v1 HV.out HR.out.symm hb
  case round =>
    rcases hrel with ⟨f, x, n', t, rfl, rfl, rfl, ht, hf, x0, x1, hx, hr, hbr⟩ | ⟨q', n', cc, rfl, rfl, rfl, hc, hr, hbr⟩
    · have HX := Lib.hid hx
      have HRR := Lib.hid hr
      clear hx hr
      have hB := hb0.below hbr
      obtain ⟨k0, k1, k2, k3, k4, k5, kl⟩ := hB
      go_wp2_with fail
      obtain ⟨a, ha⟩ : ∃ a, Ms.skp E.s i t = a := ⟨_, rfl⟩
      have hsk := HSKIP.out t ht
      have hop := HOPER.out a
      rw [ha] at hsk
      obtain ⟨k, hk⟩ : ∃ k, Ms.opAt E.s a = k := ⟨_, rfl⟩
      have hk13 : k ≤ 13 := hk ▸ opAt_le E.s a
      have hfit : ¬ k = 13 → a + (Ms.opBytes k).size ≤ E.s.size := fun h => by have := opAt_fit (s := E.s) (a := a) (by rw [hk]; exact h); rwa [hk] at this
      have age : t ≤ a := ha ▸ Ms.skp_ge E.s i t
      unfold OpPost at hop
      rw [hk] at hop
      have HA := Lib.hid ha
      have HK := Lib.hid hk
      have HFIT := Lib.hid hfit
      clear ha hk hfit
      have hsk2 := fun (W : World) (hW : Box E c w.heap.size W) => (hsk W).mono (fun e w' (h : e = .returned (.int .i64 a) ∧ Below W.heap.size W w') => (⟨h.1, h.2, hW.below h.2⟩ : e = .returned (.int .i64 a) ∧ Below W.heap.size W w' ∧ Box E c w.heap.size w'))
      have hop2 := fun (W : World) (hW : Box E c w.heap.size W) => (hop W).mono (fun e w' (h : e = .returned (.tuple #[.string (Ms.opBytes k), .int .i64 ((a + (Ms.opBytes k).size : Nat) : Int)]) ∧ Below W.heap.size W w') => (⟨h.1, h.2, hW.below h.2⟩ : e = .returned (.tuple #[.string (Ms.opBytes k), .int .i64 ((a + (Ms.opBytes k).size : Nat) : Int)]) ∧ Below W.heap.size W w' ∧ Box E c w.heap.size w'))
      have HSK := Lib.hid hsk2
      have HO := Lib.hid hop2
      clear hsk hop hsk2 hop2
      go_region_held3 (fun w' => w'.cell? ⟨w.heap.size, 0, none⟩ = some (.string E.s) ∧ w'.cell? ⟨w.heap.size, 1, none⟩ = some (.int .u8 c) ∧ w'.cell? ⟨w.heap.size, 2, none⟩ = some (.int .i64 E.z) ∧ w'.cell? ⟨w.heap.size, 3, none⟩ = some (.int .i64 E.v) ∧ w'.cell? ⟨w.heap.size, 4, none⟩ = some (.int .i64 E.h) ∧ w'.cell? ⟨w.heap.size, 5, none⟩ = some (.bool E.bl)) (simp [*])
        (first | (go_at_call 68; refine (HSK.out _ ⟨by simp [*], by simp [*], by simp [*], by simp [*], by simp [*], by simp [*], by simp [*]⟩).mono ?_; rintro e w2 ⟨rfl, hb2, j0, j1, j2, j3, j4, j5, jl⟩) | (go_at_call 67; refine (HO.out _ ⟨by simp [*], by simp [*], by simp [*], by simp [*], by simp [*], by simp [*], by simp [*]⟩).mono ?_; rintro e w3 ⟨rfl, hb3, l0, l1, l2, l3, l4, l5, ll⟩))
      have hB2 : Below (w.alloc (boxO E c)).heap.size (w.alloc (boxO E c)) w2 := by
        first
          | exact hbr.trans (hb2.mono hbr.size)
          | exact Below.trans (show Below (w.alloc (boxO E c)).heap.size (w.alloc (boxO E c)) wr.drew from below_drewN hbr 1) (hb2.mono hbr.size)
      have hBB : Below (w.alloc (boxO E c)).heap.size (w.alloc (boxO E c)) w3 := by
        first
          | exact hB2.trans (hb3.mono hB2.size)
          | exact Below.trans (show Below (w.alloc (boxO E c)).heap.size (w.alloc (boxO E c)) w2.drew from below_drewN hB2 1) (hb3.mono hB2.size)
      have HBB := Lib.hid hBB
      clear hBB hB2 hb2 hb3 hbr k0 k1 k2 k3 k4 k5 kl j0 j1 j2 j3 j4 j5 jl
      by_cases h13 : k = 13
      · have hek : Ms.opBytes k = ⟨#[]⟩ := by rw [h13]; rfl
        have hfin : r = (.ok (x, a), t) := by rw [HRR.out]; exact expr_13 HA.out (by rw [HK.out, h13])
        have HFin := Lib.hid hfin
        clear hfin
        rw [hek]
        go_wp2_with fail
        go_ret3
        rw [HFin.out]
        exact ⟨n', rfl, HX.out, HAL.out.trans (HBB.out.mono (by simp))⟩
      · have hlt : k < 13 := by omega
        have hem := op_empty hlt
        have hft := HFIT.out h13
        obtain ⟨r2, hr2⟩ : ∃ r2, Ms.operand E br i (a + (Ms.opBytes k).size) = r2 := ⟨_, rfl⟩
        have ho2 := HOPD.out _ hft
        have hfi := HF.out _ hft
        have hnz := HNZ.out (a + (Ms.opBytes k).size)
        rw [hr2] at ho2 hfi hnz
        have ho3 : ∀ w, Calls Tryd.prog 66 #[RV E c, .int .i64 ((a : Int) + ((Ms.opBytes k).size : Int)), .int .i64 d] w (ROut r2 E.bl w) := ho2
        have hnx : r = nextOf E br i f x t k r2 := by rw [HRR.out]; exact expr_next HA.out HK.out h13 hr2
        have HO2 := Lib.hid ho3
        have HFI := Lib.hid hfi
        have HNX := Lib.hid hnx
        clear hr2 ho2 ho3 hfi hnx HRR
        rcases r2 with ⟨y, t2⟩ | cc
        · obtain ⟨y0, y1, y2, y3⟩ := HFI.out y t2 rfl
          obtain ⟨f', hf'⟩ : ∃ f', f = f' + 1 := ⟨f - 1, by omega⟩
          clear hnz
          go_wp2_with fail
          refine (HO2.out _).mono ?_
          rintro e w4 ⟨n2, rfl, hv2, hb4⟩
          have HV2 := Lib.hid hv2
          have g5 := (bcell hb4).1 _ 5 ll
          rw [l5, HBL.out] at g5
          have hB4 := HBB.out.trans (hb4.mono HBB.out.size)
          clear hv2 l0 l1 l2 l3 l4 l5
          cases bb
          case true =>
            have hnx2 : r = (match Ms.done E k x y with | .er c => (.er c, t2) | .ok w => Ms.exprFrom E br i f w t2) := HNX.out
            rw [show Ms.done E k x y = .ok 0 from by unfold Ms.done; rw [if_pos HBL.out]] at hnx2
            have HN2 := Lib.hid hnx2
            clear hnx2
            go_wp2_with fail
            go_round
            case rel => exact .go f' 0 n' t2 rfl rfl rfl y3 (by omega) (by omega) (by omega) (fun e => Bool.noConfusion (HBL.out.symm.trans e)) (by rw [HN2.out, hf']) hB4
            case measure => simp [intOf]; omega
          case false =>
            have e1 := HX.out HBL.out
            have e2 := HV2.out HBL.out
            subst e1
            subst e2
            have hrk := rreckon_any E HBL.out k hlt n' n2 x0 x1 y0 y1
            have hdb := fun v (h : Ms.done E k n' n2 = .ok v) => done_bd x0 x1 h
            have hdz := nz_done E k n' n2
            have hnx2 : r = (match Ms.done E k n' n2 with | .er c => (.er c, t2) | .ok w => Ms.exprFrom E br i f w t2) := HNX.out
            generalize Ms.done E k n' n2 = dn at hrk hdb hdz hnx2
            have HRK := Lib.hid hrk
            clear hrk
            go_wp2_with fail
            refine (HRK.out _).mono ?_
            rintro e w5 ⟨rfl, he⟩
            cases dn with
            | ok z =>
              simp only at he
              subst he
              obtain ⟨z0, z1⟩ := hdb z rfl
              have HN2 := Lib.hid hnx2
              clear hnx2 hdb hdz
              go_wp2_with fail
              go_round
              case rel => exact .go f' z z t2 rfl rfl rfl y3 (by omega) z0 z1 (fun _ => rfl) (by rw [HN2.out, hf']) hB4
              case measure => simp [intOf]; omega
            | er z =>
              simp only at he
              subst he
              have hz := hdz z rfl
              have hz0 : (z == 0) = false := by rw [beq_eq_false_iff_ne]; omega
              have hz1 : ¬ z = 0 := by omega
              have HN2 := Lib.hid hnx2
              clear hnx2 hdb hdz hz
              go_wp2_with fail
              go_round
              case rel => exact .bad t2 0 z rfl rfl rfl hz0 (by rw [HN2.out]) hB4
              case measure => simp [intOf, hz1]
        · have hcc := nz3 hnz rfl
          clear hnz
          go_wp2_with fail
          refine (HO2.out _).mono ?_
          rintro e w4 ⟨n2, q2, rfl, hb4⟩
          have g5 := (bcell hb4).1 _ 5 ll
          rw [l5, HBL.out] at g5
          have hB4 := HBB.out.trans (hb4.mono HBB.out.size)
          clear l0 l1 l2 l3 l4 l5
          cases bb
          case false =>
            go_wp2_with fail
            go_ret3
            exact sout_er (by rw [HNX.out]; rfl) (HAL.out.trans (hB4.mono (by simp)))
          case true =>
            have hd0 := HM.out rfl
            go_wp2_with fail
            go_ret3
            exact sout_er (by rw [HNX.out]; rfl) (HAL.out.trans (hB4.mono (by simp)))
    · go_wp2_with fail
      go_ret3
      exact sout_er hr (HAL.out.trans (hbr.mono (by simp)))
end Go.Proofs.YtkkcoajgpdpfkabDoor
