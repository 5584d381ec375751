/- The reference's Prefix. -/
import Derived.Test.YtkkcoajgpdpfkabDoorRfArg
import Derived.Deep.RegionHeld3
namespace Go.Proofs.YtkkcoajgpdpfkabDoor
open Go.RowKit Go.PlainAid

theorem from_ge (E : Ms.Env) (br : Nat → Ms.Res (Int × Nat)) (hbr : ∀ p, p ≤ E.s.size → Fine E p (br p)) (i : Bool) : ∀ (n : Nat) (x : Int) (p : Nat), p ≤ E.s.size → p ≤ (Ms.exprFrom E br i n x p).2
  | 0, _, _, _ => Nat.le_refl _
  | n + 1, x, p, hp => by
    obtain ⟨a, ha⟩ : ∃ a, Ms.skp E.s i p = a := ⟨_, rfl⟩
    obtain ⟨k, hk⟩ : ∃ k, Ms.opAt E.s a = k := ⟨_, rfl⟩
    have age : p ≤ a := ha ▸ Ms.skp_ge E.s i p
    by_cases h13 : k = 13
    · rw [expr_13 ha (by rw [hk, h13])]; exact Nat.le_refl _
    · have hft : a + (Ms.opBytes k).size ≤ E.s.size := by have := opAt_fit (s := E.s) (a := a) (by rw [hk]; exact h13); rwa [hk] at this
      obtain ⟨r, hr⟩ : ∃ r, Ms.operand E br i (a + (Ms.opBytes k).size) = r := ⟨_, rfl⟩
      have hfi := operand_fine E br hbr i _ hft
      rw [hr] at hfi
      rw [expr_next ha hk h13 hr]
      rcases r with ⟨y, t⟩ | c
      · obtain ⟨_, _, h2, h3⟩ := hfi y t rfl
        simp only [nextOf]
        cases Ms.done E k x y with
        | er c => show p ≤ t; omega
        | ok w => show p ≤ (Ms.exprFrom E br i n w t).2; have := from_ge E br hbr i n w t h3; omega
      · exact Nat.le_refl _

/-- What is known where Prefix's arguments can be; t: how far the form goes. -/
structure PrAt (s : ByteArray) (c z v h : Int) : Prop where
  ok : (Ms.validB z v h && sclB c) = true
  hs : s.size ≤ 4611686018427387904

set_option maxRecDepth 100000 in
set_option maxHeartbeats 400000 in
theorem rprefix_bad {s : ByteArray} {c z v h : Int} (w : World) (hb : (Ms.validB z v h && sclB c) = false) :
    Calls Tryd.prog 24 #[.string s, .int .u8 c, .agg #[.int .i64 z, .int .i64 v, .int .i64 h]] w (Three (.er 1) w) := by
  have HA := Lib.hid (rarg_any c z v h)
  have HB := Lib.hid hb
  have hal : Below w.heap.size w (w.alloc (ctxO z v h)) := (Below.refl _ _).alloc (Nat.le_refl _) _
  clear hb
  go_enter Tryd.func24, Tryd.ntmps24
  go_wp2_with fail
  refine (HA.out _).mono ?_
  rintro e w1 ⟨rfl, hb⟩
  rw [HB.out]
  go_wp2_with fail
  go_ret3
  exact ⟨rfl, hal.trans (hb.mono (by simp))⟩

set_option maxRecDepth 100000 in
set_option maxHeartbeats 400000 in
theorem rprefix_none {s : ByteArray} {c z v h cc : Int} (w : World) (H : PrAt s c z v h) (hcc : (cc != 0) = true)
    (hsm : ∀ w, Calls Tryd.prog 45 #[.agg #[.string s, .int .u8 c, .int .i64 z, .int .i64 v, .int .i64 h, .bool true], .int .i64 0, .int .i64 0] w (fun e w' => ∃ n q : Int, e = ret3 n q cc ∧ Below w.heap.size w w')) :
    Calls Tryd.prog 24 #[.string s, .int .u8 c, .agg #[.int .i64 z, .int .i64 v, .int .i64 h]] w (Three (.er 4) w) := by
  have HA := Lib.hid (rarg_any c z v h)
  have HB := Lib.hid H.ok
  have HS := Lib.hid hsm
  have hb0 := CBox.new z v h w
  have hal : Below w.heap.size w (w.alloc (ctxO z v h)) := (Below.refl _ _).alloc (Nat.le_refl _) _
  clear H hsm
  go_enter Tryd.func24, Tryd.ntmps24
  go_wp2_with fail
  refine (HA.out _).mono ?_
  rintro e w1 ⟨rfl, hb⟩
  rw [HB.out]
  have hB := hb0.below hb
  obtain ⟨k0, k1, k2, kl⟩ := hB
  have hsz : w.heap.size < w1.heap.size := kl
  go_wp2_with fail
  refine (HS.out _).mono ?_
  rintro e w2 ⟨n, q, rfl, hb2⟩
  go_wp2_with fail
  go_ret3
  exact ⟨rfl, ((hal.trans (hb.mono (by simp))).alloc (Nat.le_of_lt kl) _).trans (hb2.mono (by simp; omega))⟩

def prefOf (r : Ms.Res Int) (t : Nat) : Ms.Res (Int × Nat) := match r with | .ok x => .ok (x, t) | .er e => .er e

set_option maxRecDepth 100000 in
set_option maxHeartbeats 400000 in
theorem rprefix_some {s : ByteArray} {c z v h : Int} {t : Nat} (w : World) (H : PrAt s c z v h) (ht : t ≤ s.size) (r : Ms.Res Int) (hev : evalM (s.extract 0 t) c z v h = r) (hnz : ∀ e, r = .er e → (e != 0) = true)
    (hsm : ∀ w, Calls Tryd.prog 45 #[.agg #[.string s, .int .u8 c, .int .i64 z, .int .i64 v, .int .i64 h, .bool true], .int .i64 0, .int .i64 0] w (fun e w' => ∃ n : Int, e = ret3 n t 0 ∧ Below w.heap.size w w')) :
    Calls Tryd.prog 24 #[.string s, .int .u8 c, .agg #[.int .i64 z, .int .i64 v, .int .i64 h]] w (Three (prefOf r t) w) := by
  have hev2 := fun w => reval_any (s.extract 0 t) (by have := H.hs; rw [ByteArray.size_extract]; omega) c z v h w
  rw [hev] at hev2
  have hev3 := fun (W : World) (hW : CBox z v h w.heap.size W) => (hev2 W).mono (fun e w' (hh : EvP r W e w') => (⟨hh, hW.below hh.1⟩ : EvP r W e w' ∧ CBox z v h w.heap.size w'))
  have HE := Lib.hid hev3
  have HA := Lib.hid (rarg_any c z v h)
  have HB := Lib.hid H.ok
  have HS := Lib.hid hsm
  have hs := H.hs
  have hb0 := CBox.new z v h w
  have hal : Below w.heap.size w (w.alloc (ctxO z v h)) := (Below.refl _ _).alloc (Nat.le_refl _) _
  clear H hsm hev hev2 hev3
  rcases r with x | cc
  case' er => have hcc : (cc != 0) = true := hnz cc rfl
  all_goals
    clear hnz
    go_enter Tryd.func24, Tryd.ntmps24
    go_wp2_with fail
    refine (HA.out _).mono ?_
    rintro e w1 ⟨rfl, hb⟩
    rw [HB.out]
    have hB := hb0.below hb
    obtain ⟨k0, k1, k2, kl⟩ := hB
    have hsz : w.heap.size < w1.heap.size := kl
    go_wp2_with fail
    refine (HS.out _).mono ?_
    rintro e w2 ⟨n, rfl, hb2⟩
    have hB2 := ((hal.trans (hb.mono (by simp))).alloc (Nat.le_of_lt kl) _).trans (hb2.mono (by simp; omega))
    have hC := CBox.below (CBox.below (show CBox z v h w.heap.size w1 from ⟨k0, k1, k2, kl⟩) ((Below.refl w1.heap.size w1).alloc (Nat.le_refl _) _)) hb2
    clear k0 k1 k2
    obtain ⟨q0, q1, q2, ql⟩ := hC
    go_wp2_with fail
    go_region_held3 (fun w' => w'.cell? ⟨w.heap.size, 0, none⟩ = some (.int .i64 z) ∧ w'.cell? ⟨w.heap.size, 1, none⟩ = some (.int .i64 v) ∧ w'.cell? ⟨w.heap.size, 2, none⟩ = some (.int .i64 h)) (simp [*])
      (first | (go_at_call 23; refine (HE.out _ ⟨by simp [*], by simp [*], by simp [*], by simp [*]⟩).mono ?_; rintro e w3 ⟨⟨hb3, rfl⟩, j0, j1, j2, jl⟩))
    go_wp2_with fail
    go_ret3
    exact ⟨rfl, by first | exact hB2.trans (hb3.mono hB2.size) | exact Below.trans (show Below w.heap.size w w2.drew from below_drewN hB2 1) (hb3.mono hB2.size)⟩

theorem rprefix_any (s : ByteArray) (hs : s.size ≤ 4611686018427387904) (c z v h : Int) (w : World) :
    Calls Tryd.prog 24 #[.string s, .int .u8 c, .agg #[.int .i64 z, .int .i64 v, .int .i64 h]] w (Three (prefixM s c z v h) w) := by
  cases hb : (Ms.validB z v h && sclB c) with
  | false =>
    have he : prefixM s c z v h = .er 1 := by
      unfold prefixM
      cases hv : Ms.validB z v h with
      | false => rfl
      | true =>
        rw [hv, Bool.true_and] at hb
        have hn : Ms.unitO c z v = none := Option.not_isSome_iff_eq_none.1 (by rw [sclB_iff, hb]; simp)
        simp [hn]
    rw [he]
    exact rprefix_bad w hb
  | true =>
    have hb2 := hb
    rw [Bool.and_eq_true] at hb2
    obtain ⟨hv, hsc⟩ := hb2
    obtain ⟨u, hu⟩ := sclB_some (z := z) (v := v) hsc
    have g0 := good_of hv hu hs
    have g : (⟨s, z, v, h, u, true⟩ : Ms.Env).Good := ⟨g0.z0, g0.z1, g0.v0, g0.v1, g0.h0, g0.h1, g0.o0, g0.o1, g0.sz⟩
    have R := round_of 20 (roperand_any 20) ⟨s, z, v, h, u, true⟩ c 0 g hu (by omega) (by omega)
    have he : prefixM s c z v h = (if formedM s = 0 then .er 4 else prefOf (evalM (s.extract 0 (formedM s)) c z v h) (formedM s)) := by unfold prefixM; rw [if_pos hv, hu]; rfl
    have hf : formedM s = (Ms.sum ⟨s, z, v, h, u, true⟩ (Ms.brk ⟨s, z, v, h, u, true⟩ 20) false 0 0).2 := by
      unfold formedM
      rw [brk_form (E := blindE s) (F := ⟨s, z, v, h, u, true⟩) rfl rfl rfl 20, sum_form (E := blindE s) (F := ⟨s, z, v, h, u, true⟩) rfl rfl rfl]
    have hle := formed_le s
    rw [he]
    have hd : decide ((0 : Int) < 0) = false := by simp
    rw [hd] at R
    rcases hr : Ms.operand ⟨s, z, v, h, u, true⟩ (Ms.brk ⟨s, z, v, h, u, true⟩ 20) false 0 with ⟨x, q⟩ | cc
    · have hfi := R.fine 0 (Nat.zero_le _)
      rw [hr] at hfi
      obtain ⟨_, _, q0, q1⟩ := hfi x q rfl
      have hge := from_ge ⟨s, z, v, h, u, true⟩ (Ms.brk ⟨s, z, v, h, u, true⟩ 20) (brk_fine _ 20) false (s.size + 1) x q q1
      have hs2 : Ms.sum ⟨s, z, v, h, u, true⟩ (Ms.brk ⟨s, z, v, h, u, true⟩ 20) false 0 0 = Ms.exprFrom ⟨s, z, v, h, u, true⟩ (Ms.brk ⟨s, z, v, h, u, true⟩ 20) false (s.size + 1) x q := by unfold Ms.sum; rw [hr]
      have hne : ¬ formedM s = 0 := by rw [hf, hs2]; omega
      rw [if_neg hne]
      have hsm := fun w => sum_form_start (w := w) R hs (Nat.zero_le _) hr rfl
      rw [← hf] at hsm
      exact rprefix_some w ⟨hb, hs⟩ hle _ rfl (fun e h => by have := evalM_nz h; rw [bne_iff_ne]; omega) hsm
    · have hnz := R.nz 0
      have hpd := R.opd 0 (Nat.zero_le _)
      rw [hr] at hnz hpd
      have hcc := nz3 hnz rfl
      have hcc2 : (cc == 0) = false := by rw [bne, Bool.not_eq_true'] at hcc; exact hcc
      have hs2 : Ms.sum ⟨s, z, v, h, u, true⟩ (Ms.brk ⟨s, z, v, h, u, true⟩ 20) false 0 0 = (.er cc, 0) := by unfold Ms.sum; rw [hr]
      rw [if_pos (by rw [hf, hs2])]
      have hsm := fun w => sum_first_er (w := w) hcc2 hpd
      exact rprefix_none w ⟨hb, hs⟩ hcc hsm
end Go.Proofs.YtkkcoajgpdpfkabDoor
