/- An expression, walked; all of them, by induction on the brackets that may still be opened. -/
import Derived.Test.YtkkcoajgpdpfkabDoorMsExpr
namespace Go.Proofs.YtkkcoajgpdpfkabDoor
open Go.RowKit Go.PlainAid

theorem op_empty {k : Nat} (hk : k < 13) : (Ms.opBytes k).toList.isEmpty = false := by
  rcases ways13 hk with rfl | rfl | rfl | rfl | rfl | rfl | rfl | rfl | rfl | rfl | rfl | rfl | rfl
  all_goals simp [Ms.opBytes, Lib.toList_data]

def sumOf (E : Ms.Env) (br : Nat → Ms.Res (Int × Nat)) (i : Bool) (l : Nat) (r : Ms.Res (Int × Nat)) : Ms.Res (Int × Nat) × Nat := match r with
  | .er c => (.er c, l)
  | .ok (v, q) => Ms.exprFrom E br i (E.s.size + 1) v q
def nextOf (E : Ms.Env) (br : Nat → Ms.Res (Int × Nat)) (i : Bool) (n : Nat) (x : Int) (p k : Nat) (r : Ms.Res (Int × Nat)) : Ms.Res (Int × Nat) × Nat := match r with
  | .er c => (.er c, p)
  | .ok (y, t) => match Ms.done E k x y with
    | .er c => (.er c, t)
    | .ok w => Ms.exprFrom E br i n w t
theorem expr_13 {E : Ms.Env} {br : Nat → Ms.Res (Int × Nat)} {i : Bool} {n : Nat} {x : Int} {p a : Nat} (ha : Ms.skp E.s i p = a) (hk : Ms.opAt E.s a = 13) : Ms.exprFrom E br i (n + 1) x p = (.ok (x, a), p) := by
  unfold Ms.exprFrom; simp only [ha]; rw [if_pos hk]
theorem expr_next {E : Ms.Env} {br : Nat → Ms.Res (Int × Nat)} {i : Bool} {n : Nat} {x : Int} {p a k : Nat} {r : Ms.Res (Int × Nat)} (ha : Ms.skp E.s i p = a) (hk : Ms.opAt E.s a = k) (h13 : ¬ k = 13) (hr : Ms.operand E br i (a + (Ms.opBytes k).size) = r) :
    Ms.exprFrom E br i (n + 1) x p = nextOf E br i n x p k r := by
  rw [← hr]
  unfold Ms.exprFrom; simp only [ha, hk]; rw [if_neg h13]; rfl
theorem lastOf_lastOf (d : Int) (t p l : Nat) : lastOf d t (lastOf d p l) = lastOf d t l := by unfold lastOf; split <;> rfl

set_option maxHeartbeats 4000000 in
theorem expression_of (k : Nat) (hop : OperandSpec k) : ExprSpec k := by
  intro E b p l d w g hd hk hr hp ho hb
  have hs := g.sz
  have hd0 : 0 ≤ d := by omega
  obtain ⟨i, hi⟩ : ∃ i, decide (0 < d) = i := ⟨_, rfl⟩
  have hoc := fun (w : World) (p l : Nat) (r : Ms.Res (Int × Nat)) (hrr : Ms.operand E (Ms.brk E k) i p = r) (hr : Rd E b p d l w) (hp : p ≤ E.s.size) (ho : OpsAt w) => (show Calls Tryd.prog 56 #[.pointer (some ⟨b, 0, none⟩)] w (AfterL E b d l w r (endOf r l)) from by
    have := hop E b p l d w g hd hk hr hp ho hb
    rw [hi, hrr] at this; exact this)
  have hrc := fun (w : World) (p l : Nat) (hr : Rd E b p d l w) (hp : p ≤ E.s.size) (ho : OpsAt w) (a k : Nat) (ha : Ms.skp E.s i p = a) (hk : Ms.opAt E.s a = k) => (show Calls Tryd.prog 57 #[.pointer (some ⟨b, 0, none⟩)] w fun e w' => e = .returned (.string (Ms.opBytes k)) ∧ Moved E b (a + (Ms.opBytes k).size) d l w w' from by
    have := operator_any E b p d l w hs hr hp hd0 ho hb a (by rw [hi]; exact ha)
    rw [hk] at this; exact this)
  rw [hi]
  obtain ⟨br, hbr⟩ : ∃ br, Ms.brk E k = br := ⟨_, rfl⟩
  have hfi2 : ∀ p, p ≤ E.s.size → Fine E p (Ms.operand E br i p) := by rw [← hbr]; exact fun p hp => operand_fine E (Ms.brk E k) (brk_fine E k) i p hp
  rw [hbr] at hoc ⊢
  obtain ⟨r, hr1⟩ : ∃ r, Ms.operand E br i p = r := ⟨_, rfl⟩
  have hrr : Ms.sum E br i p l = sumOf E br i l r := by rw [← hr1]; rfl
  have hfi := hfi2 p hp
  have hc1 := hoc w p l r hr1 hr hp ho
  rw [hr1] at hfi
  have HC := Lib.hid hc1
  have HOC := Lib.hid hoc
  have HRC := Lib.hid hrc
  have HF := Lib.hid hfi
  have HF2 := Lib.hid hfi2
  rw [hrr]
  clear hrr hc1 hoc hrc hfi hfi2 hr1 hop hbr hd hi
  rcases r with ⟨v, q⟩ | c
  · obtain ⟨v0, v1, q0, q1⟩ := HF.out v q rfl
    obtain ⟨a1, ha1⟩ : ∃ a, Ms.skp E.s i q = a := ⟨_, rfl⟩
    obtain ⟨k1, hk1⟩ : ∃ k, Ms.opAt E.s a1 = k := ⟨_, rfl⟩
    have HA1 := Lib.hid ha1
    have HK1 := Lib.hid hk1
    clear ha1 hk1
    go_enter Tryd.func37, Tryd.ntmps37
    go_wp2_with fail
    refine (HC.out).mono ?_
    rintro e w1 ⟨rfl, hm⟩
    go_wp2_with fail
    refine (HRC.out _ q _ hm.1 q1 (ho.only hm.2 hb) a1 k1 HA1.out HK1.out).mono ?_
    rintro e w2 ⟨rfl, hm2⟩
    go_wp2_with fail
    go_loopw [3, 4] (fun xv ov wr => ∃ (n : Nat) (x : Int) (p' a k : Nat), xv = .int .i64 x ∧ ov = .string (Ms.opBytes k) ∧ p' ≤ E.s.size ∧ E.s.size - p' ≤ n ∧ -1000000000 ≤ x ∧ x ≤ 1000000000 ∧ Ms.skp E.s i p' = a ∧ Ms.opAt E.s a = k ∧ Ms.exprFrom E br i (E.s.size + 1) v q = Ms.exprFrom E br i (n + 1) x p' ∧ Moved E b (a + (Ms.opBytes k).size) d (lastOf d p' l) w wr) (fun _ _ wr => E.s.size - (match wr.cell? ⟨b, 1, none⟩ with | some v => (intOf v).toNat | none => 0))
    case atStart => exact ⟨E.s.size, v, q, a1, k1, rfl, rfl, q1, by omega, v0, v1, HA1.out, HK1.out, rfl, hm.trans hm2⟩
    case round =>
      obtain ⟨n, x, p', a, k, rfl, rfl, hp', hn, x0, x1, ha, hk, he, hmr⟩ := hrel
      have HA := Lib.hid ha
      have HK := Lib.hid hk
      have HE := Lib.hid he
      clear ha hk he
      by_cases h13 : k = 13
      · have hek : Ms.opBytes k = ⟨#[]⟩ := by rw [h13]; rfl
        have hfin : sumOf E br i l (.ok (v, q)) = (.ok (x, a), p') := by show Ms.exprFrom E br i (E.s.size + 1) v q = _; rw [HE.out]; exact expr_13 HA.out (by rw [HK.out, h13])
        have HFin := Lib.hid hfin
        have hmr' : Moved E b a d (lastOf d p' l) w wr := by rw [h13] at hmr; exact hmr
        clear hfin h13 hmr
        go_wp2_with fail
        go_ret
        rw [HFin.out]
        exact ⟨rfl, hmr'⟩
      · have hk13 : k < 13 := by have := opAt_le E.s a; rw [HK.out] at this; omega
        have hne := op_empty hk13
        have hfit : a + (Ms.opBytes k).size ≤ E.s.size := by rw [← HK.out]; exact opAt_fit (by rw [HK.out]; exact h13)
        obtain ⟨r2, hr2⟩ : ∃ r2, Ms.operand E br i (a + (Ms.opBytes k).size) = r2 := ⟨_, rfl⟩
        have hnext : sumOf E br i l (.ok (v, q)) = nextOf E br i n x p' k r2 := by show Ms.exprFrom E br i (E.s.size + 1) v q = _; rw [HE.out]; exact expr_next HA.out HK.out h13 hr2
        have hf2 := HF2.out _ hfit
        rw [hr2] at hf2
        have HR2 := Lib.hid hr2
        have HN := Lib.hid hnext
        have HF3 := Lib.hid hf2
        have hage := Ms.skp_ge E.s i p'
        rw [HA.out] at hage
        have H13 := Lib.hid h13
        clear hr2 hnext hf2 h13
        have k1 := hmr.1.c1
        go_wp2_with fail
        refine (HOC.out _ _ _ r2 HR2.out hmr.1 hfit (ho.only hmr.2 hb)).mono ?_
        rcases r2 with ⟨y, t⟩ | c
        · obtain ⟨y0, y1, t0, t1⟩ := HF3.out y t rfl
          rintro e w3 ⟨rfl, hm3⟩
          rw [lastOf_lastOf] at hm3
          have hm4 := hmr.trans hm3
          obtain ⟨r3, hr3⟩ : ∃ r3, Ms.done E k x y = r3 := ⟨_, rfl⟩
          have HR3 := Lib.hid hr3
          clear hr3
          go_wp2_with fail
          refine (done_any E b t d _ x y k hk13 _ hm4.1 x0 x1 y0 y1).mono ?_
          rw [HR3.out]
          rcases r3 with z | c
          · obtain ⟨z0, z1⟩ := done_bd x0 x1 HR3.out
            rintro e w4 ⟨rfl, rfl⟩
            obtain ⟨a2, ha2⟩ : ∃ a, Ms.skp E.s i t = a := ⟨_, rfl⟩
            obtain ⟨k2, hk2⟩ : ∃ k, Ms.opAt E.s a2 = k := ⟨_, rfl⟩
            have HA2 := Lib.hid ha2
            have HK2 := Lib.hid hk2
            have ha2ge := Ms.skp_ge E.s i t
            rw [ha2] at ha2ge
            clear ha2 hk2
            obtain ⟨n', hn'⟩ : ∃ n', n = n' + 1 := ⟨n - 1, by omega⟩
            have HNN := Lib.hid hn'
            have hn2 : E.s.size - t ≤ n' := by omega
            clear hn'
            go_wp2_with fail
            refine (HRC.out _ t _ hm4.1 t1 (ho.only hm4.2 hb) a2 k2 HA2.out HK2.out).mono ?_
            rintro e w4 ⟨rfl, hm5⟩
            have k1' := hm5.1.c1
            go_wp2_with fail
            go_roundw
            case rel => exact ⟨n', z, t, a2, k2, rfl, rfl, t1, hn2, z0, z1, HA2.out, HK2.out, by
              have := HN.out
              rw [HNN.out] at this
              show sumOf E br i l (.ok (v, q)) = _
              rw [this]
              unfold nextOf
              simp only [HR3.out], hm4.trans hm5⟩
            case measure => simp only [k1, k1', intOf, Int.toNat_natCast]; exact meas_lt (Nat.lt_of_lt_of_le t0 t1) (Nat.lt_of_lt_of_le (Nat.lt_of_lt_of_le t0 ha2ge) (Nat.le_add_right _ _))
          · rintro e w4 ⟨rfl, rfl⟩
            have hfin : sumOf E br i l (.ok (v, q)) = (.er c, t) := by rw [HN.out]; unfold nextOf; simp only [HR3.out]
            have HFin := Lib.hid hfin
            clear hfin
            go_wp2_with fail
            rw [HFin.out]
            exact ⟨rfl, rfl, t, d, hm4⟩
        · rintro e w3 ⟨rfl, a', d', hm3⟩
          have hfin : sumOf E br i l (.ok (v, q)) = (.er c, p') := by rw [HN.out]; rfl
          have HFin := Lib.hid hfin
          clear hfin
          go_wp2_with fail
          rw [HFin.out]
          rw [show endOf (.er c) (lastOf d p' l) = lastOf d p' l from rfl, lastOf_same] at hm3
          exact ⟨rfl, rfl, a', d', hmr.trans hm3⟩
  · go_enter Tryd.func37, Tryd.ntmps37
    go_wp2_with fail
    refine (HC.out).mono ?_
    rintro e w1 ⟨rfl, a, d', hm⟩
    go_wp2
    exact ⟨rfl, rfl, a, d', hm⟩
end Go.Proofs.YtkkcoajgpdpfkabDoor
