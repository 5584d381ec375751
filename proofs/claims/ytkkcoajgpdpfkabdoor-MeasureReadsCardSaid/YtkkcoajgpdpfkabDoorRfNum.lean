/- The reference's number. -/
import Derived.Test.YtkkcoajgpdpfkabDoorRfLeaf
import Derived.Deep.DeepCutAuto
import Derived.Deep.CutBlock
namespace Go.Proofs.YtkkcoajgpdpfkabDoor
open Go.RowKit Go.PlainAid

/-- Three ints of a result: what the reference gives where a value is read: the value and where it ends, or an error. -/
def RefN (r : Ms.Res (Int × Nat)) (bl : Bool) (w : World) (e : Ending) (w' : World) : Prop :=
  Below w.heap.size w w' ∧ match r with
  | .ok (v, q) => ∃ n : Int, e = .returned (.tuple #[.int .i64 n, .int .i64 q, .int .i64 0]) ∧ (bl = false → n = v)
  | .er c => ∃ n q : Int, e = .returned (.tuple #[.int .i64 n, .int .i64 q, .int .i64 c])

/-- A number, as it is reckoned where the form is not alone asked. -/
def plainB (E : Ms.Env) : Ms.Env := { E with bl := false }

/-- The reference's number: in its own right it knows no form: beyond the range it tells the place. -/
def RefNum (E : Ms.Env) (p : Nat) (w : World) (e : Ending) (w' : World) : Prop :=
  Below w.heap.size w w' ∧ match Ms.number (plainB E) p with
  | .ok (v, q) => e = .returned (.tuple #[.int .i64 v, .int .i64 q, .int .i64 0])
  | .er 5 => ∃ q : Nat, e = .returned (.tuple #[.int .i64 0, .int .i64 q, .int .i64 5]) ∧ ∃ v, Ms.number { E with bl := true } p = .ok (v, q)
  | .er c => ∃ n q : Int, e = .returned (.tuple #[.int .i64 n, .int .i64 q, .int .i64 c])

theorem wthB_yes {n : Int} (h : wthB n = true) : -1000000000 ≤ n ∧ n ≤ 1000000000 := by
  simp only [wthB, Bool.and_eq_true, decide_eq_true_eq] at h; exact h
theorem wthB_no {n : Int} (h : wthB n = false) : Ms.within n = .er 5 := by
  unfold Ms.within
  rw [if_neg]
  intro hh
  have : wthB n = true := by simp only [wthB, Bool.and_eq_true, decide_eq_true_eq]; exact hh
  rw [h] at this; cases this

theorem part_pos (s : ByteArray) (p : Nat) : 0 < Ms.partLen s p ↔ bt s p = 46 ∧ Ms.digB (bt s (p + 1)) = true := by
  constructor
  · intro h
    refine ⟨?_, ?_⟩
    · by_cases h1 : bt s p = 46
      · exact h1
      · rw [part_none0 h1] at h; omega
    · cases h1 : Ms.digB (bt s (p + 1)) with
      | true => rfl
      | false => rw [part_none1 h1] at h; omega
  · rintro ⟨h1, h2⟩
    rcases Nat.eq_zero_or_pos (Ms.partLen s p) with h | h
    · rcases part_ways h with h3 | h3
      · exact absurd h1 h3
      · rw [h2] at h3; cases h3.2
    · exact h

set_option maxRecDepth 100000 in
set_option maxHeartbeats 4000000 in
theorem rnumber_any (E : Ms.Env) (g : E.Good) (c : Int) (hc : Ms.unitO c E.z E.v = some E.one) (p : Nat) (hp : p ≤ E.s.size) (w : World) :
    Calls Tryd.prog 44 #[.string E.s, .int .i64 p, .int .u8 c, .agg #[.int .i64 E.z, .int .i64 E.v, .int .i64 E.h]] w (RefNum E p w) := by
  have hs := g.sz
  have hgb := get_bt E.s
  obtain ⟨e1, he1⟩ : ∃ e1, Ms.dEnd E.s p 9 = e1 := ⟨_, rfl⟩
  obtain ⟨kk, hkk⟩ : ∃ k, Ms.partLen E.s e1 = k := ⟨_, rfl⟩
  obtain ⟨A, hA⟩ : ∃ A, Ms.dVal E.s p (e1 - p) = A := ⟨_, rfl⟩
  have e1ge : p ≤ e1 := he1 ▸ Ms.dEnd_ge E.s 9 p
  have e1le : e1 ≤ p + 9 := he1 ▸ Ms.dEnd_le E.s 9 p
  have e1sz : e1 ≤ E.s.size := he1 ▸ Ms.dEnd_size E.s 9 p hp
  have HE1 := Lib.hid he1
  have HKK := Lib.hid hkk
  have HA := Lib.hid hA
  have HC := Lib.hid hc
  clear he1 hkk hA hc
  go_enter Tryd.func44, Tryd.ntmps44
  go_upto_block 0 with fail
  go_cut [1, 11] (fun i v wx => i = .int .i64 e1 ∧ v = .int .i64 A ∧ wx = w.alloc (.cells #[.int .i64 E.z, .int .i64 E.v, .int .i64 E.h] 38))
  case first =>
    go_wp2_with fail
    go_loop [1, 11] (fun i v => ∃ k : Nat, p ≤ k ∧ k ≤ p + 9 ∧ k ≤ E.s.size ∧ i = .int .i64 k ∧ v = .int .i64 (Ms.dVal E.s p (k - p)) ∧ Hid ((∀ j, p ≤ j → j < k → Ms.digB (bt E.s j) = true) ∧ Ms.dEnd E.s p 9 = Ms.dEnd E.s k (9 - (k - p)))) (fun i _ => p + 9 - (intOf i).toNat)
    case atStart => exact ⟨p, Nat.le_refl _, by omega, hp, rfl, by rw [Nat.sub_self]; rfl, fun j a b => by omega, by rw [Nat.sub_self]⟩
    case round =>
      obtain ⟨k, hpk, hk9, hks, rfl, rfl, hh⟩ := hrel
      have hbd := Ms.dVal_bd E.s p (k - p) (fun j a b => hh.out.1 j a (by omega))
      have hten : Ms.tenTo (k - p) ≤ 1000000000 := by rw [← Ms.tenTo9]; exact Ms.tenTo_mono (by omega)
      obtain ⟨v0, v1⟩ := hbd
      have v2 : Ms.dVal E.s p (k - p) ≤ 1000000000 := by omega
      clear v1 hten
      have fin : k = e1 → Ms.dVal E.s p (k - p) = A := fun h => by rw [h]; exact HA.out
      have FIN := Lib.hid fin
      clear fin
      cases hd : Ms.digB (bt E.s k) with
      | true =>
        have hlt : k < E.s.size := Ms.lt_of_bt (by simp [Ms.digB] at hd; omega)
        obtain ⟨d1, d2⟩ := byte_sub _ hd
        have HD := Lib.hid hd
        clear hd
        by_cases h9 : k < p + 9
        · go_wp2_with fail
          refine (rdigit_any _ _).mono ?_
          rw [HD.out]
          rintro e w1 ⟨rfl, rfl⟩
          go_wp2_with fail
          go_round
          case rel => exact ⟨k + 1, by omega, by omega, by omega, by go_num, by rw [show k + 1 - p = (k - p) + 1 from by omega, Ms.dVal, show p + (k - p) = k from by omega], fun j a b => (by
              by_cases e : j = k
              · rw [e]; exact HD.out
              · exact hh.out.1 j a (by omega)), by rw [hh.out.2, show 9 - (k - p) = (9 - (k + 1 - p)) + 1 from by omega, dEnd_yes HD.out]⟩
          case measure => simp [intOf]; omega
        · have hke : k = e1 := by rw [← HE1.out, hh.out.2, show 9 - (k - p) = 0 from by omega]; rfl
          have hv := FIN.out hke
          subst hke
          have HV := Lib.hid hv
          clear hv
          go_wp2_with fail
          refine (rdigit_any _ _).mono ?_
          rw [HD.out]
          rintro e w1 ⟨rfl, rfl⟩
          go_wp2_with fail
          go_meet
          exact ⟨rfl, by rw [HV.out], rfl⟩
      | false =>
        have hke : k = e1 := by rw [← HE1.out, hh.out.2, dEnd_no hd]
        have hv := FIN.out hke
        subst hke
        have HV := Lib.hid hv
        have HD := Lib.hid hd
        clear hv hd
        by_cases hlt : k < E.s.size
        · go_wp2_with fail
          refine (rdigit_any _ _).mono ?_
          rw [HD.out]
          rintro e w1 ⟨rfl, rfl⟩
          go_wp2_with fail
          go_meet
          exact ⟨rfl, by rw [HV.out], rfl⟩
        · go_wp2_with fail
          go_meet
          exact ⟨rfl, by rw [HV.out], rfl⟩
  case rest =>
    obtain ⟨rfl, rfl, rfl⟩ := hcut
    obtain ⟨b, hb⟩ : ∃ b, decide (0 < kk) = b := ⟨_, rfl⟩
    have hps := part_size e1sz
    rw [HKK.out] at hps
    obtain ⟨ksz, k9, kdg⟩ := hps
    have HB := Lib.hid hb
    have HKD := Lib.hid kdg
    clear hb kdg
    go_upto_region 7 with fail
    go_cut [66] (fun t wx => t = .bool b ∧ wx = w.alloc (.cells #[.int .i64 E.z, .int .i64 E.v, .int .i64 E.h] 38))
    case first =>
      by_cases hlt : e1 + 1 < E.s.size
      · cases hpt : (bt E.s e1 == 46) with
        | true =>
          cases hdg : Ms.digB (bt E.s (e1 + 1)) with
          | true =>
            have hbt : b = true := by rw [← HB.out, ← HKK.out]; exact decide_eq_true ((part_pos E.s e1).2 ⟨beq_iff_eq.1 hpt, hdg⟩)
            subst hbt
            have HD := Lib.hid hdg
            clear hdg
            go_wp2_with fail
            refine (rdigit_any _ _).mono ?_
            rw [HD.out]
            rintro e w1 ⟨rfl, rfl⟩
            go_wp2_with fail
            go_meet
            exact ⟨rfl, rfl⟩
          | false =>
            have hbt : b = false := by rw [← HB.out, ← HKK.out]; exact decide_eq_false (fun h => by rw [((part_pos E.s e1).1 h).2] at hdg; cases hdg)
            subst hbt
            have HD := Lib.hid hdg
            clear hdg
            go_wp2_with fail
            refine (rdigit_any _ _).mono ?_
            rw [HD.out]
            rintro e w1 ⟨rfl, rfl⟩
            go_wp2_with fail
            go_meet
            exact ⟨rfl, rfl⟩
        | false =>
          have hbt : b = false := by rw [← HB.out, ← HKK.out]; exact decide_eq_false (fun h => by rw [((part_pos E.s e1).1 h).1] at hpt; cases hpt)
          subst hbt
          go_wp2_with fail
          go_meet
          exact ⟨rfl, rfl⟩
      · have hbt : b = false := by
          rw [← HB.out, ← HKK.out]
          exact decide_eq_false (fun h => by
            have := ((part_pos E.s e1).1 h).2
            rw [bt_end E.s (by omega)] at this; cases this)
        subst hbt
        go_wp2_with fail
        go_meet
        exact ⟨rfl, rfl⟩
    case rest =>
      obtain ⟨rfl, rfl⟩ := hcut
      obtain ⟨B, hB⟩ : ∃ B, Ms.dVal E.s (e1 + 1) kk = B := ⟨_, rfl⟩
      obtain ⟨C, hC⟩ : ∃ C, Ms.tenTo kk = C := ⟨_, rfl⟩
      obtain ⟨pe, hpe⟩ : ∃ pe, partEnd e1 kk = pe := ⟨_, rfl⟩
      have HBB := Lib.hid hB
      have HCC := Lib.hid hC
      have HPE := Lib.hid hpe
      clear hB hC hpe
      go_upto_if 66 with fail
      go_cut [1, 12, 13, 15] (fun a pt pw ct wx => a = .int .i64 pe ∧ pt = .int .i64 B ∧ pw = .int .i64 C ∧ ct = .int .i64 ((e1 : Int) - p + kk) ∧ wx = w.alloc (.cells #[.int .i64 E.z, .int .i64 E.v, .int .i64 E.h] 38))
      case first =>
        cases b with
        | false =>
          have hk0 : kk = 0 := by have := of_decide_eq_false HB.out; omega
          have e1' : pe = e1 := by rw [← HPE.out, hk0]; rfl
          have e2 : B = 0 := by rw [← HBB.out, hk0]; rfl
          have e3 : C = 1 := by rw [← HCC.out, hk0]; rfl
          subst e1' e2 e3
          go_wp2_with fail
          go_meet
          exact ⟨rfl, rfl, rfl, by rw [hk0]; go_num, rfl⟩
        | true =>
          have hk0 : 0 < kk := of_decide_eq_true HB.out
          have hee : Ms.dEnd E.s (e1 + 1) 9 = e1 + 1 + kk := by
            have h1 := ((part_pos E.s e1).1 (by rw [HKK.out]; exact hk0)).1
            have h2 := HKK.out
            rw [Ms.partLen, if_pos h1] at h2
            have := Ms.dEnd_ge E.s 9 (e1 + 1)
            omega
          have HEE := Lib.hid hee
          clear hee
          have h1k : e1 + 1 + kk ≤ E.s.size := by omega
          go_wp2_with fail
          go_loop [1, 12, 13] (fun a v x => ∃ k : Nat, e1 + 1 ≤ k ∧ k ≤ e1 + 1 + 9 ∧ k ≤ E.s.size ∧ a = .int .i64 k ∧ v = .int .i64 (Ms.dVal E.s (e1 + 1) (k - (e1 + 1))) ∧ x = .int .i64 (Ms.tenTo (k - (e1 + 1))) ∧ Hid ((∀ j, e1 + 1 ≤ j → j < k → Ms.digB (bt E.s j) = true) ∧ Ms.dEnd E.s (e1 + 1) 9 = Ms.dEnd E.s k (9 - (k - (e1 + 1))))) (fun a _ _ => e1 + 1 + 9 - (intOf a).toNat)
          case atStart => exact ⟨e1 + 1, Nat.le_refl _, by omega, by omega, by go_num, by rw [Nat.sub_self]; rfl, by rw [Nat.sub_self]; rfl, fun j a b => by omega, by rw [Nat.sub_self]⟩
          case round =>
            obtain ⟨k, hpk, hk9, hks, rfl, rfl, rfl, hh⟩ := hrel
            have hbd := Ms.dVal_bd E.s (e1 + 1) (k - (e1 + 1)) (fun j a b => hh.out.1 j a (by omega))
            have hten : Ms.tenTo (k - (e1 + 1)) ≤ 1000000000 := by rw [← Ms.tenTo9]; exact Ms.tenTo_mono (by omega)
            have hten1 := Ms.tenTo_pos (k - (e1 + 1))
            obtain ⟨v0, v1⟩ := hbd
            have v2 : Ms.dVal E.s (e1 + 1) (k - (e1 + 1)) ≤ 1000000000 := by omega
            clear v1
            have fin : k = e1 + 1 + kk → k = pe ∧ Ms.dVal E.s (e1 + 1) (k - (e1 + 1)) = B ∧ Ms.tenTo (k - (e1 + 1)) = C := fun h => by
              rw [show k - (e1 + 1) = kk from by omega]
              exact ⟨by rw [← HPE.out, h]; unfold partEnd; rw [if_neg (by omega)], HBB.out, HCC.out⟩
            have FIN := Lib.hid fin
            clear fin
            cases hd : Ms.digB (bt E.s k) with
            | true =>
              have hlt : k < E.s.size := Ms.lt_of_bt (by simp [Ms.digB] at hd; omega)
              obtain ⟨d1, d2⟩ := byte_sub _ hd
              have HD := Lib.hid hd
              clear hd
              by_cases h9 : k < e1 + 1 + 9
              · go_wp2_with fail
                refine (rdigit_any _ _).mono ?_
                rw [HD.out]
                rintro e w1 ⟨rfl, rfl⟩
                go_wp2_with fail
                go_round
                case rel => exact ⟨k + 1, by omega, by omega, by omega, by go_num, by rw [show k + 1 - (e1 + 1) = (k - (e1 + 1)) + 1 from by omega, Ms.dVal, show e1 + 1 + (k - (e1 + 1)) = k from by omega], by rw [show k + 1 - (e1 + 1) = (k - (e1 + 1)) + 1 from by omega, Ms.tenTo], fun j a b => (by
                    by_cases e : j = k
                    · rw [e]; exact HD.out
                    · exact hh.out.1 j a (by omega)), by rw [hh.out.2, show 9 - (k - (e1 + 1)) = (9 - (k + 1 - (e1 + 1))) + 1 from by omega, dEnd_yes HD.out]⟩
                case measure => simp [intOf]; omega
              · have hke : k = e1 + 1 + kk := by rw [← HEE.out, hh.out.2, show 9 - (k - (e1 + 1)) = 0 from by omega]; rfl
                obtain ⟨f1, f2, f3⟩ := FIN.out hke
                have F := Lib.hid (And.intro f1 (And.intro f2 f3))
                have HKE := Lib.hid hke
                clear f1 f2 f3 hke
                go_wp2_with fail
                refine (rdigit_any _ _).mono ?_
                rw [HD.out]
                rintro e w1 ⟨rfl, rfl⟩
                go_wp2_with fail
                go_meet
                exact ⟨by rw [F.out.1], by rw [F.out.2.1], by rw [F.out.2.2], by rw [HKE.out]; go_num, rfl⟩
            | false =>
              have hke : k = e1 + 1 + kk := by rw [← HEE.out, hh.out.2, dEnd_no hd]
              obtain ⟨f1, f2, f3⟩ := FIN.out hke
              have F := Lib.hid (And.intro f1 (And.intro f2 f3))
              have HKE := Lib.hid hke
              have HD := Lib.hid hd
              clear f1 f2 f3 hke hd
              by_cases hlt : k < E.s.size
              · go_wp2_with fail
                refine (rdigit_any _ _).mono ?_
                rw [HD.out]
                rintro e w1 ⟨rfl, rfl⟩
                go_wp2_with fail
                go_meet
                exact ⟨by rw [F.out.1], by rw [F.out.2.1], by rw [F.out.2.2], by rw [HKE.out]; go_num, rfl⟩
              · go_wp2_with fail
                go_meet
                exact ⟨by rw [F.out.1], by rw [F.out.2.1], by rw [F.out.2.2], by rw [HKE.out]; go_num, rfl⟩
      case rest =>
        obtain ⟨rfl, rfl, rfl, rfl, rfl⟩ := hcut
        have Ab := Ms.dVal_bd E.s p (e1 - p) (fun j a c => Ms.dEnd_dig E.s 9 p j a (by rw [HE1.out]; omega))
        have Bb := Ms.dVal_bd E.s (e1 + 1) kk HKD.out
        have t1 := Ms.tenTo_mono (m := e1 - p) (n := 9) (by omega)
        have t2 := Ms.tenTo_mono (m := kk) (n := 9) k9
        have t3 := Ms.tenTo_pos kk
        rw [Ms.tenTo9] at t1 t2
        rw [HA.out] at Ab
        rw [HBB.out] at Bb
        rw [HCC.out] at Bb t2 t3
        have pesz : pe ≤ E.s.size := by rw [← HPE.out]; unfold partEnd; split <;> omega
        by_cases h0 : e1 = p ∧ kk = 0
        · have hn : Ms.number (plainB E) p = .er 4 := by
            have h1 := HE1.out
            have h2 := HKK.out
            unfold Ms.number; simp only [plainB, h1, h2]; rw [if_pos h0]
          have hc0 : ((e1 : Int) - p + kk == 0) = true := by rw [beq_iff_eq]; omega
          have HN := Lib.hid hn
          clear hn h0 Ab Bb t1 t2 t3
          go_wp2_with fail
          go_ret3
          refine ⟨(Below.refl _ _).alloc (Nat.le_refl _) _, ?_⟩
          rw [HN.out]
          exact ⟨_, _, rfl⟩
        · have hc0 : ((e1 : Int) - p + kk == 0) = false := by rw [beq_eq_false_iff_ne]; omega
          obtain ⟨u, hu⟩ : ∃ u, (Ms.unitO (bt E.s pe) E.z E.v).getD E.one = u := ⟨_, rfl⟩
          obtain ⟨q, hq⟩ : ∃ q, (if (Ms.unitO (bt E.s pe) E.z E.v).isSome then pe + 1 else pe) = q := ⟨_, rfl⟩
          have ub : 0 ≤ u ∧ u ≤ 10000000 := by
            cases ho : Ms.unitO (bt E.s pe) E.z E.v with
            | none => rw [ho] at hu; subst hu; exact ⟨g.o0, g.o1⟩
            | some v => rw [ho] at hu; subst hu; exact unitO_bd ho g.z0 g.z1 g.v0 g.v1
          have b1 := mul_bd (x := A) (u := u) Ab.1 (by omega) ub.1 ub.2
          have b2 := mul_bd (x := B) (u := u) Bb.1 (by omega) ub.1 ub.2
          have b3 := div_bd (x := B * u) (y := C) b2.1 t3
          obtain ⟨a1, a2⟩ := b1
          obtain ⟨a3, a4⟩ := b2
          obtain ⟨a5, a6⟩ := b3
          have hnum : ∀ (bl : Bool), Ms.number { E with bl := bl } p = (match Ms.reck { E with bl := bl } (A * u + B * u / C) with | .ok n => .ok (n, q) | .er c => .er c) := fun bl =>
            number_is (E := { E with bl := bl }) HE1.out HKK.out h0 (by rw [HPE.out]; exact hu) (by rw [HPE.out]; exact hq) HA.out HBB.out HCC.out
          have hn0 : Ms.number (plainB E) p = (match Ms.within (A * u + B * u / C) with | .ok n => .ok (n, q) | .er c => .er c) := hnum false
          have hn1 : Ms.number { E with bl := true } p = .ok (0, q) := hnum true
          have hun := fun (w : World) (sc x : Int) (h : (Ms.unitO sc E.z E.v).getD E.v = x) => (show Calls Tryd.prog 30 #[.int .u8 sc, .agg #[.int .i64 E.z, .int .i64 E.v, .int .i64 E.h]] w fun e w' => e = .returned (.int .i64 x) ∧ Below w.heap.size w w' from by
            have := runit_any sc E.z E.v E.h g.z0 g.z1 w
            rw [h] at this; exact this)
          have hal : Below w.heap.size w (w.alloc (.cells #[.int .i64 E.z, .int .i64 E.v, .int .i64 E.h] 38)) := (Below.refl _ _).alloc (Nat.le_refl _) _
          obtain ⟨wb, hwb⟩ : ∃ wb, wthB (A * u + B * u / C) = wb := ⟨_, rfl⟩
          have hpost : ∀ w', Below w.heap.size w w' → RefNum E p w (if wb then .returned (.tuple #[.int .i64 (A * u + B * u / C), .int .i64 q, .int .i64 0]) else .returned (.tuple #[.int .i64 0, .int .i64 q, .int .i64 5])) w' := fun w' hb => by
            refine ⟨hb, ?_⟩
            rw [hn0]
            cases wb with
            | true =>
              rw [show Ms.within (A * u + B * u / C) = .ok (A * u + B * u / C) from if_pos (wthB_yes hwb)]
              rfl
            | false =>
              rw [show Ms.within (A * u + B * u / C) = .er 5 from wthB_no hwb]
              exact ⟨q, rfl, 0, hn1⟩
          have HPOST := Lib.hid hpost
          have HUN := Lib.hid hun
          have HWB := Lib.hid hwb
          have CC : ¬ C = 0 := by omega
          have HU := Lib.hid hu
          have HQ := Lib.hid hq
          clear hpost hun hwb hnum hn0 hn1 hu hq h0 Ab Bb t1 t2
          cases hsc : sclB (bt E.s pe) with
          | true =>
            have hlt : pe < E.s.size := by
              refine Ms.lt_of_bt fun h => ?_
              rw [h] at hsc; cases hsc
            have hq : q = pe + 1 := by rw [← HQ.out, sclB_iff, hsc]; rfl
            have hu2 : (Ms.unitO (bt E.s pe) E.z E.v).getD E.v = u := by
              have h2 := sclB_iff (bt E.s pe) E.z E.v
              rw [hsc] at h2
              have h3 := HU.out
              cases ho : Ms.unitO (bt E.s pe) E.z E.v with
              | none => rw [ho] at h2; cases h2
              | some v => rw [ho] at h3; exact h3
            subst hq
            have HS := Lib.hid hsc
            have HU2 := Lib.hid hu2
            clear hsc hu2
            go_wp2_with fail
            refine (risScale_any _ _).mono ?_
            rw [HS.out]
            rintro e w1 ⟨rfl, rfl⟩
            go_wp2_with fail
            refine (HUN.out _ _ u HU2.out).mono ?_
            rintro e w1 ⟨rfl, hb⟩
            have hk1 := hal.trans (hb.mono hal.size)
            go_wp2_with fail
            refine (rwithin_any _ _).mono ?_
            rw [HWB.out]
            rintro e w2 ⟨rfl, rfl⟩
            have hfin := Lib.hid (HPOST.out w1 hk1)
            cases wb with
            | true =>
              go_wp2_with fail
              go_ret3
              exact hfin.out
            | false =>
              go_wp2_with fail
              go_ret3
              exact hfin.out
          | false =>
            have hq : pe = q := by rw [← HQ.out, sclB_iff, hsc]; rfl
            have hu2 : (Ms.unitO c E.z E.v).getD E.v = u := by
              rw [HC.out]
              have h2 := sclB_iff (bt E.s pe) E.z E.v
              rw [hsc] at h2
              have h3 := HU.out
              cases ho : Ms.unitO (bt E.s pe) E.z E.v with
              | none => rw [ho] at h3; exact h3
              | some v => rw [ho] at h2; cases h2
            subst hq
            have HS := Lib.hid hsc
            have HU2 := Lib.hid hu2
            clear hsc hu2
            by_cases hlt : pe < E.s.size
            · go_wp2_with fail
              refine (risScale_any _ _).mono ?_
              rw [HS.out]
              rintro e w1 ⟨rfl, rfl⟩
              go_wp2_with fail
              refine (HUN.out _ _ u HU2.out).mono ?_
              rintro e w1 ⟨rfl, hb⟩
              have hk1 := hal.trans (hb.mono hal.size)
              go_wp2_with fail
              refine (rwithin_any _ _).mono ?_
              rw [HWB.out]
              rintro e w2 ⟨rfl, rfl⟩
              have hfin := Lib.hid (HPOST.out w1 hk1)
              cases wb with
              | true =>
                go_wp2_with fail
                go_ret3
                exact hfin.out
              | false =>
                go_wp2_with fail
                go_ret3
                exact hfin.out
            · go_wp2_with fail
              refine (HUN.out _ _ u HU2.out).mono ?_
              rintro e w1 ⟨rfl, hb⟩
              have hk1 := hal.trans (hb.mono hal.size)
              go_wp2_with fail
              refine (rwithin_any _ _).mono ?_
              rw [HWB.out]
              rintro e w2 ⟨rfl, rfl⟩
              have hfin := Lib.hid (HPOST.out w1 hk1)
              cases wb with
              | true =>
                go_wp2_with fail
                go_ret3
                exact hfin.out
              | false =>
                go_wp2_with fail
                go_ret3
                exact hfin.out
end Go.Proofs.YtkkcoajgpdpfkabDoor
