/- An operand, walked. -/
import Derived.Test.YtkkcoajgpdpfkabDoorMsExpr
namespace Go.Proofs.YtkkcoajgpdpfkabDoor
open Go.RowKit Go.PlainAid

theorem sgn_yes {s : ByteArray} {i : Bool} {p : Nat} (h : p < s.size) (hs : Ms.sgnB (bt s p) = true) : Ms.sgnEnd s i p = Ms.sgnEnd s i (Ms.skp s i (p + 1)) := by
  rw [Ms.sgnEnd, dif_pos h, if_pos hs]
theorem sgn_no {s : ByteArray} {i : Bool} {p : Nat} (hs : Ms.sgnB (bt s p) = false) : Ms.sgnEnd s i p = p := by
  rw [Ms.sgnEnd]; split
  · rw [if_neg (by rw [hs]; simp)]
  · rfl
theorem sgn_lt {s : ByteArray} {p : Nat} (hs : Ms.sgnB (bt s p) = true) : p < s.size := Ms.lt_of_bt fun h => by rw [h] at hs; simp [Ms.sgnB] at hs
theorem back_step {E : Ms.Env} {a m : Nat} {v : Int} : Ms.signBack E a (m + 1) v = (match Ms.signed E (bt E.s (a + m)) v with | .ok v' => Ms.signBack E a m v' | .er c => .er c) := rfl

def backOf (E : Ms.Env) (a n : Nat) (r : Ms.Res (Int × Nat)) : Ms.Res (Int × Nat) := match r with
  | .er c => .er c
  | .ok (v, q) => match Ms.signBack E a n v with | .er c => .er c | .ok m => .ok (m, q)
theorem backOf_ok (E : Ms.Env) (a n : Nat) (v : Int) (q : Nat) : backOf E a n (.ok (v, q)) = (match Ms.signBack E a n v with | .er c => .er c | .ok m => .ok (m, q)) := rfl

set_option maxHeartbeats 4000000 in
theorem operand_of (k : Nat) (hun : UnsignedSpec k) : OperandSpec k := by
  intro E b p l d w g hd hk hr hp ho hb
  have hs := g.sz
  have hd0 : 0 ≤ d := by omega
  obtain ⟨i, hi⟩ : ∃ i, decide (0 < d) = i := ⟨_, rfl⟩
  have hpb := fun (w : World) (p : Nat) (l : Int) (hr : Rd E b p d l w) (hp : p ≤ E.s.size) => passBlanks_any E b p d l w hs hr hp hd0
  rw [hi] at hpb ⊢
  obtain ⟨a, ha⟩ : ∃ a, Ms.skp E.s i p = a := ⟨_, rfl⟩
  obtain ⟨t, ht⟩ : ∃ t, Ms.sgnEnd E.s i a = t := ⟨_, rfl⟩
  have asz : a ≤ E.s.size := ha ▸ skp_size E.s i p hp
  have tge : a ≤ t := ht ▸ sgnEnd_ge E.s i a
  have tsz : t ≤ E.s.size := ht ▸ sgnEnd_size E.s i a asz
  obtain ⟨r, hu⟩ : ∃ r, (if bt E.s t = 40 then Ms.brk E k (t + 1) else Ms.number E t) = r := ⟨_, rfl⟩
  have hop : Ms.operand E (Ms.brk E k) i p = backOf E a (t - a) r := by
    unfold Ms.operand; simp only [ha, ht, hu]; rfl
  have hfi : Fine E t r := by
    rw [← hu]
    split
    · rename_i h40
      have hlt : t < E.s.size := Ms.lt_of_bt (by rw [h40]; decide)
      intro v q h
      have := brk_fine E k (t + 1) hlt v q h
      omega
    · exact number_fine E t tsz
  have huc := fun (w : World) (hr : Rd E b t d l w) (ho : OpsAt w) => hun E b t l d w g hd hk hr tsz ho hb
  rw [hu] at huc
  have HP := Lib.hid hpb
  have HA := Lib.hid ha
  have HT := Lib.hid ht
  have HO := Lib.hid hop
  have HF := Lib.hid hfi
  have HU := Lib.hid huc
  rw [HO.out]
  clear hpb ha ht hop hfi huc hu hun hi hd
  go_enter Tryd.func56, Tryd.ntmps56
  go_wp2_with fail
  refine (HP.out _ p l hr hp).mono ?_
  rw [HA.out]
  rintro e w1 ⟨rfl, hm⟩
  have k1 := hm.1.c1
  go_wp2_with fail
  go_loopw [] (fun wr => ∃ j : Nat, a ≤ j ∧ j ≤ E.s.size ∧ Ms.sgnEnd E.s i a = Ms.sgnEnd E.s i j ∧ Moved E b j d l w wr) (fun wr => E.s.size - (match wr.cell? ⟨b, 1, none⟩ with | some v => (intOf v).toNat | none => 0))
  case atStart => exact ⟨a, Nat.le_refl _, asz, rfl, hm⟩
  case round =>
    obtain ⟨j, haj, hj, he, hmj⟩ := hrel
    have HE := Lib.hid he
    clear he k1
    have k1 := hmj.1.c1
    have kf := hmj.1.fz 1
    cases hsg : Ms.sgnB (bt E.s j) with
    | true =>
      have hlt : j < E.s.size := sgn_lt hsg
      have HS := Lib.hid hsg
      clear hsg
      go_wp2_with fail
      refine (peek_any E b j d l _ hs hmj.1).mono ?_
      rintro e w2 ⟨rfl, n, rfl⟩
      go_wp2_with fail
      refine (isSign_any _ _).mono ?_
      rw [HS.out]
      rintro e w2 ⟨rfl, rfl⟩
      have hm1 : Moved E b (j + 1) d l w ((wr.drewN n).setCell ⟨b, 1, none⟩ (.int .i64 (j + 1))) := ⟨(hmj.1.drewN _).set1 _, only_set (only_drewN hmj.2 _) _⟩
      go_wp2_with fail
      refine (HP.out _ (j + 1) l hm1.1 hlt).mono ?_
      rintro e w2 ⟨rfl, hm2⟩
      have k1' := hm2.1.c1
      have hge := Ms.skp_ge E.s i (j + 1)
      go_wp2_with fail
      go_roundw
      case rel => exact ⟨_, by omega, skp_size E.s i (j + 1) hlt, by rw [HE.out, sgn_yes hlt HS.out], hm1.trans hm2⟩
      case measure => rw [k1']; simp only [k1, intOf, Int.toNat_natCast]; exact meas_lt hlt hge
    | false =>
      have hjt : j = t := by rw [← HT.out, HE.out, sgn_no hsg]
      subst hjt
      have HS := Lib.hid hsg
      clear hsg
      go_wp2_with fail
      refine (peek_any E b j d l _ hs hmj.1).mono ?_
      rintro e w2 ⟨rfl, n, rfl⟩
      go_wp2_with fail
      refine (isSign_any _ _).mono ?_
      rw [HS.out]
      rintro e w2 ⟨rfl, rfl⟩
      have hm1 : Moved E b j d l w (wr.drewN n) := ⟨hmj.1.drewN _, only_drewN hmj.2 _⟩
      go_wp2_with fail
      rcases r with ⟨v, q⟩ | c
      · have hfin := HF.out v q rfl
        obtain ⟨v0, v1, q0, q1⟩ := hfin
        refine (HU.out _ hm1.1 (ho.only hm1.2 hb)).mono ?_
        rintro e w2 ⟨rfl, hm2⟩
        have hmq := hm1.trans hm2
        clear k1 kf
        have k0 := hmq.1.c0
        have hgb := get_bt E.s
        go_wp2_with fail
        go_loop [5, 6] (fun x c => ∃ (m : Nat) (y : Int), m ≤ j - a ∧ c = .int .i64 ((a : Int) + m - 1) ∧ x = .int .i64 y ∧ -1000000000 ≤ y ∧ y ≤ 1000000000 ∧ Ms.signBack E a (j - a) v = Ms.signBack E a m y) (fun _ c => (intOf c + 1).toNat - a)
        case atStart => exact ⟨j - a, v, Nat.le_refl _, by go_num, rfl, v0, v1, rfl⟩
        case round =>
          obtain ⟨m, y, hmle, rfl, rfl, y0, y1, hbk⟩ := hrel
          have HB := Lib.hid hbk
          clear hbk
          by_cases hm0 : 0 < m
          · obtain ⟨m', hmm⟩ : ∃ m', m = m' + 1 := ⟨m - 1, by omega⟩
            subst hmm
            obtain ⟨rs, hrs⟩ : ∃ rs, Ms.signed E (bt E.s (a + m')) y = rs := ⟨_, rfl⟩
            have HRS := Lib.hid hrs
            clear hrs hm0
            rcases rs with y' | c
            · have hyb := signed_bd y0 y1 HRS.out
              obtain ⟨y0', y1'⟩ := hyb
              go_wp2_with fail
              refine (signed_any E g b q d l _ _ _ hmq.1 y0 y1).mono ?_
              rw [HRS.out]
              rintro e w3 ⟨rfl, rfl⟩
              go_wp2_with fail
              go_round
              case rel => exact ⟨m', y', by omega, by go_num, rfl, y0', y1', by rw [HB.out, back_step, HRS.out]⟩
              case measure => simp only [intOf]; omega
            · have hsb : Ms.signBack E a (j - a) v = .er c := by rw [HB.out, back_step, HRS.out]
              have HFin := Lib.hid (show backOf E a (j - a) (.ok (v, q)) = .er c from by rw [backOf_ok, hsb])
              clear hsb
              go_wp2_with fail
              refine (signed_any E g b q d l _ _ _ hmq.1 y0 y1).mono ?_
              rw [HRS.out]
              rintro e w3 ⟨rfl, rfl⟩
              go_wp2
              rw [HFin.out]
              refine ⟨rfl, rfl, q, d, ?_⟩
              have hl : lastOf d (endOf (.er c) l) l = l := lastOf_same d l
              rw [hl]
              exact hmq
          · obtain rfl : m = 0 := by omega
            have hsb : Ms.signBack E a (j - a) v = .ok y := by rw [HB.out]; rfl
            have HFin := Lib.hid (show backOf E a (j - a) (.ok (v, q)) = .ok (y, q) from by rw [backOf_ok, hsb])
            clear hsb hm0
            have k1 := hmq.1.c1
            have k2 := hmq.1.c2
            have k3 := hmq.1.c3
            have kf := hmq.1.fz 3
            by_cases hdz : d = 0
            · have hl : lastOf d (endOf (.ok (y, q)) l) l = q := by unfold lastOf; rw [if_pos hdz]; rfl
              have hdb : (d == 0) = true := by simpa using hdz
              have HL := Lib.hid hl
              clear hdz hl
              go_wp2
              go_ret
              rw [HFin.out]
              refine ⟨rfl, ?_⟩
              rw [HL.out]
              exact ⟨hmq.1.set3 _, only_set hmq.2 _⟩
            · have hl : lastOf d (endOf (.ok (y, q)) l) l = l := by unfold lastOf; rw [if_neg hdz]
              have hdb : (d == 0) = false := by simpa using hdz
              have HL := Lib.hid hl
              clear hdz hl
              go_wp2
              go_ret
              rw [HFin.out]
              refine ⟨rfl, ?_⟩
              rw [HL.out]
              exact hmq
      · refine (HU.out _ hm1.1 (ho.only hm1.2 hb)).mono ?_
        rintro e w2 ⟨rfl, a', d', hm2⟩
        go_wp2
        refine ⟨rfl, rfl, a', d', ?_⟩
        have hl : lastOf d (endOf (backOf E a (j - a) (.er c)) l) l = l := lastOf_same d l
        rw [hl]
        exact hm1.trans hm2
end Go.Proofs.YtkkcoajgpdpfkabDoor
