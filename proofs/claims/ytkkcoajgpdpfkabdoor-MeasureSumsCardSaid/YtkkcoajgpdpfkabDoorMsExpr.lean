/- What stands behind a bracket, an operand, an expression: walked. -/
import Derived.Test.YtkkcoajgpdpfkabDoorMsDone
import Derived.Test.YtkkcoajgpdpfkabDoorMsBd
namespace Go.Proofs.YtkkcoajgpdpfkabDoor
open Go.RowKit Go.PlainAid

/-- Where the last operand outside of brackets ended. -/
def lastOf (d : Int) (t l : Nat) : Nat := if d = 0 then t else l

theorem lastOf_same (d : Int) (l : Nat) : lastOf d l l = l := by unfold lastOf; split <;> rfl

/-- What a reader's method that reads operands leaves: the result, and where the last operand outside of brackets ended. -/
def AfterL (E : Ms.Env) (b : Nat) (d : Int) (l : Nat) (w : World) (r : Ms.Res (Int × Nat)) (t : Nat) (e : Ending) (w' : World) : Prop :=
  match r with
  | .ok (v, q) => e = .returned (.int .i64 v) ∧ Moved E b q d (lastOf d t l) w w'
  | .er c => e = thrown c ∧ ∃ (a : Nat) (d' : Int), Moved E b a d' (lastOf d t l) w w'

def endOf (r : Ms.Res (Int × Nat)) (l : Nat) : Nat := match r with | .ok (_, q) => q | .er _ => l

def BracketSpec (k : Nat) : Prop := ∀ (E : Ms.Env) (b p l : Nat) (d : Int) (w : World), E.Good → d = 20 - k → k ≤ 20 → Rd E b p d l w → p ≤ E.s.size → OpsAt w → 0 < b →
  Calls Tryd.prog 93 #[.pointer (some ⟨b, 0, none⟩)] w (After E b d l l w (Ms.brk E k p))
def UnsignedSpec (k : Nat) : Prop := ∀ (E : Ms.Env) (b p l : Nat) (d : Int) (w : World), E.Good → d = 20 - k → k ≤ 20 → Rd E b p d l w → p ≤ E.s.size → OpsAt w → 0 < b →
  Calls Tryd.prog 78 #[.pointer (some ⟨b, 0, none⟩)] w (After E b d l l w (if bt E.s p = 40 then Ms.brk E k (p + 1) else Ms.number E p))
def OperandSpec (k : Nat) : Prop := ∀ (E : Ms.Env) (b p l : Nat) (d : Int) (w : World), E.Good → d = 20 - k → k ≤ 20 → Rd E b p d l w → p ≤ E.s.size → OpsAt w → 0 < b →
  Calls Tryd.prog 56 #[.pointer (some ⟨b, 0, none⟩)] w (AfterL E b d l w (Ms.operand E (Ms.brk E k) (decide (0 < d)) p) (endOf (Ms.operand E (Ms.brk E k) (decide (0 < d)) p) l))
def ExprSpec (k : Nat) : Prop := ∀ (E : Ms.Env) (b p l : Nat) (d : Int) (w : World), E.Good → d = 20 - k → k ≤ 20 → Rd E b p d l w → p ≤ E.s.size → OpsAt w → 0 < b →
  Calls Tryd.prog 37 #[.pointer (some ⟨b, 0, none⟩)] w (AfterL E b d l w (Ms.sum E (Ms.brk E k) (decide (0 < d)) p l).1 (Ms.sum E (Ms.brk E k) (decide (0 < d)) p l).2)

def closeB (s : ByteArray) (r : Ms.Res (Int × Nat)) : Ms.Res (Int × Nat) := match r with | .er c => .er c | .ok (v, q) => if bt s q = 41 then .ok (v, q + 1) else .er 4

set_option maxHeartbeats 400000 in
theorem unsigned_of (k : Nat) (hbr : BracketSpec k) : UnsignedSpec k := by
  intro E b p l d w g hd hk hr hp ho hb
  have hs := g.sz
  by_cases h40 : bt E.s p = 40
  · rw [if_pos h40]
    have hlt : p < E.s.size := Ms.lt_of_bt (by rw [h40]; decide)
    obtain ⟨r, hrr⟩ : ∃ r, Ms.brk E k (p + 1) = r := ⟨_, rfl⟩
    rw [hrr]
    have HR := Lib.hid hrr
    have H4 := Lib.hid h40
    have HD := Lib.hid hd
    clear h40 hrr hd
    rcases r with ⟨v, q⟩ | c
    · go_enter Tryd.func78, Tryd.ntmps78
      go_wp2_with fail
      refine (takes_yes E b p d l 40 _ hs hr hlt H4.out).mono ?_
      rintro e w1 ⟨rfl, hm⟩
      go_wp2_with fail
      refine (hbr E b (p + 1) l d _ g HD.out hk hm.1 hlt (ho.only hm.2 hb) hb).mono ?_
      rw [HR.out]
      rintro e w2 ⟨rfl, hm2⟩
      go_wp2
      go_ret
      exact ⟨rfl, hm.trans hm2⟩
    · go_enter Tryd.func78, Tryd.ntmps78
      go_wp2_with fail
      refine (takes_yes E b p d l 40 _ hs hr hlt H4.out).mono ?_
      rintro e w1 ⟨rfl, hm⟩
      go_wp2_with fail
      refine (hbr E b (p + 1) l d _ g HD.out hk hm.1 hlt (ho.only hm.2 hb) hb).mono ?_
      rw [HR.out]
      rintro e w2 ⟨rfl, a, d', hm2⟩
      go_wp2
      exact ⟨rfl, rfl, a, d', hm.trans hm2⟩
  · rw [if_neg h40]
    obtain ⟨r, hrr⟩ : ∃ r, Ms.number E p = r := ⟨_, rfl⟩
    rw [hrr]
    have HR := Lib.hid hrr
    have H4 := Lib.hid h40
    clear h40 hrr hd
    rcases r with ⟨v, q⟩ | c
    · go_enter Tryd.func78, Tryd.ntmps78
      go_wp2_with fail
      refine (takes_no E b p d l 40 _ hs hr hp H4.out).mono ?_
      rintro e w1 ⟨rfl, hm⟩
      have hr1 := hm.rd hr
      have hb1 := hm.only b
      go_wp2_with fail
      refine (number_any E g b p d l _ hr1 hp).mono ?_
      rw [HR.out]
      rintro e w2 ⟨rfl, hm2⟩
      go_wp2
      go_ret
      exact ⟨rfl, hm2.1, hb1.trans hm2.2⟩
    · go_enter Tryd.func78, Tryd.ntmps78
      go_wp2_with fail
      refine (takes_no E b p d l 40 _ hs hr hp H4.out).mono ?_
      rintro e w1 ⟨rfl, hm⟩
      have hr1 := hm.rd hr
      have hb1 := hm.only b
      go_wp2_with fail
      refine (number_any E g b p d l _ hr1 hp).mono ?_
      rw [HR.out]
      rintro e w2 ⟨rfl, a, d', hm2⟩
      go_wp2
      exact ⟨rfl, rfl, a, d', hm2.1, hb1.trans hm2.2⟩

set_option maxHeartbeats 400000 in
theorem bracket_zero : BracketSpec 0 := by
  intro E b p l d w g hd hk hr hp ho hb
  obtain rfl : d = 20 := by omega
  clear hd hk
  have k2 := hr.c2
  rw [show Ms.brk E 0 p = .er 4 from rfl]
  go_enter Tryd.func93, Tryd.ntmps93
  go_wp2
  exact ⟨rfl, rfl, p, 20, hr, Only.refl _ _⟩

set_option maxHeartbeats 400000 in
theorem bracket_of (k : Nat) (hex : ExprSpec k) : BracketSpec (k + 1) := by
  intro E b p l d w g hd hk hr hp ho hb
  have hs := g.sz
  have hd1 : ¬ d = 20 := by omega
  have hd2 : (d == 20) = false := by simpa using hd1
  have hd3 : d + 1 = 20 - (k : Int) := by omega
  have hd4 : 0 ≤ d := by omega
  have hd5 : d ≤ 19 := by omega
  have k2 := hr.c2
  have kf2 := hr.fz 2
  have hins : decide (0 < d + 1) = true := by simp; omega
  have hl0 : ∀ t, lastOf (d + 1) t l = l := fun t => by unfold lastOf; rw [if_neg (by omega)]
  have hc := hex E b p l (d + 1)
  rw [hins] at hc
  obtain ⟨r, hrr⟩ : ∃ r, (Ms.sum E (Ms.brk E k) true p l).1 = r := ⟨_, rfl⟩
  have hse : (Ms.sum E (Ms.brk E k) true p 0).1 = r := by rw [← hrr]; unfold Ms.sum; split <;> rfl
  have hbk : Ms.brk E (k + 1) p = closeB E.s r := by rw [Ms.brk, hse]; rfl
  rw [hbk]
  have hfi := sum_fine E (Ms.brk E k) (brk_fine E k) true p l hp
  rw [hrr] at hfi hc
  have HC := Lib.hid hc
  have H3 := Lib.hid hd3
  have HL := Lib.hid hl0
  have HF := Lib.hid hfi
  clear hd hrr hse hbk hc hd1 hins hd3 hl0 hfi
  rcases r with ⟨v, q⟩ | c
  · have hfin := HF.out v q rfl
    have hq : q ≤ E.s.size := hfin.2.2.2
    clear hfin
    by_cases h41 : bt E.s q = 41
    · rw [show closeB E.s (.ok (v, q)) = .ok (v, q + 1) from if_pos h41]
      have hlt : q < E.s.size := Ms.lt_of_bt (by rw [h41]; decide)
      have H4 := Lib.hid h41
      clear h41
      go_enter Tryd.func93, Tryd.ntmps93
      go_wp2_with fail
      refine (HC.out _ g H3.out (by omega) (hr.set2 _) hp (ho.only (only_set (Only.refl b w) _) hb) hb).mono ?_
      rintro e w1 ⟨rfl, hm⟩
      rw [HL.out] at hm
      clear k2 kf2
      go_wp2_with fail
      refine (mustTake_yes E b q (d + 1) l 41 _ hs hm.1 hlt H4.out).mono ?_
      rintro e w2 ⟨rfl, hm2⟩
      have k2 := hm2.1.c2
      have kf2 := hm2.1.fz 2
      have hdd : d + 1 - 1 = d := by omega
      go_wp2
      go_ret
      refine ⟨rfl, hm2.1.set2 _, only_set (((only_set (Only.refl b w) _).trans hm.2).trans hm2.2) _⟩
    · rw [show closeB E.s (.ok (v, q)) = .er 4 from if_neg h41]
      have H4 := Lib.hid h41
      clear h41
      go_enter Tryd.func93, Tryd.ntmps93
      go_wp2_with fail
      refine (HC.out _ g H3.out (by omega) (hr.set2 _) hp (ho.only (only_set (Only.refl b w) _) hb) hb).mono ?_
      rintro e w1 ⟨rfl, hm⟩
      rw [HL.out] at hm
      clear k2 kf2
      go_wp2_with fail
      refine (mustTake_no E b q (d + 1) l 41 _ hs hm.1 hq H4.out).mono ?_
      rintro e w2 ⟨rfl, hm2⟩
      go_wp2
      exact ⟨rfl, rfl, _, _, hm2.rd hm.1, ((only_set (Only.refl b w) _).trans hm.2).trans (hm2.only b)⟩
  · rw [show closeB E.s (.er c) = .er c from rfl]
    go_enter Tryd.func93, Tryd.ntmps93
    go_wp2_with fail
    refine (HC.out _ g H3.out (by omega) (hr.set2 _) hp (ho.only (only_set (Only.refl b w) _) hb) hb).mono ?_
    rintro e w1 ⟨rfl, a, d', hm⟩
    rw [HL.out] at hm
    go_wp2
    exact ⟨rfl, rfl, a, d', hm.1, (only_set (Only.refl b w) _).trans hm.2⟩
end Go.Proofs.YtkkcoajgpdpfkabDoor
