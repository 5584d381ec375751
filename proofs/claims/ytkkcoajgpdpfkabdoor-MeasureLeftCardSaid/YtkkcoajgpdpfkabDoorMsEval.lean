/- Eval: the reader that it makes, what is thrown and caught at the edge. -/
import Derived.Test.YtkkcoajgpdpfkabDoorMsOperand
import Derived.Test.YtkkcoajgpdpfkabDoorMsSum
import Derived.Recover
namespace Go.Proofs.YtkkcoajgpdpfkabDoor
open Go.RowKit Go.PlainAid

theorem all_specs : ∀ k : Nat, BracketSpec k ∧ ExprSpec k
  | 0 => ⟨bracket_zero, expression_of 0 (operand_of 0 (unsigned_of 0 bracket_zero))⟩
  | k + 1 => have hb := bracket_of k (all_specs k).2
    ⟨hb, expression_of _ (operand_of _ (unsigned_of _ hb))⟩

/-- Below the heap as it was when the call began. -/
abbrev Kept (w w' : World) : Prop := Below w.heap.size w w'

def MadeRd (E : Ms.Env) (w : World) (e : Ending) (w' : World) : Prop := ∃ b, e = .returned (.pointer (some ⟨b, 0, none⟩)) ∧ w.heap.size ≤ b ∧ Rd E b 0 0 0 w' ∧ Kept w w'

set_option maxHeartbeats 1000000 in
theorem newReader_ok (s : ByteArray) (c z v h u : Int) (hv : Ms.validB z v h = true) (hu : Ms.unitO c z v = some u) (w : World) :
    Calls Tryd.prog 36 #[.string s, .int .u8 c, .agg #[.int .i64 z, .int .i64 v, .int .i64 h]] w (MadeRd ⟨s, z, v, h, u, false⟩ w) := by
  have HU := Lib.hid hu
  clear hu
  go_enter Tryd.func36, Tryd.ntmps36
  go_wp2_with fail
  refine (unit_some c z v h u hv HU.out _).mono ?_
  rintro e w1 ⟨rfl, hb⟩
  obtain ⟨hc, hf⟩ := bcell hb
  go_wp2
  go_ret
  have hsz := hb.size
  simp at hsz
  refine ⟨w1.heap.size, rfl, by omega, ?_, (((Below.refl _ _).alloc (Nat.le_refl _) _).trans (hb.mono (by simp))).alloc (by omega) _⟩
  show (w1.heap.push _)[w1.heap.size]? = _
  simp
set_option maxHeartbeats 1000000 in
theorem newReader_no (s : ByteArray) (c z v h : Int) (hn : Ms.validB z v h = false ∨ Ms.unitO c z v = none) (w : World) :
    Calls Tryd.prog 36 #[.string s, .int .u8 c, .agg #[.int .i64 z, .int .i64 v, .int .i64 h]] w fun e w' => e = thrown 1 ∧ Kept w w' := by
  have hc : ∀ w, Calls Tryd.prog 15 #[.int .u8 c, .agg #[.int .i64 z, .int .i64 v, .int .i64 h]] w (Two 0 1 w) := by
    intro w
    cases hv : Ms.validB z v h with
    | false => exact unit_bad c z v h hv w
    | true =>
      rw [hv] at hn
      exact unit_none c z v h hv (by simpa using hn) w
  have HC := Lib.hid hc
  clear hc hn
  go_enter Tryd.func36, Tryd.ntmps36
  go_wp2_with fail
  refine (HC.out _).mono ?_
  rintro e w1 ⟨rfl, hb⟩
  go_wp2
  exact ⟨rfl, rfl, ((Below.refl _ _).alloc (Nat.le_refl _) _).trans (hb.mono (by simp))⟩

/-- What Eval's own function gives, in the result's words: a value, or a throw. -/
def evalM (s : ByteArray) (c z v h : Int) : Ms.Res Int :=
  if Ms.validB z v h then (match Ms.unitO c z v with | some u => Ms.eval ⟨s, z, v, h, u, false⟩ | none => .er 1) else .er 1

def endB (s : ByteArray) (r : Ms.Res (Int × Nat)) : Ms.Res Int := match r with | .er c => .er c | .ok (v, q) => if q < s.size then .er 4 else .ok v

def KeptV (r : Ms.Res Int) (w : World) (e : Ending) (w' : World) : Prop :=
  match r with
  | .ok v => e = .returned (.int .i64 v) ∧ Kept w w'
  | .er c => e = thrown c ∧ Kept w w'

/-- Three variables that a closure has captured: a text, a scale, a context. -/
structure Caps (b0 b1 b2 : Nat) (s : ByteArray) (c z v h : Int) (w : World) : Prop where
  s0 : w.cell? ⟨b0, 0, none⟩ = some (.string s)
  s1 : w.cell? ⟨b1, 0, none⟩ = some (.int .u8 c)
  s2 : w.cell? ⟨b2, 0, none⟩ = some (.int .i64 z)
  s3 : w.cell? ⟨b2, 1, none⟩ = some (.int .i64 v)
  s4 : w.cell? ⟨b2, 2, none⟩ = some (.int .i64 h)

theorem good_of {s : ByteArray} {c z v h u : Int} (hv : Ms.validB z v h = true) (hu : Ms.unitO c z v = some u) (hs : s.size ≤ 4611686018427387904) : (⟨s, z, v, h, u, false⟩ : Ms.Env).Good := by
  simp [Ms.validB] at hv
  have := unitO_bd hu (by omega) (by omega) (by omega) (by omega)
  exact ⟨by show 0 ≤ z; omega, by show z ≤ _; omega, by show 0 ≤ v; omega, by show v ≤ _; omega, by show _ ≤ h; omega, by show h ≤ _; omega, this.1, this.2, hs⟩

set_option maxHeartbeats 2000000 in
theorem eval1_any (s : ByteArray) (hs : s.size ≤ 4611686018427387904) (c z v h : Int) (b0 b1 b2 : Nat) (w : World) (hc : Caps b0 b1 b2 s c z v h w) (ho : OpsAt w) (hg : 0 < w.heap.size) :
    Calls Tryd.prog 35 #[.pointer (some ⟨b0, 0, none⟩), .pointer (some ⟨b1, 0, none⟩), .pointer (some ⟨b2, 0, none⟩)] w (KeptV (evalM s c z v h) w) := by
  obtain ⟨k0, k1, k2, k3, k4⟩ := hc
  by_cases hn : Ms.validB z v h = false ∨ Ms.unitO c z v = none
  · have he : evalM s c z v h = .er 1 := by
      unfold evalM
      rcases hn with h1 | h1
      · rw [if_neg (by rw [h1]; simp)]
      · rw [h1]; split <;> rfl
    rw [he]
    have HN := Lib.hid hn
    clear hn he
    go_enter Tryd.func35, Tryd.ntmps35
    go_wp2_with fail
    refine (newReader_no s c z v h HN.out _).mono ?_
    rintro e w1 ⟨rfl, hb⟩
    go_wp2
    exact ⟨rfl, rfl, hb⟩
  · have hv : Ms.validB z v h = true := by
      cases hv : Ms.validB z v h with
      | true => rfl
      | false => exact absurd (.inl hv) hn
    obtain ⟨u, hu⟩ : ∃ u, Ms.unitO c z v = some u := by
      cases hu : Ms.unitO c z v with
      | some u => exact ⟨u, rfl⟩
      | none => exact absurd (.inr hu) hn
    have he : evalM s c z v h = Ms.eval ⟨s, z, v, h, u, false⟩ := by unfold evalM; rw [if_pos hv, hu]
    have g := good_of hv hu hs
    have hx := fun (b : Nat) (w : World) (hr : Rd ⟨s, z, v, h, u, false⟩ b 0 0 0 w) (ho : OpsAt w) (hb : 0 < b) => (all_specs 20).2 ⟨s, z, v, h, u, false⟩ b 0 0 0 w g (by omega) (Nat.le_refl _) hr (Nat.zero_le _) ho hb
    have hfi := sum_fine ⟨s, z, v, h, u, false⟩ (Ms.brk ⟨s, z, v, h, u, false⟩ 20) (brk_fine _ 20) false 0 0 (Nat.zero_le _)
    rw [show decide ((0 : Int) < 0) = false from rfl] at hx
    have hev : evalM s c z v h = endB s (Ms.sum ⟨s, z, v, h, u, false⟩ (Ms.brk ⟨s, z, v, h, u, false⟩ 20) false 0 0).1 := he
    rw [hev]
    generalize Ms.sum ⟨s, z, v, h, u, false⟩ (Ms.brk ⟨s, z, v, h, u, false⟩ 20) false 0 0 = rt at *
    obtain ⟨r, t⟩ := rt
    have HX := Lib.hid hx
    have HV := Lib.hid hv
    have HU := Lib.hid hu
    have HF := Lib.hid hfi
    clear hx hn hv hu he hev hfi
    rcases r with ⟨y, q⟩ | c'
    · obtain ⟨y0, y1, q0, q1⟩ := HF.out y q rfl
      have q1' : q ≤ s.size := q1
      by_cases hq : q < s.size
      · rw [show endB s (.ok (y, q)) = .er 4 from if_pos hq]
        go_enter Tryd.func35, Tryd.ntmps35
        go_wp2_with fail
        refine (newReader_ok s c z v h u HV.out HU.out _).mono ?_
        rintro e w1 ⟨b, rfl, hbb, hr, hb⟩
        go_wp2_with fail
        refine (HX.out b _ hr (ho.below hb hg) (Nat.lt_of_lt_of_le hg hbb)).mono ?_
        rintro e w2 ⟨rfl, hm⟩
        go_wp2_with fail
        refine (mustEnd_no ⟨s, z, v, h, u, false⟩ b q _ _ _ hs hm.1 hq).mono ?_
        rintro e w3 ⟨rfl, hd⟩
        go_wp2
        exact ⟨rfl, rfl, (hb.trans (hm.2.below hbb hb.size)).trans (hd.below _)⟩
      · rw [show endB s (.ok (y, q)) = .ok y from if_neg hq]
        go_enter Tryd.func35, Tryd.ntmps35
        go_wp2_with fail
        refine (newReader_ok s c z v h u HV.out HU.out _).mono ?_
        rintro e w1 ⟨b, rfl, hbb, hr, hb⟩
        go_wp2_with fail
        refine (HX.out b _ hr (ho.below hb hg) (Nat.lt_of_lt_of_le hg hbb)).mono ?_
        rintro e w2 ⟨rfl, hm⟩
        go_wp2_with fail
        refine (mustEnd_yes ⟨s, z, v, h, u, false⟩ b q _ _ _ hs hm.1 hq).mono ?_
        rintro e w3 ⟨rfl, hd⟩
        go_wp2
        go_ret
        exact ⟨rfl, (hb.trans (hm.2.below hbb hb.size)).trans (hd.below _)⟩
    · go_enter Tryd.func35, Tryd.ntmps35
      go_wp2_with fail
      refine (newReader_ok s c z v h u HV.out HU.out _).mono ?_
      rintro e w1 ⟨b, rfl, hbb, hr, hb⟩
      go_wp2_with fail
      refine (HX.out b _ hr (ho.below hb hg) (Nat.lt_of_lt_of_le hg hbb)).mono ?_
      rintro e w2 ⟨rfl, a, d', hm⟩
      go_wp2
      exact ⟨rfl, rfl, hb.trans (hm.2.below hbb hb.size)⟩
end Go.Proofs.YtkkcoajgpdpfkabDoor
