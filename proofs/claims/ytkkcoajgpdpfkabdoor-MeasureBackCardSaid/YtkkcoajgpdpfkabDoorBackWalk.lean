/- MeasureBack's walk. -/
import Derived.Test.YtkkcoajgpdpfkabDoorBkPure
import Derived.Test.YtkkcoajgpdpfkabDoorTxSame
import Derived.Test.YtkkcoajgpdpfkabDoorLawAid
import Derived.Test.YtkkcoajgpdpfkabDoorMsSane
namespace Go.Proofs.YtkkcoajgpdpfkabDoor
open Go.RowKit Go.PlainAid Go.Shelf

/-- What the calls give for the text S of k in a scale. -/
structure BackCalls (k : Nat) (z v c : Int) (S : ByteArray) : Prop where
  text : ∀ w, PowAt w → Calls Tryd.prog 12 #[.int .i64 k, .int .u8 c] w (TextIs S w)
  eval : ∀ w, OpsAt w → 0 < w.heap.size → Calls Tryd.prog 18 #[.string S, .int .u8 118, .agg #[.int .i64 z, .int .i64 v, .int .i64 0]] w fun e w' => e = .returned (.tuple #[.int .i64 k, .int .i64 0]) ∧ Kept w w'
theorem back_calls {k : Nat} {z v c : Int} {S : ByteArray} (h : BackIs k z v c S) : BackCalls k z v c S := ⟨h.text, fun w ho hg => by
  have he := eval_any S (by have := h.le; omega) 118 z v 0 w ho hg
  rw [h.eval] at he
  exact he⟩

set_option maxRecDepth 100000 in
set_option maxHeartbeats 2000000 in
theorem back_walk (n s t h z v f : Int) (k : Nat) (S T : ByteArray) (w : World) (hk : f = k) (e1 : wrap64 ((IntKind.u64.wrap n).tmod 1000000000) = f) (e2 : wrap64 ((IntKind.u64.wrap s).tmod 1001) = z) (e3 : wrap64 ((IntKind.u64.wrap t).tmod 1001) = v)
    (_hz0 : 0 ≤ z) (_hz1 : z < 1001) (_hv0 : 0 ≤ v) (_hv1 : v < 1001) (_hk1 : k < 1000000000)
    (ho : OpsAt w) (hg : 0 < w.heap.size) (hp : PowAt w) (HS : Hid (BackCalls k z v 117 S)) (HT : Hid (BackCalls k z v 112 T)) :
    Calls Tryd.prog 6 #[.int .i64 n, .agg #[.int .i64 s, .int .i64 t, .int .i64 h]] w (fun e w' => e = .returned (.bool true) ∧ Kept w w') := by
  subst hk
  have HO := Lib.hid ho
  have HP := Lib.hid hp
  clear ho hp
  go_enter Tryd.func6, Tryd.ntmps6
  go_wp2_with fail
  simp only [e1, e2, e3]
  clear e1 e2 e3
  have hb0 : TBox z v 0 (w.heap.size + 1) ((w.alloc (.cells #[.int .i64 s, .int .i64 t, .int .i64 h] 23)).alloc (.cells #[.int .i64 z, .int .i64 v, .int .i64 0] 23)) := by refine ⟨?_, ?_, ?_, ?_⟩ <;> simp [go_sem]
  have hk0 : Kept w ((w.alloc (.cells #[.int .i64 s, .int .i64 t, .int .i64 h] 23)).alloc (.cells #[.int .i64 z, .int .i64 v, .int .i64 0] 23)) := ((Below.refl _ _).alloc (Nat.le_refl _) _).alloc (by simp) _
  go_loopw [7] (fun x wr => ∃ i : Nat, i ≤ 2 ∧ x = .int .i64 i ∧ TBox z v 0 (w.heap.size + 1) wr ∧ Kept w wr) (fun x _ => 2 - (intOf x).toNat)
  case atStart => exact ⟨0, by omega, rfl, hb0, hk0⟩
  case round =>
    obtain ⟨i, hi, rfl, hbx, hkr⟩ := hrel
    have h012 : i = 0 ∨ i = 1 ∨ i = 2 := by omega
    rcases h012 with rfl | rfl | rfl
    · go_wp2_with fail
      refine (HS.out.text _ (HP.out.below hkr)).mono ?_
      rintro e w2 ⟨rfl, b2⟩
      have hk2 := kept_step hkr b2
      obtain ⟨q0, q1, q2, ql⟩ := hbx.below b2
      go_wp2_with fail
      refine (HS.out.eval _ (HO.out.below hk2 hg) (Nat.lt_of_lt_of_le hg hk2.size)).mono ?_
      rintro e w3 ⟨rfl, b3⟩
      have hk3 := kept_step hk2 b3
      have hb3 := TBox.below (show TBox z v 0 (w.heap.size + 1) w2 from ⟨q0, q1, q2, ql⟩) b3
      go_wp2_with fail
      go_roundw
      case rel => exact ⟨1, by omega, by go_num, hb3, hk3⟩
      case measure => simp only [intOf]; omega
    · go_wp2_with fail
      refine (HT.out.text _ (HP.out.below hkr)).mono ?_
      rintro e w2 ⟨rfl, b2⟩
      have hk2 := kept_step hkr b2
      obtain ⟨q0, q1, q2, ql⟩ := hbx.below b2
      go_wp2_with fail
      refine (HT.out.eval _ (HO.out.below hk2 hg) (Nat.lt_of_lt_of_le hg hk2.size)).mono ?_
      rintro e w3 ⟨rfl, b3⟩
      have hk3 := kept_step hk2 b3
      have hb3 := TBox.below (show TBox z v 0 (w.heap.size + 1) w2 from ⟨q0, q1, q2, ql⟩) b3
      go_wp2_with fail
      go_roundw
      case rel => exact ⟨2, by omega, by go_num, hb3, hk3⟩
      case measure => simp only [intOf]; omega
    · go_wp2_with fail
      refine (sane_any _ (HO.out.below hkr hg) (Nat.lt_of_lt_of_le hg hkr.size)).mono ?_
      rintro e w7 ⟨rfl, b7⟩
      go_wp2_with fail
      go_ret
      exact ⟨rfl, kept_step hkr b7⟩

theorem back_law (n s t h : Int) (w : World) (ho : OpsAt w) (hg : 0 < w.heap.size) (hp : PowAt w) :
    Calls Tryd.prog 6 #[.int .i64 n, .agg #[.int .i64 s, .int .i64 t, .int .i64 h]] w (fun e w' => e = .returned (.bool true) ∧ Kept w w') := by
  obtain ⟨k, e1, hk⟩ := umod n 1000000000 (by omega) (by omega)
  obtain ⟨z, e2, hz⟩ := umod s 1001 (by omega) (by omega)
  obtain ⟨v, e3, hv⟩ := umod t 1001 (by omega) (by omega)
  have hv0 : Ms.validB z v 0 = true := valid_ctx (by omega) (by omega) (by omega) (by omega)
  obtain ⟨S, HS⟩ := back_u (k := k) (by omega) hv0
  obtain ⟨T, HT⟩ := back_p (k := k) (by omega) hv0
  exact back_walk n s t h z v k k S T w rfl e1 e2 e3 (by omega) hz (by omega) hv (by omega) ho hg hp (back_calls HS) (back_calls HT)
end Go.Proofs.YtkkcoajgpdpfkabDoor
