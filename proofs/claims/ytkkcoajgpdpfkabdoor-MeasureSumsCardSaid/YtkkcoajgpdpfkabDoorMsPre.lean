/- HasPrefix, and the operator that stands next. -/
import Derived.Test.YtkkcoajgpdpfkabDoorMsRd2
import Derived.Lib.Strings
import Derived.Lib.IndexBytes
import Derived.Deep.RegionWith
namespace Go.Proofs.YtkkcoajgpdpfkabDoor
open Go.RowKit Go.PlainAid

set_option maxHeartbeats 400000 in
theorem hasPrefix_any (t q : ByteArray) (_ht : t.size ≤ 4611686018427387904) (w : World) :
    Calls Tryd.prog 80 #[.string t, .string q] w fun e w' => e = .returned (.bool (Lib.hasPrefix t.data.toList q.data.toList)) ∧ w' = w := by
  rw [← Lib.hasPrefix_raw]
  by_cases h : q.size ≤ t.size
  all_goals
    go_enter Tryd.func80, Tryd.ntmps80
    go_wp2
    go_ret
    exact ⟨by simp [h], rfl⟩

theorem bt_drop (s : ByteArray) (p j : Nat) : bt s (p + j) = (((s.data.toList.drop p)[j]?).map fun c => (c.toNat : Int)).getD 0 := by
  unfold bt
  rw [List.getElem?_drop]
  split
  · rename_i h
    rw [List.getElem?_eq_getElem (by simpa using h)]
    rfl
  · rename_i h
    rw [List.getElem?_eq_none (by simpa using h)]
    rfl
theorem byteq (a m : UInt8) : (m == a) = (((a.toNat : Int)) == (m.toNat : Int)) := by
  rw [Bool.eq_iff_iff]
  simp only [beq_iff_eq]
  constructor
  · intro h; rw [h]
  · intro h; apply UInt8.toNat_inj.1; omega
theorem prefix_op (s : ByteArray) (p k : Nat) (hk : k < 13) : Lib.hasPrefix (s.data.toList.drop p) (Ms.opBytes k).data.toList = Ms.opIs s p k := by
  have h0 := bt_drop s p 0
  have h1 := bt_drop s p 1
  rw [Nat.add_zero] at h0
  have hk' : k = 0 ∨ k = 1 ∨ k = 2 ∨ k = 3 ∨ k = 4 ∨ k = 5 ∨ k = 6 ∨ k = 7 ∨ k = 8 ∨ k = 9 ∨ k = 10 ∨ k = 11 ∨ k = 12 := by omega
  generalize s.data.toList.drop p = t at *
  rcases hk' with rfl | rfl | rfl | rfl | rfl | rfl | rfl | rfl | rfl | rfl | rfl | rfl | rfl
  all_goals
    simp only [Ms.opIs, h0, h1, Ms.opBytes]
    rcases t with _ | ⟨a, _ | ⟨b, t⟩⟩
    all_goals simp [Lib.hasPrefix]
  all_goals simp only [List.isPrefixOf, byteq, Bool.and_true, Bool.and_false]
  all_goals rfl

/-- The array of operators. -/
def opsArr : Array Value := #[.string ⟨#[60, 61]⟩, .string ⟨#[62, 61]⟩, .string ⟨#[61, 61]⟩, .string ⟨#[43]⟩, .string ⟨#[45]⟩, .string ⟨#[42]⟩, .string ⟨#[47]⟩, .string ⟨#[37]⟩, .string ⟨#[60]⟩, .string ⟨#[62]⟩, .string ⟨#[61]⟩, .string ⟨#[38]⟩, .string ⟨#[58]⟩]
/-- The variable 'operators' holds them. -/
def OpsAt (w : World) : Prop := ∃ t fr, w.heap[0]? = some (.cells opsArr t fr)
theorem OpsAt.below {b : Nat} {w w' : World} (h : OpsAt w) (hb : Below b w w') (h0 : 0 < b) : OpsAt w' := by
  obtain ⟨t, fr, h⟩ := h
  exact ⟨t, fr, by rw [hb.block _ h0]; exact h⟩

theorem OpsAt.only {b : Nat} {w w' : World} (h : OpsAt w) (hb : Only b w w') (h0 : 0 < b) : OpsAt w' := by
  obtain ⟨t, fr, h⟩ := h
  exact ⟨t, fr, by rw [hb.block _ (lt_of_block h) (by omega)]; exact h⟩

set_option maxRecDepth 100000 in
theorem op_index (k : Nat) (hk : k < 13) (w : World) : (Instr.index 96 (.agg opsArr) (.int .i64 k)).run Tryd.prog w = .ok (.string (Ms.opBytes k)) w := by
  have hk' : k = 0 ∨ k = 1 ∨ k = 2 ∨ k = 3 ∨ k = 4 ∨ k = 5 ∨ k = 6 ∨ k = 7 ∨ k = 8 ∨ k = 9 ∨ k = 10 ∨ k = 11 ∨ k = 12 := by omega
  rcases hk' with rfl | rfl | rfl | rfl | rfl | rfl | rfl | rfl | rfl | rfl | rfl | rfl | rfl
  all_goals rfl

theorem skp_size (s : ByteArray) (i : Bool) (p : Nat) (h : p ≤ s.size) : Ms.skp s i p ≤ s.size := by
  unfold Ms.skp; split
  · exact blanks_size s p h
  · exact h
theorem opFrom_yes {s : ByteArray} {p k : Nat} (hk : k < 13) (h : Ms.opIs s p k = true) : Ms.opFrom s p k = k := by rw [Ms.opFrom, dif_pos hk, if_pos h]
theorem opFrom_no {s : ByteArray} {p k : Nat} (hk : k < 13) (h : Ms.opIs s p k = false) : Ms.opFrom s p k = Ms.opFrom s p (k + 1) := by rw [Ms.opFrom, dif_pos hk, if_neg (by rw [h]; simp)]
theorem opFrom_13 {s : ByteArray} {p : Nat} : Ms.opFrom s p 13 = 13 := by rw [Ms.opFrom, dif_neg (by omega)]
theorem opSize {k : Nat} : (Ms.opBytes k).size ≤ 2 := by
  match k with
  | 0 | 1 | 2 | 3 | 4 | 5 | 6 | 7 | 8 | 9 | 10 | 11 | 12 => decide
  | n + 13 => show (0 : Nat) ≤ 2; omega

theorem prefix_at (s : ByteArray) (q k : Nat) (hk : k < 13) (v : Bool) (hv : Ms.opIs s q k = v) (hs : s.size ≤ 4611686018427387904) (w : World) :
    Calls Tryd.prog 80 #[.string (s.extract q s.size), .string (Ms.opBytes k)] w fun e w' => e = .returned (.bool v) ∧ w' = w := by
  have := hasPrefix_any (s.extract q s.size) (Ms.opBytes k) (by simp; omega) w
  rw [Lib.extract_to_end, prefix_op s q k hk, hv] at this
  exact this

set_option maxHeartbeats 1000000 in
theorem operator_any (E : Ms.Env) (b p : Nat) (d l : Int) (w : World) (hs : E.s.size ≤ 4611686018427387904) (hr : Rd E b p d l w) (hp : p ≤ E.s.size) (hd0 : 0 ≤ d) (ho : OpsAt w) (hb0 : 0 < b) (q : Nat) (hq : Ms.skp E.s (decide (0 < d)) p = q) :
    Calls Tryd.prog 57 #[.pointer (some ⟨b, 0, none⟩)] w fun e w' => e = .returned (.string (Ms.opBytes (Ms.opAt E.s q))) ∧ Moved E b (q + (Ms.opBytes (Ms.opAt E.s q)).size) d l w w' := by
  have HS : Hid (q ≤ E.s.size) := by rw [← hq]; exact skp_size _ _ _ hp
  have HQ := Lib.hid hq
  clear hq
  go_enter Tryd.func57, Tryd.ntmps57
  go_wp2_with fail
  refine (passBlanks_any E b p d l _ hs hr hp hd0).mono ?_
  rw [HQ.out]
  rintro e w1 ⟨rfl, hm⟩
  obtain ⟨t, fr, hg⟩ := ho.only hm.2 hb0
  go_wp2_with (refine wpList_load_row rfl 96 _ rfl 0 rfl t _ fr _ hg Tryd.underlying96 rfl (by kernel_rfl) ?_)
  go_loopw [8] (fun i wr => ∃ k : Nat, k ≤ 13 ∧ i = .int .i64 k ∧ Ms.opAt E.s q = Ms.opFrom E.s q k ∧ Moved E b q d l w wr) (fun i _ => 13 - (intOf i).toNat)
  case atStart => exact ⟨0, Nat.zero_le _, rfl, rfl, hm⟩
  case round =>
    obtain ⟨k, hk, rfl, he, hm⟩ := hrel
    have HE := Lib.hid he
    clear he hg
    have k0 := hm.1.c0
    have k1 := hm.1.c1
    have kf := hm.1.fz 1
    have hqs := HS.out
    by_cases hlt : k < 13
    · have h2 := opSize (k := k)
      have hi := op_index k hlt
      cases hd : Ms.opIs E.s q k with
      | true =>
        have HD := Lib.hid hd
        clear hd
        go_wp2
        go_quiet ((go_at_call 80; exact Calls.quiet_of_same (prefix_at E.s q k hlt true HD.out hs _)))
        go_wp2
        go_ret
        rw [HE.out, opFrom_yes hlt HD.out]
        exact ⟨rfl, (hm.1.drewN _).set1 _, only_set (only_drewN hm.2 _) _⟩
      | false =>
        have HD := Lib.hid hd
        clear hd
        go_wp2
        go_quiet ((go_at_call 80; exact Calls.quiet_of_same (prefix_at E.s q k hlt false HD.out hs _)))
        go_wp2
        go_roundw
        case rel => exact ⟨k + 1, by omega, by go_num, by rw [HE.out, opFrom_no hlt HD.out], hm.1.drewN _, only_drewN hm.2 _⟩
        case measure => simp [intOf]; omega
    · have h13 : 13 ≤ k := by omega
      go_wp2
      go_ret
      rw [HE.out, show k = 13 from by omega, opFrom_13]
      exact ⟨rfl, hm⟩
end Go.Proofs.YtkkcoajgpdpfkabDoor
