/- The frames of a stack from the top: the iterator. -/
import Derived.Test.YtkocgedliakclaaDoorSoPred
import Derived.RangeFuncNested
import Derived.RangeFuncBound
import Derived.RangeFuncCalls
import Derived.RangeFuncLeaves
import Derived.RangeFuncBox
import Derived.Shelf.Abstract
import Derived.Shelf.RegionOpen
import Derived.OwnWalkIn
import Derived.TacticsInMore
import Derived.LoopNIn
import Derived.LoopIn
namespace Go.Proofs.YtkocgedliakclaaDoor
open Go.RowKit Go.PlainAid Go.Maps Go.Shelf
attribute [local go_sem] Oper.semAt_some

/-- What has come when k rounds are over. -/
def upto {α : Type} (f : Nat → α) (k : Nat) : List α := (List.range k).map f
theorem upto_succ {α : Type} (f : Nat → α) (k : Nat) : upto f (k + 1) = upto f k ++ [f k] := by simp [upto, List.range_succ]
theorem upto_length {α : Type} (f : Nat → α) (k : Nat) : (upto f k).length = k := by simp [upto]

set_option maxRecDepth 100000 in
set_option maxHeartbeats 2000000 in
theorem from1_in (n : Nat) (hn : 1 ≤ n) (l Bs n₀ b g len cap : Nat) (ao : Option Addr) (hao : 0 < len → ao = some ⟨g, 0, none⟩) (hlen : len ≤ 50) (hBs : Bs < n₀) (hb : b < n₀) (J Jx : List Nat → World → Prop)
    (hY : ∀ (pre : List Nat) (x : Nat) (W : World), x < len → J pre W → pre.length < len → YieldAt Fence.wide (n - 1) Tryd.prog l #[.int .i64 (x : Int), .pointer (some ⟨g, x * 5, none⟩)] W fun e W' =>
      (e = .returned (.bool true) ∧ J (pre ++ [x]) W' ∧ Below n₀ W W') ∨ (e = .returned (.bool false) ∧ Jx (pre ++ [x]) W'))
    (W : World) (hcB : W.cell? ⟨Bs, 0, none⟩ = some (.pointer (some ⟨b, 0, none⟩))) (hc0 : W.cell? ⟨b, 0, none⟩ = some (.bool true)) (hc1 : W.cell? ⟨b, 1, none⟩ = some (.slice ao len cap)) (h0 : J [] W) :
    CallsIn Fence.wide n Tryd.prog 57 #[.func (.yield l) #[] #[], .pointer (some ⟨Bs, 0, none⟩)] W fun e W' => (∃ v, e = .returned v) ∧
      ((∃ ys, ys = upto (fun j => len - 1 - j) len ∧ J ys W') ∨ (∃ pre, (∃ k, k ≤ len ∧ pre = upto (fun j => len - 1 - j) k) ∧ Jx pre W')) := by
  have HN := Lib.hid (skNone_any hc0)
  have HAO := Lib.hid hao
  clear hao
  refine callsIn_of_wp Tryd.func57 rfl trivial ?_ rfl
  simp only [Tryd.ntmps57, List.size_toArray, List.length_cons, List.length_nil, Nat.reduceAdd, Nat.reduceSub, Array.replicate_succ, Array.replicate_zero, List.push_toArray, List.append_toArray, List.nil_append, List.cons_append]
  gi_wp2_with (refine ⟨trivial, ?_⟩; gi_at_call 29; refine (callsIn_wide.2 HN.out).mono ?_; rintro e w' ⟨rfl, rfl⟩)
  gi_loopw [3] (fun i wr => ∃ (m k : Nat), m + k = len ∧ i = .int .i64 ((m : Int) - 1) ∧ J (upto (fun j => len - 1 - j) k) wr ∧ Below n₀ W wr)
    (fun i _ => (intOf i + 1).toNat)
  case atStart => exact ⟨len, 0, rfl, rfl, h0, Below.refl _ _⟩
  case round =>
    obtain ⟨m, k, hmk, rfl, hJs, hnx⟩ := hrel
    cases m with
    | zero =>
      have hz : ((0 : Nat) : Int) - 1 = -1 := rfl
      rw [hz]
      obtain rfl : k = len := by omega
      gi_wp2
      go_end0
      exact ⟨⟨_, rfl⟩, .inl ⟨_, rfl, hJs⟩⟩
    | succ m =>
      have hz : ((m + 1 : Nat) : Int) - 1 = (m : Int) := by omega
      rw [hz]
      have e := HAO.out (by omega)
      subst e
      have hBx := (hnx.cell (p := ⟨Bs, 0, none⟩) hBs).trans hcB
      have hbx := (hnx.cell (p := ⟨b, 1, none⟩) hb).trans hc1
      have hm : (m : Int) < len := by omega
      have hm0 : (0 : Int) ≤ m := by omega
      have hfk : len - 1 - k = m := by omega
      have HFK := Lib.hid hfk
      have HMK := Lib.hid hmk
      clear hfk hmk hz
      obtain ⟨fn, tmps, assign, body, hy, hR⟩ := hY _ m wr (by have := HMK.out; omega) hJs (by have := HMK.out; rw [upto_length]; omega)
      gi_wp2
      refine hR.mono ?_
      rintro e W3 (⟨rfl, hJ3, hk3⟩ | ⟨rfl, hJx3⟩)
      · gi_wp2
        go_roundw
        case rel => exact ⟨m, k + 1, by have := HMK.out; omega, rfl, by rw [upto_succ, HFK.out]; exact hJ3, hnx.trans hk3⟩
        case measure => simp [intOf]
      · gi_wp2
        refine bodyPost_ret (results_none rfl _ _ _) rfl ?_
        exact ⟨⟨_, rfl⟩, .inr ⟨_, ⟨k + 1, by have := HMK.out; omega, by rw [upto_succ, HFK.out]⟩, hJx3⟩⟩

theorem fromTop_any (n : Nat) (p : Option Addr) (w : World) : CallsIn Fence.wide n Tryd.prog 46 #[.pointer p] w fun e w' => e = .returned (.func (.func 57) #[] #[.pointer (some ⟨w.heap.size, 0, none⟩)]) ∧ w' = w.alloc (.cells #[.pointer p] 30) := by
  refine callsIn_of_wp Tryd.func46 rfl trivial ?_ rfl
  simp only [Tryd.ntmps46, List.size_toArray, List.length_cons, List.length_nil, Nat.reduceAdd, Nat.reduceSub, Array.replicate_succ, Array.replicate_zero, List.push_toArray, List.append_toArray, List.nil_append, List.cons_append]
  gi_wp2
  go_ret
  exact ⟨rfl, rfl⟩

theorem from_stops (n : Nat) (hn : 1 ≤ n) (Bs n₀ b g len cap : Nat) (ao : Option Addr) (hao : 0 < len → ao = some ⟨g, 0, none⟩) (hlen : len ≤ 50) (w : World) (hBs : Bs < n₀) (hb : b < n₀) (hn₀ : n₀ ≤ w.heap.size)
    (hcB : w.cell? ⟨Bs, 0, none⟩ = some (.pointer (some ⟨b, 0, none⟩))) (hc0 : w.cell? ⟨b, 0, none⟩ = some (.bool true)) (hc1 : w.cell? ⟨b, 1, none⟩ = some (.slice ao len cap)) :
    SeqStopsK Fence.wide n Tryd.prog 57 #[.pointer (some ⟨Bs, 0, none⟩)] (fun x : { x : Nat // x < len } => #[Value.int .i64 (x.1 : Int), Value.pointer (some ⟨g, x.1 * 5, none⟩)]) (Below n₀) (fun ys => ys.map (·.1) = upto (fun j => len - 1 - j) len)
      (fun pre => ∃ k, k ≤ len ∧ pre.map (·.1) = upto (fun j => len - 1 - j) k) len w := fun l J Jx W hW _ _ hY h0 => by
  have hl1 : Bs < w.heap.size := Nat.lt_of_lt_of_le hBs hn₀
  have hl2 : b < w.heap.size := Nat.lt_of_lt_of_le hb hn₀
  refine (from1_in n hn l Bs n₀ b g len cap ao hao hlen hBs hb (fun q W => ∃ la, la.map (·.1) = q ∧ J la W) (fun q W => ∃ la, la.map (·.1) = q ∧ Jx la W) ?_ W ((hW.cell (p := ⟨Bs, 0, none⟩) hl1).trans hcB) ((hW.cell (p := ⟨b, 0, none⟩) hl2).trans hc0) ((hW.cell (p := ⟨b, 1, none⟩) hl2).trans hc1) ⟨[], rfl, h0⟩).mono ?_
  · rintro pre x W1 hx ⟨la, rfl, hJ⟩ hlt
    obtain ⟨fn, tmps, assign, body, hy, hR⟩ := hY la ⟨x, hx⟩ W1 hJ (by rwa [List.length_map] at hlt)
    refine ⟨fn, tmps, assign, body, hy, hR.mono ?_⟩
    rintro e W' (⟨rfl, hJ', hk⟩ | ⟨rfl, hJx⟩)
    · exact .inl ⟨rfl, ⟨_, by rw [List.map_append]; rfl, hJ'⟩, hk⟩
    · exact .inr ⟨rfl, _, by rw [List.map_append]; rfl, hJx⟩
  · rintro e W' ⟨he, ⟨ys, rfl, la, hl, hJ⟩ | ⟨pre, ⟨k, hk, rfl⟩, la, hl, hJ⟩⟩
    · exact ⟨he, .inl ⟨la, hl, hJ⟩⟩
    · exact ⟨he, .inr ⟨la, ⟨k, hk, hl⟩, hJ⟩⟩
end Go.Proofs.YtkocgedliakclaaDoor
