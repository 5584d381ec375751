/- ExpandBack, walked. -/
import Derived.Test.YtopgbbkndkincaaDoorExProt
import Derived.Test.YtopgbbkndkincaaDoorExTold
namespace Go.Proofs.YtopgbbkndkincaaDoor
open Go.RowKit Go.PlainAid Go.Shelf

theorem protect_at {s : ByteArray} (h : lineB s = true) (hs : s.size ≤ 120) {k : Nat} (hk : k < 3) (w : World) (hm : MaxAt w) : Calls Tryd.prog 11 #[.string (protN k s)] w (Makes (.tuple #[.string (protN (k + 1) s), .int .i64 0]) w) := by
  obtain ⟨h1, h2⟩ := protN_ok h hs k (by omega)
  have h3 : 120 * 2 ^ k ≤ 480 := by
    rcases (show k = 0 ∨ k = 1 ∨ k = 2 by omega) with rfl | rfl | rfl <;> decide
  exact protect_any _ h1 (by omega) w hm

/-- A teller that was asked nothing. -/
def Quiet (t : Nat) (W0 W : World) : Prop := toldSt t 0 W ∧ Left (toldTk t) W0 W
def UnP (t : Nat) (s : ByteArray) (W0 : World) (e : Ending) (W' : World) : Prop := e = .returned (.tuple #[.string s, .int .i64 0]) ∧ Quiet t W0 W'
theorem unexpand {s : ByteArray} (h : lineB (protB s) = true) {t : Nat} {W0 W : World} (hq : Quiet t W0 W) : Calls Tryd.prog 12 #[.string (protB s), .bool true, .func (.func 13) #[.pointer (some ⟨t, 0, none⟩)] #[]] W (UnP t s W0) := by
  refine (expand_some (tellerA t) (protB s) true W h hq.1).mono ?_
  rintro e W' ⟨o, b, hE, hS, hL, hO⟩
  have := ex_protB hE
  subst this
  obtain ⟨rfl, rfl⟩ := hO
  exact ⟨rfl, hS, ⟨hL.os.trans hq.2.os, hL.tape.trans hq.2.tape, hL.output.trans hq.2.output, Nat.le_trans hq.2.size hL.size, fun k hk hkt => by
    obtain ⟨e1, n1⟩ := hq.2.block k hk hkt
    obtain ⟨e2, n2⟩ := hL.block k (Nat.lt_of_lt_of_le hk hq.2.size) n1
    exact ⟨e2.trans e1, n2⟩⟩⟩

set_option maxRecDepth 100000 in
set_option maxHeartbeats 4000000 in
theorem law_back (s : ByteArray) (hs : s.size ≤ 9223372036854775807) (z : Int) (z0 : 0 ≤ z) (z1 : z ≤ 255) (W : World) (hm : MaxAt W) : Calls Tryd.prog 4 #[.string s, .int .u8 z] W (Makes (.bool true) W) := by
  have HS := Lib.hid sane_any
  obtain ⟨n, hn, hn3⟩ : ∃ n : Nat, z % 4 = n ∧ n ≤ 3 := ⟨(z % 4).toNat, by omega, by omega⟩
  by_cases h1 : 120 < s.size
  · clear hn
    go_enter Tryd.func4, Tryd.ntmps4
    go_wp2_with fail
    refine (HS.out _).mono ?_
    rintro e W3 ⟨rfl, hb⟩
    have HB2 := Lib.hid hb
    clear hb
    go_wp2_with fail
    go_ret
    exact ⟨rfl, HB2.out⟩
  · have HL := Lib.hid (rIsLine_any s hs W)
    cases hl : lineB s with
    | false =>
      rw [hl] at HL
      clear hl hn
      go_enter Tryd.func4, Tryd.ntmps4
      go_wp2_with fail
      refine HL.out.mono ?_
      rintro e W3 ⟨rfl, rfl⟩
      go_wp2_with fail
      refine (HS.out _).mono ?_
      rintro e W3 ⟨rfl, hb⟩
      have HB2 := Lib.hid hb
      clear hb
      go_wp2_with fail
      go_ret
      exact ⟨rfl, HB2.out⟩
    | true =>
      rw [hl] at HL
      have HP := Lib.hid (fun k (hk : k < 3) => protect_at hl (by omega) hk)
      have HLN := Lib.hid (fun k hk => (protN_ok hl (by omega) k hk).1)
      have HM := Lib.hid hm
      have HN := Lib.hid hn
      clear hl hn hm
      go_enter Tryd.func4, Tryd.ntmps4
      go_wp2_with fail
      refine HL.out.mono ?_
      rintro e W3 ⟨rfl, rfl⟩
      go_wp2_with fail
      simp only [HN.out]
      clear h1
      go_loopw [6, 7] (fun x i wr => ∃ k : Nat, k ≤ n ∧ x = .string (protN k s) ∧ i = .int .i64 k ∧ Hid (Below W.heap.size W wr)) (fun _ i _ => n - (intOf i).toNat)
      case atStart => exact ⟨0, by omega, rfl, rfl, Below.refl _ _⟩
      case round =>
        obtain ⟨k, hk, rfl, rfl, hb⟩ := hrel
        by_cases hlt : k < n
        · have hlz : (k : Int) < n := by omega
          have HPK := Lib.hid (HP.out k (by omega) wr (HM.out.below hb.out))
          go_wp2_with fail
          refine HPK.out.mono ?_
          rintro e w1 ⟨rfl, hb1⟩
          have HB := Lib.hid (hb.out.trans (hb1.mono hb.out.size))
          clear hb1
          go_wp2_with fail
          go_roundw
          case rel => exact ⟨k + 1, by omega, rfl, by go_num, HB⟩
          case measure => simp only [intOf]; omega
        · obtain rfl : k = n := by omega
          go_wp2_with fail
          have hq : Hid (Quiet wr.heap.size (newTeller wr) (newTeller wr)) := ⟨told_new wr, ⟨rfl, rfl, rfl, Nat.le_refl _, fun _ _ h => ⟨rfl, h⟩⟩⟩
          obtain ⟨t, ht⟩ : ∃ t, wr.heap.size = t := ⟨_, rfl⟩
          obtain ⟨w1, hw1⟩ : ∃ w1, newTeller wr = w1 := ⟨_, rfl⟩
          have HBT : Hid (∀ w2, Left (toldTk t) w1 w2 → Below W.heap.size W w2) := by
            subst ht hw1
            exact fun w2 h => hb.out.trans ((told_below h).mono hb.out.size)
          rw [ht, hw1] at hq
          simp only [newTeller, ht] at hw1 ⊢
          rw [hw1]
          clear ht hw1 HP HM HN HL hb
          have hmf : ∀ (fn : Fn) (first cap : Array Value) (w : World), (Instr.makeFunc fn first cap).run Tryd.prog w = .ok (.func fn first cap) w := fun _ _ _ _ => rfl
          go_loopw [6, 11] (fun x i wr => ∃ j : Nat, j ≤ k ∧ x = .string (protN (k - j) s) ∧ i = .int .i64 j ∧ Hid (Quiet t w1 wr)) (fun _ i _ => k - (intOf i).toNat)
          case atStart => exact ⟨0, by omega, rfl, rfl, hq⟩
          case round =>
            obtain ⟨j, hj, rfl, rfl, hqj⟩ := hrel
            clear hq
            by_cases hlt : j < k
            · have hlz : (j : Int) < k := by omega
              obtain ⟨i, hi⟩ : ∃ i, k - j = i + 1 := ⟨k - j - 1, by omega⟩
              have HU := Lib.hid (unexpand (s := protN i s) (HLN.out (i + 1) (by omega)) hqj.out)
              have hi2 : k - (j + 1) = i := by omega
              have HI2 := Lib.hid hi2
              rw [hi]
              clear hi hi2 hqj
              go_wp2_with fail
              refine HU.out.mono ?_
              rintro e w2 ⟨rfl, hq2⟩
              have HQ := Lib.hid hq2
              clear hq2
              go_wp2_with fail
              go_roundw
              case rel => exact ⟨j + 1, by omega, by rw [HI2.out], by go_num, HQ⟩
              case measure => simp only [intOf]; omega
            · obtain rfl : j = k := by omega
              rw [Nat.sub_self]
              have hq0 : (s.toList == s.toList) = true := beq_self_eq_true _
              obtain ⟨ao, cc, hcell⟩ := told_len hqj.out.1
              have HB2 := Lib.hid (HBT.out _ hqj.out.2)
              have hln := len_asks
              clear hqj
              rw [show protN 0 s = s from rfl]
              go_wp2_with fail
              refine (HS.out _).mono ?_
              rintro e W5 ⟨rfl, hb5⟩
              have HB5 := Lib.hid (HB2.out.trans (hb5.mono HB2.out.size))
              clear hb5
              go_wp2_with fail
              go_ret
              exact ⟨rfl, HB5.out⟩
end Go.Proofs.YtopgbbkndkincaaDoor
