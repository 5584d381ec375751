/- SameLines, of lines that are the same: line by line, box by box. Both orders of each pair of allocations meet again in a cut. -/
import Derived.Test.YtkocgedliakclaaDoorStSame
import Derived.Deep.QuietTactic
import Derived.Deep.DeepCutAuto
import Derived.BigQuiet
import Derived.BigRegion
namespace Go.Proofs.YtkocgedliakclaaDoor
open Go.RowKit Go.PlainAid Go.Maps Go.Shelf

theorem stay_both {B : Nat} {w w1 w2 : World} (h1 : Below B w w1) (h2 : Below B w w2) : Stay (· < B) w1 w2 := fun b off hb => by
  rw [h1.cell (p := ⟨b, _, none⟩) hb, h2.cell (p := ⟨b, _, none⟩) hb]
theorem NumsRd.below {v : Value} {l : List Int} {B : Nat} {w w' : World} (h : NumsRd (· < B) v l w) (hb : Below w.heap.size w w') (hB : B ≤ w.heap.size) : NumsRd (· < w'.heap.size) v l w' :=
  (h.stay (Stay.below hb fun _ h => Nat.lt_of_lt_of_le h hB)).mono fun _ h => Nat.lt_of_lt_of_le h (Nat.le_trans hB hb.size)
theorem two_made (w : World) (a c : Obj) : Below w.heap.size w ((w.alloc a).alloc c).drew :=
  have h : Below w.heap.size w ((w.alloc a).alloc c) := ((Below.refl _ _).alloc (Nat.le_refl _) _).alloc (by simp) _
  ⟨h.os, h.tape, h.output, h.size, h.block⟩

/-- A line in a block of its own. -/
structure LineBox (p : Nat) (t : ByteArray) (m : Bool) (up dn : Int) (v : Value) (w : World) : Prop where
  c0 : w.cell? ⟨p, 0, none⟩ = some (.string t)
  c1 : w.cell? ⟨p, 1, none⟩ = some (.bool m)
  c2 : w.cell? ⟨p, 2, none⟩ = some (.int .i64 up)
  c3 : w.cell? ⟨p, 3, none⟩ = some (.int .i64 dn)
  c4 : w.cell? ⟨p, 4, none⟩ = some v
  lt : p < w.heap.size
structure BoxBox (p : Nat) (x : BoxC) (v : Value) (w : World) : Prop where
  c0 : w.cell? ⟨p, 0, none⟩ = some (.int .i64 x.kind)
  c1 : w.cell? ⟨p, 1, none⟩ = some (.int .i64 x.width)
  c2 : w.cell? ⟨p, 2, none⟩ = some (.int .i64 x.font)
  c3 : w.cell? ⟨p, 3, none⟩ = some (.int .i64 x.size)
  c4 : w.cell? ⟨p, 4, none⟩ = some (.string x.name)
  c5 : w.cell? ⟨p, 5, none⟩ = some (.string x.colour)
  c6 : w.cell? ⟨p, 6, none⟩ = some v
  lt : p < w.heap.size

set_option maxRecDepth 100000 in
set_option maxHeartbeats 8000000 in
theorem same_any (v u : Value) (l : List LineC) (w : World) (h : LinesRd (· < w.heap.size) v l w) (k : LinesRd (· < w.heap.size) u l w) : Calls Tryd.prog 28 #[v, u] w (Makes (.bool true) w) := by
  obtain ⟨ao, ac, rfl, hl, h1⟩ := h
  obtain ⟨uo, uc, rfl, _, k1⟩ := k
  unfold maxLen at hl
  have HA := Lib.hid h1
  have HB := Lib.hid k1
  clear h1 k1
  go_enter Tryd.func28, Tryd.ntmps28
  go_wp2_with fail
  go_loopw [5] (fun i wr => ∃ j : Nat, j ≤ l.length ∧ i = .int .i64 j ∧ Hid (Below w.heap.size w wr)) (fun i _ => l.length - (intOf i).toNat)
  case atStart => exact ⟨0, by omega, rfl, Below.refl _ _⟩
  case round =>
    obtain ⟨j, hj, rfl, hb⟩ := hrel
    by_cases hlt : j < l.length
    · obtain ⟨b, off, h1, h2⟩ := HA.out
      obtain ⟨c, ofg, k1, k2⟩ := HB.out
      obtain ⟨rfl, hbl⟩ := h1 (by omega)
      obtain ⟨rfl, hcl⟩ := k1 (by omega)
      obtain ⟨v1, c0⟩ := h2 j hlt
      obtain ⟨v2, d0⟩ := k2 j hlt
      obtain ⟨x, hx⟩ : ∃ x, l[j] = x := ⟨_, rfl⟩
      rw [hx] at c0 d0
      have c0 := c0.stay (Stay.below hb.out fun _ h => h) hbl
      have d0 := d0.stay (Stay.below hb.out fun _ h => h) hcl
      obtain ⟨t, m, up, dn, bs⟩ := x
      obtain ⟨c0, c1, c2, c3, c4, c5⟩ := c0
      obtain ⟨d0, d1, d2, d3, d4, d5⟩ := d0
      simp only at c0 c1 c2 c3 c4 c5 d0 d1 d2 d3 d4 d5
      obtain ⟨pa, pc, rfl, hn, hp⟩ := c5
      obtain ⟨qa, qc, rfl, _, hq⟩ := d5
      have HP := Lib.hid hp
      have HQ := Lib.hid hq
      unfold maxLen at hn
      have hlz : (j : Int) < l.length := by omega
      have hjz : (0 : Int) ≤ j := by omega
      have hlt' := Lib.hid hlt
      have hbw : b < wr.heap.size := Nat.lt_of_lt_of_le hbl hb.out.size
      have hcw : c < wr.heap.size := Nat.lt_of_lt_of_le hcl hb.out.size
      clear h1 h2 k1 k2 hx hlt hp hq HA HB
      go_upto_region 6 with fail
      go_cut [6, 7] (fun s6 s7 wx => ∃ p q : Nat, s6 = .pointer (some ⟨p, 0, none⟩) ∧ s7 = .pointer (some ⟨q, 0, none⟩) ∧ Hid (Below wr.heap.size wr wx) ∧ Hid (LineBox p t m up dn (.slice pa bs.length pc) wx) ∧ Hid (LineBox q t m up dn (.slice qa bs.length qc) wx))
      case first =>
        go_region
        all_goals
          go_wp2_with fail
          go_meet
          case rel =>
            refine ⟨_, _, rfl, rfl, two_made _ _ _, ⟨?_, ?_, ?_, ?_, ?_, ?_⟩, ⟨?_, ?_, ?_, ?_, ?_, ?_⟩⟩ <;> simp <;> omega
      case rest =>
        obtain ⟨p6, p7, rfl, rfl, hbx, HP6, HP7⟩ := hcut
        obtain ⟨w1, hw1⟩ : ∃ w1, w1 = wc := ⟨_, rfl⟩
        subst hw1
        obtain ⟨a0, a1, a2, a3, a4, h6l⟩ := HP6.out
        obtain ⟨b0, b1, b2, b3, b4, h7l⟩ := HP7.out
        have E6 := Lib.hid a4
        have E7 := Lib.hid b4
        have HW := Lib.hid (hb.out.trans (Below.mono hbx.out hb.out.size))
        clear c0 c1 c2 c3 c4 d0 d1 d2 d3 d4 HP6 HP7 hbw hcw hlz
        go_wp2_with fail
        clear a0 a1 a2 a3 a4 b0 b1 b2 b3 b4
        obtain ⟨wo, hwo⟩ : ∃ wo, wo = wr := ⟨_, rfl⟩
        subst hwo
        go_loopw [8] (fun i w2 => ∃ q : Nat, q ≤ bs.length ∧ i = .int .i64 q ∧ Hid (Below w1.heap.size w1 w2)) (fun i _ => bs.length - (intOf i).toNat)
        case atStart => exact ⟨0, by omega, rfl, Below.refl _ _⟩
        case round =>
          obtain ⟨q, hq, rfl, hb2⟩ := hrel
          have f6 := E6.out
          have f7 := E7.out
          rw [← hb2.out.cell (p := ⟨p6, 4, none⟩) h6l] at f6
          rw [← hb2.out.cell (p := ⟨p7, 4, none⟩) h7l] at f7
          have Hwr := Lib.hid (HW.out.trans (Below.mono hb2.out HW.out.size))
          by_cases hqt : q < bs.length
          · obtain ⟨pb, po, p1, p2⟩ := HP.out
            obtain ⟨qb, qo, q1, q2⟩ := HQ.out
            obtain ⟨rfl, hpl⟩ := p1 (by omega)
            obtain ⟨rfl, hql⟩ := q1 (by omega)
            obtain ⟨v1, c0⟩ := p2 q hqt
            obtain ⟨v2, d0⟩ := q2 q hqt
            obtain ⟨x, hx⟩ : ∃ x, bs[q] = x := ⟨_, rfl⟩
            rw [hx] at c0 d0
            have c0 := c0.stay (stay_both hb.out Hwr.out) hpl
            have d0 := d0.stay (stay_both hb.out Hwr.out) hql
            obtain ⟨xk, xw, xf, xs, xn, xc, ns⟩ := x
            obtain ⟨c0, c1, c2, c3, c4, c5, c6, c7⟩ := c0
            obtain ⟨d0, d1, d2, d3, d4, d5, d6, d7⟩ := d0
            simp only at c0 c1 c2 c3 c4 c5 c6 c7 d0 d1 d2 d3 d4 d5 d6 d7
            have c8 := c7
            have d8 := d7
            obtain ⟨na, nc, rfl, _⟩ := c8
            obtain ⟨oa, oc, rfl, _⟩ := d8
            have N1 := Lib.hid (fun W (h : Below wr.heap.size wr W) => c7.below h Hwr.out.size)
            have N2 := Lib.hid (fun W (h : Below wr.heap.size wr W) => d7.below h Hwr.out.size)
            have hqz : (q : Int) < bs.length := by omega
            have hqn : (0 : Int) ≤ q := by omega
            have hqt' := Lib.hid hqt
            have hpw : pb < wr.heap.size := Nat.lt_of_lt_of_le hpl Hwr.out.size
            have hqw : qb < wr.heap.size := Nat.lt_of_lt_of_le hql Hwr.out.size
            have h6w : p6 < wr.heap.size := Nat.lt_of_lt_of_le h6l hb2.out.size
            have h7w : p7 < wr.heap.size := Nat.lt_of_lt_of_le h7l hb2.out.size
            clear p1 p2 q1 q2 hx hqt c7 d7 HP HQ E6 E7 hb
            go_upto_region 12 with fail
            go_cut [9, 10] (fun s9 s10 wx => ∃ p q : Nat, s9 = .pointer (some ⟨p, 0, none⟩) ∧ s10 = .pointer (some ⟨q, 0, none⟩) ∧ Hid (Below wr.heap.size wr wx) ∧ Hid (BoxBox p ⟨xk, xw, xf, xs, xn, xc, ns⟩ (.slice na ns.length nc) wx) ∧ Hid (BoxBox q ⟨xk, xw, xf, xs, xn, xc, ns⟩ (.slice oa ns.length oc) wx))
            case first =>
              go_region
              all_goals
                go_wp2_with fail
                go_meet
                case rel =>
                  refine ⟨_, _, rfl, rfl, two_made _ _ _, ⟨?_, ?_, ?_, ?_, ?_, ?_, ?_, ?_⟩, ⟨?_, ?_, ?_, ?_, ?_, ?_, ?_, ?_⟩⟩ <;> simp <;> omega
            case rest =>
              obtain ⟨p9, p10, rfl, rfl, hb9, HP9, HP10⟩ := hcut
              obtain ⟨a0, a1, a2, a3, a4, a5, a6, _⟩ := HP9.out
              obtain ⟨b0, b1, b2, b3, b4, b5, b6, _⟩ := HP10.out
              simp only at a0 a1 a2 a3 a4 a5 b0 b1 b2 b3 b4 b5
              clear c0 c1 c2 c3 c4 c5 c6 d0 d1 d2 d3 d4 d5 d6 f6 f7 hpw hqw HP9 HP10
              go_wp2_with fail
              refine (numbers_same _ _ ns _ (N1.out _ hb9.out) (N2.out _ hb9.out)).mono ?_
              rintro e w3 ⟨rfl, hb3⟩
              have HF := Lib.hid (hb2.out.trans (Below.mono (hb9.out.trans (Below.mono hb3 hb9.out.size)) hb2.out.size))
              clear hb3 hb2 N1 N2 a0 a1 a2 a3 a4 a5 a6 b0 b1 b2 b3 b4 b5 b6
              go_wp2_with fail
              go_roundw
              case rel => exact ⟨q + 1, by have := hqt'.out; omega, by go_num, HF⟩
              case measure => have := hqt'.out; simp only [intOf]; omega
          · have hlt2 := hlt'.out
            go_wp2_with fail
            go_roundw
            case rel => exact ⟨j + 1, by omega, by go_num, Hwr⟩
            case measure => simp only [intOf]; omega
    · go_wp2_with fail
      go_ret
      exact ⟨rfl, hb.out⟩
end Go.Proofs.YtkocgedliakclaaDoor
