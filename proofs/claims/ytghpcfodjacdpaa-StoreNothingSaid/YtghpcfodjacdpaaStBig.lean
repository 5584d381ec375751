/- Deeds that lie in a slice; whether they are too big. -/
import Derived.Test.YtghpcfodjacdpaaStNoth
import Derived.Deep.QuietTactic
import Derived.BigQuiet
namespace Go.Proofs.Ytghpcfodjacdpaa
open Go.RowKit Go.PlainAid Go.Maps Go.Shelf

/-- A deed's cells, behind one another. -/
structure DeedAt (b off : Nat) (d : DeedV) (w : World) : Prop where
  c0 : w.cell? ⟨b, off, none⟩ = some (.int .i64 d.act)
  c1 : w.cell? ⟨b, off + 1, none⟩ = some (.string d.name)
  c2 : w.cell? ⟨b, off + 2, none⟩ = some (.string d.other)
  c3 : w.cell? ⟨b, off + 3, none⟩ = some (.string d.text)
  c4 : w.cell? ⟨b, off + 4, none⟩ = some (.slice d.la d.ln d.lc)
  c5 : w.cell? ⟨b, off + 5, none⟩ = some (.int .i64 d.a)
  c6 : w.cell? ⟨b, off + 6, none⟩ = some (.int .i64 d.b)
theorem DeedAt.below {b off : Nat} {d : DeedV} {w w' : World} (h : DeedAt b off d w) (hb : Below w.heap.size w w') (hlt : b < w.heap.size) : DeedAt b off d w' :=
  ⟨by rw [hb.cell (p := ⟨b, _, none⟩) hlt]; exact h.c0, by rw [hb.cell (p := ⟨b, _, none⟩) hlt]; exact h.c1, by rw [hb.cell (p := ⟨b, _, none⟩) hlt]; exact h.c2, by rw [hb.cell (p := ⟨b, _, none⟩) hlt]; exact h.c3,
   by rw [hb.cell (p := ⟨b, _, none⟩) hlt]; exact h.c4, by rw [hb.cell (p := ⟨b, _, none⟩) hlt]; exact h.c5, by rw [hb.cell (p := ⟨b, _, none⟩) hlt]; exact h.c6⟩
/-- A slice of deeds, as it lies, each with its lines. -/
def DeedsAt (ao : Option Addr) (len : Nat) (D : Nat → DeedV) (X : Nat → Nat → LineV) (w : World) : Prop :=
  ∃ b off, (0 < len → ao = some ⟨b, off, none⟩ ∧ b < w.heap.size) ∧ ∀ i, i < len → DeedOk (D i) ∧ DeedAt b (off + i * 7) (D i) w ∧ LinesAt (D i).la (D i).ln (X i) w
theorem DeedsAt.below {ao : Option Addr} {len : Nat} {D : Nat → DeedV} {X : Nat → Nat → LineV} {w w' : World} (h : DeedsAt ao len D X w) (hb : Below w.heap.size w w') : DeedsAt ao len D X w' := by
  obtain ⟨b, off, h1, h2⟩ := h
  exact ⟨b, off, fun h0 => ⟨(h1 h0).1, Nat.lt_of_lt_of_le (h1 h0).2 hb.size⟩, fun i hi => ⟨(h2 i hi).1, (h2 i hi).2.1.below hb (h1 (by omega)).2, (h2 i hi).2.2.below hb⟩⟩

theorem below_drewN {B : Nat} {w w' : World} (h : Below B w w') (q : Nat) : Below B w (w'.drewN q) := ⟨h.os, h.tape, h.output, h.size, h.block⟩

def BigP (w : World) (e : Ending) (w' : World) : Prop := ∃ c, e = .returned (.bool c) ∧ Below w.heap.size w w'
set_option maxRecDepth 100000 in
set_option maxHeartbeats 4000000 in
/-- Deeds are big, or not: the call ends, and leaves what was there. -/
theorem big_any (ao : Option Addr) (len cap : Nat) (D : Nat → DeedV) (X : Nat → Nat → LineV) (w : World) (hl : len ≤ maxLen) (h : DeedsAt ao len D X w) :
    Calls Try.prog 19 #[.slice ao len cap] w (BigP w) := by
  unfold maxLen at hl
  have HD := Lib.hid h
  clear h
  go_enter Try.func19, Try.ntmps19
  go_wp2_with fail
  go_loopw [3, 4] (fun m i wr => ∃ (k : Nat) (z : Int), k ≤ len ∧ i = .int .i64 k ∧ m = .int .i64 z ∧ Hid (Below w.heap.size w wr)) (fun _ i _ => len - (intOf i).toNat)
  case atStart => exact ⟨0, 0, by omega, rfl, rfl, Below.refl _ _⟩
  case round =>
    obtain ⟨k, z, hk, rfl, rfl, hb⟩ := hrel
    by_cases hlt : k < len
    · by_cases hz : z < 6000
      · obtain ⟨b, off, h1, h2⟩ := (HD.out).below hb.out
        obtain ⟨hao, hbl⟩ := h1 (by omega)
        obtain ⟨hok, hat, hln⟩ := h2 k hlt
        have HL := Lib.hid hln
        subst hao
        have c3 := hat.c3
        have c4 := hat.c4
        have hlz : (k : Int) < len := by omega
        have hkz : (0 : Int) ≤ k := by omega
        clear h1 h2 hat hok hln
        go_wp2_with fail
        go_quiet (fail)
        have hb1 := Lib.hid (below_drewN hb.out nq)
        clear c3 c4 hb HL
        go_wp2_with fail
        go_loopw [3, 5] (fun m j wr => ∃ (t : Nat) (y : Int), j = .int .i64 t ∧ m = .int .i64 y ∧ t ≤ (D k).ln ∧ Hid (Below w.heap.size w wr)) (fun _ j _ => (D k).ln - (intOf j).toNat)
        case atStart => exact ⟨0, _, rfl, rfl, by omega, hb1⟩
        case round =>
          obtain ⟨t, y, rfl, rfl, htl, hb2⟩ := hrel
          clear hb1
          obtain ⟨b2, off2, h1, h2⟩ := (HD.out).below hb2.out
          obtain ⟨hao, hbl2⟩ := h1 (by omega)
          obtain ⟨hok, hat, hln⟩ := h2 k hlt
          cases hao
          have c4 := hat.c4
          have hln9 := hok.ln
          unfold maxLen at hln9
          by_cases htt : t < (D k).ln
          · by_cases hy : y < 6000
            · obtain ⟨lb, loff, h3, h4⟩ := hln
              obtain ⟨hla, hlb⟩ := h3 (by omega)
              obtain ⟨_, hla2⟩ := h4 t htt
              have l0 := hla2.c0
              have l4 := hla2.c4
              rw [hla] at c4
              have htz : (t : Int) < (D k).ln := by omega
              have htn : (0 : Int) ≤ t := by omega
              clear h1 h2 h3 h4 hat hok hla hla2
              go_wp2_with fail
              go_quiet (fail)
              have hb3 := Lib.hid (below_drewN hb2.out nq)
              clear c4 l0 l4 hb2
              go_wp2_with fail
              go_roundw
              case rel => exact ⟨t + 1, _, by go_num, rfl, by omega, hb3⟩
              case measure => simp only [intOf]; omega
            · clear h1 h2 hat hok hln
              go_wp2_with fail
              go_roundw
              case rel => exact ⟨k + 1, y, by omega, by go_num, rfl, hb2⟩
              case measure => simp only [intOf]; omega
          · clear h1 h2 hat hok hln
            go_wp2_with fail
            go_roundw
            case rel => exact ⟨k + 1, y, by omega, by go_num, rfl, hb2⟩
            case measure => simp only [intOf]; omega
      · go_wp2_with fail
        go_ret
        exact ⟨_, rfl, hb.out⟩
    · go_wp2_with fail
      all_goals
        go_ret
        exact ⟨_, rfl, hb.out⟩
end Go.Proofs.Ytghpcfodjacdpaa
