/- Deeds that came in; whether they are too many. -/
import Derived.Test.YtkocgedliakclaaDoorSoBig
import Derived.Test.YtkocgedliakclaaDoorStDeepArgs
namespace Go.Proofs.YtkocgedliakclaaDoor
open Go.ChangeShapes Go.WideShapes Go.ChangeAt Go.RowKit Go.Deep Go.PlainAid Go.Maps Go.Shelf

structure DeedC where
  act : Int
  num : Int
  name : ByteArray
  text : ByteArray
  lines : List LineC
  args : List ByteArray
/-- A deed's cells, behind one another, and what is in it. -/
structure DeedIn (S : Nat → Prop) (b off : Nat) (d : DeedC) (ao : Option Addr) (c : Nat) (aa : Option Addr) (ac : Nat) (w : World) : Prop where
  c0 : w.cell? ⟨b, off, none⟩ = some (.int .i64 d.act)
  c1 : w.cell? ⟨b, off + 1, none⟩ = some (.string d.name)
  c2 : w.cell? ⟨b, off + 2, none⟩ = some (.string d.text)
  c3 : w.cell? ⟨b, off + 3, none⟩ = some (.slice ao d.lines.length c)
  c4 : w.cell? ⟨b, off + 4, none⟩ = some (.slice aa d.args.length ac)
  c5 : w.cell? ⟨b, off + 5, none⟩ = some (.int .i64 d.num)
  lines : LinesRd S (.slice ao d.lines.length c) d.lines w
  args : StrsRd S (.slice aa d.args.length ac) d.args w
structure DeedFit (d : DeedC) : Prop where
  fit : Fit d.lines
  args : d.args.length * 16 ≤ 140737488355328
  text : d.text.size ≤ 140737488355328
def DeedsRd (S : Nat → Prop) (ao : Option Addr) (l : List DeedC) (w : World) : Prop :=
  ∃ b off, (0 < l.length → ao = some ⟨b, off, none⟩ ∧ S b) ∧ ∀ i (h : i < l.length), ∃ la c aa ac, DeedIn S b (off + i * 6) l[i] la c aa ac w
theorem DeedIn.lift {b off : Nat} {d : DeedC} {ao : Option Addr} {c : Nat} {aa : Option Addr} {ac : Nat} {w w' : World} (h : DeedIn (· < w.heap.size) b off d ao c aa ac w) (hb : b < w.heap.size) (hw : Below w.heap.size w w') : DeedIn (· < w'.heap.size) b off d ao c aa ac w' :=
  ⟨(hw.cell (p := ⟨b, _, none⟩) hb).trans h.c0, (hw.cell (p := ⟨b, _, none⟩) hb).trans h.c1, (hw.cell (p := ⟨b, _, none⟩) hb).trans h.c2, (hw.cell (p := ⟨b, _, none⟩) hb).trans h.c3, (hw.cell (p := ⟨b, _, none⟩) hb).trans h.c4, (hw.cell (p := ⟨b, _, none⟩) hb).trans h.c5, h.lines.lift hw, h.args.lift hw⟩

section
variable {H : Type} {enc : TypeId × Value → H} {W : World} {base : Nat} {spare : Nat → Bool} {held : Bool}
theorem strs_in {v : Value} (h : ReadsL enc Tryd.prog W base spare held 23 v) : ∃ (aa : Option Addr) (xs : List ByteArray) (ac : Nat), v = .slice aa xs.length ac ∧ StrsRd (· < W.heap.size) (.slice aa xs.length ac) xs W ∧ xs.length * 16 ≤ 140737488355328 := by
  obtain ⟨aa, xs, ac, rfl, hpl, hpm, _, b, off, h1, h2⟩ := ReadsL.strings Tryd.underlying23 Tryd.underlying9 (by kernel_rfl) h
  obtain ⟨ao', len', cap', e, _, _, hb, _⟩ := ReadsL.cells Tryd.underlying23 (by kernel_rfl) h
  cases e
  have h16 : Tryd.prog.bytesOf 9 = 16 := by kernel_rfl
  rw [h16] at hb
  exact ⟨aa, xs, ac, rfl, ⟨aa, ac, rfl, hpl, hpm, b, off, h1, h2⟩, Nat.le_trans hb reach_le⟩
set_option maxRecDepth 100000 in
theorem deeds_in {v : Value} (h : ReadsL enc Tryd.prog W base spare held 27 v) : ∃ (ao : Option Addr) (cap : Nat) (l : List DeedC), v = .slice ao l.length cap ∧ l.length ≤ maxLen ∧ DeedsRd (· < W.heap.size) ao l W ∧ ∀ d ∈ l, DeedFit d ∧ ∀ x ∈ d.lines, x.text.size ≤ 140737488355328 := by
  obtain ⟨ao, len, cap, rfl, h1, h2, h3, b, off, h4, h5⟩ := ReadsL.rows Tryd.underlying27 Tryd.underlying25 (by kernel_rfl) (by kernel_rfl) (by decide) h
  have each : ∀ i, ∃ x : DeedC, i < len → (∃ la c aa ac, DeedIn (· < W.heap.size) b (off + i * 6) x la c aa ac W) ∧ DeedFit x ∧ ∀ y ∈ x.lines, y.text.size ≤ 140737488355328 := by
    intro i
    by_cases hi : i < len
    · obtain ⟨v0, c0, r0⟩ := h5 i hi 0 _ rfl
      obtain ⟨v1, c1, r1⟩ := h5 i hi 1 _ rfl
      obtain ⟨v2, c2, r2⟩ := h5 i hi 2 _ rfl
      obtain ⟨v3, c3, r3⟩ := h5 i hi 3 _ rfl
      obtain ⟨v4, c4, r4⟩ := h5 i hi 4 _ rfl
      obtain ⟨v5, c5, r5⟩ := h5 i hi 5 _ rfl
      obtain ⟨k, rfl, _⟩ := Reads.int Tryd.underlying3 r0.reads
      obtain ⟨s, rfl, _⟩ := ReadsL.string Tryd.underlying9 r1
      obtain ⟨t, rfl, ht⟩ := ReadsL.string Tryd.underlying9 r2
      obtain ⟨la, c, l, rfl, hr, hft, _, _, hx⟩ := lines_in r3
      obtain ⟨aa, xs, ac, rfl, hs, hs16⟩ := strs_in r4
      obtain ⟨z, rfl, _⟩ := Reads.int Tryd.underlying3 r5.reads
      exact ⟨⟨k, z, s, t, l, xs⟩, fun _ => ⟨⟨la, c, aa, ac, c0, c1, c2, c3, c4, c5, hr, hs⟩, ⟨hft, hs16, Nat.le_trans ht reach_le⟩, fun y hy => Nat.le_trans (hx y hy) reach_le⟩⟩
    · exact ⟨⟨0, 0, ⟨#[]⟩, ⟨#[]⟩, [], []⟩, fun h => absurd h hi⟩
  obtain ⟨Z, hZ⟩ := Classical.axiomOfChoice each
  have e : ((List.range len).map Z).length = len := by rw [List.length_map, List.length_range]
  refine ⟨ao, cap, (List.range len).map Z, by rw [e], by rw [e]; omega, ⟨b, off, fun h0 => h4 (by omega), fun i hi => ?_⟩, fun x hx => ?_⟩
  · rw [List.getElem_map, List.getElem_range]
    exact (hZ i (by omega)).1
  · obtain ⟨i, hi, rfl⟩ := List.mem_map.1 hx
    exact (hZ i (List.mem_range.1 hi)).2
end

def BigsP (w : World) (e : Ending) (w' : World) : Prop := ∃ q, e = .returned (.bool q) ∧ Below w.heap.size w w'
set_option maxRecDepth 100000 in
set_option maxHeartbeats 8000000 in
/-- Deeds are big, or not: the call ends, and leaves what was there. -/
theorem bigs_any (ao : Option Addr) (cap : Nat) (D : List DeedC) (w : World) (hl : D.length ≤ maxLen) (h : DeedsRd (· < w.heap.size) ao D w) (hft : ∀ d ∈ D, DeedFit d) :
    Calls Tryd.prog 7 #[.slice ao D.length cap] w (BigsP w) := by
  unfold maxLen at hl
  have HD := Lib.hid h
  have HF := Lib.hid hft
  clear h hft
  go_enter Tryd.func7, Tryd.ntmps7
  go_wp2_with fail
  go_loopw [3, 4] (fun m i wr => ∃ (k : Nat) (z : Int), k ≤ D.length ∧ i = .int .i64 k ∧ m = .int .i64 z ∧ Hid (Below w.heap.size w wr)) (fun _ i _ => D.length - (intOf i).toNat)
  case atStart => exact ⟨0, 0, by omega, rfl, rfl, Below.refl _ _⟩
  case round =>
    obtain ⟨k, z, hk, rfl, rfl, hb⟩ := hrel
    by_cases hlt : k < D.length
    · by_cases hz : z < 8000
      · obtain ⟨b, off, h1, h2⟩ := HD.out
        obtain ⟨rfl, hbl⟩ := h1 (by omega)
        obtain ⟨la, c, aa, ac, hat⟩ := h2 k hlt
        obtain ⟨d, hd⟩ : ∃ d, D[k] = d := ⟨_, rfl⟩
        have hfit := HF.out _ (List.getElem_mem hlt)
        rw [hd] at hat hfit
        have hl9 := hfit.fit.lines
        have ha9 := hfit.args
        have ht9 := hfit.text
        have HAT := Lib.hid hat
        have e2 := (hb.out.cell (p := ⟨b, _, none⟩) hbl).trans hat.c2
        have e3 := (hb.out.cell (p := ⟨b, _, none⟩) hbl).trans hat.c3
        have e4 := (hb.out.cell (p := ⟨b, _, none⟩) hbl).trans hat.c4
        have hlz : (k : Int) < D.length := by omega
        have hkz : (0 : Int) ≤ k := by omega
        clear h1 h2 hat hfit hd
        go_wp2_with fail
        go_quiet (fail)
        have hb1 := Lib.hid (below_drewN' hb.out nq)
        clear e2 e3 e4 hb
        go_wp2_with fail
        go_loopw [3, 5] (fun m j wr => ∃ (t : Nat) (y : Int), j = .int .i64 t ∧ m = .int .i64 y ∧ t ≤ d.lines.length ∧ Hid (Below w.heap.size w wr)) (fun _ j _ => d.lines.length - (intOf j).toNat)
        case atStart => exact ⟨0, _, rfl, rfl, by omega, hb1⟩
        case round =>
          obtain ⟨t, y, rfl, rfl, htl, hb2⟩ := hrel
          clear hb1
          have e3 := (hb2.out.cell (p := ⟨b, _, none⟩) hbl).trans HAT.out.c3
          by_cases htt : t < d.lines.length
          · by_cases hy : y < 8000
            · obtain ⟨ao', cap', e, _, b2, off2, g1, g2⟩ := HAT.out.lines
              cases e
              obtain ⟨rfl, hbl2⟩ := g1 (by omega)
              obtain ⟨bv, hln⟩ := g2 t htt
              obtain ⟨x, hx⟩ : ∃ x, d.lines[t] = x := ⟨_, rfl⟩
              rw [hx] at hln
              obtain ⟨y1, y2, rfl⟩ : ∃ y1 y2, bv = .slice y1 x.boxes.length y2 := by obtain ⟨_, _, rfl, _⟩ := hln.boxes; exact ⟨_, _, rfl⟩
              have l0 := (hb2.out.cell (p := ⟨b2, _, none⟩) hbl2).trans hln.c0
              have l4 := (hb2.out.cell (p := ⟨b2, _, none⟩) hbl2).trans hln.c4
              have htz : (t : Int) < d.lines.length := by omega
              have htn : (0 : Int) ≤ t := by omega
              clear g1 g2 hln hx
              go_wp2_with fail
              go_quiet (fail)
              have hb3 := Lib.hid (below_drewN' hb2.out nq)
              clear e3 l0 l4 hb2
              go_wp2_with fail
              go_roundw
              case rel => exact ⟨t + 1, _, by go_num, rfl, by omega, hb3⟩
              case measure => simp only [intOf]; omega
            · go_wp2_with fail
              go_roundw
              case rel => exact ⟨k + 1, y, by omega, by go_num, rfl, hb2⟩
              case measure => simp only [intOf]; omega
          · go_wp2_with fail
            go_roundw
            case rel => exact ⟨k + 1, y, by omega, by go_num, rfl, hb2⟩
            case measure => simp only [intOf]; omega
      · go_wp2_with fail
        go_ret
        exact ⟨_, rfl, hb.out⟩
    · go_wp2_with fail
      all_goals
        go_ret
        exact ⟨_, rfl, hb.out⟩
end Go.Proofs.YtkocgedliakclaaDoor
