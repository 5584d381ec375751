/- Lines that came in, with all that is in them. -/
import Derived.Test.YtkocgedliakclaaDoorDeepAid
import Derived.Test.YtkocgedliakclaaDoorStCopyPure
namespace Go.Proofs.YtkocgedliakclaaDoor
open Go.ChangeShapes Go.WideShapes Go.ChangeAt Go.RowKit Go.Deep

section
variable {H : Type} {enc : TypeId × Value → H} {W : World} {base : Nat} {spare : Nat → Bool} {held : Bool}
theorem reach_le : reachBytes ≤ 140737488355328 := by decide
theorem reach_max : reachBytes ≤ maxLen := by decide
set_option maxRecDepth 100000 in
theorem nums_in {v : Value} (h : ReadsL enc Tryd.prog W base spare held 76 v) : ∃ l : List Int, NumsRd (· < W.heap.size) v l W ∧ l.length * 8 ≤ 140737488355328 := by
  obtain ⟨ao, len, cap, rfl, h1, h2, h3, b, off, h4, h5⟩ := ReadsL.cells Tryd.underlying76 (by kernel_rfl) h
  have hb : Tryd.prog.bytesOf 3 = 8 := by kernel_rfl
  rw [hb] at h3
  have each : ∀ i, ∃ z : Int, i < len → W.cell? ⟨b, off + i, none⟩ = some (.int .i64 z) := by
    intro i
    by_cases hi : i < len
    · obtain ⟨u, hu, hr⟩ := h5 i hi
      obtain ⟨z, rfl, _⟩ := Reads.int Tryd.underlying3 hr.reads
      exact ⟨z, fun _ => hu⟩
    · exact ⟨0, fun h => absurd h hi⟩
  obtain ⟨Z, hZ⟩ := Classical.axiomOfChoice each
  have e : ((List.range len).map Z).length = len := by rw [List.length_map, List.length_range]
  refine ⟨(List.range len).map Z, ⟨ao, cap, by rw [e], by rw [e]; omega, b, off, fun h0 => h4 (by omega), fun i hi => ?_⟩, by rw [e]; exact Nat.le_trans h3 reach_le⟩
  rw [List.getElem_map, List.getElem_range]
  exact hZ i (by omega)
set_option maxRecDepth 100000 in
theorem boxes_in {v : Value} (h : ReadsL enc Tryd.prog W base spare held 35 v) : ∃ l : List BoxC, BoxesRd (· < W.heap.size) v l W ∧ l.length * 88 ≤ 140737488355328 ∧ ∀ y ∈ l, y.ns.length * 8 ≤ 140737488355328 := by
  obtain ⟨ao, len, cap, rfl, h1, h2, h3, b, off, h4, h5⟩ := ReadsL.rows Tryd.underlying35 Tryd.underlying78 (by kernel_rfl) (by kernel_rfl) (by decide) h
  have hb : Tryd.prog.bytesOf 78 = 88 := by kernel_rfl
  rw [hb] at h3
  have each : ∀ i, ∃ x : BoxC, i < len → (∃ u, BoxAt (· < W.heap.size) b (off + i * 7) x u W) ∧ x.ns.length * 8 ≤ 140737488355328 := by
    intro i
    by_cases hi : i < len
    · obtain ⟨v0, c0, r0⟩ := h5 i hi 0 _ rfl
      obtain ⟨v1, c1, r1⟩ := h5 i hi 1 _ rfl
      obtain ⟨v2, c2, r2⟩ := h5 i hi 2 _ rfl
      obtain ⟨v3, c3, r3⟩ := h5 i hi 3 _ rfl
      obtain ⟨v4, c4, r4⟩ := h5 i hi 4 _ rfl
      obtain ⟨v5, c5, r5⟩ := h5 i hi 5 _ rfl
      obtain ⟨v6, c6, r6⟩ := h5 i hi 6 _ rfl
      obtain ⟨z0, rfl, _⟩ := Reads.int Tryd.underlying3 r0.reads
      obtain ⟨z1, rfl, _⟩ := Reads.int Tryd.underlying3 r1.reads
      obtain ⟨z2, rfl, _⟩ := Reads.int Tryd.underlying3 r2.reads
      obtain ⟨z3, rfl, _⟩ := Reads.int Tryd.underlying3 r3.reads
      obtain ⟨s4, rfl, _⟩ := Reads.string Tryd.underlying9 r4.reads
      obtain ⟨s5, rfl, _⟩ := Reads.string Tryd.underlying9 r5.reads
      obtain ⟨ns, hn, hn8⟩ := nums_in r6
      exact ⟨⟨z0, z1, z2, z3, s4, s5, ns⟩, fun _ => ⟨⟨v6, c0, c1, c2, c3, c4, c5, c6, hn⟩, hn8⟩⟩
    · exact ⟨⟨0, 0, 0, 0, ⟨#[]⟩, ⟨#[]⟩, []⟩, fun h => absurd h hi⟩
  obtain ⟨Z, hZ⟩ := Classical.axiomOfChoice each
  have e : ((List.range len).map Z).length = len := by rw [List.length_map, List.length_range]
  refine ⟨(List.range len).map Z, ⟨ao, cap, by rw [e], by rw [e]; omega, b, off, fun h0 => h4 (by omega), fun i hi => ?_⟩, by rw [e]; exact Nat.le_trans h3 reach_le, fun y hy => ?_⟩
  · rw [List.getElem_map, List.getElem_range]
    exact (hZ i (by omega)).1
  · obtain ⟨i, hi, rfl⟩ := List.mem_map.1 hy
    exact (hZ i (List.mem_range.1 hi)).2
set_option maxRecDepth 100000 in
theorem lines_in {v : Value} (h : ReadsL enc Tryd.prog W base spare held 22 v) : ∃ (ao : Option Addr) (cap : Nat) (l : List LineC), v = .slice ao l.length cap ∧ LinesRd (· < W.heap.size) (.slice ao l.length cap) l W ∧ Fit l ∧ l.length ≤ cap ∧ cap ≤ maxLen ∧ ∀ x ∈ l, x.text.size ≤ reachBytes := by
  obtain ⟨ao, len, cap, rfl, h1, h2, h3, b, off, h4, h5⟩ := ReadsL.rows Tryd.underlying22 Tryd.underlying37 (by kernel_rfl) (by kernel_rfl) (by decide) h
  have hb : Tryd.prog.bytesOf 37 = 64 := by kernel_rfl
  rw [hb] at h3
  have each : ∀ i, ∃ x : LineC, i < len → (∃ u, LineIn (· < W.heap.size) b (off + i * 5) x u W) ∧ x.text.size ≤ reachBytes ∧ x.boxes.length * 88 ≤ 140737488355328 ∧ ∀ y ∈ x.boxes, y.ns.length * 8 ≤ 140737488355328 := by
    intro i
    by_cases hi : i < len
    · obtain ⟨v0, c0, r0⟩ := h5 i hi 0 _ rfl
      obtain ⟨v1, c1, r1⟩ := h5 i hi 1 _ rfl
      obtain ⟨v2, c2, r2⟩ := h5 i hi 2 _ rfl
      obtain ⟨v3, c3, r3⟩ := h5 i hi 3 _ rfl
      obtain ⟨v4, c4, r4⟩ := h5 i hi 4 _ rfl
      obtain ⟨t, rfl, ht⟩ := ReadsL.string Tryd.underlying9 r0
      obtain ⟨m, rfl⟩ := Reads.bool Tryd.underlying4 r1.reads
      obtain ⟨u, rfl, _⟩ := Reads.int Tryd.underlying3 r2.reads
      obtain ⟨d, rfl, _⟩ := Reads.int Tryd.underlying3 r3.reads
      obtain ⟨bs, hbs, hb1, hb2⟩ := boxes_in r4
      exact ⟨⟨t, m, u, d, bs⟩, fun _ => ⟨⟨v4, c0, c1, c2, c3, c4, hbs⟩, ht, hb1, hb2⟩⟩
    · exact ⟨⟨⟨#[]⟩, false, 0, 0, []⟩, fun h => absurd h hi⟩
  obtain ⟨Z, hZ⟩ := Classical.axiomOfChoice each
  have e : ((List.range len).map Z).length = len := by rw [List.length_map, List.length_range]
  have each' : ∀ x ∈ (List.range len).map Z, x.text.size ≤ reachBytes ∧ x.boxes.length * 88 ≤ 140737488355328 ∧ ∀ y ∈ x.boxes, y.ns.length * 8 ≤ 140737488355328 := fun x hx => by
    obtain ⟨i, hi, rfl⟩ := List.mem_map.1 hx
    exact (hZ i (List.mem_range.1 hi)).2
  refine ⟨ao, cap, (List.range len).map Z, by rw [e], ⟨ao, cap, rfl, by rw [e]; omega, b, off, fun h0 => h4 (by omega), fun i hi => ?_⟩, ⟨fun x hx => Nat.le_trans (each' x hx).1 reach_max, by rw [e]; exact Nat.le_trans h3 reach_le, fun x hx => (each' x hx).2.1, fun x hx => (each' x hx).2.2⟩, by rw [e]; exact h1, h2, fun x hx => (each' x hx).1⟩
  rw [List.getElem_map, List.getElem_range]
  exact (hZ i (by omega)).1
end
end Go.Proofs.YtkocgedliakclaaDoor
