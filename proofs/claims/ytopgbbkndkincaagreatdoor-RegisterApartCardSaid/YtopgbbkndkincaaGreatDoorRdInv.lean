/- Deeds as they came in, and what holds between the deeds. -/
import Derived.Test.YtopgbbkndkincaaGreatDoorRdSameWalk
namespace Go.Proofs.YtopgbbkndkincaaGreatDoor
open Go.RowKit Go.PlainAid Go.Maps

/-- A deed's cells. -/
structure DeedAt (g o : Nat) (d : DeedV) (w : World) : Prop where
  c0 : w.cell? ⟨g, o, none⟩ = some (.int .i64 d.what)
  c1 : w.cell? ⟨g, o + 1, none⟩ = some (.string d.name)
  c2 : w.cell? ⟨g, o + 2, none⟩ = some (.string d.form)
  c3 : w.cell? ⟨g, o + 3, none⟩ = some (.int .i64 d.num)
theorem DeedAt.below {A g o : Nat} {d : DeedV} {w w' : World} (h : DeedAt g o d w) (hb : Below A w w') (hg : g < A) : DeedAt g o d w' :=
  ⟨by rw [hb.cell (p := ⟨g, _, none⟩) hg]; exact h.c0, by rw [hb.cell (p := ⟨g, _, none⟩) hg]; exact h.c1, by rw [hb.cell (p := ⟨g, _, none⟩) hg]; exact h.c2, by rw [hb.cell (p := ⟨g, _, none⟩) hg]; exact h.c3⟩
def DeedsAt (ao : Option Addr) (len : Nat) (Ds : Nat → DeedV) (w : World) : Prop :=
  ∃ g off, (0 < len → ao = some ⟨g, off, none⟩ ∧ g < w.heap.size) ∧ ∀ i, i < len → DeedOk (Ds i) ∧ DeedAt g (off + i * 4) (Ds i) w
section
variable {B b mb n x : Nat} {D : DataW Unit} {v : Value} {l : List Row} {w : World}
theorem Same.nameSize (h : Same D l) (hB : BookAt b mb n D w) : ∀ r ∈ l, r.name.size ≤ 9223372036854775807 := by
  intro r hr
  have hh := (h.has r.name).2 ⟨r, hr, rfl⟩
  obtain ⟨es, rfl, hko⟩ := hB.map.keysOf
  rw [has_eq, List.any_eq_true] at hh
  obtain ⟨p, hp, hs⟩ := hh
  obtain ⟨u, hu⟩ := hko p hp
  obtain ⟨y, _, hy, hl⟩ := Maps.keyOf_str Tryz.underlying9 hu
  rw [hy] at hs
  have he : y = r.name.data.toList := by simpa [Lit.sameKey] using hs
  rw [he] at hl
  rw [Lib.size_eq]
  exact hl
theorem same_nil : Same (.map []) [] := by
  refine ⟨List.Pairwise.nil, fun s => ⟨fun h => ?_, ?_⟩, fun r hr => ?_, fun r hr => ?_⟩
  · cases h
  · rintro ⟨r, hr, _⟩
    cases hr
  · cases hr
  · cases hr
/-- What holds between the deeds. -/
def Inv (A B b mb x : Nat) (w : World) (k : Nat) (W : World) : Prop := ∃ n D v l, Two A B b mb n D x v l W ∧ Same D l ∧ n ≤ k ∧ l.length ≤ k ∧ Below A w W
theorem inv_start {w w1 : World} {b mb : Nat} (hw : Tabs w) (h1 : w.heap.size ≤ b) (h2 : w.heap.size ≤ mb) (hB : BookAt b mb 0 (.map []) w1) (hb : Below w.heap.size w w1) :
    Inv w.heap.size w1.heap.size b mb w1.heap.size w 0 (w1.alloc (.cells #[.slice none 0 0] 29)) := by
  have hb2 : Below w.heap.size w (w1.alloc (.cells #[.slice none 0 0] 29)) := hb.alloc hb.size _
  refine ⟨0, .map [], .slice none 0 0, [], ⟨hB.alloc _, ⟨heap_alloc_new _ _, World.ownsRow_nil _ _ _ _, Nat.le_refl _, by simp⟩, fun W hW => hw.below (hb2.trans hW), h1, h2, hB.lt, hB.mlt⟩, same_nil, Nat.le_refl _, by simp, hb2⟩

end
end Go.Proofs.YtopgbbkndkincaaGreatDoor
