/- Orders of glyphs, ligatures, kerns; lists in memory; do they ascend. -/
import Derived.Test.YtboophfcakdlcaaFtLeaf
import Derived.Deep.LoopGhost
namespace Go.Proofs.Ytboophfcakdlcaa
open Go.RowKit Go.PlainAid Go.Shelf

def encG (g : Gl) : List Value := [.string (mk8 g.nm), .int .i64 g.wd]
def encLg (l : Lg) : List Value := [.string (mk8 l.a), .string (mk8 l.b), .string (mk8 l.is)]
def encKn (k : Kn) : List Value := [.string (mk8 k.a), .string (mk8 k.b), .int .i64 k.more]
/-- Elements of k cells, one behind the other. -/
def RowK {α : Type} [Inhabited α] (enc : α → List Value) (k : Nat) (ao : Option Addr) (xs : List α) (w : World) : Prop :=
  ∃ b off, (0 < xs.length → ao = some ⟨b, off, none⟩ ∧ b < w.heap.size) ∧ ∀ j, j < xs.length → ∀ i v, (enc xs[j]!)[i]? = some v → w.cell? ⟨b, off + j * k + i, none⟩ = some v
theorem RowK.below {α : Type} [Inhabited α] {enc : α → List Value} {k : Nat} {ao : Option Addr} {xs : List α} {w w' : World} (h : RowK enc k ao xs w) (hb : Below w.heap.size w w') : RowK enc k ao xs w' := by
  obtain ⟨b, off, h1, h2⟩ := h
  refine ⟨b, off, fun hp => ⟨(h1 hp).1, Nat.lt_of_lt_of_le (h1 hp).2 hb.size⟩, fun j hj i v hv => ?_⟩
  have hlt := (h1 (by omega)).2
  rw [← h2 j hj i v hv]
  exact hb.cell (p := ⟨b, off + j * k + i, none⟩) hlt
theorem RowK.nil {α : Type} [Inhabited α] {enc : α → List Value} {k : Nat} {w : World} : RowK (α := α) enc k none [] w := ⟨0, 0, fun h => absurd h (by simp), fun j hj => absurd hj (by simp)⟩

set_option maxRecDepth 100000 in
set_option maxHeartbeats 2000000 in
theorem byName_any (x y : Gl) (w : World) : Calls Try.prog 62 #[.agg (encG x).toArray, .agg (encG y).toArray] w (Makes (.int .i64 (cmpG x y)) w) := by
  obtain ⟨a, m⟩ := x
  obtain ⟨b, n⟩ := y
  have HC := Lib.hid (fun w => compare_any a b w)
  show Calls _ _ #[.agg #[.string (mk8 a), .int .i64 m], .agg #[.string (mk8 b), .int .i64 n]] w (Makes (.int .i64 (cmpL a b)) w)
  obtain ⟨z, hz⟩ : ∃ z, cmpL a b = z := ⟨_, rfl⟩
  simp only [hz] at HC
  rw [hz]
  clear hz
  go_enter Try.func62, Try.ntmps62
  go_wp2_with fail
  refine (HC.out _).mono ?_
  rintro e w1 ⟨rfl, rfl⟩
  go_wp2_with fail
  go_ret
  exact ⟨rfl, ((Below.refl _ _).alloc (Nat.le_refl _) _).alloc (by simp) _⟩
end Go.Proofs.Ytboophfcakdlcaa
