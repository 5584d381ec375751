/- The law's argument: a deed as it came in, with its lines. -/
import Derived.Test.YtghpcfodjacdpaaStNoth
namespace Go.Proofs.Ytghpcfodjacdpaa
open Go.ChangeShapes Go.WideShapes Go.ChangeAt Go.RowKit Go.Deep

section
variable {H : Type} {enc : TypeId × Value → H} {W : World} {base : Nat} {spare : Nat → Bool} {held : Bool}
set_option maxRecDepth 100000 in
theorem lines_of_rows {fs : Array Field} (hfs : Try.prog.underlying 69 = some (.struct fs)) {ao : Option Addr} {len : Nat} (h : RowsOf (Reads enc Try.prog W base spare held) fs ao len W) : ∃ X, LinesAt ao len X W := by
  have e := hfs.symm.trans Try.underlying69
  injection e with e
  injection e with e
  subst e
  obtain ⟨b, off, h1, h2⟩ := h
  have each : ∀ i, ∃ x : LineV, i < len → LineOk x ∧ LineAt b (off + i * 5) x W := by
    intro i
    by_cases hi : i < len
    · obtain ⟨v0, c0, r0⟩ := h2 i hi 0 _ rfl
      obtain ⟨v1, c1, r1⟩ := h2 i hi 1 _ rfl
      obtain ⟨v2, c2, r2⟩ := h2 i hi 2 _ rfl
      obtain ⟨v3, c3, r3⟩ := h2 i hi 3 _ rfl
      obtain ⟨v4, c4, r4⟩ := h2 i hi 4 _ rfl
      obtain ⟨t, rfl, ht⟩ := Reads.string Try.underlying9 r0
      obtain ⟨m, rfl⟩ := Reads.bool Try.underlying4 r1
      obtain ⟨u, rfl, _⟩ := Reads.int Try.underlying3 r2
      obtain ⟨d, rfl, _⟩ := Reads.int Try.underlying3 r3
      obtain ⟨ba, bn, bc, rfl, hb1, hb2⟩ := Reads.slice Try.underlying67 r4
      exact ⟨⟨t, m, u, d, ba, bn, bc⟩, fun _ => ⟨⟨ht, Nat.le_trans hb1 hb2⟩, ⟨c0, c1, c2, c3, c4⟩⟩⟩
    · exact ⟨⟨⟨#[]⟩, false, 0, 0, none, 0, 0⟩, fun h => absurd h hi⟩
  obtain ⟨X, hX⟩ := Classical.axiomOfChoice each
  exact ⟨X, b, off, h1, fun i hi => hX i hi⟩

set_option maxRecDepth 100000 in
theorem deed_open {r : Reach} {b0 : Nat} {v : Value} {x : DataW H} {p : List MemPlace} (hv : Value.okWide Try.prog W r b0 42 v) (h : DataW.Trod enc Try.prog W base spare held 42 v x p) :
    ∃ (d : DeedV) (X : Nat → LineV), v = deedV d ∧ DeedOk d ∧ LinesAt d.la d.ln X W := by
  obtain ⟨cs, rfl, hlen, hg⟩ := agg_of Try.underlying42 (by kernel_rfl) (by kernel_rfl) hv h
  match cs, hlen, hg with
  | [c0, c1, c2, c3, c4, c5, c6], _, hg =>
    obtain ⟨u0, e0, r0⟩ := hg 0 _ rfl
    obtain ⟨u1, e1, r1⟩ := hg 1 _ rfl
    obtain ⟨u2, e2, r2⟩ := hg 2 _ rfl
    obtain ⟨u3, e3, r3⟩ := hg 3 _ rfl
    obtain ⟨u4, e4, r4⟩ := hg 4 _ rfl
    obtain ⟨u5, e5, r5⟩ := hg 5 _ rfl
    obtain ⟨u6, e6, r6⟩ := hg 6 _ rfl
    cases e0; cases e1; cases e2; cases e3; cases e4; cases e5; cases e6
    obtain ⟨z0, rfl, _⟩ := Reads.int Try.underlying3 r0
    obtain ⟨s1, rfl, h1⟩ := Reads.string Try.underlying9 r1
    obtain ⟨s2, rfl, h2⟩ := Reads.string Try.underlying9 r2
    obtain ⟨s3, rfl, h3⟩ := Reads.string Try.underlying9 r3
    obtain ⟨z5, rfl, _⟩ := Reads.int Try.underlying3 r5
    obtain ⟨z6, rfl, _⟩ := Reads.int Try.underlying3 r6
    obtain ⟨ao, len, cap, rfl, hl1, hl2, hr⟩ := Reads.rows Try.underlying23 Try.underlying69 (by kernel_rfl) (by kernel_rfl) (by decide) r4
    obtain ⟨X, hX⟩ := lines_of_rows Try.underlying69 hr
    exact ⟨⟨z0, s1, s2, s3, ao, len, cap, z5, z6⟩, X, rfl, ⟨h1, h3, Nat.le_trans hl1 hl2⟩, hX⟩
end
end Go.Proofs.Ytghpcfodjacdpaa
