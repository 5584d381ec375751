/- Fonts that came in. -/
import Derived.Test.YtboophfcakdlcaaDeepAid
import Derived.Test.YtboophfcakdlcaaFtSameLaw
namespace Go.Proofs.Ytboophfcakdlcaa
open Go.ChangeShapes Go.WideShapes Go.ChangeAt Go.RowKit Go.Deep

section
variable {H : Type} {enc : TypeId × Value → H} {W : World} {base b0 : Nat} {r : Reach} {spare : Nat → Bool} {held : Bool}
theorem reach_small : reachBytes ≤ 1000000000000000000 := by decide
/-- Rows of structs that came in, as a list. -/
theorem row_in {α : Type} [Inhabited α] {encA : α → List Value} {k : Nat} {fs : Array Field} {ao : Option Addr} {len : Nat} {R : TypeId → Value → Prop} (hk : fs.size = k) (h : RowsOf R fs ao len W)
    (each : ∀ U : Nat → Value, (∀ j f, fs[j]? = some f → R f.type (U j)) → ∃ x : α, ∀ i v, (encA x)[i]? = some v → v = U i ∧ i < k) : ∃ xs : List α, xs.length = len ∧ RowK encA k ao xs W := by
  obtain ⟨b, off, h1, h2⟩ := h
  have hx : ∀ i, ∃ x : α, i < len → ∀ j v, (encA x)[j]? = some v → W.cell? ⟨b, off + i * k + j, none⟩ = some v := by
    intro i
    by_cases hi : i < len
    · have hu : ∀ j, ∃ v, ∀ f, fs[j]? = some f → W.cell? ⟨b, off + i * fs.size + j, none⟩ = some v ∧ R f.type v := by
        intro j
        by_cases hj : j < fs.size
        · obtain ⟨v, hv⟩ := h2 i hi j fs[j] (Array.getElem?_eq_getElem hj)
          refine ⟨v, fun f hf => ?_⟩
          rw [Array.getElem?_eq_getElem hj] at hf
          obtain rfl := Option.some.inj hf
          exact hv
        · refine ⟨.bool false, fun f hf => ?_⟩
          rw [Array.getElem?_eq_none (by omega)] at hf
          cases hf
      obtain ⟨U, hU⟩ := Classical.axiomOfChoice hu
      obtain ⟨x, hx⟩ := each U (fun j f hf => (hU j f hf).2)
      refine ⟨x, fun _ j v hv => ?_⟩
      obtain ⟨rfl, hjk⟩ := hx j v hv
      rw [← hk]
      exact (hU j _ (Array.getElem?_eq_getElem (by omega))).1
    · exact ⟨default, fun h => absurd h hi⟩
  obtain ⟨X, hX⟩ := Classical.axiomOfChoice hx
  have e : ((List.range len).map X).length = len := by rw [List.length_map, List.length_range]
  refine ⟨(List.range len).map X, e, b, off, fun h => h1 (by omega), fun j hj i v hv => ?_⟩
  rw [e] at hj
  rw [getElem!_pos _ j (by omega), List.getElem_map, List.getElem_range] at hv
  exact hX j hj i v hv
set_option maxRecDepth 100000 in
theorem glyphs_in {v : Value} (h : ReadsL enc Try.prog W base spare held 33 v) : ∃ (ao : Option Addr) (cap : Nat) (gs : List Gl), v = .slice ao gs.length cap ∧ gs.length ≤ 1000000000000000000 ∧ RowK encG 2 ao gs W := by
  obtain ⟨ao, len, cap, rfl, h1, h2, hw, h3⟩ := ReadsL.rows Try.underlying33 Try.underlying44 (by kernel_rfl) (by kernel_rfl) (by decide) h
  obtain ⟨gs, rfl, hr⟩ := row_in (encA := encG) (k := 2) rfl h3 (fun U hU => by
    obtain ⟨s, hs, _⟩ := ReadsL.string Try.underlying9 (hU 0 _ rfl)
    obtain ⟨z, hz, _⟩ := Reads.int Try.underlying3 (hU 1 _ rfl).reads
    refine ⟨⟨s.data.toList, z⟩, fun i v hv => ?_⟩
    match i, hv with
    | 0, hv => exact ⟨by rw [hs]; have := Option.some.inj hv; rw [← this], by omega⟩
    | 1, hv => exact ⟨by rw [hz]; have := Option.some.inj hv; rw [← this], by omega⟩
    | i + 2, hv => cases hv)
  have hb : Try.prog.bytesOf 44 = 24 := by kernel_rfl
  rw [hb] at hw
  have := reach_small
  exact ⟨ao, cap, gs, rfl, by omega, hr⟩
set_option maxRecDepth 100000 in
theorem ligs_in {v : Value} (h : ReadsL enc Try.prog W base spare held 34 v) : ∃ (ao : Option Addr) (cap : Nat) (ls : List Lg), v = .slice ao ls.length cap ∧ ls.length ≤ 1000000000000000000 ∧ RowK encLg 3 ao ls W := by
  obtain ⟨ao, len, cap, rfl, h1, h2, hw, h3⟩ := ReadsL.rows Try.underlying34 Try.underlying89 (by kernel_rfl) (by kernel_rfl) (by decide) h
  obtain ⟨gs, rfl, hr⟩ := row_in (encA := encLg) (k := 3) rfl h3 (fun U hU => by
    obtain ⟨a, ha, _⟩ := ReadsL.string Try.underlying9 (hU 0 _ rfl)
    obtain ⟨b, hb, _⟩ := ReadsL.string Try.underlying9 (hU 1 _ rfl)
    obtain ⟨c, hc, _⟩ := ReadsL.string Try.underlying9 (hU 2 _ rfl)
    refine ⟨⟨a.data.toList, b.data.toList, c.data.toList⟩, fun i v hv => ?_⟩
    match i, hv with
    | 0, hv => exact ⟨by rw [ha]; have := Option.some.inj hv; rw [← this], by omega⟩
    | 1, hv => exact ⟨by rw [hb]; have := Option.some.inj hv; rw [← this], by omega⟩
    | 2, hv => exact ⟨by rw [hc]; have := Option.some.inj hv; rw [← this], by omega⟩
    | i + 3, hv => cases hv)
  have hb : Try.prog.bytesOf 89 = 48 := by kernel_rfl
  rw [hb] at hw
  have := reach_small
  exact ⟨ao, cap, gs, rfl, by omega, hr⟩
set_option maxRecDepth 100000 in
theorem kerns_in {v : Value} (h : ReadsL enc Try.prog W base spare held 35 v) : ∃ (ao : Option Addr) (cap : Nat) (ks : List Kn), v = .slice ao ks.length cap ∧ ks.length ≤ 1000000000000000000 ∧ RowK encKn 3 ao ks W := by
  obtain ⟨ao, len, cap, rfl, h1, h2, hw, h3⟩ := ReadsL.rows Try.underlying35 Try.underlying90 (by kernel_rfl) (by kernel_rfl) (by decide) h
  obtain ⟨gs, rfl, hr⟩ := row_in (encA := encKn) (k := 3) rfl h3 (fun U hU => by
    obtain ⟨a, ha, _⟩ := ReadsL.string Try.underlying9 (hU 0 _ rfl)
    obtain ⟨b, hb, _⟩ := ReadsL.string Try.underlying9 (hU 1 _ rfl)
    obtain ⟨c, hc, _⟩ := Reads.int Try.underlying3 (hU 2 _ rfl).reads
    refine ⟨⟨a.data.toList, b.data.toList, c⟩, fun i v hv => ?_⟩
    match i, hv with
    | 0, hv => exact ⟨by rw [ha]; have := Option.some.inj hv; rw [← this], by omega⟩
    | 1, hv => exact ⟨by rw [hb]; have := Option.some.inj hv; rw [← this], by omega⟩
    | 2, hv => exact ⟨by rw [hc]; have := Option.some.inj hv; rw [← this], by omega⟩
    | i + 3, hv => cases hv)
  have hb : Try.prog.bytesOf 90 = 40 := by kernel_rfl
  rw [hb] at hw
  have := reach_small
  exact ⟨ao, cap, gs, rfl, by omega, hr⟩
set_option maxRecDepth 100000 in
/-- A font that came in. -/
theorem font_in {v : Value} {d : DataW H} {p : List MemPlace} (hv : Value.okWide Try.prog W r b0 37 v) (h : DataW.Trod enc Try.prog W base spare held 37 v d p) (hl : Light Try.prog 37 d) : ∃ x : FA, v = fontVal x ∧ x.ok W ∧ x.small := by
  obtain ⟨cs, rfl, _⟩ := okWide_struct Try.underlying37 hv
  obtain ⟨fuel, hf⟩ := h
  obtain ⟨hcl, hcf⟩ := cells_of_structL Try.underlying37 (by kernel_rfl) (by kernel_rfl) hf hl
  obtain ⟨u0, e0, q0⟩ := hcf 0 _ rfl
  obtain ⟨u1, e1, q1⟩ := hcf 1 _ rfl
  obtain ⟨u2, e2, q2⟩ := hcf 2 _ rfl
  obtain ⟨u3, e3, q3⟩ := hcf 3 _ rfl
  obtain ⟨u4, e4, q4⟩ := hcf 4 _ rfl
  obtain ⟨u5, e5, q5⟩ := hcf 5 _ rfl
  simp only [Value.cells] at hcl e0 e1 e2 e3 e4 e5
  have hcs : cs.toList = [u0, u1, u2, u3, u4, u5] := by
    apply List.ext_getElem?
    intro j
    match j with
    | 0 => exact e0
    | 1 => exact e1
    | 2 => exact e2
    | 3 => exact e3
    | 4 => exact e4
    | 5 => exact e5
    | j + 6 => rw [List.getElem?_eq_none (by rw [hcl]; show 6 ≤ j + 6; omega)]; rfl
  obtain rfl : cs = #[u0, u1, u2, u3, u4, u5] := Array.toList_inj.1 hcs
  obtain ⟨s, rfl, _⟩ := ReadsL.string Try.underlying9 q0
  obtain ⟨b, rfl⟩ := Reads.bool Try.underlying4 q1.reads
  obtain ⟨z, rfl, _⟩ := Reads.int Try.underlying3 q2.reads
  obtain ⟨ag, cg, gs, rfl, hg, rg⟩ := glyphs_in q3
  obtain ⟨al, cl, ls, rfl, hl, rl⟩ := ligs_in q4
  obtain ⟨ak, ck, ks, rfl, hk, rk⟩ := kerns_in q5
  refine ⟨⟨⟨s.data.toList, b, z, gs, ls, ks⟩, ag, al, ak, cg, cl, ck⟩, ?_, ⟨rg, rl, rk⟩, hg, hl, hk⟩
  show Value.agg _ = .agg #[.string (mk8 s.data.toList), _, _, _, _, _]
  rw [mk8_of]
end
end Go.Proofs.Ytboophfcakdlcaa
