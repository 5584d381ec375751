/- How values and rows that came in read: values of one cell; slices of structs of such values. Over any program. -/
import Derived.ProofKit
import Derived.Deep.Fields
import Derived.Deep.Slices
import Derived.OpenShut
namespace Go.Proofs.Ytboophfcakdlcaa
open Go.ChangeShapes Go.WideShapes Go.ChangeAt Go.RowKit Go.Deep

section
variable {H : Type} {enc : TypeId × Value → H} {P : Program} {w : World} {base : Nat} {spare : Nat → Bool} {held : Bool}

/-- A value of one cell reads at a type. -/
def Reads (enc : TypeId × Value → H) (P : Program) (w : World) (base : Nat) (spare : Nat → Bool) (held : Bool) (t : TypeId) (v : Value) : Prop := ∃ n y, DataW.trod enc P w base spare held n t [v] = some y

theorem Reads.int {t : TypeId} {v : Value} (ht : P.underlying t = some (.int .i64)) (h : Reads enc P w base spare held t v) : ∃ z : Int, v = .int .i64 z ∧ -9223372036854775808 ≤ z ∧ z ≤ 9223372036854775807 := by
  obtain ⟨n, y, hy⟩ := h
  obtain ⟨z, hz, _, hw⟩ := DataW.trod_int ht hy
  simp [Lit.wf, IntKind.min, IntKind.max, IntKind.bits, IntKind.signed] at hw
  exact ⟨z, (List.cons.inj hz).1, by omega⟩
theorem Reads.string {t : TypeId} {v : Value} (ht : P.underlying t = some .string) (h : Reads enc P w base spare held t v) : ∃ s : ByteArray, v = .string s ∧ s.size ≤ maxLen := by
  obtain ⟨n, y, hy⟩ := h
  obtain ⟨s, hs, _, hm⟩ := DataW.trod_string ht hy
  exact ⟨s, (List.cons.inj hs).1, hm⟩
theorem Reads.bool {t : TypeId} {v : Value} (ht : P.underlying t = some .bool) (h : Reads enc P w base spare held t v) : ∃ b : Bool, v = .bool b := by
  obtain ⟨n, y, hy⟩ := h
  obtain ⟨b, hb, _⟩ := DataW.trod_bool ht hy
  exact ⟨b, (List.cons.inj hb).1⟩

theorem Reads.slice {t e : TypeId} {v : Value} (ht : P.underlying t = some (.slice e)) (h : Reads enc P w base spare held t v) : ∃ (ao : Option Addr) (len cap : Nat), v = .slice ao len cap ∧ len ≤ cap ∧ cap ≤ maxLen := by
  obtain ⟨n, y, hy⟩ := h
  rcases open_slice ht hy with ⟨hcs, _⟩ | ⟨a, len, cap, m, k, D, Pl, hcs, _, hl, hm, _⟩
  · exact ⟨none, 0, 0, (List.cons.inj hcs).1, Nat.le_refl _, Nat.zero_le _⟩
  · exact ⟨some a, len, cap, (List.cons.inj hcs).1, hl, hm⟩

/-- The rows of a slice: the fields of each lie one behind the other, and read. -/
def RowsOf (R : TypeId → Value → Prop) (fs : Array Field) (ao : Option Addr) (len : Nat) (w : World) : Prop :=
  ∃ b off, (0 < len → ao = some ⟨b, off, none⟩ ∧ b < w.heap.size) ∧ ∀ i, i < len → ∀ (j : Nat) (f : Field), fs[j]? = some f → ∃ v, w.cell? ⟨b, off + i * fs.size + j, none⟩ = some v ∧ R f.type v

theorem place_of {a : Addr} {v : Value} (h : w.cell? a = some v) : a = ⟨a.block, a.off, none⟩ ∧ a.block < w.heap.size := by
  refine ⟨?_, ?_⟩
  · obtain ⟨b, off, spot⟩ := a
    have := World.cell?_spot h
    subst this
    rfl
  · rcases Nat.lt_or_ge a.block w.heap.size with h' | h'
    · exact h'
    · simp [World.cell?, Array.getElem?_eq_none h'] at h

/-- A struct's cells, one a field. -/
theorem cells_of_struct {t : TypeId} {fs : Array Field} {n : Nat} {cs : List Value} {x : DataW H × List MemPlace} (hs : P.underlying t = some (.struct fs)) (hone : oneCellFields P fs = true) (hC : P.cellsOf t = fs.size)
    (h : DataW.trod enc P w base spare held n t cs = some x) : cs.length = fs.size ∧ ∀ (j : Nat) (f : Field), fs[j]? = some f → ∃ v, cs[j]? = some v ∧ Reads enc P w base spare held f.type v := by
  obtain ⟨xs, m, _, _, hcl, hlen, hg⟩ := DataW.trod_struct hs h
  rw [hC] at hcl
  refine ⟨hcl, fun j f hj => ?_⟩
  have hlt : j < fs.size := (Array.getElem?_eq_some_iff.1 hj).1
  obtain ⟨ho, hk⟩ := hone_of hone j f hj
  have h1 := hg j f hj
  have hcut : (cs.drop f.offset).take (P.cellsOf f.type) = [cs[j]'(by omega)] := by
    rw [ho, hk, List.drop_eq_getElem_cons (by omega)]
    rfl
  rw [hcut, List.getElem?_eq_getElem (show j < xs.length by omega)] at h1
  exact ⟨cs[j]'(by omega), List.getElem?_eq_getElem (by omega), m, _, h1⟩

theorem Reads.rows {t e : TypeId} {fs : Array Field} {v : Value} (ht : P.underlying t = some (.slice e)) (he : P.underlying e = some (.struct fs)) (hone : oneCellFields P fs = true) (hC : P.cellsOf e = fs.size) (hf : 0 < fs.size)
    (h : Reads enc P w base spare held t v) : ∃ (ao : Option Addr) (len cap : Nat), v = .slice ao len cap ∧ len ≤ cap ∧ cap ≤ maxLen ∧ RowsOf (Reads enc P w base spare held) fs ao len w := by
  obtain ⟨n, y, hy⟩ := h
  rcases open_slice ht hy with ⟨hcs, _⟩ | ⟨a, len, cap, m, k, D, Pl, hcs, _, hl, hm, hmm, _, hi⟩
  · refine ⟨none, 0, 0, (List.cons.inj hcs).1, Nat.le_refl _, Nat.zero_le _, 0, 0, fun h => absurd h (Nat.lt_irrefl _), fun i hi => absurd hi (Nat.not_lt_zero _)⟩
  · have hlm : len ≤ m := by rw [hmm]; split <;> omega
    have each : ∀ i, i < len → ∀ (j : Nat) (f : Field), fs[j]? = some f → ∃ v, w.cell? ((a.add (i * fs.size)).add j) = some v ∧ Reads enc P w base spare held f.type v := by
      intro i hi' j f hj
      obtain ⟨cs', hc, htr⟩ := hi i (by omega)
      rw [hC] at hc
      obtain ⟨_, hcl, hat⟩ := World.cells?_some hc
      have hlt : j < fs.size := (Array.getElem?_eq_some_iff.1 hj).1
      obtain ⟨_, hg⟩ := cells_of_struct he hone hC htr
      obtain ⟨u, hu, hr⟩ := hg j f hj
      exact ⟨u, by rw [hat j hlt, hu], hr⟩
    obtain ⟨b, off, spot⟩ := a
    refine ⟨some ⟨b, off, spot⟩, len, cap, (List.cons.inj hcs).1, hl, hm, b, off, ?_⟩
    by_cases h0 : 0 < len
    · obtain ⟨u, hu, _⟩ := each 0 h0 0 fs[0] (Array.getElem?_eq_getElem hf)
      have hp := (place_of hu).1
      have hlt := (place_of hu).2
      simp [Addr.add] at hp hlt
      subst hp
      refine ⟨fun _ => ⟨rfl, hlt⟩, fun i hi' j f hj => ?_⟩
      obtain ⟨u, hu, hr⟩ := each i hi' j f hj
      rw [add_plain, add_plain] at hu
      exact ⟨u, hu, hr⟩
    · exact ⟨fun h => absurd h h0, fun i hi => absurd hi (by omega)⟩

/-- A struct by value. -/
theorem agg_of {r : Reach} {b0 : Nat} {t : TypeId} {fs : Array Field} {v : Value} {d : DataW H} {p : List MemPlace} (hs : P.underlying t = some (.struct fs)) (hone : oneCellFields P fs = true) (hC : P.cellsOf t = fs.size)
    (hv : Value.okWide P w r b0 t v) (h : DataW.Trod enc P w base spare held t v d p) : ∃ cs : List Value, v = .agg cs.toArray ∧ cs.length = fs.size ∧ ∀ (j : Nat) (f : Field), fs[j]? = some f → ∃ u, cs[j]? = some u ∧ Reads enc P w base spare held f.type u := by
  obtain ⟨cs, rfl, _⟩ := okWide_struct hs hv
  obtain ⟨n, hn⟩ := h
  obtain ⟨h1, h2⟩ := cells_of_struct hs hone hC hn
  exact ⟨cs.toList, rfl, h1, h2⟩
end
end Go.Proofs.Ytboophfcakdlcaa
