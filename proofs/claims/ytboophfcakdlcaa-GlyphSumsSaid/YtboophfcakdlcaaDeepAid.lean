/- How values that came in read, with the weights of all that is in them: slices of structs in one another. Over any program. -/
import Derived.Test.YtboophfcakdlcaaReadAid
import Derived.SizedLaws
import Derived.Lib.Strings
namespace Go.Proofs.Ytboophfcakdlcaa
open Go.ChangeShapes Go.WideShapes Go.ChangeAt Go.RowKit Go.Deep

section
variable {H : Type} {enc : TypeId × Value → H} {P : Program} {w : World} {base : Nat} {spare : Nat → Bool} {held : Bool}

/-- Nothing in a datum is too long. -/
def Light (P : Program) (t : TypeId) (d : DataW H) : Prop := ∀ n ∈ d.weights P t, n ≤ reachBytes
theorem weights_all {e : TypeId} {n : Nat} {d : DataW H} : ∀ {l : List (DataW H)}, d ∈ l → n ∈ d.weights P e → n ∈ DataW.weightsAll P e l
  | c :: r, h, hn => by
    simp only [DataW.weightsAll, List.mem_append]
    rcases List.mem_cons.1 h with rfl | h
    · exact .inl hn
    · exact .inr (weights_all h hn)
theorem light_elem {t e : TypeId} {l k : List (DataW H)} {d : DataW H} (ht : P.underlying t = some (.slice e)) (h : Light P t (.slice l k)) (hd : d ∈ l) : Light P e d := fun n hn => h n (by
  simp only [DataW.weights, ht, List.mem_cons, List.mem_append]
  exact .inr (.inl (weights_all hd hn)))
theorem light_len {t e : TypeId} {l k : List (DataW H)} (ht : P.underlying t = some (.slice e)) (h : Light P t (.slice l k)) : l.length * P.bytesOf e ≤ reachBytes :=
  Nat.le_trans (Nat.mul_le_mul_right _ (Nat.le_add_right _ _)) (h ((l.length + k.length) * P.bytesOf e) (by simp [DataW.weights, ht]))
theorem light_part {t : TypeId} {fs : Array Field} {l : List (DataW H)} {d : DataW H} {j : Nat} {f : Field} (ht : P.underlying t = some (.struct fs)) (h : Light P t (.agg l)) (hf : fs[j]? = some f) (hd : l[j]? = some d) : Light P f.type d := fun n hn => h n (by
  simp only [DataW.weights, ht]
  exact DataW.weights_mem_each (j := j) (t := f.type) (by rw [List.getElem?_map, Array.getElem?_toList, hf]; rfl) hd n hn)

/-- A value of one cell reads at a type, and nothing in it is too long. -/
def ReadsL (enc : TypeId × Value → H) (P : Program) (w : World) (base : Nat) (spare : Nat → Bool) (held : Bool) (t : TypeId) (v : Value) : Prop := ∃ n y, DataW.trod enc P w base spare held n t [v] = some y ∧ Light P t y.1
theorem ReadsL.reads {t : TypeId} {v : Value} (h : ReadsL enc P w base spare held t v) : Reads enc P w base spare held t v := by
  obtain ⟨n, y, hy, _⟩ := h
  exact ⟨n, y, hy⟩
theorem ReadsL.string {t : TypeId} {v : Value} (ht : P.underlying t = some .string) (h : ReadsL enc P w base spare held t v) : ∃ s : ByteArray, v = .string s ∧ s.size ≤ reachBytes := by
  obtain ⟨n, y, hy, hl⟩ := h
  obtain ⟨s, hs, hx, _⟩ := DataW.trod_string ht hy
  refine ⟨s, (List.cons.inj hs).1, ?_⟩
  rw [hx] at hl
  rw [Lib.size_eq]
  exact hl s.data.toList.length (by simp [DataW.weights])

theorem cells_of_structL {t : TypeId} {fs : Array Field} {n : Nat} {cs : List Value} {x : DataW H × List MemPlace} (hs : P.underlying t = some (.struct fs)) (hone : oneCellFields P fs = true) (hC : P.cellsOf t = fs.size)
    (h : DataW.trod enc P w base spare held n t cs = some x) (hl : Light P t x.1) : cs.length = fs.size ∧ ∀ (j : Nat) (f : Field), fs[j]? = some f → ∃ v, cs[j]? = some v ∧ ReadsL enc P w base spare held f.type v := by
  obtain ⟨xs, m, _, rfl, hcl, hlen, hg⟩ := DataW.trod_struct hs h
  rw [hC] at hcl
  refine ⟨hcl, fun j f hj => ?_⟩
  have hlt : j < fs.size := (Array.getElem?_eq_some_iff.1 hj).1
  obtain ⟨ho, hk⟩ := hone_of hone j f hj
  have h1 := hg j f hj
  have hcut : (cs.drop f.offset).take (P.cellsOf f.type) = [cs[j]'(by omega)] := by
    rw [ho, hk, List.drop_eq_getElem_cons (by omega)]
    rfl
  have hxj : xs[j]? = some (xs[j]'(by omega)) := List.getElem?_eq_getElem (by omega)
  rw [hcut, hxj] at h1
  exact ⟨cs[j]'(by omega), List.getElem?_eq_getElem (by omega), m, _, h1, light_part hs hl hj (by rw [List.getElem?_map, hxj]; rfl)⟩

theorem ReadsL.rows {t e : TypeId} {fs : Array Field} {v : Value} (ht : P.underlying t = some (.slice e)) (he : P.underlying e = some (.struct fs)) (hone : oneCellFields P fs = true) (hC : P.cellsOf e = fs.size) (hf : 0 < fs.size)
    (h : ReadsL enc P w base spare held t v) : ∃ (ao : Option Addr) (len cap : Nat), v = .slice ao len cap ∧ len ≤ cap ∧ cap ≤ maxLen ∧ len * P.bytesOf e ≤ reachBytes ∧ RowsOf (ReadsL enc P w base spare held) fs ao len w := by
  obtain ⟨n, y, hy, hwt⟩ := h
  rcases open_slice ht hy with ⟨hcs, _⟩ | ⟨a, len, cap, m, k, D, Pl, hcs, _, hl, hm, hmm, rfl, hi⟩
  · refine ⟨none, 0, 0, (List.cons.inj hcs).1, Nat.le_refl _, Nat.zero_le _, by omega, 0, 0, fun h => absurd h (Nat.lt_irrefl _), fun i hi => absurd hi (Nat.not_lt_zero _)⟩
  · have hlm : len ≤ m := by rw [hmm]; split <;> omega
    have each : ∀ i, i < len → ∀ (j : Nat) (f : Field), fs[j]? = some f → ∃ v, w.cell? ((a.add (i * fs.size)).add j) = some v ∧ ReadsL enc P w base spare held f.type v := by
      intro i hi' j f hj
      obtain ⟨cs', hc, htr⟩ := hi i (by omega)
      rw [hC] at hc
      obtain ⟨_, hcl, hat⟩ := World.cells?_some hc
      have hlt2 : j < fs.size := (Array.getElem?_eq_some_iff.1 hj).1
      have hD : D i ∈ (List.range len).map D := List.mem_map.2 ⟨i, List.mem_range.2 hi', rfl⟩
      obtain ⟨_, hg⟩ := cells_of_structL he hone hC htr (light_elem ht hwt hD)
      obtain ⟨u, hu, hr⟩ := hg j f hj
      exact ⟨u, by rw [hat j hlt2, hu], hr⟩
    have hlen := light_len ht hwt
    rw [List.length_map, List.length_range] at hlen
    obtain ⟨b, off, spot⟩ := a
    refine ⟨some ⟨b, off, spot⟩, len, cap, (List.cons.inj hcs).1, hl, hm, hlen, b, off, ?_⟩
    by_cases h0 : 0 < len
    · obtain ⟨u, hu, _⟩ := each 0 h0 0 fs[0] (Array.getElem?_eq_getElem hf)
      have hp := (place_of hu).1
      have hlt := (place_of hu).2
      simp [Addr.add] at hp hlt
      subst hp
      refine ⟨fun _ => ⟨rfl, hlt⟩, fun i hi' j f hj => ?_⟩
      obtain ⟨u, hu, hr⟩ := each i hi' j f hj
      rw [add_plain, add_plain] at hu
      exact ⟨u, hu, hr⟩
    · exact ⟨fun h => absurd h h0, fun i hi => absurd hi (by omega)⟩

/-- A slice whose elements are one cell each. -/
theorem ReadsL.cells {t e : TypeId} {v : Value} (ht : P.underlying t = some (.slice e)) (hC : P.cellsOf e = 1)
    (h : ReadsL enc P w base spare held t v) : ∃ (ao : Option Addr) (len cap : Nat), v = .slice ao len cap ∧ len ≤ cap ∧ cap ≤ maxLen ∧ len * P.bytesOf e ≤ reachBytes ∧
      ∃ b off, (0 < len → ao = some ⟨b, off, none⟩ ∧ b < w.heap.size) ∧ ∀ i, i < len → ∃ u, w.cell? ⟨b, off + i, none⟩ = some u ∧ ReadsL enc P w base spare held e u := by
  obtain ⟨n, y, hy, hwt⟩ := h
  rcases open_slice ht hy with ⟨hcs, _⟩ | ⟨a, len, cap, m, k, D, Pl, hcs, _, hl, hm, hmm, rfl, hi⟩
  · refine ⟨none, 0, 0, (List.cons.inj hcs).1, Nat.le_refl _, Nat.zero_le _, by omega, 0, 0, fun h => absurd h (Nat.lt_irrefl _), fun i hi => absurd hi (Nat.not_lt_zero _)⟩
  · have hlm : len ≤ m := by rw [hmm]; split <;> omega
    have each : ∀ i, i < len → ∃ v, w.cell? (a.add i) = some v ∧ ReadsL enc P w base spare held e v := by
      intro i hi'
      obtain ⟨cs', hc, htr⟩ := hi i (by omega)
      rw [hC, Nat.mul_one] at hc
      obtain ⟨_, hcl, hat⟩ := World.cells?_some hc
      have hD : D i ∈ (List.range len).map D := List.mem_map.2 ⟨i, List.mem_range.2 hi', rfl⟩
      match cs', hcl, hat, htr with
      | [c], _, hat, htr =>
        have := hat 0 (by omega)
        rw [show (a.add i).add 0 = a.add i from by simp [Addr.add]] at this
        exact ⟨c, this, k, _, htr, light_elem ht hwt hD⟩
    have hlen := light_len ht hwt
    rw [List.length_map, List.length_range] at hlen
    obtain ⟨b, off, spot⟩ := a
    refine ⟨some ⟨b, off, spot⟩, len, cap, (List.cons.inj hcs).1, hl, hm, hlen, b, off, ?_⟩
    by_cases h0 : 0 < len
    · obtain ⟨u, hu, _⟩ := each 0 h0
      have hp := (place_of hu).1
      have hlt := (place_of hu).2
      simp [Addr.add] at hp hlt
      subst hp
      refine ⟨fun _ => ⟨rfl, hlt⟩, fun i hi' => ?_⟩
      obtain ⟨u, hu, hr⟩ := each i hi'
      rw [add_plain] at hu
      exact ⟨u, hu, hr⟩
    · exact ⟨fun h => absurd h h0, fun i hi => absurd hi (by omega)⟩
theorem light_arg {ts : List TypeId} {ds : List (DataW H)} {j : Nat} {t : TypeId} {d : DataW H} (h : (DataW.weightsEach P ts ds).all (· ≤ reachBytes) = true) (ht : ts[j]? = some t) (hd : ds[j]? = some d) : Light P t d :=
  fun n hn => by simpa using List.all_eq_true.1 h n (DataW.weights_mem_each ht hd n hn)
theorem readsL_slice {r : Reach} {b0 : Nat} {t e : TypeId} {v : Value} {d : DataW H} {p : List MemPlace} (ht : P.underlying t = some (.slice e)) (hv : Value.okWide P w r b0 t v)
    (h : DataW.Trod enc P w base spare held t v d p) (hl : Light P t d) : ReadsL enc P w base spare held t v := by
  obtain ⟨ao, len, cap, rfl⟩ := okWide_slice ht hv
  obtain ⟨fuel, hf⟩ := h
  exact ⟨fuel, _, hf, hl⟩
/-- A slice of strings. -/
theorem ReadsL.strings {t e : TypeId} {v : Value} (ht : P.underlying t = some (.slice e)) (he : P.underlying e = some .string) (hC : P.cellsOf e = 1)
    (h : ReadsL enc P w base spare held t v) : ∃ (ao : Option Addr) (ls : List ByteArray) (cap : Nat), v = .slice ao ls.length cap ∧ ls.length ≤ cap ∧ cap ≤ maxLen ∧ (∀ s ∈ ls, s.size ≤ reachBytes) ∧
      ∃ b off, (0 < ls.length → ao = some ⟨b, off, none⟩ ∧ b < w.heap.size) ∧ ∀ i (h : i < ls.length), w.cell? ⟨b, off + i, none⟩ = some (.string ls[i]) := by
  obtain ⟨ao, len, cap, rfl, h1, h2, h3, b, off, h4, h5⟩ := ReadsL.cells ht hC h
  have each : ∀ i, ∃ z : ByteArray, i < len → w.cell? ⟨b, off + i, none⟩ = some (.string z) ∧ z.size ≤ reachBytes := by
    intro i
    by_cases hi : i < len
    · obtain ⟨u, hu, hr⟩ := h5 i hi
      obtain ⟨z, rfl, hz⟩ := ReadsL.string he hr
      exact ⟨z, fun _ => ⟨hu, hz⟩⟩
    · exact ⟨⟨#[]⟩, fun h => absurd h hi⟩
  obtain ⟨Z, hZ⟩ := Classical.axiomOfChoice each
  have e : ((List.range len).map Z).length = len := by rw [List.length_map, List.length_range]
  refine ⟨ao, (List.range len).map Z, cap, by rw [e], by rw [e]; exact h1, h2, fun s hs => ?_, b, off, fun h0 => h4 (by omega), fun i hi => ?_⟩
  · obtain ⟨i, hi, rfl⟩ := List.mem_map.1 hs
    exact (hZ i (List.mem_range.1 hi)).2
  · rw [List.getElem_map, List.getElem_range]
    exact (hZ i (by omega)).1
end
end Go.Proofs.Ytboophfcakdlcaa
