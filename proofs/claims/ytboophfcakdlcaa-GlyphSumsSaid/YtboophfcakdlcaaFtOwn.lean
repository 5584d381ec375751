/- Rows of glyphs that a call makes; the closures that give widths. -/
import Derived.Test.YtboophfcakdlcaaFtOrd2
import Derived.Test.YtboophfcakdlcaaFtStd
import Derived.SliceStrings
import Derived.Maps.AppendAt
namespace Go.Proofs.Ytboophfcakdlcaa
open Go.RowKit Go.PlainAid Go.Shelf

abbrev flatE {α : Type} (enc : α → List Value) (xs : List α) : List Value := xs.flatMap enc
theorem flat_len {α : Type} {enc : α → List Value} {k : Nat} (hk : ∀ x, (enc x).length = k) : ∀ xs : List α, (flatE enc xs).length = xs.length * k := by
  intro xs
  induction xs with
  | nil => simp [flatE]
  | cons x r ih =>
    have : (flatE enc (x :: r)).length = (enc x).length + (flatE enc r).length := by simp [flatE]
    rw [this, ih, hk, List.length_cons, Nat.add_mul]
    omega
theorem flat_get {α : Type} [Inhabited α] {enc : α → List Value} {k : Nat} (hk : ∀ x, (enc x).length = k) : ∀ (xs : List α) (j i : Nat), j < xs.length → i < k → (flatE enc xs)[j * k + i]? = (enc xs[j]!)[i]? := by
  intro xs
  induction xs with
  | nil => intro j i hj; simp at hj
  | cons x r ih =>
    intro j i hj hi
    have hf : flatE enc (x :: r) = enc x ++ flatE enc r := by simp [flatE]
    rw [hf]
    cases j with
    | zero =>
      rw [Nat.zero_mul, Nat.zero_add, List.getElem?_append_left (by rw [hk]; exact hi)]
      rfl
    | succ j =>
      rw [List.getElem?_append_right (by rw [hk, Nat.add_mul]; omega), hk, show (j + 1) * k + i - k = j * k + i by rw [Nat.add_mul]; omega, ih j i (by simpa using hj) hi]
      simp
theorem own_row {α : Type} [Inhabited α] {enc : α → List Value} {k : Nat} (hk : ∀ x, (enc x).length = k) (_k0 : 0 < k) {B : Nat} {e : TypeId} {v : Value} {xs : List α} {w : World} (h : w.ownsRow B e k v xs.length (flatE enc xs)) :
    ∃ ao cap, v = .slice ao xs.length cap ∧ RowK enc k ao xs w := by
  rcases h.2 with ⟨h1, h2⟩ | ⟨g, cap, cur, h1, h2, h3, h4, h5, h6, h7⟩
  · have hx : xs = [] := List.eq_nil_of_length_eq_zero h2
    subst hx
    exact ⟨none, 0, h1, RowK.nil⟩
  · refine ⟨some ⟨g, 0, none⟩, cap, h1, g, 0, fun _ => ⟨rfl, (Array.getElem?_eq_some_iff.1 h3).1⟩, fun j hj i v' hv => ?_⟩
    have hi : i < k := by rw [← hk xs[j]!]; exact (List.getElem?_eq_some_iff.1 hv).1
    have hjk : j * k + i < xs.length * k := by
      have : (j + 1) * k ≤ xs.length * k := Nat.mul_le_mul_right k hj
      rw [Nat.add_mul] at this
      omega
    have hc : cur[j * k + i]? = some v' := by
      rw [← hv, ← flat_get hk xs j i hj hi, ← h7, List.getElem?_take, if_pos hjk, Array.getElem?_toList]
    rw [Nat.zero_add]
    exact cell_of h3 hc
theorem encG_len (g : Gl) : (encG g).length = 2 := rfl
theorem glyph_info : (Try.prog.info? 44).map (fun i => (i.zero, i.size, i.bytes)) = some (some (.agg #[.string ⟨#[]⟩, .int .i64 0]), 2, 24) := by kernel_rfl
theorem owns_of_block {B e size n : Nat} {v : Value} {xs : List Value} {W W1 : World} (h : W.ownsRow B e size v n xs) (hk : ∀ k, v.ownBlock = some k → W1.heap[k]? = W.heap[k]?) : W1.ownsRow B e size v n xs := by
  refine ⟨h.1, ?_⟩
  rcases h.2 with ⟨h1, h2⟩ | ⟨g, cap, cur, rfl, h2, h3, h4⟩
  · exact .inl ⟨h1, h2⟩
  · exact .inr ⟨g, cap, cur, rfl, h2, (hk g rfl).trans h3, h4⟩
theorem owns_below {B e size n : Nat} {v : Value} {xs : List Value} {W W1 : World} (h : W.ownsRow B e size v n xs) (hb : Below W.heap.size W W1) : W1.ownsRow B e size v n xs :=
  owns_of_block h fun g hg => hb.block g (h.lt g hg).2
/-- The own row of glyphs. -/
abbrev OwnG (B : Nat) (v : Value) (xs : List Gl) (w : World) : Prop := w.ownsRow B 44 2 v xs.length (flatE encG xs)
/-- One glyph is put behind the others. -/
theorem wpList_glyph {W : World} {ops : Array Oper} {rest : List Oper} {o : Oper} {a : Act} {Q : Exit → Act → World → Prop} (hgd : o.guard = none) (sl x : Operand)
    (ho : o.op = .call { callee := .builtin .append, args := #[sl, x], argTypes := #[33, 33] })
    {B : Nat} {v : Value} {xs : List Gl} {s : List UInt8} {m : Int} (hs : a.eval sl = v) (ad : Addr) (hx : a.eval x = .slice (some ad) 1 1) (h0 : W.cell? (ad.add 0) = some (.string (mk8 s))) (h1 : W.cell? (ad.add 1) = some (.int .i64 m)) (hown : OwnG B v xs W) (hn : xs.length + 1 ≤ 100000) (hB : B ≤ W.heap.size)
    (h : ∀ v' w', OwnG B v' (xs ++ [⟨s, m⟩]) w' → Below B W w' → wpList Try.prog ops Q rest (a.put o.dst v') w') : wpList Try.prog ops Q (o :: rest) a W := by
  obtain ⟨i0, hi, hz0, hz1, hz2⟩ := info_parts glyph_info
  refine wpList_append_own_at (P := Try.prog) W hgd sl x 33 ho B 44 i0 _ 2 24 Try.underlying33 hi hz0 hz1 hz2 rfl (by omega) v xs.length (flatE encG xs) hs hown ad 1 1 (encG ⟨s, m⟩) hx rfl ?_ ?_ (by unfold maxLen; omega) (by omega) hB ?_
  · intro j u hj
    rcases j with _ | _ | j
    · simp [encG] at hj; subst hj; exact h0
    · simp [encG] at hj; subst hj; exact h1
    · simp [encG] at hj
  · intro u hu
    simp [encG] at hu
    rcases hu with rfl | rfl <;> rfl
  · intro v' w' h2 h3 _ _
    refine h v' w' ?_ ⟨h3.os, h3.tape, h3.output, h3.size, fun k hk => h3.block k (Nat.lt_of_lt_of_le hk hB) (fun e => by have := (hown.lt k e.symm).1; omega)⟩
    have hf : flatE encG (xs ++ [⟨s, m⟩]) = flatE encG xs ++ encG ⟨s, m⟩ := by simp [flatE]
    unfold OwnG
    rw [hf, List.length_append]
    exact h2
end Go.Proofs.Ytboophfcakdlcaa
