/- Rows of boxes and of names that a call makes; where glyphs come from. -/
import Derived.Test.YtboophfcakdlcaaGlSized2
import Derived.Test.YtboophfcakdlcaaFtOwn
import Derived.Test.YtboophfcakdlcaaFtAsW
import Derived.Maps.AppendAt
namespace Go.Proofs.Ytboophfcakdlcaa
open Go.RowKit Go.PlainAid Go.Shelf

/-- A box that Boxes makes. -/
structure Bx' where
  kind : Int
  wd : Int
  font : Int
  size : Int
  nm : List UInt8
instance : Inhabited Bx' := ⟨⟨0, 0, 0, 0, []⟩⟩
def encB (b : Bx') : List Value := [.int .i64 b.kind, .int .i64 b.wd, .int .i64 b.font, .int .i64 b.size, .string (mk8 b.nm), .string ⟨#[]⟩, .slice none 0 0]
def encS (s : List UInt8) : List Value := [.string (mk8 s)]
theorem encB_len (b : Bx') : (encB b).length = 7 := rfl
theorem encS_len (s : List UInt8) : (encS s).length = 1 := rfl
theorem encB_one (b : Bx') : ∀ u ∈ encB b, u.oneCell' = true := by
  intro u hu
  simp only [encB, List.mem_cons, List.not_mem_nil, or_false] at hu
  rcases hu with rfl | rfl | rfl | rfl | rfl | rfl | rfl <;> rfl
theorem encS_one (s : List UInt8) : ∀ u ∈ encS s, u.oneCell' = true := by
  intro u hu
  simp only [encS, List.mem_cons, List.not_mem_nil, or_false] at hu
  rcases hu with rfl
  rfl
abbrev OwnB (B : Nat) (v : Value) (xs : List Bx') (w : World) : Prop := w.ownsRow B 70 7 v xs.length (flatE encB xs)
abbrev OwnS (B : Nat) (v : Value) (xs : List (List UInt8)) (w : World) : Prop := w.ownsRow B 9 1 v xs.length (flatE encS xs)
theorem box_info : (Try.prog.info? 70).map (fun i => (i.zero, i.size, i.bytes)) = some (some (.agg #[.int .i64 0, .int .i64 0, .int .i64 0, .int .i64 0, .string ⟨#[]⟩, .string ⟨#[]⟩, .slice none 0 0]), 7, 88) := by kernel_rfl
theorem str_info : (Try.prog.info? 9).map (fun i => (i.zero, i.size, i.bytes)) = some (some (.string ⟨#[]⟩), 1, 16) := by kernel_rfl
theorem flat_snoc {α : Type} {enc : α → List Value} (xs : List α) (e : α) : flatE enc (xs ++ [e]) = flatE enc xs ++ enc e := by simp [flatE]
theorem wpList_box {W : World} {ops : Array Oper} {rest : List Oper} {o : Oper} {a : Act} {Q : Exit → Act → World → Prop} (hgd : o.guard = none) (sl x : Operand)
    (ho : o.op = .call { callee := .builtin .append, args := #[sl, x], argTypes := #[53, 53] })
    {B : Nat} {v : Value} {xs : List Bx'} {e : Bx'} (hs : a.eval sl = v) (ad : Addr) (hx : a.eval x = .slice (some ad) 1 1) (h0 : ∀ j u, (encB e)[j]? = some u → W.cell? (ad.add j) = some u) (hown : OwnB B v xs W) (hn : xs.length + 1 ≤ 100000) (hB : B ≤ W.heap.size)
    (h : ∀ v' w', OwnB B v' (xs ++ [e]) w' → W.grownBy w' v.ownBlock → (v'.ownBlock = v.ownBlock ∨ v'.ownBlock = some W.heap.size) → wpList Try.prog ops Q rest (a.put o.dst v') w') : wpList Try.prog ops Q (o :: rest) a W := by
  obtain ⟨i0, hi, hz0, hz1, hz2⟩ := info_parts box_info
  refine wpList_append_own_at (P := Try.prog) W hgd sl x 53 ho B 70 i0 _ 7 88 Try.underlying53 hi hz0 hz1 hz2 rfl (by omega) v xs.length (flatE encB xs) hs hown ad 1 1 (encB e) hx rfl h0 (encB_one e) (by unfold maxLen; omega) (by omega) hB ?_
  intro v' w' h2 h3 _ h4
  refine h v' w' ?_ h3 h4
  unfold OwnB
  rw [flat_snoc, List.length_append]
  exact h2
theorem wpList_str {W : World} {ops : Array Oper} {rest : List Oper} {o : Oper} {a : Act} {Q : Exit → Act → World → Prop} (hgd : o.guard = none) (sl x : Operand)
    (ho : o.op = .call { callee := .builtin .append, args := #[sl, x], argTypes := #[54, 54] })
    {B : Nat} {v : Value} {xs : List (List UInt8)} {e : List UInt8} (hs : a.eval sl = v) (ad : Addr) (hx : a.eval x = .slice (some ad) 1 1) (h0 : W.cell? (ad.add 0) = some (.string (mk8 e))) (hown : OwnS B v xs W) (hn : xs.length + 1 ≤ 100000) (hB : B ≤ W.heap.size)
    (h : ∀ v' w', OwnS B v' (xs ++ [e]) w' → W.grownBy w' v.ownBlock → (v'.ownBlock = v.ownBlock ∨ v'.ownBlock = some W.heap.size) → wpList Try.prog ops Q rest (a.put o.dst v') w') : wpList Try.prog ops Q (o :: rest) a W := by
  obtain ⟨i0, hi, hz0, hz1, hz2⟩ := info_parts str_info
  refine wpList_append_own_at (P := Try.prog) W hgd sl x 54 ho B 9 i0 _ 1 16 Try.underlying54 hi hz0 hz1 hz2 rfl (by omega) v xs.length (flatE encS xs) hs hown ad 1 1 (encS e) hx rfl ?_ (encS_one e) (by unfold maxLen; omega) (by omega) hB ?_
  · intro j u hj
    rcases j with _ | j
    · simp [encS] at hj; subst hj; exact h0
    · simp [encS] at hj
  intro v' w' h2 h3 _ h4
  refine h v' w' ?_ h3 h4
  unfold OwnS
  rw [flat_snoc, List.length_append]
  exact h2
/-- Two rows that lie apart. -/
def Apart2 (u v : Value) : Prop := ∀ k, u.ownBlock = some k → v.ownBlock ≠ some k
theorem Apart2.symm {u v : Value} (h : Apart2 u v) : Apart2 v u := fun k h1 h2 => h k h2 h1
theorem Apart2.grow {u u' v : Value} {W : World} (h : Apart2 u v) (hv : ∀ k, v.ownBlock = some k → k < W.heap.size) (hg : u'.ownBlock = u.ownBlock ∨ u'.ownBlock = some W.heap.size) : Apart2 u' v := fun k h1 h2 => by
  rcases hg with e | e
  · exact h k (by rw [← e]; exact h1) h2
  · rw [h1] at e
    have := Option.some.inj e
    have := hv k h2
    omega
/-- The other row as one row grows. -/
theorem owns_grow {B T sz n : Nat} {u v : Value} {xs : List Value} {W w' : World} {o : Obj} (h : W.ownsRow B T sz v n xs) (ha : Apart2 u v) (hg : (W.alloc o).grownBy w' u.ownBlock) : w'.ownsRow B T sz v n xs :=
  owns_of_block h fun k hk => by
    have hlt := (h.lt k hk).2
    rw [hg.block k (by simp; omega) (fun e => ha k e.symm hk)]
    exact ((Below.refl W.heap.size W).alloc (Nat.le_refl _) o).block k hlt
theorem grown_base {B : Nat} {w1 W w' : World} {u : Value} {o : Obj} (h : Below B w1 W) (hB : B ≤ W.heap.size) (hu : ∀ k, u.ownBlock = some k → B ≤ k) (hg : (W.alloc o).grownBy w' u.ownBlock) : Below B w1 w' :=
  h.trans ⟨hg.os, hg.tape, hg.output, Nat.le_trans (by simp) hg.size, fun k hk => by
    rw [hg.block k (by simp; omega) (fun e => by have := hu k e.symm; omega)]
    exact ((Below.refl _ _).alloc (Nat.le_refl _) _).block k (by omega)⟩

theorem idxG_ways {α : Type} [Inhabited α] (q : α → Bool) : ∀ (l : List α) (i : Nat), idxG q l i = -1 ∨ ∃ h, h < l.length ∧ idxG q l i = ((i + h : Nat) : Int) ∧ q l[h]! = true
  | [], _ => .inl rfl
  | x :: r, i => by
    unfold idxG
    cases hq : q x with
    | true => exact .inr ⟨0, Nat.succ_pos _, rfl, hq⟩
    | false =>
      rcases idxG_ways q r (i + 1) with h | ⟨h, h1, h2, h3⟩
      · exact .inl h
      · refine .inr ⟨h + 1, by simpa using h1, ?_, by simpa using h3⟩
        show idxG q r (i + 1) = _
        rw [h2]
        congr 1
        omega
theorem home_ways (l : List FA) (own : Nat) (nm : List UInt8) (ho : own < l.length) : homeL l own nm = -1 ∨ ∃ h : Nat, h < l.length ∧ homeL l own nm = h ∧ hasB l[h]!.F.gs nm = true := by
  unfold homeL
  cases hb : hasB l[own]!.F.gs nm with
  | true => exact .inr ⟨own, ho, rfl, hb⟩
  | false =>
    rcases idxG_ways (fun x : FA => x.F.special && hasB x.F.gs nm) l 0 with h | ⟨h, h1, h2, h3⟩
    · exact .inl h
    · refine .inr ⟨h, h1, ?_, ?_⟩
      · show idxG _ l 0 = _
        rw [h2, Nat.zero_add]
      · simp only [Bool.and_eq_true] at h3
        exact h3.2
/-- Names that are set, one by one: the boxes, and what is missing. -/
def stepP (l : List FA) (own : Nat) (z : Int) (r : List Bx' × List (List UInt8)) (nm : List UInt8) : List Bx' × List (List UInt8) :=
  if homeL l own nm < 0 then (r.1, r.2 ++ [nm]) else (r.1 ++ [⟨0, scaleZ (widL l[(homeL l own nm).toNat]!.F.gs nm) z, homeL l own nm, z, nm⟩], r.2)
def placeL (l : List FA) (own : Nat) (z : Int) (names : List (List UInt8)) : List Bx' × List (List UInt8) := names.foldl (stepP l own z) ([], [])
theorem place_succ (l : List FA) (own : Nat) (z : Int) (names : List (List UInt8)) {k : Nat} (hk : k < names.length) : placeL l own z (names.take (k + 1)) = stepP l own z (placeL l own z (names.take k)) names[k]! := by
  unfold placeL
  rw [List.take_add_one, List.getElem?_eq_getElem hk, getElem!_pos names k hk, Option.toList_some, List.foldl_append]
  rfl
theorem place_len (l : List FA) (own : Nat) (z : Int) : ∀ (names : List (List UInt8)) (r : List Bx' × List (List UInt8)), (names.foldl (stepP l own z) r).1.length + (names.foldl (stepP l own z) r).2.length = r.1.length + r.2.length + names.length
  | [], r => by simp
  | nm :: ns, r => by
    rw [List.foldl_cons, place_len l own z ns]
    unfold stepP
    split <;> simp <;> omega
end Go.Proofs.Ytboophfcakdlcaa
