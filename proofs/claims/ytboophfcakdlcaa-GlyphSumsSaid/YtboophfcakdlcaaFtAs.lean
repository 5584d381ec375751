/- A font for the document. -/
import Derived.Test.YtboophfcakdlcaaFtSane
import Derived.Deep.RegionHeld3
import Derived.Deep.AppendLies
import Derived.Deep.DeepCutAuto
namespace Go.Proofs.Ytboophfcakdlcaa
open Go.RowKit Go.PlainAid Go.Shelf

/-- Nothing that was there has changed but one block. -/
structure Fr (x : Nat) (a b : World) : Prop where
  os : b.os = a.os
  tape : b.tape = a.tape
  output : b.output = a.output
  size : a.heap.size ≤ b.heap.size
  block : ∀ k, k < a.heap.size → k ≠ x → b.heap[k]? = a.heap[k]?
theorem Fr.refl (x : Nat) (a : World) : Fr x a a := ⟨rfl, rfl, rfl, Nat.le_refl _, fun _ _ _ => rfl⟩
theorem Fr.trans {x : Nat} {a b c : World} (h : Fr x a b) (k : Fr x b c) : Fr x a c :=
  ⟨k.os.trans h.os, k.tape.trans h.tape, k.output.trans h.output, Nat.le_trans h.size k.size, fun i hi hx => (k.block i (Nat.lt_of_lt_of_le hi h.size) hx).trans (h.block i hi hx)⟩
theorem Fr.below {x B : Nat} {a b : World} (h : Fr x a b) (h1 : B ≤ x) (h2 : B ≤ a.heap.size) : Below B a b := ⟨h.os, h.tape, h.output, h.size, fun k hk => h.block k (by omega) (by omega)⟩
/-- The document's font in memory. -/
abbrev XB (x : Nat) (s : ByteArray) (b : Bool) (z : Int) (vg vl vk : Value) (w : World) : Prop := w.heap[x]? = some (.cells #[.string s, .bool b, .int .i64 z, vg, vl, vk] 31 (0, 0))
theorem heap_setCell_c {w : World} {b : Nat} {c : Array Value} {t : TypeId} {f : Nat × Nat} (h : w.heap[b]? = some (.cells c t f)) (k : Nat) (u : Value) :
    (w.setCell ⟨b, k, none⟩ u).heap[b]? = some (.cells (c.setIfInBounds k u) t f) := by
  have hlt := (Array.getElem?_eq_some_iff.1 h).1
  have h' : w.heap[b] = .cells c t f := by simpa [Array.getElem?_eq_getElem hlt] using h
  show (w.heap.modify b _)[b]? = _
  rw [Array.getElem?_eq_getElem (by simpa using hlt), Array.getElem_modify_self, h']
  rfl
theorem frozen_of {w : World} {p j : Nat} {c : Array Value} {t : TypeId} (h : w.heap[p]? = some (.cells c t (0, 0))) : w.frozen? ⟨p, j, none⟩ = false := by simp [World.frozen?, h]
/-- A row that grew and was stored into the font. -/
theorem grown_fr {x j : Nat} {ws wr w' : World} {o : Obj} {v v' : Value} {T : TypeId} {sz n m : Nat} {xs ys : List Value} (hF : Fr x ws wr) (hx : x < ws.heap.size) (hown : wr.ownsRow ws.heap.size T sz v n xs)
    (hg : (wr.drew.alloc o).grownBy w' v.ownBlock) (h' : w'.ownsRow ws.heap.size T sz v' m ys) :
    Fr x ws (w'.setCell ⟨x, j, none⟩ v') ∧ w'.heap[x]? = wr.heap[x]? ∧ (w'.setCell ⟨x, j, none⟩ v').ownsRow ws.heap.size T sz v' m ys := by
  have hv : ∀ k, v.ownBlock = some k → ws.heap.size ≤ k := fun k hk => (hown.lt k hk).1
  have hk : ∀ k, k < ws.heap.size → w'.heap[k]? = wr.heap[k]? := fun k hk => by
    have h1 := hg.block k (by have := hF.size; simp; omega) (fun e => by have := hv k e.symm; omega)
    rw [h1]
    exact ((Below.refl wr.heap.size wr.drew).alloc (Nat.le_refl _) o).block k (by have := hF.size; omega)
  refine ⟨⟨hg.os.trans hF.os, hg.tape.trans hF.tape, hg.output.trans hF.output, ?_, fun k hk1 hk2 => ?_⟩, hk x hx, ?_⟩
  · have := hg.size
    have := hF.size
    simp at *
    omega
  · rw [Below.heap_setCell _ _ _ _ (by simpa using hk2), hk k hk1]
    exact hF.block k hk1 hk2
  · refine ⟨h'.1, ?_⟩
    rcases h'.2 with h | ⟨g, cap, cur, h1, h2, h3, h4⟩
    · exact .inl h
    · exact .inr ⟨g, cap, cur, h1, h2, by rw [Below.heap_setCell _ _ _ _ (by simp; omega)]; exact h3, h4⟩
theorem rg_info : (Try.prog.info? 83).map (fun i => (i.zero, i.size, i.bytes)) = some (some (.agg #[.string ⟨#[]⟩, .int .i64 0]), 2, 24) := by kernel_rfl
theorem step_rg {W : World} {ops : Array Oper} {o : Oper} {a : Act} {K : Act → World → Prop} {Q : Exit → Act → World → Prop} {E : Prop} (hgd : o.guard = none) (s x : Operand)
    (ho : o.op = .call { callee := .builtin .append, args := #[s, x], argTypes := #[27, 27] })
    {B n : Nat} {v : Value} {xs news : List Value} (hs : a.eval s = v) (ad : Addr) (hx : a.eval x = .slice (some ad) 1 1) (hown : W.ownsRow B 83 2 v n xs) (hl : news.length = 1 * 2) (hnews : ∀ j u, news[j]? = some u → W.cell? (ad.add j) = some u) (h1 : ∀ u ∈ news, u.oneCell' = true) (hn : n + 1 ≤ 100000) (hB : B ≤ W.heap.size)
    (h : ∀ v' w', w'.ownsRow B 83 2 v' (n + 1) (xs ++ news) → W.grownBy w' v.ownBlock → K (a.put o.dst v') w') : if Region.wanted o (yielded ops a.tmps) = true then Oper.wp Try.prog o a W K Q else E := by
  obtain ⟨i0, hi, hz0, hz1, hz2⟩ := info_parts rg_info
  exact step_append_lies (P := Try.prog) W hgd s x 27 ho B 83 i0 _ 2 24 Try.underlying27 hi hz0 hz1 hz2 rfl (by omega) v n xs hs hown ad 1 1 news hx hl hnews h1 (by omega) (by unfold maxLen; omega) (by omega) hB _ rfl (fun g cap w' h2 h3 _ _ => h _ w' h2 h3)
theorem rl_info : (Try.prog.info? 85).map (fun i => (i.zero, i.size, i.bytes)) = some (some (.agg #[.string ⟨#[]⟩, .string ⟨#[]⟩, .string ⟨#[]⟩]), 3, 48) := by kernel_rfl
theorem step_rl {W : World} {ops : Array Oper} {o : Oper} {a : Act} {K : Act → World → Prop} {Q : Exit → Act → World → Prop} {E : Prop} (hgd : o.guard = none) (s x : Operand)
    (ho : o.op = .call { callee := .builtin .append, args := #[s, x], argTypes := #[28, 28] })
    {B n : Nat} {v : Value} {xs news : List Value} (hs : a.eval s = v) (ad : Addr) (hx : a.eval x = .slice (some ad) 1 1) (hown : W.ownsRow B 85 3 v n xs) (hl : news.length = 1 * 3) (hnews : ∀ j u, news[j]? = some u → W.cell? (ad.add j) = some u) (h1 : ∀ u ∈ news, u.oneCell' = true) (hn : n + 1 ≤ 100000) (hB : B ≤ W.heap.size)
    (h : ∀ v' w', w'.ownsRow B 85 3 v' (n + 1) (xs ++ news) → W.grownBy w' v.ownBlock → K (a.put o.dst v') w') : if Region.wanted o (yielded ops a.tmps) = true then Oper.wp Try.prog o a W K Q else E := by
  obtain ⟨i0, hi, hz0, hz1, hz2⟩ := info_parts rl_info
  exact step_append_lies (P := Try.prog) W hgd s x 28 ho B 85 i0 _ 3 48 Try.underlying28 hi hz0 hz1 hz2 rfl (by omega) v n xs hs hown ad 1 1 news hx hl hnews h1 (by omega) (by unfold maxLen; omega) (by omega) hB _ rfl (fun g cap w' h2 h3 _ _ => h _ w' h2 h3)
theorem rk_info : (Try.prog.info? 87).map (fun i => (i.zero, i.size, i.bytes)) = some (some (.agg #[.string ⟨#[]⟩, .string ⟨#[]⟩, .int .i64 0]), 3, 40) := by kernel_rfl
theorem step_rk {W : World} {ops : Array Oper} {o : Oper} {a : Act} {K : Act → World → Prop} {Q : Exit → Act → World → Prop} {E : Prop} (hgd : o.guard = none) (s x : Operand)
    (ho : o.op = .call { callee := .builtin .append, args := #[s, x], argTypes := #[29, 29] })
    {B n : Nat} {v : Value} {xs news : List Value} (hs : a.eval s = v) (ad : Addr) (hx : a.eval x = .slice (some ad) 1 1) (hown : W.ownsRow B 87 3 v n xs) (hl : news.length = 1 * 3) (hnews : ∀ j u, news[j]? = some u → W.cell? (ad.add j) = some u) (h1 : ∀ u ∈ news, u.oneCell' = true) (hn : n + 1 ≤ 100000) (hB : B ≤ W.heap.size)
    (h : ∀ v' w', w'.ownsRow B 87 3 v' (n + 1) (xs ++ news) → W.grownBy w' v.ownBlock → K (a.put o.dst v') w') : if Region.wanted o (yielded ops a.tmps) = true then Oper.wp Try.prog o a W K Q else E := by
  obtain ⟨i0, hi, hz0, hz1, hz2⟩ := info_parts rk_info
  exact step_append_lies (P := Try.prog) W hgd s x 29 ho B 87 i0 _ 3 40 Try.underlying29 hi hz0 hz1 hz2 rfl (by omega) v n xs hs hown ad 1 1 news hx hl hnews h1 (by omega) (by unfold maxLen; omega) (by omega) hB _ rfl (fun g cap w' h2 h3 _ _ => h _ w' h2 h3)
end Go.Proofs.Ytboophfcakdlcaa
