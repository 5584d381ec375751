/- The document's book: put. -/
import Derived.Test.YtopgbbkndkincaaGreatDoorRdAt
import Derived.RegionTactic
import Derived.BigRegion
namespace Go.Proofs.YtopgbbkndkincaaGreatDoor
open Go.RowKit Go.PlainAid

theorem rd_set_at {w : World} {b : Nat} {c : Array Value} {t : TypeId} {f : Nat × Nat} (h : w.heap[b]? = some (.cells c t f)) (k : Nat) (u : Value) :
    (w.setCell ⟨b, k, none⟩ u).heap[b]? = some (.cells (c.setIfInBounds k u) t f) := by
  have hlt := (Array.getElem?_eq_some_iff.1 h).1
  have h' : w.heap[b] = .cells c t f := by simpa [Array.getElem?_eq_getElem hlt] using h
  show (w.heap.modify b _)[b]? = _
  rw [Array.getElem?_eq_getElem (by simpa using hlt), Array.getElem_modify_self, h']
  rfl
/-- Where the rows lie now: where they lay, or in a block made since. -/
def NewOr (v v' : Value) (w : World) : Prop := ∀ k, v'.ownBlock = some k → v.ownBlock = some k ∨ w.heap.size ≤ k
theorem NewOr.same (v : Value) (w : World) : NewOr v v w := fun _ e => .inl e
/-- Only the document's book was turned: its own block, and its row. -/
structure RefKept (b : Nat) (v : Value) (w w' : World) : Prop where
  os : w'.os = w.os
  tape : w'.tape = w.tape
  output : w'.output = w.output
  size : w.heap.size ≤ w'.heap.size
  block : ∀ k, k < w.heap.size → k ≠ b → v.ownBlock ≠ some k → w'.heap[k]? = w.heap[k]?
theorem RefKept.of_below {b : Nat} {v : Value} {w w' : World} (h : Below w.heap.size w w') : RefKept b v w w' := ⟨h.os, h.tape, h.output, h.size, fun k hk _ _ => h.block k hk⟩
theorem RefKept.trans {b : Nat} {v : Value} {w w1 w2 : World} (h : RefKept b v w w1) (k : RefKept b v w1 w2) : RefKept b v w w2 :=
  ⟨k.os.trans h.os, k.tape.trans h.tape, k.output.trans h.output, Nat.le_trans h.size k.size, fun i hi h1 h2 => (k.block i (Nat.lt_of_lt_of_le hi h.size) h1 h2).trans (h.block i hi h1 h2)⟩

theorem RefKept.drew {b : Nat} {v : Value} {w w' : World} (h : RefKept b v w w') : RefKept b v w w'.drew := ⟨h.os, h.tape, h.output, h.size, h.block⟩

section
variable {B b : Nat} {v : Value} {l : List Row} {w w' : World}
theorem RefAt.drew (h : RefAt B b v l w) : RefAt B b v l w.drew := h.below (below_drewN (Below.refl _ _) 1)
theorem set_flat {l : List Row} {i : Nat} (hi : i < l.length) (r : Row) :
    ((((flat l).set (i * 4) (.string r.name)).set (i * 4 + 1) (.int .i64 r.value)).set (i * 4 + 2) (.int .i64 r.step)).set (i * 4 + 3) (.string r.form) = flat (l.set i r) := by
  apply List.ext_getElem?
  intro k
  have hq : k = (k / 4) * 4 + k % 4 := by omega
  have hm : k % 4 < 4 := by omega
  obtain ⟨q, hqe⟩ : ∃ q, k / 4 = q := ⟨_, rfl⟩
  obtain ⟨m, hme⟩ : ∃ m, k % 4 = m := ⟨_, rfl⟩
  rw [hqe, hme] at hq
  rw [hme] at hm
  subst hq
  clear hqe hme
  by_cases hlt : q < l.length
  · by_cases e : q = i
    · subst e
      have h1 : (l.set q r)[q]? = some r := by simp [hlt]
      rw [flat_get h1 m hm]
      have hl := flat_length l
      rcases (show m = 0 ∨ m = 1 ∨ m = 2 ∨ m = 3 by omega) with rfl | rfl | rfl | rfl <;> simp [List.getElem?_set, hl, Row.cells] <;> omega
    · obtain ⟨x, hx⟩ : ∃ x, l[q]? = some x := ⟨_, List.getElem?_eq_getElem hlt⟩
      have h1 : (l.set i r)[q]? = some x := by rw [List.getElem?_set_ne (fun h => e h.symm)]; exact hx
      rw [flat_get h1 m hm, ← flat_get hx m hm]
      rw [List.getElem?_set_ne (by omega), List.getElem?_set_ne (by omega), List.getElem?_set_ne (by omega), List.getElem?_set_ne (by omega)]
  · rw [List.getElem?_eq_none (by simp [flat_length]; omega), List.getElem?_eq_none (by rw [flat_length, List.length_set]; omega)]

/-- A row of the book is set. -/
theorem RefAt.stored {g cap : Nat} (h : RefAt B b (.slice (some ⟨g, 0, none⟩) l.length cap) l w) (hg : g ≠ b) {i : Nat} (hi : i < l.length) (r : Row) :
    RefAt B b (.slice (some ⟨g, 0, none⟩) l.length cap) (l.set i r) ((((w.setCell ⟨g, i * 4, none⟩ (.string r.name)).setCell ⟨g, i * 4 + 1, none⟩ (.int .i64 r.value)).setCell ⟨g, i * 4 + 2, none⟩ (.int .i64 r.step)).setCell ⟨g, i * 4 + 3, none⟩ (.string r.form)) ∧
    RefKept b (.slice (some ⟨g, 0, none⟩) l.length cap) w ((((w.setCell ⟨g, i * 4, none⟩ (.string r.name)).setCell ⟨g, i * 4 + 1, none⟩ (.int .i64 r.value)).setCell ⟨g, i * 4 + 2, none⟩ (.int .i64 r.step)).setCell ⟨g, i * 4 + 3, none⟩ (.string r.form)) := by
  obtain ⟨s1, g1⟩ := h.row.stored (i * 4) (.string r.name)
  obtain ⟨s2, g2⟩ := s1.stored (i * 4 + 1) (.int .i64 r.value)
  obtain ⟨s3, g3⟩ := s2.stored (i * 4 + 2) (.int .i64 r.step)
  obtain ⟨s4, g4⟩ := s3.stored (i * 4 + 3) (.string r.form)
  have hk : ∀ k, k < w.heap.size → k ≠ g → ((((w.setCell ⟨g, i * 4, none⟩ (.string r.name)).setCell ⟨g, i * 4 + 1, none⟩ (.int .i64 r.value)).setCell ⟨g, i * 4 + 2, none⟩ (.int .i64 r.step)).setCell ⟨g, i * 4 + 3, none⟩ (.string r.form)).heap[k]? = w.heap[k]? := fun k hk hne => by
    rw [g4.block k (by simpa using hk) (by simpa using hne), g3.block k (by simpa using hk) (by simpa using hne), g2.block k (by simpa using hk) (by simpa using hne), g1.block k hk (by simpa using hne)]
  refine ⟨⟨?_, ?_, h.lo, by simpa using h.few⟩, ⟨rfl, rfl, rfl, by simp, fun k h1 h2 h3 => hk k h1 (by simpa [Value.ownBlock] using fun e => h3 (by simp [Value.ownBlock, e]))⟩⟩
  · rw [hk b h.lt (fun e => hg e.symm)]; exact h.blk
  · rw [set_flat hi r] at s4
    rw [List.length_set]
    exact s4

def PutSetP (B b : Nat) (v : Value) (l : List Row) (r : Row) (w : World) (e : Ending) (w' : World) : Prop :=
  e = .returned (.int .i64 0) ∧ RefAt B b v (l.set (pos r.name l) r) w' ∧ RefKept b v w w'
set_option maxRecDepth 100000 in
set_option maxHeartbeats 2000000 in
theorem rput_set (r : Row) (h : RefAt B b v l w) (hi : isAt r.name l = true) : Calls Tryz.prog 35 #[.pointer (some ⟨b, 0, none⟩), rowV r] w (PutSetP B b v l r w) := by
  have hbw : Below w.heap.size w (w.alloc (.cells #[.string r.name, .int .i64 r.value, .int .i64 r.step, .string r.form] 62)) := (Below.refl _ _).alloc (Nat.le_refl _) _
  have h1 := h.below hbw
  have HA := Lib.hid (rat_any r.name h1)
  rw [hi] at HA
  obtain ⟨q, hq, _⟩ := isAt_yes hi
  have hlt : pos r.name l < l.length := (List.getElem?_eq_some_iff.1 hq).1
  have HB := Lib.hid hbw
  have HH := Lib.hid h1
  rcases h.ways with ⟨_, h2⟩ | ⟨g, cap, rfl, hBg, hgl, hgb, _⟩
  · rw [h2] at hlt; exact absurd hlt (Nat.not_lt_zero _)
  obtain ⟨p, hp⟩ : ∃ p, pos r.name l = p := ⟨_, rfl⟩
  rw [hp] at HA hlt
  unfold PutSetP
  rw [hp]
  have hfew := h.few
  clear h hbw h1 hi hq hp
  go_enter Tryz.func35, Tryz.ntmps35
  go_wp2_with fail
  refine HA.out.mono ?_
  rintro e w1 ⟨rfl, hb⟩
  have hx : w1.heap[w.heap.size]? = some (.cells #[.string r.name, .int .i64 r.value, .int .i64 r.step, .string r.form] 62 (0, 0)) := by rw [hb.block _ (by simp)]; exact heap_alloc_new _ _
  have k0 : w1.cell? ⟨w.heap.size, 0, none⟩ = some (.string r.name) := by unfold World.cell?; rw [hx]; rfl
  have k1 : w1.cell? ⟨w.heap.size, 1, none⟩ = some (.int .i64 r.value) := by unfold World.cell?; rw [hx]; rfl
  have k2 : w1.cell? ⟨w.heap.size, 2, none⟩ = some (.int .i64 r.step) := by unfold World.cell?; rw [hx]; rfl
  have k3 : w1.cell? ⟨w.heap.size, 3, none⟩ = some (.string r.form) := by unfold World.cell?; rw [hx]; rfl
  have h2 := HH.out.below hb
  have hc := h2.cell
  have hpz : (0 : Int) ≤ p := by omega
  have hpl : (p : Int) < l.length := by omega
  obtain ⟨s, hs⟩ : ∃ s, l[p]? = some s := ⟨_, List.getElem?_eq_getElem hlt⟩
  obtain ⟨c0, c1, c2, c3⟩ := h2.cells hs
  have f0 : ∀ j, w1.frozen? ⟨g, j, none⟩ = false := fun j => h2.row.frozenAt j
  have hst := h2.stored hgb hlt r
  have HST := Lib.hid hst
  have HK := Lib.hid (HB.out.trans (hb.mono HB.out.size))
  clear hst h2 hs hx
  go_wp2_with fail
  go_region
  go_wp2_with fail
  go_ret
  obtain ⟨t1, t2⟩ := HST.out
  exact ⟨rfl, t1.drew, ((RefKept.of_below HK.out).trans t2).drew⟩

theorem rput_full (r : Row) (h : RefAt B b v l w) (hi : isAt r.name l = false) (h5 : l.length = 500) : Calls Tryz.prog 35 #[.pointer (some ⟨b, 0, none⟩), rowV r] w (Makes (.int .i64 9) w) := by
  have hbw : Below w.heap.size w (w.alloc (.cells #[.string r.name, .int .i64 r.value, .int .i64 r.step, .string r.form] 62)) := (Below.refl _ _).alloc (Nat.le_refl _) _
  have h1 := h.below hbw
  have HA := Lib.hid (rat_any r.name h1)
  rw [hi] at HA
  have HB := Lib.hid hbw
  have HH := Lib.hid h1
  rcases h.ways with ⟨_, h2⟩ | ⟨g, cap, rfl, hBg, hgl, hgb, _⟩
  · rw [h2] at h5; cases h5
  have hl5 := Lib.hid h5
  obtain ⟨p, hp⟩ : ∃ p, pos r.name l = p := ⟨_, rfl⟩
  rw [hp] at HA
  clear h hbw h1 hi hp h5
  go_enter Tryz.func35, Tryz.ntmps35
  go_wp2_with fail
  refine HA.out.mono ?_
  rintro e w1 ⟨rfl, hb⟩
  have hc := (HH.out.below hb).cell
  rw [hl5.out] at hc
  go_wp2_with fail
  go_ret
  exact ⟨rfl, HB.out.trans (hb.mono HB.out.size)⟩
end

theorem row_info : (Tryz.prog.info? 62).map (fun i => (i.zero, i.size, i.bytes)) = some (some (.agg #[.string ⟨#[]⟩, .int .i64 0, .int .i64 0, .string ⟨#[]⟩]), 4, 48) := by kernel_rfl
/-- What is appended: nothing, or rows that lie somewhere. -/
def SrcAt (W : World) (sv : Value) (m : Nat) (news : List Value) : Prop :=
  (sv = .slice none 0 0 ∧ m = 0 ∧ news = []) ∨ ∃ a c, sv = .slice (some a) m c ∧ news.length = m * 4 ∧ (∀ j u, news[j]? = some u → W.cell? (a.add j) = some u) ∧ ∀ u ∈ news, u.oneCell' = true
theorem flat_one_cell (l : List Row) : ∀ u ∈ flat l, u.oneCell' = true := by
  intro u hu
  obtain ⟨r, _, hr⟩ := List.mem_flatMap.1 hu
  simp only [Row.cells, List.mem_cons, List.not_mem_nil, or_false] at hr
  rcases hr with rfl | rfl | rfl | rfl <;> rfl
theorem app_any {B n m : Nat} {v sv : Value} {xs news : List Value} {W : World} (hown : W.ownsRow B 62 4 v n xs) (hs : SrcAt W sv m news) (hnm : n + m ≤ 1000) (hB : B ≤ W.heap.size) :
    ∃ v' w', (Builtin.append_ #[27, 27] 27 #[v, sv]).run Tryz.prog W = .ok v' w' ∧ w'.ownsRow B 62 4 v' (n + m) (xs ++ news) ∧ W.grownBy w' v.ownBlock := by
  obtain ⟨i0, hi, hz0, hz1, hz2⟩ := info_parts row_info
  rcases hs with ⟨rfl, rfl, rfl⟩ | ⟨a, c, rfl, h1, h2, h3⟩
  · refine ⟨v, W, ?_, by simpa using hown, ⟨rfl, rfl, rfl, Nat.le_refl _, fun _ _ _ => rfl⟩⟩
    exact run_append_owned_none (P := Tryz.prog) (w := W) B 27 27 62 i0 4 Tryz.underlying27 hi v n xs hown
  · obtain ⟨v', w', hr, ho, hg, _⟩ := run_append_own (P := Tryz.prog) W B 27 27 62 i0 _ 4 48 Tryz.underlying27 hi hz0 hz1 hz2 rfl (by omega) v n xs hown a m c news h1 h2 h3 (by unfold maxLen; omega) (by omega) hB
    exact ⟨v', w', hr, ho, hg⟩
end Go.Proofs.YtopgbbkndkincaaGreatDoor
