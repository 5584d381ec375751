/- A stack of inputs in memory: a row of frames, each with its lines and its arguments. -/
import Derived.Test.YtkocgedliakclaaDoorStCopyPure
namespace Go.Proofs.YtkocgedliakclaaDoor
open Go.RowKit Go.PlainAid Go.Maps Go.Shelf

structure FrC where
  kind : Int
  name : ByteArray
  lines : List LineC
  next : Nat
  args : List ByteArray

/-- A value is a slice of strings, in blocks of S. -/
def StrsRd (S : Nat → Prop) (v : Value) (l : List ByteArray) (w : World) : Prop :=
  ∃ ao cap, v = .slice ao l.length cap ∧ l.length ≤ cap ∧ cap ≤ maxLen ∧ ∃ b off, (0 < l.length → ao = some ⟨b, off, none⟩ ∧ S b) ∧ ∀ i (h : i < l.length), w.cell? ⟨b, off + i, none⟩ = some (.string l[i])
theorem StrsRd.stay {S : Nat → Prop} {w w' : World} {v : Value} {l : List ByteArray} (h : StrsRd S v l w) (hs : Stay S w w') : StrsRd S v l w' := by
  obtain ⟨ao, cap, rfl, hl, hm, b, off, h1, h2⟩ := h
  exact ⟨ao, cap, rfl, hl, hm, b, off, h1, fun i hi => by rw [hs b _ (h1 (by omega)).2]; exact h2 i hi⟩
theorem StrsRd.mono {S T : Nat → Prop} {w : World} {v : Value} {l : List ByteArray} (h : StrsRd S v l w) (hs : ∀ b, S b → T b) : StrsRd T v l w := by
  obtain ⟨ao, cap, rfl, hl, hm, b, off, h1, h2⟩ := h
  exact ⟨ao, cap, rfl, hl, hm, b, off, fun h0 => ⟨(h1 h0).1, hs _ (h1 h0).2⟩, h2⟩
theorem StrsRd.both {S : Nat → Prop} {w : World} {v : Value} {l : List ByteArray} (h : StrsRd S v l w) : StrsRd (fun b => S b ∧ b < w.heap.size) v l w := by
  obtain ⟨ao, cap, rfl, hl, hm, b, off, h1, h2⟩ := h
  refine ⟨ao, cap, rfl, hl, hm, b, off, fun h0 => ⟨(h1 h0).1, (h1 h0).2, ?_⟩, h2⟩
  have := h2 0 h0
  rcases Nat.lt_or_ge b w.heap.size with h' | h'
  · exact h'
  · simp [World.cell?, Array.getElem?_eq_none h'] at this
theorem LinesRd.both' {S : Nat → Prop} {w : World} {v : Value} {l : List LineC} (h : LinesRd S v l w) : LinesRd (fun b => S b ∧ b < w.heap.size) v l w := by
  obtain ⟨ao, cap, rfl, hl, b, off, h1, h2⟩ := h
  refine ⟨ao, cap, rfl, hl, b, off, fun h0 => ⟨(h1 h0).1, (h1 h0).2, ?_⟩, fun i hi => ?_⟩
  · obtain ⟨u, hu⟩ := h2 0 h0
    have := hu.c0
    rcases Nat.lt_or_ge b w.heap.size with h' | h'
    · exact h'
    · simp [World.cell?, Array.getElem?_eq_none h'] at this
  · obtain ⟨u, hu⟩ := h2 i hi
    exact ⟨u, hu.c0, hu.c1, hu.c2, hu.c3, hu.c4, hu.boxes.both⟩

/-- The values of a frame's lines and arguments. -/
structure FrVal (S : Nat → Prop) (f : FrC) (lv av : Value) (w : World) : Prop where
  lines : LinesRd S lv f.lines w
  args : StrsRd S av f.args w
structure FrAt (S : Nat → Prop) (b off : Nat) (f : FrC) (lv av : Value) (w : World) : Prop where
  c0 : w.cell? ⟨b, off, none⟩ = some (.int .i64 f.kind)
  c1 : w.cell? ⟨b, off + 1, none⟩ = some (.string f.name)
  c2 : w.cell? ⟨b, off + 2, none⟩ = some lv
  c3 : w.cell? ⟨b, off + 3, none⟩ = some (.int .i64 f.next)
  c4 : w.cell? ⟨b, off + 4, none⟩ = some av
  val : FrVal S f lv av w
structure FrOk (f : FrC) : Prop where
  fit : Fit f.lines
  next : f.next ≤ f.lines.length
theorem FrOk.len {f : FrC} (h : FrOk f) : f.lines.length ≤ 2199023255552 := by have := h.fit.lines; omega
section
variable {S T : Nat → Prop} {w w' : World} {f : FrC} {lv av : Value}
theorem FrVal.stay (h : FrVal S f lv av w) (hs : Stay S w w') : FrVal S f lv av w' := ⟨h.lines.stay hs, h.args.stay hs⟩
theorem FrVal.mono (h : FrVal S f lv av w) (hs : ∀ b, S b → T b) : FrVal T f lv av w := ⟨h.lines.mono hs, h.args.mono hs⟩
theorem FrVal.both (h : FrVal S f lv av w) : FrVal (fun b => S b ∧ b < w.heap.size) f lv av w := ⟨h.lines.both', h.args.both⟩
theorem FrVal.form (h : FrVal S f lv av w) : (∃ la lc, lv = .slice la f.lines.length lc) ∧ ∃ aa ac, av = .slice aa f.args.length ac := by
  obtain ⟨la, lc, rfl, _⟩ := h.lines
  obtain ⟨aa, ac, rfl, _⟩ := h.args
  exact ⟨⟨_, _, rfl⟩, _, _, rfl⟩
theorem FrAt.moveTo {b off b' off' : Nat} (h : FrAt S b off f lv av w) (hc : ∀ k, k < 5 → w'.cell? ⟨b', off' + k, none⟩ = w.cell? ⟨b, off + k, none⟩) (hs : Stay S w w') : FrAt S b' off' f lv av w' :=
  ⟨by have := hc 0 (by omega); simp only [Nat.add_zero] at this; rw [this]; exact h.c0, by rw [hc 1 (by omega)]; exact h.c1, by rw [hc 2 (by omega)]; exact h.c2, by rw [hc 3 (by omega)]; exact h.c3,
    by rw [hc 4 (by omega)]; exact h.c4, h.val.stay hs⟩
theorem FrAt.mono {b off : Nat} (h : FrAt S b off f lv av w) (hs : ∀ b, S b → T b) : FrAt T b off f lv av w := ⟨h.c0, h.c1, h.c2, h.c3, h.c4, h.val.mono hs⟩
theorem FrAt.both {b off : Nat} (h : FrAt S b off f lv av w) : FrAt (fun b => S b ∧ b < w.heap.size) b off f lv av w := ⟨h.c0, h.c1, h.c2, h.c3, h.c4, h.val.both⟩
end

/-- A row of frames in block g. -/
def RowAt (S : Nat → Prop) (b : Nat) (v : Value) (F : List FrC) (w : World) : Prop :=
  (v = .slice none 0 0 ∧ F = []) ∨ ∃ g cap cur, v = .slice (some ⟨g, 0, none⟩) F.length cap ∧ S g ∧ g ≠ b ∧ w.heap[g]? = some (.cells cur 64 (0, 0)) ∧ F.length ≤ cap ∧ cap ≤ maxLen ∧ cur.size = cap * 5 ∧
    ∀ i (h : i < F.length), ∃ lv av, FrAt (fun k => S k ∧ k ≠ b ∧ k ≠ g) g (i * 5) F[i] lv av w
/-- Block b is a stack of frames F, in the row v; all that is in it lies in blocks of S, which lie from B on. -/
structure SkAt (B : Nat) (S : Nat → Prop) (b : Nat) (v : Value) (F : List FrC) (w : World) : Prop where
  blk : w.heap[b]? = some (.cells #[.bool true, v] 33 (0, 0))
  row : RowAt S b v F w
  sb : S b
  lo : ∀ k, S k → B ≤ k
  ok : ∀ f ∈ F, FrOk f
  len : F.length ≤ 50
section
variable {B b : Nat} {S : Nat → Prop} {v : Value} {F : List FrC} {w w' : World}
theorem SkAt.lt (h : SkAt B S b v F w) : b < w.heap.size := (Array.getElem?_eq_some_iff.1 h.blk).1
theorem SkAt.cell0 (h : SkAt B S b v F w) : w.cell? ⟨b, 0, none⟩ = some (.bool true) := by simp [World.cell?, h.blk]
theorem SkAt.cell1 (h : SkAt B S b v F w) : w.cell? ⟨b, 1, none⟩ = some v := by simp [World.cell?, h.blk]
theorem SkAt.frz (h : SkAt B S b v F w) : w.frozen? ⟨b, 1, none⟩ = false := by simp [World.frozen?, h.blk]
theorem SkAt.form (h : SkAt B S b v F w) : ∃ ao cap, v = .slice ao F.length cap ∧ F.length ≤ cap ∧ cap ≤ maxLen := by
  rcases h.row with ⟨rfl, rfl⟩ | ⟨g, cap, cur, rfl, _, _, _, h1, h2, _⟩
  · exact ⟨_, _, rfl, Nat.le_refl _, Nat.zero_le _⟩
  · exact ⟨_, _, rfl, h1, h2⟩
theorem RowAt.stay (h : RowAt S b v F w) (hs : ∀ k, S k → k ≠ b → k < w.heap.size → w'.heap[k]? = w.heap[k]?) : RowAt S b v F w' := by
  rcases h with ⟨rfl, rfl⟩ | ⟨g, cap, cur, rfl, hg, hgb, hh, h3, h4, h5, h6⟩
  · exact .inl ⟨rfl, rfl⟩
  · have hlt := (Array.getElem?_eq_some_iff.1 hh).1
    refine .inr ⟨g, cap, cur, rfl, hg, hgb, by rw [hs g hg hgb hlt]; exact hh, h3, h4, h5, fun i hi => ?_⟩
    obtain ⟨lv, av, hu⟩ := h6 i hi
    exact ⟨lv, av, (hu.both.moveTo (w' := w') (b' := g) (off' := i * 5) (fun k _ => by simp [World.cell?, hs g hg hgb hlt]) fun k off hk => by simp [World.cell?, hs k hk.1.1 hk.1.2.1 hk.2]).mono fun k hk => hk.1⟩
theorem SkAt.stay (h : SkAt B S b v F w) (hs : ∀ k, S k → k < w.heap.size → w'.heap[k]? = w.heap[k]?) : SkAt B S b v F w' :=
  ⟨by rw [hs b h.sb h.lt]; exact h.blk, h.row.stay fun k hk _ hlt => hs k hk hlt, h.sb, h.lo, h.ok, h.len⟩
theorem SkAt.both (h : SkAt B S b v F w) : SkAt B (fun k => S k ∧ k < w.heap.size) b v F w := by
  refine ⟨h.blk, ?_, ⟨h.sb, h.lt⟩, fun k hk => h.lo k hk.1, h.ok, h.len⟩
  rcases h.row with ⟨rfl, rfl⟩ | ⟨g, cap, cur, rfl, hg, hgb, hh, h3, h4, h5, h6⟩
  · exact .inl ⟨rfl, rfl⟩
  · refine .inr ⟨g, cap, cur, rfl, ⟨hg, (Array.getElem?_eq_some_iff.1 hh).1⟩, hgb, hh, h3, h4, h5, fun i hi => ?_⟩
    obtain ⟨lv, av, hu⟩ := h6 i hi
    exact ⟨lv, av, hu.both.mono fun k hk => ⟨⟨hk.1.1, hk.2⟩, hk.1.2⟩⟩
theorem SkAt.mono {T : Nat → Prop} (h : SkAt B S b v F w) (hs : ∀ k, S k → T k) (hT : ∀ k, T k → B ≤ k) : SkAt B T b v F w := by
  refine ⟨h.blk, ?_, hs _ h.sb, hT, h.ok, h.len⟩
  rcases h.row with ⟨rfl, rfl⟩ | ⟨g, cap, cur, rfl, hg, hgb, hh, h3, h4, h5, h6⟩
  · exact .inl ⟨rfl, rfl⟩
  · refine .inr ⟨g, cap, cur, rfl, hs _ hg, hgb, hh, h3, h4, h5, fun i hi => ?_⟩
    obtain ⟨lv, av, hu⟩ := h6 i hi
    exact ⟨lv, av, hu.mono fun k hk => ⟨hs _ hk.1, hk.2⟩⟩
theorem SkAt.below (h : SkAt B S b v F w) (hb : Below w.heap.size w w') : SkAt B S b v F w' := h.stay fun k _ hlt => hb.block k hlt
theorem SkAt.alloc (h : SkAt B S b v F w) (o : Obj) : SkAt B S b v F (w.alloc o) := h.below ((Below.refl _ _).alloc (Nat.le_refl _) _)
end
end Go.Proofs.YtkocgedliakclaaDoor
