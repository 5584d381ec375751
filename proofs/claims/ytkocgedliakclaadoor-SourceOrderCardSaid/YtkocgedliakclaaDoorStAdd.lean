/- Lines are put behind a macro's. -/
import Derived.Test.YtkocgedliakclaaDoorStMacro
namespace Go.Proofs.YtkocgedliakclaaDoor
open Go.RowKit Go.PlainAid Go.Maps Go.Shelf

/-- Lines of one's own, in blocks of S. -/
def OwnS (S : Nat → Prop) (v : Value) (l : List LineC) (w : World) : Prop :=
  (v = .slice none 0 0 ∧ l = []) ∨ ∃ g cap cur, v = .slice (some ⟨g, 0, none⟩) l.length cap ∧ S g ∧ w.heap[g]? = some (.cells cur 37 (0, 0)) ∧ l.length ≤ cap ∧ cap ≤ maxLen ∧ cur.size = cap * 5 ∧
    ∀ i (h : i < l.length), ∃ u, LineIn (fun k => S k ∧ k ≠ g) g (i * 5) l[i] u w
theorem OwnIn.own {lo hi : Nat} {v : Value} {l : List LineC} {w : World} (h : OwnIn lo hi v l w) : OwnS (fun k => lo ≤ k ∧ k < hi) v l w := by
  rcases h with h | ⟨g, cap, cur, rfl, hg, hg2, hh, h3, h4, h5, h6⟩
  · exact .inl h
  · refine .inr ⟨g, cap, cur, rfl, ⟨hg, hg2⟩, hh, h3, h4, h5, fun i hi => ?_⟩
    obtain ⟨u, hu⟩ := h6 i hi
    exact ⟨u, hu.mono fun k h => ⟨⟨h.1, h.2.1⟩, h.2.2⟩⟩
theorem OwnS.rd {S : Nat → Prop} {v : Value} {l : List LineC} {w : World} (h : OwnS S v l w) (hm : l.length ≤ maxLen) : LinesRd S v l w := by
  rcases h with ⟨rfl, rfl⟩ | ⟨g, cap, cur, rfl, hg, _, _, _, _, h2⟩
  · exact ⟨none, 0, rfl, Nat.zero_le _, 0, 0, fun h => absurd h (Nat.lt_irrefl _), fun i hi => absurd hi (Nat.not_lt_zero _)⟩
  · refine ⟨_, cap, rfl, hm, g, 0, fun _ => ⟨rfl, hg⟩, fun i hi => ?_⟩
    obtain ⟨u, hu⟩ := h2 i hi
    rw [Nat.zero_add]
    exact ⟨u, hu.mono fun _ h => h.1⟩
theorem OwnS.row {S : Nat → Prop} {v : Value} {l : List LineC} {w : World} {B : Nat} (h : OwnS S v l w) (hB : ∀ k, S k → B ≤ k) : ∃ xs, w.ownsRow B 37 5 v l.length xs := by
  rcases h with ⟨rfl, rfl⟩ | ⟨g, cap, cur, rfl, hg, hh, h3, h4, h5, h6⟩
  · exact ⟨[], rfl, .inl ⟨rfl, rfl⟩⟩
  · refine ⟨cur.toList.take (l.length * 5), ?_, .inr ⟨g, cap, cur, rfl, hB g hg, hh, h3, h4, h5, rfl⟩⟩
    rw [List.length_take]
    simp only [Array.length_toList]
    omega
theorem ok_val {α : Type} {a b : α} {w1 w2 : World} (h : (Result.ok a w1 : Result α) = .ok b w2) : a = b := by injection h
/-- Rows are put behind the others: in their own row, or in a new one. -/
theorem app_lines {B n m c : Nat} {v : Value} {xs news : List Value} {W : World} (hown : W.ownsRow B 37 5 v n xs) (ad : Addr) (hl : news.length = m * 5) (hadd : ∀ j u, news[j]? = some u → W.cell? (ad.add j) = some u) (hone : ∀ u ∈ news, u.oneCell' = true) (hn : n + m ≤ 100000) (hB : B ≤ W.heap.size) :
    ∃ v' w', (Builtin.append_ #[22, 22] 22 #[v, .slice (some ad) m c]).run Tryd.prog W = .ok v' w' ∧ w'.ownsRow B 37 5 v' (n + m) (xs ++ news) ∧ W.grownBy w' v.ownBlock ∧
      (v'.ownBlock = v.ownBlock ∨ v'.ownBlock = some W.heap.size) := by
  obtain ⟨i0, hi, hz0, hz1, hz2⟩ := info_parts lines_info
  obtain ⟨v', w', hr, h3, h4, _⟩ := run_append_own (P := Tryd.prog) W B 22 22 37 i0 _ 5 64 Tryd.underlying22 hi hz0 hz1 hz2 rfl (by omega) v n xs hown ad m c news hl hadd hone (by unfold maxLen; omega) (by omega) hB
  refine ⟨v', w', hr, h3, h4, ?_⟩
  have hl' : news.length = m * i0.size := by rw [hz1]; exact hl
  rcases hown.2 with ⟨rfl, rfl⟩ | ⟨g, cap, cur, rfl, h5, h6, h7, h8, h9, h10⟩
  · by_cases h0 : m = 0
    · subst h0
      left
      have h6 := h3
      rcases h6.2 with ⟨rfl, _⟩ | ⟨g, cap, cur, rfl, _⟩
      · rfl
      · exfalso
        rename_i h7
        exact absurd (h7.2 ⟨rfl, rfl⟩) (by simp)
    · right
      have := run_append_nil (P := Tryd.prog) W 22 22 37 i0 _ Tryd.underlying22 hi hz0 ad m c news hl' hadd (by omega) (by omega) (by rw [hz2]; omega)
      exact (congrArg Value.ownBlock (ok_val (hr.symm.trans this))).trans rfl
  · by_cases hroom : n + m ≤ cap
    · left
      have := run_append_room (P := Tryd.prog) W 22 22 37 i0 Tryd.underlying22 hi g n cap cur h6 ad m c news hl' hadd hone hroom (by rw [hz1, h9]; have := Nat.mul_le_mul_right 5 hroom; simp [Nat.add_mul] at this ⊢; omega)
      exact (congrArg Value.ownBlock (ok_val (hr.symm.trans this))).trans rfl
    · right
      have := run_append_grow (P := Tryd.prog) W 22 22 37 i0 _ Tryd.underlying22 hi hz0 ⟨g, 0, none⟩ n cap xs (by rw [hown.1, hz1]) (hown.cells (g := g) rfl) ad m c news hl' hadd (by omega) (by omega) (growslice_fits (by omega) (by rw [hz2]; omega))
      exact (congrArg Value.ownBlock (ok_val (hr.symm.trans this))).trans rfl
theorem LineIn.moveTo {S : Nat → Prop} {w w' : World} {b off b' off' : Nat} {x : LineC} {v : Value} (h : LineIn S b off x v w) (hc : ∀ k, k < 5 → w'.cell? ⟨b', off' + k, none⟩ = w.cell? ⟨b, off + k, none⟩) (hs : Stay (fun k => S k ∧ k < w.heap.size) w w') :
    LineIn (fun k => S k ∧ k < w.heap.size) b' off' x v w' :=
  ⟨by have := hc 0 (by omega); simp only [Nat.add_zero] at this; rw [this]; exact h.c0, by rw [hc 1 (by omega)]; exact h.c1, by rw [hc 2 (by omega)]; exact h.c2, by rw [hc 3 (by omega)]; exact h.c3,
    by rw [hc 4 (by omega)]; exact h.c4, h.boxes.both.stay hs⟩
theorem own_cells {W : World} {B n : Nat} {t : TypeId} {g c : Nat} {xs : List Value} (h : W.ownsRow B t 5 (.slice (some ⟨g, 0, none⟩) n c) n xs) (j : Nat) (hj : j < n * 5) : W.cell? ⟨g, j, none⟩ = xs[j]? := by
  rcases h.2 with ⟨e, _⟩ | ⟨g', cap, cur, e, _, h2, h3, _, h5, h6⟩
  · cases e
  · cases e
    rw [← h6, List.getElem?_take, if_pos hj]
    simp [World.cell?, h2]
set_option maxRecDepth 100000 in
/-- Lines of one's own behind lines of one's own. -/
theorem app_own {S T : Nat → Prop} {v1 v2 : Value} {l1 l2 : List LineC} {W : World} (h1 : OwnS S v1 l1 W) (h2 : OwnS T v2 l2 W) (hd : ∀ k, T k → v1.ownBlock ≠ some k) (hlen : l1.length + l2.length ≤ 2000) :
    ∃ v' w', (Builtin.append_ #[22, 22] 22 #[v1, v2]).run Tryd.prog W = .ok v' w' ∧ W.grownBy w' v1.ownBlock ∧ OwnS (fun k => S k ∨ T k ∨ k = W.heap.size) v' (l1 ++ l2) w' := by
  obtain ⟨xs, hown⟩ := h1.row (B := 0) fun _ _ => Nat.zero_le _
  obtain ⟨i0, hi, hz0, hz1, hz2⟩ := info_parts lines_info
  rcases id h2 with ⟨rfl, rfl⟩ | ⟨g2, cap2, cur2, rfl, hg2, hh2, h23, h24, h25, h26⟩
  · refine ⟨v1, W, run_append_owned_none (P := Tryd.prog) (w := W) 0 22 22 37 i0 5 Tryd.underlying22 hi v1 l1.length xs hown, ⟨rfl, rfl, rfl, Nat.le_refl _, fun _ _ _ => rfl⟩, ?_⟩
    rw [List.append_nil]
    rcases h1 with h | ⟨g, cap, cur, rfl, hg, hh, h3, h4, h5, h6⟩
    · exact .inl h
    · exact .inr ⟨g, cap, cur, rfl, .inl hg, hh, h3, h4, h5, fun i hi => by obtain ⟨u, hu⟩ := h6 i hi; exact ⟨u, hu.mono fun k h => ⟨.inl h.1, h.2⟩⟩⟩
  · have hrd := h2.rd (by unfold maxLen; omega)
    obtain ⟨news, hl, hc, hone⟩ := news_of (lines_cells hrd _ rfl)
    obtain ⟨v', w', hr, hown', hg, hwh⟩ := app_lines (c := cap2) hown ⟨g2, 0, none⟩ hl hc hone (by omega) (Nat.zero_le _)
    refine ⟨v', w', hr, hg, ?_⟩
    have hxl : xs.length = l1.length * 5 := hown.1
    rcases id hown'.2 with ⟨rfl, h0⟩ | ⟨g', cap', cur', rfl, _, hh', h3', h4', h5', _⟩
    · exact .inl ⟨rfl, List.eq_nil_of_length_eq_zero (by rw [List.length_append]; omega)⟩
    · have hlt2 : g2 < W.heap.size := (Array.getElem?_eq_some_iff.1 hh2).1
      have cells := fun j hj => own_cells hown' j hj
      have hwh' : v1.ownBlock = some g' ∨ g' = W.heap.size := by
        rcases hwh with h | h
        · exact .inl h.symm
        · right; injection h
      have stay : ∀ P : Nat → Prop, (∀ k, P k → v1.ownBlock ≠ some k) → Stay (fun k => P k ∧ k < W.heap.size) W w' := fun P hP k off hk => by
        simp [World.cell?, hg.block k hk.2 (fun e => hP k hk.1 e.symm)]
      refine .inr ⟨g', cap', cur', by rw [List.length_append], ?_, hh', by rw [List.length_append]; exact h3', h4', h5', fun i hi => ?_⟩
      · rcases hwh' with h | h
        · rcases h1 with ⟨rfl, _⟩ | ⟨g, _, _, rfl, hgS, _⟩
          · cases h
          · injection h with h
            have h : g = g' := h
            exact .inl (h ▸ hgS)
        · exact .inr (.inr h)
      · rw [List.length_append] at hi
        by_cases hn : i < l1.length
        · rcases h1 with ⟨_, rfl⟩ | ⟨g, cap, cur, rfl, hgS, hh, h3, h4, h5, h6⟩
          · exact absurd hn (Nat.not_lt_zero _)
          · obtain ⟨u, hu⟩ := h6 i hn
            have hu2 := hu.moveTo (w' := w') (b' := g') (off' := i * 5) (fun k hk => by
              rw [cells _ (by omega), List.getElem?_append_left (by omega), own_cells hown _ (by omega)]) (stay (fun k => S k ∧ k ≠ g) fun k hk e => hk.2 (by injection e with e; exact e.symm))
            rw [List.getElem_append_left hn]
            exact ⟨u, hu2.mono fun k hk => ⟨.inl hk.1.1, fun e => by
              rcases hwh' with h | h
              · exact hk.1.2 (by injection h with h; rw [e]; exact h.symm)
              · have := hk.2; omega⟩⟩
        · obtain ⟨u, hu⟩ := h26 (i - l1.length) (by omega)
          have hu2 := hu.moveTo (w' := w') (b' := g') (off' := i * 5) (fun k hk => by
              have hj : (i - l1.length) * 5 + k < news.length := by omega
              have e : i * 5 + k - xs.length = (i - l1.length) * 5 + k := by omega
              rw [cells _ (by omega), List.getElem?_append_right (by omega), e, List.getElem?_eq_getElem hj, ← hc _ _ (List.getElem?_eq_getElem hj), add_none, Nat.zero_add]) (stay (fun k => T k ∧ k ≠ g2) fun k hk => hd k hk.1)
          rw [List.getElem_append_right (by omega)]
          exact ⟨u, hu2.mono fun k hk => ⟨.inr (.inl hk.1.1), fun e => by
              rcases hwh' with h | h
              · exact hd k hk.1.1 (by rw [e]; exact h)
              · have := hk.2; omega⟩⟩
theorem grown_low {B : Nat} {w w' : World} {row : Option Nat} (hg : w.grownBy w' row) (h : ∀ k, row = some k → B ≤ k) (hB : B ≤ w.heap.size) : Below B w w' :=
  ⟨hg.os, hg.tape, hg.output, hg.size, fun k hk => hg.block k (by omega) (fun e => by have := h k e.symm; omega)⟩
end Go.Proofs.YtkocgedliakclaaDoor
