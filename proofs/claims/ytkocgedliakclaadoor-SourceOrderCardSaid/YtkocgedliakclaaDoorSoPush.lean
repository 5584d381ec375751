/- A frame is put behind the others: the append, and what it leaves. -/
import Derived.Test.YtkocgedliakclaaDoorSoLeave
import Derived.Test.YtkocgedliakclaaDoorStAdd
namespace Go.Proofs.YtkocgedliakclaaDoor
open Go.RowKit Go.PlainAid Go.Maps Go.Shelf

/-- The frames up to the topmost one that is as asked. -/
def upTo (p : FrC → Bool) (F : List FrC) : List FrC := (F.reverse.dropWhile (fun f => !p f)).reverse
theorem dw_nil {q : FrC → Bool} : ∀ {l : List FrC}, (∀ x ∈ l, q x = true) → l.dropWhile q = []
  | [], _ => rfl
  | x :: r, h => by rw [List.dropWhile_cons_of_pos (h x (List.mem_cons_self ..))]; exact dw_nil fun y hy => h y (List.mem_cons_of_mem _ hy)
theorem upTo_none {p : FrC → Bool} {F : List FrC} (h : ∀ f ∈ F, p f = false) : upTo p F = [] := by
  unfold upTo
  rw [List.reverse_eq_nil_iff]
  refine dw_nil fun f hf => ?_
  rw [h f (List.mem_reverse.1 hf)]
  rfl
theorem upTo_at {p : FrC → Bool} {F : List FrC} {i : Nat} {f : FrC} (hi : F[i]? = some f) (hp : p f = true) (hl : ∀ (j : Nat) f', i < j → F[j]? = some f' → p f' = false) : upTo p F = F.take (i + 1) := by
  obtain ⟨hlt, hf⟩ := List.getElem?_eq_some_iff.1 hi
  have e : F = F.take (i + 1) ++ F.drop (i + 1) := (List.take_append_drop _ _).symm
  have hd : ∀ x ∈ (F.drop (i + 1)).reverse, (!p x) = true := fun x hx => by
    obtain ⟨j, hj, rfl⟩ := List.getElem_of_mem (List.mem_reverse.1 hx)
    rw [List.getElem_drop]
    rw [hl (i + 1 + j) _ (by omega) (List.getElem?_eq_getElem _)]
    rfl
  have e2 : F.take (i + 1) = F.take i ++ [f] := by rw [List.take_succ_eq_append_getElem hlt, hf]
  have e3 : F.reverse = (F.drop (i + 1)).reverse ++ (f :: (F.take i).reverse) := by
    rw [show F.reverse = (F.take (i + 1) ++ F.drop (i + 1)).reverse from by rw [← e], List.reverse_append, e2, List.reverse_append]
    rfl
  unfold upTo
  rw [e3, List.dropWhile_append_of_pos hd, List.dropWhile_cons_of_neg (by simp [hp]), List.reverse_cons, List.reverse_reverse, e2]
theorem upTo_len (p : FrC → Bool) (F : List FrC) : (upTo p F).length ≤ F.length := by
  unfold upTo
  rw [List.length_reverse]
  exact Nat.le_trans (List.dropWhile_sublist _).length_le (by rw [List.length_reverse]; exact Nat.le_refl _)

/-- Rows are put behind the others: in their own row, or in a new one. -/
theorem app_frames {B n c : Nat} {v : Value} {xs news : List Value} {W : World} (hown : W.ownsRow B 64 5 v n xs) (ad : Addr) (hl : news.length = 1 * 5) (hadd : ∀ j u, news[j]? = some u → W.cell? (ad.add j) = some u) (hone : ∀ u ∈ news, u.oneCell' = true) (hn : n + 1 ≤ 100000) (hB : B ≤ W.heap.size) :
    ∃ v' w', (Builtin.append_ #[31, 31] 31 #[v, .slice (some ad) 1 c]).run Tryd.prog W = .ok v' w' ∧ w'.ownsRow B 64 5 v' (n + 1) (xs ++ news) ∧ W.grownBy w' v.ownBlock ∧
      (v'.ownBlock = v.ownBlock ∨ v'.ownBlock = some W.heap.size) := by
  obtain ⟨i0, hi, hz0, hz1, hz2⟩ := info_parts frames_info
  obtain ⟨v', w', hr, h3, h4, _⟩ := run_append_own (P := Tryd.prog) W B 31 31 64 i0 _ 5 80 Tryd.underlying31 hi hz0 hz1 hz2 rfl (by omega) v n xs hown ad 1 c news hl hadd hone (by unfold maxLen; omega) (by omega) hB
  refine ⟨v', w', hr, h3, h4, ?_⟩
  have hl' : news.length = 1 * i0.size := by rw [hz1]; exact hl
  rcases hown.2 with ⟨rfl, rfl⟩ | ⟨g, cap, cur, rfl, h5, h6, h7, h8, h9, h10⟩
  · right
    have := run_append_nil (P := Tryd.prog) W 31 31 64 i0 _ Tryd.underlying31 hi hz0 ad 1 c news hl' hadd (by omega) (by omega) (by rw [hz2]; omega)
    exact (congrArg Value.ownBlock (ok_val (hr.symm.trans this))).trans rfl
  · by_cases hroom : n + 1 ≤ cap
    · left
      have := run_append_room (P := Tryd.prog) W 31 31 64 i0 Tryd.underlying31 hi g n cap cur h6 ad 1 c news hl' hadd hone hroom (by rw [hz1, h9]; omega)
      exact (congrArg Value.ownBlock (ok_val (hr.symm.trans this))).trans rfl
    · right
      have := run_append_grow (P := Tryd.prog) W 31 31 64 i0 _ Tryd.underlying31 hi hz0 ⟨g, 0, none⟩ n cap xs (by rw [hown.1, hz1]) (hown.cells (g := g) rfl) ad 1 c news hl' hadd (by omega) (by omega) (growslice_fits (by omega) (by rw [hz2]; omega))
      exact (congrArg Value.ownBlock (ok_val (hr.symm.trans this))).trans rfl

section
variable {B b : Nat} {S : Nat → Prop} {v : Value} {F : List FrC} {w : World}
theorem SkAt.owns (h : SkAt B S b v F w) : ∃ xs, w.ownsRow 0 64 5 v F.length xs := by
  rcases h.row with ⟨rfl, rfl⟩ | ⟨g, cap, cur, rfl, _, _, hh, h1, h2, h3, _⟩
  · exact ⟨[], rfl, .inl ⟨rfl, rfl⟩⟩
  · exact ⟨cur.toList.take (F.length * 5), by rw [List.length_take]; simp only [Array.length_toList]; omega, .inr ⟨g, cap, cur, rfl, Nat.zero_le _, hh, h1, h2, h3, rfl⟩⟩
theorem SkAt.nob (h : SkAt B S b v F w) : v.ownBlock ≠ some b := by
  rcases h.row with ⟨rfl, _⟩ | ⟨g, cap, cur, rfl, _, hgb, _⟩
  · intro e; cases e
  · intro e
    injection e with e
    exact hgb e
theorem SkAt.bS (h : SkAt B S b v F w) {g : Nat} (e : v.ownBlock = some g) : S g ∧ g < w.heap.size := by
  rcases h.row with ⟨rfl, _⟩ | ⟨g, cap, cur, rfl, hS, _, hh, _⟩
  · cases e
  · injection e with e
    have e : g = _ := e
    subst e
    exact ⟨hS, (Array.getElem?_eq_some_iff.1 hh).1⟩
theorem own_at {W : World} {Bq n : Nat} {t : TypeId} {v : Value} {g : Nat} {xs : List Value} (h : W.ownsRow Bq t 5 v n xs) (e : v.ownBlock = some g) (j : Nat) (hj : j < n * 5) : W.cell? ⟨g, j, none⟩ = xs[j]? := by
  rcases h.2 with ⟨rfl, _⟩ | ⟨g', cap, cur, rfl, _, h2, h3, _, h5, h6⟩
  · cases e
  · injection e with e
    have e : g' = g := e
    subst e
    rw [← h6, List.getElem?_take, if_pos hj]
    simp [World.cell?, h2]
theorem SkAt.frame (h : SkAt B S b v F w) {i : Nat} (hi : i < F.length) : ∃ g lv av, v.ownBlock = some g ∧ FrAt (fun k => S k ∧ k ≠ b ∧ k ≠ g) g (i * 5) F[i] lv av w := by
  rcases h.row with ⟨_, rfl⟩ | ⟨g, cap, cur, rfl, _, _, _, _, _, _, h4⟩
  · exact absurd hi (Nat.not_lt_zero _)
  · obtain ⟨lv, av, hu⟩ := h4 i hi
    exact ⟨g, lv, av, rfl, hu⟩
set_option maxRecDepth 100000 in
theorem SkAt.push (h : SkAt B S b v F w) {w1 w2 : World} {xs : List Value} {v' : Value} {f : FrC} {lv av : Value} (hb1 : Below w.heap.size w w1) (hown : w1.ownsRow 0 64 5 v F.length xs)
    (hown' : w2.ownsRow 0 64 5 v' (F.length + 1) (xs ++ [.int .i64 f.kind, .string f.name, lv, .int .i64 f.next, av])) (hg : w1.grownBy w2 v.ownBlock) (hwh : v'.ownBlock = v.ownBlock ∨ v'.ownBlock = some w1.heap.size)
    (hf : FrVal (fun k => S k ∧ k ≠ b ∧ v.ownBlock ≠ some k ∧ k < w.heap.size) f lv av w) (hok : FrOk f) (hlen : F.length < 50) (hS : ∀ k, w.heap.size ≤ k → S k) :
    SkAt B S b v' (F ++ [f]) (w2.setCell ⟨b, 1, none⟩ v') ∧ Below B w (w2.setCell ⟨b, 1, none⟩ v') ∧ (∀ k, k < w.heap.size → k ≠ b → v.ownBlock ≠ some k → (w2.setCell ⟨b, 1, none⟩ v').heap[k]? = w.heap[k]?) := by
  have hbl := h.lt
  have hB0 : B ≤ b := h.lo _ h.sb
  have hBw : B ≤ w.heap.size := Nat.le_trans hB0 (Nat.le_of_lt hbl)
  have hnb := h.nob
  have hbk : w2.heap[b]? = some (.cells #[.bool true, v] 33 (0, 0)) := by
    rw [hg.block b (Nat.lt_of_lt_of_le hbl hb1.size) (fun e => hnb e.symm), hb1.block b hbl]; exact h.blk
  have keep : ∀ k, k < w.heap.size → k ≠ b → v.ownBlock ≠ some k → (w2.setCell ⟨b, 1, none⟩ v').heap[k]? = w.heap[k]? := fun k hk hkb hkv => by
    rw [Below.heap_setCell _ ⟨b, 1, none⟩ _ _ hkb, hg.block k (Nat.lt_of_lt_of_le hk hb1.size) (fun e => hkv e.symm), hb1.block k hk]
  have hBl : Below B w w2 := (hb1.mono hBw).trans (grown_low hg (fun k hk => h.lo k (h.bS hk).1) (Nat.le_trans hBw hb1.size))
  refine ⟨⟨set_one hbk, ?_, h.sb, h.lo, ?_, by rw [List.length_append]; simp; omega⟩, hBl.setCell (p := ⟨b, 1, none⟩) hB0 _, keep⟩
  · rcases id hown'.2 with ⟨_, h0⟩ | ⟨g', cap', cur', rfl, _, hh', h3, h4, h5, _⟩
    · exact absurd h0 (Nat.succ_ne_zero _)
    · have hgb : g' ≠ b := by
        rcases hwh with e | e
        · intro e2; subst e2; exact hnb (e.symm.trans rfl)
        · have e2 : g' = w1.heap.size := by injection e
          have := hb1.size
          omega
      have hSg : S g' := by
        rcases hwh with e | e
        · exact (h.bS (e.symm.trans rfl)).1
        · have e2 : g' = w1.heap.size := by injection e
          exact hS _ (by have := hb1.size; omega)
      have hh2 : (w2.setCell ⟨b, 1, none⟩ (.slice (some ⟨g', 0, none⟩) (F.length + 1) cap')).heap[g']? = some (.cells cur' 64 (0, 0)) := by rw [Below.heap_setCell _ ⟨b, 1, none⟩ _ _ hgb]; exact hh'
      have hxl : xs.length = F.length * 5 := hown.1
      have ncell : ∀ j, j < (F.length + 1) * 5 → (w2.setCell ⟨b, 1, none⟩ (.slice (some ⟨g', 0, none⟩) (F.length + 1) cap')).cell? ⟨g', j, none⟩ = (xs ++ [.int .i64 f.kind, .string f.name, lv, .int .i64 f.next, av])[j]? := fun j hj => by
        rw [← own_at hown' rfl j hj]
        simp [World.cell?, hh2, hh']
      -- what lies in S, is old and no part of the stack, is no part of the new row
      have old : ∀ k, k < w.heap.size → v.ownBlock ≠ some k → k ≠ g' := fun k hk hkv e => by
        rcases hwh with e2 | e2
        · exact hkv (e2.symm.trans (by rw [e]; rfl))
        · have e3 : g' = w1.heap.size := by injection e2
          have := hb1.size
          omega
      refine .inr ⟨g', cap', cur', by rw [List.length_append]; rfl, hSg, hgb, hh2, by rw [List.length_append]; exact h3, h4, h5, fun i hi => ?_⟩
      rw [List.length_append] at hi
      simp only [List.length_cons, List.length_nil] at hi
      by_cases hiF : i < F.length
      · obtain ⟨g, lv0, av0, hvg, hu⟩ := h.frame hiF
        refine ⟨lv0, av0, ?_⟩
        rw [List.getElem_append_left hiF]
        refine (hu.both.moveTo (w' := w2.setCell ⟨b, 1, none⟩ (.slice (some ⟨g', 0, none⟩) (F.length + 1) cap')) (b' := g') (off' := i * 5) (fun k hk => ?_) fun k off hk => ?_).mono fun k hk => ⟨hk.1.1, hk.1.2.1, old k hk.2 (fun e => hk.1.2.2 (by rw [hvg] at e; injection e with e; exact e.symm))⟩
        · rw [ncell _ (by omega), List.getElem?_append_left (by omega), ← own_at hown hvg _ (by omega), hb1.cell (p := ⟨g, _, none⟩) (h.bS hvg).2]
        · have := keep k hk.2 hk.1.2.1 (fun e => hk.1.2.2 (by rw [hvg] at e; injection e with e; exact e.symm))
          simp [World.cell?, this]
      · obtain rfl : i = F.length := by omega
        refine ⟨lv, av, ?_⟩
        rw [List.getElem_append_right (Nat.le_refl _)]
        simp only [Nat.sub_self, List.getElem_cons_zero]
        have nc : ∀ k, k < 5 → (w2.setCell ⟨b, 1, none⟩ (.slice (some ⟨g', 0, none⟩) (F.length + 1) cap')).cell? ⟨g', F.length * 5 + k, none⟩ = ([.int .i64 f.kind, .string f.name, lv, .int .i64 f.next, av] : List Value)[k]? := fun k hk => by
          rw [ncell _ (by omega), List.getElem?_append_right (by omega), hxl]
          congr 1
          omega
        exact ⟨by have := nc 0 (by omega); simp only [Nat.add_zero] at this; rw [this]; rfl, by rw [nc 1 (by omega)]; rfl, by rw [nc 2 (by omega)]; rfl, by rw [nc 3 (by omega)]; rfl, by rw [nc 4 (by omega)]; rfl,
          (hf.stay fun k off hk => by have := keep k hk.2.2.2 hk.2.1 hk.2.2.1; simp [World.cell?, this]).mono fun k hk => ⟨hk.1, hk.2.1, old k hk.2.2.2 hk.2.2.1⟩⟩
  · intro f' hf'
    rcases List.mem_append.1 hf' with h6 | h6
    · exact h.ok f' h6
    · rw [List.mem_singleton] at h6
      rw [h6]
      exact hok
end
end Go.Proofs.YtkocgedliakclaaDoor
