/- The topmost frame that is as asked. -/
import Derived.Test.YtkocgedliakclaaDoorSoIter
import Derived.RangeFuncWrites
import Derived.Shelf.AbstractIn
namespace Go.Proofs.YtkocgedliakclaaDoor
open Go.RowKit Go.PlainAid Go.Maps Go.Shelf
attribute [local go_sem] Oper.semAt_some

/-- What topmost tells. -/
def TopP (v : Value) (p : FrC → Bool) (F : List FrC) (w : World) (e : Ending) (w' : World) : Prop :=
  Below w.heap.size w w' ∧ ((∃ (i g c : Nat) (f : FrC), F[i]? = some f ∧ p f = true ∧ (∀ (j : Nat) f', i < j → F[j]? = some f' → p f' = false) ∧ v = .slice (some ⟨g, 0, none⟩) F.length c ∧ e = .returned (.tuple #[.int .i64 (i : Int), .pointer (some ⟨g, i * 5, none⟩)])) ∨
    ((∀ f ∈ F, p f = false) ∧ e = .returned (.tuple #[.int .i64 (-1), .pointer none])))

theorem boxKept {A B : World} {row : Option Nat} {k : Nat} {t : TypeId} {v : Value} (h : Boxed A k t v) (hg : A.grownBy B row) (hr : ∀ r, row = some r → ∃ o : Obj, A.heap[r]? = some o ∧ o.isCells = false) : Boxed B k t v :=
  boxed_own (β := Unit) k t (fun _ => v) () A B row h hg hr

theorem _root_.Go.Boxed.under {A B : World} {k : Nat} {t : TypeId} {v : Value} (h : Boxed A k t v) (hb : Below A.heap.size A B) : Boxed B k t v := (hb.block k h.lt).trans h

section
variable {B b : Nat} {S : Nat → Prop} {v : Value} {F : List FrC} {w : World}
set_option maxRecDepth 100000 in
set_option maxHeartbeats 4000000 in
theorem topmost_in (n : Nat) (hn : 3 ≤ n) (h : SkAt B S b v F w) (k : Nat) (p : FrC → Bool) (hk : Tells k p) (he : ∀ args w, (callFunc k args).run Tryd.prog w = .ok (.enter k args) w) :
    CallsIn Fence.wide n Tryd.prog 30 #[.pointer (some ⟨b, 0, none⟩), .func (.func k) #[] #[]] w (TopP v p F w) := by
  obtain ⟨ao, cap, rfl, hcap, hcm⟩ := h.form
  obtain ⟨g, hg⟩ : ∃ g, 0 < F.length → ao = some ⟨g, 0, none⟩ := by
    rcases h.row with ⟨h1, h2⟩ | ⟨g, c, cur, h1, _⟩
    · exact ⟨0, fun h => by rw [h2] at h; exact absurd h (Nat.lt_irrefl _)⟩
    · injection h1 with h1
      exact ⟨g, fun _ => h1⟩
  have hb := h.lt
  have HS := Lib.hid h
  have hlen := h.len
  have h1 : 1 ≤ n := by omega
  refine callsIn_of_wp_marks Tryd.func30 rfl trivial ?_ rfl
  simp only [Tryd.ntmps30, List.size_toArray, List.length_cons, List.length_nil, Nat.reduceAdd, Nat.reduceSub, Array.replicate_succ, Array.replicate_zero, List.push_toArray, List.append_toArray, List.nil_append, List.cons_append]
  gi_wp2_with (refine ⟨trivial, ?_⟩; gi_at_call 46; refine (fromTop_any (n - 1) _ _).mono ?_; rintro e w' ⟨rfl, rfl⟩)
  have b0 := Boxed.new w 62 (.func (.func k) #[] #[])
  have b1 := Boxed.new (w.alloc (.cells #[.func (.func k) #[] #[]] 62)) 3 (.int .i64 0)
  have b2 := Boxed.new ((w.alloc (.cells #[.func (.func k) #[] #[]] 62)).alloc (.cells #[.int .i64 0] 3)) 59 (.pointer none)
  have b3 := Boxed.new (((w.alloc (.cells #[.func (.func k) #[] #[]] 62)).alloc (.cells #[.int .i64 0] 3)).alloc (.cells #[.pointer none] 59)) 30 (.pointer (some ⟨b, 0, none⟩))
  simp only [World.size_alloc] at b1 b2 b3
  obtain ⟨W0, hW0⟩ : ∃ W0, ((((w.alloc (.cells #[.func (.func k) #[] #[]] 62)).alloc (.cells #[.int .i64 0] 3)).alloc (.cells #[.pointer none] 59)).alloc (.cells #[.pointer (some ⟨b, 0, none⟩)] 30)) = W0 := ⟨_, rfl⟩
  have hsz : W0.heap.size = w.heap.size + 4 := by rw [← hW0]; simp
  have hB0 : Below w.heap.size w W0 := by rw [← hW0]; exact ((((Below.refl _ w).alloc (Nat.le_refl _) _).alloc (by simp) _).alloc (by simp; omega) _).alloc (by simp; omega) _
  have b0' := ((b0.alloc (.cells #[.int .i64 0] 3)).alloc (.cells #[.pointer none] 59)).alloc (.cells #[.pointer (some ⟨b, 0, none⟩)] 30)
  have b1' := (b1.alloc (.cells #[.pointer none] 59)).alloc (.cells #[.pointer (some ⟨b, 0, none⟩)] 30)
  have b2' := b2.alloc (.cells #[.pointer (some ⟨b, 0, none⟩)] 30)
  rw [hW0] at b0' b1' b2' b3 ⊢
  have hS0 := h.below hB0
  clear b0 b1 b2
  refine wpIn_rangeFunc_ownG rfl h1 (gf := 57) (lb := #[.pointer (some ⟨w.heap.size + 1 + 1 + 1, 0, none⟩)]) rfl trivial (enters_of Tryd.func57 (by kernel_rfl) rfl)
    (from_stops (n - 1) (by omega) (w.heap.size + 1 + 1 + 1) (w.heap.size + 4) b g F.length cap ao hg hlen W0 (by omega) (by omega) (by omega) b3.cell hS0.cell0 hS0.cell1) belowK_t (belowK_b (by omega)) (Below.refl _ _) (fun _ => rfl)
    (fun pre W => ((∀ j f, j ∈ pre → F[j.1]? = some f → p f = false) ∧ Boxed W w.heap.size 62 (.func (.func k) #[] #[]) ∧ Boxed W (w.heap.size + 1) 3 (.int .i64 0) ∧ Boxed W (w.heap.size + 1 + 1) 59 (.pointer none)) ∧ Below w.heap.size w W ∧ W0.heap.size ≤ W.heap.size)
    (fun c pre W => (c = .ret ∧ ∃ (ini : List { x : Nat // x < F.length }) (last : { x : Nat // x < F.length }) (f : FrC), pre = ini ++ [last] ∧ (∀ j f, j ∈ ini → F[j.1]? = some f → p f = false) ∧ F[last.1]? = some f ∧ p f = true ∧ Boxed W (w.heap.size + 1) 3 (.int .i64 (last.1 : Int)) ∧ Boxed W (w.heap.size + 1 + 1) 59 (.pointer (some ⟨g, last.1 * 5, none⟩))) ∧ Below w.heap.size w W)
    ?hI ?hIx ?start
    (fun x => { tmps := #[.pointer (some ⟨b, 0, none⟩), .func (.func k) #[] #[], undef, .pointer (some ⟨w.heap.size, 0, none⟩), .pointer (some ⟨w.heap.size + 1, 0, none⟩), .pointer (some ⟨w.heap.size + 1 + 1, 0, none⟩), .int .i64 (x.1 : Int), .pointer (some ⟨g, x.1 * 5, none⟩), .pointer (some ⟨b, 0, none⟩), .func (.func 57) #[] #[.pointer (some ⟨w.heap.size + 1 + 1 + 1, 0, none⟩)], .int .i64 (x.1 : Int), .pointer (some ⟨g, x.1 * 5, none⟩), undef, undef, undef, undef, undef, undef, undef], defers := [] }) ?assign ?body ?done ?stop
  case hI => exact OwnFrom.and (Own.from (fun s A B row hs hg hr => ⟨hs.1, boxKept hs.2.1 hg hr, boxKept hs.2.2.1 hg hr, boxKept hs.2.2.2 hg hr⟩) _) (OwnFrom.and (ownFrom_below (Nat.le_refl _) (by omega)) (fun s A B row hs hg hr => Nat.le_trans hs hg.size))
  case hIx => exact fun c => OwnFrom.and (Own.from (fun s A B row hs hg hr => by obtain ⟨hc, ini, last, f, e1, e2, e3, e4, e5, e6⟩ := hs; exact ⟨hc, ini, last, f, e1, e2, e3, e4, boxKept e5 hg hr, boxKept e6 hg hr⟩) _) (ownFrom_below (Nat.le_refl _) (by omega))
  case start => exact ⟨⟨(fun j f hj => by cases hj), b0', b1', b2'⟩, hB0, Nat.le_refl _⟩
  case assign =>
    intro l x W K hK
    gi_wp2
    exact hK
  case body =>
    rintro l pre ⟨x, hx⟩ W ⟨⟨hp, hb0, hb1, hb2⟩, hB, hWW⟩ hlt
    simp only
    have hSW := h.below hB
    have hsw : w.heap.size + 4 ≤ W.heap.size := hsz ▸ hWW
    obtain ⟨lv, av, hfr⟩ : ∃ lv av, FrAt (fun k => S k ∧ k ≠ b ∧ k ≠ g) g (x * 5) F[x] lv av W := by
      rcases hSW.row with ⟨_, h2⟩ | ⟨g', c, cur, h2, _, _, _, _, _, _, h3⟩
      · rw [h2] at hx; exact absurd hx (Nat.not_lt_zero _)
      · have e := hg (by omega)
        rw [e] at h2
        injection h2 with h2
        injection h2 with h2
        injection h2 with h2
        subst h2
        exact h3 x hx
    obtain ⟨⟨la, lc, rfl⟩, aa, ac, rfl⟩ := hfr.val.form
    obtain ⟨c0, c1, c2, c3, c4, _⟩ := hfr
    obtain ⟨f, hf⟩ : ∃ f, F[x] = f := ⟨_, rfl⟩
    rw [hf] at c0 c1 c2 c3 c4
    have hcb := hb0.cell
    have hd : 1 ≤ n - 1 - 1 := by omega
    have hmx : Tryd.prog.follows .mixedOrders = true := by kernel_rfl
    have HK := Lib.hid (hk f la lc aa ac)
    have hF : F[x]? = some f := by rw [← hf]; exact List.getElem?_eq_getElem hx
    have HP := Lib.hid hp
    clear hp
    cases hpf : p f
    · rw [hpf] at HK
      have HPF := Lib.hid hpf
      clear hpf
      gi_wp2
      gi_region_with_o (refine ⟨trivial, ?_⟩; gi_at_fn k; refine (CallsIn.inRound l (callsIn_wide.2 (HK.out _))).mono ?_; rintro e w' ⟨rfl, hb9⟩)
      all_goals
        gi_wp2
        have hb9' : Below W.heap.size W w' := ⟨hb9.os, hb9.tape, hb9.output, hb9.size, hb9.block⟩
        exact ⟨KeepsFrom.of_grownBy (grown_below hb9' none) (fun j e => by cases e), Below.mono hb9' hsw, ⟨fun j f' hj hf' => (List.mem_append.1 hj).elim (fun hj => HP.out j f' hj hf') (fun e => by
          rw [List.mem_singleton] at e
          subst e
          rw [hF] at hf'
          injection hf' with hf'
          rw [← hf']
          exact HPF.out), hb0.under hb9', hb1.under hb9', hb2.under hb9'⟩, hB.trans (Below.mono hb9' hB.size), Nat.le_trans hWW hb9'.size⟩
    · rw [hpf] at HK
      have HPF := Lib.hid hpf
      clear hpf
      gi_wp2
      gi_region_with_o (refine ⟨trivial, ?_⟩; gi_at_fn k; refine (CallsIn.inRound l (callsIn_wide.2 (HK.out _))).mono ?_; rintro e w' ⟨rfl, hb9⟩)
      all_goals
        have hb9' : Below W.heap.size W w' := ⟨hb9.os, hb9.tape, hb9.output, hb9.size, hb9.block⟩
        have hb1' := hb1.under hb9'
        have hb2' := hb2.under hb9'
        have hc1' := hb1'.cell
        have hc2' := hb2'.cell
        have hf1' := hb1'.frozen
        have hf2' := hb2'.frozen
        gi_wp2
        exact ⟨((KeepsFrom.of_grownBy (grown_below hb9' none) (fun j e => by cases e)).trans ((KeepsOthers.setCell _ _ _).from _)).trans ((KeepsOthers.setCell _ _ _).from _),
          ⟨rfl, pre, ⟨x, hx⟩, f, rfl, HP.out, hF, HPF.out, (hb1'.set _).other (by omega) _, (hb2'.other (by omega) _).set _⟩,
          ((hB.trans (Below.mono hb9' hB.size)).setCell (p := ⟨w.heap.size + 1, 0, none⟩) (by simp) _).setCell (p := ⟨w.heap.size + 1 + 1, 0, none⟩) (by simp; omega) _⟩
  case done =>
    rintro D ys W hD hys ⟨⟨hne, _, hb1, hb2⟩, hB, _⟩ hK
    have hc1 := hb1.cell
    have hc2 := hb2.cell
    have hf1 := hb1.frozen
    have hf2 := hb2.frozen
    gi_wp2
    have hK' := ((KeepsOthers.setCell W ⟨w.heap.size + 1, 0, none⟩ (.int .i64 (-1))).trans (KeepsOthers.setCell _ ⟨w.heap.size + 1 + 1, 0, none⟩ (.pointer none))).same D _ hK rfl
    refine ⟨by simp, .inl ⟨_, _, rfl, run_takeDeferred hK', ?_⟩⟩
    have h4 := cell_kept ((hb1.set (.int .i64 (-1))).other (B' := w.heap.size + 1 + 1) (by omega) (.pointer none)).cell (grownBy_putObj' _ D (.deferred none)) (fun r e => by cases e; exact ⟨_, hK', rfl⟩)
    have h5 := cell_kept ((hb2.other (B' := w.heap.size + 1) (by omega) (.int .i64 (-1))).set (.pointer none)).cell (grownBy_putObj' _ D (.deferred none)) (fun r e => by cases e; exact ⟨_, hK', rfl⟩)
    refine ⟨.tuple #[.int .i64 (-1), .pointer none], ?_, ((hB.setCell (p := ⟨w.heap.size + 1, 0, none⟩) (by simp) _).setCell (p := ⟨w.heap.size + 1 + 1, 0, none⟩) (by simp; omega) _).trans (belowK_b (w := w) (Nat.le_refl _) _ D _ _ (by omega) hK' rfl rfl), .inr ⟨fun f hf => ?_, rfl⟩⟩
    · simp [results, Tryd.f30, go_sem, h4, h5]
    · obtain ⟨i, hi, rfl⟩ := List.getElem_of_mem hf
      have hm : i ∈ ys.map (·.1) := by
        rw [hys]
        simp only [upto, List.mem_map, List.mem_range]
        exact ⟨F.length - 1 - i, by omega, by omega⟩
      obtain ⟨⟨j, hj⟩, hj2, rfl⟩ := List.mem_map.1 hm
      exact hne _ _ hj2 (List.getElem?_eq_getElem hj)
  case stop =>
    rintro D c pre W hD ⟨q, hq, hpre⟩ ⟨⟨rfl, ini, ⟨x, hx⟩, f, rfl, e2, e3, e4, hb1, hb2⟩, hB⟩ hK
    gi_wp2
    refine ⟨by simp, .inl ⟨_, _, rfl, run_takeDeferred hK, ?_⟩⟩
    have h4 := cell_kept hb1.cell (grownBy_putObj' _ D (.deferred none)) (fun r e => by cases e; exact ⟨_, hK, rfl⟩)
    have h5 := cell_kept hb2.cell (grownBy_putObj' _ D (.deferred none)) (fun r e => by cases e; exact ⟨_, hK, rfl⟩)
    have e := hg (by omega)
    refine ⟨.tuple #[.int .i64 (x : Int), .pointer (some ⟨g, x * 5, none⟩)], ?_, hB.trans (belowK_b (w := w) (Nat.le_refl _) W D _ _ (by omega) hK rfl rfl), .inl ⟨x, g, cap, f, e3, e4, fun j f' hj hf' => ?_, by rw [e], rfl⟩⟩
    · simp [results, Tryd.f30, go_sem, h4, h5]
    · cases q with
      | zero => simp [upto] at hpre
      | succ q =>
        rw [upto_succ, List.map_append] at hpre
        obtain ⟨h6, h7⟩ := List.append_inj' hpre rfl
        have h7 : x = F.length - 1 - q := by simpa using h7
        have hjl : j < F.length := (List.getElem?_eq_some_iff.1 hf').1
        have hm : j ∈ ini.map (·.1) := by
          rw [h6]
          simp only [upto, List.mem_map, List.mem_range]
          exact ⟨F.length - 1 - j, by omega, by omega⟩
        obtain ⟨⟨j', hj'⟩, hj2, rfl⟩ := List.mem_map.1 hm
        exact e2 _ _ hj2 hf'
theorem topmost_any (h : SkAt B S b v F w) (k : Nat) (p : FrC → Bool) (hk : Tells k p) (he : ∀ args w, (callFunc k args).run Tryd.prog w = .ok (.enter k args) w) :
    Calls Tryd.prog 30 #[.pointer (some ⟨b, 0, none⟩), .func (.func k) #[] #[]] w (TopP v p F w) :=
  (callsIn_wide (n := 3)).1 (topmost_in 3 (by omega) h k p hk he)
end
end Go.Proofs.YtkocgedliakclaaDoor
