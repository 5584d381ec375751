/- Rows of frames: the last ones are taken away. -/
import Derived.Test.YtkocgedliakclaaDoorSoTop
import Derived.Deep.Upon
import Derived.Lib.SliceRun
import Derived.Deep.RegionLaw
namespace Go.Proofs.YtkocgedliakclaaDoor
open Go.RowKit Go.PlainAid Go.Maps Go.Shelf

theorem setCells_block (b : Nat) : ∀ (vs : List Value) (o : Nat) (w : World) {cur : Array Value} {t : TypeId} {f : Nat × Nat}, w.heap[b]? = some (.cells cur t f) →
    ∃ cur', (w.setCells b o vs).heap[b]? = some (.cells cur' t f) ∧ cur'.size = cur.size ∧ (∀ j, j < o → cur'[j]? = cur[j]?) ∧ w.grownBy (w.setCells b o vs) (some b)
  | [], o, w, cur, t, f, h => ⟨cur, h, rfl, fun _ _ => rfl, grown_refl _ _⟩
  | v :: r, o, w, cur, t, f, h => by
    obtain ⟨cur', h1, h2, h3, h4⟩ := setCells_block b r (o + 1) (w.setCell ⟨b, o, none⟩ v) (heap_set_at h o v)
    refine ⟨cur', h1, by rw [h2]; simp, fun j hj => ?_, grown_trans (grown_set w b o v) h4⟩
    rw [h3 j (by omega), Array.getElem?_setIfInBounds_ne (by omega)]

theorem run_clear_rows {P : Program} (w : World) (t e ty : TypeId) (z : Value) (ht : P.underlying t = some (.slice e)) (hv : ∀ w, (zeroValue e).run P w = .ok z w) (h1 : ((Builtin.zeroCells z.cells 1).toList.all fun u => u.oneCell') = true) (b o n c k : Nat) (hk : z.cells.size = k) (hk0 : 0 < k) (hn : 0 < n)
    (hc : ∀ j, j < n * k → (w.cell? ⟨b, o + j, none⟩).isSome = true) (hf : ∀ j, j < n * k → w.frozen? ⟨b, o + j, none⟩ = false) :
    (Builtin.clear_ #[t] ty #[.slice (some ⟨b, o, none⟩) n c]).run P w = .ok (.tuple #[]) (w.setCells b o (Builtin.zeroCells z.cells n).toList) := by
  have hl : (Builtin.zeroCells z.cells n).toList.length = n * k := by rw [Array.length_toList, size_zeroCells, hk]
  have hone : ∀ u ∈ (Builtin.zeroCells z.cells n).toList, u.oneCell' = true := fun u hu => by
    have hu := Array.mem_toList_iff.1 hu
    unfold Builtin.zeroCells at hu
    obtain ⟨i, hi, rfl⟩ := Array.mem_map.1 hu
    refine List.all_eq_true.1 h1 _ ?_
    unfold Builtin.zeroCells
    refine Array.mem_toList_iff.2 (Array.mem_map.2 ⟨i % z.cells.size, ?_, by rw [Nat.mod_mod]⟩)
    rw [Array.mem_range, Nat.one_mul]
    exact Nat.mod_lt _ (by omega)
  have hst := run_storeCells_cells (P := P) b o (Builtin.zeroCells z.cells n).toList 0 w (by rw [hl]; simpa using hc) (by rw [hl]; simpa using hf) hone
  simp only [Nat.add_zero] at hst
  obtain ⟨m, rfl⟩ : ∃ m, n = m + 1 := ⟨n - 1, by omega⟩
  simp [Builtin.clear_, run_underlying ht, hv, hst]

theorem frames_info : (Tryd.prog.info? 64).map (fun i => (i.zero, i.size, i.bytes)) = some (some (.agg #[.int .i64 0, .string ⟨#[]⟩, .slice none 0 0, .int .i64 0, .slice none 0 0]), 5, 80) := by kernel_rfl
theorem frame_zero (w : World) : (zeroValue 64).run Tryd.prog w = .ok (.agg #[.int .i64 0, .string ⟨#[]⟩, .slice none 0 0, .int .i64 0, .slice none 0 0]) w := by kernel_rfl

/-- An append whose run is known, as a step of a region that draws. -/
theorem step_run {W : World} {ops : Array Oper} {o : Oper} {a : Act} {K : Act → World → Prop} {Q : Exit → Act → World → Prop} {E : Prop} (hgd : o.guard = none) (s x : Operand) (t tx : TypeId)
    (ho : o.op = .call { callee := .builtin .append, args := #[s, x], argTypes := #[t, tx] }) {v1 v2 v' : Value} {w' : World} (hs : a.eval s = v1) (hx : a.eval x = v2)
    (hrun : (Builtin.append_ #[t, tx] o.type #[v1, v2]).run Tryd.prog W = .ok v' w') (h : K (a.put o.dst v') w') : if Region.wanted o (yielded ops a.tmps) = true then Oper.wp Tryd.prog o a W K Q else E := by
  have hw : Region.wanted o (yielded ops a.tmps) = true := by simp [Region.wanted, hgd]
  rw [if_pos hw]
  unfold Oper.wp
  simp [execOp, ho, resolve, invoke, builtin, hs, hx, hrun, Result.andThen]
  exact h

/-- What Delete of the last frames gives. -/
def DelP (g n len cap : Nat) (cur : Array Value) (w : World) (e : Ending) (w' : World) : Prop :=
  e = .returned (.slice (some ⟨g, 0, none⟩) n cap) ∧ ∃ cur', w'.heap[g]? = some (.cells cur' 64 (0, 0)) ∧ cur'.size = cur.size ∧ (∀ j, j < n * 5 → cur'[j]? = cur[j]?) ∧ w.grownBy w' (some g)
set_option maxRecDepth 100000 in
set_option maxHeartbeats 2000000 in
theorem delete_same (g len cap : Nat) (cur : Array Value) (w : World) (hh : w.heap[g]? = some (.cells cur 64 (0, 0))) (hlc : len ≤ cap) (hm : cap ≤ maxLen) :
    Calls Tryd.prog 51 #[.slice (some ⟨g, 0, none⟩) len cap, .int .i64 len, .int .i64 len] w (DelP g len len cap cur w) := by
  unfold maxLen at hm
  have HH := Lib.hid hh
  clear hh
  go_enter Tryd.func51, Tryd.ntmps51
  go_wp2_with fail
  all_goals
    go_ret
    exact ⟨rfl, cur, HH.out, rfl, fun _ _ => rfl, grown_refl _ _⟩
set_option maxRecDepth 100000 in
set_option maxHeartbeats 2000000 in
theorem delete_nil (w : World) : Calls Tryd.prog 51 #[.slice none 0 0, .int .i64 0, .int .i64 0] w (Says (.slice none 0 0) w) := by
  go_enter Tryd.func51, Tryd.ntmps51
  go_wp2_with fail
  go_ret
  exact ⟨rfl, rfl⟩
set_option maxRecDepth 100000 in
set_option maxHeartbeats 4000000 in
theorem delete_last (g n len cap : Nat) (cur : Array Value) (w : World) (hh : w.heap[g]? = some (.cells cur 64 (0, 0))) (hcs : cur.size = cap * 5) (hn : n < len) (hlc : len ≤ cap) (hm : cap ≤ maxLen) :
    Calls Tryd.prog 51 #[.slice (some ⟨g, 0, none⟩) len cap, .int .i64 n, .int .i64 len] w (DelP g n len cap cur w) := by
  unfold maxLen at hm
  obtain ⟨i0, hi, hz0, hz1, hz2⟩ := info_parts frames_info
  have happ : ∀ (W : World) (a : Option Addr) (c : Nat) (ty : TypeId), (Builtin.append_ #[31, 31] ty #[.slice (some ⟨g, 0, none⟩) n cap, .slice a 0 c]).run Tryd.prog W = .ok (.slice (some ⟨g, 0, none⟩) n cap) W := fun W a c ty =>
    run_append_nothing W 31 31 ty 64 i0 Tryd.underlying31 hi _ n cap (by omega) _ (by
      cases a with
      | none => exact Src.ofNil W Tryd.underlying31 c
      | some a => exact Src.ofSlice W Tryd.underlying31 a 0 c [] (by simp) (fun j u h => by simp at h) (fun u h => by cases h))
  have hcl := fun ty => run_clear_rows (P := Tryd.prog) w.drew 31 64 ty _ Tryd.underlying31 frame_zero (by kernel_rfl) g (n * 5) (len - n) (cap - n) 5 rfl (by omega) (by omega)
    (fun j hj => by
      have hj2 : n * 5 + j < cur.size := by omega
      show (w.cell? _).isSome = true
      simp [World.cell?, hh, hj2]) (fun j hj => by
      show w.frozen? _ = false
      simp [World.frozen?, hh])
  obtain ⟨cur', h1, h2, h3, h4⟩ := setCells_block g (Builtin.zeroCells (#[.int .i64 0, .string ⟨#[]⟩, .slice none 0 0, .int .i64 0, .slice none 0 0]) (len - n)).toList (n * 5) w.drew (cur := cur) (t := 64) (f := (0, 0)) hh
  have H1 := Lib.hid h1
  have H2 := Lib.hid h2
  have H3 := Lib.hid h3
  have H4 : Hid (w.grownBy _ (some g)) := Lib.hid (show w.grownBy (w.drew.setCells g (n * 5) (Builtin.zeroCells (#[.int .i64 0, .string ⟨#[]⟩, .slice none 0 0, .int .i64 0, .slice none 0 0]) (len - n)).toList) (some g) from ⟨h4.os, h4.tape, h4.output, h4.size, h4.block⟩)
  have hnz : (n : Int) < len := by omega
  have hnc : ¬ cap = n := by omega
  have hlz : (len : Int) ≤ cap := by omega
  have hne : ((n : Int) == len) = false := by simp; omega
  have HAPP := Lib.hid happ
  have hnn : n ≤ cap := by omega
  have hnn2 : (n : Int) ≤ cap := by omega
  clear hi hz0 hz1 hz2 h1 h2 h3 h4 hh hcs happ
  go_enter Tryd.func51, Tryd.ntmps51
  go_wp2_with fail
  go_region_law (refine step_run rfl (.tmp 22) (.tmp 25) _ _ rfl rfl rfl (HAPP.out _ _ _ _) ?_)
  all_goals go_wp2_with fail
  all_goals
    go_ret
    exact ⟨rfl, cur', H1.out, H2.out, H3.out, H4.out⟩

section
variable {B b : Nat} {S : Nat → Prop} {v : Value} {F : List FrC} {w : World}
/-- All but the stack and its row is as it was. -/
def Keep (b : Nat) (v : Value) (w w' : World) : Prop := ∀ k, k < w.heap.size → k ≠ b → v.ownBlock ≠ some k → w'.heap[k]? = w.heap[k]?
def LeaveP (B : Nat) (S : Nat → Prop) (b : Nat) (v : Value) (F : List FrC) (w : World) (e : Ending) (w' : World) : Prop :=
  e = .returned (.tuple #[]) ∧ ∃ v', v'.ownBlock = v.ownBlock ∧ SkAt B S b v' F w' ∧ Below B w w' ∧ Keep b v w w'
theorem set_one {W : World} {x : Nat} {v0 v1 u : Value} {t : TypeId} (h : W.heap[x]? = some (.cells #[v0, v1] t (0, 0))) : (W.setCell ⟨x, 1, none⟩ u).heap[x]? = some (.cells #[v0, u] t (0, 0)) := heap_set_at h 1 u
theorem SkAt.cut (h : SkAt B S b v F w) {g cap : Nat} {cur cur' : Array Value} {w1 : World} {n : Nat} (hv : v = .slice (some ⟨g, 0, none⟩) F.length cap) (hn : n ≤ F.length) (hh : w.heap[g]? = some (.cells cur 64 (0, 0)))
    (hh' : w1.heap[g]? = some (.cells cur' 64 (0, 0))) (hsz : cur'.size = cur.size) (hj : ∀ j, j < n * 5 → cur'[j]? = cur[j]?) (hg : w.grownBy w1 (some g)) :
    SkAt B S b (.slice (some ⟨g, 0, none⟩) n cap) (F.take n) (w1.setCell ⟨b, 1, none⟩ (.slice (some ⟨g, 0, none⟩) n cap)) ∧ Below B w (w1.setCell ⟨b, 1, none⟩ (.slice (some ⟨g, 0, none⟩) n cap)) ∧ Keep b v w (w1.setCell ⟨b, 1, none⟩ (.slice (some ⟨g, 0, none⟩) n cap)) := by
  have hlt : (F.take n).length = n := by rw [List.length_take]; omega
  rcases h.row with ⟨rfl, _⟩ | ⟨g', cap', cur0, e, hSg, hgb, hh0, h1, h2, h3, h4⟩
  · cases hv
  · rw [e] at hv
    cases hv
    rw [hh0] at hh
    cases hh
    have hbk : w1.heap[b]? = some (.cells #[.bool true, v] 33 (0, 0)) := by rw [hg.block b h.lt (by simpa using fun e => hgb e.symm)]; exact h.blk
    have hB0 : B ≤ b := h.lo _ h.sb
    have hBg : B ≤ g := h.lo _ hSg
    have hBw : B ≤ w.heap.size := Nat.le_trans hB0 (Nat.le_of_lt h.lt)
    refine ⟨⟨set_one hbk, .inr ⟨g, cap, cur', by rw [hlt], hSg, hgb, ?_, by rw [hlt]; omega, h2, by rw [hsz]; exact h3, fun i hi => ?_⟩, h.sb, h.lo, fun f hf => h.ok f (List.mem_of_mem_take hf), by rw [hlt]; have := h.len; omega⟩,
      (grown_to_below hg hBg hBw).setCell (p := ⟨b, 1, none⟩) hB0 _, fun k hk hkb hkg => by
        subst e
        rw [Below.heap_setCell _ ⟨b, 1, none⟩ _ _ hkb, hg.block k hk (fun e => hkg e.symm)]⟩
    · rw [Below.heap_setCell _ ⟨b, 1, none⟩ _ _ hgb]; exact hh'
    · rw [hlt] at hi
      obtain ⟨lv, av, hu⟩ := h4 i (by omega)
      refine ⟨lv, av, ?_⟩
      rw [List.getElem_take]
      refine (hu.both.moveTo (w' := w1.setCell ⟨b, 1, none⟩ (.slice (some ⟨g, 0, none⟩) n cap)) (b' := g) (off' := i * 5) (fun k hk => ?_) fun k off hk => ?_).mono fun k hk => hk.1
      · have e1 : (w1.setCell ⟨b, 1, none⟩ (.slice (some ⟨g, 0, none⟩) n cap)).heap[g]? = some (.cells cur' 64 (0, 0)) := by rw [Below.heap_setCell _ ⟨b, 1, none⟩ _ _ hgb]; exact hh'
        simp [World.cell?, e1, hh0, hj (i * 5 + k) (by omega)]
      · have e1 : (w1.setCell ⟨b, 1, none⟩ (.slice (some ⟨g, 0, none⟩) n cap)).heap[k]? = w.heap[k]? := by
          rw [Below.heap_setCell _ ⟨b, 1, none⟩ _ _ hk.1.2.1, hg.block k hk.2 (by simpa using hk.1.2.2)]
        simp [World.cell?, e1]
end
end Go.Proofs.YtkocgedliakclaaDoor
