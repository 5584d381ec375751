/- slices.Clone, at lines, boxes and numbers: the cells lie again in a new block. -/
import Derived.Test.YtkocgedliakclaaDoorStDeep
import Derived.Lib.SliceRun
namespace Go.Proofs.YtkocgedliakclaaDoor
open Go.RowKit Go.PlainAid Go.Maps Go.Shelf

/-- A row was cloned: nil is nil; the cells of another lie in a new block, which has nothing else. -/
def Cloned (size : Nat) (t : TypeId) (v v' : Value) (w w' : World) : Prop :=
  (∃ n c, v = .slice none n c ∧ v' = .slice none 0 0) ∨
  ∃ a n c g cap cur, v = .slice (some a) n c ∧ v' = .slice (some ⟨g, 0, none⟩) n cap ∧ w.heap.size ≤ g ∧ w'.heap[g]? = some (.cells cur t (0, 0)) ∧ n ≤ cap ∧ cap ≤ maxLen ∧ cur.size = cap * size ∧ ∀ j, j < n * size → w'.cell? ⟨g, j, none⟩ = w.cell? (a.add j)
abbrev CloneP (size : Nat) (t : TypeId) (v : Value) (w : World) (e : Ending) (w' : World) : Prop := ∃ v', e = .returned v' ∧ Below w.heap.size w w' ∧ Cloned size t v v' w w'
/-- Cells that are there, each of one. -/
def HasCells (w : World) (a : Addr) (n : Nat) : Prop := ∀ j, j < n → ∃ u, w.cell? (a.add j) = some u ∧ u.oneCell' = true
theorem news_of {w : World} {a : Addr} {n : Nat} (h : HasCells w a n) : ∃ news : List Value, news.length = n ∧ (∀ j u, news[j]? = some u → w.cell? (a.add j) = some u) ∧ (∀ u ∈ news, u.oneCell' = true) := by
  refine ⟨(List.range n).map fun j => (w.cell? (a.add j)).getD (.bool false), by simp, fun j u hu => ?_, fun u hu => ?_⟩
  · have hj : j < n := by
      have := (List.getElem?_eq_some_iff.1 hu).1
      simpa using this
    obtain ⟨x, hx, _⟩ := h j hj
    rw [List.getElem?_map, List.getElem?_range hj] at hu
    simp only [Option.map_some, hx, Option.getD_some, Option.some.injEq] at hu
    rw [hx, hu]
  · obtain ⟨j, hj, rfl⟩ := List.mem_map.1 hu
    obtain ⟨x, hx, h1⟩ := h j (List.mem_range.1 hj)
    rw [hx]
    exact h1
theorem cloned_own {size : Nat} {t : TypeId} {a : Addr} {n c : Nat} {v' : Value} {news : List Value} {w w' : World} (hl : news.length = n * size) (hc : ∀ j u, news[j]? = some u → w.cell? (a.add j) = some u)
    (h : w'.ownsRow w.heap.size t size v' n news) (hn : v' ≠ .slice none 0 0) : Cloned size t (.slice (some a) n c) v' w w' := by
  rcases h.2 with ⟨rfl, _⟩ | ⟨g, cap, cur, rfl, h1, h2, h3, h4, h5, h6⟩
  · exact absurd rfl hn
  · refine .inr ⟨a, n, c, g, cap, cur, rfl, rfl, h1, h2, h3, h4, h5, fun j hj => ?_⟩
    have hj' : j < news.length := by omega
    rw [hc j news[j] (List.getElem?_eq_getElem hj')]
    have e : cur[j]? = some news[j] := by
      have : (cur.toList.take (n * size))[j]? = some news[j] := by rw [h6]; exact List.getElem?_eq_getElem hj'
      rw [List.getElem?_take, if_pos hj] at this
      simpa using this
    simp [World.cell?, h2, e]

theorem lines_info : (Tryd.prog.info? 37).map (fun i => (i.zero, i.size, i.bytes)) = some (some (.agg #[.string ⟨#[]⟩, .bool false, .int .i64 0, .int .i64 0, .slice none 0 0]), 5, 64) := by kernel_rfl
theorem lines_isnil (a : Option Addr) (n c : Nat) (w : World) : (binOp .eql 22 (.slice a n c) (.slice none 0 0)).run Tryd.prog w = .ok (.bool a.isNone) w := Lib.run_eql_slice_nil w _ _ a n c 0 0 Tryd.underlying22
theorem clone_lines (ao : Option Addr) (n c : Nat) (w : World) (hm : n ≤ maxLen) (hb : n * 64 ≤ 140737488355328) (h : ∀ a, ao = some a → HasCells w a (n * 5)) : Calls Tryd.prog 60 #[.slice ao n c] w (CloneP 5 37 (.slice ao n c) w) := by
  have HN := lines_isnil
  cases ao with
  | none =>
    go_enter Tryd.func60, Tryd.ntmps60
    go_wp2_with fail
    go_ret
    exact ⟨_, rfl, Below.refl _ _, .inl ⟨n, c, rfl, rfl⟩⟩
  | some a =>
    obtain ⟨news, hl, hc, h1⟩ := news_of (h a rfl)
    obtain ⟨i0, hi, hz0, hz1, hz2⟩ := info_parts lines_info
    have HC := Lib.hid hc
    clear h hc
    go_enter Tryd.func60, Tryd.ntmps60
    go_wp2_with (at_builtin; refine wpList_append_own _ rfl _ _ 22 rfl w.heap.size 37 i0 _ 5 64 Tryd.underlying22 hi hz0 hz1 hz2 rfl (by decide) _ _ _ rfl (World.ownsRow_made w #[] 0 (Nat.le_refl _) (Nat.zero_le _) (by simp)) a n c news rfl ?qc1 ?qc2 ?qc3 ?qc4 ?qc5 ?qc6 ?_)
    case qc1 => exact hl
    case qc2 => exact fun j u hj => Lib.cell?_alloc_some _ (HC.out j u hj)
    case qc3 => exact h1
    case qc4 => rw [Nat.zero_add]; exact hm
    case qc5 => rw [Nat.zero_add]; exact hb
    case qc6 => simp
    intro v' w1 hown hgrow hnil
    have hown2 : w1.ownsRow w.heap.size 37 5 v' n news := by simpa using hown
    have HF := Lib.hid (cloned_own (a := a) (c := c) hl HC.out hown2 hnil)
    have HB := Lib.hid (((Below.refl _ w).alloc (Nat.le_refl _) _).grown hgrow (by simp) (by intro k hk; simp [Value.ownBlock] at hk; omega))
    clear hown hown2 hgrow hnil HC h1 hl
    go_wp2_with fail
    go_ret
    exact ⟨_, rfl, HB.out, HF.out⟩

theorem boxes_info : (Tryd.prog.info? 78).map (fun i => (i.zero, i.size, i.bytes)) = some (some (.agg #[.int .i64 0, .int .i64 0, .int .i64 0, .int .i64 0, .string ⟨#[]⟩, .string ⟨#[]⟩, .slice none 0 0]), 7, 88) := by kernel_rfl
theorem boxes_isnil (a : Option Addr) (n c : Nat) (w : World) : (binOp .eql 35 (.slice a n c) (.slice none 0 0)).run Tryd.prog w = .ok (.bool a.isNone) w := Lib.run_eql_slice_nil w _ _ a n c 0 0 Tryd.underlying35
theorem clone_boxes (ao : Option Addr) (n c : Nat) (w : World) (hm : n ≤ maxLen) (hb : n * 88 ≤ 140737488355328) (h : ∀ a, ao = some a → HasCells w a (n * 7)) : Calls Tryd.prog 52 #[.slice ao n c] w (CloneP 7 78 (.slice ao n c) w) := by
  have HN := boxes_isnil
  cases ao with
  | none =>
    go_enter Tryd.func52, Tryd.ntmps52
    go_wp2_with fail
    go_ret
    exact ⟨_, rfl, Below.refl _ _, .inl ⟨n, c, rfl, rfl⟩⟩
  | some a =>
    obtain ⟨news, hl, hc, h1⟩ := news_of (h a rfl)
    obtain ⟨i0, hi, hz0, hz1, hz2⟩ := info_parts boxes_info
    have HC := Lib.hid hc
    clear h hc
    go_enter Tryd.func52, Tryd.ntmps52
    go_wp2_with (at_builtin; refine wpList_append_own _ rfl _ _ 35 rfl w.heap.size 78 i0 _ 7 88 Tryd.underlying35 hi hz0 hz1 hz2 rfl (by decide) _ _ _ rfl (World.ownsRow_made w #[] 0 (Nat.le_refl _) (Nat.zero_le _) (by simp)) a n c news rfl ?qc1 ?qc2 ?qc3 ?qc4 ?qc5 ?qc6 ?_)
    case qc1 => exact hl
    case qc2 => exact fun j u hj => Lib.cell?_alloc_some _ (HC.out j u hj)
    case qc3 => exact h1
    case qc4 => rw [Nat.zero_add]; exact hm
    case qc5 => rw [Nat.zero_add]; exact hb
    case qc6 => simp
    intro v' w1 hown hgrow hnil
    have hown2 : w1.ownsRow w.heap.size 78 7 v' n news := by simpa using hown
    have HF := Lib.hid (cloned_own (a := a) (c := c) hl HC.out hown2 hnil)
    have HB := Lib.hid (((Below.refl _ w).alloc (Nat.le_refl _) _).grown hgrow (by simp) (by intro k hk; simp [Value.ownBlock] at hk; omega))
    clear hown hown2 hgrow hnil HC h1 hl
    go_wp2_with fail
    go_ret
    exact ⟨_, rfl, HB.out, HF.out⟩

theorem nums_info : (Tryd.prog.info? 3).map (fun i => (i.zero, i.size, i.bytes)) = some (some (.int .i64 0), 1, 8) := by kernel_rfl
theorem nums_isnil (a : Option Addr) (n c : Nat) (w : World) : (binOp .eql 76 (.slice a n c) (.slice none 0 0)).run Tryd.prog w = .ok (.bool a.isNone) w := Lib.run_eql_slice_nil w _ _ a n c 0 0 Tryd.underlying76
theorem clone_nums (ao : Option Addr) (n c : Nat) (w : World) (hm : n ≤ maxLen) (hb : n * 8 ≤ 140737488355328) (h : ∀ a, ao = some a → HasCells w a (n * 1)) : Calls Tryd.prog 53 #[.slice ao n c] w (CloneP 1 3 (.slice ao n c) w) := by
  have HN := nums_isnil
  cases ao with
  | none =>
    go_enter Tryd.func53, Tryd.ntmps53
    go_wp2_with fail
    go_ret
    exact ⟨_, rfl, Below.refl _ _, .inl ⟨n, c, rfl, rfl⟩⟩
  | some a =>
    obtain ⟨news, hl, hc, h1⟩ := news_of (h a rfl)
    obtain ⟨i0, hi, hz0, hz1, hz2⟩ := info_parts nums_info
    have HC := Lib.hid hc
    clear h hc
    go_enter Tryd.func53, Tryd.ntmps53
    go_wp2_with (at_builtin; refine wpList_append_own _ rfl _ _ 76 rfl w.heap.size 3 i0 _ 1 8 Tryd.underlying76 hi hz0 hz1 hz2 rfl (by decide) _ _ _ rfl (World.ownsRow_made w #[] 0 (Nat.le_refl _) (Nat.zero_le _) (by simp)) a n c news rfl ?qc1 ?qc2 ?qc3 ?qc4 ?qc5 ?qc6 ?_)
    case qc1 => exact hl
    case qc2 => exact fun j u hj => Lib.cell?_alloc_some _ (HC.out j u hj)
    case qc3 => exact h1
    case qc4 => rw [Nat.zero_add]; exact hm
    case qc5 => rw [Nat.zero_add]; exact hb
    case qc6 => simp
    intro v' w1 hown hgrow hnil
    have hown2 : w1.ownsRow w.heap.size 3 1 v' n news := by simpa using hown
    have HF := Lib.hid (cloned_own (a := a) (c := c) hl HC.out hown2 hnil)
    have HB := Lib.hid (((Below.refl _ w).alloc (Nat.le_refl _) _).grown hgrow (by simp) (by intro k hk; simp [Value.ownBlock] at hk; omega))
    clear hown hown2 hgrow hnil HC h1 hl
    go_wp2_with fail
    go_ret
    exact ⟨_, rfl, HB.out, HF.out⟩
end Go.Proofs.YtkocgedliakclaaDoor
