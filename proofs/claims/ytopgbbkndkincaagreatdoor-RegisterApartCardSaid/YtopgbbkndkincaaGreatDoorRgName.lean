/- What keeps a name from being looked up in a book. -/
import Derived.Test.YtopgbbkndkincaaGreatDoorRgBase
import Derived.OneCell
import Derived.Maps.OwnSet
namespace Go.Proofs.YtopgbbkndkincaaGreatDoor
open Go.RowKit Go.PlainAid Go.Maps

/-- A register. -/
structure Reg where
  value : Int
  step : Int
  fm : ByteArray
def Reg.cells (r : Reg) : Array Value := #[.int .i64 r.value, .int .i64 r.step, .string r.fm]
def Reg.val (r : Reg) : Value := .agg #[.int .i64 r.value, .int .i64 r.step, .string r.fm]
def Reg.data (r : Reg) : DataW Unit := .agg [.lit (.int .i64 r.value), .lit (.int .i64 r.step), .lit (.string r.fm.data.toList)]
/-- How a register reads in a map. -/
def regElem (v : Value) : Option (DataW Unit × List MemPlace) :=
  match v with
  | .agg cs => match cs.toList with
    | [.int .i64 a, .int .i64 b, .string f] => some (.agg [.lit (.int .i64 a), .lit (.int .i64 b), .lit (.string f.data.toList)], [])
    | _ => none
  | _ => none
theorem regElem_mk (r : Reg) : regElem r.val = some (r.data, []) := rfl
theorem regElem_inv {v : Value} {z : DataW Unit × List MemPlace} (h : regElem v = some z) : ∃ r : Reg, v = r.val ∧ z = (r.data, []) := by
  unfold regElem at h
  split at h
  · rename_i cs
    split at h
    · rename_i a b f hcs
      injection h with h
      refine ⟨⟨a, b, f⟩, ?_, h.symm⟩
      show Value.agg cs = Value.agg _
      rw [show cs = #[.int .i64 a, .int .i64 b, .string f] from by rw [← Array.toList_inj, hcs]]
    · cases h
  · cases h
theorem Reg.data_inj {r q : Reg} (h : r.data = q.data) : r = q := by
  obtain ⟨a, b, f⟩ := r
  obtain ⟨c, d, g⟩ := q
  simp only [Reg.data, DataW.agg.injEq, List.cons.injEq, DataW.lit.injEq, Lit.int.injEq, Lit.string.injEq, true_and, and_true] at h
  obtain ⟨rfl, rfl, hf⟩ := h
  obtain ⟨f⟩ := f
  obtain ⟨g⟩ := g
  have hf : f.toList = g.toList := hf
  rw [Array.toList_inj.1 hf]

abbrev bkey (s : ByteArray) : Lit := .string s.data.toList

/-- Block b is a book over the map in block mb, which reads as D. -/
structure BookAt (b mb n : Nat) (D : DataW Unit) (w : World) : Prop where
  blk : w.heap[b]? = some (.cells #[.map (some mb)] 41 (0, 0))
  map : w.ownsMap Tryz.prog 9 regElem mb n D
theorem BookAt.cell {b mb n : Nat} {D : DataW Unit} {w : World} (h : BookAt b mb n D w) : w.cell? ⟨b, 0, none⟩ = some (.map (some mb)) := by simp [World.cell?, h.blk]
theorem BookAt.lt {b mb n : Nat} {D : DataW Unit} {w : World} (h : BookAt b mb n D w) : b < w.heap.size := (Array.getElem?_eq_some_iff.1 h.blk).1
theorem BookAt.ne {b mb n : Nat} {D : DataW Unit} {w : World} (h : BookAt b mb n D w) : b ≠ mb := by
  intro e
  obtain ⟨es, clock, hb, _⟩ := h.map
  rw [← e, h.blk] at hb
  cases hb
theorem BookAt.below {b mb n : Nat} {D : DataW Unit} {w w' : World} (h : BookAt b mb n D w) (hb : Below w.heap.size w w') : BookAt b mb n D w' := by
  refine ⟨by rw [hb.block _ h.lt]; exact h.blk, h.map.kept (row := none) ⟨hb.os, hb.tape, hb.output, hb.size, fun k hk _ => hb.block k hk⟩ (by simp)⟩

theorem run_eql_map_some (_t : TypeId) (m : Nat) (w : World) : (binOp .eql 39 (.map (some m)) (.map none)).run Tryz.prog w = .ok (.bool false) w := by kernel_rfl

theorem nm_yes {c : Int} (h : nmB c = true) : 33 ≤ c ∧ c ≤ 126 ∧ (c == 93) = false := by
  simp only [nmB, Bool.and_eq_true, decide_eq_true_eq, Bool.not_eq_true'] at h
  exact ⟨h.1.1, h.1.2, h.2⟩
theorem nm_no {c : Int} (h : nmB c = false) : c < 33 ∨ (33 ≤ c ∧ 126 < c) ∨ (33 ≤ c ∧ c ≤ 126 ∧ (c == 93) = true) := by
  by_cases h1 : 33 ≤ c
  · by_cases h2 : c ≤ 126
    · refine .inr (.inr ⟨h1, h2, ?_⟩)
      cases h3 : (c == 93) with
      | true => rfl
      | false => simp [nmB, h1, h2, h3] at h
    · exact .inr (.inl ⟨h1, by omega⟩)
  · exact .inl (by omega)
abbrev NameP (s : ByteArray) (w : World) (e : Ending) (w' : World) : Prop := e = .returned (.int .i64 (nameErr s)) ∧ w = w'

set_option maxRecDepth 100000 in
set_option maxHeartbeats 1000000 in
theorem nameError_size (b mb : Nat) (s : ByteArray) (w : World) (hs : s.size ≤ 9223372036854775807) (hc : w.cell? ⟨b, 0, none⟩ = some (.map (some mb))) (h : s.size = 0 ∨ 20 < s.size) :
    Calls Tryz.prog 39 #[.pointer (some ⟨b, 0, none⟩), .string s] w (NameP s w) := by
  have hm := run_eql_map_some 39 mb
  have hn : nameErr s = 6 := by
    unfold nameErr
    rcases h with h | h
    · rw [nameB_empty h]; rfl
    · rw [nameB_long (by omega)]; rfl
  unfold NameP
  rw [hn]
  rcases h with h | h
  · have he := isEmpty_yes h
    clear hn
    go_enter Tryz.func39, Tryz.ntmps39
    go_wp2_with fail
    go_ret
    exact ⟨rfl, rfl⟩
  · have he := isEmpty_no (s := s) (by omega)
    clear hn
    go_enter Tryz.func39, Tryz.ntmps39
    go_wp2_with fail
    go_ret
    exact ⟨rfl, rfl⟩

set_option maxRecDepth 100000 in
set_option maxHeartbeats 2000000 in
/-- nameError of a book that is one. -/
theorem nameError_any (b mb : Nat) (s : ByteArray) (w : World) (hs : s.size ≤ 9223372036854775807) (hc : w.cell? ⟨b, 0, none⟩ = some (.map (some mb))) :
    Calls Tryz.prog 39 #[.pointer (some ⟨b, 0, none⟩), .string s] w (NameP s w) := by
  by_cases h : s.size = 0 ∨ 20 < s.size
  · exact nameError_size b mb s w hs hc h
  have h0 : 0 < s.size := by omega
  have h1 : s.size ≤ 20 := by omega
  have hgb := get_bt s
  have hm := run_eql_map_some 39 mb
  have he := isEmpty_no h0
  clear h
  go_enter Tryz.func39, Tryz.ntmps39
  go_wp2_with fail
  go_loop [24] (fun i => ∃ k : Nat, k ≤ s.size ∧ i = .int .i64 k ∧ Hid (∀ j, j < k → nmB (bt s j) = true)) (fun i => s.size - (intOf i).toNat)
  case atStart => exact ⟨0, by omega, rfl, fun j hj => absurd hj (Nat.not_lt_zero _)⟩
  case round =>
    obtain ⟨k, hk, rfl, hn⟩ := hrel
    by_cases hlt : k < s.size
    · cases hb : nmB (bt s k) with
      | true =>
        have hne : Hid (∀ j, j < k + 1 → nmB (bt s j) = true) := fun j hj => by
          by_cases e : j = k
          · rw [e]; exact hb
          · exact hn.out j (by omega)
        obtain ⟨c0, c1, c2⟩ := nm_yes hb
        clear hb
        go_wp2
        go_round
        case rel => exact ⟨k + 1, by omega, by go_num, hne⟩
        case measure => simp [intOf]; omega
      | false =>
        have hnn : nameErr s = 6 := by unfold nameErr; rw [nameB_byte hlt hb]; rfl
        rcases nm_no hb with c0 | ⟨c0, c1⟩ | ⟨c0, c1, c2⟩
        all_goals
          have HN := Lib.hid hnn
          clear hb hnn
          go_wp2
          go_ret
          exact ⟨by rw [HN.out]; rfl, rfl⟩
    · have hnn : nameErr s = 0 := by unfold nameErr; rw [nameB_all h0 h1 (fun j hj => hn.out j (by omega))]; rfl
      have HN := Lib.hid hnn
      clear hnn
      go_wp2
      go_ret
      exact ⟨by rw [HN.out]; rfl, rfl⟩
end Go.Proofs.YtopgbbkndkincaaGreatDoor
