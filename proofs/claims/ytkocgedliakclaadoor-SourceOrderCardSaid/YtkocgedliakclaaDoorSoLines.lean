/- The lines of a text. -/
import Derived.Test.YtkocgedliakclaaDoorSoLay
import Derived.Test.YtkocgedliakclaaDoorSoCut
import Derived.Test.YtkocgedliakclaaDoorSoBook
import Derived.Shelf.Strings.Split
namespace Go.Proofs.YtkocgedliakclaaDoor
open Go.RowKit Go.PlainAid Go.Maps Go.Shelf

theorem strs_info : (Tryd.prog.info? 9).map (fun i => (i.zero, i.size, i.bytes)) = some (some (.string ByteArray.empty), 1, 16) := by kernel_rfl
theorem count_nl (s : ByteArray) (w : World) : Calls Tryd.prog 55 #[.string s, .string ⟨#[10]⟩] w (Says (.int .i64 (Lib.countB s nlB)) w) := by
  rw [countB_byte]
  exact (Any.strings_Count_one Tryd.countL s 10 w).mono fun e w' h => ⟨h.1, h.2.symm⟩
set_option maxHeartbeats 1000000 in
theorem genSplit_nl (s : ByteArray) (w : World) (hs : s.size < 4294967281) : Calls Tryd.prog 54 #[.string s, .string ⟨#[10]⟩, .int .i64 0, .int .i64 (-1)] w fun e w' =>
    e = .returned (.slice (some ⟨w.heap.size, 0, none⟩) (pieces s).length (pieces s).length) ∧ w' = w.alloc (.cells ((pieces s).map Value.string).toArray 9) := by
  have hle := Lib.countB_le nlB (by decide) s.size s (Nat.le_refl _)
  have hp := pieces_len s
  have hl := Lib.splitB_all nlB (by decide) 0 _ s rfl
  have c := Any.strings_genSplit_core { Tryd.splitL with } strs_info s nlB 0 (-1) (Lib.countB s nlB + 1) w hs (by decide) (Nat.zero_le _)
    (fun x c _ => (Any.strings_Index_one { Tryd.splitL with } x 10 _).mono fun e w' h => ⟨by
      rw [h.1]
      show _ = Ending.returned (.int .i64 (Lib.index x.data.toList [10]))
      rw [Lib.index_one], h.2⟩)
    ((Any.strings_Count_one { Tryd.splitL with } s 10 w).mono fun e w' h => ⟨by rw [h.1, countB_byte], h.2⟩)
    (by decide) (by decide) (by rw [if_pos (by decide)]; omega)
  rw [Nat.add_sub_cancel] at c
  have e2 : Lib.cellsOf (pieces s) (Lib.countB s nlB + 1) = ((pieces s).map Value.string).toArray := by rw [← hp]; exact Lib.cellsOf_full _
  change Calls Tryd.prog 54 #[.string s, .string ⟨#[10]⟩, .int .i64 0, .int .i64 (-1)] w _ at c
  refine c.mono fun e w' h => ?_
  obtain ⟨h1, h2⟩ := h
  change w' = w.alloc (.cells (Lib.cellsOf (pieces s) (Lib.countB s nlB + 1)) 9) at h2
  rw [e2] at h2
  refine ⟨?_, h2⟩
  rw [h1, ← hp]
  rfl
theorem split_nl (s : ByteArray) (w : World) (hs : s.size < 4294967281) : Calls Tryd.prog 42 #[.string s, .string ⟨#[10]⟩] w fun e w' =>
    e = .returned (.slice (some ⟨w.heap.size, 0, none⟩) (pieces s).length (pieces s).length) ∧ w' = w.alloc (.cells ((pieces s).map Value.string).toArray 9) := by
  have HG := Lib.hid (genSplit_nl s w hs)
  clear hs
  go_enter Tryd.func42, Tryd.ntmps42
  go_wp2_with fail
  refine (HG.out).mono ?_
  rintro e w1 ⟨rfl, rfl⟩
  go_wp2_with fail
  go_ret
  exact ⟨rfl, rfl⟩

def LinesOfP (s : ByteArray) (w : World) (e : Ending) (w' : World) : Prop :=
  ∃ c, e = .returned (.slice (some ⟨w.heap.size, 0, none⟩) (linesT s).length c) ∧ w' = w.alloc (.cells ((pieces s).map Value.string).toArray 9) ∧ (linesT s).length ≤ c ∧ c ≤ s.size + 1
set_option maxHeartbeats 1000000 in
theorem linesOf_any (s : ByteArray) (w : World) (hs : s.size < 4294967281) : Calls Tryd.prog 20 #[.string s] w (LinesOfP s w) := by
  have HG := Lib.hid (split_nl s w hs)
  have hcb := countB_bd s
  have hp := pieces_len s
  have hpos : 0 < (pieces s).length := by omega
  have hlast : (pieces s).getLast (pieces_ne s) = (pieces s)[(pieces s).length - 1]'(by omega) := List.getLast_eq_getElem ..
  obtain ⟨x, hx⟩ : ∃ x, (pieces s)[(pieces s).length - 1]'(by omega) = x := ⟨_, rfl⟩
  have hc : (w.alloc (.cells ((pieces s).map Value.string).toArray 9)).cell? ⟨w.heap.size, (pieces s).length - 1, none⟩ = some (.string x) := by
    have hh := heap_alloc_new w (.cells ((pieces s).map Value.string).toArray 9)
    have hlt : (pieces s).length - 1 < (pieces s).length := by omega
    simp only [World.cell?, hh]
    simp [List.getElem?_eq_getElem hlt, hx]
  have hL : linesT s = if x.size = 0 then (pieces s).dropLast else pieces s := by unfold linesT; rw [hlast, hx]
  have hdl : (pieces s).dropLast.length = (pieces s).length - 1 := List.length_dropLast
  obtain ⟨n, hn⟩ : ∃ n, (pieces s).length = n + 1 := ⟨(pieces s).length - 1, by omega⟩
  have hn1 : (pieces s).length - 1 = n := by omega
  rw [hn1] at hc hdl
  rw [hn] at HG
  have hcast : ((n + 1 : Nat) : Int) - 1 = (n : Int) := by omega
  have hnb : n ≤ s.size := by omega
  have hn64 : n ≤ 9000000000000000000 := by omega
  have HL := Lib.hid hL
  have HDL := Lib.hid hdl
  have HPN := Lib.hid hn
  have HC := Lib.hid hc
  by_cases hz : x.size = 0
  · rw [if_pos hz] at HL
    have he := isEmpty_yes hz
    have hxe : (x.toList == ByteArray.toList ⟨#[]⟩) = true := by
      rw [Lib.toList_data, Lib.toList_data]
      have : x.data.toList = [] := List.eq_nil_of_length_eq_zero (by rw [← Lib.size_eq]; exact hz)
      rw [this]; rfl
    clear hs hp hpos hlast hx hL hdl hn hn1 hz hcb hc
    go_enter Tryd.func20, Tryd.ntmps20
    go_wp2_with fail
    refine (HG.out).mono ?_
    rintro e w1 ⟨rfl, rfl⟩
    have hc := HC.out
    go_wp2_with fail
    go_ret
    have hlen : (linesT s).length = n := by rw [HL.out, HDL.out]
    exact ⟨n + 1, by rw [hlen]; rfl, rfl, by omega, by omega⟩
  · rw [if_neg hz] at HL
    have he := isEmpty_no (s := x) (by omega)
    have hxe : (x.toList == ByteArray.toList ⟨#[]⟩) = false := by
      rw [Lib.toList_data, Lib.toList_data, beq_eq_false_iff_ne]
      intro e
      have := congrArg List.length e
      rw [← Lib.size_eq] at this
      exact hz this
    clear hs hp hpos hlast hx hL hdl hn hn1 hz hcb hc
    go_enter Tryd.func20, Tryd.ntmps20
    go_wp2_with fail
    refine (HG.out).mono ?_
    rintro e w1 ⟨rfl, rfl⟩
    have hc := HC.out
    go_wp2_with fail
    go_ret
    have hlen : (linesT s).length = n + 1 := by rw [HL.out, HPN.out]
    exact ⟨n + 1, by rw [hlen]; rfl, rfl, by omega, by omega⟩

/-- A text's lines, as lines of input. -/
def textC (l : List ByteArray) : List LineC := l.map fun t => ⟨t, false, 0, 0, []⟩
def TextLinesP (s : ByteArray) (w : World) (e : Ending) (w' : World) : Prop :=
  ∃ la lc, e = .returned (.slice la (linesT s).length lc) ∧ Below w.heap.size w w' ∧ LinesRd (w.heap.size ≤ ·) (.slice la (linesT s).length lc) (textC (linesT s)) w'
/-- The cells of lines of texts. -/
def textCells (l : List ByteArray) : List Value := l.flatMap fun t => [.string t, .bool false, .int .i64 0, .int .i64 0, .slice none 0 0]
theorem textCells_len (l : List ByteArray) : (textCells l).length = l.length * 5 := by
  induction l with
  | nil => rfl
  | cons t r ih =>
    have e : textCells (t :: r) = [.string t, .bool false, .int .i64 0, .int .i64 0, .slice none 0 0] ++ textCells r := rfl
    rw [e, List.length_append, ih]
    simp only [List.length_cons, List.length_nil]
    omega
theorem textCells_snoc (l : List ByteArray) (t : ByteArray) : textCells (l ++ [t]) = textCells l ++ [.string t, .bool false, .int .i64 0, .int .i64 0, .slice none 0 0] := by
  unfold textCells
  rw [List.flatMap_append]
  rfl
theorem textCells_at : ∀ (l : List ByteArray) (i k : Nat) (h : i < l.length), k < 5 → (textCells l)[i * 5 + k]? = ([.string l[i], .bool false, .int .i64 0, .int .i64 0, .slice none 0 0] : List Value)[k]?
  | t :: r, 0, k, h, hk => by
    have e : textCells (t :: r) = [.string t, .bool false, .int .i64 0, .int .i64 0, .slice none 0 0] ++ textCells r := rfl
    rw [e, List.getElem?_append_left (by simp; omega)]
    simp
  | t :: r, i + 1, k, h, hk => by
    have e : textCells (t :: r) = [.string t, .bool false, .int .i64 0, .int .i64 0, .slice none 0 0] ++ textCells r := rfl
    rw [e, List.getElem?_append_right (by simp; omega)]
    have := textCells_at r i k (by simpa using h) hk
    rw [show (i + 1) * 5 + k - ([.string t, .bool false, .int .i64 0, .int .i64 0, .slice none 0 0] : List Value).length = i * 5 + k from by simp; omega, this]
    rfl
theorem text_rd {B : Nat} {v : Value} {l : List ByteArray} {w : World} (h : w.ownsRow B 37 5 v l.length (textCells l)) (hm : l.length ≤ maxLen) : LinesRd (B ≤ ·) v (textC l) w := by
  have hl : (textC l).length = l.length := List.length_map ..
  rcases id h.2 with ⟨rfl, h0⟩ | ⟨g, cap, cur, rfl, hg, hh, h1, h2, h3, h4⟩
  · exact ⟨none, 0, by rw [hl, h0], by rw [hl]; exact hm, 0, 0, fun hp => absurd hp (by rw [hl, h0]; exact Nat.lt_irrefl _), fun i hi => absurd hi (by rw [hl, h0]; exact Nat.not_lt_zero _)⟩
  · refine ⟨some ⟨g, 0, none⟩, cap, by rw [hl], by rw [hl]; exact hm, g, 0, fun _ => ⟨rfl, hg⟩, fun i hi => ?_⟩
    rw [hl] at hi
    have c : ∀ k, k < 5 → w.cell? ⟨g, i * 5 + k, none⟩ = ([.string l[i], .bool false, .int .i64 0, .int .i64 0, .slice none 0 0] : List Value)[k]? := fun k hk => by
      rw [← textCells_at l i k hi hk, ← h4, List.getElem?_take, if_pos (by omega)]
      simp [World.cell?, hh]
    have e : (textC l)[i]'(by rw [hl]; exact hi) = ⟨l[i], false, 0, 0, []⟩ := by simp [textC]
    rw [e, Nat.zero_add]
    have c0 := c 0 (by omega)
    simp only [Nat.add_zero] at c0
    exact ⟨.slice none 0 0, c0, c 1 (by omega), c 2 (by omega), c 3 (by omega), c 4 (by omega), ⟨none, 0, rfl, Nat.zero_le _, 0, 0, fun h => absurd h (Nat.lt_irrefl _), fun i hi => absurd hi (Nat.not_lt_zero _)⟩⟩
end Go.Proofs.YtkocgedliakclaaDoor
