/- Frames are made: of a text, of lines. -/
import Derived.Test.YtkocgedliakclaaDoorSoCopied
import Derived.Test.YtkocgedliakclaaDoorSoText
namespace Go.Proofs.YtkocgedliakclaaDoor
open Go.RowKit Go.PlainAid Go.Maps Go.Shelf

/-- Can a name be a frame's? -/
def canB (s : ByteArray) : Bool := decide (0 < s.size) && decide (s.size ≤ 100)
theorem soCan_any (s : ByteArray) (w : World) : Calls Tryd.prog 48 #[.string s] w (Says (.bool (canB s)) w) := by
  unfold canB
  rcases Nat.eq_zero_or_pos s.size with h0 | h0
  · have he := isEmpty_yes h0
    have hxe : (s.toList == ByteArray.toList ⟨#[]⟩) = true := by
      rw [Lib.toList_data, Lib.toList_data]
      have : s.data.toList = [] := List.eq_nil_of_length_eq_zero (by rw [← Lib.size_eq]; exact h0)
      rw [this]; rfl
    rw [decide_eq_false (by omega)]
    clear h0
    go_enter Tryd.func48, Tryd.ntmps48
    go_wp2_with fail
    go_ret
    exact ⟨rfl, rfl⟩
  · have he := isEmpty_no h0
    have hxe : (s.toList == ByteArray.toList ⟨#[]⟩) = false := by
      rw [Lib.toList_data, Lib.toList_data, beq_eq_false_iff_ne]
      intro e
      have := congrArg List.length e
      rw [← Lib.size_eq] at this
      have h2 : s.size = 0 := this
      omega
    rw [decide_eq_true h0]
    obtain ⟨c, hc⟩ : ∃ c, decide (s.size ≤ 100) = c := ⟨_, rfl⟩
    have hc2 : decide ((s.size : Int) ≤ 100) = c := by rw [← hc]; exact decide_eq_decide.2 (by omega)
    rw [hc]
    clear h0 hc
    go_enter Tryd.func48, Tryd.ntmps48
    go_wp2_with fail
    go_ret
    exact ⟨rfl, rfl⟩

theorem clone_strs (ao : Option Addr) (n c : Nat) (w : World) (hm : n ≤ maxLen) (hb : n * 16 ≤ 140737488355328) (h : ∀ a, ao = some a → HasCells w a (n * 1)) : Calls Tryd.prog 34 #[.slice ao n c] w (CloneP 1 9 (.slice ao n c) w) := by
  have HN := fun (a : Option Addr) (n c : Nat) (w : World) => Lib.run_eql_slice_nil (P := Tryd.prog) w 23 _ a n c 0 0 Tryd.underlying23
  cases ao with
  | none =>
    go_enter Tryd.func34, Tryd.ntmps34
    go_wp2_with fail
    go_ret
    exact ⟨_, rfl, Below.refl _ _, .inl ⟨n, c, rfl, rfl⟩⟩
  | some a =>
    obtain ⟨news, hl, hc, h1⟩ := news_of (h a rfl)
    obtain ⟨i0, hi, hz0, hz1, hz2⟩ := info_parts strs_info
    have HC := Lib.hid hc
    clear h hc
    go_enter Tryd.func34, Tryd.ntmps34
    go_wp2_with (at_builtin; refine wpList_append_own _ rfl _ _ 23 rfl w.heap.size 9 i0 _ 1 16 Tryd.underlying23 hi hz0 hz1 hz2 rfl (by decide) _ _ _ rfl (World.ownsRow_made w #[] 0 (Nat.le_refl _) (Nat.zero_le _) (by simp)) a n c news rfl ?qc1 ?qc2 ?qc3 ?qc4 ?qc5 ?qc6 ?_)
    case qc1 => exact hl
    case qc2 => exact fun j u hj => Lib.cell?_alloc_some _ (HC.out j u hj)
    case qc3 => exact h1
    case qc4 => rw [Nat.zero_add]; exact hm
    case qc5 => rw [Nat.zero_add]; exact hb
    case qc6 => simp
    intro v' w1 hown hgrow hnil
    have hown2 : w1.ownsRow w.heap.size 9 1 v' n news := by simpa using hown
    have HF := Lib.hid (cloned_own (a := a) (c := c) hl HC.out hown2 hnil)
    have HB := Lib.hid (((Below.refl _ w).alloc (Nat.le_refl _) _).grown hgrow (by simp) (by intro k hk; simp [Value.ownBlock] at hk; omega))
    clear hown hown2 hgrow hnil HC h1 hl
    go_wp2_with fail
    go_ret
    exact ⟨_, rfl, HB.out, HF.out⟩
theorem strs_cells {S : Nat → Prop} {ao : Option Addr} {n c : Nat} {l : List ByteArray} {w : World} (h : StrsRd S (.slice ao n c) l w) : ∀ a, ao = some a → HasCells w a (n * 1) := by
  obtain ⟨ao', cap, e, hl, hm, b, off, h1, h2⟩ := h
  cases e
  rintro a rfl j hj
  have hj : j < l.length := by omega
  obtain ⟨e, _⟩ := h1 (by omega)
  cases e
  exact ⟨_, by rw [add_none]; exact h2 j hj, rfl⟩
theorem cloned_strs {S : Nat → Prop} {w w' : World} {v v' : Value} {l : List ByteArray} (h : StrsRd S v l w) (hc : Cloned 1 9 v v' w w') : StrsRd (w.heap.size ≤ ·) v' l w' := by
  obtain ⟨ao, cap, rfl, hl, hm, b, off, h1, h2⟩ := h
  rcases hc with ⟨n, c, e, rfl⟩ | ⟨a, n, c, g, cap', cur, e, rfl, hg, hh, h3, h4, h5, h6⟩
  · cases e
    have h0 : l.length = 0 := by
      rcases Nat.eq_zero_or_pos l.length with h | h
      · exact h
      · cases (h1 h).1
    exact ⟨none, 0, by rw [h0], by omega, Nat.zero_le _, 0, 0, fun hp => by omega, fun i hi => by omega⟩
  · cases e
    refine ⟨some ⟨g, 0, none⟩, cap', rfl, h3, h4, g, 0, fun _ => ⟨rfl, hg⟩, fun i hi => ?_⟩
    obtain ⟨e, _⟩ := h1 (by omega)
    cases e
    have := h6 i (by omega)
    rw [Nat.zero_add, this, add_none]
    exact h2 i hi

theorem splitB_size (sep : ByteArray) : ∀ (k : Nat) (s : ByteArray), ∀ p ∈ Lib.splitB sep 0 k s, p.size ≤ s.size
  | 0, s, p, hp => by
    have : p = s := by simpa [Lib.splitB] using hp
    rw [this]
    exact Nat.le_refl _
  | k + 1, s, p, hp => by
    unfold Lib.splitB at hp
    split at hp
    · have : p = s := by simpa using hp
      rw [this]
      exact Nat.le_refl _
    · rcases List.mem_cons.1 hp with rfl | hp
      · rw [ByteArray.size_extract]; omega
      · have := splitB_size sep k _ p hp
        rw [ByteArray.size_extract] at this
        omega
theorem textC_fit {s : ByteArray} (hs : s.size ≤ 100000) : Fit (textC (linesT s)) := by
  have hl : (textC (linesT s)).length = (linesT s).length := List.length_map ..
  have hlen := linesT_len s
  have hcb := countB_bd s
  refine ⟨fun x hx => ?_, by rw [hl]; omega, fun x hx => ?_, fun x hx y hy => ?_⟩
  · obtain ⟨t, ht, rfl⟩ := List.mem_map.1 hx
    have hp : t ∈ pieces s := by
      unfold linesT at ht
      split at ht
      · exact List.dropLast_subset _ ht
      · exact ht
    have := splitB_size nlB _ s t hp
    show t.size ≤ maxLen
    unfold maxLen
    omega
  · obtain ⟨t, ht, rfl⟩ := List.mem_map.1 hx
    simp
  · obtain ⟨t, ht, rfl⟩ := List.mem_map.1 hx
    cases hy

abbrev zeroFr : Value := .agg #[.int .i64 0, .string ⟨#[]⟩, .slice none 0 0, .int .i64 0, .slice none 0 0]
def FrameP (kind : Int) (name : ByteArray) (l : List LineC) (args : List ByteArray) (w : World) (e : Ending) (w' : World) : Prop :=
  ∃ la lc aa ac, e = .returned (.tuple #[.agg #[.int .i64 kind, .string name, .slice la l.length lc, .int .i64 0, .slice aa args.length ac], .bool true]) ∧ Below w.heap.size w w' ∧
    LinesRd (w.heap.size ≤ ·) (.slice la l.length lc) l w' ∧ StrsRd (w.heap.size ≤ ·) (.slice aa args.length ac) args w'
def NoFrameP (w : World) (e : Ending) (w' : World) : Prop := e = .returned (.tuple #[zeroFr, .bool false]) ∧ Below w.heap.size w w'
theorem nil_strs {S : Nat → Prop} (w : World) : StrsRd S (.slice none 0 0) [] w := ⟨none, 0, rfl, Nat.le_refl _, Nat.zero_le _, 0, 0, fun h => absurd h (Nat.lt_irrefl _), fun i hi => absurd hi (Nat.not_lt_zero _)⟩
theorem LinesRd.under {S : Nat → Prop} {v : Value} {l : List LineC} {w w' : World} (h : LinesRd S v l w) (hb : Below w.heap.size w w') : LinesRd S v l w' :=
  (h.both'.stay (Stay.below hb fun _ h => h.2)).mono fun _ h => h.1
theorem StrsRd.under {S : Nat → Prop} {v : Value} {l : List ByteArray} {w w' : World} (h : StrsRd S v l w) (hb : Below w.heap.size w w') : StrsRd S v l w' :=
  (h.both.stay (Stay.below hb fun _ h => h.2)).mono fun _ h => h.1

set_option maxRecDepth 100000 in
set_option maxHeartbeats 4000000 in
theorem waitOf_ok (ao : Option Addr) (c : Nat) (l : List LineC) (w : World) (h : LinesRd (· < w.heap.size) (.slice ao l.length c) l w) (hf : Fit l) (hg : goodC l = true) : Calls Tryd.prog 38 #[.slice ao l.length c] w (FrameP 3 ⟨#[]⟩ l [] w) := by
  have hB0 : Below w.heap.size w (w.alloc (.cells #[.int .i64 0, .string ⟨#[]⟩, .slice none 0 0, .int .i64 0, .slice none 0 0] 64)) := (Below.refl _ _).alloc (Nat.le_refl _) _
  have HR := Lib.hid (show (w.alloc (.cells #[.int .i64 0, .string ⟨#[]⟩, .slice none 0 0, .int .i64 0, .slice none 0 0] 64)).heap[w.heap.size]? = some (.cells #[.int .i64 0, .string ⟨#[]⟩, .slice none 0 0, .int .i64 0, .slice none 0 0] 64 (0, 0)) from heap_alloc_new w _)
  have h0 := (h.stay (Stay.below hB0 fun _ h => h)).mono fun k hk => Nat.lt_of_lt_of_le hk hB0.size
  have HA := Lib.hid (soAre_any ao c l _ h0 hf)
  rw [hg] at HA
  have HL := Lib.hid h0
  have HB0 := Lib.hid hB0
  have hwl : w.heap.size < (w.alloc (.cells #[.int .i64 0, .string ⟨#[]⟩, .slice none 0 0, .int .i64 0, .slice none 0 0] 64)).heap.size := by simp
  clear h h0 hB0 hg
  go_enter Tryd.func38, Tryd.ntmps38
  go_wp2_with fail
  refine (HA.out).mono ?_
  rintro e w1 ⟨rfl, hb1⟩
  have HC := Lib.hid (soCopied_any ao c l w1 ((HL.out.stay (Stay.below hb1 fun _ h => h)).mono fun k hk => Nat.lt_of_lt_of_le hk hb1.size) hf)
  have HB1 := Lib.hid (HB0.out.trans (Below.mono hb1 HB0.out.size))
  have HR1 := Lib.hid ((hb1.block _ hwl).trans HR.out)
  have hs1 := hb1.size
  clear hb1 HA HR
  go_wp2_with fail
  refine (HC.out).mono ?_
  rintro e w2 ⟨v2, rfl, hb2, hO2⟩
  obtain ⟨la, lc, rfl⟩ := hO2.form
  have hR2 := (hb2.block w.heap.size (by simp at hs1; omega)).trans HR1.out
  have HO2 := Lib.hid (hO2.rd (show l.length ≤ maxLen by have := hf.lines; unfold maxLen; omega))
  have HB2 := Lib.hid (HB1.out.trans (Below.mono hb2 HB1.out.size))
  have HR2 := Lib.hid hR2
  obtain ⟨_, f0, f1, f2, f3, f4⟩ := cells5 hR2
  obtain ⟨⟨r0, r1, r2, r3, r4⟩, _⟩ := cells5 hR2
  have hs2 : w.heap.size < w1.heap.size := by simp at hs1; omega
  clear hb2 hO2 HC hR2 hs1
  go_wp2_with fail
  obtain ⟨hset, hgs⟩ := set5 (c0 := .int .i64 3) (c1 := .string ⟨#[]⟩) (c2 := .slice la l.length lc) (c3 := .int .i64 0) (c4 := .slice none 0 0) HR2.out
  refine bodyPost_ret (v := .tuple #[.agg #[.int .i64 3, .string ⟨#[]⟩, .slice la l.length lc, .int .i64 0, .slice none 0 0], .bool true]) (by simp [results, Tryd.results38, go_sem, (cells5 hset).1]) rfl ⟨la, lc, none, 0, rfl, HB2.out.trans (grown_to_below hgs (Nat.le_refl _) HB2.out.size), ?_, nil_strs _⟩
  exact (HO2.out.both'.stay fun k off hk => by
    have h1 : k ≠ w.heap.size := by have := hk.1; omega
    simp [World.cell?, hgs.block k hk.2 (by simpa using h1)]).mono fun k hk => by have := hk.1; omega
end Go.Proofs.YtkocgedliakclaaDoor
