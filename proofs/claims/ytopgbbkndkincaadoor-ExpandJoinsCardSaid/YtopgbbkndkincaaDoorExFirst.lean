/- The first piece of a text. -/
import Derived.Test.YtopgbbkndkincaaDoorExLeaf
import Derived.Below
namespace Go.Proofs.YtopgbbkndkincaaDoor
open Go.RowKit Go.PlainAid Go.Shelf

abbrev Makes (v : Value) (w : World) (e : Ending) (w' : World) : Prop := e = .returned v ∧ Below w.heap.size w w'
abbrev pieceV (p : Piece) : Value := .agg #[.int .u8 p.kind, .string p.name, .int .i64 p.step, .int .i64 p.size]

theorem nameM_nil {s : ByteArray} (h : s.size = 0) : nameM s = none' := by unfold nameM; rw [if_pos h]
theorem nameM_brk {s : ByteArray} (h : 0 < s.size) (h1 : bt s 0 = 91) : nameM s = brkM s := by unfold nameM; rw [if_neg (by omega), if_pos h1]
theorem nameM_two {s : ByteArray} (h : 0 < s.size) (h1 : bt s 0 = 40) : nameM s = if s.size < 3 then none' else if shortB (bt s 1) then (if shortB (bt s 2) then (s.extract 1 3, 3) else none') else none' := by
  unfold nameM; rw [if_neg (by omega), if_neg (by omega), if_pos h1]
theorem nameM_one {s : ByteArray} (h : 0 < s.size) (h1 : ¬ bt s 0 = 91) (h2 : ¬ bt s 0 = 40) : nameM s = if shortB (bt s 0) then (s.extract 0 1, 1) else none' := by
  unfold nameM; rw [if_neg (by omega), if_neg h1, if_neg h2]

set_option maxRecDepth 100000 in
set_option maxHeartbeats 1000000 in
theorem name_any (s : ByteArray) (hs : s.size ≤ 9223372036854775807) (w : World) : Calls Tryd.prog 62 #[.string s] w (Says (.tuple #[.string (nameM s).1, .int .i64 (nameM s).2]) w) := by
  have hgb := get_bt s
  have HB := Lib.hid (brk_any s hs w)
  have HS := Lib.hid (fun j => short_any (bt s j) (bt_nonneg s j) (bt_le s j) w)
  rcases Nat.eq_zero_or_pos s.size with h | h
  · rw [nameM_nil h]
    have he := isEmpty_yes h
    clear h HB HS
    go_enter Tryd.func62, Tryd.ntmps62
    go_wp2_with fail
    go_ret2
    exact ⟨rfl, rfl⟩
  · have he := isEmpty_no h
    by_cases h1 : bt s 0 = 91
    · rw [nameM_brk h h1]
      have h1 : (bt s 0 == 91) = true := by simpa using h1
      clear HS
      obtain ⟨⟨a, b⟩, hq⟩ : ∃ q, brkM s = q := ⟨_, rfl⟩
      rw [hq] at HB ⊢
      clear hq
      go_enter Tryd.func62, Tryd.ntmps62
      go_wp2_with fail
      refine HB.out.mono ?_
      rintro e w1 ⟨rfl, rfl⟩
      go_wp2_with fail
      go_ret2
      exact ⟨rfl, rfl⟩
    · have n1 : (bt s 0 == 91) = false := by simpa using h1
      clear HB
      by_cases h2 : bt s 0 = 40
      · rw [nameM_two h h2]
        have n2 : (bt s 0 == 40) = true := by simpa using h2
        clear h1 h2
        by_cases h3 : s.size < 3
        · rw [if_pos h3]
          clear HS
          go_enter Tryd.func62, Tryd.ntmps62
          go_wp2_with fail
          go_ret2
          exact ⟨rfl, rfl⟩
        · rw [if_neg h3]
          have H1 := Lib.hid (HS.out 1)
          have H2 := Lib.hid (HS.out 2)
          have l1 : 1 < s.size := by omega
          have l2 : 2 < s.size := by omega
          have l3 : 3 ≤ s.size := by omega
          clear HS
          cases c1 : shortB (bt s 1) with
          | false =>
            rw [c1] at H1
            rw [if_neg (by simp)]
            clear c1 H2
            go_enter Tryd.func62, Tryd.ntmps62
            go_wp2_with fail
            refine H1.out.mono ?_
            rintro e w1 ⟨rfl, rfl⟩
            go_wp2_with fail
            go_ret2
            exact ⟨rfl, rfl⟩
          | true =>
            rw [c1] at H1
            rw [if_pos rfl]
            clear c1
            cases c2 : shortB (bt s 2) with
            | false =>
              rw [c2] at H2
              rw [if_neg (by simp)]
              clear c2
              go_enter Tryd.func62, Tryd.ntmps62
              go_wp2_with fail
              refine H1.out.mono ?_
              rintro e w1 ⟨rfl, rfl⟩
              go_wp2_with fail
              refine H2.out.mono ?_
              rintro e w1 ⟨rfl, rfl⟩
              go_wp2_with fail
              go_ret2
              exact ⟨rfl, rfl⟩
            | true =>
              rw [c2] at H2
              rw [if_pos rfl]
              clear c2
              go_enter Tryd.func62, Tryd.ntmps62
              go_wp2_with fail
              refine H1.out.mono ?_
              rintro e w1 ⟨rfl, rfl⟩
              go_wp2_with fail
              refine H2.out.mono ?_
              rintro e w1 ⟨rfl, rfl⟩
              go_wp2_with fail
              go_ret2
              exact ⟨rfl, rfl⟩
      · rw [nameM_one h h1 h2]
        have n2 : (bt s 0 == 40) = false := by simpa using h2
        have H1 := Lib.hid (HS.out 0)
        clear h1 h2 HS
        cases c1 : shortB (bt s 0) with
        | false =>
          rw [c1] at H1
          rw [if_neg (by simp)]
          clear c1
          go_enter Tryd.func62, Tryd.ntmps62
          go_wp2_with fail
          refine H1.out.mono ?_
          rintro e w1 ⟨rfl, rfl⟩
          go_wp2_with fail
          go_ret2
          exact ⟨rfl, rfl⟩
        | true =>
          rw [c1] at H1
          rw [if_pos rfl]
          clear c1
          go_enter Tryd.func62, Tryd.ntmps62
          go_wp2_with fail
          refine H1.out.mono ?_
          rintro e w1 ⟨rfl, rfl⟩
          go_wp2_with fail
          go_ret2
          exact ⟨rfl, rfl⟩

theorem namedAt_no {s : ByteArray} {st : Int} {k : Nat} (h : (nameM (tail s k)).2 = 0) : namedAt s st k = onePiece := by unfold namedAt; rw [if_pos h]
theorem namedAt_yes {s : ByteArray} {st : Int} {k : Nat} (h : ¬ (nameM (tail s k)).2 = 0) : namedAt s st k = ⟨bt s 1, (nameM (tail s k)).1, st, k + (nameM (tail s k)).2⟩ := by unfold namedAt; rw [if_neg h]


/-- The end of both ways: the name is read from place k on. -/
def NamedP (s : ByteArray) (st : Int) (k : Nat) (w : World) : Ending → World → Prop := Makes (pieceV (namedAt s st k)) w

set_option maxRecDepth 100000 in
set_option maxHeartbeats 2000000 in
theorem named_other (s : ByteArray) (hs : s.size ≤ 9223372036854775807) (h2 : 2 ≤ s.size) (hb : (bt s 1 == 110) = false) (w : World) : Calls Tryd.prog 49 #[.string s] w (NamedP s 0 2 w) := by
  have hgb := get_bt s
  have l1 : 1 < s.size := by omega
  have HN := Lib.hid (name_any (tail s 2) (by rw [tail_size]; omega))
  obtain ⟨hl, _⟩ := name_le (tail s 2)
  rw [tail_size] at hl
  unfold NamedP
  by_cases hz : (nameM (tail s 2)).2 = 0
  · rw [namedAt_no hz]
    obtain ⟨⟨a, b⟩, hq⟩ : ∃ q, nameM (tail s 2) = q := ⟨_, rfl⟩
    rw [hq] at HN hz hl
    have hz : b = 0 := hz
    subst hz
    clear hq hl
    go_enter Tryd.func49, Tryd.ntmps49
    go_wp2_with fail
    refine (HN.out _).mono ?_
    rintro e w1 ⟨rfl, rfl⟩
    go_wp2_with fail
    simp [bodyPost, results, Tryd.results49, go_sem]
    exact ⟨rfl, (Below.refl _ _).alloc (Nat.le_refl _) _⟩
  · rw [namedAt_yes hz]
    obtain ⟨⟨a, b⟩, hq⟩ : ∃ q, nameM (tail s 2) = q := ⟨_, rfl⟩
    rw [hq] at HN hz hl
    rw [hq]
    have hz : ¬ (b : Int) = 0 := by simpa using hz
    have hl : b ≤ s.size - 2 := hl
    have hl2 : (2 : Int) + b ≤ s.size := by omega
    clear hq
    go_enter Tryd.func49, Tryd.ntmps49
    go_wp2_with fail
    refine (HN.out _).mono ?_
    rintro e w1 ⟨rfl, rfl⟩
    go_wp2_with fail
    simp [bodyPost, results, Tryd.results49, go_sem]
    exact ⟨rfl, (Below.refl _ _).alloc (Nat.le_refl _) _⟩

set_option maxRecDepth 100000 in
set_option maxHeartbeats 2000000 in
theorem named_n0 (s : ByteArray) (hs : s.size ≤ 9223372036854775807) (h2 : 2 ≤ s.size) (hb : (bt s 1 == 110) = true) (h0 : stepM (tail s 2) = 0) (w : World) : Calls Tryd.prog 49 #[.string s] w (NamedP s 0 2 w) := by
  have hgb := get_bt s
  have l1 : 1 < s.size := by omega
  have HN := Lib.hid (name_any (tail s 2) (by rw [tail_size]; omega))
  have hst := step_any (tail s 2)
  rw [h0] at hst
  have HS := Lib.hid hst
  obtain ⟨hl, _⟩ := name_le (tail s 2)
  rw [tail_size] at hl
  clear hst h0
  unfold NamedP
  by_cases hz : (nameM (tail s 2)).2 = 0
  · rw [namedAt_no hz]
    obtain ⟨⟨a, b⟩, hq⟩ : ∃ q, nameM (tail s 2) = q := ⟨_, rfl⟩
    rw [hq] at HN hz hl
    have hz : b = 0 := hz
    subst hz
    clear hq hl
    go_enter Tryd.func49, Tryd.ntmps49
    go_wp2_with fail
    refine (HS.out _).mono ?_
    rintro e w1 ⟨rfl, rfl⟩
    go_wp2_with fail
    refine (HN.out _).mono ?_
    rintro e w1 ⟨rfl, rfl⟩
    go_wp2_with fail
    simp [bodyPost, results, Tryd.results49, go_sem]
    exact ⟨rfl, (Below.refl _ _).alloc (Nat.le_refl _) _⟩
  · rw [namedAt_yes hz]
    obtain ⟨⟨a, b⟩, hq⟩ : ∃ q, nameM (tail s 2) = q := ⟨_, rfl⟩
    rw [hq] at HN hz hl
    rw [hq]
    have hz : ¬ (b : Int) = 0 := by simpa using hz
    have hl : b ≤ s.size - 2 := hl
    have hl2 : (2 : Int) + b ≤ s.size := by omega
    clear hq
    go_enter Tryd.func49, Tryd.ntmps49
    go_wp2_with fail
    refine (HS.out _).mono ?_
    rintro e w1 ⟨rfl, rfl⟩
    go_wp2_with fail
    refine (HN.out _).mono ?_
    rintro e w1 ⟨rfl, rfl⟩
    go_wp2_with fail
    simp [bodyPost, results, Tryd.results49, go_sem]
    exact ⟨rfl, (Below.refl _ _).alloc (Nat.le_refl _) _⟩

set_option maxRecDepth 100000 in
set_option maxHeartbeats 2000000 in
theorem named_n1 (s : ByteArray) (hs : s.size ≤ 9223372036854775807) (h2 : 2 ≤ s.size) (hb : (bt s 1 == 110) = true) {st : Int} (h0 : stepM (tail s 2) = st) (hne : ¬ st = 0) (w : World) : Calls Tryd.prog 49 #[.string s] w (NamedP s st 3 w) := by
  have hgb := get_bt s
  have l1 : 1 < s.size := by omega
  have l3 : 3 ≤ s.size := by
    have := prefix_pos (s := tail s 2) (by rw [h0]; exact hne)
    rw [tail_size] at this
    omega
  have HN := Lib.hid (name_any (tail s 3) (by rw [tail_size]; omega))
  have hst := step_any (tail s 2)
  rw [h0] at hst
  have HS := Lib.hid hst
  have hnb : (st != 0) = true := by simpa using hne
  obtain ⟨hl, _⟩ := name_le (tail s 3)
  rw [tail_size] at hl
  clear hst h0 hne
  unfold NamedP
  by_cases hz : (nameM (tail s 3)).2 = 0
  · rw [namedAt_no hz]
    obtain ⟨⟨a, b⟩, hq⟩ : ∃ q, nameM (tail s 3) = q := ⟨_, rfl⟩
    rw [hq] at HN hz hl
    have hz : b = 0 := hz
    subst hz
    clear hq hl
    go_enter Tryd.func49, Tryd.ntmps49
    go_wp2_with fail
    refine (HS.out _).mono ?_
    rintro e w1 ⟨rfl, rfl⟩
    go_wp2_with fail
    refine (HN.out _).mono ?_
    rintro e w1 ⟨rfl, rfl⟩
    go_wp2_with fail
    simp [bodyPost, results, Tryd.results49, go_sem]
    exact ⟨rfl, (Below.refl _ _).alloc (Nat.le_refl _) _⟩
  · rw [namedAt_yes hz]
    obtain ⟨⟨a, b⟩, hq⟩ : ∃ q, nameM (tail s 3) = q := ⟨_, rfl⟩
    rw [hq] at HN hz hl
    rw [hq]
    have hz : ¬ (b : Int) = 0 := by simpa using hz
    have hl : b ≤ s.size - 3 := hl
    have hl2 : (3 : Int) + b ≤ s.size := by omega
    clear hq
    go_enter Tryd.func49, Tryd.ntmps49
    go_wp2_with fail
    refine (HS.out _).mono ?_
    rintro e w1 ⟨rfl, rfl⟩
    go_wp2_with fail
    refine (HN.out _).mono ?_
    rintro e w1 ⟨rfl, rfl⟩
    go_wp2_with fail
    simp [bodyPost, results, Tryd.results49, go_sem]
    exact ⟨rfl, (Below.refl _ _).alloc (Nat.le_refl _) _⟩

theorem named_any (s : ByteArray) (hs : s.size ≤ 9223372036854775807) (h2 : 2 ≤ s.size) (w : World) : Calls Tryd.prog 49 #[.string s] w (Makes (pieceV (namedM s)) w) := by
  unfold namedM
  by_cases h : bt s 1 = 110
  · rw [if_pos h]
    have hb : (bt s 1 == 110) = true := by simpa using h
    by_cases h0 : stepM (tail s 2) = 0
    · rw [if_pos h0]; exact named_n0 s hs h2 hb h0 w
    · rw [if_neg h0]; exact named_n1 s hs h2 hb rfl h0 w
  · rw [if_neg h]; exact named_other s hs h2 (by simpa using h) w

theorem below_drewN {B : Nat} {w w' : World} (h : Below B w w') (q : Nat) : Below B w (w'.drewN q) := ⟨h.os, h.tape, h.output, h.size, h.block⟩
theorem box_set (w : World) (n : Nat) (a b c d : Value) : Below w.heap.size w ((((((w.alloc (.cells #[.int .u8 0, .string ⟨#[]⟩, .int .i64 0, .int .i64 0] 59)).drewN n).setCell ⟨w.heap.size, 0, none⟩ a).setCell ⟨w.heap.size, 1, none⟩ b).setCell ⟨w.heap.size, 2, none⟩ c).setCell ⟨w.heap.size, 3, none⟩ d) :=
  ((((below_drewN ((Below.refl _ _).alloc (Nat.le_refl _) _) n).setCell (p := ⟨w.heap.size, 0, none⟩) (Nat.le_refl _) _).setCell (p := ⟨w.heap.size, 1, none⟩) (Nat.le_refl _) _).setCell (p := ⟨w.heap.size, 2, none⟩) (Nat.le_refl _) _).setCell (p := ⟨w.heap.size, 3, none⟩) (Nat.le_refl _) _
theorem measM_short {s : ByteArray} (h : s.size < 3) : measM s = onePiece := by unfold measM; rw [if_pos h]
theorem measM_slash {s : ByteArray} (h : ¬ s.size < 3) (h1 : bt s 2 = 92) : measM s = onePiece := by unfold measM; rw [if_neg h, if_pos h1]
theorem measM_open {s : ByteArray} (h : ¬ s.size < 3) (h1 : ¬ bt s 2 = 92) (h2 : quoteB s < 0) : measM s = onePiece := by unfold measM; rw [if_neg h, if_neg h1, if_pos h2]
theorem measM_yes {s : ByteArray} {k : Nat} (h : ¬ s.size < 3) (h1 : ¬ bt s 2 = 92) (h2 : quoteB s = k) : measM s = ⟨119, s.extract 3 (3 + k), 0, 3 + k + 1⟩ := by
  have e : (quoteB s).toNat = k := by omega
  unfold measM
  rw [if_neg h, if_neg h1, if_neg (by omega), e]

set_option maxRecDepth 100000 in
set_option maxHeartbeats 2000000 in
theorem meas_any (s : ByteArray) (hs : s.size ≤ 9223372036854775807) (h2 : 2 ≤ s.size) (w : World) : Calls Tryd.prog 50 #[.string s] w (Makes (pieceV (measM s)) w) := by
  have hgb := get_bt s
  by_cases h : s.size < 3
  · rw [measM_short h]
    go_enter Tryd.func50, Tryd.ntmps50
    go_wp2_with fail
    simp [bodyPost, results, Tryd.results50, go_sem]
    exact ⟨rfl, (Below.refl _ _).alloc (Nat.le_refl _) _⟩
  · have l2 : 2 < s.size := by omega
    have l3 : 3 ≤ s.size := by omega
    by_cases h1 : bt s 2 = 92
    · rw [measM_slash h h1]
      have hb : (bt s 2 == 92) = true := by simpa using h1
      clear h1
      go_enter Tryd.func50, Tryd.ntmps50
      go_wp2_with fail
      simp [bodyPost, results, Tryd.results50, go_sem]
      exact ⟨rfl, (Below.refl _ _).alloc (Nat.le_refl _) _⟩
    · have hb : (bt s 2 == 92) = false := by simpa using h1
      have HI := Lib.hid (Any.strings_IndexByte Tryd.indexL (tail s 3) (bt s 2))
      by_cases hq : quoteB s < 0
      · rw [measM_open h h1 hq]
        obtain ⟨q, hqe⟩ : ∃ q, quoteB s = q := ⟨_, rfl⟩
        rw [hqe] at hq
        unfold quoteB at hqe
        rw [hqe] at HI
        clear h1 hqe
        go_enter Tryd.func50, Tryd.ntmps50
        go_wp2_with fail
        go_quiet ((go_at_call 63; exact Calls.quiet_of_same (HI.out _)))
        go_wp2_with fail
        simp [bodyPost, results, Tryd.results50, go_sem]
        exact ⟨rfl, box_set _ _ _ _ _ _⟩
      · have hlt := quoteB_lt s hq
        obtain ⟨k, hk⟩ : ∃ k : Nat, quoteB s = k := ⟨(quoteB s).toNat, by omega⟩
        rw [measM_yes h h1 hk]
        rw [hk] at hlt
        have hlt : 3 + k < s.size := hlt
        unfold quoteB at hk
        rw [hk] at HI
        clear h1 hk hq
        go_enter Tryd.func50, Tryd.ntmps50
        go_wp2_with fail
        go_quiet ((go_at_call 63; exact Calls.quiet_of_same (HI.out _)))
        go_wp2_with fail
        simp [bodyPost, results, Tryd.results50, go_sem]
        exact ⟨rfl, box_set _ _ _ _ _ _⟩
end Go.Proofs.YtopgbbkndkincaaDoor
