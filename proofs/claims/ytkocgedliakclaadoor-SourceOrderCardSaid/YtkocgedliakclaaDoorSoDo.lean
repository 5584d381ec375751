/- A deed with a stack that is none. -/
import Derived.Test.YtkocgedliakclaaDoorSoNil
namespace Go.Proofs.YtkocgedliakclaaDoor
open Go.RowKit Go.PlainAid Go.Maps Go.Shelf

theorem LinesRd.lift {v : Value} {l : List LineC} {w w' : World} (h : LinesRd (· < w.heap.size) v l w) (hb : Below w.heap.size w w') : LinesRd (· < w'.heap.size) v l w' :=
  (h.stay (Stay.below hb fun _ h => h)).mono fun _ hk => Nat.lt_of_lt_of_le hk hb.size
theorem StrsRd.lift {v : Value} {l : List ByteArray} {w w' : World} (h : StrsRd (· < w.heap.size) v l w) (hb : Below w.heap.size w w') : StrsRd (· < w'.heap.size) v l w' :=
  (h.stay (Stay.below hb fun _ h => h)).mono fun _ hk => Nat.lt_of_lt_of_le hk hb.size
theorem Makes.of_says {v : Value} {w : World} {e : Ending} {w' : World} (h : Says v w e w') : Makes v w e w' := by
  obtain ⟨rfl, rfl⟩ := h
  exact ⟨rfl, Below.refl _ _⟩

section
variable {p : Option Addr} {w : World}
set_option maxRecDepth 100000 in
set_option maxHeartbeats 4000000 in
theorem do_nil0 (h : NoneSk p w) (s t : ByteArray) (ht : t.size ≤ 100000) (ao : Option Addr) (c : Nat) (l : List LineC) (aa : Option Addr) (ac : Nat) (xs : List ByteArray) (hr : LinesRd (· < w.heap.size) (.slice ao l.length c) l w) (hf : Fit l) (ha : StrsRd (· < w.heap.size) (.slice aa xs.length ac) xs w) (hal : xs.length * 16 ≤ 140737488355328) (z : Int) :
    Calls Tryd.prog 9 #[.pointer p, .agg #[.int .i64 0, .string s, .string t, .slice ao l.length c, .slice aa xs.length ac, .int .i64 z]] w (Makes (.tuple #[zeroLn, .int .i64 1]) w) := by
  have HH := Lib.hid h
  have hb : Below w.heap.size w ((w.alloc (.cells #[.int .i64 0, .string s, .string t, .slice ao l.length c, .slice aa xs.length ac, .int .i64 z] 25)).alloc (.cells #[.string ⟨#[]⟩, .bool false, .int .i64 0, .int .i64 0, .slice none 0 0] 37)) := ((Below.refl _ _).alloc (Nat.le_refl _) _).alloc (by simp) _
  have HC := Lib.hid (file_nil (HH.out.below hb) s t ht)
  have HR := Lib.hid (show ((w.alloc (.cells #[.int .i64 0, .string s, .string t, .slice ao l.length c, .slice aa xs.length ac, .int .i64 z] 25)).alloc (.cells #[.string ⟨#[]⟩, .bool false, .int .i64 0, .int .i64 0, .slice none 0 0] 37)).heap[w.heap.size + 1]? = some (.cells #[.string ⟨#[]⟩, .bool false, .int .i64 0, .int .i64 0, .slice none 0 0] 37 (0, 0)) by
    have := heap_alloc_new (w.alloc (.cells #[.int .i64 0, .string s, .string t, .slice ao l.length c, .slice aa xs.length ac, .int .i64 z] 25)) (.cells #[.string ⟨#[]⟩, .bool false, .int .i64 0, .int .i64 0, .slice none 0 0] 37)
    rwa [World.size_alloc] at this)
  have HB := Lib.hid hb
  clear h hb hr hf ha hal HH
  go_enter Tryd.func9, Tryd.ntmps9
  go_wp2_with fail
  refine (HC.out).mono ?_
  rintro e w2 ⟨rfl, hb2⟩
  have HR2 := Lib.hid ((hb2.block (w.heap.size + 1) (by simp)).trans HR.out)
  have HB2 := Lib.hid (HB.out.trans (Below.mono hb2 HB.out.size))
  clear hb2 HC HR
  obtain ⟨⟨r0, r1, r2, r3, r4⟩, f0, f1, f2, f3, f4⟩ := cells5 HR2.out
  go_wp2_with fail
  obtain ⟨hset, hgs⟩ := set5 (c0 := .string ⟨#[]⟩) (c1 := .bool false) (c2 := .int .i64 0) (c3 := .int .i64 0) (c4 := .slice none 0 0) HR2.out
  exact bodyPost_ret (v := .tuple #[zeroLn, .int .i64 1]) (by simp [results, Tryd.results9, go_sem, (cells5 hset).1]) rfl ⟨rfl, HB2.out.trans (grown_to_below hgs (by omega) HB2.out.size)⟩
set_option maxRecDepth 100000 in
set_option maxHeartbeats 4000000 in
theorem do_nil1 (h : NoneSk p w) (s t : ByteArray) (ht : t.size ≤ 100000) (ao : Option Addr) (c : Nat) (l : List LineC) (aa : Option Addr) (ac : Nat) (xs : List ByteArray) (hr : LinesRd (· < w.heap.size) (.slice ao l.length c) l w) (hf : Fit l) (ha : StrsRd (· < w.heap.size) (.slice aa xs.length ac) xs w) (hal : xs.length * 16 ≤ 140737488355328) (z : Int) :
    Calls Tryd.prog 9 #[.pointer p, .agg #[.int .i64 1, .string s, .string t, .slice ao l.length c, .slice aa xs.length ac, .int .i64 z]] w (Makes (.tuple #[zeroLn, .int .i64 1]) w) := by
  have HH := Lib.hid h
  have hb : Below w.heap.size w ((w.alloc (.cells #[.int .i64 1, .string s, .string t, .slice ao l.length c, .slice aa xs.length ac, .int .i64 z] 25)).alloc (.cells #[.string ⟨#[]⟩, .bool false, .int .i64 0, .int .i64 0, .slice none 0 0] 37)) := ((Below.refl _ _).alloc (Nat.le_refl _) _).alloc (by simp) _
  have HC := Lib.hid (macro_nil (HH.out.below hb) s ao c l aa ac xs (hr.lift hb) hf (ha.lift hb) hal)
  have HR := Lib.hid (show ((w.alloc (.cells #[.int .i64 1, .string s, .string t, .slice ao l.length c, .slice aa xs.length ac, .int .i64 z] 25)).alloc (.cells #[.string ⟨#[]⟩, .bool false, .int .i64 0, .int .i64 0, .slice none 0 0] 37)).heap[w.heap.size + 1]? = some (.cells #[.string ⟨#[]⟩, .bool false, .int .i64 0, .int .i64 0, .slice none 0 0] 37 (0, 0)) by
    have := heap_alloc_new (w.alloc (.cells #[.int .i64 1, .string s, .string t, .slice ao l.length c, .slice aa xs.length ac, .int .i64 z] 25)) (.cells #[.string ⟨#[]⟩, .bool false, .int .i64 0, .int .i64 0, .slice none 0 0] 37)
    rwa [World.size_alloc] at this)
  have HB := Lib.hid hb
  clear h hb hr hf ha hal HH
  go_enter Tryd.func9, Tryd.ntmps9
  go_wp2_with fail
  refine (HC.out).mono ?_
  rintro e w2 ⟨rfl, hb2⟩
  have HR2 := Lib.hid ((hb2.block (w.heap.size + 1) (by simp)).trans HR.out)
  have HB2 := Lib.hid (HB.out.trans (Below.mono hb2 HB.out.size))
  clear hb2 HC HR
  obtain ⟨⟨r0, r1, r2, r3, r4⟩, f0, f1, f2, f3, f4⟩ := cells5 HR2.out
  go_wp2_with fail
  obtain ⟨hset, hgs⟩ := set5 (c0 := .string ⟨#[]⟩) (c1 := .bool false) (c2 := .int .i64 0) (c3 := .int .i64 0) (c4 := .slice none 0 0) HR2.out
  exact bodyPost_ret (v := .tuple #[zeroLn, .int .i64 1]) (by simp [results, Tryd.results9, go_sem, (cells5 hset).1]) rfl ⟨rfl, HB2.out.trans (grown_to_below hgs (by omega) HB2.out.size)⟩
set_option maxRecDepth 100000 in
set_option maxHeartbeats 4000000 in
theorem do_nil2 (h : NoneSk p w) (s t : ByteArray) (ht : t.size ≤ 100000) (ao : Option Addr) (c : Nat) (l : List LineC) (aa : Option Addr) (ac : Nat) (xs : List ByteArray) (hr : LinesRd (· < w.heap.size) (.slice ao l.length c) l w) (hf : Fit l) (ha : StrsRd (· < w.heap.size) (.slice aa xs.length ac) xs w) (hal : xs.length * 16 ≤ 140737488355328) (z : Int) :
    Calls Tryd.prog 9 #[.pointer p, .agg #[.int .i64 2, .string s, .string t, .slice ao l.length c, .slice aa xs.length ac, .int .i64 z]] w (Makes (.tuple #[zeroLn, .int .i64 1]) w) := by
  have HH := Lib.hid h
  have hb : Below w.heap.size w ((w.alloc (.cells #[.int .i64 2, .string s, .string t, .slice ao l.length c, .slice aa xs.length ac, .int .i64 z] 25)).alloc (.cells #[.string ⟨#[]⟩, .bool false, .int .i64 0, .int .i64 0, .slice none 0 0] 37)) := ((Below.refl _ _).alloc (Nat.le_refl _) _).alloc (by simp) _
  have HC := Lib.hid (wait_nil (HH.out.below hb) ao c l (hr.lift hb) hf)
  have HR := Lib.hid (show ((w.alloc (.cells #[.int .i64 2, .string s, .string t, .slice ao l.length c, .slice aa xs.length ac, .int .i64 z] 25)).alloc (.cells #[.string ⟨#[]⟩, .bool false, .int .i64 0, .int .i64 0, .slice none 0 0] 37)).heap[w.heap.size + 1]? = some (.cells #[.string ⟨#[]⟩, .bool false, .int .i64 0, .int .i64 0, .slice none 0 0] 37 (0, 0)) by
    have := heap_alloc_new (w.alloc (.cells #[.int .i64 2, .string s, .string t, .slice ao l.length c, .slice aa xs.length ac, .int .i64 z] 25)) (.cells #[.string ⟨#[]⟩, .bool false, .int .i64 0, .int .i64 0, .slice none 0 0] 37)
    rwa [World.size_alloc] at this)
  have HB := Lib.hid hb
  clear h hb hr hf ha hal HH
  go_enter Tryd.func9, Tryd.ntmps9
  go_wp2_with fail
  refine (HC.out).mono ?_
  rintro e w2 ⟨rfl, hb2⟩
  have HR2 := Lib.hid ((hb2.block (w.heap.size + 1) (by simp)).trans HR.out)
  have HB2 := Lib.hid (HB.out.trans (Below.mono hb2 HB.out.size))
  clear hb2 HC HR
  obtain ⟨⟨r0, r1, r2, r3, r4⟩, f0, f1, f2, f3, f4⟩ := cells5 HR2.out
  go_wp2_with fail
  obtain ⟨hset, hgs⟩ := set5 (c0 := .string ⟨#[]⟩) (c1 := .bool false) (c2 := .int .i64 0) (c3 := .int .i64 0) (c4 := .slice none 0 0) HR2.out
  exact bodyPost_ret (v := .tuple #[zeroLn, .int .i64 1]) (by simp [results, Tryd.results9, go_sem, (cells5 hset).1]) rfl ⟨rfl, HB2.out.trans (grown_to_below hgs (by omega) HB2.out.size)⟩
set_option maxRecDepth 100000 in
set_option maxHeartbeats 4000000 in
theorem do_nil3 (h : NoneSk p w) (s t : ByteArray) (ht : t.size ≤ 100000) (ao : Option Addr) (c : Nat) (l : List LineC) (aa : Option Addr) (ac : Nat) (xs : List ByteArray) (hr : LinesRd (· < w.heap.size) (.slice ao l.length c) l w) (hf : Fit l) (ha : StrsRd (· < w.heap.size) (.slice aa xs.length ac) xs w) (hal : xs.length * 16 ≤ 140737488355328) (z : Int) :
    Calls Tryd.prog 9 #[.pointer p, .agg #[.int .i64 3, .string s, .string t, .slice ao l.length c, .slice aa xs.length ac, .int .i64 z]] w (Makes (.tuple #[zeroLn, .int .i64 1]) w) := by
  have HH := Lib.hid h
  have hb : Below w.heap.size w ((w.alloc (.cells #[.int .i64 3, .string s, .string t, .slice ao l.length c, .slice aa xs.length ac, .int .i64 z] 25)).alloc (.cells #[.string ⟨#[]⟩, .bool false, .int .i64 0, .int .i64 0, .slice none 0 0] 37)) := ((Below.refl _ _).alloc (Nat.le_refl _) _).alloc (by simp) _
  have HC := Lib.hid (next_nil (HH.out.below hb))
  have HR := Lib.hid (show ((w.alloc (.cells #[.int .i64 3, .string s, .string t, .slice ao l.length c, .slice aa xs.length ac, .int .i64 z] 25)).alloc (.cells #[.string ⟨#[]⟩, .bool false, .int .i64 0, .int .i64 0, .slice none 0 0] 37)).heap[w.heap.size + 1]? = some (.cells #[.string ⟨#[]⟩, .bool false, .int .i64 0, .int .i64 0, .slice none 0 0] 37 (0, 0)) by
    have := heap_alloc_new (w.alloc (.cells #[.int .i64 3, .string s, .string t, .slice ao l.length c, .slice aa xs.length ac, .int .i64 z] 25)) (.cells #[.string ⟨#[]⟩, .bool false, .int .i64 0, .int .i64 0, .slice none 0 0] 37)
    rwa [World.size_alloc] at this)
  have HB := Lib.hid hb
  clear h hb hr hf ha hal HH
  go_enter Tryd.func9, Tryd.ntmps9
  go_wp2_with fail
  refine (HC.out).mono ?_
  rintro e w2 ⟨rfl, hb2⟩
  have HR2 := Lib.hid ((hb2.block (w.heap.size + 1) (by simp)).trans HR.out)
  have HB2 := Lib.hid (HB.out.trans (Below.mono hb2 HB.out.size))
  clear hb2 HC HR
  obtain ⟨⟨r0, r1, r2, r3, r4⟩, f0, f1, f2, f3, f4⟩ := cells5 HR2.out
  go_wp2_with fail
  obtain ⟨hset, hgs⟩ := set5 (c0 := .string ⟨#[]⟩) (c1 := .bool false) (c2 := .int .i64 0) (c3 := .int .i64 0) (c4 := .slice none 0 0) HR2.out
  exact bodyPost_ret (v := .tuple #[zeroLn, .int .i64 1]) (by simp [results, Tryd.results9, go_sem, (cells5 hset).1]) rfl ⟨rfl, HB2.out.trans (grown_to_below hgs (by omega) HB2.out.size)⟩
set_option maxRecDepth 100000 in
set_option maxHeartbeats 4000000 in
theorem do_nil4 (h : NoneSk p w) (s t : ByteArray) (ht : t.size ≤ 100000) (ao : Option Addr) (c : Nat) (l : List LineC) (aa : Option Addr) (ac : Nat) (xs : List ByteArray) (hr : LinesRd (· < w.heap.size) (.slice ao l.length c) l w) (hf : Fit l) (ha : StrsRd (· < w.heap.size) (.slice aa xs.length ac) xs w) (hal : xs.length * 16 ≤ 140737488355328) (z : Int) :
    Calls Tryd.prog 9 #[.pointer p, .agg #[.int .i64 4, .string s, .string t, .slice ao l.length c, .slice aa xs.length ac, .int .i64 z]] w (Makes (.tuple #[zeroLn, .int .i64 1]) w) := by
  have HH := Lib.hid h
  have hb : Below w.heap.size w ((w.alloc (.cells #[.int .i64 4, .string s, .string t, .slice ao l.length c, .slice aa xs.length ac, .int .i64 z] 25)).alloc (.cells #[.string ⟨#[]⟩, .bool false, .int .i64 0, .int .i64 0, .slice none 0 0] 37)) := ((Below.refl _ _).alloc (Nat.le_refl _) _).alloc (by simp) _
  have HC := Lib.hid (peek_nil (HH.out.below hb))
  have HR := Lib.hid (show ((w.alloc (.cells #[.int .i64 4, .string s, .string t, .slice ao l.length c, .slice aa xs.length ac, .int .i64 z] 25)).alloc (.cells #[.string ⟨#[]⟩, .bool false, .int .i64 0, .int .i64 0, .slice none 0 0] 37)).heap[w.heap.size + 1]? = some (.cells #[.string ⟨#[]⟩, .bool false, .int .i64 0, .int .i64 0, .slice none 0 0] 37 (0, 0)) by
    have := heap_alloc_new (w.alloc (.cells #[.int .i64 4, .string s, .string t, .slice ao l.length c, .slice aa xs.length ac, .int .i64 z] 25)) (.cells #[.string ⟨#[]⟩, .bool false, .int .i64 0, .int .i64 0, .slice none 0 0] 37)
    rwa [World.size_alloc] at this)
  have HB := Lib.hid hb
  clear h hb hr hf ha hal HH
  go_enter Tryd.func9, Tryd.ntmps9
  go_wp2_with fail
  refine (HC.out).mono ?_
  rintro e w2 ⟨rfl, hb2⟩
  have HR2 := Lib.hid ((hb2.block (w.heap.size + 1) (by simp)).trans HR.out)
  have HB2 := Lib.hid (HB.out.trans (Below.mono hb2 HB.out.size))
  clear hb2 HC HR
  obtain ⟨⟨r0, r1, r2, r3, r4⟩, f0, f1, f2, f3, f4⟩ := cells5 HR2.out
  go_wp2_with fail
  obtain ⟨hset, hgs⟩ := set5 (c0 := .string ⟨#[]⟩) (c1 := .bool false) (c2 := .int .i64 0) (c3 := .int .i64 0) (c4 := .slice none 0 0) HR2.out
  exact bodyPost_ret (v := .tuple #[zeroLn, .int .i64 1]) (by simp [results, Tryd.results9, go_sem, (cells5 hset).1]) rfl ⟨rfl, HB2.out.trans (grown_to_below hgs (by omega) HB2.out.size)⟩
set_option maxRecDepth 100000 in
set_option maxHeartbeats 4000000 in
theorem do_nil5 (h : NoneSk p w) (s t : ByteArray) (ht : t.size ≤ 100000) (ao : Option Addr) (c : Nat) (l : List LineC) (aa : Option Addr) (ac : Nat) (xs : List ByteArray) (hr : LinesRd (· < w.heap.size) (.slice ao l.length c) l w) (hf : Fit l) (ha : StrsRd (· < w.heap.size) (.slice aa xs.length ac) xs w) (hal : xs.length * 16 ≤ 140737488355328) (z : Int) :
    Calls Tryd.prog 9 #[.pointer p, .agg #[.int .i64 5, .string s, .string t, .slice ao l.length c, .slice aa xs.length ac, .int .i64 z]] w (Makes (.tuple #[zeroLn, .int .i64 1]) w) := by
  have HH := Lib.hid h
  have hb : Below w.heap.size w ((w.alloc (.cells #[.int .i64 5, .string s, .string t, .slice ao l.length c, .slice aa xs.length ac, .int .i64 z] 25)).alloc (.cells #[.string ⟨#[]⟩, .bool false, .int .i64 0, .int .i64 0, .slice none 0 0] 37)) := ((Below.refl _ _).alloc (Nat.le_refl _) _).alloc (by simp) _
  have HC := Lib.hid (fun q => (return_nil (HH.out.below hb) q).mono fun _ _ h => Makes.of_says h)
  have HR := Lib.hid (show ((w.alloc (.cells #[.int .i64 5, .string s, .string t, .slice ao l.length c, .slice aa xs.length ac, .int .i64 z] 25)).alloc (.cells #[.string ⟨#[]⟩, .bool false, .int .i64 0, .int .i64 0, .slice none 0 0] 37)).heap[w.heap.size + 1]? = some (.cells #[.string ⟨#[]⟩, .bool false, .int .i64 0, .int .i64 0, .slice none 0 0] 37 (0, 0)) by
    have := heap_alloc_new (w.alloc (.cells #[.int .i64 5, .string s, .string t, .slice ao l.length c, .slice aa xs.length ac, .int .i64 z] 25)) (.cells #[.string ⟨#[]⟩, .bool false, .int .i64 0, .int .i64 0, .slice none 0 0] 37)
    rwa [World.size_alloc] at this)
  have HB := Lib.hid hb
  clear h hb hr hf ha hal HH
  go_enter Tryd.func9, Tryd.ntmps9
  go_wp2_with fail
  refine (HC.out _).mono ?_
  rintro e w2 ⟨rfl, hb2⟩
  have HR2 := Lib.hid ((hb2.block (w.heap.size + 1) (by simp)).trans HR.out)
  have HB2 := Lib.hid (HB.out.trans (Below.mono hb2 HB.out.size))
  clear hb2 HC HR
  obtain ⟨⟨r0, r1, r2, r3, r4⟩, f0, f1, f2, f3, f4⟩ := cells5 HR2.out
  go_wp2_with fail
  obtain ⟨hset, hgs⟩ := set5 (c0 := .string ⟨#[]⟩) (c1 := .bool false) (c2 := .int .i64 0) (c3 := .int .i64 0) (c4 := .slice none 0 0) HR2.out
  exact bodyPost_ret (v := .tuple #[zeroLn, .int .i64 1]) (by simp [results, Tryd.results9, go_sem, (cells5 hset).1]) rfl ⟨rfl, HB2.out.trans (grown_to_below hgs (by omega) HB2.out.size)⟩
set_option maxRecDepth 100000 in
set_option maxHeartbeats 4000000 in
theorem do_nil6 (h : NoneSk p w) (s t : ByteArray) (ht : t.size ≤ 100000) (ao : Option Addr) (c : Nat) (l : List LineC) (aa : Option Addr) (ac : Nat) (xs : List ByteArray) (hr : LinesRd (· < w.heap.size) (.slice ao l.length c) l w) (hf : Fit l) (ha : StrsRd (· < w.heap.size) (.slice aa xs.length ac) xs w) (hal : xs.length * 16 ≤ 140737488355328) (z : Int) :
    Calls Tryd.prog 9 #[.pointer p, .agg #[.int .i64 6, .string s, .string t, .slice ao l.length c, .slice aa xs.length ac, .int .i64 z]] w (Makes (.tuple #[zeroLn, .int .i64 1]) w) := by
  have HH := Lib.hid h
  have hb : Below w.heap.size w ((w.alloc (.cells #[.int .i64 6, .string s, .string t, .slice ao l.length c, .slice aa xs.length ac, .int .i64 z] 25)).alloc (.cells #[.string ⟨#[]⟩, .bool false, .int .i64 0, .int .i64 0, .slice none 0 0] 37)) := ((Below.refl _ _).alloc (Nat.le_refl _) _).alloc (by simp) _
  have HC := Lib.hid (instead_nil (HH.out.below hb) s t ht)
  have HR := Lib.hid (show ((w.alloc (.cells #[.int .i64 6, .string s, .string t, .slice ao l.length c, .slice aa xs.length ac, .int .i64 z] 25)).alloc (.cells #[.string ⟨#[]⟩, .bool false, .int .i64 0, .int .i64 0, .slice none 0 0] 37)).heap[w.heap.size + 1]? = some (.cells #[.string ⟨#[]⟩, .bool false, .int .i64 0, .int .i64 0, .slice none 0 0] 37 (0, 0)) by
    have := heap_alloc_new (w.alloc (.cells #[.int .i64 6, .string s, .string t, .slice ao l.length c, .slice aa xs.length ac, .int .i64 z] 25)) (.cells #[.string ⟨#[]⟩, .bool false, .int .i64 0, .int .i64 0, .slice none 0 0] 37)
    rwa [World.size_alloc] at this)
  have HB := Lib.hid hb
  clear h hb hr hf ha hal HH
  go_enter Tryd.func9, Tryd.ntmps9
  go_wp2_with fail
  refine (HC.out).mono ?_
  rintro e w2 ⟨rfl, hb2⟩
  have HR2 := Lib.hid ((hb2.block (w.heap.size + 1) (by simp)).trans HR.out)
  have HB2 := Lib.hid (HB.out.trans (Below.mono hb2 HB.out.size))
  clear hb2 HC HR
  obtain ⟨⟨r0, r1, r2, r3, r4⟩, f0, f1, f2, f3, f4⟩ := cells5 HR2.out
  go_wp2_with fail
  obtain ⟨hset, hgs⟩ := set5 (c0 := .string ⟨#[]⟩) (c1 := .bool false) (c2 := .int .i64 0) (c3 := .int .i64 0) (c4 := .slice none 0 0) HR2.out
  exact bodyPost_ret (v := .tuple #[zeroLn, .int .i64 1]) (by simp [results, Tryd.results9, go_sem, (cells5 hset).1]) rfl ⟨rfl, HB2.out.trans (grown_to_below hgs (by omega) HB2.out.size)⟩
set_option maxRecDepth 100000 in
set_option maxHeartbeats 4000000 in
theorem do_nil7 (h : NoneSk p w) (s t : ByteArray) (ht : t.size ≤ 100000) (ao : Option Addr) (c : Nat) (l : List LineC) (aa : Option Addr) (ac : Nat) (xs : List ByteArray) (hr : LinesRd (· < w.heap.size) (.slice ao l.length c) l w) (hf : Fit l) (ha : StrsRd (· < w.heap.size) (.slice aa xs.length ac) xs w) (hal : xs.length * 16 ≤ 140737488355328) (z : Int) :
    Calls Tryd.prog 9 #[.pointer p, .agg #[.int .i64 7, .string s, .string t, .slice ao l.length c, .slice aa xs.length ac, .int .i64 z]] w (Makes (.tuple #[zeroLn, .int .i64 1]) w) := by
  have HH := Lib.hid h
  have hb : Below w.heap.size w ((w.alloc (.cells #[.int .i64 7, .string s, .string t, .slice ao l.length c, .slice aa xs.length ac, .int .i64 z] 25)).alloc (.cells #[.string ⟨#[]⟩, .bool false, .int .i64 0, .int .i64 0, .slice none 0 0] 37)) := ((Below.refl _ _).alloc (Nat.le_refl _) _).alloc (by simp) _
  have HC := Lib.hid ((shift_nil (HH.out.below hb) z).mono fun _ _ h => Makes.of_says h)
  have HR := Lib.hid (show ((w.alloc (.cells #[.int .i64 7, .string s, .string t, .slice ao l.length c, .slice aa xs.length ac, .int .i64 z] 25)).alloc (.cells #[.string ⟨#[]⟩, .bool false, .int .i64 0, .int .i64 0, .slice none 0 0] 37)).heap[w.heap.size + 1]? = some (.cells #[.string ⟨#[]⟩, .bool false, .int .i64 0, .int .i64 0, .slice none 0 0] 37 (0, 0)) by
    have := heap_alloc_new (w.alloc (.cells #[.int .i64 7, .string s, .string t, .slice ao l.length c, .slice aa xs.length ac, .int .i64 z] 25)) (.cells #[.string ⟨#[]⟩, .bool false, .int .i64 0, .int .i64 0, .slice none 0 0] 37)
    rwa [World.size_alloc] at this)
  have HB := Lib.hid hb
  clear h hb hr hf ha hal HH
  go_enter Tryd.func9, Tryd.ntmps9
  go_wp2_with fail
  refine (HC.out).mono ?_
  rintro e w2 ⟨rfl, hb2⟩
  have HR2 := Lib.hid ((hb2.block (w.heap.size + 1) (by simp)).trans HR.out)
  have HB2 := Lib.hid (HB.out.trans (Below.mono hb2 HB.out.size))
  clear hb2 HC HR
  obtain ⟨⟨r0, r1, r2, r3, r4⟩, f0, f1, f2, f3, f4⟩ := cells5 HR2.out
  go_wp2_with fail
  obtain ⟨hset, hgs⟩ := set5 (c0 := .string ⟨#[]⟩) (c1 := .bool false) (c2 := .int .i64 0) (c3 := .int .i64 0) (c4 := .slice none 0 0) HR2.out
  exact bodyPost_ret (v := .tuple #[zeroLn, .int .i64 1]) (by simp [results, Tryd.results9, go_sem, (cells5 hset).1]) rfl ⟨rfl, HB2.out.trans (grown_to_below hgs (by omega) HB2.out.size)⟩
theorem do_nil (h : NoneSk p w) (k : Int) (hk : 0 ≤ k ∧ k ≤ 7) (s t : ByteArray) (ht : t.size ≤ 100000) (ao : Option Addr) (c : Nat) (l : List LineC) (aa : Option Addr) (ac : Nat) (xs : List ByteArray) (hr : LinesRd (· < w.heap.size) (.slice ao l.length c) l w) (hf : Fit l) (ha : StrsRd (· < w.heap.size) (.slice aa xs.length ac) xs w) (hal : xs.length * 16 ≤ 140737488355328) (z : Int) :
    Calls Tryd.prog 9 #[.pointer p, .agg #[.int .i64 k, .string s, .string t, .slice ao l.length c, .slice aa xs.length ac, .int .i64 z]] w (Makes (.tuple #[zeroLn, .int .i64 1]) w) := by
  have hk : k = 0 ∨ k = 1 ∨ k = 2 ∨ k = 3 ∨ k = 4 ∨ k = 5 ∨ k = 6 ∨ k = 7 := by omega
  rcases hk with rfl | rfl | rfl | rfl | rfl | rfl | rfl | rfl
  · exact do_nil0 h s t ht ao c l aa ac xs hr hf ha hal z
  · exact do_nil1 h s t ht ao c l aa ac xs hr hf ha hal z
  · exact do_nil2 h s t ht ao c l aa ac xs hr hf ha hal z
  · exact do_nil3 h s t ht ao c l aa ac xs hr hf ha hal z
  · exact do_nil4 h s t ht ao c l aa ac xs hr hf ha hal z
  · exact do_nil5 h s t ht ao c l aa ac xs hr hf ha hal z
  · exact do_nil6 h s t ht ao c l aa ac xs hr hf ha hal z
  · exact do_nil7 h s t ht ao c l aa ac xs hr hf ha hal z
end
end Go.Proofs.YtkocgedliakclaaDoor
