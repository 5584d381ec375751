/- Frames are made, and refused. -/
import Derived.Test.YtkocgedliakclaaDoorSoFrame
namespace Go.Proofs.YtkocgedliakclaaDoor
open Go.RowKit Go.PlainAid Go.Maps Go.Shelf

abbrev zeroFrO : Obj := .cells #[.int .i64 0, .string ⟨#[]⟩, .slice none 0 0, .int .i64 0, .slice none 0 0] 64
theorem zero_new (w : World) : (w.alloc (.cells #[.int .i64 0, .string ⟨#[]⟩, .slice none 0 0, .int .i64 0, .slice none 0 0] 64)).heap[w.heap.size]? = some (.cells #[.int .i64 0, .string ⟨#[]⟩, .slice none 0 0, .int .i64 0, .slice none 0 0] 64 (0, 0)) := heap_alloc_new w _
theorem zero_below (w : World) : Below w.heap.size w (w.alloc (.cells #[.int .i64 0, .string ⟨#[]⟩, .slice none 0 0, .int .i64 0, .slice none 0 0] 64)) := (Below.refl _ _).alloc (Nat.le_refl _) _
theorem zero_size (w : World) : w.heap.size < (w.alloc (.cells #[.int .i64 0, .string ⟨#[]⟩, .slice none 0 0, .int .i64 0, .slice none 0 0] 64)).heap.size := by simp

set_option maxRecDepth 100000 in
set_option maxHeartbeats 4000000 in
theorem waitOf_bad (ao : Option Addr) (c : Nat) (l : List LineC) (w : World) (h : LinesRd (· < w.heap.size) (.slice ao l.length c) l w) (hf : Fit l) (hg : goodC l = false) : Calls Tryd.prog 38 #[.slice ao l.length c] w (NoFrameP w) := by
  have hB0 := zero_below w
  have HR := Lib.hid (zero_new w)
  have h0 := (h.stay (Stay.below hB0 fun _ h => h)).mono fun k hk => Nat.lt_of_lt_of_le hk hB0.size
  have HA := Lib.hid (soAre_any ao c l _ h0 hf)
  rw [hg] at HA
  have HB0 := Lib.hid hB0
  have hwl := zero_size w
  clear h h0 hB0 hg
  go_enter Tryd.func38, Tryd.ntmps38
  go_wp2_with fail
  refine (HA.out).mono ?_
  rintro e w1 ⟨rfl, hb1⟩
  have HB1 := Lib.hid (HB0.out.trans (Below.mono hb1 HB0.out.size))
  have hR1 := (hb1.block _ hwl).trans HR.out
  have HR1 := Lib.hid hR1
  obtain ⟨_, f0, f1, f2, f3, f4⟩ := cells5 hR1
  obtain ⟨⟨r0, r1, r2, r3, r4⟩, _⟩ := cells5 hR1
  clear hb1 HA HR hR1
  go_wp2_with fail
  obtain ⟨hset, hgs⟩ := set5 (c0 := .int .i64 0) (c1 := .string ⟨#[]⟩) (c2 := .slice none 0 0) (c3 := .int .i64 0) (c4 := .slice none 0 0) HR1.out
  exact bodyPost_ret (v := .tuple #[zeroFr, .bool false]) (by simp [results, Tryd.results38, go_sem, (cells5 hset).1]) rfl ⟨rfl, HB1.out.trans (grown_to_below hgs (Nat.le_refl _) HB1.out.size)⟩

set_option maxRecDepth 100000 in
set_option maxHeartbeats 4000000 in
theorem macroOf_name (s : ByteArray) (v u : Value) (w : World) (hs : canB s = false) : Calls Tryd.prog 37 #[.string s, v, u] w (NoFrameP w) := by
  have HB1 := Lib.hid (zero_below w)
  have hR1 := zero_new w
  have HR1 := Lib.hid hR1
  obtain ⟨_, f0, f1, f2, f3, f4⟩ := cells5 hR1
  obtain ⟨⟨r0, r1, r2, r3, r4⟩, _⟩ := cells5 hR1
  have HC := Lib.hid (fun W => soCan_any s W)
  rw [hs] at HC
  clear hR1 hs
  go_enter Tryd.func37, Tryd.ntmps37
  go_wp2_with fail
  refine (HC.out _).mono ?_
  rintro e w1 ⟨rfl, rfl⟩
  go_wp2_with fail
  exact bodyPost_ret (v := .tuple #[zeroFr, .bool false]) (by simp [results, Tryd.results37, go_sem, (cells5 HR1.out).1]) rfl ⟨rfl, HB1.out⟩

set_option maxRecDepth 100000 in
set_option maxHeartbeats 4000000 in
theorem macroOf_bad (s : ByteArray) (ao : Option Addr) (c : Nat) (l : List LineC) (u : Value) (w : World) (h : LinesRd (· < w.heap.size) (.slice ao l.length c) l w) (hf : Fit l) (hs : canB s = true) (hg : goodC l = false) : Calls Tryd.prog 37 #[.string s, .slice ao l.length c, u] w (NoFrameP w) := by
  have hB0 := zero_below w
  have HR := Lib.hid (zero_new w)
  have h0 := (h.stay (Stay.below hB0 fun _ h => h)).mono fun k hk => Nat.lt_of_lt_of_le hk hB0.size
  have HA := Lib.hid (soAre_any ao c l _ h0 hf)
  rw [hg] at HA
  have HB0 := Lib.hid hB0
  have hwl := zero_size w
  have HC := Lib.hid (fun W => soCan_any s W)
  rw [hs] at HC
  clear h h0 hB0 hg hs
  go_enter Tryd.func37, Tryd.ntmps37
  go_wp2_with fail
  refine (HC.out _).mono ?_
  rintro e w1 ⟨rfl, rfl⟩
  go_wp2_with fail
  refine (HA.out).mono ?_
  rintro e w1 ⟨rfl, hb1⟩
  have HB1 := Lib.hid (HB0.out.trans (Below.mono hb1 HB0.out.size))
  have hR1 := (hb1.block _ hwl).trans HR.out
  have HR1 := Lib.hid hR1
  obtain ⟨_, f0, f1, f2, f3, f4⟩ := cells5 hR1
  obtain ⟨⟨r0, r1, r2, r3, r4⟩, _⟩ := cells5 hR1
  clear hb1 HA HR hR1
  go_wp2_with fail
  obtain ⟨hset, hgs⟩ := set5 (c0 := .int .i64 0) (c1 := .string ⟨#[]⟩) (c2 := .slice none 0 0) (c3 := .int .i64 0) (c4 := .slice none 0 0) HR1.out
  exact bodyPost_ret (v := .tuple #[zeroFr, .bool false]) (by simp [results, Tryd.results37, go_sem, (cells5 hset).1]) rfl ⟨rfl, HB1.out.trans (grown_to_below hgs (Nat.le_refl _) HB1.out.size)⟩

set_option maxRecDepth 100000 in
set_option maxHeartbeats 4000000 in
theorem macroOf_ok (s : ByteArray) (ao : Option Addr) (c : Nat) (l : List LineC) (aa : Option Addr) (ac : Nat) (xs : List ByteArray) (w : World) (h : LinesRd (· < w.heap.size) (.slice ao l.length c) l w) (hf : Fit l) (ha : StrsRd (· < w.heap.size) (.slice aa xs.length ac) xs w) (hal : xs.length * 16 ≤ 140737488355328)
    (hs : canB s = true) (hg : goodC l = true) : Calls Tryd.prog 37 #[.string s, .slice ao l.length c, .slice aa xs.length ac] w (FrameP 2 s l xs w) := by
  have hB0 := zero_below w
  have HR := Lib.hid (zero_new w)
  have h0 := (h.stay (Stay.below hB0 fun _ h => h)).mono fun k hk => Nat.lt_of_lt_of_le hk hB0.size
  have HA := Lib.hid (soAre_any ao c l _ h0 hf)
  rw [hg] at HA
  have HL := Lib.hid h0
  have HAS := Lib.hid ha
  have HB0 := Lib.hid hB0
  have hwl := zero_size w
  have HC := Lib.hid (fun W => soCan_any s W)
  rw [hs] at HC
  clear h h0 hB0 hg hs ha
  go_enter Tryd.func37, Tryd.ntmps37
  go_wp2_with fail
  refine (HC.out _).mono ?_
  rintro e w1 ⟨rfl, rfl⟩
  go_wp2_with fail
  refine (HA.out).mono ?_
  rintro e w1 ⟨rfl, hb1⟩
  have HCo := Lib.hid (soCopied_any ao c l w1 ((HL.out.stay (Stay.below hb1 fun _ h => h)).mono fun k hk => Nat.lt_of_lt_of_le hk hb1.size) hf)
  have HB1 := Lib.hid (HB0.out.trans (Below.mono hb1 HB0.out.size))
  have HR1 := Lib.hid ((hb1.block _ hwl).trans HR.out)
  have hs1 := hb1.size
  clear hb1 HA HR HC
  go_wp2_with fail
  refine (HCo.out).mono ?_
  rintro e w2 ⟨v2, rfl, hb2, hO2⟩
  obtain ⟨la, lc, rfl⟩ := hO2.form
  have HO2 := Lib.hid (hO2.rd (show l.length ≤ maxLen by have := hf.lines; unfold maxLen; omega))
  have HB2 := Lib.hid (HB1.out.trans (Below.mono hb2 HB1.out.size))
  have HR2 := Lib.hid ((hb2.block w.heap.size (by simp at hs1; omega)).trans HR1.out)
  have hs2 : w.heap.size < w1.heap.size := by simp at hs1; omega
  have hs3 := hb2.size
  have ha2 := HAS.out.stay (Stay.below HB2.out fun _ h => h)
  have hcs := clone_strs aa xs.length ac w2 (by unfold maxLen; omega) hal (strs_cells ha2)
  have HCS := Lib.hid hcs
  have HA2 := Lib.hid ha2
  clear hb2 hO2 HCo hs1 hcs ha2
  go_wp2_with fail
  refine (HCS.out).mono ?_
  rintro e w3 ⟨v3, rfl, hb3, hc3⟩
  have hS3 := cloned_strs HA2.out hc3
  obtain ⟨za, zc, rfl⟩ : ∃ za zc, v3 = .slice za xs.length zc := by obtain ⟨_, _, rfl, _⟩ := hS3; exact ⟨_, _, rfl⟩
  have hR3 := (hb3.block w.heap.size (by omega)).trans HR2.out
  have HR3 := Lib.hid hR3
  have HO3 := Lib.hid (HO2.out.under hb3)
  have HS3 := Lib.hid hS3
  have HB3 := Lib.hid (HB2.out.trans (Below.mono hb3 HB2.out.size))
  obtain ⟨_, f0, f1, f2, f3, f4⟩ := cells5 hR3
  obtain ⟨⟨r0, r1, r2, r3, r4⟩, _⟩ := cells5 hR3
  clear hb3 hc3 hS3 hR3 HCS
  go_wp2_with fail
  obtain ⟨hset, hgs⟩ := set5 (c0 := .int .i64 2) (c1 := .string s) (c2 := .slice la l.length lc) (c3 := .int .i64 0) (c4 := .slice za xs.length zc) HR3.out
  refine bodyPost_ret (v := .tuple #[.agg #[.int .i64 2, .string s, .slice la l.length lc, .int .i64 0, .slice za xs.length zc], .bool true]) (by simp [results, Tryd.results37, go_sem, (cells5 hset).1]) rfl ⟨la, lc, za, zc, rfl, HB3.out.trans (grown_to_below hgs (Nat.le_refl _) HB3.out.size), ?_, ?_⟩
  · exact (HO3.out.both'.stay fun k off hk => by
      have h1 : k ≠ w.heap.size := by have := hk.1; omega
      simp [World.cell?, hgs.block k hk.2 (by simpa using h1)]).mono fun k hk => by have := hk.1; omega
  · exact (HS3.out.both.stay fun k off hk => by
      have h1 : k ≠ w.heap.size := by have := hk.1; omega
      simp [World.cell?, hgs.block k hk.2 (by simpa using h1)]).mono fun k hk => by have := hk.1; omega

end Go.Proofs.YtkocgedliakclaaDoor
