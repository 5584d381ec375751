/- Files are made, and refused. -/
import Derived.Test.YtkocgedliakclaaDoorSoFrame2
namespace Go.Proofs.YtkocgedliakclaaDoor
open Go.RowKit Go.PlainAid Go.Maps Go.Shelf

set_option maxRecDepth 100000 in
set_option maxHeartbeats 4000000 in
theorem fileOf_name (s t : ByteArray) (w : World) (hs : canB s = false) : Calls Tryd.prog 43 #[.string s, .string t] w (NoFrameP w) := by
  have HB1 := Lib.hid (zero_below w)
  have hR1 := zero_new w
  have HR1 := Lib.hid hR1
  obtain ⟨_, f0, f1, f2, f3, f4⟩ := cells5 hR1
  obtain ⟨⟨r0, r1, r2, r3, r4⟩, _⟩ := cells5 hR1
  have HC := Lib.hid (fun W => soCan_any s W)
  rw [hs] at HC
  clear hR1 hs
  go_enter Tryd.func43, Tryd.ntmps43
  go_wp2_with fail
  refine (HC.out _).mono ?_
  rintro e w1 ⟨rfl, rfl⟩
  go_wp2_with fail
  exact bodyPost_ret (v := .tuple #[zeroFr, .bool false]) (by simp [results, Tryd.results43, go_sem, (cells5 HR1.out).1]) rfl ⟨rfl, HB1.out⟩

set_option maxRecDepth 100000 in
set_option maxHeartbeats 4000000 in
theorem fileOf_many (s t : ByteArray) (w : World) (hs : canB s = true) (hc : 20000 < Lib.countB t nlB) : Calls Tryd.prog 43 #[.string s, .string t] w (NoFrameP w) := by
  have HB1 := Lib.hid (zero_below w)
  have hR1 := zero_new w
  have HR1 := Lib.hid hR1
  obtain ⟨_, f0, f1, f2, f3, f4⟩ := cells5 hR1
  obtain ⟨⟨r0, r1, r2, r3, r4⟩, _⟩ := cells5 hR1
  have HC := Lib.hid (fun W => soCan_any s W)
  rw [hs] at HC
  have HN := Lib.hid (fun W => count_nl t W)
  have hz : (20000 : Int) < (Lib.countB t nlB : Int) := by omega
  clear hR1 hs hc
  go_enter Tryd.func43, Tryd.ntmps43
  go_wp2_with fail
  refine (HC.out _).mono ?_
  rintro e w1 ⟨rfl, rfl⟩
  go_wp2_with fail
  refine (HN.out _).mono ?_
  rintro e w1 ⟨rfl, rfl⟩
  go_wp2_with fail
  exact bodyPost_ret (v := .tuple #[zeroFr, .bool false]) (by simp [results, Tryd.results43, go_sem, (cells5 HR1.out).1]) rfl ⟨rfl, HB1.out⟩

set_option maxRecDepth 100000 in
set_option maxHeartbeats 4000000 in
theorem fileOf_bad (s t : ByteArray) (w : World) (ht : t.size ≤ 100000) (hs : canB s = true) (hc : Lib.countB t nlB ≤ 20000) (hg : goodC (textC (linesT t)) = false) : Calls Tryd.prog 43 #[.string s, .string t] w (NoFrameP w) := by
  have HB0 := Lib.hid (zero_below w)
  have HR := Lib.hid (zero_new w)
  have hwl := zero_size w
  have HC := Lib.hid (fun W => soCan_any s W)
  rw [hs] at HC
  have HN := Lib.hid (fun W => count_nl t W)
  have hz : ¬ ((20000 : Int) < (Lib.countB t nlB : Int)) := by omega
  have HT := Lib.hid (fun W => textLines_any t W ht)
  have HF := Lib.hid (textC_fit ht)
  have HG := Lib.hid hg
  have hl : (textC (linesT t)).length = (linesT t).length := List.length_map ..
  have HLEN := Lib.hid hl
  clear hs hc hg ht hl
  go_enter Tryd.func43, Tryd.ntmps43
  go_wp2_with fail
  refine (HC.out _).mono ?_
  rintro e w1 ⟨rfl, rfl⟩
  go_wp2_with fail
  refine (HN.out _).mono ?_
  rintro e w1 ⟨rfl, rfl⟩
  go_wp2_with fail
  refine (HT.out _).mono ?_
  rintro e w1 ⟨la, lc, rfl, hb1, hL1⟩
  have hL1' := hL1
  rw [← HLEN.out] at hL1'
  have hA := soAre_any la lc (textC (linesT t)) w1 hL1'.lt HF.out
  rw [HG.out, HLEN.out] at hA
  have HA := Lib.hid hA
  have HL1 := Lib.hid hL1
  have HB1 := Lib.hid (HB0.out.trans (Below.mono hb1 HB0.out.size))
  have HR1 := Lib.hid ((hb1.block _ hwl).trans HR.out)
  have hs1 := hb1.size
  clear hb1 hL1 hL1' hA HT HC HN HR
  go_wp2_with fail
  refine (HA.out).mono ?_
  rintro e w2 ⟨rfl, hb2⟩
  have hR2 := (hb2.block w.heap.size (by simp at hs1; omega)).trans HR1.out
  have HR2 := Lib.hid hR2
  have HB2 := Lib.hid (HB1.out.trans (Below.mono hb2 HB1.out.size))
  have HL2 := Lib.hid (HL1.out.under hb2)
  obtain ⟨_, f0, f1, f2, f3, f4⟩ := cells5 hR2
  obtain ⟨⟨r0, r1, r2, r3, r4⟩, _⟩ := cells5 hR2
  clear hb2 hR2 HA
  go_wp2_with fail
  obtain ⟨hset, hgs⟩ := set5 (c0 := .int .i64 0) (c1 := .string ⟨#[]⟩) (c2 := .slice none 0 0) (c3 := .int .i64 0) (c4 := .slice none 0 0) HR2.out
  exact bodyPost_ret (v := .tuple #[zeroFr, .bool false]) (by simp [results, Tryd.results43, go_sem, (cells5 hset).1]) rfl ⟨rfl, HB2.out.trans (grown_to_below hgs (Nat.le_refl _) HB2.out.size)⟩

set_option maxRecDepth 100000 in
set_option maxHeartbeats 4000000 in
theorem fileOf_ok (s t : ByteArray) (w : World) (ht : t.size ≤ 100000) (hs : canB s = true) (hc : Lib.countB t nlB ≤ 20000) (hg : goodC (textC (linesT t)) = true) : Calls Tryd.prog 43 #[.string s, .string t] w (FrameP 1 s (textC (linesT t)) [] w) := by
  have HB0 := Lib.hid (zero_below w)
  have HR := Lib.hid (zero_new w)
  have hwl := zero_size w
  have HC := Lib.hid (fun W => soCan_any s W)
  rw [hs] at HC
  have HN := Lib.hid (fun W => count_nl t W)
  have hz : ¬ ((20000 : Int) < (Lib.countB t nlB : Int)) := by omega
  have HT := Lib.hid (fun W => textLines_any t W ht)
  have HF := Lib.hid (textC_fit ht)
  have HG := Lib.hid hg
  have hl : (textC (linesT t)).length = (linesT t).length := List.length_map ..
  have HLEN := Lib.hid hl
  clear hs hc hg ht hl
  go_enter Tryd.func43, Tryd.ntmps43
  go_wp2_with fail
  refine (HC.out _).mono ?_
  rintro e w1 ⟨rfl, rfl⟩
  go_wp2_with fail
  refine (HN.out _).mono ?_
  rintro e w1 ⟨rfl, rfl⟩
  go_wp2_with fail
  refine (HT.out _).mono ?_
  rintro e w1 ⟨la, lc, rfl, hb1, hL1⟩
  have hL1' := hL1
  rw [← HLEN.out] at hL1'
  have hA := soAre_any la lc (textC (linesT t)) w1 hL1'.lt HF.out
  rw [HG.out, HLEN.out] at hA
  have HA := Lib.hid hA
  have HL1 := Lib.hid hL1
  have HB1 := Lib.hid (HB0.out.trans (Below.mono hb1 HB0.out.size))
  have HR1 := Lib.hid ((hb1.block _ hwl).trans HR.out)
  have hs1 := hb1.size
  clear hb1 hL1 hL1' hA HT HC HN HR
  go_wp2_with fail
  refine (HA.out).mono ?_
  rintro e w2 ⟨rfl, hb2⟩
  have hR2 := (hb2.block w.heap.size (by simp at hs1; omega)).trans HR1.out
  have HR2 := Lib.hid hR2
  have HB2 := Lib.hid (HB1.out.trans (Below.mono hb2 HB1.out.size))
  have HL2 := Lib.hid (HL1.out.under hb2)
  obtain ⟨_, f0, f1, f2, f3, f4⟩ := cells5 hR2
  obtain ⟨⟨r0, r1, r2, r3, r4⟩, _⟩ := cells5 hR2
  clear hb2 hR2 HA
  go_wp2_with fail
  obtain ⟨hset, hgs⟩ := set5 (c0 := .int .i64 1) (c1 := .string s) (c2 := .slice la (linesT t).length lc) (c3 := .int .i64 0) (c4 := .slice none 0 0) HR2.out
  refine bodyPost_ret (v := .tuple #[.agg #[.int .i64 1, .string s, .slice la (linesT t).length lc, .int .i64 0, .slice none 0 0], .bool true]) (by simp [results, Tryd.results43, go_sem, (cells5 hset).1]) rfl ⟨la, lc, none, 0, by rw [HLEN.out]; rfl, HB2.out.trans (grown_to_below hgs (Nat.le_refl _) HB2.out.size), ?_, nil_strs _⟩
  rw [HLEN.out]
  exact (HL2.out.both'.stay fun k off hk => by
    have h1 : k ≠ w.heap.size := by have := hk.1; simp at this; omega
    simp [World.cell?, hgs.block k hk.2 (by simpa using h1)]).mono fun k hk => by have := hk.1; simp at this; omega
end Go.Proofs.YtkocgedliakclaaDoor
