/- Files, macros and lines that wait are put on top. -/
import Derived.Test.YtkocgedliakclaaDoorSoFrame3
namespace Go.Proofs.YtkocgedliakclaaDoor
open Go.RowKit Go.PlainAid Go.Maps Go.Shelf

section
variable {B b : Nat} {S : Nat → Prop} {v : Value} {F : List FrC} {w : World}
theorem frame_in (h : SkAt B S b v F w) {w1 : World} (hb : Below w.heap.size w w1) {kind : Int} {name : ByteArray} {l : List LineC} {xs : List ByteArray} {lv av : Value} (hl : LinesRd (w.heap.size ≤ ·) lv l w1) (ha : StrsRd (w.heap.size ≤ ·) av xs w1) (hS : ∀ k, w.heap.size ≤ k → S k) :
    FrVal (fun k => S k ∧ k ≠ b ∧ v.ownBlock ≠ some k ∧ k < w1.heap.size) ⟨kind, name, l, 0, xs⟩ lv av w1 :=
  have hk : ∀ k, w.heap.size ≤ k ∧ k < w1.heap.size → S k ∧ k ≠ b ∧ v.ownBlock ≠ some k ∧ k < w1.heap.size := fun k hk =>
    ⟨hS k hk.1, by have := h.lt; omega, fun e => by have := (h.bS e).2; omega, hk.2⟩
  ⟨hl.both'.mono hk, ha.both.mono hk⟩
theorem put_none_any {p : Value} (hn : ∀ W, Below w.heap.size w W → Calls Tryd.prog 29 #[p] W (Says (.bool true) W)) (fv : FrC) (la : Option Addr) (lc : Nat) (aa : Option Addr) (ac : Nat) (q : Bool) :
    Calls Tryd.prog 36 #[p, .agg #[.int .i64 fv.kind, .string fv.name, .slice la fv.lines.length lc, .int .i64 fv.next, .slice aa fv.args.length ac], .bool q] w (Makes (.int .i64 1) w) := by
  have hB0 : Below w.heap.size w (w.alloc (.cells #[.int .i64 fv.kind, .string fv.name, .slice la fv.lines.length lc, .int .i64 fv.next, .slice aa fv.args.length ac] 64)) := (Below.refl _ _).alloc (Nat.le_refl _) _
  have HN := Lib.hid (hn _ hB0)
  have HB0 := Lib.hid hB0
  clear hn hB0
  go_enter Tryd.func36, Tryd.ntmps36
  go_wp2_with fail
  refine (HN.out).mono ?_
  rintro e w1 ⟨rfl, rfl⟩
  go_wp2_with fail
  go_ret
  exact ⟨rfl, HB0.out⟩
theorem put_unfit (h : SkAt B S b v F w) : Calls Tryd.prog 36 #[.pointer (some ⟨b, 0, none⟩), .agg #[.int .i64 0, .string ⟨#[]⟩, .slice none 0 0, .int .i64 0, .slice none 0 0], .bool false] w (Makes (.int .i64 1) w) := by
  have hB0 := zero_below w
  have HN := Lib.hid (skNone_any (h.below hB0).cell0)
  have HB0 := Lib.hid hB0
  clear h hB0
  go_enter Tryd.func36, Tryd.ntmps36
  go_wp2_with fail
  refine (HN.out).mono ?_
  rintro e w1 ⟨rfl, rfl⟩
  go_wp2_with fail
  go_ret
  exact ⟨rfl, HB0.out⟩

set_option maxRecDepth 100000 in
set_option maxHeartbeats 2000000 in
theorem skWait_ok (h : SkAt B S b v F w) (hS : ∀ k, w.heap.size ≤ k → S k) (ao : Option Addr) (c : Nat) (l : List LineC) (hr : LinesRd (· < w.heap.size) (.slice ao l.length c) l w) (hf : Fit l) (hg : goodC l = true) (hroom : (upTo staysB F).length < 50) :
    Calls Tryd.prog 18 #[.pointer (some ⟨b, 0, none⟩), .slice ao l.length c] w (PutP B S b 0 (upTo staysB F ++ [⟨3, ⟨#[]⟩, l, 0, []⟩]) w) := by
  have HF := Lib.hid (waitOf_ok ao c l w hr hf hg)
  have HS := Lib.hid h
  have hBw : B ≤ w.heap.size := Nat.le_trans (h.lo _ h.sb) (Nat.le_of_lt h.lt)
  have HOK := Lib.hid (show FrOk ⟨3, ⟨#[]⟩, l, 0, []⟩ from ⟨hf, Nat.zero_le _⟩)
  have HSS := Lib.hid hS
  have HRM := Lib.hid hroom
  clear h hS hroom 
  go_enter Tryd.func18, Tryd.ntmps18
  go_wp2_with fail
  refine (HF.out).mono ?_
  rintro e w1 ⟨la, lc, aa, ac, rfl, hb1, hl1, ha1⟩
  have HP := Lib.hid (skPut_ok (HS.out.below hb1) ⟨3, ⟨#[]⟩, l, 0, []⟩ la lc aa ac HRM.out (frame_in HS.out hb1 hl1 ha1 HSS.out) HOK.out (fun k hk => HSS.out k (Nat.le_trans hb1.size hk)))
  have HB1 := Lib.hid hb1
  clear hb1 hl1 ha1 HF
  go_wp2_with fail
  refine (HP.out).mono ?_
  rintro e w2 ⟨rfl, v2, hS2, hb2, ho2⟩
  have HO2 := Lib.hid (Off.trans (off_below HB1.out) HB1.out.size ho2)
  have HS2 := Lib.hid hS2
  have HB2 := Lib.hid ((HB1.out.mono hBw).trans hb2)
  clear hS2 hb2 ho2
  go_wp2_with fail
  go_ret
  exact ⟨rfl, v2, HS2.out, HB2.out, HO2.out⟩

set_option maxRecDepth 100000 in
set_option maxHeartbeats 2000000 in
theorem skWait_full (h : SkAt B S b v F w) (hS : ∀ k, w.heap.size ≤ k → S k) (ao : Option Addr) (c : Nat) (l : List LineC) (hr : LinesRd (· < w.heap.size) (.slice ao l.length c) l w) (hf : Fit l) (hg : goodC l = true) (hroom : (upTo staysB F).length = 50) :
    Calls Tryd.prog 18 #[.pointer (some ⟨b, 0, none⟩), .slice ao l.length c] w (PutP B S b 2 (upTo staysB F) w) := by
  have HF := Lib.hid (waitOf_ok ao c l w hr hf hg)
  have HS := Lib.hid h
  have hBw : B ≤ w.heap.size := Nat.le_trans (h.lo _ h.sb) (Nat.le_of_lt h.lt)
  have HOK := Lib.hid (show FrOk ⟨3, ⟨#[]⟩, l, 0, []⟩ from ⟨hf, Nat.zero_le _⟩)
  have HSS := Lib.hid hS
  have HRM := Lib.hid hroom
  clear h hS hroom 
  go_enter Tryd.func18, Tryd.ntmps18
  go_wp2_with fail
  refine (HF.out).mono ?_
  rintro e w1 ⟨la, lc, aa, ac, rfl, hb1, hl1, ha1⟩
  have HP := Lib.hid (skPut_full (HS.out.below hb1) ⟨3, ⟨#[]⟩, l, 0, []⟩ la lc aa ac HRM.out)
  have HB1 := Lib.hid hb1
  clear hb1 hl1 ha1 HF
  go_wp2_with fail
  refine (HP.out).mono ?_
  rintro e w2 ⟨rfl, v2, hS2, hb2, ho2⟩
  have HO2 := Lib.hid (Off.trans (off_below HB1.out) HB1.out.size ho2)
  have HS2 := Lib.hid hS2
  have HB2 := Lib.hid ((HB1.out.mono hBw).trans hb2)
  clear hS2 hb2 ho2
  go_wp2_with fail
  go_ret
  exact ⟨rfl, v2, HS2.out, HB2.out, HO2.out⟩

set_option maxRecDepth 100000 in
set_option maxHeartbeats 2000000 in
theorem skMacro_ok (h : SkAt B S b v F w) (hS : ∀ k, w.heap.size ≤ k → S k) (s : ByteArray) (ao : Option Addr) (c : Nat) (l : List LineC) (hr : LinesRd (· < w.heap.size) (.slice ao l.length c) l w) (hf : Fit l) (aa : Option Addr) (ac : Nat) (xs : List ByteArray) (ha : StrsRd (· < w.heap.size) (.slice aa xs.length ac) xs w) (hal : xs.length * 16 ≤ 140737488355328) (hs : canB s = true) (hg : goodC l = true) (hroom : (upTo staysB F).length < 50) :
    Calls Tryd.prog 17 #[.pointer (some ⟨b, 0, none⟩), .string s, .slice ao l.length c, .slice aa xs.length ac] w (PutP B S b 0 (upTo staysB F ++ [⟨2, s, l, 0, xs⟩]) w) := by
  have HF := Lib.hid (macroOf_ok s ao c l aa ac xs w hr hf ha hal hs hg)
  have HS := Lib.hid h
  have hBw : B ≤ w.heap.size := Nat.le_trans (h.lo _ h.sb) (Nat.le_of_lt h.lt)
  have HOK := Lib.hid (show FrOk ⟨2, s, l, 0, xs⟩ from ⟨hf, Nat.zero_le _⟩)
  have HSS := Lib.hid hS
  have HRM := Lib.hid hroom
  clear h hS hroom 
  go_enter Tryd.func17, Tryd.ntmps17
  go_wp2_with fail
  refine (HF.out).mono ?_
  rintro e w1 ⟨la, lc, aa, ac, rfl, hb1, hl1, ha1⟩
  have HP := Lib.hid (skPut_ok (HS.out.below hb1) ⟨2, s, l, 0, xs⟩ la lc aa ac HRM.out (frame_in HS.out hb1 hl1 ha1 HSS.out) HOK.out (fun k hk => HSS.out k (Nat.le_trans hb1.size hk)))
  have HB1 := Lib.hid hb1
  clear hb1 hl1 ha1 HF
  go_wp2_with fail
  refine (HP.out).mono ?_
  rintro e w2 ⟨rfl, v2, hS2, hb2, ho2⟩
  have HO2 := Lib.hid (Off.trans (off_below HB1.out) HB1.out.size ho2)
  have HS2 := Lib.hid hS2
  have HB2 := Lib.hid ((HB1.out.mono hBw).trans hb2)
  clear hS2 hb2 ho2
  go_wp2_with fail
  go_ret
  exact ⟨rfl, v2, HS2.out, HB2.out, HO2.out⟩

set_option maxRecDepth 100000 in
set_option maxHeartbeats 2000000 in
theorem skMacro_full (h : SkAt B S b v F w) (hS : ∀ k, w.heap.size ≤ k → S k) (s : ByteArray) (ao : Option Addr) (c : Nat) (l : List LineC) (hr : LinesRd (· < w.heap.size) (.slice ao l.length c) l w) (hf : Fit l) (aa : Option Addr) (ac : Nat) (xs : List ByteArray) (ha : StrsRd (· < w.heap.size) (.slice aa xs.length ac) xs w) (hal : xs.length * 16 ≤ 140737488355328) (hs : canB s = true) (hg : goodC l = true) (hroom : (upTo staysB F).length = 50) :
    Calls Tryd.prog 17 #[.pointer (some ⟨b, 0, none⟩), .string s, .slice ao l.length c, .slice aa xs.length ac] w (PutP B S b 2 (upTo staysB F) w) := by
  have HF := Lib.hid (macroOf_ok s ao c l aa ac xs w hr hf ha hal hs hg)
  have HS := Lib.hid h
  have hBw : B ≤ w.heap.size := Nat.le_trans (h.lo _ h.sb) (Nat.le_of_lt h.lt)
  have HOK := Lib.hid (show FrOk ⟨2, s, l, 0, xs⟩ from ⟨hf, Nat.zero_le _⟩)
  have HSS := Lib.hid hS
  have HRM := Lib.hid hroom
  clear h hS hroom 
  go_enter Tryd.func17, Tryd.ntmps17
  go_wp2_with fail
  refine (HF.out).mono ?_
  rintro e w1 ⟨la, lc, aa, ac, rfl, hb1, hl1, ha1⟩
  have HP := Lib.hid (skPut_full (HS.out.below hb1) ⟨2, s, l, 0, xs⟩ la lc aa ac HRM.out)
  have HB1 := Lib.hid hb1
  clear hb1 hl1 ha1 HF
  go_wp2_with fail
  refine (HP.out).mono ?_
  rintro e w2 ⟨rfl, v2, hS2, hb2, ho2⟩
  have HO2 := Lib.hid (Off.trans (off_below HB1.out) HB1.out.size ho2)
  have HS2 := Lib.hid hS2
  have HB2 := Lib.hid ((HB1.out.mono hBw).trans hb2)
  clear hS2 hb2 ho2
  go_wp2_with fail
  go_ret
  exact ⟨rfl, v2, HS2.out, HB2.out, HO2.out⟩

set_option maxRecDepth 100000 in
set_option maxHeartbeats 2000000 in
theorem skFile_ok (h : SkAt B S b v F w) (hS : ∀ k, w.heap.size ≤ k → S k) (s t : ByteArray) (ht : t.size ≤ 100000) (hs : canB s = true) (hc : Lib.countB t nlB ≤ 20000) (hg : goodC (textC (linesT t)) = true) (hroom : (upTo staysB F).length < 50) :
    Calls Tryd.prog 23 #[.pointer (some ⟨b, 0, none⟩), .string s, .string t] w (PutP B S b 0 (upTo staysB F ++ [⟨1, s, textC (linesT t), 0, []⟩]) w) := by
  have HF := Lib.hid (fileOf_ok s t w ht hs hc hg)
  have HS := Lib.hid h
  have hBw : B ≤ w.heap.size := Nat.le_trans (h.lo _ h.sb) (Nat.le_of_lt h.lt)
  have HOK := Lib.hid (show FrOk ⟨1, s, textC (linesT t), 0, []⟩ from ⟨textC_fit ht, Nat.zero_le _⟩)
  have HSS := Lib.hid hS
  have HRM := Lib.hid hroom
  clear h hS hroom 
  go_enter Tryd.func23, Tryd.ntmps23
  go_wp2_with fail
  refine (HF.out).mono ?_
  rintro e w1 ⟨la, lc, aa, ac, rfl, hb1, hl1, ha1⟩
  have HP := Lib.hid (skPut_ok (HS.out.below hb1) ⟨1, s, textC (linesT t), 0, []⟩ la lc aa ac HRM.out (frame_in HS.out hb1 hl1 ha1 HSS.out) HOK.out (fun k hk => HSS.out k (Nat.le_trans hb1.size hk)))
  have HB1 := Lib.hid hb1
  clear hb1 hl1 ha1 HF
  go_wp2_with fail
  refine (HP.out).mono ?_
  rintro e w2 ⟨rfl, v2, hS2, hb2, ho2⟩
  have HO2 := Lib.hid (Off.trans (off_below HB1.out) HB1.out.size ho2)
  have HS2 := Lib.hid hS2
  have HB2 := Lib.hid ((HB1.out.mono hBw).trans hb2)
  clear hS2 hb2 ho2
  go_wp2_with fail
  go_ret
  exact ⟨rfl, v2, HS2.out, HB2.out, HO2.out⟩

set_option maxRecDepth 100000 in
set_option maxHeartbeats 2000000 in
theorem skFile_full (h : SkAt B S b v F w) (hS : ∀ k, w.heap.size ≤ k → S k) (s t : ByteArray) (ht : t.size ≤ 100000) (hs : canB s = true) (hc : Lib.countB t nlB ≤ 20000) (hg : goodC (textC (linesT t)) = true) (hroom : (upTo staysB F).length = 50) :
    Calls Tryd.prog 23 #[.pointer (some ⟨b, 0, none⟩), .string s, .string t] w (PutP B S b 2 (upTo staysB F) w) := by
  have HF := Lib.hid (fileOf_ok s t w ht hs hc hg)
  have HS := Lib.hid h
  have hBw : B ≤ w.heap.size := Nat.le_trans (h.lo _ h.sb) (Nat.le_of_lt h.lt)
  have HOK := Lib.hid (show FrOk ⟨1, s, textC (linesT t), 0, []⟩ from ⟨textC_fit ht, Nat.zero_le _⟩)
  have HSS := Lib.hid hS
  have HRM := Lib.hid hroom
  clear h hS hroom 
  go_enter Tryd.func23, Tryd.ntmps23
  go_wp2_with fail
  refine (HF.out).mono ?_
  rintro e w1 ⟨la, lc, aa, ac, rfl, hb1, hl1, ha1⟩
  have HP := Lib.hid (skPut_full (HS.out.below hb1) ⟨1, s, textC (linesT t), 0, []⟩ la lc aa ac HRM.out)
  have HB1 := Lib.hid hb1
  clear hb1 hl1 ha1 HF
  go_wp2_with fail
  refine (HP.out).mono ?_
  rintro e w2 ⟨rfl, v2, hS2, hb2, ho2⟩
  have HO2 := Lib.hid (Off.trans (off_below HB1.out) HB1.out.size ho2)
  have HS2 := Lib.hid hS2
  have HB2 := Lib.hid ((HB1.out.mono hBw).trans hb2)
  clear hS2 hb2 ho2
  go_wp2_with fail
  go_ret
  exact ⟨rfl, v2, HS2.out, HB2.out, HO2.out⟩
end
end Go.Proofs.YtkocgedliakclaaDoor
