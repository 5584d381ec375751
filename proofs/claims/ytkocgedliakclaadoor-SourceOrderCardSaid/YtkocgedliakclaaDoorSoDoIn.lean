/- A file, a macro or lines that wait put on a stack with room: one frame more, or nothing. -/
import Derived.Test.YtkocgedliakclaaDoorSoDo
namespace Go.Proofs.YtkocgedliakclaaDoor
open Go.RowKit Go.PlainAid Go.Maps Go.Shelf

section
variable {B b : Nat} {S : Nat → Prop} {v : Value} {F : List FrC} {w : World}
/-- One frame more, or the same. -/
def PushP (B : Nat) (S : Nat → Prop) (b : Nat) (F : List FrC) (w : World) (e : Ending) (w' : World) : Prop :=
  ∃ (z : Int) (v' : Value) (F' : List FrC), e = .returned (.int .i64 z) ∧ SkAt B S b v' F' w' ∧ Below B w w' ∧ Off S w w' ∧ (z = 0 ∧ (∃ g : FrC, F' = F ++ [g] ∧ g.next = 0) ∨ z = 1 ∧ F' = F)
theorem push_yes {g : FrC} (hup : upTo staysB F = F) (hg : g.next = 0) {e : Ending} {w' : World} (h : PutP B S b 0 (upTo staysB F ++ [g]) w e w') : PushP B S b F w e w' := by
  obtain ⟨rfl, v', hs, hb, ho⟩ := h
  rw [hup] at hs
  exact ⟨0, v', _, rfl, hs, hb, ho, .inl ⟨rfl, g, rfl, hg⟩⟩
theorem push_no (h : SkAt B S b v F w) {e : Ending} {w' : World} (k : Makes (.int .i64 1) w e w') : PushP B S b F w e w' := by
  obtain ⟨rfl, hb⟩ := k
  exact ⟨1, v, F, rfl, h.below hb, Below.mono hb (Nat.le_trans (h.lo _ h.sb) (Nat.le_of_lt h.lt)), off_below hb, .inr ⟨rfl, rfl⟩⟩
theorem skFile_unfit (h : SkAt B S b v F w) (s t : ByteArray) (hf : Calls Tryd.prog 43 #[.string s, .string t] w (NoFrameP w)) : Calls Tryd.prog 23 #[.pointer (some ⟨b, 0, none⟩), .string s, .string t] w (Makes (.int .i64 1) w) := by
  have HF := Lib.hid hf
  have HS := Lib.hid h
  clear h hf
  go_enter Tryd.func23, Tryd.ntmps23
  go_wp2_with fail
  refine (HF.out).mono ?_
  rintro e w1 ⟨rfl, hb1⟩
  have HP := Lib.hid (put_unfit (HS.out.below hb1))
  have HB1 := Lib.hid hb1
  clear hb1 HF
  unfold zeroFr
  go_wp2_with fail
  refine (HP.out).mono ?_
  rintro e w2 ⟨rfl, hb2⟩
  have HB2 := Lib.hid (HB1.out.trans (Below.mono hb2 HB1.out.size))
  go_wp2_with fail
  go_ret
  exact ⟨rfl, HB2.out⟩
theorem skWait_unfit (h : SkAt B S b v F w) (x : Value) (hf : Calls Tryd.prog 38 #[x] w (NoFrameP w)) : Calls Tryd.prog 18 #[.pointer (some ⟨b, 0, none⟩), x] w (Makes (.int .i64 1) w) := by
  have HF := Lib.hid hf
  have HS := Lib.hid h
  clear h hf
  go_enter Tryd.func18, Tryd.ntmps18
  go_wp2_with fail
  refine (HF.out).mono ?_
  rintro e w1 ⟨rfl, hb1⟩
  have HP := Lib.hid (put_unfit (HS.out.below hb1))
  have HB1 := Lib.hid hb1
  clear hb1 HF
  unfold zeroFr
  go_wp2_with fail
  refine (HP.out).mono ?_
  rintro e w2 ⟨rfl, hb2⟩
  have HB2 := Lib.hid (HB1.out.trans (Below.mono hb2 HB1.out.size))
  go_wp2_with fail
  go_ret
  exact ⟨rfl, HB2.out⟩
theorem skMacro_unfit (h : SkAt B S b v F w) (s : ByteArray) (x y : Value) (hf : Calls Tryd.prog 37 #[.string s, x, y] w (NoFrameP w)) : Calls Tryd.prog 17 #[.pointer (some ⟨b, 0, none⟩), .string s, x, y] w (Makes (.int .i64 1) w) := by
  have HF := Lib.hid hf
  have HS := Lib.hid h
  clear h hf
  go_enter Tryd.func17, Tryd.ntmps17
  go_wp2_with fail
  refine (HF.out).mono ?_
  rintro e w1 ⟨rfl, hb1⟩
  have HP := Lib.hid (put_unfit (HS.out.below hb1))
  have HB1 := Lib.hid hb1
  clear hb1 HF
  unfold zeroFr
  go_wp2_with fail
  refine (HP.out).mono ?_
  rintro e w2 ⟨rfl, hb2⟩
  have HB2 := Lib.hid (HB1.out.trans (Below.mono hb2 HB1.out.size))
  go_wp2_with fail
  go_ret
  exact ⟨rfl, HB2.out⟩
theorem skFile_push (h : SkAt B S b v F w) (hS : ∀ k, w.heap.size ≤ k → S k) (hup : upTo staysB F = F) (hroom : F.length < 50) (s t : ByteArray) (ht : t.size ≤ 100000) : Calls Tryd.prog 23 #[.pointer (some ⟨b, 0, none⟩), .string s, .string t] w (PushP B S b F w) := by
  cases hs : canB s
  · exact (skFile_unfit h s t (fileOf_name s t w hs)).mono fun _ _ k => push_no h k
  · rcases Nat.lt_or_ge 20000 (Lib.countB t nlB) with hc | hc
    · exact (skFile_unfit h s t (fileOf_many s t w hs hc)).mono fun _ _ k => push_no h k
    · cases hg : goodC (textC (linesT t))
      · exact (skFile_unfit h s t (fileOf_bad s t w ht hs hc hg)).mono fun _ _ k => push_no h k
      · exact (skFile_ok h hS s t ht hs hc hg (by rw [hup]; exact hroom)).mono fun _ _ k => push_yes hup rfl k
theorem skWait_push (h : SkAt B S b v F w) (hS : ∀ k, w.heap.size ≤ k → S k) (hup : upTo staysB F = F) (hroom : F.length < 50) (ao : Option Addr) (c : Nat) (l : List LineC) (hr : LinesRd (· < w.heap.size) (.slice ao l.length c) l w) (hf : Fit l) : Calls Tryd.prog 18 #[.pointer (some ⟨b, 0, none⟩), .slice ao l.length c] w (PushP B S b F w) := by
  cases hg : goodC l
  · exact (skWait_unfit h _ (waitOf_bad ao c l w hr hf hg)).mono fun _ _ k => push_no h k
  · exact (skWait_ok h hS ao c l hr hf hg (by rw [hup]; exact hroom)).mono fun _ _ k => push_yes hup rfl k
theorem skMacro_push (h : SkAt B S b v F w) (hS : ∀ k, w.heap.size ≤ k → S k) (hup : upTo staysB F = F) (hroom : F.length < 50) (s : ByteArray) (ao : Option Addr) (c : Nat) (l : List LineC) (hr : LinesRd (· < w.heap.size) (.slice ao l.length c) l w) (hf : Fit l) (aa : Option Addr) (ac : Nat) (xs : List ByteArray) (ha : StrsRd (· < w.heap.size) (.slice aa xs.length ac) xs w) (hal : xs.length * 16 ≤ 140737488355328) : Calls Tryd.prog 17 #[.pointer (some ⟨b, 0, none⟩), .string s, .slice ao l.length c, .slice aa xs.length ac] w (PushP B S b F w) := by
  cases hs : canB s
  · exact (skMacro_unfit h s _ _ (macroOf_name s _ _ w hs)).mono fun _ _ k => push_no h k
  · cases hg : goodC l
    · exact (skMacro_unfit h s _ _ (macroOf_bad s ao c l _ w hr hf hs hg)).mono fun _ _ k => push_no h k
    · exact (skMacro_ok h hS s ao c l hr hf aa ac xs ha hal hs hg (by rw [hup]; exact hroom)).mono fun _ _ k => push_yes hup rfl k

/-- The same through a deed. -/
def DoPushP (B : Nat) (S : Nat → Prop) (b : Nat) (F : List FrC) (w : World) (e : Ending) (w' : World) : Prop :=
  ∃ (z : Int) (v' : Value) (F' : List FrC), e = .returned (.tuple #[.agg #[.string ⟨#[]⟩, .bool false, .int .i64 0, .int .i64 0, .slice none 0 0], .int .i64 z]) ∧ SkAt B S b v' F' w' ∧ Below B w w' ∧ Off S w w' ∧ (z = 0 ∧ (∃ g : FrC, F' = F ++ [g] ∧ g.next = 0) ∨ z = 1 ∧ F' = F)
/-- A stack has nothing in blocks that are not there yet. -/
theorem SkAt.asides (h : SkAt B S b v F w) (n : Nat) : SkAt B (fun k => S k ∧ (k < w.heap.size ∨ n ≤ k)) b v F w :=
  h.both.mono (fun k hk => ⟨hk.1, .inl hk.2⟩) (fun k hk => h.lo k hk.1)
set_option maxRecDepth 100000 in
set_option maxHeartbeats 4000000 in
theorem do_push0 (h : SkAt B S b v F w) (hS : ∀ k, w.heap.size ≤ k → S k) (hup : upTo staysB F = F) (hroom : F.length < 50) (s t : ByteArray) (ht : t.size ≤ 100000) (ao : Option Addr) (c : Nat) (l : List LineC) (hr : LinesRd (· < w.heap.size) (.slice ao l.length c) l w) (hf : Fit l) (aa : Option Addr) (ac : Nat) (xs : List ByteArray) (ha : StrsRd (· < w.heap.size) (.slice aa xs.length ac) xs w) (hal : xs.length * 16 ≤ 140737488355328) (z : Int) :
    Calls Tryd.prog 9 #[.pointer (some ⟨b, 0, none⟩), .agg #[.int .i64 0, .string s, .string t, .slice ao l.length c, .slice aa xs.length ac, .int .i64 z]] w (DoPushP B S b F w) := by
  have hb : Below w.heap.size w ((w.alloc (.cells #[.int .i64 0, .string s, .string t, .slice ao l.length c, .slice aa xs.length ac, .int .i64 z] 25)).alloc (.cells #[.string ⟨#[]⟩, .bool false, .int .i64 0, .int .i64 0, .slice none 0 0] 37)) := ((Below.refl _ _).alloc (Nat.le_refl _) _).alloc (by simp) _
  have hS3 := (h.asides (w.heap.size + 2)).below hb
  have hS4 : ∀ k, ((w.alloc (.cells #[.int .i64 0, .string s, .string t, .slice ao l.length c, .slice aa xs.length ac, .int .i64 z] 25)).alloc (.cells #[.string ⟨#[]⟩, .bool false, .int .i64 0, .int .i64 0, .slice none 0 0] 37)).heap.size ≤ k → S k ∧ (k < w.heap.size ∨ w.heap.size + 2 ≤ k) := fun k hk => by
    simp at hk
    exact ⟨hS k (by omega), .inr (by omega)⟩
  have HC := Lib.hid (skFile_push hS3 hS4 hup hroom s t ht)
  have HR := Lib.hid (show ((w.alloc (.cells #[.int .i64 0, .string s, .string t, .slice ao l.length c, .slice aa xs.length ac, .int .i64 z] 25)).alloc (.cells #[.string ⟨#[]⟩, .bool false, .int .i64 0, .int .i64 0, .slice none 0 0] 37)).heap[w.heap.size + 1]? = some (.cells #[.string ⟨#[]⟩, .bool false, .int .i64 0, .int .i64 0, .slice none 0 0] 37 (0, 0)) by
    have := heap_alloc_new (w.alloc (.cells #[.int .i64 0, .string s, .string t, .slice ao l.length c, .slice aa xs.length ac, .int .i64 z] 25)) (.cells #[.string ⟨#[]⟩, .bool false, .int .i64 0, .int .i64 0, .slice none 0 0] 37)
    rwa [World.size_alloc] at this)
  have HB := Lib.hid hb
  have hBw : B ≤ w.heap.size := Nat.le_trans (h.lo _ h.sb) (Nat.le_of_lt h.lt)
  have HLO := Lib.hid h.lo
  clear h hb hr hf ha hal hS3 hS4 hS hup hroom
  go_enter Tryd.func9, Tryd.ntmps9
  go_wp2_with fail
  refine (HC.out).mono ?_
  rintro e w2 ⟨y, v', F', rfl, hs2, hb2, ho2, hz⟩
  have hw2 := hb2.size
  rw [World.size_alloc, World.size_alloc] at hw2
  have HR2 := Lib.hid ((ho2 (w.heap.size + 1) (by simp) (fun hk => by omega)).trans HR.out)
  have HB2 := Lib.hid ((HB.out.mono hBw).trans hb2)
  have HO2 := Lib.hid (show Off S w w2 from Off.trans (off_below HB.out) HB.out.size (fun k hk hn => ho2 k hk (fun hq => hn hq.1)))
  have HS2 := Lib.hid (hs2.mono (T := S) (fun k hk => hk.1) HLO.out)
  have HSR := Lib.hid (show ∀ w3, w2.grownBy w3 (some (w.heap.size + 1)) → SkAt B S b v' F' w3 from fun w3 hg => (hs2.stay fun k hk hlt => hg.block k hlt (by simp; omega)).mono (fun k hk => hk.1) HLO.out)
  have HZ := Lib.hid hz
  clear hb2 HC HR hs2 ho2 hz
  obtain ⟨⟨r0, r1, r2, r3, r4⟩, f0, f1, f2, f3, f4⟩ := cells5 HR2.out
  go_wp2_with fail
  obtain ⟨hset, hgs⟩ := set5 (c0 := .string ⟨#[]⟩) (c1 := .bool false) (c2 := .int .i64 0) (c3 := .int .i64 0) (c4 := .slice none 0 0) HR2.out
  exact bodyPost_ret (v := .tuple #[.agg #[.string ⟨#[]⟩, .bool false, .int .i64 0, .int .i64 0, .slice none 0 0], .int .i64 y]) (by simp [results, Tryd.results9, go_sem, (cells5 hset).1]) rfl ⟨y, v', F', rfl, HSR.out _ hgs, HB2.out.trans (grown_to_below hgs (by omega) (by omega)), fun k hk hn => (hgs.block k (by omega) (by simp; omega)).trans (HO2.out k hk hn), HZ.out⟩
set_option maxRecDepth 100000 in
set_option maxHeartbeats 4000000 in
theorem do_push1 (h : SkAt B S b v F w) (hS : ∀ k, w.heap.size ≤ k → S k) (hup : upTo staysB F = F) (hroom : F.length < 50) (s t : ByteArray) (ht : t.size ≤ 100000) (ao : Option Addr) (c : Nat) (l : List LineC) (hr : LinesRd (· < w.heap.size) (.slice ao l.length c) l w) (hf : Fit l) (aa : Option Addr) (ac : Nat) (xs : List ByteArray) (ha : StrsRd (· < w.heap.size) (.slice aa xs.length ac) xs w) (hal : xs.length * 16 ≤ 140737488355328) (z : Int) :
    Calls Tryd.prog 9 #[.pointer (some ⟨b, 0, none⟩), .agg #[.int .i64 1, .string s, .string t, .slice ao l.length c, .slice aa xs.length ac, .int .i64 z]] w (DoPushP B S b F w) := by
  have hb : Below w.heap.size w ((w.alloc (.cells #[.int .i64 1, .string s, .string t, .slice ao l.length c, .slice aa xs.length ac, .int .i64 z] 25)).alloc (.cells #[.string ⟨#[]⟩, .bool false, .int .i64 0, .int .i64 0, .slice none 0 0] 37)) := ((Below.refl _ _).alloc (Nat.le_refl _) _).alloc (by simp) _
  have hS3 := (h.asides (w.heap.size + 2)).below hb
  have hS4 : ∀ k, ((w.alloc (.cells #[.int .i64 1, .string s, .string t, .slice ao l.length c, .slice aa xs.length ac, .int .i64 z] 25)).alloc (.cells #[.string ⟨#[]⟩, .bool false, .int .i64 0, .int .i64 0, .slice none 0 0] 37)).heap.size ≤ k → S k ∧ (k < w.heap.size ∨ w.heap.size + 2 ≤ k) := fun k hk => by
    simp at hk
    exact ⟨hS k (by omega), .inr (by omega)⟩
  have HC := Lib.hid (skMacro_push hS3 hS4 hup hroom s ao c l (hr.lift hb) hf aa ac xs (ha.lift hb) hal)
  have HR := Lib.hid (show ((w.alloc (.cells #[.int .i64 1, .string s, .string t, .slice ao l.length c, .slice aa xs.length ac, .int .i64 z] 25)).alloc (.cells #[.string ⟨#[]⟩, .bool false, .int .i64 0, .int .i64 0, .slice none 0 0] 37)).heap[w.heap.size + 1]? = some (.cells #[.string ⟨#[]⟩, .bool false, .int .i64 0, .int .i64 0, .slice none 0 0] 37 (0, 0)) by
    have := heap_alloc_new (w.alloc (.cells #[.int .i64 1, .string s, .string t, .slice ao l.length c, .slice aa xs.length ac, .int .i64 z] 25)) (.cells #[.string ⟨#[]⟩, .bool false, .int .i64 0, .int .i64 0, .slice none 0 0] 37)
    rwa [World.size_alloc] at this)
  have HB := Lib.hid hb
  have hBw : B ≤ w.heap.size := Nat.le_trans (h.lo _ h.sb) (Nat.le_of_lt h.lt)
  have HLO := Lib.hid h.lo
  clear h hb hr hf ha hal hS3 hS4 hS hup hroom
  go_enter Tryd.func9, Tryd.ntmps9
  go_wp2_with fail
  refine (HC.out).mono ?_
  rintro e w2 ⟨y, v', F', rfl, hs2, hb2, ho2, hz⟩
  have hw2 := hb2.size
  rw [World.size_alloc, World.size_alloc] at hw2
  have HR2 := Lib.hid ((ho2 (w.heap.size + 1) (by simp) (fun hk => by omega)).trans HR.out)
  have HB2 := Lib.hid ((HB.out.mono hBw).trans hb2)
  have HO2 := Lib.hid (show Off S w w2 from Off.trans (off_below HB.out) HB.out.size (fun k hk hn => ho2 k hk (fun hq => hn hq.1)))
  have HS2 := Lib.hid (hs2.mono (T := S) (fun k hk => hk.1) HLO.out)
  have HSR := Lib.hid (show ∀ w3, w2.grownBy w3 (some (w.heap.size + 1)) → SkAt B S b v' F' w3 from fun w3 hg => (hs2.stay fun k hk hlt => hg.block k hlt (by simp; omega)).mono (fun k hk => hk.1) HLO.out)
  have HZ := Lib.hid hz
  clear hb2 HC HR hs2 ho2 hz
  obtain ⟨⟨r0, r1, r2, r3, r4⟩, f0, f1, f2, f3, f4⟩ := cells5 HR2.out
  go_wp2_with fail
  obtain ⟨hset, hgs⟩ := set5 (c0 := .string ⟨#[]⟩) (c1 := .bool false) (c2 := .int .i64 0) (c3 := .int .i64 0) (c4 := .slice none 0 0) HR2.out
  exact bodyPost_ret (v := .tuple #[.agg #[.string ⟨#[]⟩, .bool false, .int .i64 0, .int .i64 0, .slice none 0 0], .int .i64 y]) (by simp [results, Tryd.results9, go_sem, (cells5 hset).1]) rfl ⟨y, v', F', rfl, HSR.out _ hgs, HB2.out.trans (grown_to_below hgs (by omega) (by omega)), fun k hk hn => (hgs.block k (by omega) (by simp; omega)).trans (HO2.out k hk hn), HZ.out⟩
set_option maxRecDepth 100000 in
set_option maxHeartbeats 4000000 in
theorem do_push2 (h : SkAt B S b v F w) (hS : ∀ k, w.heap.size ≤ k → S k) (hup : upTo staysB F = F) (hroom : F.length < 50) (s t : ByteArray) (ht : t.size ≤ 100000) (ao : Option Addr) (c : Nat) (l : List LineC) (hr : LinesRd (· < w.heap.size) (.slice ao l.length c) l w) (hf : Fit l) (aa : Option Addr) (ac : Nat) (xs : List ByteArray) (ha : StrsRd (· < w.heap.size) (.slice aa xs.length ac) xs w) (hal : xs.length * 16 ≤ 140737488355328) (z : Int) :
    Calls Tryd.prog 9 #[.pointer (some ⟨b, 0, none⟩), .agg #[.int .i64 2, .string s, .string t, .slice ao l.length c, .slice aa xs.length ac, .int .i64 z]] w (DoPushP B S b F w) := by
  have hb : Below w.heap.size w ((w.alloc (.cells #[.int .i64 2, .string s, .string t, .slice ao l.length c, .slice aa xs.length ac, .int .i64 z] 25)).alloc (.cells #[.string ⟨#[]⟩, .bool false, .int .i64 0, .int .i64 0, .slice none 0 0] 37)) := ((Below.refl _ _).alloc (Nat.le_refl _) _).alloc (by simp) _
  have hS3 := (h.asides (w.heap.size + 2)).below hb
  have hS4 : ∀ k, ((w.alloc (.cells #[.int .i64 2, .string s, .string t, .slice ao l.length c, .slice aa xs.length ac, .int .i64 z] 25)).alloc (.cells #[.string ⟨#[]⟩, .bool false, .int .i64 0, .int .i64 0, .slice none 0 0] 37)).heap.size ≤ k → S k ∧ (k < w.heap.size ∨ w.heap.size + 2 ≤ k) := fun k hk => by
    simp at hk
    exact ⟨hS k (by omega), .inr (by omega)⟩
  have HC := Lib.hid (skWait_push hS3 hS4 hup hroom ao c l (hr.lift hb) hf)
  have HR := Lib.hid (show ((w.alloc (.cells #[.int .i64 2, .string s, .string t, .slice ao l.length c, .slice aa xs.length ac, .int .i64 z] 25)).alloc (.cells #[.string ⟨#[]⟩, .bool false, .int .i64 0, .int .i64 0, .slice none 0 0] 37)).heap[w.heap.size + 1]? = some (.cells #[.string ⟨#[]⟩, .bool false, .int .i64 0, .int .i64 0, .slice none 0 0] 37 (0, 0)) by
    have := heap_alloc_new (w.alloc (.cells #[.int .i64 2, .string s, .string t, .slice ao l.length c, .slice aa xs.length ac, .int .i64 z] 25)) (.cells #[.string ⟨#[]⟩, .bool false, .int .i64 0, .int .i64 0, .slice none 0 0] 37)
    rwa [World.size_alloc] at this)
  have HB := Lib.hid hb
  have hBw : B ≤ w.heap.size := Nat.le_trans (h.lo _ h.sb) (Nat.le_of_lt h.lt)
  have HLO := Lib.hid h.lo
  clear h hb hr hf ha hal hS3 hS4 hS hup hroom
  go_enter Tryd.func9, Tryd.ntmps9
  go_wp2_with fail
  refine (HC.out).mono ?_
  rintro e w2 ⟨y, v', F', rfl, hs2, hb2, ho2, hz⟩
  have hw2 := hb2.size
  rw [World.size_alloc, World.size_alloc] at hw2
  have HR2 := Lib.hid ((ho2 (w.heap.size + 1) (by simp) (fun hk => by omega)).trans HR.out)
  have HB2 := Lib.hid ((HB.out.mono hBw).trans hb2)
  have HO2 := Lib.hid (show Off S w w2 from Off.trans (off_below HB.out) HB.out.size (fun k hk hn => ho2 k hk (fun hq => hn hq.1)))
  have HS2 := Lib.hid (hs2.mono (T := S) (fun k hk => hk.1) HLO.out)
  have HSR := Lib.hid (show ∀ w3, w2.grownBy w3 (some (w.heap.size + 1)) → SkAt B S b v' F' w3 from fun w3 hg => (hs2.stay fun k hk hlt => hg.block k hlt (by simp; omega)).mono (fun k hk => hk.1) HLO.out)
  have HZ := Lib.hid hz
  clear hb2 HC HR hs2 ho2 hz
  obtain ⟨⟨r0, r1, r2, r3, r4⟩, f0, f1, f2, f3, f4⟩ := cells5 HR2.out
  go_wp2_with fail
  obtain ⟨hset, hgs⟩ := set5 (c0 := .string ⟨#[]⟩) (c1 := .bool false) (c2 := .int .i64 0) (c3 := .int .i64 0) (c4 := .slice none 0 0) HR2.out
  exact bodyPost_ret (v := .tuple #[.agg #[.string ⟨#[]⟩, .bool false, .int .i64 0, .int .i64 0, .slice none 0 0], .int .i64 y]) (by simp [results, Tryd.results9, go_sem, (cells5 hset).1]) rfl ⟨y, v', F', rfl, HSR.out _ hgs, HB2.out.trans (grown_to_below hgs (by omega) (by omega)), fun k hk hn => (hgs.block k (by omega) (by simp; omega)).trans (HO2.out k hk hn), HZ.out⟩
theorem do_push (h : SkAt B S b v F w) (hS : ∀ k, w.heap.size ≤ k → S k) (hup : upTo staysB F = F) (hroom : F.length < 50) (k : Int) (hk : 0 ≤ k ∧ k ≤ 2) (s t : ByteArray) (ht : t.size ≤ 100000) (ao : Option Addr) (c : Nat) (l : List LineC) (hr : LinesRd (· < w.heap.size) (.slice ao l.length c) l w) (hf : Fit l) (aa : Option Addr) (ac : Nat) (xs : List ByteArray) (ha : StrsRd (· < w.heap.size) (.slice aa xs.length ac) xs w) (hal : xs.length * 16 ≤ 140737488355328) (z : Int) :
    Calls Tryd.prog 9 #[.pointer (some ⟨b, 0, none⟩), .agg #[.int .i64 k, .string s, .string t, .slice ao l.length c, .slice aa xs.length ac, .int .i64 z]] w (DoPushP B S b F w) := by
  have hk : k = 0 ∨ k = 1 ∨ k = 2 := by omega
  rcases hk with rfl | rfl | rfl
  · exact do_push0 h hS hup hroom s t ht ao c l hr hf aa ac xs ha hal z
  · exact do_push1 h hS hup hroom s t ht ao c l hr hf aa ac xs ha hal z
  · exact do_push2 h hS hup hroom s t ht ao c l hr hf aa ac xs ha hal z
end
end Go.Proofs.YtkocgedliakclaaDoor
