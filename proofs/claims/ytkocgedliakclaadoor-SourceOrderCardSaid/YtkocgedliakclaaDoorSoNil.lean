/- A stack that is none: nil, or not made. -/
import Derived.Test.YtkocgedliakclaaDoorSoCalls
namespace Go.Proofs.YtkocgedliakclaaDoor
open Go.RowKit Go.PlainAid Go.Maps Go.Shelf
attribute [local go_sem] Oper.semAt_some

def NoneSk (p : Option Addr) (w : World) : Prop := p = none ∨ ∃ b, p = some ⟨b, 0, none⟩ ∧ b < w.heap.size ∧ w.cell? ⟨b, 0, none⟩ = some (.bool false)
theorem NoneSk.below {p : Option Addr} {w w' : World} (h : NoneSk p w) (hb : Below w.heap.size w w') : NoneSk p w' := by
  rcases h with rfl | ⟨b, rfl, hl, hc⟩
  · exact .inl rfl
  · exact .inr ⟨b, rfl, Nat.lt_of_lt_of_le hl hb.size, (hb.cell (p := ⟨b, 0, none⟩) hl).trans hc⟩
theorem none_any {p : Option Addr} {w : World} (h : NoneSk p w) : Calls Tryd.prog 29 #[.pointer p] w (Says (.bool true) w) := by
  rcases h with rfl | ⟨b, rfl, _, hc⟩
  · exact skNone_nil w
  · exact skNone_unmade hc

theorem none1_in (n : Nat) (hn : 1 ≤ n) (l Bs : Nat) (p : Option Addr) (W : World) (h : NoneSk p W) (hcB : W.cell? ⟨Bs, 0, none⟩ = some (.pointer p)) :
    CallsIn Fence.wide n Tryd.prog 57 #[.func (.yield l) #[] #[], .pointer (some ⟨Bs, 0, none⟩)] W fun e W' => (∃ v, e = .returned v) ∧ W' = W := by
  have HN := Lib.hid (none_any h)
  clear h
  refine callsIn_of_wp Tryd.func57 rfl trivial ?_ rfl
  simp only [Tryd.ntmps57, List.size_toArray, List.length_cons, List.length_nil, Nat.reduceAdd, Nat.reduceSub, Array.replicate_succ, Array.replicate_zero, List.push_toArray, List.append_toArray, List.nil_append, List.cons_append]
  gi_wp2_with (refine ⟨trivial, ?_⟩; gi_at_call 29; refine (callsIn_wide.2 HN.out).mono ?_; rintro e w' ⟨rfl, rfl⟩)
  refine bodyPost_ret (results_none rfl _ _ _) rfl ?_
  exact ⟨⟨_, rfl⟩, rfl⟩

theorem from_none (n : Nat) (hn : 1 ≤ n) (Bs : Nat) (p : Option Addr) (w : World) (n₀ : Nat) (hBs : Bs < w.heap.size) (h : NoneSk p w) (hcB : w.cell? ⟨Bs, 0, none⟩ = some (.pointer p)) :
    SeqStopsK Fence.wide n Tryd.prog 57 #[.pointer (some ⟨Bs, 0, none⟩)] (fun _ : Empty => #[Value.int .i64 0, Value.pointer none]) (Below n₀) (fun _ => True) (fun _ => True) 0 w := fun l J Jx W hW _ _ _ h0 => by
  refine (none1_in n hn l Bs p W (h.below hW) ((hW.cell (p := ⟨Bs, 0, none⟩) hBs).trans hcB)).mono ?_
  rintro e W' ⟨he, rfl⟩
  exact ⟨he, .inl ⟨[], trivial, h0⟩⟩

set_option maxRecDepth 100000 in
set_option maxHeartbeats 4000000 in
theorem topnone_in (n : Nat) (hn : 3 ≤ n) {p : Option Addr} {w : World} (h : NoneSk p w) (k : Nat) :
    CallsIn Fence.wide n Tryd.prog 30 #[.pointer p, .func (.func k) #[] #[]] w (Makes (.tuple #[.int .i64 (-1), .pointer none]) w) := by
  have h1 : 1 ≤ n := by omega
  refine callsIn_of_wp_marks Tryd.func30 rfl trivial ?_ rfl
  simp only [Tryd.ntmps30, List.size_toArray, List.length_cons, List.length_nil, Nat.reduceAdd, Nat.reduceSub, Array.replicate_succ, Array.replicate_zero, List.push_toArray, List.append_toArray, List.nil_append, List.cons_append]
  gi_wp2_with (refine ⟨trivial, ?_⟩; gi_at_call 46; refine (fromTop_any (n - 1) _ _).mono ?_; rintro e w' ⟨rfl, rfl⟩)
  have b1 := Boxed.new (w.alloc (.cells #[.func (.func k) #[] #[]] 62)) 3 (.int .i64 0)
  have b2 := Boxed.new ((w.alloc (.cells #[.func (.func k) #[] #[]] 62)).alloc (.cells #[.int .i64 0] 3)) 59 (.pointer none)
  have b3 := Boxed.new (((w.alloc (.cells #[.func (.func k) #[] #[]] 62)).alloc (.cells #[.int .i64 0] 3)).alloc (.cells #[.pointer none] 59)) 30 (.pointer p)
  simp only [World.size_alloc] at b1 b2 b3
  obtain ⟨W0, hW0⟩ : ∃ W0, ((((w.alloc (.cells #[.func (.func k) #[] #[]] 62)).alloc (.cells #[.int .i64 0] 3)).alloc (.cells #[.pointer none] 59)).alloc (.cells #[.pointer p] 30)) = W0 := ⟨_, rfl⟩
  have hsz : W0.heap.size = w.heap.size + 4 := by rw [← hW0]; simp
  have hB0 : Below w.heap.size w W0 := by rw [← hW0]; exact ((((Below.refl _ w).alloc (Nat.le_refl _) _).alloc (by simp) _).alloc (by simp; omega) _).alloc (by simp; omega) _
  have b1' := (b1.alloc (.cells #[.pointer none] 59)).alloc (.cells #[.pointer p] 30)
  have b2' := b2.alloc (.cells #[.pointer p] 30)
  rw [hW0] at b1' b2' b3 ⊢
  have hS0 := h.below hB0
  clear b1 b2 h
  refine wpIn_rangeFunc_ownG rfl h1 (gf := 57) (lb := #[.pointer (some ⟨w.heap.size + 1 + 1 + 1, 0, none⟩)]) rfl trivial (enters_of Tryd.func57 (by kernel_rfl) rfl)
    (from_none (n - 1) (by omega) (w.heap.size + 1 + 1 + 1) p W0 (w.heap.size + 4) (by omega) hS0 b3.cell) belowK_t (belowK_b (by omega)) (Below.refl _ _) (fun _ => rfl)
    (fun _ W => (Boxed W (w.heap.size + 1) 3 (.int .i64 0) ∧ Boxed W (w.heap.size + 1 + 1) 59 (.pointer none)) ∧ Below w.heap.size w W)
    (fun _ _ W => False ∧ Below w.heap.size w W)
    ?hI ?hIx ?start
    (fun x => x.elim) ?assign ?body ?done ?stop
  case hI => exact OwnFrom.and (Own.from (fun s A B row hs hg hr => ⟨boxKept hs.1 hg hr, boxKept hs.2 hg hr⟩) _) (ownFrom_below (Nat.le_refl _) (by omega))
  case hIx => exact fun c => OwnFrom.and (Own.from (fun s A B row hs hg hr => hs) _) (ownFrom_below (Nat.le_refl _) (by omega))
  case start => exact ⟨⟨b1', b2'⟩, hB0⟩
  case assign => exact fun _ x => x.elim
  case body => exact fun _ _ x => x.elim
  case done =>
    rintro D ys W hD hys ⟨⟨hb1, hb2⟩, hB⟩ hK
    have hc1 := hb1.cell
    have hc2 := hb2.cell
    have hf1 := hb1.frozen
    have hf2 := hb2.frozen
    gi_wp2
    have hK' := ((KeepsOthers.setCell W ⟨w.heap.size + 1, 0, none⟩ (.int .i64 (-1))).trans (KeepsOthers.setCell _ ⟨w.heap.size + 1 + 1, 0, none⟩ (.pointer none))).same D _ hK rfl
    refine ⟨by simp, .inl ⟨_, _, rfl, run_takeDeferred hK', ?_⟩⟩
    have h4 := cell_kept ((hb1.set (.int .i64 (-1))).other (B' := w.heap.size + 1 + 1) (by omega) (.pointer none)).cell (grownBy_putObj' _ D (.deferred none)) (fun r e => by cases e; exact ⟨_, hK', rfl⟩)
    have h5 := cell_kept ((hb2.other (B' := w.heap.size + 1) (by omega) (.int .i64 (-1))).set (.pointer none)).cell (grownBy_putObj' _ D (.deferred none)) (fun r e => by cases e; exact ⟨_, hK', rfl⟩)
    refine ⟨.tuple #[.int .i64 (-1), .pointer none], ?_, rfl, ((hB.setCell (p := ⟨w.heap.size + 1, 0, none⟩) (by simp) _).setCell (p := ⟨w.heap.size + 1 + 1, 0, none⟩) (by simp; omega) _).trans (belowK_b (w := w) (Nat.le_refl _) _ D _ _ (by omega) hK' rfl rfl)⟩
    simp [results, Tryd.f30, go_sem, h4, h5]
  case stop =>
    rintro D c pre W hD _ ⟨h, _⟩ hK
    exact h.elim
theorem topnone_any {p : Option Addr} {w : World} (h : NoneSk p w) (k : Nat) : Calls Tryd.prog 30 #[.pointer p, .func (.func k) #[] #[]] w (Makes (.tuple #[.int .i64 (-1), .pointer none]) w) :=
  (callsIn_wide (n := 3)).1 (topnone_in 3 (by omega) h k)

theorem depth_nil {p : Option Addr} {w : World} (h : NoneSk p w) : Calls Tryd.prog 11 #[.pointer p] w (Says (.int .i64 0) w) := by
  have HN := Lib.hid (none_any h)
  clear h
  go_enter Tryd.func11, Tryd.ntmps11
  go_wp2_with fail
  refine (HN.out).mono ?_
  rintro e w1 ⟨rfl, rfl⟩
  go_wp2_with fail
  go_ret
  exact ⟨rfl, rfl⟩
theorem copy_nil {p : Option Addr} {w : World} (h : NoneSk p w) : Calls Tryd.prog 15 #[.pointer p] w (Says (.pointer none) w) := by
  have HN := Lib.hid (none_any h)
  clear h
  go_enter Tryd.func15, Tryd.ntmps15
  go_wp2_with fail
  refine (HN.out).mono ?_
  rintro e w1 ⟨rfl, rfl⟩
  go_wp2_with fail
  go_ret
  exact ⟨rfl, rfl⟩
theorem return_nil {p : Option Addr} {w : World} (h : NoneSk p w) (q : Bool) : Calls Tryd.prog 25 #[.pointer p, .bool q] w (Says (.int .i64 1) w) := by
  have HN := Lib.hid (none_any h)
  clear h
  go_enter Tryd.func25, Tryd.ntmps25
  go_wp2_with fail
  refine (HN.out).mono ?_
  rintro e w1 ⟨rfl, rfl⟩
  go_wp2_with fail
  go_ret
  exact ⟨rfl, rfl⟩
theorem shift_nil {p : Option Addr} {w : World} (h : NoneSk p w) (z : Int) : Calls Tryd.prog 27 #[.pointer p, .int .i64 z] w (Says (.int .i64 1) w) := by
  have HN := Lib.hid (none_any h)
  clear h
  go_enter Tryd.func27, Tryd.ntmps27
  go_wp2_with fail
  refine (HN.out).mono ?_
  rintro e w1 ⟨rfl, rfl⟩
  go_wp2_with fail
  go_ret
  exact ⟨rfl, rfl⟩
theorem line_nil {p : Option Addr} {w : World} (h : NoneSk p w) : Calls Tryd.prog 12 #[.pointer p] w (Makes (.int .i64 0) w) := by
  have HT := Lib.hid (topnone_any h 31)
  clear h
  go_enter Tryd.func12, Tryd.ntmps12
  go_wp2_with fail
  refine (HT.out).mono ?_
  rintro e w1 ⟨rfl, hb1⟩
  go_wp2_with fail
  go_ret
  exact ⟨rfl, hb1⟩
theorem name_nil {p : Option Addr} {w : World} (h : NoneSk p w) : Calls Tryd.prog 13 #[.pointer p] w (Makes (.string ⟨#[]⟩) w) := by
  have HT := Lib.hid (topnone_any h 32)
  clear h
  go_enter Tryd.func13, Tryd.ntmps13
  go_wp2_with fail
  refine (HT.out).mono ?_
  rintro e w1 ⟨rfl, hb1⟩
  go_wp2_with fail
  go_ret
  exact ⟨rfl, hb1⟩
theorem args_nil {p : Option Addr} {w : World} (h : NoneSk p w) : Calls Tryd.prog 14 #[.pointer p] w (Makes (.slice none 0 0) w) := by
  have HT := Lib.hid (topnone_any h 33)
  clear h
  go_enter Tryd.func14, Tryd.ntmps14
  go_wp2_with fail
  refine (HT.out).mono ?_
  rintro e w1 ⟨rfl, hb1⟩
  go_wp2_with fail
  go_ret
  exact ⟨rfl, hb1⟩

abbrev zeroLn : Value := .agg #[.string ⟨#[]⟩, .bool false, .int .i64 0, .int .i64 0, .slice none 0 0]
set_option maxRecDepth 100000 in
set_option maxHeartbeats 4000000 in
theorem next_nil {p : Option Addr} {w : World} (h : NoneSk p w) : Calls Tryd.prog 19 #[.pointer p] w (Makes (.tuple #[zeroLn, .int .i64 1]) w) := by
  have hB0 : Below w.heap.size w (w.alloc (.cells #[.string ⟨#[]⟩, .bool false, .int .i64 0, .int .i64 0, .slice none 0 0] 37)) := (Below.refl _ _).alloc (Nat.le_refl _) _
  have HN := Lib.hid (none_any (h.below hB0))
  have HB0 := Lib.hid hB0
  have HR := Lib.hid (show (w.alloc (.cells #[.string ⟨#[]⟩, .bool false, .int .i64 0, .int .i64 0, .slice none 0 0] 37)).heap[w.heap.size]? = some (.cells #[.string ⟨#[]⟩, .bool false, .int .i64 0, .int .i64 0, .slice none 0 0] 37 (0, 0)) from heap_alloc_new w _)
  clear h hB0
  go_enter Tryd.func19, Tryd.ntmps19
  go_wp2_with fail
  refine (HN.out).mono ?_
  rintro e w1 ⟨rfl, rfl⟩
  obtain ⟨⟨r0, r1, r2, r3, r4⟩, f0, f1, f2, f3, f4⟩ := cells5 HR.out
  go_wp2_with fail
  exact bodyPost_ret (v := .tuple #[zeroLn, .int .i64 1]) (by simp [results, Tryd.results19, go_sem, (cells5 HR.out).1]) rfl ⟨rfl, HB0.out⟩
set_option maxRecDepth 100000 in
set_option maxHeartbeats 4000000 in
theorem peek_nil {p : Option Addr} {w : World} (h : NoneSk p w) : Calls Tryd.prog 24 #[.pointer p] w (Makes (.tuple #[zeroLn, .int .i64 1]) w) := by
  have hB0 : Below w.heap.size w (w.alloc (.cells #[.string ⟨#[]⟩, .bool false, .int .i64 0, .int .i64 0, .slice none 0 0] 37)) := (Below.refl _ _).alloc (Nat.le_refl _) _
  have HN := Lib.hid (none_any (h.below hB0))
  have HB0 := Lib.hid hB0
  have HR := Lib.hid (show (w.alloc (.cells #[.string ⟨#[]⟩, .bool false, .int .i64 0, .int .i64 0, .slice none 0 0] 37)).heap[w.heap.size]? = some (.cells #[.string ⟨#[]⟩, .bool false, .int .i64 0, .int .i64 0, .slice none 0 0] 37 (0, 0)) from heap_alloc_new w _)
  clear h hB0
  go_enter Tryd.func24, Tryd.ntmps24
  go_wp2_with fail
  refine (HN.out).mono ?_
  rintro e w1 ⟨rfl, rfl⟩
  obtain ⟨⟨r0, r1, r2, r3, r4⟩, f0, f1, f2, f3, f4⟩ := cells5 HR.out
  go_wp2_with fail
  exact bodyPost_ret (v := .tuple #[zeroLn, .int .i64 1]) (by simp [results, Tryd.results24, go_sem, (cells5 HR.out).1]) rfl ⟨rfl, HB0.out⟩

/-- A frame, or none. -/
def FrAnyP (w : World) (e : Ending) (w' : World) : Prop :=
  ∃ (f : FrC) (la : Option Addr) (lc : Nat) (aa : Option Addr) (ac : Nat) (q : Bool), e = .returned (.tuple #[.agg #[.int .i64 f.kind, .string f.name, .slice la f.lines.length lc, .int .i64 f.next, .slice aa f.args.length ac], .bool q]) ∧ Below w.heap.size w w'
theorem FrameP.toAny {kind : Int} {name : ByteArray} {l : List LineC} {args : List ByteArray} {w : World} {e : Ending} {w' : World} (h : FrameP kind name l args w e w') : FrAnyP w e w' := by
  obtain ⟨la, lc, aa, ac, rfl, hb, _⟩ := h
  exact ⟨⟨kind, name, l, 0, args⟩, la, lc, aa, ac, true, rfl, hb⟩
theorem NoFrameP.toAny {w : World} {e : Ending} {w' : World} (h : NoFrameP w e w') : FrAnyP w e w' := by
  obtain ⟨rfl, hb⟩ := h
  exact ⟨⟨0, ⟨#[]⟩, [], 0, []⟩, none, 0, none, 0, false, rfl, hb⟩
theorem fileOf_some (s t : ByteArray) (w : World) (ht : t.size ≤ 100000) : Calls Tryd.prog 43 #[.string s, .string t] w (FrAnyP w) := by
  cases hs : canB s
  · exact (fileOf_name s t w hs).mono fun _ _ h => h.toAny
  · rcases Nat.lt_or_ge 20000 (Lib.countB t nlB) with hc | hc
    · exact (fileOf_many s t w hs hc).mono fun _ _ h => h.toAny
    · cases hg : goodC (textC (linesT t))
      · exact (fileOf_bad s t w ht hs hc hg).mono fun _ _ h => h.toAny
      · exact (fileOf_ok s t w ht hs hc hg).mono fun _ _ h => h.toAny
theorem waitOf_some (ao : Option Addr) (c : Nat) (l : List LineC) (w : World) (h : LinesRd (· < w.heap.size) (.slice ao l.length c) l w) (hf : Fit l) : Calls Tryd.prog 38 #[.slice ao l.length c] w (FrAnyP w) := by
  cases hg : goodC l
  · exact (waitOf_bad ao c l w h hf hg).mono fun _ _ h => h.toAny
  · exact (waitOf_ok ao c l w h hf hg).mono fun _ _ h => h.toAny
theorem macroOf_some (s : ByteArray) (ao : Option Addr) (c : Nat) (l : List LineC) (aa : Option Addr) (ac : Nat) (xs : List ByteArray) (w : World) (h : LinesRd (· < w.heap.size) (.slice ao l.length c) l w) (hf : Fit l) (ha : StrsRd (· < w.heap.size) (.slice aa xs.length ac) xs w) (hal : xs.length * 16 ≤ 140737488355328) :
    Calls Tryd.prog 37 #[.string s, .slice ao l.length c, .slice aa xs.length ac] w (FrAnyP w) := by
  cases hs : canB s
  · exact (macroOf_name s _ _ w hs).mono fun _ _ h => h.toAny
  · cases hg : goodC l
    · exact (macroOf_bad s ao c l _ w h hf hs hg).mono fun _ _ h => h.toAny
    · exact (macroOf_ok s ao c l aa ac xs w h hf ha hal hs hg).mono fun _ _ h => h.toAny
theorem file_nil {p : Option Addr} {w : World} (h : NoneSk p w) (s t : ByteArray) (ht : t.size ≤ 100000) : Calls Tryd.prog 23 #[.pointer p, .string s, .string t] w (Makes (.int .i64 1) w) := by
  have HF := Lib.hid (fileOf_some s t w ht)
  have HH := Lib.hid h
  clear h
  go_enter Tryd.func23, Tryd.ntmps23
  go_wp2_with fail
  refine (HF.out).mono ?_
  rintro e w1 ⟨f, la, lc, aa, ac, q, rfl, hb1⟩
  have HP := Lib.hid (put_none_any (p := .pointer p) (w := w1) (fun W hW => none_any ((HH.out.below hb1).below hW)) f la lc aa ac q)
  have HB1 := Lib.hid hb1
  clear hb1 HF
  go_wp2_with fail
  refine (HP.out).mono ?_
  rintro e w2 ⟨rfl, hb2⟩
  have HB2 := Lib.hid (HB1.out.trans (Below.mono hb2 HB1.out.size))
  go_wp2_with fail
  go_ret
  exact ⟨rfl, HB2.out⟩
theorem wait_nil {p : Option Addr} {w : World} (h : NoneSk p w) (ao : Option Addr) (c : Nat) (l : List LineC) (hr : LinesRd (· < w.heap.size) (.slice ao l.length c) l w) (hf : Fit l) : Calls Tryd.prog 18 #[.pointer p, .slice ao l.length c] w (Makes (.int .i64 1) w) := by
  have HF := Lib.hid (waitOf_some ao c l w hr hf)
  have HH := Lib.hid h
  clear h hr hf
  go_enter Tryd.func18, Tryd.ntmps18
  go_wp2_with fail
  refine (HF.out).mono ?_
  rintro e w1 ⟨f, la, lc, aa, ac, q, rfl, hb1⟩
  have HP := Lib.hid (put_none_any (p := .pointer p) (w := w1) (fun W hW => none_any ((HH.out.below hb1).below hW)) f la lc aa ac q)
  have HB1 := Lib.hid hb1
  clear hb1 HF
  go_wp2_with fail
  refine (HP.out).mono ?_
  rintro e w2 ⟨rfl, hb2⟩
  have HB2 := Lib.hid (HB1.out.trans (Below.mono hb2 HB1.out.size))
  go_wp2_with fail
  go_ret
  exact ⟨rfl, HB2.out⟩
theorem macro_nil {p : Option Addr} {w : World} (h : NoneSk p w) (s : ByteArray) (ao : Option Addr) (c : Nat) (l : List LineC) (aa : Option Addr) (ac : Nat) (xs : List ByteArray) (hr : LinesRd (· < w.heap.size) (.slice ao l.length c) l w) (hf : Fit l) (ha : StrsRd (· < w.heap.size) (.slice aa xs.length ac) xs w) (hal : xs.length * 16 ≤ 140737488355328) :
    Calls Tryd.prog 17 #[.pointer p, .string s, .slice ao l.length c, .slice aa xs.length ac] w (Makes (.int .i64 1) w) := by
  have HF := Lib.hid (macroOf_some s ao c l aa ac xs w hr hf ha hal)
  have HH := Lib.hid h
  clear h hr hf ha hal
  go_enter Tryd.func17, Tryd.ntmps17
  go_wp2_with fail
  refine (HF.out).mono ?_
  rintro e w1 ⟨f, la, lc, aa', ac', q, rfl, hb1⟩
  have HP := Lib.hid (put_none_any (p := .pointer p) (w := w1) (fun W hW => none_any ((HH.out.below hb1).below hW)) f la lc aa' ac' q)
  have HB1 := Lib.hid hb1
  clear hb1 HF
  go_wp2_with fail
  refine (HP.out).mono ?_
  rintro e w2 ⟨rfl, hb2⟩
  have HB2 := Lib.hid (HB1.out.trans (Below.mono hb2 HB1.out.size))
  go_wp2_with fail
  go_ret
  exact ⟨rfl, HB2.out⟩
theorem instead_nil {p : Option Addr} {w : World} (h : NoneSk p w) (s t : ByteArray) (ht : t.size ≤ 100000) : Calls Tryd.prog 26 #[.pointer p, .string s, .string t] w (Makes (.int .i64 1) w) := by
  have HF := Lib.hid (fileOf_some s t w ht)
  have HH := Lib.hid h
  clear h
  go_enter Tryd.func26, Tryd.ntmps26
  go_wp2_with fail
  refine (HF.out).mono ?_
  rintro e w1 ⟨f, la, lc, aa, ac, q, rfl, hb1⟩
  have hb2 : Below w1.heap.size w1 (w1.alloc (.cells #[.int .i64 f.kind, .string f.name, .slice la f.lines.length lc, .int .i64 f.next, .slice aa f.args.length ac] 64)) := (Below.refl _ _).alloc (Nat.le_refl _) _
  have HN := Lib.hid (none_any ((HH.out.below hb1).below hb2))
  have HB2 := Lib.hid (hb1.trans (Below.mono hb2 hb1.size))
  clear hb1 hb2 HF
  go_wp2_with fail
  refine (HN.out).mono ?_
  rintro e w2 ⟨rfl, rfl⟩
  go_wp2_with fail
  go_ret
  exact ⟨rfl, HB2.out⟩
end Go.Proofs.YtkocgedliakclaaDoor
