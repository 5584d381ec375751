/- What is cut off the front of a text: the extents, and the function literal that remembers. -/
import Derived.Test.YtjbaljibaejdgaaDoorRqLeaf
import Derived.Shelf.Strings.SlTrimAscii
namespace Go.Proofs.YtjbaljibaejdgaaDoor
open Go.RowKit Go.PlainAid Go.Shelf

theorem trimL_any (l cs : List UInt8) (hcs : cs.length < 1000) (ha : ∀ (j : Nat) b, cs[j]? = some b → b.toNat < 128) (w : World) :
    Calls Tryd.prog 29 #[.string (mk8 l), .string (mk8 cs)] w (Makes (.string (mk8 (Lib.trimLeftS l cs))) w) :=
  Any.strings_TrimLeft_laid Tryd.trimLL (by kernel_rfl) (mk8 l) (mk8 cs) w (by rw [mk8_size]; omega) ha
theorem blkN_len (l : List UInt8) : (l.dropWhile blk).length = l.length - blkN l := by rw [blkN_drop, List.length_drop]

set_option maxRecDepth 100000 in
theorem blanks_any (l : List UInt8) (hl : l.length ≤ 4611686018427387904) (w : World) : Calls Tryd.prog 13 #[.string (mk8 l)] w (Makes (.int .i64 (blkN l)) w) := by
  have HT := Lib.hid (trimL_any l [32, 9] (by decide) (ascii_of_all (by decide)) w)
  rw [trim_blk] at HT
  have h1 := blkN_le l
  have h2 := blkN_len l
  have z1 : ((mk8 l).size : Int) = l.length := by rw [mk8_size]
  have z2 : ((mk8 (l.dropWhile blk)).size : Int) = l.length - blkN l := by rw [mk8_size, h2]; omega
  obtain ⟨n, hn⟩ : ∃ n, blkN l = n := ⟨_, rfl⟩
  rw [hn] at h1 z2 ⊢
  obtain ⟨r, hr⟩ : ∃ r, mk8 (l.dropWhile blk) = r := ⟨_, rfl⟩
  rw [hr] at HT z2
  have HV : (l.length : Int) - ((l.length : Int) - n) = n := by omega
  clear h2 hn hr
  go_enter Tryd.func13, Tryd.ntmps13
  go_wp2_with fail
  refine HT.out.mono ?_
  rintro e w1 ⟨rfl, hb⟩
  go_wp2_with fail
  go_ret
  exact ⟨rfl, hb⟩
/-- How often a byte stands at the front. -/
def exN (c : UInt8) (l : List UInt8) : Nat := (l.takeWhile (· == c)).length
theorem exN_le (c : UInt8) (l : List UInt8) : exN c l ≤ l.length := by
  unfold exN
  have h := congrArg List.length (List.takeWhile_append_dropWhile (p := (· == c)) (l := l))
  rw [List.length_append] at h
  omega
theorem trim_ex (l : List UInt8) (c : UInt8) : (Lib.trimLeftS l [c]).length = l.length - exN c l := by
  rw [Lib.trimLeftS_one]
  unfold Lib.trimLeftB exN
  rw [dropW_drop, List.length_drop]

set_option maxRecDepth 100000 in
theorem turns_any (l : List UInt8) (hl : l.length ≤ 4611686018427387904) (w : World) : Calls Tryd.prog 14 #[.string (mk8 l)] w (Makes (.int .i64 (exN 33 l)) w) := by
  have HT := Lib.hid (trimL_any l [33] (by decide) (ascii_of_all (by decide)) w)
  have h1 := exN_le 33 l
  have h2 := trim_ex l 33
  have z1 : ((mk8 l).size : Int) = l.length := by rw [mk8_size]
  have z2 : ((mk8 (Lib.trimLeftS l [33])).size : Int) = l.length - exN 33 l := by rw [mk8_size, h2]; omega
  obtain ⟨n, hn⟩ : ∃ n, exN 33 l = n := ⟨_, rfl⟩
  rw [hn] at h1 z2 ⊢
  obtain ⟨r, hr⟩ : ∃ r, mk8 (Lib.trimLeftS l [33]) = r := ⟨_, rfl⟩
  rw [hr] at HT z2
  have HV : (l.length : Int) - ((l.length : Int) - n) = n := by omega
  clear h2 hn hr
  go_enter Tryd.func14, Tryd.ntmps14
  go_wp2_with fail
  refine HT.out.mono ?_
  rintro e w1 ⟨rfl, hb⟩
  go_wp2_with fail
  go_ret
  exact ⟨rfl, hb⟩

set_option maxRecDepth 100000 in
theorem toBlank_any (l : List UInt8) (hl : l.length < 4294967281) (w : World) : Calls Tryd.prog 18 #[.string (mk8 l)] w (Makes (.int .i64 (wordN l)) w) := by
  have HI := Lib.hid (index_any (mk8 l) ⟨#[32, 9]⟩ w (by decide) (by decide) cut_two (by rw [mk8_size]; exact hl))
  have hw := wordN_any l
  have z1 : ((mk8 l).size : Int) = l.length := by rw [mk8_size]
  obtain ⟨z, hz⟩ : ∃ z, Lib.indexAny l [32, 9] = z := ⟨_, rfl⟩
  have hz' : Lib.indexAny (mk8 l).data.toList (⟨#[32, 9]⟩ : ByteArray).data.toList = z := hz
  rw [hz'] at HI
  rw [hz] at hw
  clear hz hz'
  by_cases h0 : z < 0
  · rw [if_pos h0] at hw
    rw [hw]
    have hz0 : ¬ 0 ≤ z := by omega
    clear hw
    go_enter Tryd.func18, Tryd.ntmps18
    go_wp2_with fail
    refine HI.out.mono ?_
    rintro e w1 ⟨rfl, hb⟩
    go_wp2_with fail
    go_ret
    exact ⟨rfl, hb⟩
  · rw [if_neg h0] at hw
    have hz0 : 0 ≤ z := by omega
    have HE : Hid ((wordN l : Int) = z) := by show _ = _; rw [hw]; omega
    clear hw
    go_enter Tryd.func18, Tryd.ntmps18
    go_wp2_with fail
    refine HI.out.mono ?_
    rintro e w1 ⟨rfl, hb⟩
    go_wp2_with fail
    go_ret
    exact ⟨by rw [HE.out]; rfl, hb⟩
def oneN (l : List UInt8) : Nat := min 1 l.length
theorem one_any (l : List UInt8) (w : World) : Calls Tryd.prog 19 #[.string (mk8 l)] w (Makes (.int .i64 (oneN l)) w) := by
  have z1 : ((mk8 l).size : Int) = l.length := by rw [mk8_size]
  have HV : Hid (min (1 : Int) l.length = oneN l) := by show _ = _; unfold oneN; omega
  go_enter Tryd.func19, Tryd.ntmps19
  go_wp2_with fail
  go_ret
  exact ⟨by rw [← HV.out]; rfl, Below.refl _ _⟩
theorem whole_any (l : List UInt8) (w : World) : Calls Tryd.prog 16 #[.string (mk8 l)] w (Makes (.int .i64 l.length) w) := by
  have z1 : ((mk8 l).size : Int) = l.length := by rw [mk8_size]
  go_enter Tryd.func16, Tryd.ntmps16
  go_wp2_with fail
  go_ret
  exact ⟨rfl, Below.refl _ _⟩

/-- Block b is the cutter's own: what is left. -/
def Box (b : Nat) (l : List UInt8) (w : World) : Prop := w.heap[b]? = some (.cells #[.string (mk8 l)] 9 (0, 0))
theorem Box.lt {b : Nat} {l : List UInt8} {w : World} (h : Box b l w) : b < w.heap.size := (Array.getElem?_eq_some_iff.1 h).1
theorem Box.c0 {b : Nat} {l : List UInt8} {w : World} (h : Box b l w) : w.cell? ⟨b, 0, none⟩ = some (.string (mk8 l)) := by simp [World.cell?, show w.heap[b]? = _ from h]
theorem Box.fz {b : Nat} {l : List UInt8} {w : World} (h : Box b l w) : w.frozen? ⟨b, 0, none⟩ = false := by simp [World.frozen?, show w.heap[b]? = _ from h]
theorem Box.below {b : Nat} {l : List UInt8} {w w' : World} (h : Box b l w) (hb : Below w.heap.size w w') : Box b l w' := by
  unfold Box; rw [hb.block b h.lt]; exact h
theorem Box.set {b : Nat} {l : List UInt8} {w : World} (h : Box b l w) (m : List UInt8) : Box b m (w.setCell ⟨b, 0, none⟩ (.string (mk8 m))) := by
  have hlt := h.lt
  have h' : w.heap[b] = .cells #[.string (mk8 l)] 9 (0, 0) := by have h2 : w.heap[b]? = _ := h; simpa [Array.getElem?_eq_getElem hlt] using h2
  show (w.heap.modify b _)[b]? = _
  rw [Array.getElem?_eq_getElem (by simpa using hlt), Array.getElem_modify_self, h']
  rfl
/-- Only block b, and new ones, have turned. -/
structure Only (b : Nat) (w w' : World) : Prop where
  os : w'.os = w.os
  tape : w'.tape = w.tape
  output : w'.output = w.output
  size : w.heap.size ≤ w'.heap.size
  block : ∀ k, k < w.heap.size → k ≠ b → w'.heap[k]? = w.heap[k]?
theorem Only.refl (b : Nat) (w : World) : Only b w w := ⟨rfl, rfl, rfl, Nat.le_refl _, fun _ _ _ => rfl⟩
theorem Only.trans {b : Nat} {a w c : World} (h : Only b a w) (k : Only b w c) : Only b a c :=
  ⟨k.os.trans h.os, k.tape.trans h.tape, k.output.trans h.output, Nat.le_trans h.size k.size, fun i hi hb => (k.block i (Nat.lt_of_lt_of_le hi h.size) hb).trans (h.block i hi hb)⟩
theorem Only.set {b k : Nat} {a w : World} (h : Only b a w) (u : Value) : Only b a (w.setCell ⟨b, k, none⟩ u) :=
  h.trans ⟨rfl, rfl, rfl, by simp [World.setCell], fun i _ hb => Below.heap_setCell _ ⟨b, k, none⟩ _ _ hb⟩
theorem only_of {b : Nat} {w w' : World} (h : Below w.heap.size w w') : Only b w w' := ⟨h.os, h.tape, h.output, h.size, fun k hk _ => h.block k hk⟩
theorem Only.below {b B : Nat} {w w' : World} (h : Only b w w') (h1 : B ≤ b) (h2 : B ≤ w.heap.size) : Below B w w' :=
  ⟨h.os, h.tape, h.output, h.size, fun k hk => h.block k (by omega) (by omega)⟩
/-- What is cut off, and what is left. -/
def CutP (b n : Nat) (l : List UInt8) (w : World) (e : Ending) (w' : World) : Prop := e = .returned (.string (mk8 (l.take n))) ∧ Box b (l.drop n) w' ∧ Only b w w'

set_option maxRecDepth 100000 in
set_option maxHeartbeats 2000000 in
theorem cut_any (b n : Nat) (l : List UInt8) (fn : FuncId) (cap : Array Value) (w : World) (h : Box b l w) (hn : n ≤ l.length)
    (hcf : ∀ w', (callFunc fn (#[.string (mk8 l)] ++ cap)).run Tryd.prog w' = .ok (.enter fn (#[.string (mk8 l)] ++ cap)) w')
    (hc : Calls Tryd.prog fn (#[.string (mk8 l)] ++ cap) w (Makes (.int .i64 n) w)) :
    Calls Tryd.prog 28 #[.func (.func fn) #[] cap, .pointer (some ⟨b, 0, none⟩)] w (CutP b n l w) := by
  have k0 := h.c0
  have z1 : ((mk8 l).size : Int) = l.length := by rw [mk8_size]
  have z2 := mk8_size l
  have HC := Lib.hid hc
  have HB := Lib.hid h
  have F := Lib.hid (mk8_front l n)
  have T := Lib.hid (show (mk8 l).extract n l.length = mk8 (l.drop n) from by rw [mk8_ext, List.take_length])
  have hnz : (n : Int) ≤ (mk8 l).size := by omega
  have hnz0 : (0 : Int) ≤ n := by omega
  clear hc h
  go_enter Tryd.func28, Tryd.ntmps28
  go_wp2_with fail
  refine HC.out.mono ?_
  rintro e w1 ⟨rfl, hb⟩
  have H1 := Lib.hid (HB.out.below hb)
  have k1 := H1.out.c0
  have f1 := H1.out.fz
  have HBL := Lib.hid hb
  clear hb k0
  go_wp2_with fail
  go_ret
  rw [T.out, F.out]
  exact ⟨rfl, H1.out.set _, (only_of HBL.out).set _⟩
theorem enters_blanks (args : Array Value) (w : World) : (callFunc 13 args).run Tryd.prog w = .ok (.enter 13 args) w := by kernel_rfl
theorem enters_toBlank (args : Array Value) (w : World) : (callFunc 18 args).run Tryd.prog w = .ok (.enter 18 args) w := by kernel_rfl
theorem enters_one (args : Array Value) (w : World) : (callFunc 19 args).run Tryd.prog w = .ok (.enter 19 args) w := by kernel_rfl
theorem enters_whole (args : Array Value) (w : World) : (callFunc 16 args).run Tryd.prog w = .ok (.enter 16 args) w := by kernel_rfl
theorem enters_turns (args : Array Value) (w : World) : (callFunc 14 args).run Tryd.prog w = .ok (.enter 14 args) w := by kernel_rfl
theorem enters_cut (args : Array Value) (w : World) : (callFunc 28 args).run Tryd.prog w = .ok (.enter 28 args) w := by kernel_rfl
theorem cut_fn (b n : Nat) (l : List UInt8) (fn : FuncId) (w : World) (h : Box b l w) (hn : n ≤ l.length)
    (hcf : ∀ args w', (callFunc fn args).run Tryd.prog w' = .ok (.enter fn args) w')
    (hc : Calls Tryd.prog fn #[.string (mk8 l)] w (Makes (.int .i64 n) w)) :
    Calls Tryd.prog 28 #[.func (.func fn) #[] #[], .pointer (some ⟨b, 0, none⟩)] w (CutP b n l w) :=
  cut_any b n l fn #[] w h hn (hcf _) (by simpa using hc)
theorem cut_blanks (b : Nat) (l : List UInt8) (hl : l.length ≤ 1000000) (w : World) (h : Box b l w) : Calls Tryd.prog 28 #[.func (.func 13) #[] #[], .pointer (some ⟨b, 0, none⟩)] w (CutP b (blkN l) l w) :=
  cut_fn b _ l _ w h (blkN_le l) enters_blanks (blanks_any l (by omega) w)
theorem cut_word (b : Nat) (l : List UInt8) (hl : l.length ≤ 1000000) (w : World) (h : Box b l w) : Calls Tryd.prog 28 #[.func (.func 18) #[] #[], .pointer (some ⟨b, 0, none⟩)] w (CutP b (wordN l) l w) :=
  cut_fn b _ l _ w h (wordN_le l) enters_toBlank (toBlank_any l (by omega) w)
theorem cut_one (b : Nat) (l : List UInt8) (w : World) (h : Box b l w) : Calls Tryd.prog 28 #[.func (.func 19) #[] #[], .pointer (some ⟨b, 0, none⟩)] w (CutP b (oneN l) l w) :=
  cut_fn b _ l _ w h (by unfold oneN; omega) enters_one (one_any l w)
theorem cut_whole (b : Nat) (l : List UInt8) (w : World) (h : Box b l w) : Calls Tryd.prog 28 #[.func (.func 16) #[] #[], .pointer (some ⟨b, 0, none⟩)] w (CutP b l.length l w) :=
  cut_fn b _ l _ w h (Nat.le_refl _) enters_whole (whole_any l w)
theorem cut_turns (b : Nat) (l : List UInt8) (hl : l.length ≤ 1000000) (w : World) (h : Box b l w) : Calls Tryd.prog 28 #[.func (.func 14) #[] #[], .pointer (some ⟨b, 0, none⟩)] w (CutP b (exN 33 l) l w) :=
  cut_fn b _ l _ w h (exN_le 33 l) enters_turns (turns_any l (by omega) w)
/-- A cutter is made. -/
def CutterP (l : List UInt8) (w : World) (e : Ending) (w' : World) : Prop := e = .returned (.func (.func 28) #[] #[.pointer (some ⟨w.heap.size, 0, none⟩)]) ∧ Box w.heap.size l w' ∧ Below w.heap.size w w'
theorem box_new (l : List UInt8) (w : World) : Box w.heap.size l (w.alloc (.cells #[.string (mk8 l)] 9)) := heap_alloc_new w _
theorem cutter_any (l : List UInt8) (w : World) : Calls Tryd.prog 12 #[.string (mk8 l)] w (CutterP l w) := by
  have hmf : ∀ (fn : Fn) (first cap : Array Value) (w : World), (Instr.makeFunc fn first cap).run Tryd.prog w = .ok (.func fn first cap) w := fun _ _ _ _ => rfl
  go_enter Tryd.func12, Tryd.ntmps12
  go_wp2_with fail
  go_ret
  exact ⟨rfl, box_new l w, (Below.refl _ _).alloc (Nat.le_refl _) _⟩
end Go.Proofs.YtjbaljibaejdgaaDoor
