/- Macros in a store: Macro of a new name, Lines of a macro. -/
import Derived.Test.YtkocgedliakclaaDoorStCopied
import Derived.Test.YtkocgedliakclaaDoorStAre
import Derived.Test.YtkocgedliakclaaDoorStOps
namespace Go.Proofs.YtkocgedliakclaaDoor
open Go.RowKit Go.PlainAid Go.Maps Go.Shelf

def headOf (x : LineC) (ba : Option Addr) (bc : Nat) : LineV := ⟨x.text, x.made, x.up, x.down, ba, x.boxes.length, bc⟩
/-- Is a line one? -/
def lineC (x : LineC) : Bool := lineB (headOf x none 0)
def linesC (l : List LineC) : Bool := l.all lineC
theorem lineB_head (x : LineC) (ba : Option Addr) (bc : Nat) : lineB (headOf x ba bc) = lineC x := rfl
theorem heads_of {S : Nat → Prop} {ao : Option Addr} {c : Nat} {l : List LineC} {w : World} (h : LinesRd S (.slice ao l.length c) l w) (hf : ∀ x ∈ l, x.text.size ≤ maxLen) : ∃ X, LinesAt ao l.length X w ∧ linesB X l.length = linesC l := by
  have hlt := h.lt
  obtain ⟨ao', cap, e, hm, b, off, h1, h2⟩ := hlt
  cases e
  have each : ∀ i, ∃ y : LineV, ∀ h : i < l.length, ∃ ba bc, y = headOf l[i] ba bc ∧ LineOk y ∧ LineAt b (off + i * 5) y w := by
    intro i
    by_cases hi : i < l.length
    · obtain ⟨u, hu⟩ := h2 i hi
      obtain ⟨c0, c1, c2, c3, c4, hb⟩ := hu
      obtain ⟨ba, bc, rfl, hbn, _⟩ := hb
      exact ⟨headOf l[i] ba bc, fun _ => ⟨ba, bc, rfl, ⟨hf _ (List.getElem_mem hi), hbn⟩, ⟨c0, c1, c2, c3, c4⟩⟩⟩
    · exact ⟨⟨⟨#[]⟩, false, 0, 0, none, 0, 0⟩, fun h => absurd h hi⟩
  obtain ⟨X, hX⟩ := Classical.axiomOfChoice each
  have hB : ∀ i (h : i < l.length), lineB (X i) = lineC l[i] := fun i h => by
    obtain ⟨ba, bc, e, _⟩ := hX i h
    rw [e, lineB_head]
  refine ⟨X, ⟨b, off, h1, fun i hi => ?_⟩, ?_⟩
  · obtain ⟨_, _, _, h3, h4⟩ := hX i hi
    exact ⟨h3, h4⟩
  · rw [Bool.eq_iff_iff]
    simp only [linesB, linesC, List.all_eq_true, List.mem_range]
    constructor
    · intro h x hx
      obtain ⟨i, hi, rfl⟩ := List.getElem_of_mem hx
      rw [← hB i hi]
      exact h i hi
    · intro h i hi
      rw [hB i hi]
      exact h _ (List.getElem_mem hi)

/-- Lines of one's own, all of which lies between two marks. -/
def OwnIn (lo hi : Nat) (v : Value) (l : List LineC) (w : World) : Prop :=
  (v = .slice none 0 0 ∧ l = []) ∨ ∃ g cap cur, v = .slice (some ⟨g, 0, none⟩) l.length cap ∧ lo ≤ g ∧ g < hi ∧ w.heap[g]? = some (.cells cur 37 (0, 0)) ∧ l.length ≤ cap ∧ cap ≤ maxLen ∧ cur.size = cap * 5 ∧
    ∀ i (h : i < l.length), ∃ u, LineIn (fun k => lo ≤ k ∧ k < hi ∧ k ≠ g) g (i * 5) l[i] u w
theorem LineIn.both {S : Nat → Prop} {b off : Nat} {x : LineC} {v : Value} {w : World} (h : LineIn S b off x v w) : LineIn (fun b => S b ∧ b < w.heap.size) b off x v w :=
  ⟨h.c0, h.c1, h.c2, h.c3, h.c4, h.boxes.both⟩
theorem OwnLines.isIn {B : Nat} {v : Value} {l : List LineC} {w : World} (h : OwnLines B v l w) : OwnIn B w.heap.size v l w := by
  rcases h with ⟨rfl, rfl⟩ | ⟨g, cap, cur, rfl, hg, hh, h3, h4, h5, h6⟩
  · exact .inl ⟨rfl, rfl⟩
  · refine .inr ⟨g, cap, cur, rfl, hg, (Array.getElem?_eq_some_iff.1 hh).1, hh, h3, h4, h5, fun i hi => ?_⟩
    obtain ⟨u, hu⟩ := h6 i hi
    exact ⟨u, hu.both.mono fun k hk => ⟨hk.1.1, hk.2, hk.1.2⟩⟩
theorem OwnIn.stay {lo hi : Nat} {v : Value} {l : List LineC} {w w' : World} (h : OwnIn lo hi v l w) (hs : ∀ k, lo ≤ k → k < hi → w'.heap[k]? = w.heap[k]?) : OwnIn lo hi v l w' := by
  rcases h with ⟨rfl, rfl⟩ | ⟨g, cap, cur, rfl, hg, hg2, hh, h3, h4, h5, h6⟩
  · exact .inl ⟨rfl, rfl⟩
  · refine .inr ⟨g, cap, cur, rfl, hg, hg2, by rw [hs g hg hg2]; exact hh, h3, h4, h5, fun i hi => ?_⟩
    obtain ⟨u, hu⟩ := h6 i hi
    refine ⟨u, hu.moved (fun k _ => ?_) fun k off hk => ?_⟩
    · simp [World.cell?, hs g hg hg2]
    · simp [World.cell?, hs k hk.1.1 hk.1.2.1]
theorem OwnIn.rd {lo hi : Nat} {v : Value} {l : List LineC} {w : World} (h : OwnIn lo hi v l w) (hm : l.length ≤ maxLen) : LinesRd (fun k => lo ≤ k ∧ k < hi) v l w := by
  rcases h with ⟨rfl, rfl⟩ | ⟨g, cap, cur, rfl, hg, hg2, _, _, _, _, h2⟩
  · exact ⟨none, 0, rfl, Nat.zero_le _, 0, 0, fun h => absurd h (Nat.lt_irrefl _), fun i hi => absurd hi (Nat.not_lt_zero _)⟩
  · refine ⟨_, cap, rfl, hm, g, 0, fun _ => ⟨rfl, hg, hg2⟩, fun i hi => ?_⟩
    obtain ⟨u, hu⟩ := h2 i hi
    rw [Nat.zero_add]
    exact ⟨u, hu.mono fun _ h => ⟨h.1, h.2.1⟩⟩
theorem OwnLines.form {B : Nat} {v : Value} {l : List LineC} {w : World} (h : OwnLines B v l w) : ∃ la lc, v = .slice la l.length lc := by
  rcases h with ⟨rfl, rfl⟩ | ⟨g, cap, _, rfl, _⟩
  · exact ⟨_, _, rfl⟩
  · exact ⟨_, _, rfl⟩

section
variable {B b mb n : Nat} {D : DataW Unit} {E : Nat → Option Ent} {w : World}
def MacP (B b mb n : Nat) (D : DataW Unit) (E : Nat → Option Ent) (s : ByteArray) (l : List LineC) (w : World) (e : Ending) (w' : World) : Prop :=
  e = .returned (.int .i64 0) ∧ ∃ nb la lc lo hi, w.heap.size ≤ lo ∧ lo ≤ hi ∧ hi ≤ nb ∧ StAt B b mb (n + 1) (D.put (bkey s) (ptrD (some nb))) (upd E nb ⟨2, ⟨#[]⟩, la, l.length, lc⟩) w' ∧ w.grownBy w' (some mb) ∧ OwnIn lo hi (.slice la l.length lc) l w'
set_option maxRecDepth 100000 in
set_option maxHeartbeats 1000000 in
theorem macro_new (h : StAt B b mb n D E w) (s : ByteArray) (hn : nameErr s = 0) (hh : has D (bkey s) = false) (hsz : Maps.size D < 500) (hnm : n < maxLen) (ao : Option Addr) (c : Nat) (l : List LineC)
    (hr : LinesRd (· < w.heap.size) (.slice ao l.length c) l w) (hf : Fit l) (hc : linesC l = true) (hlen : l.length ≤ 2000) :
    Calls Tryd.prog 59 #[.pointer (some ⟨b, 0, none⟩), .string s, .slice ao l.length c] w (MacP B b mb n D E s l w) := by
  have hm := nameErr_max hn
  obtain ⟨X, hX, hXc⟩ := heads_of hr hf.texts
  have HA := Lib.hid (areLines_any ao l.length c X w (by unfold maxLen; omega) hX)
  rw [hXc, hc] at HA
  have HS := Lib.hid h
  have HR := Lib.hid hr
  have HH := Lib.hid hh
  have HN := Lib.hid hn
  have HSZ := Lib.hid hsz
  have HM := Lib.hid (h.mlt)
  clear hX hXc hc h hr hh hn hsz
  go_enter Tryd.func59, Tryd.ntmps59
  go_wp2_with fail
  refine (HA.out).mono ?_
  rintro e w1 ⟨rfl, hb1⟩
  have HRf := Lib.hid (refusal_fit s (HS.out.below hb1).cell)
  rw [HN.out] at HRf
  go_wp2_with fail
  refine (HRf.out).mono ?_
  rintro e w2 ⟨rfl, hb2⟩
  have hb12 := hb1.trans (Below.mono hb2 hb1.size)
  have HC := Lib.hid (copied_any ao c l w2 ((HR.out.stay (Stay.below hb12 fun _ h => h)).mono fun k hk => Nat.lt_of_lt_of_le hk hb12.size) hf)
  have HB := Lib.hid hb12
  clear hb1 hb2 hb12 HA HRf
  go_wp2_with fail
  refine (HC.out).mono ?_
  rintro e w3 ⟨v3, rfl, hb3, hO⟩
  obtain ⟨la, lc, rfl⟩ := hO.form
  have HP := Lib.hid (put_new ((HS.out.below HB.out).below hb3) s hm ⟨2, ⟨#[]⟩, la, l.length, lc⟩ HH.out HSZ.out hnm)
  have HO := Lib.hid hO
  have HB3 := Lib.hid hb3
  clear hb3 hO HC
  go_wp2_with fail
  refine (HP.out).mono ?_
  rintro e w4 ⟨rfl, nb, hnb, hS, hg⟩
  go_wp2_with fail
  go_ret
  have hml := HM.out
  have hs2 := HB.out.size
  refine ⟨rfl, nb, la, lc, w2.heap.size, w3.heap.size, hs2, HB3.out.size, hnb, hS, grown_trans (grown_trans (grown_below HB.out _) (grown_below HB3.out _)) hg, HO.out.isIn.stay fun k h1 h2 => hg.block k h2 (by simp; omega)⟩

def MacOldP (B b mb n : Nat) (D : DataW Unit) (E : Nat → Option Ent) (eb : Nat) (l : List LineC) (w : World) (e : Ending) (w' : World) : Prop :=
  e = .returned (.int .i64 0) ∧ ∃ la lc lo hi, w.heap.size ≤ lo ∧ lo ≤ hi ∧ hi ≤ w'.heap.size ∧ StAt B b mb n D (upd E eb ⟨2, ⟨#[]⟩, la, l.length, lc⟩) w' ∧ w.grownBy w' (some eb) ∧ OwnIn lo hi (.slice la l.length lc) l w'
set_option maxRecDepth 100000 in
set_option maxHeartbeats 1000000 in
theorem macro_old (h : StAt B b mb n D E w) (s : ByteArray) (hn : nameErr s = 0) {eb : Nat} {y : Ent} (hl : leads D s eb) (he : E eb = some y) (ao : Option Addr) (c : Nat) (l : List LineC)
    (hr : LinesRd (· < w.heap.size) (.slice ao l.length c) l w) (hf : Fit l) (hc : linesC l = true) (hlen : l.length ≤ 2000) :
    Calls Tryd.prog 59 #[.pointer (some ⟨b, 0, none⟩), .string s, .slice ao l.length c] w (MacOldP B b mb n D E eb l w) := by
  have hm := nameErr_max hn
  obtain ⟨X, hX, hXc⟩ := heads_of hr hf.texts
  have HA := Lib.hid (areLines_any ao l.length c X w (by unfold maxLen; omega) hX)
  rw [hXc, hc] at HA
  have HS := Lib.hid h
  have HR := Lib.hid hr
  have HL := Lib.hid hl
  have HE := Lib.hid he
  have HN := Lib.hid hn
  clear hX hXc hc h hr hl he hn
  go_enter Tryd.func59, Tryd.ntmps59
  go_wp2_with fail
  refine (HA.out).mono ?_
  rintro e w1 ⟨rfl, hb1⟩
  have HRf := Lib.hid (refusal_fit s (HS.out.below hb1).cell)
  rw [HN.out] at HRf
  go_wp2_with fail
  refine (HRf.out).mono ?_
  rintro e w2 ⟨rfl, hb2⟩
  have hb12 := hb1.trans (Below.mono hb2 hb1.size)
  have HC := Lib.hid (copied_any ao c l w2 ((HR.out.stay (Stay.below hb12 fun _ h => h)).mono fun k hk => Nat.lt_of_lt_of_le hk hb12.size) hf)
  have HB := Lib.hid hb12
  clear hb1 hb2 hb12 HA HRf
  go_wp2_with fail
  refine (HC.out).mono ?_
  rintro e w3 ⟨v3, rfl, hb3, hO⟩
  obtain ⟨la, lc, rfl⟩ := hO.form
  have HP := Lib.hid (put_old ((HS.out.below HB.out).below hb3) hm ⟨2, ⟨#[]⟩, la, l.length, lc⟩ HL.out HE.out)
  have HO := Lib.hid hO
  have HB3 := Lib.hid hb3
  clear hb3 hO HC
  go_wp2_with fail
  refine (HP.out).mono ?_
  rintro e w4 ⟨rfl, hS, hg⟩
  go_wp2_with fail
  go_ret
  have hs2 := HB.out.size
  have hel := HS.out.elt HE.out
  exact ⟨rfl, la, lc, w2.heap.size, w3.heap.size, hs2, HB3.out.size, hg.size, hS, grown_trans (grown_trans (grown_below HB.out _) (grown_below HB3.out _)) hg, HO.out.isIn.stay fun k h1 h2 => hg.block k h2 (by simp; omega)⟩
set_option maxRecDepth 100000 in
set_option maxHeartbeats 1000000 in
theorem macro_bad (h : StAt B b mb n D E w) (s : ByteArray) (ao : Option Addr) (c : Nat) (l : List LineC)
    (hr : LinesRd (· < w.heap.size) (.slice ao l.length c) l w) (hf : Fit l) (hc : linesC l = false) :
    Calls Tryd.prog 59 #[.pointer (some ⟨b, 0, none⟩), .string s, .slice ao l.length c] w (Makes (.int .i64 1) w) := by
  obtain ⟨X, hX, hXc⟩ := heads_of hr hf.texts
  have hlen := hf.lines
  have HA := Lib.hid (areLines_any ao l.length c X w (by unfold maxLen; omega) hX)
  rw [hXc, hc] at HA
  have HS := Lib.hid h
  clear hX hXc hc h hr
  go_enter Tryd.func59, Tryd.ntmps59
  go_wp2_with fail
  refine (HA.out).mono ?_
  rintro e w1 ⟨rfl, hb1⟩
  have HRf := Lib.hid (refusal_unfit s (HS.out.below hb1).cell)
  go_wp2_with fail
  refine (HRf.out).mono ?_
  rintro e w2 ⟨rfl, rfl⟩
  go_wp2_with fail
  go_ret
  exact ⟨rfl, hb1⟩

end
end Go.Proofs.YtkocgedliakclaaDoor
