/- The program's look whether lines are ones: layer 3 judges each. -/
import Derived.Test.YtkocgedliakclaaDoorStMacro
import Derived.Test.YtkocgedliakclaaDoorSoNext
namespace Go.Proofs.YtkocgedliakclaaDoor
open Go.RowKit Go.PlainAid Go.Maps Go.Shelf

def nmLine : ByteArray := ⟨#[108, 105, 110, 101]⟩
theorem nmLine_ok : nameErr nmLine = 0 := by decide
/-- The judge: a new store, or one that has the one macro. -/
def Judge (B b mb : Nat) (w : World) : Prop :=
  StAt B b mb 0 (.map []) (fun _ => none) w ∨ ∃ E y eb, StAt B b mb 1 ((DataW.map []).put (bkey nmLine) (ptrD (some eb))) E w ∧ E eb = some y
theorem Judge.below {B b mb : Nat} {w w' : World} (h : Judge B b mb w) (hb : Below w.heap.size w w') : Judge B b mb w' := by
  rcases h with h | ⟨E, y, eb, h, he⟩
  · exact .inl (h.below hb)
  · exact .inr ⟨E, y, eb, h.below hb, he⟩
theorem one_rd {S : Nat → Prop} {g : Nat} {x : LineC} {bv : Value} {w : World} (h : w.heap[g]? = some (.cells #[.string x.text, .bool x.made, .int .i64 x.up, .int .i64 x.down, bv] 37 (0, 0))) (hb : BoxesRd S bv x.boxes w) (hg : S g) :
    LinesRd S (.slice (some ⟨g, 0, none⟩) [x].length 1) [x] w := by
  refine ⟨some ⟨g, 0, none⟩, 1, rfl, by unfold maxLen; simp, g, 0, fun _ => ⟨rfl, hg⟩, fun i hi => ?_⟩
  obtain rfl : i = 0 := by simpa using hi
  exact ⟨bv, by simp [World.cell?, h], by simp [World.cell?, h], by simp [World.cell?, h], by simp [World.cell?, h], by simp [World.cell?, h], hb⟩
theorem one_fit {l : List LineC} (hf : Fit l) {x : LineC} (hx : x ∈ l) : Fit [x] :=
  ⟨fun y hy => by rw [List.mem_singleton.1 hy]; exact hf.texts x hx, by simp, fun y hy => by rw [List.mem_singleton.1 hy]; exact hf.boxes x hx, fun y hy => by rw [List.mem_singleton.1 hy]; exact hf.nums x hx⟩
theorem linesC_one (x : LineC) : linesC [x] = lineC x := by simp [linesC]

section
variable {B b mb : Nat} {w : World}
def JudgedP (B b mb : Nat) (w : World) (e : Ending) (w' : World) : Prop := e = .returned (.int .i64 0) ∧ Judge B b mb w' ∧ Below B w w'
theorem judge_yes (h : Judge B b mb w) (ao : Option Addr) (c : Nat) (x : LineC) (hr : LinesRd (· < w.heap.size) (.slice ao [x].length c) [x] w) (hf : Fit [x]) (hc : lineC x = true) :
    Calls Tryd.prog 59 #[.pointer (some ⟨b, 0, none⟩), .string nmLine, .slice ao [x].length c] w (JudgedP B b mb w) := by
  rcases h with h | ⟨E, y, eb, h, he⟩
  · have hlo := h.lo
    have hBw := Nat.le_trans hlo.1 (Nat.le_of_lt h.lt)
    refine (macro_new h nmLine nmLine_ok rfl (by decide) (by decide) ao c [x] hr hf (by rw [linesC_one]; exact hc) (by simp)).mono ?_
    rintro e w' ⟨rfl, nb, la, lc, lo, hi, h1, h2, h3, hS, hg, _⟩
    exact ⟨rfl, .inr ⟨_, _, nb, hS, upd_same _ _ _⟩, grown_to_below hg hlo.2 hBw⟩
  · have hlo := h.lo
    have hBw := Nat.le_trans hlo.1 (Nat.le_of_lt h.lt)
    have hel := (h.ents eb y he).1
    refine (macro_old h nmLine nmLine_ok (leads_put isMap_empty nmLine eb) he ao c [x] hr hf (by rw [linesC_one]; exact hc) (by simp)).mono ?_
    rintro e w' ⟨rfl, la, lc, lo, hi, h1, h2, h3, hS, hg, _⟩
    exact ⟨rfl, .inr ⟨_, _, eb, hS, upd_same _ _ _⟩, grown_to_below hg hel hBw⟩
theorem judge_no (h : Judge B b mb w) (ao : Option Addr) (c : Nat) (x : LineC) (hr : LinesRd (· < w.heap.size) (.slice ao [x].length c) [x] w) (hf : Fit [x]) (hc : lineC x = false) :
    Calls Tryd.prog 59 #[.pointer (some ⟨b, 0, none⟩), .string nmLine, .slice ao [x].length c] w (Makes (.int .i64 1) w) := by
  rcases h with h | ⟨E, y, eb, h, he⟩
  · exact macro_bad h nmLine ao c [x] hr hf (by rw [linesC_one]; exact hc)
  · exact macro_bad h nmLine ao c [x] hr hf (by rw [linesC_one]; exact hc)
end

theorem linesC_all {l : List LineC} (h : ∀ i (h : i < l.length), lineC l[i] = true) : linesC l = true := by
  simp only [linesC, List.all_eq_true]
  intro x hx
  obtain ⟨i, hi, rfl⟩ := List.getElem_of_mem hx
  exact h i hi
theorem linesC_not {l : List LineC} {i : Nat} (hi : i < l.length) (h : lineC l[i] = false) : linesC l = false := by
  rw [← Bool.not_eq_true]
  intro e
  simp only [linesC, List.all_eq_true] at e
  rw [e _ (List.getElem_mem hi)] at h
  cases h
/-- Are lines ones, and no more than a frame has? -/
def goodC (l : List LineC) : Bool := decide (l.length ≤ 20000) && linesC l
set_option maxRecDepth 100000 in
set_option maxHeartbeats 4000000 in
theorem soAre_any (ao : Option Addr) (c : Nat) (l : List LineC) (w : World) (h : LinesRd (· < w.heap.size) (.slice ao l.length c) l w) (hf : Fit l) : Calls Tryd.prog 49 #[.slice ao l.length c] w (Makes (.bool (goodC l)) w) := by
  have hfl := hf.lines
  have hl63 : l.length ≤ 9000000000000000 := by omega
  by_cases hbig : l.length ≤ 20000
  · have hg : goodC l = linesC l := by unfold goodC; rw [decide_eq_true hbig]; rfl
    rw [hg]
    have hbz : ¬ (20000 < (l.length : Int)) := by omega
    have HL := Lib.hid h
    have HF := Lib.hid hf
    clear h hg hfl hbig
    go_enter Tryd.func49, Tryd.ntmps49
    go_wp2_with fail
    refine (new_any w).mono ?_
    rintro e w1 ⟨sb, mb, rfl, hS1, hb1⟩
    have HJ := Lib.hid (show Judge w.heap.size sb mb w1 from .inl hS1)
    have HB1 := Lib.hid hb1
    clear hS1 hb1
    go_wp2_with fail
    go_loopw [12] (fun i wr => ∃ j : Nat, j ≤ l.length ∧ i = .int .i64 j ∧ Hid (∀ i (h : i < l.length), i < j → lineC l[i] = true) ∧ Hid (Judge w.heap.size sb mb wr) ∧ Hid (Below w.heap.size w wr)) (fun i _ => l.length - (intOf i).toNat)
    case atStart => exact ⟨0, by omega, rfl, Lib.hid fun i _ h => absurd h (Nat.not_lt_zero _), HJ, HB1⟩
    case round =>
      obtain ⟨j, hj, rfl, hall, hJ, hb⟩ := hrel
      by_cases hlt : j < l.length
      · obtain ⟨lb, lo, ba, bc, rfl, hlb, hln⟩ := line_at (HL.out.stay (Stay.below hb.out fun _ h => h)) hlt
        have HFx := Lib.hid (one_fit HF.out (List.getElem_mem hlt))
        obtain ⟨x, hx⟩ : ∃ x, l[j] = x := ⟨_, rfl⟩
        rw [hx] at hln HFx
        have HX := Lib.hid (show ∃ h : j < l.length, l[j] = x from ⟨hlt, hx⟩)
        obtain ⟨l0, l1, l2, l3, l4, hbx⟩ := hln
        have hjz : (j : Int) < l.length := by omega
        have hjn : (0 : Int) ≤ j := by omega
        have hlbw : lb < wr.heap.size := Nat.lt_of_lt_of_le hlb hb.out.size
        have hw2 : Below wr.heap.size wr ((wr.alloc (.cells #[.string x.text, .bool x.made, .int .i64 x.up, .int .i64 x.down, .slice ba x.boxes.length bc] 37)).alloc (.cells #[.string x.text, .bool x.made, .int .i64 x.up, .int .i64 x.down, .slice ba x.boxes.length bc] 37)) := ((Below.refl _ _).alloc (Nat.le_refl _) _).alloc (by simp) _
        have hh2 := heap_alloc_new (wr.alloc (.cells #[.string x.text, .bool x.made, .int .i64 x.up, .int .i64 x.down, .slice ba x.boxes.length bc] 37)) (.cells #[.string x.text, .bool x.made, .int .i64 x.up, .int .i64 x.down, .slice ba x.boxes.length bc] 37)
        rw [World.size_alloc] at hh2
        have hrd := one_rd (S := (· < ((wr.alloc (.cells #[.string x.text, .bool x.made, .int .i64 x.up, .int .i64 x.down, .slice ba x.boxes.length bc] 37)).alloc (.cells #[.string x.text, .bool x.made, .int .i64 x.up, .int .i64 x.down, .slice ba x.boxes.length bc] 37)).heap.size)) hh2 ((hbx.stay (Stay.below hw2 fun k hk => Nat.lt_of_lt_of_le hk hb.out.size)).mono fun k hk => Nat.lt_of_lt_of_le hk (Nat.le_trans hb.out.size hw2.size)) (by simp)
        have hJ2 := hJ.out.below hw2
        have HW2 := Lib.hid (hb.out.trans (Below.mono hw2 hb.out.size))
        clear hbx hlb hh2 hw2 hx
        cases hlc : lineC x
        · have HM := Lib.hid (judge_no hJ2 _ _ x hrd HFx.out hlc)
          have HLC := Lib.hid hlc
          clear hrd hJ2 hlc hlt
          go_wp2_with fail
          refine (HM.out).mono ?_
          rintro e w3 ⟨rfl, hb3⟩
          go_wp2_with fail
          go_ret
          obtain ⟨hlt, hx⟩ := HX.out
          rw [linesC_not hlt (by rw [hx]; exact HLC.out)]
          exact ⟨rfl, HW2.out.trans (Below.mono hb3 HW2.out.size)⟩
        · have HM := Lib.hid (judge_yes hJ2 _ _ x hrd HFx.out hlc)
          have HLC := Lib.hid hlc
          clear hrd hJ2 hlc hlt
          go_wp2_with fail
          refine (HM.out).mono ?_
          rintro e w3 ⟨rfl, hJ3, hb3⟩
          have HJ3 := Lib.hid hJ3
          have HB3 := Lib.hid (HW2.out.trans hb3)
          clear hJ3 hb3
          go_wp2_with fail
          go_roundw
          case rel =>
            obtain ⟨hlt, hx⟩ := HX.out
            refine ⟨j + 1, by omega, by go_num, Lib.hid fun i hi hij => ?_, HJ3, HB3⟩
            by_cases e : i = j
            · subst e; rw [hx]; exact HLC.out
            · exact hall.out i hi (by omega)
          case measure => obtain ⟨hlt, _⟩ := HX.out; simp only [intOf]; omega
      · obtain rfl : j = l.length := by omega
        go_wp2_with fail
        go_ret
        rw [linesC_all fun i hi => hall.out i hi hi]
        exact ⟨rfl, hb.out⟩
  · have hg : goodC l = false := by unfold goodC; rw [decide_eq_false hbig]; rfl
    rw [hg]
    have hbz : (20000 < (l.length : Int)) := by omega
    clear h hg hfl hf
    go_enter Tryd.func49, Tryd.ntmps49
    go_wp2_with fail
    go_ret
    exact ⟨rfl, Below.refl _ _⟩
end Go.Proofs.YtkocgedliakclaaDoor
