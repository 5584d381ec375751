/- Lines that came in: how the rows of a slice of lines lie; which the program asks. -/
import Derived.Test.YtkocgedliakclaaDoorReadAid
import Derived.Test.YtkocgedliakclaaDoorStBook
namespace Go.Proofs.YtkocgedliakclaaDoor
open Go.RowKit Go.PlainAid Go.Maps Go.Shelf

/-- A line's cells, behind one another. -/
structure LineV where
  text : ByteArray
  made : Bool
  up : Int
  down : Int
  ba : Option Addr
  bn : Nat
  bc : Nat
abbrev lineV (x : LineV) : Value := .agg #[.string x.text, .bool x.made, .int .i64 x.up, .int .i64 x.down, .slice x.ba x.bn x.bc]
abbrev lineO (x : LineV) : Obj := .cells #[.string x.text, .bool x.made, .int .i64 x.up, .int .i64 x.down, .slice x.ba x.bn x.bc] 37
structure LineOk (x : LineV) : Prop where
  text : x.text.size ≤ maxLen
  bn : x.bn ≤ maxLen
structure LineAt (b off : Nat) (x : LineV) (w : World) : Prop where
  c0 : w.cell? ⟨b, off, none⟩ = some (.string x.text)
  c1 : w.cell? ⟨b, off + 1, none⟩ = some (.bool x.made)
  c2 : w.cell? ⟨b, off + 2, none⟩ = some (.int .i64 x.up)
  c3 : w.cell? ⟨b, off + 3, none⟩ = some (.int .i64 x.down)
  c4 : w.cell? ⟨b, off + 4, none⟩ = some (.slice x.ba x.bn x.bc)
/-- A slice of lines, as it lies. -/
def LinesAt (ao : Option Addr) (len : Nat) (X : Nat → LineV) (w : World) : Prop :=
  ∃ b off, (0 < len → ao = some ⟨b, off, none⟩ ∧ b < w.heap.size) ∧ ∀ i, i < len → LineOk (X i) ∧ LineAt b (off + i * 5) (X i) w
theorem LineAt.below {b off : Nat} {x : LineV} {w w' : World} (h : LineAt b off x w) (hb : Below w.heap.size w w') (hlt : b < w.heap.size) : LineAt b off x w' :=
  ⟨by rw [hb.cell (p := ⟨b, _, none⟩) hlt]; exact h.c0, by rw [hb.cell (p := ⟨b, _, none⟩) hlt]; exact h.c1, by rw [hb.cell (p := ⟨b, _, none⟩) hlt]; exact h.c2, by rw [hb.cell (p := ⟨b, _, none⟩) hlt]; exact h.c3, by rw [hb.cell (p := ⟨b, _, none⟩) hlt]; exact h.c4⟩
theorem LinesAt.below {ao : Option Addr} {len : Nat} {X : Nat → LineV} {w w' : World} (h : LinesAt ao len X w) (hb : Below w.heap.size w w') : LinesAt ao len X w' := by
  obtain ⟨b, off, h1, h2⟩ := h
  exact ⟨b, off, fun h0 => ⟨(h1 h0).1, Nat.lt_of_lt_of_le (h1 h0).2 hb.size⟩, fun i hi => ⟨(h2 i hi).1, (h2 i hi).2.below hb (h1 (by omega)).2⟩⟩

def wayB (n : Int) : Bool := decide (-1000000 ≤ n) && decide (n ≤ 1000000)
theorem isWay_any (n : Int) (w : World) : Calls Tryd.prog 82 #[.int .i64 n] w (Says (.bool (wayB n)) w) := by
  unfold wayB
  by_cases h1 : -1000000 ≤ n
  · rw [decide_eq_true h1]
    by_cases h2 : n ≤ 1000000
    · rw [decide_eq_true h2]
      go_enter Tryd.func82, Tryd.ntmps82
      go_wp2_with fail
      go_ret
      exact ⟨rfl, rfl⟩
    · rw [decide_eq_false h2]
      go_enter Tryd.func82, Tryd.ntmps82
      go_wp2_with fail
      go_ret
      exact ⟨rfl, rfl⟩
  · rw [decide_eq_false h1]
    go_enter Tryd.func82, Tryd.ntmps82
    go_wp2_with fail
    go_ret
    exact ⟨rfl, rfl⟩
/-- Is a line one? -/
def lineB (x : LineV) : Bool := if x.made then (decide (x.text.size = 0) && wayB x.up && wayB x.down && decide (x.bn ≤ 2000)) else (textB x.text && (x.up == 0) && (x.down == 0) && decide (x.bn = 0))

set_option maxRecDepth 100000 in
set_option maxHeartbeats 1000000 in
theorem isLine_made (x : LineV) (hx : LineOk x) (w : World) (hm : x.made = true) : Calls Tryd.prog 73 #[lineV x] w (Makes (.bool (lineB x)) w) := by
  have hbn := hx.bn
  unfold maxLen at hbn
  have hbl : lineB x = (decide (x.text.size = 0) && wayB x.up && wayB x.down && decide (x.bn ≤ 2000)) := by unfold lineB; rw [if_pos hm]
  rw [hbl]
  obtain ⟨t, m, u, d, ba, bn, bc⟩ := x
  simp only at hm hbn ⊢
  subst hm
  clear hbl hx
  have HU := Lib.hid (fun W => isWay_any u W)
  have HD := Lib.hid (fun W => isWay_any d W)
  obtain ⟨cu, hcu⟩ : ∃ c, wayB u = c := ⟨_, rfl⟩
  obtain ⟨cd, hcd⟩ : ∃ c, wayB d = c := ⟨_, rfl⟩
  rw [hcu] at HU ⊢
  rw [hcd] at HD ⊢
  clear hcu hcd
  have hal : Below w.heap.size w (w.alloc (.cells #[.string t, .bool true, .int .i64 u, .int .i64 d, .slice ba bn bc] 37)) := (Below.refl _ _).alloc (Nat.le_refl _) _
  by_cases ht : t.size = 0
  · rw [decide_eq_true ht]
    have he := isEmpty_yes ht
    clear ht
    cases cu with
    | false =>
      go_enter Tryd.func73, Tryd.ntmps73
      go_wp2_with fail
      refine (HU.out _).mono ?_
      rintro e w1 ⟨rfl, rfl⟩
      go_wp2_with fail
      go_ret
      exact ⟨rfl, hal⟩
    | true =>
      cases cd with
      | false =>
        go_enter Tryd.func73, Tryd.ntmps73
        go_wp2_with fail
        refine (HU.out _).mono ?_
        rintro e w1 ⟨rfl, rfl⟩
        go_wp2_with fail
        refine (HD.out _).mono ?_
        rintro e w1 ⟨rfl, rfl⟩
        go_wp2_with fail
        go_ret
        exact ⟨rfl, hal⟩
      | true =>
        obtain ⟨c, hc⟩ : ∃ c, decide (bn ≤ 2000) = c := ⟨_, rfl⟩
        have hc2 : decide ((bn : Int) ≤ 2000) = c := by rw [← hc]; exact decide_eq_decide.2 (by omega)
        rw [hc]
        clear hc
        go_enter Tryd.func73, Tryd.ntmps73
        go_wp2_with fail
        refine (HU.out _).mono ?_
        rintro e w1 ⟨rfl, rfl⟩
        go_wp2_with fail
        refine (HD.out _).mono ?_
        rintro e w1 ⟨rfl, rfl⟩
        go_wp2_with fail
        go_ret
        exact ⟨rfl, hal⟩
  · rw [decide_eq_false ht]
    have he := isEmpty_no (s := t) (by omega)
    clear ht
    go_enter Tryd.func73, Tryd.ntmps73
    go_wp2_with fail
    go_ret
    exact ⟨rfl, hal⟩
set_option maxRecDepth 100000 in
set_option maxHeartbeats 1000000 in
theorem isLine_text (x : LineV) (hx : LineOk x) (w : World) (hm : x.made = false) : Calls Tryd.prog 73 #[lineV x] w (Makes (.bool (lineB x)) w) := by
  have hbn := hx.bn
  unfold maxLen at hbn
  have hbl : lineB x = (textB x.text && (x.up == 0) && (x.down == 0) && decide (x.bn = 0)) := by unfold lineB; rw [hm, if_neg (by simp)]
  rw [hbl]
  obtain ⟨t, m, u, d, ba, bn, bc⟩ := x
  simp only at hm hbn ⊢
  subst hm
  clear hbl hx
  have HT := Lib.hid (fun W => isText_any t W)
  have hal : Below w.heap.size w (w.alloc (.cells #[.string t, .bool false, .int .i64 u, .int .i64 d, .slice ba bn bc] 37)) := (Below.refl _ _).alloc (Nat.le_refl _) _
  cases htb : textB t
  case' true =>
    cases hu : (u == 0)
    case' true =>
      cases hd : (d == 0)
      case' true =>
        obtain ⟨c, hc⟩ : ∃ c, decide (bn = 0) = c := ⟨_, rfl⟩
        have hc2 : ((bn : Int) == 0) = c := by rw [← hc, Bool.eq_iff_iff]; simp
        rw [hc]
        clear hc
  all_goals
    rw [htb] at HT
    clear htb
    go_enter Tryd.func73, Tryd.ntmps73
    go_wp2_with fail
    refine (HT.out _).mono ?_
    rintro e w1 ⟨rfl, rfl⟩
    go_wp2_with fail
    go_ret
    exact ⟨rfl, hal⟩
theorem isLine_any (x : LineV) (hx : LineOk x) (w : World) : Calls Tryd.prog 73 #[lineV x] w (Makes (.bool (lineB x)) w) := by
  cases hm : x.made with
  | true => exact isLine_made x hx w hm
  | false => exact isLine_text x hx w hm
end Go.Proofs.YtkocgedliakclaaDoor
