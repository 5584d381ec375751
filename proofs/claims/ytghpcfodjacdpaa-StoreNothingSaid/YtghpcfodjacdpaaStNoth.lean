/- StoreNothing's parts: which lines are ones; a deed done to a store that is none. -/
import Derived.Test.YtghpcfodjacdpaaStRows
namespace Go.Proofs.Ytghpcfodjacdpaa
open Go.RowKit Go.PlainAid Go.Maps Go.Shelf

def linesB (X : Nat → LineV) (n : Nat) : Bool := (List.range n).all fun i => lineB (X i)
theorem linesB_yes {X : Nat → LineV} {n : Nat} (h : ∀ i, i < n → lineB (X i) = true) : linesB X n = true := by
  simp only [linesB, List.all_eq_true, List.mem_range]; exact h
theorem linesB_no {X : Nat → LineV} {n i : Nat} (hi : i < n) (h : lineB (X i) = false) : linesB X n = false := by
  cases hl : linesB X n with
  | false => rfl
  | true =>
    simp only [linesB, List.all_eq_true, List.mem_range] at hl
    rw [hl i hi] at h; cases h

set_option maxRecDepth 100000 in
set_option maxHeartbeats 1000000 in
theorem areLines_any (ao : Option Addr) (len cap : Nat) (X : Nat → LineV) (w : World) (hl : len ≤ maxLen) (h : LinesAt ao len X w) :
    Calls Try.prog 35 #[.slice ao len cap] w (Makes (.bool (linesB X len)) w) := by
  unfold maxLen at hl
  obtain ⟨b, off, h1, h2⟩ := h
  have H1 := Lib.hid h1
  have H2 := Lib.hid h2
  clear h1 h2
  go_enter Try.func35, Try.ntmps35
  go_wp2_with fail
  go_loopw [7] (fun i wr => ∃ k : Nat, k ≤ len ∧ i = .int .i64 k ∧ Hid (Below w.heap.size w wr) ∧ Hid (∀ j, j < k → lineB (X j) = true)) (fun i _ => len - (intOf i).toNat)
  case atStart => exact ⟨0, by omega, rfl, Below.refl _ _, fun j hj => absurd hj (Nat.not_lt_zero _)⟩
  case round =>
    obtain ⟨k, hk, rfl, hb, hn⟩ := hrel
    by_cases hlt : k < len
    · obtain ⟨hao, hbl⟩ := H1.out (by omega)
      obtain ⟨hok, hat⟩ := H2.out k hlt
      obtain ⟨c0, c1, c2, c3, c4⟩ := hat.below hb.out hbl
      subst hao
      have HC := Lib.hid (isLine_any (X k) hok)
      have HB := Lib.hid (hb.out.alloc hb.out.size (.cells #[.string (X k).text, .bool (X k).made, .int .i64 (X k).up, .int .i64 (X k).down, .slice (X k).ba (X k).bn (X k).bc] 69))
      clear hat hok
      cases hlb : lineB (X k) with
      | true =>
        rw [hlb] at HC
        have HN : Hid (∀ j, j < k + 1 → lineB (X j) = true) := fun j hj => by
          by_cases e : j = k
          · rw [e]; exact hlb
          · exact hn.out j (by omega)
        clear hn hlb
        go_wp2_with fail
        refine (HC.out _).mono ?_
        rintro e w2 ⟨rfl, hb2⟩
        have HB2 := Lib.hid (HB.out.trans (hb2.mono HB.out.size))
        clear HC
        go_wp2_with fail
        go_roundw
        case rel => exact ⟨k + 1, by omega, by go_num, HB2, HN⟩
        case measure => simp only [intOf]; omega
      | false =>
        rw [hlb] at HC
        have HN : Hid (linesB X len = false) := linesB_no hlt hlb
        clear hn hlb
        go_wp2_with fail
        refine (HC.out _).mono ?_
        rintro e w2 ⟨rfl, hb2⟩
        have HB2 := Lib.hid (HB.out.trans (hb2.mono HB.out.size))
        clear HC
        go_wp2_with fail
        go_ret
        exact ⟨by rw [HN.out]; rfl, HB2.out⟩
    · have HN : Hid (linesB X len = true) := linesB_yes (fun j hj => hn.out j (by omega))
      clear hn
      go_wp2_with fail
      go_ret
      exact ⟨by rw [HN.out]; rfl, hb.out⟩

/-- A deed's cells. -/
structure DeedV where
  act : Int
  name : ByteArray
  other : ByteArray
  text : ByteArray
  la : Option Addr
  ln : Nat
  lc : Nat
  a : Int
  b : Int
abbrev deedV (d : DeedV) : Value := .agg #[.int .i64 d.act, .string d.name, .string d.other, .string d.text, .slice d.la d.ln d.lc, .int .i64 d.a, .int .i64 d.b]
abbrev deedO (d : DeedV) : Obj := .cells #[.int .i64 d.act, .string d.name, .string d.other, .string d.text, .slice d.la d.ln d.lc, .int .i64 d.a, .int .i64 d.b] 42
structure DeedOk (d : DeedV) : Prop where
  name : d.name.size ≤ maxLen
  text : d.text.size ≤ maxLen
  ln : d.ln ≤ maxLen

set_option maxRecDepth 100000 in
theorem none_macro {v : Value} {w : World} (h : NoneAt v w) (s : ByteArray) (ao : Option Addr) (len cap : Nat) (X : Nat → LineV) (hl : len ≤ maxLen) (hL : LinesAt ao len X w) : Calls Try.prog 15 #[v, .string s, .slice ao len cap] w (Makes (.int .i64 1) w) := by
  have HT := Lib.hid (areLines_any ao len cap X w hl hL)
  have HH := Lib.hid h
  clear h hL
  go_enter Try.func15, Try.ntmps15
  go_wp2_with fail
  refine (HT.out).mono ?_
  rintro e w1 ⟨rfl, hb⟩
  have HN := Lib.hid (none_refusal (HH.out.below hb) s (linesB X len))
  go_wp2_with fail
  refine (HN.out).mono ?_
  rintro e w1 ⟨rfl, rfl⟩
  go_wp2_with fail
  go_ret
  exact ⟨rfl, hb⟩
set_option maxRecDepth 100000 in
theorem none_add {v : Value} {w : World} (h : NoneAt v w) (s : ByteArray) (ao : Option Addr) (len cap : Nat) (X : Nat → LineV) (hl : len ≤ maxLen) (hL : LinesAt ao len X w) : Calls Try.prog 16 #[v, .string s, .slice ao len cap] w (Makes (.int .i64 1) w) := by
  have HT := Lib.hid (areLines_any ao len cap X w hl hL)
  have HH := Lib.hid h
  clear h hL
  go_enter Try.func16, Try.ntmps16
  go_wp2_with fail
  refine (HT.out).mono ?_
  rintro e w1 ⟨rfl, hb⟩
  have HN := Lib.hid (none_refusal (HH.out.below hb) s (linesB X len))
  go_wp2_with fail
  refine (HN.out).mono ?_
  rintro e w1 ⟨rfl, rfl⟩
  go_wp2_with fail
  go_ret
  exact ⟨rfl, hb⟩

set_option maxRecDepth 100000 in
set_option maxHeartbeats 2000000 in
theorem do_none {v : Value} {w : World} (h : NoneAt v w) (d : DeedV) (hd : DeedOk d) (X : Nat → LineV) (hL : LinesAt d.la d.ln X w) (ha : 0 ≤ d.act ∧ d.act ≤ 8) :
    Calls Try.prog 21 #[v, deedV d] w (Makes (.int .i64 1) w) := by
  have hbw : Below w.heap.size w (w.alloc (deedO d)) := (Below.refl _ _).alloc (Nat.le_refl _) _
  have hN := h.below hbw
  have hL1 := hL.below hbw
  have hln := hd.ln
  obtain ⟨act, name, other, text, la, ln, lc, a, b⟩ := d
  simp only [deedO] at hbw hN hL1 hln ha ⊢
  have H0 := Lib.hid (none_define hN name text)
  have H1 := Lib.hid (none_append hN name text)
  have H2 := Lib.hid (none_macro hN name la ln lc X hln hL1)
  have H3 := Lib.hid (none_add hN name la ln lc X hln hL1)
  have H4 := Lib.hid (none_remove hN name)
  have H5 := Lib.hid (none_rename hN name other)
  have H6 := Lib.hid (none_alias hN name other)
  have H7 := Lib.hid (none_chop hN name)
  have H8 := Lib.hid (none_part hN name a b)
  have HB := Lib.hid hbw
  clear hL hd hN hL1 h hbw
  have h9 : act = 0 ∨ act = 1 ∨ act = 2 ∨ act = 3 ∨ act = 4 ∨ act = 5 ∨ act = 6 ∨ act = 7 ∨ act = 8 := by omega
  clear ha
  rcases h9 with rfl | rfl | rfl | rfl | rfl | rfl | rfl | rfl | rfl
  · go_enter Try.func21, Try.ntmps21
    go_wp2_with fail
    refine (H0.out).mono ?_
    rintro e w1 ⟨rfl, rfl⟩
    go_wp2_with fail
    go_ret
    exact ⟨rfl, HB.out⟩
  · go_enter Try.func21, Try.ntmps21
    go_wp2_with fail
    refine (H1.out).mono ?_
    rintro e w1 ⟨rfl, rfl⟩
    go_wp2_with fail
    go_ret
    exact ⟨rfl, HB.out⟩
  · go_enter Try.func21, Try.ntmps21
    go_wp2_with fail
    refine (H2.out).mono ?_
    rintro e w1 ⟨rfl, hb2⟩
    go_wp2_with fail
    go_ret
    exact ⟨rfl, HB.out.trans (hb2.mono HB.out.size)⟩
  · go_enter Try.func21, Try.ntmps21
    go_wp2_with fail
    refine (H3.out).mono ?_
    rintro e w1 ⟨rfl, hb2⟩
    go_wp2_with fail
    go_ret
    exact ⟨rfl, HB.out.trans (hb2.mono HB.out.size)⟩
  · go_enter Try.func21, Try.ntmps21
    go_wp2_with fail
    refine (H4.out).mono ?_
    rintro e w1 ⟨rfl, rfl⟩
    go_wp2_with fail
    go_ret
    exact ⟨rfl, HB.out⟩
  · go_enter Try.func21, Try.ntmps21
    go_wp2_with fail
    refine (H5.out).mono ?_
    rintro e w1 ⟨rfl, rfl⟩
    go_wp2_with fail
    go_ret
    exact ⟨rfl, HB.out⟩
  · go_enter Try.func21, Try.ntmps21
    go_wp2_with fail
    refine (H6.out).mono ?_
    rintro e w1 ⟨rfl, rfl⟩
    go_wp2_with fail
    go_ret
    exact ⟨rfl, HB.out⟩
  · go_enter Try.func21, Try.ntmps21
    go_wp2_with fail
    refine (H7.out).mono ?_
    rintro e w1 ⟨rfl, rfl⟩
    go_wp2_with fail
    go_ret
    exact ⟨rfl, HB.out⟩
  · go_enter Try.func21, Try.ntmps21
    go_wp2_with fail
    refine (H8.out).mono ?_
    rintro e w1 ⟨rfl, rfl⟩
    go_wp2_with fail
    go_ret
    exact ⟨rfl, HB.out⟩
end Go.Proofs.Ytghpcfodjacdpaa
