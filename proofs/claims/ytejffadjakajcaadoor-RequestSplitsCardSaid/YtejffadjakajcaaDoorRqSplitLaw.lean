/- RequestSplits and RequestWords, walked. -/
import Derived.Test.YtejffadjakajcaaDoorRqRSplit2
import Derived.Test.YtejffadjakajcaaDoorRqBits
namespace Go.Proofs.YtejffadjakajcaaDoor
open Go.RowKit Go.PlainAid Go.Shelf

def isOk (l : List UInt8) (c q : Int) : Bool := fitB l c q && startB l c q
def outN (l : List UInt8) (c q : Int) : List UInt8 := if isOk l c q then nameL l.tail else []
def outR (l : List UInt8) (c q : Int) : List UInt8 := if isOk l c q then restL l.tail else []
def outQ (l : List UInt8) (c q : Int) : Bool := if isOk l c q then (bt (mk8 l) 0) == q else false
def outE (l : List UInt8) (c q : Int) : Int := if fitB l c q then 0 else 1
def outW (l : List UInt8) (c q : Int) (ws : List (List UInt8)) : Prop := if isOk l c q then Wds (restL l.tail) ws else ws = []
theorem outW_eq {l : List UInt8} {c q : Int} {a b : List (List UInt8)} (h1 : outW l c q a) (h2 : outW l c q b) : a = b := by
  unfold outW at h1 h2
  split at h1
  · rename_i h; rw [if_pos h] at h2; exact h1.eq h2
  · rename_i h; rw [if_neg h] at h2; rw [h1, h2]
/-- What either Split gives. -/
def SplitQ (l : List UInt8) (c q : Int) (W : World) (e : Ending) (W' : World) : Prop :=
  ∃ v ws, e = .returned (.tuple #[.agg #[.string (mk8 (outN l c q)), v, .string (mk8 (outR l c q)), .bool (outQ l c q)], .bool (isOk l c q), .int .i64 (outE l c q)]) ∧ outW l c q ws ∧ ws.length ≤ 2000 ∧ TxAt v ws W' ∧ Below W.heap.size W W'
theorem tx_none (W : World) : TxAt (.slice none 0 0) [] W := ⟨none, 0, 0, 0, rfl, fun h => absurd h (by simp), fun j w hj => by simp at hj⟩
theorem splitQ_of {l : List UInt8} {c q : Int} {W W' : World} {e : Ending} (h : SplitP l c q W e W') : SplitQ l c q W e W' := by
  unfold SplitP at h
  split at h
  · rename_i h1
    have ho : isOk l c q = false := by unfold isOk; rw [h1]; rfl
    refine ⟨.slice none 0 0, [], ?_, by unfold outW; rw [ho]; rfl, by simp, tx_none _, h.2⟩
    unfold outN outR outQ outE
    rw [ho, h1]
    exact h.1
  · rename_i h1
    have h1 : fitB l c q = true := by simpa using h1
    split at h
    · rename_i h2
      have ho : isOk l c q = false := by unfold isOk; rw [h1, h2]; rfl
      refine ⟨.slice none 0 0, [], ?_, by unfold outW; rw [ho]; rfl, by simp, tx_none _, h.2⟩
      unfold outN outR outQ outE
      rw [ho, h1]
      exact h.1
    · rename_i h2
      have h2 : startB l c q = true := by simpa using h2
      have ho : isOk l c q = true := by unfold isOk; rw [h1, h2]; rfl
      obtain ⟨v, ws, he, hw, hl, hown, hb⟩ := h
      refine ⟨v, ws, ?_, by unfold outW; rw [ho]; exact hw, hl, tx_own hown, hb⟩
      unfold outN outR outQ outE
      rw [ho, h1]
      exact he

set_option maxRecDepth 100000 in
set_option maxHeartbeats 4000000 in
theorem splits_any (l : List UInt8) (c q : Int) (hl : l.length ≤ 1000000) (W : World) : Calls Tryd.prog 11 #[.string (mk8 l), .int .u8 c, .int .u8 q] W (Makes (.bool true) W) := by
  have HP := Lib.hid (fun w => (split_any l c q w).mono fun e w' h => splitQ_of h)
  have HR := Lib.hid (fun w => (rsplit_any l c q hl w).mono fun e w' h => splitQ_of h)
  have HOW := Lib.hid (fun a b => outW_eq (l := l) (c := c) (q := q) (a := a) (b := b))
  have HLi := Lib.hid (fun (u v : Value) ws w (h1 : TxAt u ws w) (h2 : TxAt v ws w) (h3 : ws.length ≤ 2000) => list_any u v ws ws w h1 h2 (by omega))
  have HLi : Hid (∀ (u v : Value) ws w, TxAt u ws w → TxAt v ws w → ws.length ≤ 2000 → Calls Tryd.prog 12 #[u, v] w (Makes (.bool true) w)) := fun u v ws w h1 h2 h3 => by
    have h := HLi.out u v ws w h1 h2 h3
    rw [show (ws == ws) = true from by simp] at h
    exact h
  unfold SplitQ at HP HR
  obtain ⟨OW, hOW⟩ : ∃ OW, outW l c q = OW := ⟨_, rfl⟩
  obtain ⟨N, hN⟩ : ∃ N, outN l c q = N := ⟨_, rfl⟩
  obtain ⟨R, hR⟩ : ∃ R, outR l c q = R := ⟨_, rfl⟩
  obtain ⟨Q, hQ⟩ : ∃ Q, outQ l c q = Q := ⟨_, rfl⟩
  obtain ⟨I, hI⟩ : ∃ I, isOk l c q = I := ⟨_, rfl⟩
  obtain ⟨E, hE⟩ : ∃ E, outE l c q = E := ⟨_, rfl⟩
  simp only [hOW, hN, hR, hQ, hI, hE] at HP HR HOW
  have e1 : (I == I) = true := by simp
  have e2 : (E == E) = true := by simp
  have e3 : (Q == Q) = true := by simp
  clear hOW hN hR hQ hI hE hl
  go_enter Tryd.func11, Tryd.ntmps11
  go_wp2_with fail
  refine (HP.out W).mono ?_
  rintro e w1 ⟨v1, ws1, rfl, ho1, hl1, ht1, hb1⟩
  obtain ⟨ao1, cap1, b1, off1, rfl, x1, x2⟩ := ht1
  have HT1 : Hid (TxAt (.slice ao1 ws1.length cap1) ws1 w1) := ⟨ao1, cap1, b1, off1, rfl, x1, x2⟩
  have HO1 := Lib.hid ho1
  have HB1 := Lib.hid hb1
  clear x1 x2 ho1 hb1
  go_wp2_with fail
  have ho2 : Below w1.heap.size w1 (w1.alloc (.cells #[.string (mk8 N), .slice ao1 ws1.length cap1, .string (mk8 R), .bool Q] 44)) := (Below.refl _ _).alloc (Nat.le_refl _) _
  have hq2 : Rq w1.heap.size N (.slice ao1 ws1.length cap1) R Q (w1.alloc (.cells #[.string (mk8 N), .slice ao1 ws1.length cap1, .string (mk8 R), .bool Q] 44)) := heap_alloc_new w1 _
  have HB2 := Lib.hid (HB1.out.trans (ho2.mono HB1.out.size))
  have HT2 := Lib.hid (HT1.out.below ho2)
  refine (HR.out _).mono ?_
  rintro e w3 ⟨v2, ws2, rfl, ho3, hl2, ht2, hb3⟩
  obtain rfl := HOW.out _ _ ho3 HO1.out
  obtain ⟨ao2, cap2, b2, off2, rfl, x1, x2⟩ := ht2
  have HT3 : Hid (TxAt (.slice ao2 ws2.length cap2) ws2 w3) := ⟨ao2, cap2, b2, off2, rfl, x1, x2⟩
  have HQ3 := Lib.hid (hq2.below hb3)
  have HB3 := Lib.hid (HB2.out.trans (hb3.mono HB2.out.size))
  have HT1' := Lib.hid (HT2.out.below hb3)
  have c0 := HQ3.out.c0
  have c1 := HQ3.out.c1
  have c2 := HQ3.out.c2
  have c3 := HQ3.out.c3
  have hlt := HQ3.out.lt
  have hne : w1.heap.size ≠ w3.heap.size := by omega
  clear x1 x2 ho3 hb3 hq2 ho2
  go_wp2_with fail
  have ho4 : Below w3.heap.size w3 (w3.alloc (.cells #[.string (mk8 N), .slice ao2 ws2.length cap2, .string (mk8 R), .bool Q] 48)) := (Below.refl _ _).alloc (Nat.le_refl _) _
  have HB4 := Lib.hid (HB3.out.trans (ho4.mono HB3.out.size))
  refine (HLi.out _ _ ws2 _ (HT1'.out.below ho4) (HT3.out.below ho4) hl2).mono ?_
  rintro e w5 ⟨rfl, hb5⟩
  go_wp2_with fail
  go_ret
  exact ⟨rfl, HB4.out.trans (hb5.mono HB4.out.size)⟩

/-- Words, the program's and the document's, are one list. -/
theorem both_words (l : List UInt8) (hl : l.length ≤ 90000) : Hid (∀ (u v : Value) a b w, Wds l a → Wds l b → TxAt u a w → TxAt v b w → a.length ≤ l.length → Calls Tryd.prog 12 #[u, v] w (Makes (.bool true) w)) := fun u v a b w h1 h2 h3 h4 h5 => by
  obtain rfl := h1.eq h2
  have h := list_any u v a a w h3 h4 (by omega)
  rw [show (a == a) = true from by simp] at h
  exact h

set_option maxRecDepth 100000 in
set_option maxHeartbeats 4000000 in
theorem law_splits (l : List UInt8) (c q : Int) (W : World) : Calls Tryd.prog 3 #[.string (mk8 l), .int .u8 c, .int .u8 q] W (Makes (.bool true) W) := by
  have HS := Lib.hid sane_any
  have z1 : ((mk8 l).size : Int) = l.length := by rw [mk8_size]
  by_cases h1 : 2200 < l.length
  · have d1 : decide ((2200 : Int) < l.length) = true := decide_eq_true (by omega)
    go_enter Tryd.func3, Tryd.ntmps3
    go_wp2_with fail
    refine (HS.out _).mono ?_
    rintro e w1 ⟨rfl, hb⟩
    go_wp2_with fail
    go_ret
    exact ⟨rfl, hb⟩
  · have d1 : decide ((2200 : Int) < l.length) = false := decide_eq_false (by omega)
    have H1 := Lib.hid (fun w => splits_any l c q (by omega) w)
    have H2 := Lib.hid (fun w => splits_any l 46 39 (by omega) w)
    have H3 := Lib.hid (fun w => words_any l (by omega) w)
    have H4 := Lib.hid (fun w => rwords_any l (by omega) w)
    have H5 := both_words l (by omega)
    clear h1
    go_enter Tryd.func3, Tryd.ntmps3
    go_wp2_with fail
    refine (H1.out _).mono ?_
    rintro e w1 ⟨rfl, hb1⟩
    have HB1 := Lib.hid hb1
    clear hb1
    go_wp2_with fail
    refine (H2.out _).mono ?_
    rintro e w2 ⟨rfl, hb2⟩
    have HB2 := Lib.hid (HB1.out.trans (hb2.mono HB1.out.size))
    clear hb2
    go_wp2_with fail
    refine (H3.out _).mono ?_
    rintro e w3 ⟨v3, ws3, rfl, hw3, hl3, hown3, hb3⟩
    have HB3 := Lib.hid (HB2.out.trans (hb3.mono HB2.out.size))
    have HT3 := Lib.hid (tx_own hown3)
    have HW3 := Lib.hid hw3
    obtain ⟨ao3, cap3, rfl⟩ := own_form hown3
    clear hb3 hown3 hw3
    go_wp2_with fail
    refine (H4.out _).mono ?_
    rintro e w4 ⟨v4, ws4, rfl, hw4, _, hown4, hb4⟩
    have HB4 := Lib.hid (HB3.out.trans (hb4.mono HB3.out.size))
    have HT4 := Lib.hid (tx_own hown4)
    have HT3' := Lib.hid (HT3.out.below hb4)
    have HW4 := Lib.hid hw4
    obtain ⟨ao4, cap4, rfl⟩ := own_form hown4
    clear hb4 hown4 hw4
    go_wp2_with fail
    refine (H5.out _ _ ws3 ws4 w4 HW3.out HW4.out HT3'.out HT4.out hl3).mono ?_
    rintro e w5 ⟨rfl, hb5⟩
    have HB5 := Lib.hid (HB4.out.trans (hb5.mono HB4.out.size))
    clear hb5
    go_wp2_with fail
    refine (HS.out _).mono ?_
    rintro e w6 ⟨rfl, hb6⟩
    go_wp2_with fail
    go_ret
    exact ⟨rfl, HB5.out.trans (hb6.mono HB5.out.size)⟩

set_option maxRecDepth 100000 in
set_option maxHeartbeats 4000000 in
theorem law_words (ao : Option Addr) (len cap : Nat) (W : World) (h : BytesAt ao len W) : Calls Tryd.prog 4 #[.slice ao len cap] W (Makes (.bool true) W) := by
  have HS := Lib.hid sane_any
  by_cases h1 : 60 < len
  · have d1 : decide ((60 : Int) < len) = true := decide_eq_true (by omega)
    go_enter Tryd.func4, Tryd.ntmps4
    go_wp2_with fail
    refine (HS.out _).mono ?_
    rintro e w1 ⟨rfl, hb⟩
    go_wp2_with fail
    go_ret
    exact ⟨rfl, hb⟩
  · have d1 : decide ((60 : Int) < len) = false := decide_eq_false (by omega)
    have HBi := Lib.hid (bits_any ao len cap W h (by omega))
    clear h
    go_enter Tryd.func4, Tryd.ntmps4
    go_wp2_with fail
    refine HBi.out.mono ?_
    rintro e w0 ⟨l, rfl, hl, hb0⟩
    have HB0 := Lib.hid hb0
    have hll : l.length ≤ 400 := by omega
    have H1 := Lib.hid (fun w => splits_any (46 :: l) 46 39 (by simp; omega) w)
    have H2 := Lib.hid (fun w => splits_any (39 :: l) 46 39 (by simp; omega) w)
    have H2' := Lib.hid (fun w => splits_any l 33 124 (by omega) w)
    have H3 := Lib.hid (fun w => words_any l (by omega) w)
    have H4 := Lib.hid (fun w => rwords_any l (by omega) w)
    have H5 := both_words l (by omega)
    have A1 : Hid ((⟨#[46]⟩ : ByteArray) ++ mk8 l = mk8 (46 :: l)) := mk8_app [46] l
    have A2 : Hid ((⟨#[39]⟩ : ByteArray) ++ mk8 l = mk8 (39 :: l)) := mk8_app [39] l
    have hfit : 1 + l.length ≤ 1000 := by omega
    clear h1 hb0 hl
    go_wp2_with fail
    refine (H3.out _).mono ?_
    rintro e w3 ⟨v3, ws3, rfl, hw3, hl3, hown3, hb3⟩
    have HB3 := Lib.hid (HB0.out.trans (hb3.mono HB0.out.size))
    have HT3 := Lib.hid (tx_own hown3)
    have HW3 := Lib.hid hw3
    obtain ⟨ao3, cap3, rfl⟩ := own_form hown3
    clear hb3 hown3 hw3
    go_wp2_with fail
    refine (H4.out _).mono ?_
    rintro e w4 ⟨v4, ws4, rfl, hw4, _, hown4, hb4⟩
    have HB4 := Lib.hid (HB3.out.trans (hb4.mono HB3.out.size))
    have HT4 := Lib.hid (tx_own hown4)
    have HT3' := Lib.hid (HT3.out.below hb4)
    have HW4 := Lib.hid hw4
    obtain ⟨ao4, cap4, rfl⟩ := own_form hown4
    clear hb4 hown4 hw4
    go_wp2_with fail
    refine (H5.out _ _ ws3 ws4 w4 HW3.out HW4.out HT3'.out HT4.out hl3).mono ?_
    rintro e w5 ⟨rfl, hb5⟩
    have HB5 := Lib.hid (HB4.out.trans (hb5.mono HB4.out.size))
    clear hb5
    go_wp2_with fail
    rw [A1.out]
    refine (H1.out _).mono ?_
    rintro e w6 ⟨rfl, hb6⟩
    have HB6 := Lib.hid (HB5.out.trans (hb6.mono HB5.out.size))
    clear hb6
    go_wp2_with fail
    rw [A2.out]
    refine (H2.out _).mono ?_
    rintro e w7 ⟨rfl, hb7⟩
    have HB7 := Lib.hid (HB6.out.trans (hb7.mono HB6.out.size))
    clear hb7
    go_wp2_with fail
    refine (H2'.out _).mono ?_
    rintro e w8 ⟨rfl, hb8⟩
    have HB8 := Lib.hid (HB7.out.trans (hb8.mono HB7.out.size))
    clear hb8
    go_wp2_with fail
    refine (HS.out _).mono ?_
    rintro e w9 ⟨rfl, hb9⟩
    go_wp2_with fail
    go_ret
    exact ⟨rfl, HB8.out.trans (hb9.mono HB8.out.size)⟩
end Go.Proofs.YtejffadjakajcaaDoor
