/- What a condition is read as; the bytes that tell its kind. -/
import Derived.Test.YtjbaljibaejdgaaDoorRqSane
namespace Go.Proofs.YtjbaljibaejdgaaDoor
open Go.RowKit Go.PlainAid Go.Shelf

def oneK (c : UInt8) : Bool := [111, 101, 116, 110].contains c
def namK (c : UInt8) : Bool := [100, 114].contains c
def quoB (c : UInt8) : Bool := !letB c.toNat && !digB c.toNat && !blk c && !([40, 43, 45, 46, 124, 33, 92].contains c)
/-- What is asked behind every !. -/
structure Ask where
  kind : UInt8
  name : List UInt8
  left : List UInt8
  right : List UInt8
  rest : List UInt8
def textsL (c : UInt8) (r : List UInt8) : Option Ask :=
  if Lib.indexByte r c < 0 then none
  else if Lib.indexByte (r.drop ((Lib.indexByte r c).toNat + 1)) c < 0 then none
  else some ⟨39, [], r.take (Lib.indexByte r c).toNat, (r.drop ((Lib.indexByte r c).toNat + 1)).take (Lib.indexByte (r.drop ((Lib.indexByte r c).toNat + 1)) c).toNat,
    (r.drop ((Lib.indexByte r c).toNat + 1)).drop ((Lib.indexByte (r.drop ((Lib.indexByte r c).toNat + 1)) c).toNat + 1)⟩
def readL (m : List UInt8) : Option Ask :=
  match m with
  | [] => none
  | c :: r =>
    if oneK c then some ⟨c, [], [], [], r⟩
    else if namK c then (if wordN r = 0 then none else some ⟨c, r.take (wordN r), [], [], r.drop (wordN r)⟩)
    else if quoB c then textsL c r
    else if wordN (c :: r) = 0 then none else some ⟨120, (c :: r).take (wordN (c :: r)), [], [], (c :: r).drop (wordN (c :: r))⟩
/-- How many ! stand in front. -/
abbrev turnsN (l : List UInt8) : Nat := exN 33 (l.dropWhile blk)
/-- What is behind every !. -/
def askL (l : List UInt8) : Option Ask := readL ((l.dropWhile blk).drop (turnsN l))

theorem index_set (cs : List UInt8) (hcs : cs.length ≤ 10) (c : UInt8) : decide (Lib.indexByte cs c < 0) = !cs.contains c := by
  rw [Lib.contains_iff_indexByte, Bool.eq_iff_iff]
  simp
theorem nat_u8 (c : UInt8) : ((c.toNat : Int)).toNat.toUInt8 = c := by simp

set_option maxHeartbeats 2000000 in
theorem canQuote_any (c : UInt8) (w : World) : Calls Tryd.prog 45 #[.int .u8 c.toNat] w (Says (.bool (quoB c)) w) := by
  have H1 := Lib.hid (letter_any c.toNat w)
  have H2 := Lib.hid (digit_any c.toNat w)
  have H3 := Lib.hid (blank_any c.toNat w)
  have H4 := Lib.hid (Any.strings_IndexByte Tryd.indexL ⟨#[40, 43, 45, 46, 124, 33, 92]⟩ c.toNat w)
  have hix : Lib.indexByte (⟨#[40, 43, 45, 46, 124, 33, 92]⟩ : ByteArray).data.toList ((c.toNat : Int)).toNat.toUInt8 = Lib.indexByte [40, 43, 45, 46, 124, 33, 92] c := by rw [nat_u8]
  rw [hix] at H4
  have HD := Lib.hid (index_set [40, 43, 45, 46, 124, 33, 92] (by decide) c)
  rw [blkI_u8] at H3
  unfold quoB
  obtain ⟨x, hx⟩ : ∃ x, letB c.toNat = x := ⟨_, rfl⟩
  obtain ⟨y, hy⟩ : ∃ y, digB c.toNat = y := ⟨_, rfl⟩
  obtain ⟨z, hz⟩ : ∃ z, blk c = z := ⟨_, rfl⟩
  obtain ⟨u, hu⟩ : ∃ u, [40, 43, 45, 46, 124, 33, 92].contains c = u := ⟨_, rfl⟩
  obtain ⟨i, hi⟩ : ∃ i, Lib.indexByte [40, 43, 45, 46, 124, 33, 92] c = i := ⟨_, rfl⟩
  obtain ⟨k, hk⟩ : ∃ k : Int, (c.toNat : Int) = k := ⟨_, rfl⟩
  rw [hx, hk] at H1; rw [hy, hk] at H2; rw [hz, hk] at H3; rw [hi, hk] at H4; rw [hi, hu] at HD
  rw [hx, hy, hz, hu, hk]
  clear hx hy hz hu hi hix hk
  cases x with
  | true =>
    go_enter Tryd.func45, Tryd.ntmps45
    go_wp2_with fail
    refine H1.out.mono ?_
    rintro e w1 ⟨rfl, rfl⟩
    go_wp2_with fail
    go_ret
    exact ⟨rfl, rfl⟩
  | false =>
    cases y with
    | true =>
      go_enter Tryd.func45, Tryd.ntmps45
      go_wp2_with fail
      refine H1.out.mono ?_
      rintro e w1 ⟨rfl, rfl⟩
      go_wp2_with fail
      refine H2.out.mono ?_
      rintro e w1 ⟨rfl, rfl⟩
      go_wp2_with fail
      go_ret
      exact ⟨rfl, rfl⟩
    | false =>
      cases z with
      | true =>
        go_enter Tryd.func45, Tryd.ntmps45
        go_wp2_with fail
        refine H1.out.mono ?_
        rintro e w1 ⟨rfl, rfl⟩
        go_wp2_with fail
        refine H2.out.mono ?_
        rintro e w1 ⟨rfl, rfl⟩
        go_wp2_with fail
        refine H3.out.mono ?_
        rintro e w1 ⟨rfl, rfl⟩
        go_wp2_with fail
        go_ret
        exact ⟨rfl, rfl⟩
      | false =>
        go_enter Tryd.func45, Tryd.ntmps45
        go_wp2_with fail
        refine H1.out.mono ?_
        rintro e w1 ⟨rfl, rfl⟩
        go_wp2_with fail
        refine H2.out.mono ?_
        rintro e w1 ⟨rfl, rfl⟩
        go_wp2_with fail
        refine H3.out.mono ?_
        rintro e w1 ⟨rfl, rfl⟩
        go_wp2_with fail
        refine H4.out.mono ?_
        rintro e w1 ⟨rfl, hw⟩
        subst w1
        go_wp2_with fail
        go_ret
        exact ⟨by rw [HD.out]; rfl, rfl⟩

/-- The extent of the byte that tells a condition's kind. -/
def kindN (l : List UInt8) : Nat := match l with | [] => 0 | c :: _ => if oneK c || namK c || quoB c then 1 else 0
theorem kindN_le (l : List UInt8) : kindN l ≤ l.length := by
  unfold kindN
  split
  · exact Nat.le_refl _
  · split <;> simp
theorem six_kinds (c : UInt8) : [111, 101, 116, 110, 100, 114].contains c = (oneK c || namK c) := by
  rw [Bool.eq_iff_iff]
  simp [oneK, namK, List.contains_cons, or_assoc]

set_option maxRecDepth 100000 in
set_option maxHeartbeats 2000000 in
theorem kindByte_any (l : List UInt8) (w : World) : Calls Tryd.prog 30 #[.string (mk8 l)] w (Makes (.int .i64 (kindN l)) w) := by
  cases l with
  | nil =>
    obtain ⟨l, hl⟩ : ∃ l : List UInt8, l = [] := ⟨_, rfl⟩
    rw [← hl]
    have hv : kindN l = 0 := by rw [hl]; rfl
    rw [hv]
    have z4 : l.isEmpty = true := by rw [hl]; rfl
    clear hv hl
    go_enter Tryd.func30, Tryd.ntmps30
    go_wp2_with fail
    go_ret
    exact ⟨rfl, Below.refl _ _⟩
  | cons c r =>
    have hv : kindN (c :: r) = if oneK c || namK c || quoB c then 1 else 0 := rfl
    rw [hv]
    have hbt : bt (mk8 (c :: r)) 0 = c.toNat := bt_mk rfl
    have HI := Lib.hid (Any.strings_IndexByte Tryd.indexL ⟨#[111, 101, 116, 110, 100, 114]⟩ (bt (mk8 (c :: r)) 0) w)
    have hix : Lib.indexByte (⟨#[111, 101, 116, 110, 100, 114]⟩ : ByteArray).data.toList (bt (mk8 (c :: r)) 0).toNat.toUInt8 = Lib.indexByte [111, 101, 116, 110, 100, 114] c := by rw [hbt, nat_u8]
    rw [hix] at HI
    have HD := index_set [111, 101, 116, 110, 100, 114] (by decide) c
    rw [six_kinds] at HD
    have HQ := Lib.hid (canQuote_any c w)
    rw [← hbt] at HQ
    have hgb := get_bt (mk8 (c :: r))
    have z1 : ((mk8 (c :: r)).size : Int) = (c :: r).length := by rw [mk8_size]
    have z3 : 0 < (mk8 (c :: r)).size := by rw [mk8_size]; simp
    have z4 : (c :: r).isEmpty = false := rfl
    obtain ⟨l, hl⟩ : ∃ l, c :: r = l := ⟨_, rfl⟩
    rw [hl] at HI HQ hgb z1 z3 z4 ⊢
    obtain ⟨i, hi⟩ : ∃ i, Lib.indexByte [111, 101, 116, 110, 100, 114] c = i := ⟨_, rfl⟩
    rw [hi] at HI HD
    clear hv hbt hix hl hi
    obtain ⟨b, hb⟩ : ∃ b, (oneK c || namK c) = b := ⟨_, rfl⟩
    obtain ⟨q, hq⟩ : ∃ q, quoB c = q := ⟨_, rfl⟩
    rw [hb] at HD ⊢
    rw [hq] at HQ ⊢
    clear hb hq
    cases b with
    | true =>
      have hd : decide (i < 0) = false := HD
      rw [Bool.true_or, if_pos rfl]
      clear HD
      go_enter Tryd.func30, Tryd.ntmps30
      go_wp2_with fail
      refine HI.out.mono ?_
      rintro e w1 ⟨rfl, hw⟩
      subst w1
      go_wp2_with fail
      go_ret
      exact ⟨rfl, Below.refl _ _⟩
    | false =>
      have hd : decide (i < 0) = true := HD
      rw [Bool.false_or]
      clear HD
      cases q with
      | true =>
        rw [if_pos rfl]
        go_enter Tryd.func30, Tryd.ntmps30
        go_wp2_with fail
        refine HI.out.mono ?_
        rintro e w1 ⟨rfl, hw⟩
        subst w1
        go_wp2_with fail
        refine HQ.out.mono ?_
        rintro e w1 ⟨rfl, rfl⟩
        go_wp2_with fail
        go_ret
        exact ⟨rfl, Below.refl _ _⟩
      | false =>
        rw [if_neg (by simp)]
        go_enter Tryd.func30, Tryd.ntmps30
        go_wp2_with fail
        refine HI.out.mono ?_
        rintro e w1 ⟨rfl, hw⟩
        subst w1
        go_wp2_with fail
        refine HQ.out.mono ?_
        rintro e w1 ⟨rfl, rfl⟩
        go_wp2_with fail
        go_ret
        exact ⟨rfl, Below.refl _ _⟩

/-- How many bytes stand ahead of the next c, or up to the end. -/
def upN (c : UInt8) (l : List UInt8) : Nat := if Lib.indexByte l c < 0 then l.length else (Lib.indexByte l c).toNat
theorem upN_le (c : UInt8) (l : List UInt8) : upN c l ≤ l.length := by
  unfold upN
  split
  · exact Nat.le_refl _
  · rename_i h
    obtain ⟨o, ho⟩ : ∃ o : Nat, Lib.indexByte l c = o := ⟨(Lib.indexByte l c).toNat, by omega⟩
    have := (List.getElem?_eq_some_iff.1 (Lib.indexByte_some ho).1).1
    omega
/-- The extent up to a byte, which lies in block b. -/
theorem upTo1_any (b : Nat) (c : UInt8) (l : List UInt8) (hl : l.length ≤ 1000000) (w : World) (hc : w.cell? ⟨b, 0, none⟩ = some (.int .u8 c.toNat)) : Calls Tryd.prog 56 #[.string (mk8 l), .pointer (some ⟨b, 0, none⟩)] w (Makes (.int .i64 (upN c l)) w) := by
  have HI := Lib.hid (Any.strings_IndexByte Tryd.indexL (mk8 l) c.toNat w)
  have hix : Lib.indexByte (mk8 l).data.toList ((c.toNat : Int)).toNat.toUInt8 = Lib.indexByte l c := by rw [nat_u8]
  rw [hix] at HI
  have z1 : ((mk8 l).size : Int) = l.length := by rw [mk8_size]
  unfold upN
  obtain ⟨z, hz⟩ : ∃ z, Lib.indexByte l c = z := ⟨_, rfl⟩
  rw [hz] at HI ⊢
  clear hix hz
  by_cases h0 : z < 0
  · rw [if_pos h0]
    have hz0 : ¬ 0 ≤ z := by omega
    go_enter Tryd.func56, Tryd.ntmps56
    go_wp2_with fail
    refine HI.out.mono ?_
    rintro e w1 ⟨rfl, hw⟩
    subst w1
    go_wp2_with fail
    go_ret
    exact ⟨rfl, Below.refl _ _⟩
  · rw [if_neg h0]
    have hz0 : 0 ≤ z := by omega
    have HE : Hid (((z.toNat : Nat) : Int) = z) := by show _ = _; omega
    go_enter Tryd.func56, Tryd.ntmps56
    go_wp2_with fail
    refine HI.out.mono ?_
    rintro e w1 ⟨rfl, hw⟩
    subst w1
    go_wp2_with fail
    go_ret
    exact ⟨by rw [HE.out]; rfl, Below.refl _ _⟩
theorem enters_kind (args : Array Value) (w : World) : (callFunc 30 args).run Tryd.prog w = .ok (.enter 30 args) w := by kernel_rfl
theorem enters_upTo (args : Array Value) (w : World) : (callFunc 56 args).run Tryd.prog w = .ok (.enter 56 args) w := by kernel_rfl
theorem cut_kind (b : Nat) (l : List UInt8) (w : World) (h : Box b l w) : Calls Tryd.prog 28 #[.func (.func 30) #[] #[], .pointer (some ⟨b, 0, none⟩)] w (CutP b (kindN l) l w) :=
  cut_fn b _ l _ w h (kindN_le l) enters_kind (kindByte_any l w)
theorem cut_upTo (b p : Nat) (c : UInt8) (l : List UInt8) (hl : l.length ≤ 1000000) (w : World) (h : Box b l w) (hc : w.cell? ⟨p, 0, none⟩ = some (.int .u8 c.toNat)) : Calls Tryd.prog 28 #[.func (.func 56) #[] #[.pointer (some ⟨p, 0, none⟩)], .pointer (some ⟨b, 0, none⟩)] w (CutP b (upN c l) l w) :=
  cut_any b _ l _ _ w h (upN_le c l) (enters_upTo _) (upTo1_any p c l hl w hc)
/-- upTo makes an extent. -/
def UpToP (c : UInt8) (w : World) (e : Ending) (w' : World) : Prop := e = .returned (.func (.func 56) #[] #[.pointer (some ⟨w.heap.size, 0, none⟩)]) ∧ w'.cell? ⟨w.heap.size, 0, none⟩ = some (.int .u8 c.toNat) ∧ Below w.heap.size w w'
theorem upTo_any (c : UInt8) (w : World) : Calls Tryd.prog 46 #[.int .u8 c.toNat] w (UpToP c w) := by
  have hmf : ∀ (fn : Fn) (first cap : Array Value) (w : World), (Instr.makeFunc fn first cap).run Tryd.prog w = .ok (.func fn first cap) w := fun _ _ _ _ => rfl
  go_enter Tryd.func46, Tryd.ntmps46
  go_wp2_with fail
  go_ret
  exact ⟨rfl, cell_new w _ _, (Below.refl _ _).alloc (Nat.le_refl _) _⟩
end Go.Proofs.YtjbaljibaejdgaaDoor
