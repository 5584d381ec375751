/- Split. -/
import Derived.Test.YtjbaljibaejdgaaDoorRqRow
import Derived.Deep.RegionWith
import Derived.Deep.DeepCutAuto
namespace Go.Proofs.YtjbaljibaejdgaaDoor
open Go.RowKit Go.PlainAid Go.Shelf

abbrev noReq : Value := .agg #[.string ⟨#[]⟩, .slice none 0 0, .string ⟨#[]⟩, .bool false]
/-- What a control line is cut into: its name, and all behind the name and one blank. -/
def nameL (l : List UInt8) : List UInt8 := (l.dropWhile blk).take (wordN (l.dropWhile blk))
def restL (l : List UInt8) : List UInt8 := ((l.dropWhile blk).drop (wordN (l.dropWhile blk))).drop 1
/-- May these be a line and its control bytes? -/
def fitB (l : List UInt8) (c q : Int) : Bool := lineL l && ctlB c && ctlB q && !(c == q)
def startB (l : List UInt8) (c q : Int) : Bool := match l with | [] => false | h :: _ => ((h.toNat : Int) == c) || ((h.toNat : Int) == q)
/-- What Split gives. -/
def SplitP (l : List UInt8) (c q : Int) (W : World) (e : Ending) (W' : World) : Prop :=
  if fitB l c q = false then e = .returned (.tuple #[noReq, .bool false, .int .i64 1]) ∧ Below W.heap.size W W'
  else if startB l c q = false then e = .returned (.tuple #[noReq, .bool false, .int .i64 0]) ∧ Below W.heap.size W W'
  else ∃ v ws, e = .returned (.tuple #[.agg #[.string (mk8 (nameL l.tail)), v, .string (mk8 (restL l.tail)), .bool ((bt (mk8 l) 0) == q)], .bool true, .int .i64 0]) ∧
    Wds (restL l.tail) ws ∧ ws.length ≤ 2000 ∧ W'.ownsRow W.heap.size 9 1 v ws.length (ws.map strV) ∧ Below W.heap.size W W'
theorem splitP_bad {l : List UInt8} {c q : Int} {W : World} (h : fitB l c q = false) : SplitP l c q W = fun e W' => e = .returned (.tuple #[noReq, .bool false, .int .i64 1]) ∧ Below W.heap.size W W' := by
  funext e W'; unfold SplitP; rw [if_pos h]
theorem splitP_none {l : List UInt8} {c q : Int} {W : World} (h : fitB l c q = true) (h2 : startB l c q = false) : SplitP l c q W = fun e W' => e = .returned (.tuple #[noReq, .bool false, .int .i64 0]) ∧ Below W.heap.size W W' := by
  funext e W'; unfold SplitP; rw [if_neg (by simp [h]), if_pos h2]
theorem splitP_yes {l : List UInt8} {c q : Int} {W : World} (h : fitB l c q = true) (h2 : startB l c q = true) : SplitP l c q W = fun e W' => ∃ v ws, e = .returned (.tuple #[.agg #[.string (mk8 (nameL l.tail)), v, .string (mk8 (restL l.tail)), .bool ((bt (mk8 l) 0) == q)], .bool true, .int .i64 0]) ∧
    Wds (restL l.tail) ws ∧ ws.length ≤ 2000 ∧ W'.ownsRow W.heap.size 9 1 v ws.length (ws.map strV) ∧ Below W.heap.size W W' := by
  funext e W'; unfold SplitP; rw [if_neg (by simp [h]), if_neg (by simp [h2])]

theorem below_set {B b k : Nat} {w w' : World} (h : Below B w w') (hb : B ≤ b) (u : Value) : Below B w (w'.setCell ⟨b, k, none⟩ u) :=
  h.trans ⟨rfl, rfl, rfl, by simp [World.setCell], fun i hi => Below.heap_setCell _ ⟨b, k, none⟩ _ _ (by show i ≠ b; omega)⟩

set_option maxRecDepth 100000 in
set_option maxHeartbeats 4000000 in
theorem split_bad (l : List UInt8) (c q : Int) (W : World) (h : fitB l c q = false) : Calls Tryd.prog 9 #[.string (mk8 l), .int .u8 c, .int .u8 q] W (fun e W' => e = .returned (.tuple #[noReq, .bool false, .int .i64 1]) ∧ Below W.heap.size W W') := by
  have HL := Lib.hid (fun w => isLine_any l w)
  have HC := Lib.hid (fun w => control_any c w)
  have HQ := Lib.hid (fun w => control_any q w)
  unfold fitB at h
  cases h1 : lineL l with
  | false =>
    simp only [h1] at HL
    clear h h1
    go_enter Tryd.func9, Tryd.ntmps9
    go_wp2_with fail
    refine (HL.out _).mono ?_
    rintro e w1 ⟨rfl, rfl⟩
    go_wp2_with fail
    simp [bodyPost, results, Tryd.results9, go_sem]
    exact (Below.refl _ _).alloc (Nat.le_refl _) _
  | true =>
    simp only [h1] at HL
    cases h2 : ctlB c with
    | false =>
      simp only [h2] at HC
      clear h h1 h2
      go_enter Tryd.func9, Tryd.ntmps9
      go_wp2_with fail
      refine (HL.out _).mono ?_
      rintro e w1 ⟨rfl, rfl⟩
      go_wp2_with fail
      refine (HC.out _).mono ?_
      rintro e w1 ⟨rfl, rfl⟩
      go_wp2_with fail
      simp [bodyPost, results, Tryd.results9, go_sem]
      exact (Below.refl _ _).alloc (Nat.le_refl _) _
    | true =>
      simp only [h2] at HC
      cases h3 : ctlB q with
      | false =>
        simp only [h3] at HQ
        clear h h1 h2 h3
        go_enter Tryd.func9, Tryd.ntmps9
        go_wp2_with fail
        refine (HL.out _).mono ?_
        rintro e w1 ⟨rfl, rfl⟩
        go_wp2_with fail
        refine (HC.out _).mono ?_
        rintro e w1 ⟨rfl, rfl⟩
        go_wp2_with fail
        refine (HQ.out _).mono ?_
        rintro e w1 ⟨rfl, rfl⟩
        go_wp2_with fail
        simp [bodyPost, results, Tryd.results9, go_sem]
        exact (Below.refl _ _).alloc (Nat.le_refl _) _
      | true =>
        simp only [h3] at HQ
        have h4 : (c == q) = true := by rw [h1, h2, h3] at h; simpa using h
        clear h h1 h2 h3
        go_enter Tryd.func9, Tryd.ntmps9
        go_wp2_with fail
        refine (HL.out _).mono ?_
        rintro e w1 ⟨rfl, rfl⟩
        go_wp2_with fail
        refine (HC.out _).mono ?_
        rintro e w1 ⟨rfl, rfl⟩
        go_wp2_with fail
        refine (HQ.out _).mono ?_
        rintro e w1 ⟨rfl, rfl⟩
        go_wp2_with fail
        simp [bodyPost, results, Tryd.results9, go_sem]
        exact (Below.refl _ _).alloc (Nat.le_refl _) _

set_option maxRecDepth 100000 in
set_option maxHeartbeats 4000000 in
theorem split_none (l : List UInt8) (c q : Int) (W : World) (h : fitB l c q = true) (hs : startB l c q = false) : Calls Tryd.prog 9 #[.string (mk8 l), .int .u8 c, .int .u8 q] W (fun e W' => e = .returned (.tuple #[noReq, .bool false, .int .i64 0]) ∧ Below W.heap.size W W') := by
  have HL := Lib.hid (fun w => isLine_any l w)
  have HC := Lib.hid (fun w => control_any c w)
  have HQ := Lib.hid (fun w => control_any q w)
  unfold fitB at h
  simp only [Bool.and_eq_true, Bool.not_eq_true'] at h
  obtain ⟨⟨⟨h1, h2⟩, h3⟩, h4⟩ := h
  simp only [h1] at HL; simp only [h2] at HC; simp only [h3] at HQ
  clear h1 h2 h3
  by_cases hl : l = []
  · have z4 : l.isEmpty = true := by rw [hl]; rfl
    clear hs hl
    go_enter Tryd.func9, Tryd.ntmps9
    go_wp2_with fail
    refine (HL.out _).mono ?_
    rintro e w1 ⟨rfl, rfl⟩
    go_wp2_with fail
    refine (HC.out _).mono ?_
    rintro e w1 ⟨rfl, rfl⟩
    go_wp2_with fail
    refine (HQ.out _).mono ?_
    rintro e w1 ⟨rfl, rfl⟩
    go_wp2_with fail
    simp [bodyPost, results, Tryd.results9, go_sem]
    exact (Below.refl _ _).alloc (Nat.le_refl _) _
  · obtain ⟨x, r, rfl⟩ : ∃ x r, l = x :: r := by cases l with | nil => exact absurd rfl hl | cons x r => exact ⟨x, r, rfl⟩
    clear hl
    have hgb := get_bt (mk8 (x :: r))
    have hb : bt (mk8 (x :: r)) 0 = x.toNat := bt_mk rfl
    have hs : ((((x.toNat : Nat) : Int) == c) || (((x.toNat : Nat) : Int) == q)) = false := hs
    rw [Bool.or_eq_false_iff] at hs
    have e1 : (bt (mk8 (x :: r)) 0 != c) = true := by rw [hb, bne, hs.1]; rfl
    have e2 : (bt (mk8 (x :: r)) 0 != q) = true := by rw [hb, bne, hs.2]; rfl
    have z1 : ((mk8 (x :: r)).size : Int) = (x :: r).length := by rw [mk8_size]
    have z3 : 0 < (mk8 (x :: r)).size := by rw [mk8_size]; simp
    have z4 : (x :: r).isEmpty = false := rfl
    obtain ⟨l, hl⟩ : ∃ l, x :: r = l := ⟨_, rfl⟩
    rw [hl] at hgb hb e1 e2 z1 z3 z4 HL ⊢
    clear hl hb hs
    go_enter Tryd.func9, Tryd.ntmps9
    go_wp2_with fail
    refine (HL.out _).mono ?_
    rintro e w1 ⟨rfl, rfl⟩
    go_wp2_with fail
    refine (HC.out _).mono ?_
    rintro e w1 ⟨rfl, rfl⟩
    go_wp2_with fail
    refine (HQ.out _).mono ?_
    rintro e w1 ⟨rfl, rfl⟩
    go_wp2_with fail
    simp [bodyPost, results, Tryd.results9, go_sem]
    exact (Below.refl _ _).alloc (Nat.le_refl _) _
end Go.Proofs.YtjbaljibaejdgaaDoor
