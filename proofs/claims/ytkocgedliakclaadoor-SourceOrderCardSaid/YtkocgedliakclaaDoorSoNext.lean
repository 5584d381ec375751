/- The next line. -/
import Derived.Test.YtkocgedliakclaaDoorSoPut
import Derived.Test.YtkocgedliakclaaDoorSoApart
namespace Go.Proofs.YtkocgedliakclaaDoor
open Go.RowKit Go.PlainAid Go.Maps Go.Shelf

section
variable {B b : Nat} {S : Nat → Prop} {v : Value} {F : List FrC} {w : World}
/-- A frame with another place of the next line. -/
abbrev FrC.at (f : FrC) (n : Nat) : FrC := ⟨f.kind, f.name, f.lines, n, f.args⟩
theorem SkAt.setNext (h : SkAt B S b v F w) {i g : Nat} (hi : i < F.length) (hv : v.ownBlock = some g) (n : Nat) (hn : n ≤ F[i].lines.length) :
    SkAt B S b v (F.set i (F[i].at n)) (w.setCell ⟨g, i * 5 + 3, none⟩ (.int .i64 n)) ∧ w.grownBy (w.setCell ⟨g, i * 5 + 3, none⟩ (.int .i64 n)) (some g) := by
  refine ⟨?_, grown_set _ _ _ _⟩
  rcases id h.row with ⟨rfl, _⟩ | ⟨g', cap, cur, rfl, hSg, hgb, hh, h1, h2, h3, h4⟩
  · cases hv
  · injection hv with hv
    have hv : g' = g := hv
    subst hv
    have hk : ∀ k, k ≠ g' → (w.setCell ⟨g', i * 5 + 3, none⟩ (.int .i64 n)).heap[k]? = w.heap[k]? := fun k hk => Below.heap_setCell w ⟨g', i * 5 + 3, none⟩ _ k hk
    have hl : (F.set i (F[i].at n)).length = F.length := List.length_set
    refine ⟨by rw [hk b (fun e => hgb e.symm)]; exact h.blk, .inr ⟨g', cap, _, by rw [hl], hSg, hgb, heap_set_at hh _ _, by rw [hl]; exact h1, h2, by simpa using h3, fun j hj => ?_⟩, h.sb, h.lo, fun f hf => ?_, by rw [hl]; exact h.len⟩
    · rw [hl] at hj
      obtain ⟨lv, av, hu⟩ := h4 j hj
      have hst : Stay (fun k => (S k ∧ k ≠ b ∧ k ≠ g') ∧ k < w.heap.size) w (w.setCell ⟨g', i * 5 + 3, none⟩ (.int .i64 n)) := fun k off hk' => by simp [World.cell?, hk k hk'.1.2.2]
      by_cases e : i = j
      · subst e
        refine ⟨lv, av, ?_⟩
        rw [List.getElem_set_self]
        have c := fun k (hk : k ≠ 3) => cell_set_other (w := w) (b := g') (b' := g') (k := i * 5 + 3) (k' := i * 5 + k) (u := .int .i64 n) (.inr (by omega))
        have c0 := c 0 (by omega)
        simp only [Nat.add_zero] at c0
        exact ⟨by rw [c0]; exact hu.c0, by rw [c 1 (by omega)]; exact hu.c1, by rw [c 2 (by omega)]; exact hu.c2, cell_set_same hh (by omega), by rw [c 4 (by omega)]; exact hu.c4, ⟨(hu.val.both.stay hst).lines.mono fun k hk => hk.1, (hu.val.both.stay hst).args.mono fun k hk => hk.1⟩⟩
      · refine ⟨lv, av, ?_⟩
        rw [List.getElem_set_ne e]
        exact (hu.both.moveTo (w' := w.setCell ⟨g', i * 5 + 3, none⟩ (.int .i64 n)) (b' := g') (off' := j * 5) (fun k hk => cell_set_other (.inr (by omega))) hst).mono fun k hk => hk.1
    · rcases List.mem_or_eq_of_mem_set hf with h5 | rfl
      · exact h.ok f h5
      · exact ⟨(h.ok _ (List.getElem_mem hi)).fit, hn⟩

theorem take_set {α : Type} {l : List α} {i : Nat} (hi : i < l.length) (a : α) : (l.take (i + 1)).set i a = l.take i ++ [a] := by
  rw [List.take_succ_eq_append_getElem hi, List.set_append_right _ _ (by rw [List.length_take]; omega)]
  congr 1
  rw [show i - (l.take i).length = 0 from by rw [List.length_take]; omega]
  rfl

/-- The line at a place of a row of lines. -/
theorem line_at {S : Nat → Prop} {la : Option Addr} {lc : Nat} {l : List LineC} {w : World} (h : LinesRd S (.slice la l.length lc) l w) {j : Nat} (hj : j < l.length) :
    ∃ lb lo ba bc, la = some ⟨lb, lo, none⟩ ∧ S lb ∧ LineIn S lb (lo + j * 5) l[j] (.slice ba l[j].boxes.length bc) w := by
  obtain ⟨ao, cap, e, _, b, off, h1, h2⟩ := h
  cases e
  obtain ⟨rfl, hS⟩ := h1 (by omega)
  obtain ⟨u, hu⟩ := h2 j hj
  obtain ⟨ba, bc, rfl, _⟩ := id hu.boxes
  exact ⟨b, off, ba, bc, rfl, hS, hu⟩

def NextP (B : Nat) (S : Nat → Prop) (b : Nat) (x : LineC) (F : List FrC) (w : World) (e : Ending) (w' : World) : Prop :=
  ∃ bv, e = .returned (.tuple #[.agg #[.string x.text, .bool x.made, .int .i64 x.up, .int .i64 x.down, bv], .int .i64 0]) ∧ BoxesRd (w.heap.size ≤ ·) bv x.boxes w' ∧ (∃ v', SkAt B S b v' F w') ∧ Below B w w' ∧ Off S w w'
def NoneP (B : Nat) (S : Nat → Prop) (b : Nat) (F : List FrC) (w : World) (e : Ending) (w' : World) : Prop :=
  e = .returned (.tuple #[.agg #[.string ⟨#[]⟩, .bool false, .int .i64 0, .int .i64 0, .slice none 0 0], .int .i64 3]) ∧ (∃ v', SkAt B S b v' F w') ∧ Below B w w' ∧ Off S w w'

set_option maxRecDepth 100000 in
set_option maxHeartbeats 8000000 in
theorem next_none (h : SkAt B S b v F w) (hall : ∀ f ∈ F, isUnreadB f = false) : Calls Tryd.prog 19 #[.pointer (some ⟨b, 0, none⟩)] w (NoneP B S b [] w) := by
  have HSl := Lib.hid h.lo
  have h1 := h.both.alloc (.cells #[.string ⟨#[]⟩, .bool false, .int .i64 0, .int .i64 0, .slice none 0 0] 37)
  have hB0 : Below w.heap.size w (w.alloc (.cells #[.string ⟨#[]⟩, .bool false, .int .i64 0, .int .i64 0, .slice none 0 0] 37)) := (Below.refl _ _).alloc (Nat.le_refl _) _
  have HN := Lib.hid (skNone_any h1.cell0)
  have HT := Lib.hid (topmost_any h1 39 isUnreadB isUnread_tells enters_unread)
  have HS := Lib.hid h1
  have hBw : B ≤ w.heap.size := Nat.le_trans (h.lo _ h.sb) (Nat.le_of_lt h.lt)
  have HB0 := Lib.hid hB0
  have HA := Lib.hid hall
  have hvb : v.ownBlock ≠ some w.heap.size := fun e => Nat.lt_irrefl _ (h.bS e).2
  have hbl := h.lt
  have HR := Lib.hid (show (w.alloc (.cells #[.string ⟨#[]⟩, .bool false, .int .i64 0, .int .i64 0, .slice none 0 0] 37)).heap[w.heap.size]? = some (.cells #[.string ⟨#[]⟩, .bool false, .int .i64 0, .int .i64 0, .slice none 0 0] 37 (0, 0)) from heap_alloc_new w _)
  clear h h1 hB0 hall
  go_enter Tryd.func19, Tryd.ntmps19
  go_wp2_with fail
  refine (HN.out).mono ?_
  rintro e w1 ⟨rfl, rfl⟩
  go_wp2_with fail
  refine (HT.out).mono ?_
  rintro e w2 ⟨hb2, ⟨i, g, c, f, h3, h4, _⟩ | ⟨_, rfl⟩⟩
  · rw [HA.out f (List.mem_of_getElem? h3)] at h4
    cases h4
  · have HL := Lib.hid (leave_any (HS.out.below hb2) 0 (Nat.zero_le _))
    have HSO := Lib.hid (fun (w' : World) (hk : Keep b v w2 w') => (HS.out.below hb2).off hk)
    have HB2 := Lib.hid (HB0.out.trans (Below.mono hb2 HB0.out.size))
    have HR2 := Lib.hid ((hb2.block w.heap.size (by simp)).trans HR.out)
    clear hb2 HT HR
    go_wp2_with fail
    refine (HL.out).mono ?_
    rintro e w3 ⟨rfl, v3, hv3, hS3, hb3, hk3⟩
    have hwx : w.heap.size < w2.heap.size := (Array.getElem?_eq_some_iff.1 HR2.out).1
    have hR3 := (hk3 w.heap.size hwx (by omega) hvb).trans HR2.out
    obtain ⟨⟨r0, r1, r2, r3, r4⟩, f0, f1, f2, f3, f4⟩ := cells5 hR3
    have HB3 := Lib.hid ((HB2.out.mono hBw).trans hb3)
    have HOF := Lib.hid (Off.trans (off_below HB2.out) HB2.out.size (HSO.out _ hk3))
    have HSZ := Lib.hid (show w.heap.size ≤ w3.heap.size from Nat.le_trans HB2.out.size hb3.size)
    have HS3 := Lib.hid hS3
    have HR3 := Lib.hid hR3
    clear hS3 hb3 HL hv3 hk3 hR3
    go_wp2_with fail
    obtain ⟨hset, hgs⟩ := set5 (c0 := .string ⟨#[]⟩) (c1 := .bool false) (c2 := .int .i64 0) (c3 := .int .i64 0) (c4 := .slice none 0 0) HR3.out
    refine bodyPost_ret (v := .tuple #[.agg #[.string ⟨#[]⟩, .bool false, .int .i64 0, .int .i64 0, .slice none 0 0], .int .i64 3]) (by simp [results, Tryd.results19, go_sem, (cells5 hset).1]) rfl ⟨rfl, ⟨v3, ?_⟩, HB3.out.trans (grown_to_below hgs hBw (Nat.le_trans hBw HSZ.out)), fun k hk hn => (hgs.block k (Nat.lt_of_lt_of_le hk HSZ.out) (by simp; omega)).trans (HOF.out k hk (fun e => hn e.1))⟩
    exact (HS3.out.stay fun k hk hlt => hgs.block k hlt (by simp; have := hk.2; omega)).mono (fun k hk => hk.1) HSl.out

set_option maxRecDepth 100000 in
set_option maxHeartbeats 8000000 in
theorem next_line (h : SkAt B S b v F w) {i : Nat} {f : FrC} {x : LineC} (hi : F[i]? = some f) (hx : f.lines[f.next]? = some x) (hlast : ∀ (j : Nat) f', i < j → F[j]? = some f' → isUnreadB f' = false) :
    Calls Tryd.prog 19 #[.pointer (some ⟨b, 0, none⟩)] w (NextP B S b x (F.take i ++ [f.at (f.next + 1)]) w) := by
  obtain ⟨hxl, hxe⟩ := List.getElem?_eq_some_iff.1 hx
  obtain ⟨hil, hie⟩ := List.getElem?_eq_some_iff.1 hi
  have hun : isUnreadB f = true := decide_eq_true hxl
  have hfk := h.ok f (List.mem_of_getElem? hi)
  have hflen := hfk.len
  have HFK := Lib.hid hfk
  have HSl := Lib.hid h.lo
  have h1 := h.both.alloc (.cells #[.string ⟨#[]⟩, .bool false, .int .i64 0, .int .i64 0, .slice none 0 0] 37)
  have hB0 : Below w.heap.size w (w.alloc (.cells #[.string ⟨#[]⟩, .bool false, .int .i64 0, .int .i64 0, .slice none 0 0] 37)) := (Below.refl _ _).alloc (Nat.le_refl _) _
  have HN := Lib.hid (skNone_any h1.cell0)
  have HT := Lib.hid (topmost_any h1 39 isUnreadB isUnread_tells enters_unread)
  have HS := Lib.hid h1
  have hBw : B ≤ w.heap.size := Nat.le_trans (h.lo _ h.sb) (Nat.le_of_lt h.lt)
  have HB0 := Lib.hid hB0
  have hvb : v.ownBlock ≠ some w.heap.size := fun e => Nat.lt_irrefl _ (h.bS e).2
  have hbl := h.lt
  have h50 := h.len
  have HR := Lib.hid (show (w.alloc (.cells #[.string ⟨#[]⟩, .bool false, .int .i64 0, .int .i64 0, .slice none 0 0] 37)).heap[w.heap.size]? = some (.cells #[.string ⟨#[]⟩, .bool false, .int .i64 0, .int .i64 0, .slice none 0 0] 37 (0, 0)) from heap_alloc_new w _)
  have HI := Lib.hid (show F[i]? = some f ∧ isUnreadB f = true ∧ (∀ (j : Nat) f', i < j → F[j]? = some f' → isUnreadB f' = false) ∧ F[i] = f from ⟨hi, hun, hlast, hie⟩)
  have HX := Lib.hid (show ∃ h : f.next < f.lines.length, f.lines[f.next] = x from ⟨hxl, hxe⟩)
  clear h h1 hB0 hi hx hun hlast hie hxe hfk
  go_enter Tryd.func19, Tryd.ntmps19
  go_wp2_with fail
  refine (HN.out).mono ?_
  rintro e w1 ⟨rfl, rfl⟩
  go_wp2_with fail
  refine (HT.out).mono ?_
  rintro e w2 ⟨hb2, ⟨i', g, c, f', h3, h4, h5, h6, rfl⟩ | ⟨h3, rfl⟩⟩
  case inr => rw [h3 f (List.mem_of_getElem? HI.out.1)] at HI; exact absurd HI.out.2.1 (by simp)
  have hii : i' = i := by
    rcases Nat.lt_trichotomy i' i with hlt | e | hlt
    · have := h5 i f hlt HI.out.1
      rw [HI.out.2.1] at this; cases this
    · exact e
    · have := HI.out.2.2.1 i' f' hlt h3
      rw [h4] at this; cases this
  subst hii
  have hvg : v.ownBlock = some g := by rw [h6]; rfl
  have HL := Lib.hid (leave_any (HS.out.below hb2) (i' + 1) hil)
  have HSO := Lib.hid (fun (w' : World) (hk : Keep b v w2 w') => (HS.out.below hb2).off hk)
  have HB2 := Lib.hid (HB0.out.trans (Below.mono hb2 HB0.out.size))
  have HR2 := Lib.hid ((hb2.block w.heap.size (by simp)).trans HR.out)
  have HVG := Lib.hid hvg
  clear hb2 HT HR h3 h4 h5 h6 hvg
  go_wp2_with fail
  refine (HL.out).mono ?_
  rintro e w3 ⟨rfl, v3, hv3, hS3, hb3, hk3⟩
  have hwx : w.heap.size < w2.heap.size := (Array.getElem?_eq_some_iff.1 HR2.out).1
  have hR3 := (hk3 w.heap.size hwx (by omega) hvb).trans HR2.out
  have hl1 : (F.take (i' + 1)).length = i' + 1 := by rw [List.length_take]; omega
  obtain ⟨g3, lv, av, hg3, hfr⟩ := hS3.frame (i := i') (by omega)
  have hgg : g3 = g := by
    have := hv3.trans HVG.out
    rw [hg3] at this
    injection this
  subst hgg
  have hfe : (F.take (i' + 1))[i'] = f := by rw [List.getElem_take]; exact HI.out.2.2.2
  rw [hfe] at hfr
  obtain ⟨⟨la, lc, rfl⟩, aa, ac, rfl⟩ := hfr.val.form
  obtain ⟨lb, lo, ba, bc, rfl, hlS, hln⟩ := line_at hfr.val.lines hxl
  have hxe := HX.out.2
  rw [hxe] at hln
  obtain ⟨l0, l1, l2, l3, l4, hbx⟩ := hln
  have c2 := hfr.c2
  have c3 := hfr.c3
  have hgl := (hS3.bS hg3).2
  have hfz : w3.frozen? ⟨g3, i' * 5 + 3, none⟩ = false := by
    rcases hS3.row with ⟨e, _⟩ | ⟨g', cap, cur, e, _, _, hh, _⟩
    · rw [e] at hg3; cases hg3
    · rw [e] at hg3
      injection hg3 with hg3
      have hg3 : g' = g3 := hg3
      subst hg3
      simp [World.frozen?, hh]
  have HOF := Lib.hid (Off.trans (off_below HB2.out) HB2.out.size (HSO.out _ hk3))
  have hSz3 : w.heap.size ≤ w3.heap.size := Nat.le_trans HB2.out.size hb3.size
  have hrb : w.heap.size < w3.heap.size := Nat.lt_of_lt_of_le hwx hb3.size
  have HB3 := Lib.hid ((HB2.out.mono hBw).trans hb3)
  have hgS := (hS3.bS hg3).1
  have hcast : ((f.next + 1 : Nat) : Int) = (f.next : Int) + 1 := by omega
  obtain ⟨hS4, hg4⟩ := hS3.setNext (i := i') (g := g3) (by omega) hg3 (f.next + 1) (by rw [hfe]; omega)
  rw [hfe] at hS4
  have e4 : (F.take (i' + 1)).set i' (f.at (f.next + 1)) = F.take i' ++ [f.at (f.next + 1)] := take_set hil _
  rw [e4, hcast] at hS4
  rw [hcast] at hg4
  obtain ⟨W3, hW3⟩ : ∃ W3, W3 = w3.setCell ⟨g3, i' * 5 + 3, none⟩ (.int .i64 ((f.next : Int) + 1)) := ⟨_, rfl⟩
  obtain ⟨W4, hW4⟩ : ∃ W4, W4 = (W3.alloc (.cells #[.string x.text, .bool x.made, .int .i64 x.up, .int .i64 x.down, .slice ba x.boxes.length bc] 37)).drew := ⟨_, rfl⟩
  rw [← hW3] at hS4 hg4
  have hbW : Below W3.heap.size W3 W4 := by
    have h := (Below.refl W3.heap.size W3).alloc (Nat.le_refl _) (.cells #[.string x.text, .bool x.made, .int .i64 x.up, .int .i64 x.down, .slice ba x.boxes.length bc] 37)
    rw [hW4]
    exact ⟨h.os, h.tape, h.output, h.size, h.block⟩
  have hs33 : W3.heap.size = w3.heap.size := by rw [hW3]; simp [World.setCell]
  have hs34 : w3.heap.size ≤ W4.heap.size := by rw [← hs33]; exact hbW.size
  have hblk : ∀ k, k < w3.heap.size → k ≠ g3 → W4.heap[k]? = w3.heap[k]? := fun k hk hkg => by
    rw [hbW.block k (by omega), hg4.block k hk (by simpa using hkg)]
  have hBx := hbx.stay (w' := W4) fun k off hk => by simp [World.cell?, hblk k (Nat.lt_of_lt_of_le hk.1.2 hSz3) hk.2.2]
  have hAp := apart_any x ba bc W4 (hBx.mono fun k hk => Nat.lt_of_lt_of_le (Nat.lt_of_lt_of_le hk.1.2 hSz3) hs34) (HFK.out.fit.boxes x (List.mem_of_getElem? (List.getElem?_eq_some_iff.2 HX.out))) (HFK.out.fit.nums x (List.mem_of_getElem? (List.getElem?_eq_some_iff.2 HX.out)))
  have hR4 : W4.heap[w.heap.size]? = some (.cells #[.string ⟨#[]⟩, .bool false, .int .i64 0, .int .i64 0, .slice none 0 0] 37 (0, 0)) := by
    rw [hblk _ hrb (by have := hgS.2; omega)]; exact hR3
  have HAp := Lib.hid hAp
  have HOF4 := Lib.hid (show ∀ k, k < w.heap.size → ¬ S k → W4.heap[k]? = w.heap[k]? from fun k hk hn => (hblk k (Nat.lt_of_lt_of_le hk hSz3) (fun e => hn (e ▸ hgS.1))).trans (HOF.out k hk (fun e => hn e.1)))
  have HS4 := Lib.hid (hS4.below hbW)
  have HR4 := Lib.hid hR4
  have HB4 := Lib.hid (HB3.out.trans ((grown_to_below hg4 (HSl.out _ hgS.1) (Nat.le_trans hBw hSz3)).trans (hbW.mono (by rw [hs33]; exact Nat.le_trans hBw hSz3))))
  have hgl3 : g3 < w3.heap.size := hgl
  have hlb3 : lb < w3.heap.size := Nat.lt_of_lt_of_le hlS.1.2 hSz3
  have HW4 := Lib.hid (show W4 = ((w3.setCell ⟨g3, i' * 5 + 3, none⟩ (.int .i64 ((f.next : Int) + 1))).alloc (.cells #[.string x.text, .bool x.made, .int .i64 x.up, .int .i64 x.down, .slice ba x.boxes.length bc] 37)).drew from by rw [hW4, hW3])
  clear hS3 hb3 HL hv3 hk3 hR3 hfr hlS hbx hbW hS4 hg4 hBx hAp hR4 hW4 hW3 e4 hfe hl1 hg3 hcast hxe HR2 HB2 hblk hs33
  go_wp2_with fail
  go_region
  all_goals
    go_wp2_with fail
    rw [← HW4.out]
    refine (HAp.out).mono ?_
    rintro e w5 ⟨bv, rfl, hb5, hbx5⟩
    have hR5 := (hb5.block _ (by omega)).trans HR4.out
    obtain ⟨⟨r0, r1, r2, r3, r4⟩, f0, f1, f2, f3, f4⟩ := cells5 hR5
    have HS5 := Lib.hid (HS4.out.below hb5)
    have HOF5 := Lib.hid (show ∀ k, k < w.heap.size → ¬ S k → w5.heap[k]? = w.heap[k]? from fun k hk hn => (hb5.block k (by omega)).trans (HOF4.out k hk hn))
    have HB5 := Lib.hid (HB4.out.trans (Below.mono hb5 (Nat.le_trans (Nat.le_trans hBw hSz3) hs34)))
    have HR5 := Lib.hid hR5
    have HX5 := Lib.hid hbx5
    have hs5 := hb5.size
    obtain ⟨ao5, c5, rfl⟩ : ∃ ao5 c5, bv = .slice ao5 x.boxes.length c5 := by obtain ⟨_, _, rfl, _⟩ := hbx5; exact ⟨_, _, rfl⟩
    clear hb5 hbx5 hR5 HAp HW4 l0 l1 l2 l3 l4 c2 c3 hfz
    go_wp2_with fail
    obtain ⟨hset, hgs⟩ := set5 (c0 := .string x.text) (c1 := .bool x.made) (c2 := .int .i64 x.up) (c3 := .int .i64 x.down) (c4 := .slice ao5 x.boxes.length c5) HR5.out
    refine bodyPost_ret (v := .tuple #[.agg #[.string x.text, .bool x.made, .int .i64 x.up, .int .i64 x.down, .slice ao5 x.boxes.length c5], .int .i64 0]) (by simp [results, Tryd.results19, go_sem, (cells5 hset).1]) rfl ⟨_, rfl, ?_, ?_, ?_, fun k hk hn => (hgs.block k (by omega) (by simp; omega)).trans (HOF5.out k hk hn)⟩
    · exact (HX5.out.both.stay fun k off hk => by
        have h1 := hk.1
        have h2 : k ≠ w.heap.size := by omega
        simp [World.cell?, hgs.block k hk.2 (by simpa using h2)]).mono fun k hk => by have := hk.1; omega
    · exact ⟨_, (HS5.out.stay fun k hk hlt => hgs.block k hlt (by simp; have := hk.2; omega)).mono (fun k hk => hk.1) HSl.out⟩
    · exact HB5.out.trans (grown_to_below hgs hBw (by omega))
end
end Go.Proofs.YtkocgedliakclaaDoor
