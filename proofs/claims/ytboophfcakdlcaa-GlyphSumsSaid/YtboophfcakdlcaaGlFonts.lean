/- Are all fonts valid; which font has a glyph. -/
import Derived.Test.YtboophfcakdlcaaGlArgs
import Derived.BigQuiet
import Derived.Deep.DeepCutAuto
namespace Go.Proofs.Ytboophfcakdlcaa
open Go.RowKit Go.PlainAid Go.Shelf

/-- The first place at which q holds, or -1. -/
def idxG {α : Type} (q : α → Bool) : List α → Nat → Int
  | [], _ => -1
  | x :: r, i => if q x then (i : Int) else idxG q r (i + 1)
theorem idxG_lib {α : Type} (q : α → Bool) (d : α) : ∀ (l : List α) (i : Nat), Lib.idxByFrom (fun _ y => q y) d l i = idxG q l i
  | [], _ => rfl
  | x :: r, i => by
    show (if q x then (i : Int) else Lib.idxByFrom (fun _ y => q y) d r (i + 1)) = if q x then (i : Int) else idxG q r (i + 1)
    rw [idxG_lib q d r (i + 1)]
/-- Fonts that lie in memory. -/
abbrev FOk (w : World) := {x : FA // x.ok w ∧ x.F.gs.length ≤ 1000000000000000000}
instance (w : World) : Inhabited (FOk w) := ⟨⟨⟨⟨[], false, 0, [], [], []⟩, none, none, none, 0, 0, 0⟩, ⟨⟨RowK.nil, RowK.nil, RowK.nil⟩, Nat.zero_le _⟩⟩⟩
def subF {w : World} (l : List FA) (h : ∀ x ∈ l, x.ok w ∧ x.F.gs.length ≤ 1000000000000000000) : List (FOk w) := l.pmap (fun x h => ⟨x, h⟩) h
theorem subF_len {w : World} (l : List FA) (h : ∀ x ∈ l, x.ok w ∧ x.F.gs.length ≤ 1000000000000000000) : (subF l h).length = l.length := by simp [subF]
theorem subF_at {w : World} (l : List FA) (h : ∀ x ∈ l, x.ok w ∧ x.F.gs.length ≤ 1000000000000000000) {j : Nat} (hj : j < l.length) : ((subF l h)[j]!).1 = l[j]! := by
  rw [getElem!_pos (subF l h) j (by rw [subF_len]; exact hj), getElem!_pos l j hj]
  simp [subF]
theorem subF_any {w : World} (q : FA → Bool) : ∀ (l : List FA) (h : ∀ x ∈ l, x.ok w ∧ x.F.gs.length ≤ 1000000000000000000), (subF l h).any (fun z => q z.1) = l.any q
  | [], _ => rfl
  | x :: r, h => by
    show (q x || (subF r _).any _) = (q x || r.any q)
    rw [subF_any q r (fun y hy => h y (List.mem_cons_of_mem _ hy))]
theorem subF_idx {w : World} (q : FA → Bool) : ∀ (l : List FA) (h : ∀ x ∈ l, x.ok w ∧ x.F.gs.length ≤ 1000000000000000000) (i : Nat), idxG (fun z : FOk w => q z.1) (subF l h) i = idxG q l i
  | [], _, _ => rfl
  | x :: r, h, i => by
    show (if q x then (i : Int) else idxG _ (subF r _) (i + 1)) = if q x then (i : Int) else idxG q r (i + 1)
    rw [subF_idx q r (fun y hy => h y (List.mem_cons_of_mem _ hy)) (i + 1)]
theorem encF_len (x : FA) : (encF x).length = 6 := rfl
theorem enters_a1 (args : Array Value) (w : World) : (callFunc 77 args).run Try.prog w = .ok (.enter 77 args) w := by kernel_rfl
theorem enters_m1 (args : Array Value) (w : World) : (callFunc 100 args).run Try.prog w = .ok (.enter 100 args) w := by kernel_rfl
set_option maxRecDepth 100000 in
set_option maxHeartbeats 2000000 in
theorem af1_any (x : FA) (w : World) (h : x.ok w) : Calls Try.prog 77 #[fontVal x] w (Makes (.bool (!validB x.F)) w) := by
  have H1 := Lib.hid (fun (W : World) (hb : Below w.heap.size w W) => valid_any x W (h.below hb))
  obtain ⟨V, hV⟩ : ∃ V, validB x.F = V := ⟨_, rfl⟩
  simp only [hV] at H1
  rw [hV]
  clear h hV
  obtain ⟨⟨fn, fs, fz, gs, ls, ks⟩, ag, al, ak, cg, cl, ck⟩ := x
  show Calls _ _ #[.agg #[.string (mk8 fn), .bool fs, .int .i64 fz, .slice ag gs.length cg, .slice al ls.length cl, .slice ak ks.length ck]] w _
  simp only [fontVal] at H1
  generalize mk8 fn = m1 at H1 ⊢
  go_enter Try.func77, Try.ntmps77
  go_upto_region 1 with fail
  generalize hw2 : w.alloc _ = w2
  have hb2 : Below w.heap.size w w2 := by rw [← hw2]; exact (Below.refl _ _).alloc (Nat.le_refl _) _
  have ht : w2.heap[w.heap.size]? = some (.cells #[.string m1, .bool fs, .int .i64 fz, .slice ag gs.length cg, .slice al ls.length cl, .slice ak ks.length ck] 37 (0, 0)) := by rw [← hw2]; exact heap_alloc_new w _
  have x0 := cell_of (j := 0) ht rfl
  have x1 := cell_of (j := 1) ht rfl
  have x2 := cell_of (j := 2) ht rfl
  have x3 := cell_of (j := 3) ht rfl
  have x4 := cell_of (j := 4) ht rfl
  have x5 := cell_of (j := 5) ht rfl
  have HB := Lib.hid hb2
  have HC := Lib.hid (H1.out w2 hb2)
  clear hw2 hb2 ht H1
  go_wp2_with fail
  refine HC.out.mono ?_
  rintro e w3 ⟨rfl, hb3⟩
  have HB3 := Lib.hid (HB.out.trans (hb3.mono HB.out.size))
  clear hb3
  go_wp2_with fail
  go_ret
  exact ⟨rfl, HB3.out⟩
set_option maxRecDepth 100000 in
set_option maxHeartbeats 2000000 in
theorem hm1_any (x : FA) (nm : List UInt8) (p : Nat) (w : World) (h : x.ok w) (hn : x.F.gs.length ≤ 1000000000000000000) (hl : p < w.heap.size) (hp : w.cell? ⟨p, 0, none⟩ = some (.string (mk8 nm))) :
    Calls Try.prog 100 #[fontVal x, .pointer (some ⟨p, 0, none⟩)] w (Makes (.bool (x.F.special && hasB x.F.gs nm)) w) := by
  have H1 := Lib.hid (fun (W : World) (hb : Below w.heap.size w W) => has_any x nm W (h.below hb) hn)
  obtain ⟨V, hV⟩ : ∃ V, hasB x.F.gs nm = V := ⟨_, rfl⟩
  simp only [hV] at H1
  rw [hV]
  clear h hV hn
  obtain ⟨⟨fn, fs, fz, gs, ls, ks⟩, ag, al, ak, cg, cl, ck⟩ := x
  show Calls _ _ #[.agg #[.string (mk8 fn), .bool fs, .int .i64 fz, .slice ag gs.length cg, .slice al ls.length cl, .slice ak ks.length ck], .pointer (some ⟨p, 0, none⟩)] w (Makes (.bool (fs && V)) w)
  simp only [fontVal] at H1
  generalize mk8 fn = m1 at H1 ⊢
  generalize mk8 nm = m2 at H1 hp
  have hcp := fun o => ((Below.refl w.heap.size w).alloc (Nat.le_refl _) o).cell (p := ⟨p, 0, none⟩) hl
  go_enter Try.func100, Try.ntmps100
  go_upto_region 1 with fail
  generalize hw2 : w.alloc _ = w2
  have hb2 : Below w.heap.size w w2 := by rw [← hw2]; exact (Below.refl _ _).alloc (Nat.le_refl _) _
  have ht : w2.heap[w.heap.size]? = some (.cells #[.string m1, .bool fs, .int .i64 fz, .slice ag gs.length cg, .slice al ls.length cl, .slice ak ks.length ck] 37 (0, 0)) := by rw [← hw2]; exact heap_alloc_new w _
  have cp : w2.cell? ⟨p, 0, none⟩ = some (.string m2) := by rw [← hw2, hcp]; exact hp
  have x0 := cell_of (j := 0) ht rfl
  have x1 := cell_of (j := 1) ht rfl
  have x2 := cell_of (j := 2) ht rfl
  have x3 := cell_of (j := 3) ht rfl
  have x4 := cell_of (j := 4) ht rfl
  have x5 := cell_of (j := 5) ht rfl
  have HB := Lib.hid hb2
  have HC := Lib.hid (H1.out w2 hb2)
  clear hw2 hb2 ht H1 hcp hp hl
  cases fs with
  | false =>
    go_wp2_with fail
    go_ret
    exact ⟨rfl, HB.out⟩
  | true =>
    go_wp2_with fail
    refine HC.out.mono ?_
    rintro e w3 ⟨rfl, hb3⟩
    have HB3 := Lib.hid (HB.out.trans (hb3.mono HB.out.size))
    clear hb3
    go_wp2_with fail
    go_ret
    exact ⟨rfl, HB3.out⟩
/-- Fonts in memory: the row, and each. -/
structure Fonts (ao : Option Addr) (l : List FA) (w : World) : Prop where
  row : RowK encF 6 ao l w
  ok : ∀ x ∈ l, x.ok w
  small : ∀ x ∈ l, x.F.gs.length ≤ 1000000000000000000
  pos : 0 < l.length
  few : l.length ≤ 1000000
theorem Fonts.below {ao : Option Addr} {l : List FA} {w w' : World} (h : Fonts ao l w) (hb : Below w.heap.size w w') : Fonts ao l w' := ⟨h.row.below hb, fun x hx => (h.ok x hx).below hb, h.small, h.pos, h.few⟩
theorem Fonts.at_ {ao : Option Addr} {l : List FA} {w : World} (h : Fonts ao l w) : ∃ b off, ao = some ⟨b, off, none⟩ ∧ b < w.heap.size ∧ ∀ j, j < l.length → ∀ i v, (encF l[j]!)[i]? = some v → w.cell? ⟨b, off + j * 6 + i, none⟩ = some v := by
  obtain ⟨b, off, h1, h2⟩ := h.row
  exact ⟨b, off, (h1 h.pos).1, (h1 h.pos).2, h2⟩
theorem Fonts.both {ao : Option Addr} {l : List FA} {w : World} (h : Fonts ao l w) : ∀ x ∈ l, x.ok w ∧ x.F.gs.length ≤ 1000000000000000000 := fun x hx => ⟨h.ok x hx, h.small x hx⟩
theorem conF_any (ao : Option Addr) (l : List FA) (c : Nat) (w : World) (h : Fonts ao l w) :
    Calls Try.prog 76 #[.slice ao l.length c, .func (.func 77) #[] #[]] w (Makes (.bool (l.any fun x => !validB x.F)) w) := by
  obtain ⟨b, off, rfl, hb, hc⟩ := h.at_
  have hr := AnyQ.slices_ContainsFunc Try.conFL 6 Try.isAgg37 Try.sizeOf37 (fun z : FOk w => encF z.1) (fun z => encF_len z.1) (fun z => !validB z.1.F) 77 #[] enters_a1 b off l.length c (subF l h.both) w
    (fun W z hb' => (af1_any z.1 W (z.2.1.below hb')).mono fun e w' ⟨h1, h2⟩ => ⟨h1, hb'.trans (h2.mono hb'.size)⟩) (by rw [subF_len]; exact Nat.le_refl _) (by have := h.few; omega) hb
    (fun j hj i v hv => by rw [subF_len] at hj; rw [subF_at l h.both hj] at hv; exact hc j hj i v hv)
  rw [List.take_of_length_le (by rw [subF_len]; exact Nat.le_refl _), subF_any (fun x => !validB x.F) l h.both] at hr
  exact hr
theorem idxF_any (p : Nat) (nm : List UInt8) (ao : Option Addr) (l : List FA) (c : Nat) (w : World) (h : Fonts ao l w) (hl : p < w.heap.size) (hp : w.cell? ⟨p, 0, none⟩ = some (.string (mk8 nm))) :
    Calls Try.prog 97 #[.slice ao l.length c, .func (.func 100) #[] #[.pointer (some ⟨p, 0, none⟩)]] w (Makes (.int .i64 (idxG (fun x : FA => x.F.special && hasB x.F.gs nm) l 0)) w) := by
  obtain ⟨b, off, rfl, hb, hc⟩ := h.at_
  have hr := AnyQ.slices_IndexFunc Try.idxFL 6 Try.isAgg37 Try.sizeOf37 (fun z : FOk w => encF z.1) (fun z => encF_len z.1) (fun z => z.1.F.special && hasB z.1.F.gs nm) 100 #[.pointer (some ⟨p, 0, none⟩)] enters_m1 b off l.length c (subF l h.both) w
    (fun W z hb' => (hm1_any z.1 nm p W (z.2.1.below hb') z.2.2 (Nat.lt_of_lt_of_le hl hb'.size) ((hb'.cell (p := ⟨p, 0, none⟩) hl).trans hp)).mono fun e w' ⟨h1, h2⟩ => ⟨h1, hb'.trans (h2.mono hb'.size)⟩) (by rw [subF_len]; exact Nat.le_refl _) (by have := h.few; omega) hb
    (fun j hj i v hv => by rw [subF_len] at hj; rw [subF_at l h.both hj] at hv; exact hc j hj i v hv)
  rw [List.take_of_length_le (by rw [subF_len]; exact Nat.le_refl _)] at hr
  have e : Lib.idxBy (fun _ (z : FOk w) => z.1.F.special && hasB z.1.F.gs nm) (subF l h.both) default = idxG (fun x : FA => x.F.special && hasB x.F.gs nm) l 0 := by
    unfold Lib.idxBy
    rw [idxG_lib (fun z : FOk w => z.1.F.special && hasB z.1.F.gs nm), subF_idx (fun x : FA => x.F.special && hasB x.F.gs nm) l h.both 0]
  rw [e] at hr
  exact hr
theorem areFonts_any (ao : Option Addr) (l : List FA) (c : Nat) (w : World) (h : Fonts ao l w) : Calls Try.prog 49 #[.slice ao l.length c] w (Makes (.bool (l.all fun x => validB x.F)) w) := by
  have HC := Lib.hid (conF_any ao l c w h)
  have hv : (l.all fun x => validB x.F) = !(l.any fun x => !validB x.F) := by rw [List.not_any_eq_all_not]; simp
  rw [hv]
  obtain ⟨V, hV⟩ : ∃ V, (l.any fun x => !validB x.F) = V := ⟨_, rfl⟩
  rw [hV] at HC ⊢
  clear hv hV h
  generalize l.length = n at HC ⊢
  go_enter Try.func49, Try.ntmps49
  go_wp2_with fail
  refine HC.out.mono ?_
  rintro e w1 ⟨rfl, hb1⟩
  have HB := Lib.hid hb1
  clear hb1
  go_wp2_with fail
  go_ret
  exact ⟨rfl, HB.out⟩
/-- The font that a glyph is taken from: the style's own, or else a special one; -1: none. -/
def homeL (l : List FA) (own : Nat) (nm : List UInt8) : Int := if hasB l[own]!.F.gs nm then (own : Int) else idxG (fun x : FA => x.F.special && hasB x.F.gs nm) l 0
set_option maxRecDepth 100000 in
set_option maxHeartbeats 4000000 in
theorem home_any (ao : Option Addr) (l : List FA) (c : Nat) (own : Nat) (nm : List UInt8) (w : World) (h : Fonts ao l w) (ho : own < l.length) : Calls Try.prog 85 #[.slice ao l.length c, .int .i64 own, .string (mk8 nm)] w (Makes (.int .i64 (homeL l own nm)) w) := by
  have hmf := make_func
  have hmem : l[own]! ∈ l := by rw [getElem!_pos l own ho]; exact List.getElem_mem ho
  have HH := Lib.hid (fun (W : World) (hb : Below w.heap.size w W) => has_any l[own]! nm W ((h.ok _ hmem).below hb) (h.small _ hmem))
  have HI := Lib.hid (fun (W : World) (p : Nat) (hb : Below w.heap.size w W) (hl : p < W.heap.size) (hp : W.cell? ⟨p, 0, none⟩ = some (.string (mk8 nm))) => idxF_any p nm ao l c W (h.below hb) hl hp)
  have hlt : (own : Int) < l.length := by omega
  have hz : (0 : Int) ≤ own := by omega
  obtain ⟨b, off, rfl, hb, hc⟩ := h.at_
  have hx := hc own ho
  unfold homeL
  obtain ⟨I, hI⟩ : ∃ I, idxG (fun x : FA => x.F.special && hasB x.F.gs nm) l 0 = I := ⟨_, rfl⟩
  simp only [hI] at HI
  rw [hI]
  obtain ⟨X, hX⟩ : ∃ X, l[own]! = X := ⟨_, rfl⟩
  simp only [hX] at HH hx
  rw [hX]
  obtain ⟨V, hV⟩ : ∃ V, hasB X.F.gs nm = V := ⟨_, rfl⟩
  simp only [hV] at HH
  rw [hV]
  have hfew := h.few
  clear hI hX hV hmem ho hc h
  obtain ⟨⟨fn, fs, fz, gs, ls, ks⟩, ag, al, ak, cg, cl, ck⟩ := X
  have x0 := hx 0 _ rfl
  have x1 := hx 1 _ rfl
  have x2 := hx 2 _ rfl
  have x3 := hx 3 _ rfl
  have x4 := hx 4 _ rfl
  have x5 := hx 5 _ rfl
  simp only [fontVal] at HH
  simp only [Nat.add_zero] at x0 x1 x2 x3 x4 x5
  obtain ⟨t, ht⟩ : ∃ t, mk8 nm = t := ⟨_, rfl⟩
  simp only [ht] at HH HI
  rw [ht]
  generalize mk8 fn = m1 at HH x0
  generalize l.length = n at HI hlt hfew ⊢
  clear ht hx
  go_enter Try.func85, Try.ntmps85
  go_upto_region 1 with fail
  generalize hw2 : w.alloc _ = w2
  have hb2 : Below w.heap.size w w2 := by rw [← hw2]; exact (Below.refl _ _).alloc (Nat.le_refl _) _
  have ht : w2.heap[w.heap.size]? = some (.cells #[.string t] 9 (0, 0)) := by rw [← hw2]; exact heap_alloc_new w _
  have cx := fun (i : Nat) => hb2.cell (p := ⟨b, off + own * 6 + i, none⟩) hb
  have y0 := (cx 0).trans x0
  have y1 := (cx 1).trans x1
  have y2 := (cx 2).trans x2
  have y3 := (cx 3).trans x3
  have y4 := (cx 4).trans x4
  have y5 := (cx 5).trans x5
  simp only [Nat.add_zero] at y0
  have yt := cell_of (j := 0) ht rfl
  have HB := Lib.hid hb2
  have HT := Lib.hid ht
  obtain ⟨p, hp⟩ : ∃ p, w.heap.size = p := ⟨_, rfl⟩
  rw [hp] at yt HT
  rw [hp]
  clear hw2 hb2 ht x0 x1 x2 x3 x4 x5 cx hp
  have hb2 : b < w2.heap.size := Nat.lt_of_lt_of_le hb HB.out.size
  have hp2 : p < w2.heap.size := (Array.getElem?_eq_some_iff.1 HT.out).1
  clear hb
  refine wp_region_held_drew (S := fun w' => Below w2.heap.size w2 w') (by kernel_rfl) ?_ (fun hHeld => ?_)
  · exact (Below.refl _ _).drew
  refine' wpAnyH_take (i := 0) (oi := _) (v := _) ?hi1 (by kernel_rfl) (by kernel_rfl) (by kernel_rfl) ?hQ1 (Or.inl ⟨?hw1, ?hy1⟩) hHeld ?rest1
  case hi1 => simp only [List.getElem?_toArray, List.getElem?_cons_zero]; rfl
  case hQ1 => exact fun _ _ _ h => h
  case hw1 => rfl
  case hy1 =>
    intro w hSw
    try dsimp only at hSw
    go_simp
    all_goals with_reducible rfl
  try simp only [Act.put, List.setIfInBounds_toArray, List.set_cons_zero, List.set_cons_succ]
  refine' wpAnyH_take (i := 1) (oi := _) (v := _) ?hi2 (by kernel_rfl) (by kernel_rfl) (by kernel_rfl) ?hQ2 (Or.inl ⟨?hw2, ?hy2⟩) hHeld ?rest2
  case hi2 => simp only [List.getElem?_toArray, List.getElem?_cons_succ, List.getElem?_cons_zero]; rfl
  case hQ2 => exact fun _ _ _ h => h
  case hw2 => rfl
  case hy2 =>
    intro w hSw
    try dsimp only at hSw
    go_simp
    all_goals with_reducible rfl
  try simp only [Act.put, List.setIfInBounds_toArray, List.set_cons_zero, List.set_cons_succ]
  refine' wpAnyH_take (i := 2) (oi := _) (v := _) ?hi3 (by kernel_rfl) (by kernel_rfl) (by kernel_rfl) ?hQ3 (Or.inl ⟨?hw3, ?hy3⟩) hHeld ?rest3
  case hi3 => simp only [List.getElem?_toArray, List.getElem?_cons_succ, List.getElem?_cons_zero]; rfl
  case hQ3 => exact fun _ _ _ h => h
  case hw3 => rfl
  case hy3 =>
    intro w hSw
    try dsimp only at hSw
    go_simp
    all_goals with_reducible rfl
  try simp only [Act.put, List.setIfInBounds_toArray, List.set_cons_zero, List.set_cons_succ]
  refine' wpAnyH_take (i := 3) (oi := _) (v := _) ?hi4 (by kernel_rfl) (by kernel_rfl) (by kernel_rfl) ?hQ4 (Or.inl ⟨?hw4, ?hy4⟩) hHeld ?rest4
  case hi4 => simp only [List.getElem?_toArray, List.getElem?_cons_succ, List.getElem?_cons_zero]; rfl
  case hQ4 => exact fun _ _ _ h => h
  case hw4 => rfl
  case hy4 =>
    intro w hSw
    try dsimp only at hSw
    have y0' := (hSw.cell (p := ⟨b, off + own * 6, none⟩) hb2).trans y0
    have y1' := (hSw.cell (p := ⟨b, off + own * 6 + 1, none⟩) hb2).trans y1
    have y2' := (hSw.cell (p := ⟨b, off + own * 6 + 2, none⟩) hb2).trans y2
    have y3' := (hSw.cell (p := ⟨b, off + own * 6 + 3, none⟩) hb2).trans y3
    have y4' := (hSw.cell (p := ⟨b, off + own * 6 + 4, none⟩) hb2).trans y4
    have y5' := (hSw.cell (p := ⟨b, off + own * 6 + 5, none⟩) hb2).trans y5
    clear hSw
    go_simp
    all_goals with_reducible rfl
  try simp only [Act.put, List.setIfInBounds_toArray, List.set_cons_zero, List.set_cons_succ]
  refine' wpAnyH_take (i := 4) (oi := _) (v := _) ?hi5 (by kernel_rfl) (by kernel_rfl) (by kernel_rfl) ?hQ5 (Or.inl ⟨?hw5, ?hy5⟩) hHeld ?rest5
  case hi5 => simp only [List.getElem?_toArray, List.getElem?_cons_succ, List.getElem?_cons_zero]; rfl
  case hQ5 => exact fun _ _ _ h => h
  case hw5 => rfl
  case hy5 =>
    intro w hSw
    try dsimp only at hSw
    have yt' := (hSw.cell (p := ⟨p, 0, none⟩) hp2).trans yt
    clear hSw
    go_simp
    all_goals with_reducible rfl
  try simp only [Act.put, List.setIfInBounds_toArray, List.set_cons_zero, List.set_cons_succ]
  refine wpAnyH_ready (rs := [5]) (by kernel_rfl) (by simp) ?_
  refine' AllReadyH.cons (o := _) ?ha6 (fun K hK => ?sa6) ?ma6
  case ha6 => simp only [List.getElem?_toArray, List.getElem?_cons_succ, List.getElem?_cons_zero]; rfl
  case ma6 => exact AllReadyH.nil
  case sa6 =>
    go_simp
    go_at_call 99
    refine (HH.out _ (HB.out.trans (hHeld.mono HB.out.size))).mono ?_
    rintro e w3 ⟨rfl, hb3⟩
    have hbk := hHeld.trans (hb3.mono hHeld.size)
    clear hb3
    go_wp2_with fail
    refine hK.out _ _ ?_ (fun hHeld => ?_)
    · exact hbk
    clear hK K
    try simp only [Act.put, List.setIfInBounds_toArray, List.set_cons_zero, List.set_cons_succ]
    clear hbk
    refine wpAnyH_done (by kernel_rfl) ?_ _
    have HB3 := Lib.hid (HB.out.trans (hHeld.mono HB.out.size))
    have ht3 : w3.heap[p]? = some (.cells #[.string t] 9 (0, 0)) := by rw [hHeld.block p hp2]; exact HT.out
    have HI3 := Lib.hid (HI.out w3 p HB3.out (Array.getElem?_eq_some_iff.1 ht3).1 (cell_of (j := 0) ht3 rfl))
    clear hHeld ht3 HI HH y0 y1 y2 y3 y4 y5 yt HT hp2 hb2
    cases V with
    | true =>
      go_wp2_with fail
      go_ret
      exact ⟨rfl, HB3.out⟩
    | false =>
      go_wp2_with fail
      refine HI3.out.mono ?_
      rintro e w4 ⟨rfl, hb4⟩
      have HB4 := Lib.hid (HB3.out.trans (hb4.mono HB3.out.size))
      clear hb4
      go_wp2_with fail
      go_ret
      exact ⟨rfl, HB4.out⟩
end Go.Proofs.Ytboophfcakdlcaa
