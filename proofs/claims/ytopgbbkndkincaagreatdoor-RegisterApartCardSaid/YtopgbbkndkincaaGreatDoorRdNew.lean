/- The document's book: a new row is put in its place. -/
import Derived.Test.YtopgbbkndkincaaGreatDoorRdPut
import Derived.Shelf.SlIter.Collect
namespace Go.Proofs.YtopgbbkndkincaaGreatDoor
open Go.RowKit Go.PlainAid

/-- The rows with one more at its place. -/
def insR (r : Row) (l : List Row) : List Row := l.take (pos r.name l) ++ [r] ++ l.drop (pos r.name l)
theorem insR_length (r : Row) (l : List Row) : (insR r l).length = l.length + 1 := by
  have := pos_le r.name l
  simp [insR]
  omega
theorem wpList_app {W : World} {ops : Array Oper} {rest : List Oper} {o : Oper} {a : Act} {Q : Exit → Act → World → Prop} (hgd : o.guard = none) (s x : Operand)
    (ho : o.op = .call { callee := .builtin .append, args := #[s, x], argTypes := #[27, 27] }) (hty : o.type = 27)
    {B n m : Nat} {v sv : Value} {xs news : List Value} (hs : a.eval s = v) (hx : a.eval x = sv) (hown : W.ownsRow B 62 4 v n xs) (hsrc : SrcAt W sv m news) (hnm : n + m ≤ 1000) (hB : B ≤ W.heap.size)
    (h : ∀ v' w', w'.ownsRow B 62 4 v' (n + m) (xs ++ news) → W.grownBy w' v.ownBlock → wpList Tryz.prog ops Q rest (a.put o.dst v') w') : wpList Tryz.prog ops Q (o :: rest) a W := by
  obtain ⟨v', w', hrun, h1, h2⟩ := app_any hown hsrc hnm hB
  refine wpList_plain hgd fun K hK => ?_
  unfold Oper.wp
  simp [execOp, ho, hty, resolve, invoke, builtin, hs, hx, hrun, Result.andThen]
  exact hK _ _ (h v' w' h1 h2)
/-- Rows that lie in a row of the book. -/
theorem src_of {B b g cap i m : Nat} {l : List Row} {w : World} (h : RefAt B b (.slice (some ⟨g, 0, none⟩) l.length cap) l w) (c : Nat) (him : i + m ≤ l.length) : SrcAt w (.slice (some ⟨g, i * 4, none⟩) m c) m (flat ((l.drop i).take m)) := by
  refine .inr ⟨⟨g, i * 4, none⟩, c, rfl, by rw [flat_length]; simp; omega, fun j u hu => ?_, flat_one_cell _⟩
  have hj : j < m * 4 := by
    have := (List.getElem?_eq_some_iff.1 hu).1
    rw [flat_length] at this
    simp at this
    omega
  rw [Go.WideShapes.add_plain, h.row.cellAt (i * 4 + j) (by omega), ← hu, ← flat_take, ← flat_drop, List.getElem?_take, if_pos hj, List.getElem?_drop]

theorem below_of_new {w1 w2 : World} {o : Obj} (h : (w1.alloc o).grownBy w2 (some w1.heap.size)) : Below w1.heap.size w1 w2 :=
  ⟨h.os, h.tape, h.output, Nat.le_trans (by simp) h.size, fun k hk => by
    rw [h.block k (by simp; omega) (by simp; omega)]
    exact ((Below.refl _ _).alloc (Nat.le_refl _) _).block k hk⟩
theorem below_of_own {A : Nat} {w1 w2 w3 : World} {v : Value} {o : Obj} (h : Below A w1 w2) (hl : ∀ k, v.ownBlock = some k → A ≤ k) (hA : A ≤ w2.heap.size) (hg : (w2.alloc o).grownBy w3 v.ownBlock) : Below A w1 w3 :=
  h.trans ⟨hg.os, hg.tape, hg.output, Nat.le_trans (by simp) hg.size, fun k hk => by
    rw [hg.block k (by simp; omega) (fun e => by have := hl k e.symm; omega)]
    exact ((Below.refl _ _).alloc (Nat.le_refl _) _).block k (by omega)⟩
theorem below_of_own0 {A : Nat} {w1 w2 w3 : World} {v : Value} (h : Below A w1 w2) (hl : ∀ k, v.ownBlock = some k → A ≤ k) (hA : A ≤ w2.heap.size) (hg : w2.grownBy w3 v.ownBlock) : Below A w1 w3 :=
  h.trans ⟨hg.os, hg.tape, hg.output, hg.size, fun k hk => hg.block k (by omega) (fun e => by have := hl k e.symm; omega)⟩
/-- What the walk needs of the box and of the book in a later world. -/
structure Later (B b a : Nat) (v : Value) (l : List Row) (r : Row) (w1 w2 : World) : Prop where
  at_ : RefAt B b v l w2
  k0 : w2.cell? ⟨a, 0, none⟩ = some (.string r.name)
  k1 : w2.cell? ⟨a, 1, none⟩ = some (.int .i64 r.value)
  k2 : w2.cell? ⟨a, 2, none⟩ = some (.int .i64 r.step)
  k3 : w2.cell? ⟨a, 3, none⟩ = some (.string r.form)
  bel : Below w1.heap.size w1 w2
theorem Later.mk' {B b a : Nat} {v : Value} {l : List Row} {r : Row} {w1 w2 : World} (h : RefAt B b v l w1) (ha : a < w1.heap.size)
    (hx : w1.heap[a]? = some (.cells #[.string r.name, .int .i64 r.value, .int .i64 r.step, .string r.form] 62 (0, 0))) (hb : Below w1.heap.size w1 w2) : Later B b a v l r w1 w2 := by
  have hx2 : w2.heap[a]? = some (.cells #[.string r.name, .int .i64 r.value, .int .i64 r.step, .string r.form] 62 (0, 0)) := by rw [hb.block _ ha]; exact hx
  refine ⟨h.below hb, ?_, ?_, ?_, ?_, hb⟩ <;> (unfold World.cell?; rw [hx2]; rfl)
theorem src_box (w : World) (r : Row) : SrcAt (w.alloc (.cells #[.string r.name, .int .i64 r.value, .int .i64 r.step, .string r.form] 62)) (.slice (some ⟨w.heap.size, 0, none⟩) 1 1) 1 r.cells := by
  refine .inr ⟨⟨w.heap.size, 0, none⟩, 1, rfl, rfl, fun j u hu => ?_, by rw [← flat_one]; exact flat_one_cell _⟩
  have hj : j < 4 := by
    have := (List.getElem?_eq_some_iff.1 hu).1
    simpa [Row.cells] using this
  rw [Go.WideShapes.add_plain]
  unfold World.cell?
  rw [heap_alloc_new]
  rw [Nat.zero_add]
  simpa [Row.cells] using hu

theorem RefAt.free {B b : Nat} {v : Value} {l : List Row} {w : World} (h : RefAt B b v l w) : w.frozen? ⟨b, 0, none⟩ = false := by simp [World.frozen?, h.blk]
theorem own_slice {W : World} {B n : Nat} {e : TypeId} {v : Value} {xs : List Value} (h : W.ownsRow B e 4 v n xs) (hn : 0 < n) : ∃ g c, v = .slice (some ⟨g, 0, none⟩) n c := by
  rcases h.2 with ⟨_, h0⟩ | ⟨g, c, _, h1, _⟩
  · omega
  · exact ⟨g, c, h1⟩
theorem src_tail {B b g cap p : Nat} {l : List Row} {w : World} (h : RefAt B b (.slice (some ⟨g, 0, none⟩) l.length cap) l w) (c : Nat) (hp : p ≤ l.length) : SrcAt w (.slice (some ⟨g, p * 4, none⟩) (l.length - p) c) (l.length - p) (flat (l.drop p)) := by
  have := src_of h (i := p) (m := l.length - p) c (by omega)
  rwa [List.take_of_length_le (by simp)] at this
theorem src_none {p : Nat} {l : List Row} {w : World} (a : Addr) (c : Nat) (hp : l.length ≤ p) : SrcAt w (.slice (some a) (l.length - p) c) (l.length - p) (flat (l.drop p)) := by
  rw [List.drop_eq_nil_of_le hp, Nat.sub_eq_zero_of_le hp]
  exact .inr ⟨a, c, rfl, rfl, fun j u hu => by simp [flat] at hu, fun u hu => by simp [flat] at hu⟩
theorem src_zero {w : World} (a : Addr) (c : Nat) : SrcAt w (.slice (some a) 0 c) 0 [] := .inr ⟨a, c, rfl, rfl, fun j u hu => by simp at hu, fun u hu => by simp at hu⟩
theorem RefAt.moved {B b : Nat} {v v' : Value} {l l' : List Row} {w : World} (h : RefAt B b v l w) (own : w.ownsRow B 62 4 v' l'.length (flat l')) (few : l'.length ≤ 500) (hne : ∀ k, v'.ownBlock = some k → k ≠ b) :
    RefAt B b v' l' (w.setCell ⟨b, 0, none⟩ v') :=
  ⟨rd_set_at h.blk 0 v', own.kept (row := some b) ⟨rfl, rfl, rfl, by simp, fun k _ hk => Below.heap_setCell _ ⟨b, 0, none⟩ _ _ (by simpa using hk)⟩ (by
    cases e : v'.ownBlock with
    | none => exact .inl rfl
    | some k => exact .inr (by simpa using hne k e)), h.lo, few⟩
theorem RefKept.moved {b : Nat} {v u : Value} {w w' : World} (h : Below w.heap.size w w') : RefKept b v w (w'.setCell ⟨b, 0, none⟩ u) :=
  ⟨h.os, h.tape, h.output, by simpa using h.size, fun k hk hb _ => by rw [Below.heap_setCell _ ⟨b, 0, none⟩ _ _ (by simpa using hb)]; exact h.block k hk⟩

section
variable {B b : Nat} {v : Value} {l : List Row} {w w' : World}
def PutNewP (B b : Nat) (v : Value) (l : List Row) (r : Row) (w : World) (e : Ending) (w' : World) : Prop :=
  e = .returned (.int .i64 0) ∧ (∃ v', RefAt B b v' (insR r l) w' ∧ NewOr v v' w) ∧ RefKept b v w w'
set_option maxRecDepth 100000 in
set_option maxHeartbeats 2000000 in
theorem rput_nil (r : Row) (h : RefAt B b (.slice none 0 0) [] w) : Calls Tryz.prog 35 #[.pointer (some ⟨b, 0, none⟩), rowV r] w (PutNewP B b (.slice none 0 0) [] r w) := by
  have hbw : Below w.heap.size w (w.alloc (.cells #[.string r.name, .int .i64 r.value, .int .i64 r.step, .string r.form] 62)) := (Below.refl _ _).alloc (Nat.le_refl _) _
  have h1 := h.below hbw
  have HA := Lib.hid (rat_nil r.name h1)
  have HB := Lib.hid hbw
  have HH := Lib.hid h1
  have hBw : B ≤ w.heap.size := by have := h.lo; have := h.lt; omega
  have HI : Hid (insR r [] = [r]) := rfl
  clear h hbw h1
  go_enter Tryz.func35, Tryz.ntmps35
  go_wp2_with fail
  refine HA.out.mono ?_
  rintro e w1 ⟨rfl, hb⟩
  have h2 := HH.out.below hb
  have hx : w1.heap[w.heap.size]? = some (.cells #[.string r.name, .int .i64 r.value, .int .i64 r.step, .string r.form] 62 (0, 0)) := by rw [hb.block _ (by simp)]; exact heap_alloc_new _ _
  have hsz1 : w.heap.size < w1.heap.size := Nat.lt_of_lt_of_le (by simp) hb.size
  have hc := h2.cell
  have hc1 : (w1.alloc (.cells #[] 62)).cell? ⟨b, 0, none⟩ = some (.slice none 0 0) := (h2.below ((Below.refl _ _).alloc (Nat.le_refl _) _)).cell
  have hBw1 : B ≤ w1.heap.size := by omega
  have O1 : Hid ((w1.alloc (.cells #[] 62)).ownsRow w1.heap.size 62 4 (.slice (some ⟨w1.heap.size, 0, none⟩) 0 0) 0 []) := World.ownsRow_lit w1 #[] 0 (Nat.le_refl _) (by omega) rfl
  have HL : Hid (∀ w2, Below w1.heap.size w1 w2 → Later B b w.heap.size (.slice none 0 0) [] r w1 w2) := fun w2 hb2 => Later.mk' h2 hsz1 hx hb2
  clear h2 hx
  go_wp2_with (first
    | (at_builtin; refine wpList_app rfl (.tmp 29) (.tmp 35) rfl rfl rfl rfl O1.out (.inl ⟨rfl, rfl, rfl⟩) (by omega) (by simp) ?_; intro v2 w2 own2 hg2; have L2 := Lib.hid (HL.out w2 (below_of_new hg2)); have O2 := Lib.hid own2; clear own2 hg2; obtain ⟨_, k0, k1, k2, k3, hbel⟩ := L2.out; have hBE := Lib.hid hbel; clear hbel)
    | (at_builtin; refine wpList_app rfl (.tmp 37) (.tmp 39) rfl rfl rfl rfl (O2.out.alloc _) (src_box w2 r) (by omega) (by have := hBE.out.size; simp; omega) ?_; intro v3 w3 own3 hg3; have L3 := Lib.hid (HL.out w3 (below_of_own hBE.out (fun k e => (O2.out.lt k e).1) hBE.out.size hg3)); have O3 := Lib.hid own3; clear own3 hg3 k0 k1 k2 k3; have hc3 := L3.out.at_.cell)
    | (at_builtin; refine wpList_app rfl (.tmp 42) (.tmp 48) rfl rfl rfl rfl O3.out (.inl ⟨rfl, rfl, rfl⟩) (by omega) (by have := L3.out.bel.size; omega) ?_; intro v4 w4 own4 hg4; have L4 := Lib.hid (HL.out w4 (below_of_own0 L3.out.bel (fun k e => (O3.out.lt k e).1) L3.out.bel.size hg4)); obtain ⟨g4, c4, rfl⟩ := own_slice own4 (by omega); have O4 := Lib.hid own4; clear own4 hg4 hc3; have hc4 := L4.out.at_.cell; have hz4 := L4.out.at_.free))
  go_ret
  refine ⟨rfl, ⟨.slice (some ⟨g4, 0, none⟩) (0 + 0 + 1 + 0) c4, ?_, fun k hk => .inr (Nat.le_trans (Nat.le_of_lt hsz1) (O4.out.lt k hk).1)⟩, RefKept.moved (HB.out.trans ((hb.trans (L4.out.bel.mono hb.size)).mono HB.out.size))⟩
  have own := O4.out
  have hfl : [] ++ [] ++ r.cells ++ [] = flat (insR r []) := by rw [HI.out, flat_one, List.append_nil, List.append_nil, List.nil_append]
  rw [hfl] at own
  exact L4.out.at_.moved (ownsRow_base_a own hBw1) (by rw [HI.out]; simp) (fun k hk => by
    have h1 := (own.lt k hk).1
    have h2 := (HH.out.below hb).lt
    have h3 := L3.out.bel.size
    omega)
set_option maxRecDepth 100000 in
set_option maxHeartbeats 2000000 in
theorem rput_new (r : Row) (h : RefAt B b v l w) (hi : isAt r.name l = false) (h5 : l.length < 500) : Calls Tryz.prog 35 #[.pointer (some ⟨b, 0, none⟩), rowV r] w (PutNewP B b v l r w) := by
  have hbw : Below w.heap.size w (w.alloc (.cells #[.string r.name, .int .i64 r.value, .int .i64 r.step, .string r.form] 62)) := (Below.refl _ _).alloc (Nat.le_refl _) _
  have h1 := h.below hbw
  have HA := Lib.hid (rat_any r.name h1)
  rw [hi] at HA
  have HB := Lib.hid hbw
  have HH := Lib.hid h1
  have hBw : B ≤ w.heap.size := by have := h.lo; have := h.lt; omega
  have hpl := pos_le r.name l
  obtain ⟨p, hp⟩ : ∃ p, pos r.name l = p := ⟨_, rfl⟩
  have hins : insR r l = l.take p ++ [r] ++ l.drop p := by unfold insR; rw [hp]
  rw [hp] at HA hpl
  have HI := Lib.hid hins
  rcases h.ways with ⟨rfl, rfl⟩ | ⟨g, cap, rfl, hBg, hgl, hgb, hcap, hmax⟩
  · exact rput_nil r h
  have hln := h.few
  unfold maxLen at hmax
  clear h hbw h1 hi hp hins
  by_cases hcp : cap = p
  · obtain rfl : p = cap := hcp.symm
    go_enter Tryz.func35, Tryz.ntmps35
    go_wp2_with fail
    refine HA.out.mono ?_
    rintro e w1 ⟨rfl, hb⟩
    have h2 := HH.out.below hb
    have hx : w1.heap[w.heap.size]? = some (.cells #[.string r.name, .int .i64 r.value, .int .i64 r.step, .string r.form] 62 (0, 0)) := by rw [hb.block _ (by simp)]; exact heap_alloc_new _ _
    have hsz1 : w.heap.size < w1.heap.size := Nat.lt_of_lt_of_le (by simp) hb.size
    have hc := h2.cell
    have hc1 : (w1.alloc (.cells #[] 62)).cell? ⟨b, 0, none⟩ = some (.slice (some ⟨g, 0, none⟩) l.length p) := (h2.below ((Below.refl _ _).alloc (Nat.le_refl _) _)).cell
    have hpz : (0 : Int) ≤ p := by omega
    have hpc : (p : Int) ≤ p := by omega
    have hBw1 : B ≤ w1.heap.size := by omega
    have ha1 : Below w1.heap.size w1 (w1.alloc (.cells #[] 62)) := (Below.refl _ _).alloc (Nat.le_refl _) _
    have O1 : Hid ((w1.alloc (.cells #[] 62)).ownsRow w1.heap.size 62 4 (.slice (some ⟨w1.heap.size, 0, none⟩) 0 0) 0 []) := World.ownsRow_lit w1 #[] 0 (Nat.le_refl _) (by omega) rfl
    have src1 := src_of (h2.below ha1) (i := 0) (m := p) p (by omega)
    rw [Nat.zero_mul, List.drop_zero] at src1
    have S1 := Lib.hid src1
    have HL : Hid (∀ w2, Below w1.heap.size w1 w2 → Later B b w.heap.size (.slice (some ⟨g, 0, none⟩) l.length p) l r w1 w2) := fun w2 hb2 => Later.mk' h2 hsz1 hx hb2
    clear src1 h2 hx
    go_wp2_with (first
      | (at_builtin; refine wpList_app rfl (.tmp 29) (.tmp 35) rfl rfl rfl rfl O1.out S1.out (by omega) (by simp) ?_; intro v2 w2 own2 hg2; have L2 := Lib.hid (HL.out w2 (below_of_new hg2)); have O2 := Lib.hid own2; clear own2 hg2; obtain ⟨_, k0, k1, k2, k3, hbel⟩ := L2.out; have hBE := Lib.hid hbel; clear hbel)
      | (at_builtin; refine wpList_app rfl (.tmp 37) (.tmp 39) rfl rfl rfl rfl (O2.out.alloc _) (src_box w2 r) (by omega) (by have := hBE.out.size; simp; omega) ?_; intro v3 w3 own3 hg3; have L3 := Lib.hid (HL.out w3 (below_of_own hBE.out (fun k e => (O2.out.lt k e).1) hBE.out.size hg3)); have O3 := Lib.hid own3; clear own3 hg3 k0 k1 k2 k3; have hc3 := L3.out.at_.cell)
      | (at_builtin; refine wpList_app rfl (.tmp 42) (.tmp 48) rfl rfl rfl rfl O3.out (src_tail L3.out.at_ _ hpl) (by omega) (by have := L3.out.bel.size; omega) ?_; intro v4 w4 own4 hg4; have L4 := Lib.hid (HL.out w4 (below_of_own0 L3.out.bel (fun k e => (O3.out.lt k e).1) L3.out.bel.size hg4)); obtain ⟨g4, c4, rfl⟩ := own_slice own4 (by omega); have O4 := Lib.hid own4; clear own4 hg4 hc3; have hc4 := L4.out.at_.cell; have hz4 := L4.out.at_.free)
      | (at_builtin; refine wpList_app rfl (.tmp 42) (.tmp 48) rfl rfl rfl rfl O3.out (src_zero _ _) (by omega) (by have := L3.out.bel.size; omega) ?_; intro v4 w4 own4 hg4; have L4 := Lib.hid (HL.out w4 (below_of_own0 L3.out.bel (fun k e => (O3.out.lt k e).1) L3.out.bel.size hg4)); obtain ⟨g4, c4, rfl⟩ := own_slice own4 (by omega); have O4 := Lib.hid own4; clear own4 hg4 hc3; have hc4 := L4.out.at_.cell; have hz4 := L4.out.at_.free))
    go_ret
    refine ⟨rfl, ⟨.slice (some ⟨g4, 0, none⟩) (0 + p + 1 + 0) c4, ?_, fun k hk => .inr (Nat.le_trans (Nat.le_of_lt hsz1) (O4.out.lt k hk).1)⟩, RefKept.moved (HB.out.trans ((hb.trans (L4.out.bel.mono hb.size)).mono HB.out.size))⟩
    have hfl : [] ++ flat (l.take p) ++ r.cells ++ [] = flat (insR r l) := by rw [HI.out, List.drop_eq_nil_of_le hcap, List.append_nil, List.append_nil, flat_append, flat_one, List.nil_append]
    have hln2 : 0 + p + 1 + 0 = (insR r l).length := by rw [insR_length]; omega
    have own := O4.out
    rw [hfl, hln2] at own
    rw [hln2, show p + 1 = (insR r l).length by rw [insR_length]; omega]
    exact L4.out.at_.moved (ownsRow_base_a own hBw1) (by rw [insR_length]; omega) (fun k hk => by
      have h1 := (own.lt k hk).1
      have h2 := (HH.out.below hb).lt
      have h3 := L3.out.bel.size
      omega)
  · have hB0 : True := trivial
    go_enter Tryz.func35, Tryz.ntmps35
    go_wp2_with fail
    refine HA.out.mono ?_
    rintro e w1 ⟨rfl, hb⟩
    have h2 := HH.out.below hb
    have hx : w1.heap[w.heap.size]? = some (.cells #[.string r.name, .int .i64 r.value, .int .i64 r.step, .string r.form] 62 (0, 0)) := by rw [hb.block _ (by simp)]; exact heap_alloc_new _ _
    have hsz1 : w.heap.size < w1.heap.size := Nat.lt_of_lt_of_le (by simp) hb.size
    have hc := h2.cell
    have hc1 : (w1.alloc (.cells #[] 62)).cell? ⟨b, 0, none⟩ = some (.slice (some ⟨g, 0, none⟩) l.length cap) := (h2.below ((Below.refl _ _).alloc (Nat.le_refl _) _)).cell
    have hpz : (0 : Int) ≤ p := by omega
    have hpc : (p : Int) ≤ cap := by omega
    have hBw1 : B ≤ w1.heap.size := by omega
    have ha1 : Below w1.heap.size w1 (w1.alloc (.cells #[] 62)) := (Below.refl _ _).alloc (Nat.le_refl _) _
    have O1 : Hid ((w1.alloc (.cells #[] 62)).ownsRow w1.heap.size 62 4 (.slice (some ⟨w1.heap.size, 0, none⟩) 0 0) 0 []) := World.ownsRow_lit w1 #[] 0 (Nat.le_refl _) (by omega) rfl
    have src1 := src_of (h2.below ha1) (i := 0) (m := p) cap (by omega)
    rw [Nat.zero_mul, List.drop_zero] at src1
    have S1 := Lib.hid src1
    have HL : Hid (∀ w2, Below w1.heap.size w1 w2 → Later B b w.heap.size (.slice (some ⟨g, 0, none⟩) l.length cap) l r w1 w2) := fun w2 hb2 => Later.mk' h2 hsz1 hx hb2
    clear src1 h2 hx
    go_wp2_with (first
      | (at_builtin; refine wpList_app rfl (.tmp 29) (.tmp 35) rfl rfl rfl rfl O1.out S1.out (by omega) (by simp) ?_; intro v2 w2 own2 hg2; have L2 := Lib.hid (HL.out w2 (below_of_new hg2)); have O2 := Lib.hid own2; clear own2 hg2; obtain ⟨_, k0, k1, k2, k3, hbel⟩ := L2.out; have hBE := Lib.hid hbel; clear hbel)
      | (at_builtin; refine wpList_app rfl (.tmp 37) (.tmp 39) rfl rfl rfl rfl (O2.out.alloc _) (src_box w2 r) (by omega) (by have := hBE.out.size; simp; omega) ?_; intro v3 w3 own3 hg3; have L3 := Lib.hid (HL.out w3 (below_of_own hBE.out (fun k e => (O2.out.lt k e).1) hBE.out.size hg3)); have O3 := Lib.hid own3; clear own3 hg3 k0 k1 k2 k3; have hc3 := L3.out.at_.cell)
      | (at_builtin; refine wpList_app rfl (.tmp 42) (.tmp 48) rfl rfl rfl rfl O3.out (src_tail L3.out.at_ _ hpl) (by omega) (by have := L3.out.bel.size; omega) ?_; intro v4 w4 own4 hg4; have L4 := Lib.hid (HL.out w4 (below_of_own0 L3.out.bel (fun k e => (O3.out.lt k e).1) L3.out.bel.size hg4)); obtain ⟨g4, c4, rfl⟩ := own_slice own4 (by omega); have O4 := Lib.hid own4; clear own4 hg4 hc3; have hc4 := L4.out.at_.cell; have hz4 := L4.out.at_.free)
      | (at_builtin; refine wpList_app rfl (.tmp 42) (.tmp 48) rfl rfl rfl rfl O3.out (src_none _ _ (by omega)) (by omega) (by have := L3.out.bel.size; omega) ?_; intro v4 w4 own4 hg4; have L4 := Lib.hid (HL.out w4 (below_of_own0 L3.out.bel (fun k e => (O3.out.lt k e).1) L3.out.bel.size hg4)); obtain ⟨g4, c4, rfl⟩ := own_slice own4 (by omega); have O4 := Lib.hid own4; clear own4 hg4 hc3; have hc4 := L4.out.at_.cell; have hz4 := L4.out.at_.free))
    go_ret
    refine ⟨rfl, ⟨.slice (some ⟨g4, 0, none⟩) (0 + p + 1 + (l.length - p)) c4, ?_, fun k hk => .inr (Nat.le_trans (Nat.le_of_lt hsz1) (O4.out.lt k hk).1)⟩, RefKept.moved (HB.out.trans ((hb.trans (L4.out.bel.mono hb.size)).mono HB.out.size))⟩
    have hfl : [] ++ flat (l.take p) ++ r.cells ++ flat (l.drop p) = flat (insR r l) := by rw [HI.out, flat_append, flat_append, flat_one, List.nil_append]
    have hln2 : 0 + p + 1 + (l.length - p) = (insR r l).length := by rw [insR_length]; omega
    have own := O4.out
    rw [hfl, hln2] at own
    rw [hln2, show p + 1 + (l.length - p) = (insR r l).length by rw [insR_length]; omega]
    exact L4.out.at_.moved (ownsRow_base_a own hBw1) (by rw [insR_length]; omega) (fun k hk => by
      have h1 := (own.lt k hk).1
      have h2 := (HH.out.below hb).lt
      have h3 := L3.out.bel.size
      omega)
end
end Go.Proofs.YtopgbbkndkincaaGreatDoor
