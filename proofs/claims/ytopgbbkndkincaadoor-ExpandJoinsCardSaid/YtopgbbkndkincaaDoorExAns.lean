/- An escape is asked for. -/
import Derived.Test.YtopgbbkndkincaaDoorExRow
import Derived.Deep.RegionHeld3
import Derived.StillTailTactics
namespace Go.Proofs.YtopgbbkndkincaaDoor
open Go.RowKit Go.PlainAid

abbrev limitThrown : Ending := .panicked [{ v := .iface 46 (.agg #[]), recovered := false }]
abbrev ptr (b : Nat) : Value := .pointer (some ⟨b, 0, none⟩)

/-- How a text is expanded. -/
def ExP (A : Asker) (x : Nat) (cm : Bool) (a : Nat) (s : ByteArray) (W : World) (e : Ending) (W' : World) : Prop :=
  ∃ o, Ex A.r cm ⟨#[]⟩ s a o ∧ match o with
    | some (t, b) => e = .returned (.string t) ∧ In A x cm b W W'
    | none => e = limitThrown ∧ ∃ b, In A x cm b W W'
/-- All texts up to a size are expanded so. -/
def ExC (A : Asker) (n : Nat) : Prop := ∀ (s : ByteArray) (x : Nat) (cm : Bool) (a : Nat) (W : World), s.size ≤ n → s.size ≤ 8000 → In A x cm a W W → Calls Tryd.prog 22 #[ptr x, .string s] W (ExP A x cm a s W)
/-- How an escape is answered. -/
def AnP (A : Asker) (x : Nat) (cm : Bool) (a : Nat) (p : Piece) (W : World) (e : Ending) (W' : World) : Prop :=
  ∃ o, AnsR A.r cm p a o ∧ match o with
    | some b => e = .returned (.string A.r) ∧ In A x cm b W W'
    | none => e = limitThrown ∧ ∃ b, In A x cm b W W'

section
variable {A : Asker} {x : Nat} {cm : Bool} {a : Nat} {W : World}

/-- The box of a piece. -/
abbrev pbox (p : Piece) : Obj := .cells #[.int .u8 p.kind, .string p.name, .int .i64 p.step, .int .i64 p.size] 59
abbrev pboxA (p : Piece) : Obj := .cells #[.int .u8 p.kind, .string p.name, .int .i64 p.step, .int .i64 p.size] 59 (0, 0)
theorem set_two {W : World} {x : Nat} {v0 v1 v2 u : Value} {t : TypeId} (h : W.heap[x]? = some (.cells #[v0, v1, v2] t (0, 0))) : (W.setCell ⟨x, 2, none⟩ u).heap[x]? = some (.cells #[v0, v1, u] t (0, 0)) := by
  have hlt := (Array.getElem?_eq_some_iff.1 h).1
  have h' : W.heap[x] = .cells #[v0, v1, v2] t (0, 0) := by simpa [Array.getElem?_eq_getElem hlt] using h
  show (W.heap.modify x _)[x]? = _
  rw [Array.getElem?_eq_getElem (by simpa using hlt), Array.getElem_modify_self, h']
  rfl
theorem set_other {W : World} {x k : Nat} {u : Value} (j : Nat) (h : k ≠ x) : (W.setCell ⟨x, j, none⟩ u).heap[k]? = W.heap[k]? := Below.heap_setCell _ ⟨x, j, none⟩ _ _ (by simpa using h)

set_option maxRecDepth 100000 in
set_option maxHeartbeats 4000000 in
/-- Not of \w; the limit is met. -/
theorem ans_full (p : Piece) (hk : (p.kind == 119) = false) (h : In A x cm 500 W W) : Calls Tryd.prog 34 #[ptr x, pieceV p] W (AnP A x cm 500 p W) := by
  have hb : Below W.heap.size W (W.alloc (pbox p)) := (Below.refl _ _).alloc (Nat.le_refl _) _
  have h1 := h.below hb
  obtain ⟨_, _, c2, _⟩ := h1.cells
  have H1 := Lib.hid h1
  have hk2 : p.kind ≠ 119 := by simpa using hk
  have HK := Lib.hid hk2
  clear h hb h1 hk2
  go_enter Tryd.func34, Tryd.ntmps34
  go_wp2_with fail
  exact ⟨rfl, none, .inl ⟨HK.out, rfl⟩, rfl, 500, H1.out⟩

/-- It is asked once more: the count is set ahead of it. -/
theorem In.ask {W0 : World} (h : In A x cm a W0 W) (ha : a < 500) : A.St a (W.setCell ⟨x, 2, none⟩ (.int .i64 (a + 1))).drew ∧
    (∀ k, k < W.heap.size → k ≠ x → (W.setCell ⟨x, 2, none⟩ (.int .i64 (a + 1))).heap[k]? = W.heap[k]?) ∧
    ∀ W1, A.St (a + 1) W1 → Left A.tk (W.setCell ⟨x, 2, none⟩ (.int .i64 (a + 1))).drew W1 → In A x cm (a + 1) W0 W1 := by
  have hx := set_two (u := .int .i64 (a + 1)) h.blk
  obtain ⟨s1, s2⟩ := A.frame a W (W.setCell ⟨x, 2, none⟩ (.int .i64 (a + 1))).drew h.st (by simp) (fun k hk => set_other 2 (fun e => h.ntk (by rw [← e]; exact hk)))
  refine ⟨s1, fun k _ hk => set_other 2 hk, fun W1 h1 h2 => ?_⟩
  have ho : ∀ k, k < W.heap.size → ¬ A.tk W k → W1.heap[k]? = (W.setCell ⟨x, 2, none⟩ (.int .i64 (a + 1))).heap[k]? ∧ ¬ A.tk W1 k := fun k hk hn => h2.block k (by simpa using hk) (fun e => hn ((s2 k).1 e))
  obtain ⟨e1, n1⟩ := ho x h.lt h.ntk
  refine ⟨h1, by rw [e1, hx]; simp, n1, by omega, h2.os.trans h.os, h2.tape.trans h.tape, h2.output.trans h.output, Nat.le_trans h.size (by simpa using h2.size), fun k hk hkx hkt => ?_⟩
  obtain ⟨e2, n2⟩ := h.block k hk hkx hkt
  obtain ⟨e3, n3⟩ := ho k (Nat.lt_of_lt_of_le hk h.size) n2
  exact ⟨e3.trans ((set_other 2 hkx).trans e2), n3⟩

set_option maxRecDepth 100000 in
set_option maxHeartbeats 4000000 in
/-- Not of \w; it is asked. -/
theorem ans_asks (p : Piece) (hk : (p.kind == 119) = false) (ha : a < 500) (h : In A x cm a W W) : Calls Tryd.prog 34 #[ptr x, pieceV p] W (AnP A x cm a p W) := by
  have hb : Below W.heap.size W (W.alloc (pbox p)) := (Below.refl _ _).alloc (Nat.le_refl _) _
  have h1 := h.below hb
  have hxb : W.heap.size ≠ x := by have := h.lt; omega
  obtain ⟨_, _, c2, f2⟩ := h1.cells
  obtain ⟨s1, s2, s3⟩ := h1.ask ha
  have hx3 := set_two (u := .int .i64 (a + 1)) h1.blk
  have hbx : (W.alloc (pbox p)).heap[W.heap.size]? = some (pboxA p) := heap_alloc_new _ _
  have hb3 := (s2 W.heap.size (by simp) hxb).trans hbx
  have HC := Lib.hid (A.call a _ p.kind p.name p.step (by omega) s1)
  have H3 := Lib.hid s3
  have HX := Lib.hid hx3
  have HB := Lib.hid hb3
  have hk2 : p.kind ≠ 119 := by simpa using hk
  have HK := Lib.hid hk2
  have hne : ((a : Int) == 500) = false := by simpa using (show ¬ (a : Int) = 500 by omega)
  clear h hb h1 hk2 s1 s2 s3 hx3 hbx hb3
  go_enter Tryd.func34, Tryd.ntmps34
  go_wp2_with fail
  obtain ⟨W3, hW3⟩ : ∃ W3, (W.alloc (pbox p)).setCell ⟨x, 2, none⟩ (.int .i64 (a + 1)) = W3 := ⟨_, rfl⟩
  rw [hW3] at HC H3 HX HB
  simp only [pbox] at hW3
  rw [hW3]
  have k0 : W3.cell? ⟨x, 0, none⟩ = some A.look := by unfold World.cell?; rw [HX.out]; rfl
  have k1 : W3.cell? ⟨W.heap.size, 0, none⟩ = some (.int .u8 p.kind) := by unfold World.cell?; rw [HB.out]; rfl
  have k2 : W3.cell? ⟨W.heap.size, 2, none⟩ = some (.int .i64 p.step) := by unfold World.cell?; rw [HB.out]; rfl
  have hcf := A.enters
  clear hW3 c2 f2
  go_still_tail 9, (by kernel_rfl)
  change wpList _ _ _ _ _ W3.drew
  go_wp2_with fail
  refine HC.out.mono ?_
  rintro e W4 ⟨rfl, h1, h2⟩
  have HI := Lib.hid (H3.out _ h1 h2)
  clear h1 h2
  go_wp2_with fail
  go_ret
  exact ⟨some (a + 1), ⟨by omega, .inl ⟨HK.out, ha, rfl⟩⟩, rfl, HI.out⟩

set_option maxRecDepth 100000 in
set_option maxHeartbeats 4000000 in
/-- Of \w: its text is expanded first. -/
theorem ans_width (p : Piece) (hk : p.kind = 119) (hn : p.name.size ≤ 8000) (ih : ExC A p.name.size) (h : In A x cm a W W) : Calls Tryd.prog 34 #[ptr x, pieceV p] W (AnP A x cm a p W) := by
  have hb : Below W.heap.size W (W.alloc (pbox p)) := (Below.refl _ _).alloc (Nat.le_refl _) _
  have h1 := h.below hb
  have hxb : W.heap.size ≠ x := by have := h.lt; omega
  have hnt : ¬ A.tk W W.heap.size := fun e => Nat.lt_irrefl _ (A.own a W _ h.st e)
  have hbx : (W.alloc (pbox p)).heap[W.heap.size]? = some (pboxA p) := heap_alloc_new _ _
  have hbt : ¬ A.tk (W.alloc (pbox p)) W.heap.size := fun e => hnt (((A.frame a W _ h.st hb.size (fun k hk => hb.block k (A.own a W k h.st hk))).2 _).1 e)
  have HE := Lib.hid (ih p.name x cm a _ (Nat.le_refl _) hn h1.again)
  have H1 := Lib.hid h1
  have HBX := Lib.hid hbx
  have HBT := Lib.hid hbt
  have HK := Lib.hid hk
  have hk3 : (p.kind == 119) = true := by simpa using hk
  clear h hb h1 hk hnt hbx hbt
  go_enter Tryd.func34, Tryd.ntmps34
  go_wp2_with fail
  refine HE.out.mono ?_
  rintro e W2 ⟨o, hE, hO⟩
  rcases o with _ | ⟨t, b⟩
  · obtain ⟨rfl, b, hI⟩ := hO
    have HE2 := Lib.hid hE
    have HI := Lib.hid (H1.out.trans hI)
    clear hE hI
    go_wp2_with fail
    exact ⟨rfl, none, .inr ⟨HK.out, .inl HE2.out⟩, rfl, b, HI.out⟩
  · obtain ⟨rfl, hI⟩ := hO
    have HE2 := Lib.hid hE
    have hI2 := H1.out.trans hI
    obtain ⟨e2, n2⟩ := hI.block W.heap.size (by simp) hxb HBT.out
    have hbx2 := e2.trans HBX.out
    have HI := Lib.hid hI2
    obtain ⟨_, _, c2, f2⟩ := hI2.cells
    have l2 : W.heap.size < W2.heap.size := (Array.getElem?_eq_some_iff.1 hbx2).1
    have j0 : W2.cell? ⟨W.heap.size, 0, none⟩ = some (.int .u8 p.kind) := by unfold World.cell?; rw [hbx2]; rfl
    have HBX2 := Lib.hid hbx2
    clear hE hI hI2 e2 n2 hbx2
    by_cases hb5 : b = 500
    · subst hb5
      clear f2
      go_wp2_with fail
      exact ⟨rfl, none, .inr ⟨HK.out, .inr ⟨t, HE2.out⟩⟩, rfl, 500, HI.out⟩
    · have hb4 : b < 500 := by have := HI.out.few; omega
      have hne : ((b : Int) == 500) = false := by simpa using (show ¬ (b : Int) = 500 by omega)
      obtain ⟨s1, s2, s3⟩ := HI.out.ask hb4
      have hx3 := set_two (u := .int .i64 (b + 1)) HI.out.blk
      have hb3 := (s2 W.heap.size l2 hxb).trans HBX2.out
      have HC := Lib.hid (A.call b _ p.kind t p.step (by omega) s1)
      have H3 := Lib.hid s3
      have HX := Lib.hid hx3
      have HB := Lib.hid hb3
      clear s1 s2 s3 hx3 hb3 hb5
      go_wp2_with fail
      obtain ⟨W3, hW3⟩ : ∃ W3, W2.setCell ⟨x, 2, none⟩ (.int .i64 (b + 1)) = W3 := ⟨_, rfl⟩
      rw [hW3] at HC H3 HX HB
      rw [hW3]
      have k0 : W3.cell? ⟨x, 0, none⟩ = some A.look := by unfold World.cell?; rw [HX.out]; rfl
      have k1 : W3.cell? ⟨W.heap.size, 0, none⟩ = some (.int .u8 p.kind) := by unfold World.cell?; rw [HB.out]; rfl
      have k2 : W3.cell? ⟨W.heap.size, 2, none⟩ = some (.int .i64 p.step) := by unfold World.cell?; rw [HB.out]; rfl
      have hcf := A.enters
      clear hW3 c2 f2 j0
      go_still_tail 9, (by kernel_rfl)
      change wpList _ _ _ _ _ W3.drew
      go_wp2_with fail
      refine HC.out.mono ?_
      rintro e W4 ⟨rfl, h1, h2⟩
      have HI4 := Lib.hid (H3.out _ h1 h2)
      clear h1 h2
      go_wp2_with fail
      go_ret
      exact ⟨some (b + 1), ⟨by omega, .inr ⟨HK.out, t, b, HE2.out, hb4, rfl⟩⟩, rfl, HI4.out⟩

theorem ans_any (p : Piece) (hn : p.name.size ≤ 8000) (ih : p.kind = 119 → ExC A p.name.size) (h : In A x cm a W W) : Calls Tryd.prog 34 #[ptr x, pieceV p] W (AnP A x cm a p W) := by
  by_cases hk : p.kind = 119
  · exact ans_width p hk hn (ih hk) h
  · have hk2 : (p.kind == 119) = false := by simpa using hk
    by_cases ha : a = 500
    · subst ha; exact ans_full p hk2 h
    · exact ans_asks p hk2 (by have := h.few; omega) h
end
end Go.Proofs.YtopgbbkndkincaaDoor
