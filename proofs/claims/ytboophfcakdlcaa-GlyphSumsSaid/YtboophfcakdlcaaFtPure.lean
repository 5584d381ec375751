/- Fonts, plain: glyphs, ligatures, kerns, what a valid font is. No Go. -/
import Derived.Test.YtboophfcakdlcaaMkAid
import Derived.Sort.Walk0
namespace Go.Proofs.Ytboophfcakdlcaa
open Go.RowKit Go.PlainAid

structure Gl where
  nm : List UInt8
  wd : Int
structure Lg where
  a : List UInt8
  b : List UInt8
  is : List UInt8
structure Kn where
  a : List UInt8
  b : List UInt8
  more : Int
structure FontL where
  name : List UInt8
  special : Bool
  space : Int
  gs : List Gl
  ls : List Lg
  ks : List Kn
instance : Inhabited Gl := ⟨⟨[], 0⟩⟩
instance : Inhabited Lg := ⟨⟨[], [], []⟩⟩
instance : Inhabited Kn := ⟨⟨[], [], 0⟩⟩

/-- Strings byte by byte. -/
abbrev ltL (a b : List UInt8) : Bool := Op.bytesLess a b
theorem ltL_eq (a b : List UInt8) : ltL a b = decide (a < b) := bytesLess_eq a b
theorem ltL_irr (a : List UInt8) : ltL a a = false := by rw [ltL_eq]; exact decide_eq_false (List.lt_irrefl a)
theorem ltL_trans {a b c : List UInt8} (h1 : ltL a b = true) (h2 : ltL b c = true) : ltL a c = true := by
  rw [ltL_eq, decide_eq_true_eq] at *
  exact List.lt_trans h1 h2
theorem ltL_asymm {a b : List UInt8} (h : ltL a b = true) : ltL b a = false := by
  cases h2 : ltL b a with
  | false => rfl
  | true => have := ltL_trans h h2; rw [ltL_irr] at this; cases this
theorem ltL_eq_of {a b : List UInt8} (h1 : ltL a b = false) (h2 : ltL b a = false) : a = b := by
  rw [ltL_eq, decide_eq_false_iff_not] at *
  exact List.le_antisymm (List.not_lt.1 h2) (List.not_lt.1 h1)
/-- What comparing two names says. -/
def cmpL (a b : List UInt8) : Int := if ltL a b then -1 else if ltL b a then 1 else 0
theorem cmpL_neg {a b : List UInt8} : cmpL a b < 0 ↔ ltL a b = true := by
  unfold cmpL
  cases ltL a b <;> cases ltL b a <;> simp
theorem cmpL_zero {a b : List UInt8} : cmpL a b = 0 ↔ a = b := by
  unfold cmpL
  cases h1 : ltL a b with
  | true =>
    simp
    intro h
    subst h
    rw [ltL_irr] at h1
    cases h1
  | false =>
    cases h2 : ltL b a with
    | true =>
      simp
      intro h
      subst h
      rw [ltL_irr] at h2
      cases h2
    | false => simp; exact ltL_eq_of h1 h2
theorem cmpL_range (a b : List UInt8) : -1 ≤ cmpL a b ∧ cmpL a b ≤ 1 := by
  unfold cmpL
  cases ltL a b <;> cases ltL b a <;> simp
/-- The first that is not zero. -/
def orI (a b : Int) : Int := if a = 0 then b else a
abbrev cmpG (x y : Gl) : Int := cmpL x.nm y.nm
abbrev cmpLg (x y : Lg) : Int := orI (cmpL x.a y.a) (cmpL x.b y.b)
abbrev cmpKn (x y : Kn) : Int := orI (cmpL x.a y.a) (cmpL x.b y.b)

/-- Each comes behind the one ahead of it. -/
def ascB {α : Type} [Inhabited α] (f : α → α → Int) (xs : List α) : Bool := (List.range (xs.length - 1)).all fun j => decide (f xs[j]! xs[j + 1]! < 0)
theorem ascB_iff {α : Type} [Inhabited α] {f : α → α → Int} {xs : List α} : ascB f xs = true ↔ ∀ j, j + 1 < xs.length → f xs[j]! xs[j + 1]! < 0 := by
  unfold ascB
  rw [List.all_eq_true]
  exact ⟨fun h j hj => of_decide_eq_true (h j (List.mem_range.2 (by omega))), fun h j hj => decide_eq_true (h j (by have := List.mem_range.1 hj; omega))⟩
theorem ascB_no {α : Type} [Inhabited α] {f : α → α → Int} {xs : List α} {j : Nat} (hj : j + 1 < xs.length) (h : 0 ≤ f xs[j]! xs[j + 1]!) : ascB f xs = false := by
  cases hb : ascB f xs with
  | false => rfl
  | true => have := ascB_iff.1 hb j hj; omega

def letL (c : UInt8) : Bool := (decide (97 ≤ c.toNat) && decide (c.toNat ≤ 122)) || (decide (65 ≤ c.toNat) && decide (c.toNat ≤ 90))
def digL (c : UInt8) : Bool := decide (48 ≤ c.toNat) && decide (c.toNat ≤ 57)
def visL (c : UInt8) : Bool := decide (33 ≤ c.toNat) && decide (c.toNat ≤ 126)
def fontNameB (l : List UInt8) : Bool := match l with
  | [] => false
  | c :: _ => decide (l.length ≤ 10) && letL c && l.all fun c => letL c || digL c
def glyphNameB (l : List UInt8) : Bool := !l.isEmpty && decide (l.length ≤ 10) && l.all visL
def widthB (z : Int) : Bool := decide (0 ≤ z) && decide (z ≤ 3000)
def hasB (gs : List Gl) (n : List UInt8) : Bool := gs.any fun g => g.nm == n
def glyphsB (gs : List Gl) : Bool := decide (gs.length ≤ 400) && ascB cmpG gs && gs.all fun g => glyphNameB g.nm && widthB g.wd
def ligsB (gs : List Gl) (ls : List Lg) : Bool := decide (ls.length ≤ 50) && ascB cmpLg ls && ls.all fun l => hasB gs l.a && hasB gs l.b && hasB gs l.is
def kernB (gs : List Gl) (k : Kn) : Bool := decide (-500 ≤ k.more) && decide (k.more ≤ 500) && !(k.more == 0) && hasB gs k.a && hasB gs k.b
def kernsB (gs : List Gl) (ks : List Kn) : Bool := decide (ks.length ≤ 500) && ascB cmpKn ks && ks.all (kernB gs)
def validB (F : FontL) : Bool := fontNameB F.name && widthB F.space && glyphsB F.gs && ligsB F.gs F.ls && kernsB F.gs F.ks

/-- What stands further on is greater. -/
theorem asc_lt {gs : List Gl} (h : ascB cmpG gs = true) : ∀ {j i : Nat}, i < j → j < gs.length → ltL gs[i]!.nm gs[j]!.nm = true := by
  intro j
  induction j with
  | zero => intro i hi; omega
  | succ j ih =>
    intro i hi hj
    have h1 := cmpL_neg.1 (ascB_iff.1 h j hj)
    by_cases e : i = j
    · subst e; exact h1
    · exact ltL_trans (ih (by omega) (by omega)) h1
/-- A search among what ascends: at the first place that is not less. -/
theorem search_has {gs : List Gl} {n : List UInt8} {c : Nat} (hlo : ∀ t, t < c → cmpL gs[t]!.nm n < 0) (hhi : ∀ t, c ≤ t → t < gs.length → 0 ≤ cmpL gs[t]!.nm n) (ha : ascB cmpG gs = true) (hc : c ≤ gs.length) :
    hasB gs n = (decide (c < gs.length) && decide (cmpL gs[c]!.nm n = 0)) := by
  rw [Bool.eq_iff_iff, hasB, List.any_eq_true, Bool.and_eq_true, decide_eq_true_eq, decide_eq_true_eq]
  constructor
  · rintro ⟨g, hg, he⟩
    obtain ⟨t, ht, rfl⟩ := List.getElem_of_mem hg
    have he : gs[t].nm = n := by simpa using he
    have hx : gs[t]! = gs[t] := getElem!_pos gs t ht
    have h0 : cmpL gs[t]!.nm n = 0 := by rw [hx]; exact cmpL_zero.2 he
    have hct : c ≤ t := by
      rcases Nat.lt_or_ge t c with h | h
      · have := hlo t h; omega
      · exact h
    rcases Nat.lt_or_ge c t with h | h
    · exfalso
      have h1 := asc_lt ha h ht
      have h2 := hhi c (Nat.le_refl _) (by omega)
      rw [hx, he] at h1
      have := cmpL_neg.2 h1
      omega
    · obtain rfl : c = t := by omega
      exact ⟨ht, h0⟩
  · rintro ⟨h1, h2⟩
    refine ⟨gs[c], List.getElem_mem h1, ?_⟩
    rw [getElem!_pos gs c h1] at h2
    simpa using cmpL_zero.1 h2
/-- Widths at a size. -/
def scaleZ (n size : Int) : Int := (10 * size * n) / 1000
end Go.Proofs.Ytboophfcakdlcaa
