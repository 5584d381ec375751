/- A store in memory: a map from names to blocks of entries. -/
import Derived.Test.YtkocgedliakclaaDoorStBase
import Derived.OneCell
import Derived.Maps.OwnSet
namespace Go.Proofs.YtkocgedliakclaaDoor
open Go.RowKit Go.PlainAid Go.Maps

/-- An entry, as its block holds it. -/
structure Ent where
  kind : Int
  text : ByteArray
  la : Option Addr
  ln : Nat
  lc : Nat
abbrev entCells (x : Ent) : Array Value := #[.int .i64 x.kind, .string x.text, .slice x.la x.ln x.lc]
abbrev entO (x : Ent) : Obj := .cells #[.int .i64 x.kind, .string x.text, .slice x.la x.ln x.lc] 104
abbrev entV (x : Ent) : Value := .agg #[.int .i64 x.kind, .string x.text, .slice x.la x.ln x.lc]

/-- How a pointer to an entry reads in the map. -/
def ptrV (p : Option Nat) : Value := .pointer (p.map fun b => ⟨b, 0, none⟩)
def ptrD (p : Option Nat) : DataW Unit := match p with | none => .agg [] | some b => .lit (.int .i64 b)
def ptrElem (v : Value) : Option (DataW Unit × List MemPlace) :=
  match v with
  | .pointer none => some (.agg [], [])
  | .pointer (some a) => if a = ⟨a.block, 0, none⟩ then some (.lit (.int .i64 a.block), []) else none
  | _ => none
theorem ptrElem_mk (p : Option Nat) : ptrElem (ptrV p) = some (ptrD p, []) := by
  cases p with
  | none => rfl
  | some b => simp [ptrElem, ptrV, ptrD]
theorem ptrElem_inv {v : Value} {z : DataW Unit × List MemPlace} (h : ptrElem v = some z) : ∃ p, v = ptrV p ∧ z = (ptrD p, []) := by
  unfold ptrElem at h
  split at h
  · injection h with h; exact ⟨none, rfl, h.symm⟩
  · rename_i a
    split at h
    · rename_i ha
      injection h with h
      exact ⟨some a.block, by show Value.pointer (some a) = Value.pointer (some ⟨a.block, 0, none⟩); rw [← ha], h.symm⟩
    · cases h
  · cases h
theorem ptrD_inj {p q : Option Nat} (h : ptrD p = ptrD q) : p = q := by
  cases p <;> cases q
  · rfl
  · cases h
  · cases h
  · simp only [ptrD, DataW.lit.injEq, Lit.int.injEq, true_and] at h
    rw [Int.ofNat_inj.1 h]

abbrev bkey (s : ByteArray) : Lit := .string s.data.toList
theorem str_keyed : Keyed Tryd.prog 9 := string_keyed Tryd.underlying9
theorem key_of (s : ByteArray) (hs : s.size ≤ maxLen) : keyOf Tryd.prog 9 (.string s) = some (bkey s) := by
  simp [keyOf, Tryd.underlying9, mapKey, hs]
theorem zero_run (w : World) : (zeroValue 108).run Tryd.prog w = .ok (ptrV none) w := by kernel_rfl

/-- Which block a name leads to. -/
def leads (D : DataW Unit) (s : ByteArray) (eb : Nat) : Prop := has D (bkey s) = true ∧ D.atKey (bkey s) (.agg []) = ptrD (some eb)

/-- Block b is a store over the map in block mb, which reads as D; the entries' blocks hold what E tells; all of it lies from block B on. -/
structure StAt (B b mb n : Nat) (D : DataW Unit) (E : Nat → Option Ent) (w : World) : Prop where
  blk : w.heap[b]? = some (.cells #[.map (some mb)] 100 (0, 0))
  map : w.ownsMap Tryd.prog 9 ptrElem mb n D
  ents : ∀ eb x, E eb = some x → B ≤ eb ∧ w.heap[eb]? = some (.cells #[.int .i64 x.kind, .string x.text, .slice x.la x.ln x.lc] 104 (0, 0))
  refs : ∀ k, has D k = true → ∃ eb x, D.atKey k (.agg []) = ptrD (some eb) ∧ E eb = some x
  lo : B ≤ b ∧ B ≤ mb
section
variable {B b mb n : Nat} {D : DataW Unit} {E : Nat → Option Ent} {w w' : World}
theorem StAt.cell (h : StAt B b mb n D E w) : w.cell? ⟨b, 0, none⟩ = some (.map (some mb)) := by simp [World.cell?, h.blk]
theorem StAt.lt (h : StAt B b mb n D E w) : b < w.heap.size := (Array.getElem?_eq_some_iff.1 h.blk).1
theorem StAt.mlt (h : StAt B b mb n D E w) : mb < w.heap.size := h.map.lt
theorem StAt.ne (h : StAt B b mb n D E w) : b ≠ mb := by
  intro e
  obtain ⟨es, clock, hb, _⟩ := h.map
  rw [← e, h.blk] at hb
  cases hb
theorem StAt.elt (h : StAt B b mb n D E w) {eb : Nat} {x : Ent} (he : E eb = some x) : eb < w.heap.size := (Array.getElem?_eq_some_iff.1 (h.ents eb x he).2).1
theorem StAt.ene (h : StAt B b mb n D E w) {eb : Nat} {x : Ent} (he : E eb = some x) : eb ≠ mb := by
  intro e
  obtain ⟨es, clock, hb, _⟩ := h.map
  rw [← e, (h.ents eb x he).2] at hb
  cases hb
theorem StAt.eneb (h : StAt B b mb n D E w) {eb : Nat} {x : Ent} (he : E eb = some x) : eb ≠ b := by
  intro e
  have := (h.ents eb x he).2
  rw [e, h.blk] at this
  simp at this
theorem StAt.below (h : StAt B b mb n D E w) (hb : Below w.heap.size w w') : StAt B b mb n D E w' :=
  ⟨by rw [hb.block _ h.lt]; exact h.blk, h.map.kept (row := none) ⟨hb.os, hb.tape, hb.output, hb.size, fun k hk _ => hb.block k hk⟩ (by simp),
   fun eb x he => ⟨(h.ents eb x he).1, by rw [hb.block _ (h.elt he)]; exact (h.ents eb x he).2⟩, h.refs, h.lo⟩
theorem StAt.alloc (h : StAt B b mb n D E w) (o : Obj) : StAt B b mb n D E (w.alloc o) := h.below ((Below.refl _ _).alloc (Nat.le_refl _) _)
theorem StAt.drew (h : StAt B b mb n D E w) : StAt B b mb n D E w.drew := ⟨h.blk, h.map.drew, h.ents, h.refs, h.lo⟩

theorem atKey_has {k : Lit} (h : has D k = true) (z z' : DataW Unit) : D.atKey k z = D.atKey k z' := by
  cases D <;> try (cases h; done)
  rename_i es
  obtain ⟨p, hp, hpk⟩ := List.any_eq_true.1 h
  have hs : (es.find? (fun p => p.1.sameKey k)).isSome = true := List.find?_isSome.2 ⟨p, hp, hpk⟩
  obtain ⟨x, hx⟩ := Option.isSome_iff_exists.1 hs
  simp [DataW.atKey, hx]

theorem look_at (h : StAt B b mb n D E w) (s : ByteArray) (hs : s.size ≤ maxLen) :
    ∃ p, ptrD p = D.atKey (bkey s) (.agg []) ∧ ∀ W, W.ownsMap Tryd.prog 9 ptrElem mb n D →
      (Instr.lookup 98 (.map (some mb)) (.string s) true).run Tryd.prog W = .ok (.tuple #[ptrV p, .bool (has D (bkey s))]) W := by
  have one : ∀ W, W.ownsMap Tryd.prog 9 ptrElem mb n D → ∃ p, ptrD p = D.atKey (bkey s) (.agg []) ∧
      (Instr.lookup 98 (.map (some mb)) (.string s) true).run Tryd.prog W = .ok (.tuple #[ptrV p, .bool (has D (bkey s))]) W := fun W hW => by
    obtain ⟨v, ps, hrun, hR⟩ := hW.look_ok str_keyed Tryd.underlying98 (zero_run W) (ptrElem_mk none) (key_of s hs)
    obtain ⟨p, rfl, hz⟩ := ptrElem_inv hR
    simp only [Prod.mk.injEq] at hz
    exact ⟨p, hz.1.symm, hrun⟩
  obtain ⟨p, hp, _⟩ := one w h.map
  refine ⟨p, hp, fun W hW => ?_⟩
  obtain ⟨q, hq, hrun⟩ := one W hW
  obtain rfl := ptrD_inj (hq.trans hp.symm)
  exact hrun
/-- A look-up of a name that is there. -/
theorem look_yes (h : StAt B b mb n D E w) {s : ByteArray} (hs : s.size ≤ maxLen) (hh : has D (bkey s) = true) :
    ∃ eb x, leads D s eb ∧ E eb = some x ∧ ∀ W, W.ownsMap Tryd.prog 9 ptrElem mb n D →
      (Instr.lookup 98 (.map (some mb)) (.string s) true).run Tryd.prog W = .ok (.tuple #[.pointer (some ⟨eb, 0, none⟩), .bool true]) W := by
  obtain ⟨p, hp, hl⟩ := look_at h s hs
  obtain ⟨eb, x, ha, he⟩ := h.refs _ hh
  rw [ha] at hp
  obtain rfl := ptrD_inj hp
  rw [hh] at hl
  exact ⟨eb, x, ⟨hh, ha⟩, he, hl⟩
theorem leads_one {s : ByteArray} {e1 e2 : Nat} (h1 : leads D s e1) (h2 : leads D s e2) : e1 = e2 := by
  have := ptrD_inj (h1.2.symm.trans h2.2)
  injection this
theorem look_no (h : StAt B b mb n D E w) {s : ByteArray} (hs : s.size ≤ maxLen) (hh : has D (bkey s) = false) :
    ∀ W, W.ownsMap Tryd.prog 9 ptrElem mb n D →
      (Instr.lookup 98 (.map (some mb)) (.string s) true).run Tryd.prog W = .ok (.tuple #[.pointer none, .bool false]) W := by
  obtain ⟨p, hp, hl⟩ := look_at h s hs
  rw [atKey_of_not_has hh] at hp
  obtain rfl : p = none := ptrD_inj hp
  rw [hh] at hl
  exact hl
end

theorem run_eql_map_some (_t : TypeId) (m : Nat) (w : World) : (binOp .eql 98 (.map (some m)) (.map none)).run Tryd.prog w = .ok (.bool false) w := by kernel_rfl

/-- The world is as it was. -/
abbrev Says (v : Value) (w : World) (e : Ending) (w' : World) : Prop := e = .returned v ∧ w = w'
abbrev Makes (v : Value) (w : World) (e : Ending) (w' : World) : Prop := e = .returned v ∧ Below w.heap.size w w'

theorem isNone_any {b mb : Nat} {w : World} (hc : w.cell? ⟨b, 0, none⟩ = some (.map (some mb))) : Calls Tryd.prog 71 #[.pointer (some ⟨b, 0, none⟩)] w (Says (.bool false) w) := by
  have hm := run_eql_map_some 98 mb
  go_enter Tryd.func71, Tryd.ntmps71
  go_wp2_with fail
  go_ret
  exact ⟨rfl, rfl⟩

/-- Who is asked for a name, and for what else must be right. -/
theorem refusal_fit {b mb : Nat} (s : ByteArray) {w : World} (hc : w.cell? ⟨b, 0, none⟩ = some (.map (some mb))) :
    Calls Tryd.prog 65 #[.pointer (some ⟨b, 0, none⟩), .string s, .bool true] w (Makes (.int .i64 (nameErr s)) w) := by
  have HN := Lib.hid (isNone_any hc)
  have HC := Lib.hid (canBe_any s w)
  unfold nameErr
  cases hn : nameB s
  all_goals
    rw [hn] at HC
    clear hn
    go_enter Tryd.func65, Tryd.ntmps65
    go_wp2_with fail
    refine (HN.out).mono ?_
    rintro e w1 ⟨rfl, rfl⟩
    go_wp2_with fail
    refine (HC.out).mono ?_
    rintro e w2 ⟨rfl, hb⟩
    go_wp2_with fail
    go_ret
    exact ⟨rfl, hb⟩
theorem refusal_unfit {b mb : Nat} (s : ByteArray) {w : World} (hc : w.cell? ⟨b, 0, none⟩ = some (.map (some mb))) :
    Calls Tryd.prog 65 #[.pointer (some ⟨b, 0, none⟩), .string s, .bool false] w (Says (.int .i64 1) w) := by
  have HN := Lib.hid (isNone_any hc)
  go_enter Tryd.func65, Tryd.ntmps65
  go_wp2_with fail
  refine (HN.out).mono ?_
  rintro e w1 ⟨rfl, rfl⟩
  go_wp2_with fail
  go_ret
  exact ⟨rfl, rfl⟩

section
variable {B b mb n : Nat} {D : DataW Unit} {E : Nat → Option Ent} {w : World}
/-- Is there room for a name? -/
def roomB (D : DataW Unit) (s : ByteArray) : Bool := has D (bkey s) || decide (Maps.size D < 500)
theorem hasRoom_any (h : StAt B b mb n D E w) (s : ByteArray) (hs : s.size ≤ maxLen) : Calls Tryd.prog 74 #[.pointer (some ⟨b, 0, none⟩), .string s] w (Says (.bool (roomB D s)) w) := by
  have hc := h.cell
  unfold roomB
  cases hh : has D (bkey s) with
  | true =>
    obtain ⟨eb, x, _, _, hl⟩ := look_yes h hs hh
    have h1 := hl w h.map
    clear hl hh
    go_enter Tryd.func74, Tryd.ntmps74
    go_wp2_with fail
    go_ret
    exact ⟨rfl, rfl⟩
  | false =>
    have h1 := look_no h hs hh w h.map
    have hlen := fun ty => h.map.len Tryd.underlying98 ty
    obtain ⟨q, hq⟩ : ∃ q, decide (Maps.size D < 500) = q := ⟨_, rfl⟩
    have hq2 : decide ((Maps.size D : Int) < 500) = q := by rw [← hq]; exact decide_eq_decide.2 (by omega)
    rw [hq]
    clear hh hq
    go_enter Tryd.func74, Tryd.ntmps74
    go_wp2_with fail
    go_ret
    exact ⟨rfl, rfl⟩
end
end Go.Proofs.YtkocgedliakclaaDoor
