/- A store is changed: put. -/
import Derived.Test.YtkocgedliakclaaDoorStBook
namespace Go.Proofs.YtkocgedliakclaaDoor
open Go.RowKit Go.PlainAid Go.Maps

theorem grown_refl (w : World) (row : Option Nat) : w.grownBy w row := ⟨rfl, rfl, rfl, Nat.le_refl _, fun _ _ _ => rfl⟩
theorem grown_trans {a b c : World} {row : Option Nat} (h : a.grownBy b row) (k : b.grownBy c row) : a.grownBy c row :=
  ⟨k.os.trans h.os, k.tape.trans h.tape, k.output.trans h.output, Nat.le_trans h.size k.size, fun i hi hb => (k.block i (Nat.lt_of_lt_of_le hi h.size) hb).trans (h.block i hi hb)⟩
theorem grown_below {w w' : World} (h : Below w.heap.size w w') (row : Option Nat) : w.grownBy w' row := ⟨h.os, h.tape, h.output, h.size, fun k hk _ => h.block k hk⟩
theorem grown_to_below {w w' : World} {m B : Nat} (h : w.grownBy w' (some m)) (hm : B ≤ m) (hB : B ≤ w.heap.size) : Below B w w' :=
  ⟨h.os, h.tape, h.output, h.size, fun k hk => h.block k (by omega) (by simp; omega)⟩

theorem cells3 {w : World} {b : Nat} {x y z : Value} {t : TypeId} (h : w.heap[b]? = some (.cells #[x, y, z] t (0, 0))) :
    (w.cell? ⟨b, 0, none⟩ = some x ∧ w.cell? ⟨b, 1, none⟩ = some y ∧ w.cell? ⟨b, 2, none⟩ = some z) ∧ w.frozen? ⟨b, 0, none⟩ = false ∧ w.frozen? ⟨b, 1, none⟩ = false ∧ w.frozen? ⟨b, 2, none⟩ = false := by
  refine ⟨⟨?_, ?_, ?_⟩, ?_, ?_, ?_⟩ <;> simp [World.cell?, World.frozen?, h]
theorem heap_set_at {w : World} {b : Nat} {c : Array Value} {t : TypeId} {f : Nat × Nat} (h : w.heap[b]? = some (.cells c t f)) (k : Nat) (u : Value) :
    (w.setCell ⟨b, k, none⟩ u).heap[b]? = some (.cells (c.setIfInBounds k u) t f) := by
  have hlt := (Array.getElem?_eq_some_iff.1 h).1
  have h' : w.heap[b] = .cells c t f := by simpa [Array.getElem?_eq_getElem hlt] using h
  show (w.heap.modify b _)[b]? = _
  rw [Array.getElem?_eq_getElem (by simpa using hlt), Array.getElem_modify_self, h']
  rfl
theorem grown_set (w : World) (b k : Nat) (u : Value) : w.grownBy (w.setCell ⟨b, k, none⟩ u) (some b) :=
  ⟨rfl, rfl, rfl, by simp [World.setCell], fun i _ hb => Below.heap_setCell _ ⟨b, k, none⟩ _ _ (by simpa using hb)⟩
theorem set3 {w : World} {b : Nat} {x y z x' y' z' : Value} {t : TypeId} (h : w.heap[b]? = some (.cells #[x, y, z] t (0, 0))) :
    (((w.setCell ⟨b, 0, none⟩ x').setCell ⟨b, 1, none⟩ y').setCell ⟨b, 2, none⟩ z').heap[b]? = some (.cells #[x', y', z'] t (0, 0)) ∧
    w.grownBy (((w.setCell ⟨b, 0, none⟩ x').setCell ⟨b, 1, none⟩ y').setCell ⟨b, 2, none⟩ z') (some b) :=
  ⟨heap_set_at (heap_set_at (heap_set_at h 0 x') 1 y') 2 z', grown_trans (grown_trans (grown_set _ _ _ _) (grown_set _ _ _ _)) (grown_set _ _ _ _)⟩

def upd (E : Nat → Option Ent) (eb : Nat) (x : Ent) : Nat → Option Ent := fun i => if i = eb then some x else E i
theorem upd_same (E : Nat → Option Ent) (eb : Nat) (x : Ent) : upd E eb x eb = some x := if_pos rfl
theorem upd_other {E : Nat → Option Ent} {eb i : Nat} (x : Ent) (h : i ≠ eb) : upd E eb x i = E i := if_neg h
theorem bkey_key (s : ByteArray) : WideAt.IsKeyLit (bkey s) := trivial
theorem bkey_inj {a c : ByteArray} (h : bkey a = bkey c) : a = c := by
  injection h with h
  obtain ⟨a⟩ := a
  obtain ⟨c⟩ := c
  have h : a.toList = c.toList := h
  rw [Array.toList_inj.1 h]

theorem leads_put {D : DataW Unit} (hD : IsMap D) (s : ByteArray) (nb : Nat) : leads (D.put (bkey s) (ptrD (some nb))) s nb :=
  ⟨has_put_same hD (bkey_key s) _, atKey_put_same hD (bkey_key s) _ _⟩
section
variable {B b mb n : Nat} {D : DataW Unit} {E : Nat → Option Ent} {w w' : World}
theorem StAt.grown (h : StAt B b mb n D E w) {rb : Nat} (hg : w.grownBy w' (some rb)) (hr : w.heap.size ≤ rb) : StAt B b mb n D E w' :=
  h.below ⟨hg.os, hg.tape, hg.output, hg.size, fun k hk => hg.block k hk (by simp; omega)⟩
theorem StAt.set (h : StAt B b mb n D E w) {eb : Nat} {x y : Ent} (he : E eb = some y) (hg : w.grownBy w' (some eb)) (hx : w'.heap[eb]? = some (.cells #[.int .i64 x.kind, .string x.text, .slice x.la x.ln x.lc] 104 (0, 0))) :
    StAt B b mb n D (upd E eb x) w' := by
  refine ⟨by rw [hg.block b h.lt (by have := h.eneb he; simpa using fun e => this e.symm)]; exact h.blk, h.map.kept hg (by have := h.ene he; simpa using fun e => this e.symm), fun i z hi => ?_, fun k hk => ?_, h.lo⟩
  · by_cases e : i = eb
    · subst e
      rw [upd_same] at hi
      injection hi with hi
      subst hi
      exact ⟨(h.ents _ _ he).1, hx⟩
    · rw [upd_other x e] at hi
      exact ⟨(h.ents _ _ hi).1, by rw [hg.block i (h.elt hi) (by simpa using e)]; exact (h.ents _ _ hi).2⟩
  · obtain ⟨i, z, ha, hi⟩ := h.refs k hk
    by_cases e : i = eb
    · subst e; exact ⟨i, x, ha, upd_same _ _ _⟩
    · exact ⟨i, z, ha, by rw [upd_other x e]; exact hi⟩
theorem StAt.new (h : StAt B b mb n D E w) {nb n' : Nat} {x : Ent} {s : ByteArray} (hw : w'.ownsMap Tryd.prog 9 ptrElem mb n' (D.put (bkey s) (ptrD (some nb)))) (hg : w.grownBy w' (some mb))
    (hx : w'.heap[nb]? = some (.cells #[.int .i64 x.kind, .string x.text, .slice x.la x.ln x.lc] 104 (0, 0))) (hnb : w.heap.size ≤ nb) : StAt B b mb n' (D.put (bkey s) (ptrD (some nb))) (upd E nb x) w' := by
  refine ⟨by rw [hg.block b h.lt (by have := h.ne; simpa using this)]; exact h.blk, hw, fun i z hi => ?_, fun k hk => ?_, h.lo⟩
  · by_cases e : i = nb
    · subst e
      rw [upd_same] at hi
      injection hi with hi
      subst hi
      exact ⟨by have := h.lo.1; have := h.lt; omega, hx⟩
    · rw [upd_other x e] at hi
      exact ⟨(h.ents _ _ hi).1, by rw [hg.block i (h.elt hi) (by have := h.ene hi; simpa using this)]; exact (h.ents _ _ hi).2⟩
  · by_cases e : k = bkey s
    · subst e
      exact ⟨nb, x, atKey_put_same h.map.isMap (bkey_key s) _ _, upd_same _ _ _⟩
    · rw [has_put_other e] at hk
      obtain ⟨i, z, ha, hi⟩ := h.refs k hk
      exact ⟨i, z, by rw [atKey_put_other e]; exact ha, by rw [upd_other x (by have := h.elt hi; omega)]; exact hi⟩

def PutOldP (B b mb n : Nat) (D : DataW Unit) (E : Nat → Option Ent) (eb : Nat) (x : Ent) (w : World) (e : Ending) (w' : World) : Prop :=
  e = .returned (.int .i64 0) ∧ StAt B b mb n D (upd E eb x) w' ∧ w.grownBy w' (some eb)
def PutNewP (B b mb n : Nat) (D : DataW Unit) (E : Nat → Option Ent) (s : ByteArray) (x : Ent) (w : World) (e : Ending) (w' : World) : Prop :=
  e = .returned (.int .i64 0) ∧ ∃ nb, w.heap.size ≤ nb ∧ StAt B b mb (n + 1) (D.put (bkey s) (ptrD (some nb))) (upd E nb x) w' ∧ w.grownBy w' (some mb)

set_option maxRecDepth 100000 in
set_option maxHeartbeats 1000000 in
theorem put_full (h : StAt B b mb n D E w) (s : ByteArray) (hs : s.size ≤ maxLen) (x : Ent) (hr : roomB D s = false) :
    Calls Tryd.prog 67 #[.pointer (some ⟨b, 0, none⟩), .string s, entV x] w (Makes (.int .i64 9) w) := by
  have HR := Lib.hid (hasRoom_any (h.alloc (entO x)) s hs)
  rw [hr] at HR
  clear hr
  go_enter Tryd.func67, Tryd.ntmps67
  go_wp2_with fail
  refine (HR.out).mono ?_
  rintro e w1 ⟨rfl, rfl⟩
  go_wp2_with fail
  go_ret
  exact ⟨rfl, (Below.refl _ _).alloc (Nat.le_refl _) _⟩

set_option maxRecDepth 100000 in
set_option maxHeartbeats 1000000 in
theorem put_old (h : StAt B b mb n D E w) {s : ByteArray} (hs : s.size ≤ maxLen) (x : Ent) {eb : Nat} {y : Ent} (hl : leads D s eb) (he : E eb = some y) :
    Calls Tryd.prog 67 #[.pointer (some ⟨b, 0, none⟩), .string s, entV x] w (PutOldP B b mb n D E eb x w) := by
  have ha := h.alloc (entO x)
  have HR := Lib.hid (hasRoom_any ha s hs)
  have hr : roomB D s = true := by unfold roomB; rw [hl.1]; rfl
  rw [hr] at HR
  have hc := ha.cell
  obtain ⟨e2, _, hl2, _, hrun⟩ := look_yes ha hs hl.1
  obtain rfl := leads_one hl hl2
  have h1 := hrun _ ha.map
  obtain ⟨⟨c0, c1, c2⟩, f0, f1, f2⟩ := cells3 (ha.ents _ _ he).2
  clear hr hrun hl2
  go_enter Tryd.func67, Tryd.ntmps67
  go_wp2_with fail
  refine (HR.out).mono ?_
  rintro e w1 ⟨rfl, rfl⟩
  go_wp2_with fail
  go_ret
  obtain ⟨hx, hg⟩ := set3 (x' := .int .i64 x.kind) (y' := .string x.text) (z' := .slice x.la x.ln x.lc) (ha.ents _ _ he).2
  have hg' : w.grownBy _ (some eb) := grown_trans (World.grownBy_alloc w (entO x) _) hg
  exact ⟨rfl, h.set he hg' hx, hg'⟩
set_option maxRecDepth 100000 in
set_option maxHeartbeats 1000000 in
theorem put_new (h : StAt B b mb n D E w) (s : ByteArray) (hs : s.size ≤ maxLen) (x : Ent) (hh : has D (bkey s) = false) (hsz : Maps.size D < 500) (hn : n < maxLen) :
    Calls Tryd.prog 67 #[.pointer (some ⟨b, 0, none⟩), .string s, entV x] w (PutNewP B b mb n D E s x w) := by
  have ha := h.alloc (entO x)
  have HR := Lib.hid (hasRoom_any ha s hs)
  have hr : roomB D s = true := by unfold roomB; rw [hh, decide_eq_true hsz]; rfl
  rw [hr] at HR
  have hc := ha.cell
  have h1 := look_no ha hs hh _ ha.map
  obtain ⟨w4, hst, hown, hg4⟩ := World.ownsMap.update (w := w.alloc (entO x)) (t := 98) ha.map str_keyed Tryd.underlying98 hn (key_of s hs) (ptrElem_mk (some w.heap.size))
  simp only [ptrV, Option.map_some] at hst
  clear hr hh
  go_enter Tryd.func67, Tryd.ntmps67
  go_wp2_with fail
  refine (HR.out).mono ?_
  rintro e w1 ⟨rfl, rfl⟩
  go_wp2_with fail
  go_ret
  have hg' : w.grownBy w4 (some mb) := grown_trans (World.grownBy_alloc w (entO x) _) hg4
  refine ⟨rfl, w.heap.size, Nat.le_refl _, h.new hown hg' ?_ (Nat.le_refl _), hg'⟩
  rw [hg4.block w.heap.size (by simp) (by have := h.mlt; simp; omega)]
  exact heap_alloc_new _ _
end
end Go.Proofs.YtkocgedliakclaaDoor
