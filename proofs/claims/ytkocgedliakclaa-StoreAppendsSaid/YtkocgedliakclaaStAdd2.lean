/- Add, to a macro that is there. -/
import Derived.Test.YtkocgedliakclaaStAdd
namespace Go.Proofs.Ytkocgedliakclaa
open Go.RowKit Go.PlainAid Go.Maps Go.Shelf

theorem wpList_lines {W : World} {ops : Array Oper} {rest : List Oper} {o : Oper} {a : Act} {Q : Exit → Act → World → Prop} (hgd : o.guard = none) (sl x : Operand)
    (ho : o.op = .call { callee := .builtin .append, args := #[sl, x], argTypes := #[23, 23] }) (hty : o.type = 23)
    {S T : Nat → Prop} {v1 v2 : Value} {l1 l2 : List LineC} (hs : a.eval sl = v1) (hx : a.eval x = v2) (h1 : OwnS S v1 l1 W) (h2 : OwnS T v2 l2 W) (hd : ∀ k, T k → v1.ownBlock ≠ some k) (hlen : l1.length + l2.length ≤ 2000)
    (h : ∀ la lc w', W.grownBy w' v1.ownBlock → OwnS (fun k => S k ∨ T k ∨ k = W.heap.size) (.slice la (l1.length + l2.length) lc) (l1 ++ l2) w' → wpList Try.prog ops Q rest (a.put o.dst (.slice la (l1.length + l2.length) lc)) w') : wpList Try.prog ops Q (o :: rest) a W := by
  obtain ⟨v', w', hrun, hg, hO⟩ := app_own h1 h2 hd hlen
  have hf : ∃ la lc, v' = .slice la (l1.length + l2.length) lc := by
    rcases hO with ⟨rfl, e⟩ | ⟨g, cap, _, rfl, _⟩
    · have := congrArg List.length e
      rw [List.length_append] at this
      exact ⟨none, 0, by rw [this]; rfl⟩
    · exact ⟨_, cap, by rw [List.length_append]⟩
  obtain ⟨la, lc, rfl⟩ := hf
  refine wpList_plain hgd fun K hK => ?_
  unfold Oper.wp
  simp [execOp, ho, hty, resolve, invoke, builtin, hs, hx, hrun, Result.andThen]
  exact hK _ _ (h la lc w' hg hO)
theorem field_lines (a b c : Value) (w : World) : (Instr.field 53 (.agg #[a, b, c]) 2).run Try.prog w = .ok c w := by kernel_rfl
theorem OwnS.stay {S : Nat → Prop} {v : Value} {l : List LineC} {w w' : World} (h : OwnS S v l w) (hs : ∀ k, S k → k < w.heap.size → w'.heap[k]? = w.heap[k]?) : OwnS S v l w' := by
  rcases h with ⟨rfl, rfl⟩ | ⟨g, cap, cur, rfl, hg, hh, h3, h4, h5, h6⟩
  · exact .inl ⟨rfl, rfl⟩
  · have hlt := (Array.getElem?_eq_some_iff.1 hh).1
    refine .inr ⟨g, cap, cur, rfl, hg, by rw [hs g hg hlt]; exact hh, h3, h4, h5, fun i hi => ?_⟩
    obtain ⟨u, hu⟩ := h6 i hi
    refine ⟨u, hu.moved (fun k _ => ?_) fun k off hk => ?_⟩
    · simp [World.cell?, hs g hg hlt]
    · simp [World.cell?, hs k hk.1.1 hk.2]
theorem OwnS.mono {S T : Nat → Prop} {v : Value} {l : List LineC} {w : World} (h : OwnS S v l w) (hs : ∀ k, S k → T k) : OwnS T v l w := by
  rcases h with ⟨rfl, rfl⟩ | ⟨g, cap, cur, rfl, hg, hh, h3, h4, h5, h6⟩
  · exact .inl ⟨rfl, rfl⟩
  · refine .inr ⟨g, cap, cur, rfl, hs g hg, hh, h3, h4, h5, fun i hi => ?_⟩
    obtain ⟨u, hu⟩ := h6 i hi
    exact ⟨u, hu.mono fun k hk => ⟨hs k hk.1, hk.2⟩⟩
theorem OwnS.block {S : Nat → Prop} {v : Value} {l : List LineC} {w : World} (h : OwnS S v l w) {k : Nat} (hk : v.ownBlock = some k) : S k := by
  rcases h with ⟨rfl, rfl⟩ | ⟨g, cap, cur, rfl, hg, _⟩
  · cases hk
  · injection hk with hk
    exact (show g = k from hk) ▸ hg
theorem grown_low {B : Nat} {w w' : World} {row : Option Nat} (hg : w.grownBy w' row) (h : ∀ k, row = some k → B ≤ k) (hB : B ≤ w.heap.size) : Below B w w' :=
  ⟨hg.os, hg.tape, hg.output, hg.size, fun k hk => hg.block k (by omega) (fun e => by have := h k e.symm; omega)⟩
theorem OwnLines.own {B : Nat} {v : Value} {l : List LineC} {w : World} (h : OwnLines B v l w) : OwnS (B ≤ ·) v l w := h

section
variable {B b mb n : Nat} {D : DataW Unit} {E : Nat → Option Ent} {w : World}
/-- Blocks that are none of the store's. -/
structure Aloof (b mb : Nat) (E : Nat → Option Ent) (k : Nat) : Prop where
  b : k ≠ b
  mb : k ≠ mb
  ents : ∀ eb x, E eb = some x → k ≠ eb
theorem StAt.aside (h : StAt B b mb n D E w) {w' : World} {row : Option Nat} (hg : w.grownBy w' row) (hr : ∀ k, row = some k → Aloof b mb E k) : StAt B b mb n D E w' :=
  ⟨by rw [hg.block b h.lt (fun e => (hr b e.symm).b rfl)]; exact h.blk, h.map.kept hg (fun e => (hr mb e.symm).mb rfl),
   fun eb x he => ⟨(h.ents eb x he).1, by rw [hg.block eb (h.elt he) (fun e => (hr eb e.symm).ents eb x he rfl)]; exact (h.ents eb x he).2⟩, h.refs, h.lo⟩
def AddP (B b mb n : Nat) (D : DataW Unit) (E : Nat → Option Ent) (eb : Nat) (S : Nat → Prop) (l : List LineC) (w : World) (e : Ending) (w' : World) : Prop :=
  e = .returned (.int .i64 0) ∧ ∃ la lc, StAt B b mb n D (upd E eb ⟨2, ⟨#[]⟩, la, l.length, lc⟩) w' ∧ Below B w w' ∧ OwnS (fun k => S k ∨ w.heap.size ≤ k) (.slice la l.length lc) l w'
set_option maxRecDepth 100000 in
set_option maxHeartbeats 2000000 in
theorem add_old (h : StAt B b mb n D E w) (s : ByteArray) (hn : nameErr s = 0) {eb : Nat} {t : ByteArray} {la : Option Addr} {lc : Nat} {l1 : List LineC} (hl : leads D s eb) (he : E eb = some ⟨2, t, la, l1.length, lc⟩)
    {S : Nat → Prop} (hO1 : OwnS S (.slice la l1.length lc) l1 w) (hS : ∀ k, S k → B ≤ k ∧ k < w.heap.size ∧ Aloof b mb E k) (ao : Option Addr) (c : Nat) (l2 : List LineC)
    (hr : LinesRd (· < w.heap.size) (.slice ao l2.length c) l2 w) (hf : Fit l2) (hc : linesC l2 = true) (hlen : l1.length + l2.length ≤ 2000) :
    Calls Try.prog 13 #[.pointer (some ⟨b, 0, none⟩), .string s, .slice ao l2.length c] w (AddP B b mb n D E eb S (l1 ++ l2) w) := by
  have hm := nameErr_max hn
  obtain ⟨X, hX, hXc⟩ := heads_of hr hf.texts
  have HA := Lib.hid (areLines_any ao l2.length c X w (by unfold maxLen; omega) hX)
  rw [hXc, hc] at HA
  have HS := Lib.hid h
  have HR := Lib.hid hr
  have HN := Lib.hid hn
  have HL := Lib.hid hl
  have HE := Lib.hid he
  have HO1 := Lib.hid hO1
  have HSS := Lib.hid hS
  have HFl := Lib.hid field_lines
  have HBw : B ≤ w.heap.size := Nat.le_trans h.lo.1 (Nat.le_of_lt h.lt)
  clear hX hXc hc h hr hn hl he hO1 hS
  go_enter Try.func13, Try.ntmps13
  go_wp2_with fail
  refine (HA.out).mono ?_
  rintro e w1 ⟨rfl, hb1⟩
  have HRf := Lib.hid (refusal_fit s (HS.out.below hb1).cell)
  rw [HN.out] at HRf
  go_wp2_with fail
  refine (HRf.out).mono ?_
  rintro e w2 ⟨rfl, hb2⟩
  have hb12 := hb1.trans (Below.mono hb2 hb1.size)
  have HT := Lib.hid (at_yes (HS.out.below hb12) hm HL.out HE.out)
  have HB := Lib.hid hb12
  clear hb1 hb2 hb12 HA HRf
  go_wp2_with fail
  refine (HT.out).mono ?_
  rintro e w3 ⟨rfl, hb3⟩
  have hb13 := HB.out.trans (Below.mono hb3 HB.out.size)
  have HC := Lib.hid (copied_any ao c l2 w3 ((HR.out.stay (Stay.below hb13 fun _ h => h)).mono fun k hk => Nat.lt_of_lt_of_le hk hb13.size) hf)
  have HB3 := Lib.hid hb13
  have hfl := HFl.out
  clear hb3 hb13 HB HT
  go_wp2_with fail
  refine (HC.out).mono ?_
  rintro e w4 ⟨v4, rfl, hb4, hO4⟩
  obtain ⟨la4, lc4, rfl⟩ := hO4.form
  have hb14 := HB3.out.trans (Below.mono hb4 HB3.out.size)
  have hs3 := HB3.out.size
  have HB4 := Lib.hid hb14
  have HP1 := Lib.hid (HO1.out.stay fun k hk hlt => hb14.block k hlt)
  have HP2 := Lib.hid hO4.own
  have HD := Lib.hid (show ∀ k, w3.heap.size ≤ k → (Value.slice la l1.length lc).ownBlock ≠ some k from fun k hk e => by have := (HSS.out k (HO1.out.block e)).2.1; omega)
  clear hb4 hO4 hb14 HC HB3 HR
  go_wp2_with (at_builtin; refine wpList_lines rfl _ _ rfl rfl rfl rfl HP1.out HP2.out HD.out hlen ?_)
  intro la5 lc5 w5 hg5 hO5
  have hS5 := (HS.out.below HB4.out).aside hg5 fun k hk => (HSS.out k (HO1.out.block hk)).2.2
  have HP := Lib.hid (put_old hS5 hm ⟨2, ⟨#[]⟩, la5, l1.length + l2.length, lc5⟩ HL.out HE.out)
  have HB5 := Lib.hid ((HB4.out.mono HBw).trans (grown_low hg5 (fun k hk => (HSS.out k (HO1.out.block hk)).1) (Nat.le_trans HBw HB4.out.size)))
  have HO5 := Lib.hid hO5
  clear hg5 hO5 hS5 HP1 HP2 HD
  go_wp2_with fail
  refine (HP.out).mono ?_
  rintro e w6 ⟨rfl, hS6, hg6⟩
  go_wp2_with fail
  go_ret
  have hs4 := HB4.out.size
  have hO := HO5.out.mono (T := fun k => S k ∨ w.heap.size ≤ k) fun k hk => by
    rcases hk with h | h | h
    · exact .inl h
    · exact .inr (Nat.le_trans hs3 h)
    · exact .inr (by omega)
  have hO6 := hO.stay (w' := w6) fun k hk hlt => hg6.block k hlt (fun e => by
    injection e with e
    rcases hk with h | h
    · exact (HSS.out k h).2.2.ents _ _ HE.out e
    · have := HS.out.elt HE.out; omega)
  have hle : l1.length + l2.length = (l1 ++ l2).length := by rw [List.length_append]
  rw [hle] at hS6 hO6
  exact ⟨rfl, la5, lc5, hS6, HB5.out.trans (grown_low hg6 (fun k hk => by injection hk with hk; rw [← hk]; exact (HS.out.ents _ _ HE.out).1) (Nat.le_trans HBw HB5.out.size)), hO6⟩
end
end Go.Proofs.Ytkocgedliakclaa
