/- A deed done to both books gives the same answer, and leaves the same registers. -/
import Derived.Test.YtopgbbkndkincaaGreatDoorRdAsked
import Derived.Test.YtopgbbkndkincaaGreatDoorRgForm
namespace Go.Proofs.YtopgbbkndkincaaGreatDoor
open Go.RowKit Go.PlainAid Go.Maps

/-- What a deed makes of both books. -/
structure Pair (B b mb n x : Nat) (D : DataW Unit) (l : List Row) (fp fr : FuncId) (ap ar : Array Value) (ans : Value) (n' : Nat) (D' : DataW Unit) (l' : List Row) : Prop where
  p : ∀ W, BookAt b mb n D W → Calls Tryz.prog fp ap W (TurnP b mb n' D' ans W)
  r : ∀ W v, RefAt B x v l W → Calls Tryz.prog fr ar W (KeepP B x v l' ans W)
  sm : Same D' l'
  hn : n' ≤ n + 1
  hl : l'.length ≤ l.length + 1
theorem turn_err {b mb n : Nat} {D : DataW Unit} {w w' : World} {k : Int} {e : Ending} (hB : BookAt b mb n D w) (h : SaysErr k w e w') : TurnP b mb n D (.int .i64 k) w e w' := turn_same hB h
section
variable {B b mb n x : Nat} {D : DataW Unit} {l : List Row} {fp fr : FuncId} {ap ar : Array Value} {nm : ByteArray}
theorem chg_pair (sm : Same D l) (hD : IsMap D) (hsz : Maps.size D < 500) (hl : l.length < 500) {err : Int} {u : Row → Row} {g : Reg → Reg}
    (hu : ∀ q, (u q).name = q.name ∧ regOf (u q) = g (regOf q)) (hf : err = 0 → ∀ q, Fine q → Fine (u q))
    (pErr : ∀ W k, BookAt b mb n D W → Refused nm err k → Calls Tryz.prog fp ap W (SaysErr k W))
    (pOk : ∀ W, BookAt b mb n D W → err = 0 → nameErr nm = 0 → (has D (bkey nm) = true ∨ Maps.size D ≠ 500) → Calls Tryz.prog fp ap W (ChangedP b mb n D nm g W))
    (r : ∀ W v, RefAt B x v l W → Calls Tryz.prog fr ar W (StepP B x v (chgR nm err u l) W)) :
    ∃ k n' D' l', Pair B b mb n x D l fp fr ap ar (.int .i64 k) n' D' l' := by
  have hr : ∀ W v, RefAt B x v l W → Calls Tryz.prog fr ar W (KeepP B x v (chgR nm err u l).1 (.int .i64 (chgR nm err u l).2) W) := fun W v h => r W v h
  rcases nameErr_ways nm with ⟨hn, _⟩ | ⟨hn, _⟩
  · by_cases he : err = 0
    · subst he
      rw [chg_ok u l hn] at hr
      have hroom : isAt (u (getR nm l)).name l = true ∨ l.length < 500 := .inr hl
      obtain ⟨m1, m2, m3, m4⟩ := put_mem sm.srt hroom
      have hs := sm.put hD (hf rfl _ (sm.fineR nm)) hroom
      have hnmr : (u (getR nm l)).name = nm := by rw [(hu _).1, getR_name]
      rw [hnmr, (hu _).2] at hs
      rw [m3] at hr
      refine ⟨0, n + 1, _, _, ⟨fun W hB => (pOk W hB rfl hn (.inr (by omega))).mono ?_, hr, hs, Nat.le_refl _, m4⟩⟩
      rintro e w' ⟨h1, q, hq, h2, h3⟩
      obtain rfl := Reg.data_inj (hq.trans (sm.reg nm).symm)
      exact ⟨h1, h2, h3⟩
    · rw [chg_err u l hn he] at hr
      exact ⟨err, n, D, l, ⟨fun W hB => (pErr W err hB (.inr ⟨hn, rfl, he⟩)).mono fun e w' h => turn_err hB h, hr, sm, by omega, by omega⟩⟩
  · have hne : nameErr nm ≠ 0 := by rw [hn]; decide
    rw [chg_name err u l hne] at hr
    exact ⟨nameErr nm, n, D, l, ⟨fun W hB => (pErr W _ hB (.inl ⟨hne, rfl⟩)).mono fun e w' h => turn_err hB h, hr, sm, by omega, by omega⟩⟩

theorem fit_yes {z : Int} (h : fitB z = true) : -1000000000 ≤ z ∧ z ≤ 1000000000 := by
  simpa [fitB] using h
theorem fit_zero {z : Int} (h : (if fitB z then (0 : Int) else 5) = 0) : fitB z = true := by
  cases hz : fitB z with
  | true => rfl
  | false => rw [hz] at h; simp at h
abbrev ptr (b : Nat) : Value := .pointer (some ⟨b, 0, none⟩)
theorem set_pair (sm : Same D l) (hD : IsMap D) (hsz : Maps.size D < 500) (hl : l.length < 500) (hn : n < maxLen) (hnm : nm.size ≤ 9223372036854775807) (z : Int) :
    ∃ k n' D' l', Pair B b mb n x D l 11 12 #[ptr b, .string nm, .int .i64 z] #[ptr x, .string nm, .int .i64 z] (.int .i64 k) n' D' l' := by
  refine chg_pair (nm := nm) (err := if fitB z then 0 else 5) (u := updV z) (g := setV z) sm hD hsz hl (fun q => ⟨rfl, rfl⟩) (fun he q hq => ?_) (fun W k hB hk => set_err hB nm hnm z (by rw [range_is]; exact hk)) (fun W hB he hn2 hr => set_ok hB nm z (by rw [range_is]; exact he) hn2 hr hn) (fun W v h => rset_any nm z (by unfold maxLen; omega) h)
  obtain ⟨h1, h2⟩ := fit_yes (fit_zero he)
  exact ⟨⟨h1, h2, hq.1.s0, hq.1.s1⟩, hq.2⟩
theorem step_pair (sm : Same D l) (hD : IsMap D) (hsz : Maps.size D < 500) (hl : l.length < 500) (hn : n < maxLen) (hnm : nm.size ≤ 9223372036854775807) (z : Int) :
    ∃ k n' D' l', Pair B b mb n x D l 13 14 #[ptr b, .string nm, .int .i64 z] #[ptr x, .string nm, .int .i64 z] (.int .i64 k) n' D' l' := by
  refine chg_pair (nm := nm) (err := if fitB z then 0 else 5) (u := updS z) (g := setS z) sm hD hsz hl (fun q => ⟨rfl, rfl⟩) (fun he q hq => ?_) (fun W k hB hk => step_err hB nm hnm z (by rw [range_is]; exact hk)) (fun W hB he hn2 hr => step_ok hB nm z (by rw [range_is]; exact he) hn2 hr hn) (fun W v h => rstep_any nm z (by unfold maxLen; omega) h)
  obtain ⟨h1, h2⟩ := fit_yes (fit_zero he)
  exact ⟨⟨hq.1.v0, hq.1.v1, h1, h2⟩, hq.2⟩
theorem format_pair (sm : Same D l) (hD : IsMap D) (hsz : Maps.size D < 500) (hl : l.length < 500) (hn : n < maxLen) (hnm : nm.size ≤ 9223372036854775807) (z : ByteArray) (hz : z.size ≤ 9223372036854775807) :
    ∃ k n' D' l', Pair B b mb n x D l 15 16 #[ptr b, .string nm, .string z] #[ptr x, .string nm, .string z] (.int .i64 k) n' D' l' := by
  have hfe := formError_any z (by omega)
  unfold FormP formErr at hfe
  refine chg_pair (nm := nm) (err := if formB z then 0 else 4) (u := updF z) (g := setF z) sm hD hsz hl (fun q => ⟨rfl, rfl⟩) (fun he q hq => ?_) (fun W k hB hk => format_err hB nm hnm z (c := if formB z then 0 else 4) (fun w => hfe w) hk) (fun W hB he hn2 hr => format_ok2 hB nm z (fun w => by rw [← he]; exact hfe w) hn2 hr hn) (fun W v h => rformat_any nm z (by unfold maxLen; omega) (by unfold maxLen; omega) h)
  refine ⟨⟨hq.1.v0, hq.1.v1, hq.1.s0, hq.1.s1⟩, ?_⟩
  cases hb : formB z with
  | true => rfl
  | false => rw [hb] at he; simp at he

theorem move_pair (sm : Same D l) (hD : IsMap D) (hl : l.length < 500) (hn : n < maxLen) (hnm : nm.size ≤ 9223372036854775807) (fwd : Bool) :
    ∃ y k n' D' l', Pair B b mb n x D l 17 18 #[ptr b, .string nm, .bool fwd] #[ptr x, .string nm, .bool fwd] (.tuple #[.int .i64 y, .int .i64 k]) n' D' l' := by
  have hm : nm.size ≤ maxLen := by unfold maxLen; omega
  have hok := (sm.fineR nm).1
  have hr : ∀ W v, RefAt B x v l W → Calls Tryz.prog 18 #[ptr x, .string nm, .bool fwd] W (KeepP B x v (movR nm fwd l).1 (.tuple #[.int .i64 (movR nm fwd l).2.1, .int .i64 (movR nm fwd l).2.2]) W) := fun W v h => rmove_any nm fwd hm h hok
  unfold movR at hr
  rcases nameErr_ways nm with ⟨hn0, _⟩ | ⟨hn0, _⟩
  · rw [if_neg (by rw [hn0]; simp)] at hr
    cases hi : isAt nm l with
    | false =>
      rw [if_pos hi] at hr
      exact ⟨0, 0, n, D, l, ⟨fun W hB => (move_none hB nm hnm fwd hn0 (by rw [sm.isHas, hi])).mono fun e w' h => turn_same hB h, hr, sm, by omega, by omega⟩⟩
    | true =>
      rw [if_neg (by rw [hi]; simp)] at hr
      have hd := sm.reg nm
      have hfr := sm.fineR nm
      obtain ⟨q, hq⟩ : ∃ q, getR nm l = q := ⟨_, rfl⟩
      have hqn : q.name = nm := by rw [← hq, getR_name]
      rw [hq] at hr hd hok hfr
      obtain ⟨y, hy⟩ : ∃ y, (q.value + if fwd then q.step else -q.step) = y := ⟨_, rfl⟩
      rw [hy] at hr
      cases hf : fitB y with
      | false =>
        rw [if_neg (by rw [hf]; simp)] at hr
        exact ⟨0, 5, n, D, l, ⟨fun W hB => (move_no hB nm hnm fwd hn0 (by rw [sm.isHas, hi]) hd ⟨hok.v0, hok.v1⟩ ⟨hok.s0, hok.s1⟩ (by show fitB (q.value + if fwd then q.step else -q.step) = false; rw [hy]; exact hf)).mono fun e w' h => turn_same hB h, hr, sm, by omega, by omega⟩⟩
      | true =>
        rw [if_pos hf] at hr
        obtain ⟨f1, f2⟩ := fit_yes hf
        have hroom : isAt (updV y q).name l = true ∨ l.length < 500 := .inr hl
        obtain ⟨m1, m2, m3, m4⟩ := put_mem sm.srt hroom
        have hs := sm.put hD (r := updV y q) ⟨⟨f1, f2, hok.s0, hok.s1⟩, hfr.2⟩ hroom
        rw [show (updV y q).name = nm from hqn] at hs
        exact ⟨y, 0, n + 1, _, _, ⟨fun W hB => move_ok hB nm hnm fwd hn0 (by rw [sm.isHas, hi]) hd ⟨hok.v0, hok.v1⟩ ⟨hok.s0, hok.s1⟩ hy hf hn, hr, hs, Nat.le_refl _, m4⟩⟩
  · rw [if_pos (by rw [hn0]; decide)] at hr
    exact ⟨0, 6, n, D, l, ⟨fun W hB => (move_bad hB nm hnm fwd hn0).mono fun e w' h => turn_same hB h, hr, sm, by omega, by omega⟩⟩
theorem remove_pair (sm : Same D l) (hnm : nm.size ≤ 9223372036854775807) :
    ∃ k n' D' l', Pair B b mb n x D l 19 20 #[ptr b, .string nm] #[ptr x, .string nm] (.int .i64 k) n' D' l' := by
  have hm : nm.size ≤ maxLen := by unfold maxLen; omega
  rcases nameErr_ways nm with ⟨hn0, _⟩ | ⟨hn0, _⟩
  · cases hi : isAt nm l with
    | false => exact ⟨0, n, _, l, ⟨fun W hB => remove_ok hB nm hnm hn0, fun W v h => (rrem_none nm h hn0 hi).mono fun e w' hh => keep_same h hh, sm.delNo hi, by omega, by omega⟩⟩
    | true => exact ⟨0, n, _, _, ⟨fun W hB => remove_ok hB nm hnm hn0, fun W v h => (rrem_yes nm h hn0 hi).mono fun e w' ⟨h1, ⟨v', h2, h4⟩, h3⟩ => ⟨h1, ⟨v', h2, fun k e => .inr (h4 k e)⟩, h3⟩, sm.del hi, by omega, by have := (del_mem sm.srt hi).2.2; omega⟩⟩
  · have hr : ∀ W v, RefAt B x v l W → Calls Tryz.prog 20 #[ptr x, .string nm] W (KeepP B x v l (.int .i64 6) W) := fun W v h => (rrem_bad nm hm (by rw [hn0]; decide) _).mono fun e w' hh => by
      rw [hn0] at hh
      exact keep_same h hh
    exact ⟨6, n, D, l, ⟨fun W hB => (remove_bad hB nm hnm hn0).mono fun e w' h => turn_same hB h, hr, sm, by omega, by omega⟩⟩
theorem rename_pair (sm : Same D l) (hD : IsMap D) (hl : l.length < 500) (hn : n < maxLen) (hnm : nm.size ≤ 9223372036854775807) (c : ByteArray) (hc : c.size ≤ 9223372036854775807) :
    ∃ k n' D' l', Pair B b mb n x D l 21 22 #[ptr b, .string nm, .string c] #[ptr x, .string nm, .string c] (.int .i64 k) n' D' l' := by
  have hm : nm.size ≤ maxLen := by unfold maxLen; omega
  have hcm : c.size ≤ maxLen := by unfold maxLen; omega
  have hr : ∀ W v, RefAt B x v l W → Calls Tryz.prog 22 #[ptr x, .string nm, .string c] W (KeepP B x v (renR nm c l).1 (.int .i64 (renR nm c l).2) W) := fun W v h => rrename_any nm c hm hcm h
  unfold renR at hr
  rcases nameErr_ways nm with ⟨hn0, _⟩ | ⟨hn0, _⟩
  · rcases nameErr_ways c with ⟨hn1, _⟩ | ⟨hn1, _⟩
    · cases hi : isAt nm l with
      | false =>
        rw [if_pos (.inr (.inr hi))] at hr
        exact ⟨6, n, D, l, ⟨fun W hB => (rename_none hB nm c hnm hc hn0 hn1 (by rw [sm.isHas, hi])).mono fun e w' h => turn_same hB h, hr, sm, by omega, by omega⟩⟩
      | true =>
        rw [if_neg (by rw [hn0, hn1, hi]; simp)] at hr
        have hd := sm.reg nm
        by_cases e : nm = c
        · subst e
          rw [if_pos rfl] at hr
          exact ⟨0, n + 1, _, l, ⟨fun W hB => rename_ok hB nm nm hnm hnm hn0 hn0 (by rw [sm.isHas, hi]) hd hn, hr, sm.again hD hi, by omega, by omega⟩⟩
        · rw [if_neg e] at hr
          have sd := sm.del hi
          have hfr := sm.fineR nm
          have hlen := (del_mem sm.srt hi).2.2
          have hroom : isAt (⟨c, (getR nm l).value, (getR nm l).step, (getR nm l).form⟩ : Row).name (delR nm l) = true ∨ (delR nm l).length < 500 := .inr (by omega)
          obtain ⟨m1, m2, m3, m4⟩ := put_mem sd.srt hroom
          rw [m3] at hr
          have hs := sd.put (hD.del _) (r := ⟨c, (getR nm l).value, (getR nm l).step, (getR nm l).form⟩) ⟨⟨hfr.1.v0, hfr.1.v1, hfr.1.s0, hfr.1.s1⟩, hfr.2⟩ hroom
          exact ⟨0, n + 1, _, _, ⟨fun W hB => rename_ok hB nm c hnm hc hn0 hn1 (by rw [sm.isHas, hi]) hd hn, hr, hs, by omega, by omega⟩⟩
    · rw [if_pos (.inr (.inl (by rw [hn1]; decide)))] at hr
      exact ⟨6, n, D, l, ⟨fun W hB => (rename_bad2 hB nm c hnm hc hn0 hn1).mono fun e w' h => turn_same hB h, hr, sm, by omega, by omega⟩⟩
  · rw [if_pos (.inl (by rw [hn0]; decide))] at hr
    exact ⟨6, n, D, l, ⟨fun W hB => (rename_bad1 hB nm c hnm hn0).mono fun e w' h => turn_same hB h, hr, sm, by omega, by omega⟩⟩
end
end Go.Proofs.YtopgbbkndkincaaGreatDoor
