/- A frame is put on top. -/
import Derived.Test.YtkocgedliakclaaDoorSoPush
namespace Go.Proofs.YtkocgedliakclaaDoor
open Go.RowKit Go.PlainAid Go.Maps Go.Shelf

theorem enters_stays (args : Array Value) (w : World) : (callFunc 47 args).run Tryd.prog w = .ok (.enter 47 args) w := by kernel_rfl
theorem enters_unread (args : Array Value) (w : World) : (callFunc 39 args).run Tryd.prog w = .ok (.enter 39 args) w := by kernel_rfl
theorem enters_macro (args : Array Value) (w : World) : (callFunc 33 args).run Tryd.prog w = .ok (.enter 33 args) w := by kernel_rfl
theorem enters_file (args : Array Value) (w : World) : (callFunc 31 args).run Tryd.prog w = .ok (.enter 31 args) w := by kernel_rfl
theorem enters_named (args : Array Value) (w : World) : (callFunc 32 args).run Tryd.prog w = .ok (.enter 32 args) w := by kernel_rfl

/-- What topmost tells, as how many frames stay. -/
def TopN (p : FrC → Bool) (F : List FrC) (w : World) (e : Ending) (w' : World) : Prop :=
  Below w.heap.size w w' ∧ ∃ (n : Nat) (q : Option Addr), e = .returned (.tuple #[.int .i64 ((n : Int) - 1), .pointer q]) ∧ n ≤ F.length ∧ F.take n = upTo p F
theorem topN {v : Value} {p : FrC → Bool} {F : List FrC} {w : World} {e : Ending} {w' : World} (h : TopP v p F w e w') : TopN p F w e w' := by
  obtain ⟨hb, ⟨i, g, c, f, h1, h2, h3, _, rfl⟩ | ⟨h1, rfl⟩⟩ := h
  · refine ⟨hb, i + 1, _, by rw [show ((i + 1 : Nat) : Int) - 1 = (i : Int) from by omega], (List.getElem?_eq_some_iff.1 h1).1, (upTo_at h1 h2 h3).symm⟩
  · exact ⟨hb, 0, none, rfl, Nat.zero_le _, (upTo_none h1).symm⟩

set_option maxRecDepth 100000 in
/-- An append of one frame, as a step of a region that draws. -/
theorem step_frame {W : World} {ops : Array Oper} {o : Oper} {a : Act} {K : Act → World → Prop} {Q : Exit → Act → World → Prop} {E : Prop} (hgd : o.guard = none) (s x : Operand)
    (ho : o.op = .call { callee := .builtin .append, args := #[s, x], argTypes := #[31, 31] }) (hty : o.type = 31)
    {n : Nat} {v : Value} {xs news : List Value} (hs : a.eval s = v) (ad : Addr) (hx : a.eval x = .slice (some ad) 1 1) (hown : W.ownsRow 0 64 5 v n xs) (hl : news.length = 1 * 5) (hnews : ∀ j u, news[j]? = some u → W.cell? (ad.add j) = some u) (h1 : ∀ u ∈ news, u.oneCell' = true) (hn : n + 1 ≤ 51)
    (h : ∀ v' w', w'.ownsRow 0 64 5 v' (n + 1) (xs ++ news) → W.grownBy w' v.ownBlock → (v'.ownBlock = v.ownBlock ∨ v'.ownBlock = some W.heap.size) → K (a.put o.dst v') w') : if Region.wanted o (yielded ops a.tmps) = true then Oper.wp Tryd.prog o a W K Q else E := by
  have hw : Region.wanted o (yielded ops a.tmps) = true := by simp [Region.wanted, hgd]
  rw [if_pos hw]
  obtain ⟨v', w', hrun, h2, h3, h4⟩ := app_frames (c := 1) hown ad hl hnews h1 (Nat.le_trans hn (by decide)) (Nat.zero_le _)
  unfold Oper.wp
  simp [execOp, ho, hty, resolve, invoke, builtin, hs, hx, hrun, Result.andThen]
  exact h v' w' h2 h3 h4

theorem own_below {B n size : Nat} {t : TypeId} {v : Value} {xs : List Value} {w w' : World} (h : w.ownsRow B t size v n xs) (hb : Below w.heap.size w w') : w'.ownsRow B t size v n xs := by
  refine ⟨h.1, ?_⟩
  rcases h.2 with h | ⟨g, cap, cur, h1, h2, h3, h4⟩
  · exact .inl h
  · exact .inr ⟨g, cap, cur, h1, h2, by rw [hb.block g (Array.getElem?_eq_some_iff.1 h3).1]; exact h3, h4⟩
theorem own_form {B n size : Nat} {t : TypeId} {v : Value} {xs : List Value} {w : World} (h : w.ownsRow B t size v n xs) : ∃ ao c, v = .slice ao n c := by
  rcases h.2 with ⟨rfl, rfl⟩ | ⟨g, cap, cur, rfl, _⟩
  · exact ⟨_, _, rfl⟩
  · exact ⟨_, _, rfl⟩
theorem below_dalloc (w : World) (o : Obj) : Below w.heap.size w (w.drew.alloc o) := by
  have h := (Below.refl w.heap.size w.drew).alloc (Nat.le_refl _) o
  exact ⟨h.os, h.tape, h.output, h.size, h.block⟩
theorem new_cells {X : World} {n : Nat} (hn : X.heap.size = n) (news : List Value) (T : TypeId) : ∀ j u, news[j]? = some u → (X.alloc (.cells news.toArray T)).cell? ((⟨n, 0, none⟩ : Addr).add j) = some u := by
  intro j u hj
  rw [Go.WideShapes.add_plain]
  unfold World.cell?
  rw [← hn]
  have := heap_alloc_new X (.cells news.toArray T)
  rw [this]
  simpa using hj

section
variable {B b : Nat} {S : Nat → Prop} {v : Value} {F : List FrC} {w : World}
/-- What does not lie in S is as it was. -/
def Off (S : Nat → Prop) (w w' : World) : Prop := ∀ k, k < w.heap.size → ¬ S k → w'.heap[k]? = w.heap[k]?
theorem Off.trans {S : Nat → Prop} {w w1 w2 : World} (h : Off S w w1) (hs : w.heap.size ≤ w1.heap.size) (k : Off S w1 w2) : Off S w w2 := fun j hj hn => (k j (Nat.lt_of_lt_of_le hj hs) hn).trans (h j hj hn)
theorem off_below {S : Nat → Prop} {w w' : World} (h : Below w.heap.size w w') : Off S w w' := fun k hk _ => h.block k hk
theorem SkAt.off (h : SkAt B S b v F w) {w' : World} (hk : Keep b v w w') : Off S w w' := fun k hk' hn => hk k hk' (fun e => hn (e ▸ h.sb)) (fun e => hn (h.bS e).1)
def PutP (B : Nat) (S : Nat → Prop) (b : Nat) (z : Int) (F : List FrC) (w : World) (e : Ending) (w' : World) : Prop :=
  e = .returned (.int .i64 z) ∧ ∃ v', SkAt B S b v' F w' ∧ Below B w w' ∧ Off S w w'
set_option maxRecDepth 100000 in
set_option maxHeartbeats 4000000 in
theorem skPut_full (h : SkAt B S b v F w) (f : FrC) (la : Option Addr) (lc : Nat) (aa : Option Addr) (ac : Nat) (hfull : (upTo staysB F).length = 50) :
    Calls Tryd.prog 36 #[.pointer (some ⟨b, 0, none⟩), .agg #[.int .i64 f.kind, .string f.name, .slice la f.lines.length lc, .int .i64 f.next, .slice aa f.args.length ac], .bool true] w (PutP B S b 2 (upTo staysB F) w) := by
  have h1 := h.alloc (.cells #[.int .i64 f.kind, .string f.name, .slice la f.lines.length lc, .int .i64 f.next, .slice aa f.args.length ac] 64)
  have hB0 : Below w.heap.size w (w.alloc (.cells #[.int .i64 f.kind, .string f.name, .slice la f.lines.length lc, .int .i64 f.next, .slice aa f.args.length ac] 64)) := (Below.refl _ _).alloc (Nat.le_refl _) _
  have HN := Lib.hid (skNone_any h1.cell0)
  have HT := Lib.hid ((topmost_any h1 47 staysB stays_tells enters_stays).mono fun e w' hh => topN hh)
  have HS := Lib.hid h1
  have hBw : B ≤ w.heap.size := Nat.le_trans (h.lo _ h.sb) (Nat.le_of_lt h.lt)
  have HB0 := Lib.hid hB0
  have HF := Lib.hid hfull
  have hl50 := h.len
  clear h h1 hB0 hfull
  go_enter Tryd.func36, Tryd.ntmps36
  go_wp2_with fail
  refine (HN.out).mono ?_
  rintro e w1 ⟨rfl, rfl⟩
  go_wp2_with fail
  refine (HT.out).mono ?_
  rintro e w2 ⟨hb2, n, q, rfl, hn, hup⟩
  have HL := Lib.hid (leave_any (HS.out.below hb2) n hn)
  have HSO := Lib.hid (fun (w' : World) (hk : Keep b v w2 w') => (HS.out.below hb2).off hk)
  rw [hup] at HL
  have HUP := Lib.hid hup
  have HB2 := Lib.hid (HB0.out.trans (Below.mono hb2 HB0.out.size))
  have hn50 : n ≤ 50 := by omega
  clear hb2 hup HT
  go_wp2_with fail
  refine (HL.out).mono ?_
  rintro e w3 ⟨rfl, v3, _, hS3, hb3, hk3⟩
  have HB3 := Lib.hid ((HB2.out.mono hBw).trans hb3)
  have HOF := Lib.hid (Off.trans (off_below HB2.out) HB2.out.size (HSO.out _ hk3))
  have HS3 := Lib.hid hS3
  obtain ⟨ao3, c3, rfl, _, _⟩ := hS3.form
  have hc1 := hS3.cell1
  rw [HF.out] at hc1
  clear hS3 hb3 HL hk3
  go_wp2_with fail
  go_ret
  exact ⟨rfl, _, HS3.out, HB3.out, HOF.out⟩
set_option maxRecDepth 100000 in
set_option maxHeartbeats 8000000 in
theorem skPut_ok (h : SkAt B S b v F w) (f : FrC) (la : Option Addr) (lc : Nat) (aa : Option Addr) (ac : Nat) (hroom : (upTo staysB F).length < 50)
    (hf : FrVal (fun k => S k ∧ k ≠ b ∧ v.ownBlock ≠ some k ∧ k < w.heap.size) f (.slice la f.lines.length lc) (.slice aa f.args.length ac) w) (hok : FrOk f) (hS : ∀ k, w.heap.size ≤ k → S k) :
    Calls Tryd.prog 36 #[.pointer (some ⟨b, 0, none⟩), .agg #[.int .i64 f.kind, .string f.name, .slice la f.lines.length lc, .int .i64 f.next, .slice aa f.args.length ac], .bool true] w (PutP B S b 0 (upTo staysB F ++ [f]) w) := by
  have h1 := h.alloc (.cells #[.int .i64 f.kind, .string f.name, .slice la f.lines.length lc, .int .i64 f.next, .slice aa f.args.length ac] 64)
  have hB0 : Below w.heap.size w (w.alloc (.cells #[.int .i64 f.kind, .string f.name, .slice la f.lines.length lc, .int .i64 f.next, .slice aa f.args.length ac] 64)) := (Below.refl _ _).alloc (Nat.le_refl _) _
  have HN := Lib.hid (skNone_any h1.cell0)
  have HT := Lib.hid ((topmost_any h1 47 staysB stays_tells enters_stays).mono fun e w' hh => topN hh)
  have HS := Lib.hid h1
  have hBw : B ≤ w.heap.size := Nat.le_trans (h.lo _ h.sb) (Nat.le_of_lt h.lt)
  have HB0 := Lib.hid hB0
  have HF := Lib.hid hroom
  have HV := Lib.hid hf
  have HSS := Lib.hid hS
  have hl50 := h.len
  have hbl := h.lt
  have HX := Lib.hid (show (w.alloc (.cells #[.int .i64 f.kind, .string f.name, .slice la f.lines.length lc, .int .i64 f.next, .slice aa f.args.length ac] 64)).heap[w.heap.size]? = some (.cells #[.int .i64 f.kind, .string f.name, .slice la f.lines.length lc, .int .i64 f.next, .slice aa f.args.length ac] 64 (0, 0)) from heap_alloc_new w _)
  have hvb : v.ownBlock ≠ some w.heap.size := fun e => Nat.lt_irrefl _ (h.bS e).2
  clear h h1 hB0 hroom hf hS
  go_enter Tryd.func36, Tryd.ntmps36
  go_wp2_with fail
  refine (HN.out).mono ?_
  rintro e w1 ⟨rfl, rfl⟩
  go_wp2_with fail
  refine (HT.out).mono ?_
  rintro e w2 ⟨hb2, n, q, rfl, hn, hup⟩
  have HL := Lib.hid (leave_any (HS.out.below hb2) n hn)
  have HSO := Lib.hid (fun (w' : World) (hk : Keep b v w2 w') => (HS.out.below hb2).off hk)
  rw [hup] at HL
  have hn50 : n ≤ 50 := by omega
  have HB2 := Lib.hid (HB0.out.trans (Below.mono hb2 HB0.out.size))
  have HX2 := Lib.hid ((hb2.block w.heap.size (by simp)).trans HX.out)
  clear hb2 hup HT HX
  go_wp2_with fail
  refine (HL.out).mono ?_
  rintro e w3 ⟨rfl, v3, hv3, hS3, hb3, hk3⟩
  have HB3 := Lib.hid ((HB2.out.mono hBw).trans hb3)
  have HOF := Lib.hid (Off.trans (off_below HB2.out) HB2.out.size (HSO.out _ hk3))
  have HS3 := Lib.hid hS3
  have hwx : w.heap.size < w2.heap.size := (Array.getElem?_eq_some_iff.1 HX2.out).1
  have HX3 := Lib.hid ((hk3 w.heap.size hwx (by omega) hvb).trans HX2.out)
  have HV3 : Hid (FrVal (fun k => S k ∧ k ≠ b ∧ v3.ownBlock ≠ some k ∧ k < w3.heap.size) f (.slice la f.lines.length lc) (.slice aa f.args.length ac) w3) := Lib.hid (by
    refine (HV.out.stay (w' := w3) fun k off hk => ?_).mono fun k hk => ⟨hk.1, hk.2.1, by rw [hv3]; exact hk.2.2.1, Nat.lt_of_lt_of_le (Nat.lt_of_lt_of_le hk.2.2.2 HB2.out.size) hb3.size⟩
    have := (hk3 k (Nat.lt_of_lt_of_le hk.2.2.2 HB2.out.size) hk.2.1 hk.2.2.1).trans (HB2.out.block k hk.2.2.2)
    simp [World.cell?, this])
  have HSZ := Lib.hid (show w.heap.size ≤ w3.heap.size from Nat.le_trans HB2.out.size hb3.size)
  obtain ⟨ao3, c3, rfl, _, _⟩ := hS3.form
  have hc1 := hS3.cell1
  have hlt50 := HF.out
  have hne : (((upTo staysB F).length : Int) == 50) = false := by simp; omega
  obtain ⟨xs, hown⟩ := hS3.owns
  have HOWN := Lib.hid (fun (o : Obj) => own_below hown (below_dalloc w3 o))
  have HONE : Hid (∀ u ∈ ([.int .i64 f.kind, .string f.name, .slice la f.lines.length lc, .int .i64 f.next, .slice aa f.args.length ac] : List Value), u.oneCell' = true) := Lib.hid (by simp [Value.oneCell'])
  have HBK := Lib.hid hS3.blk
  have hb3l := hS3.lt
  have HNB := Lib.hid hS3.nob
  have x0 : w3.cell? ⟨w.heap.size, 0, none⟩ = some (.int .i64 f.kind) := by simp [World.cell?, HX3.out]
  have x1 : w3.cell? ⟨w.heap.size, 1, none⟩ = some (.string f.name) := by simp [World.cell?, HX3.out]
  have x2 : w3.cell? ⟨w.heap.size, 2, none⟩ = some (.slice la f.lines.length lc) := by simp [World.cell?, HX3.out]
  have x3 : w3.cell? ⟨w.heap.size, 3, none⟩ = some (.int .i64 f.next) := by simp [World.cell?, HX3.out]
  have x4 : w3.cell? ⟨w.heap.size, 4, none⟩ = some (.slice aa f.args.length ac) := by simp [World.cell?, HX3.out]
  clear hS3 hb3 HL hv3 hk3 hown
  go_wp2_with fail
  go_region_law (refine step_frame rfl (.tmp 34) (.tmp 36) rfl rfl (v := .slice ao3 (upTo staysB F).length c3) (news := [.int .i64 f.kind, .string f.name, .slice la f.lines.length lc, .int .i64 f.next, .slice aa f.args.length ac]) (by simp [Act.eval]) ⟨w3.heap.size, 0, none⟩ (by simp [Act.eval]) (HOWN.out _) rfl (new_cells (by simp) _ _) HONE.out (by omega) ?_; intro v' w' h1 h2 h3; obtain ⟨ao', c', hv'⟩ := own_form h1; subst hv'; have HP := Lib.hid (HS3.out.push (below_dalloc w3 _) (HOWN.out _) h1 h2 h3 HV3.out hok hlt50 (fun k hk => HSS.out k (Nat.le_trans HSZ.out hk))); have hbk : w'.heap[b]? = some (.cells #[.bool true, .slice ao3 (upTo staysB F).length c3] 33 (0, 0)) := (h2.block b (Nat.lt_of_lt_of_le hb3l (below_dalloc w3 _).size) (fun e => HNB.out e.symm)).trans (((below_dalloc w3 _).block b hb3l).trans HBK.out); have k1 : w'.cell? ⟨b, 1, none⟩ = some (.slice ao3 (upTo staysB F).length c3) := (by simp [World.cell?, hbk]); have k2 : w'.frozen? ⟨b, 1, none⟩ = false := (by simp [World.frozen?, hbk]); clear h1 h2 h3 hbk)
  all_goals go_wp2_with fail
  all_goals
    go_ret
    exact ⟨rfl, _, HP.out.1, HB3.out.trans HP.out.2.1, Off.trans HOF.out HSZ.out (HS3.out.off HP.out.2.2)⟩
end
end Go.Proofs.YtkocgedliakclaaDoor
