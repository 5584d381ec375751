/- The law's teller: it answers nothing, and notes what it is asked. -/
import Derived.Test.YtopgbbkndkincaaDoorExEdge
import Derived.Deep.RegionLaw
namespace Go.Proofs.YtopgbbkndkincaaDoor
open Go.RowKit Go.PlainAid Go.Lib

/-- The teller in block t, asked a times. -/
structure Told (t a : Nat) (v : Value) (xs : List Value) (W : World) : Prop where
  blk : W.heap[t]? = some (.cells #[v, .slice none 0 0] 36 (0, 0))
  row : W.ownsRow 0 52 3 v a xs
  ne : v.ownBlock ≠ some t
def toldSt (t a : Nat) (W : World) : Prop := ∃ v xs, Told t a v xs W
def toldTk (t : Nat) (W : World) (k : Nat) : Prop := k = t ∨ ∃ v u, W.heap[t]? = some (.cells #[v, u] 36 (0, 0)) ∧ v.ownBlock = some k
theorem Told.lt {t a : Nat} {v : Value} {xs : List Value} {W : World} (h : Told t a v xs W) : t < W.heap.size := (Array.getElem?_eq_some_iff.1 h.blk).1
theorem Told.tk {t a : Nat} {v : Value} {xs : List Value} {W : World} (h : Told t a v xs W) (k : Nat) : toldTk t W k ↔ k = t ∨ v.ownBlock = some k := by
  unfold toldTk
  rw [h.blk]
  constructor
  · rintro (e | ⟨v2, u2, e1, e2⟩)
    · exact .inl e
    · simp only [Option.some.injEq, Obj.cells.injEq, Array.mk.injEq, List.cons.injEq, and_true] at e1
      exact .inr (by rw [e1.1]; exact e2)
  · rintro (e | e)
    · exact .inl e
    · exact .inr ⟨v, _, rfl, e⟩
theorem told_own (t a : Nat) (W : World) (k : Nat) (h : toldSt t a W) (hk : toldTk t W k) : k < W.heap.size := by
  obtain ⟨v, xs, h⟩ := h
  rcases (h.tk k).1 hk with rfl | e
  · exact h.lt
  · exact (h.row.lt k e).2
theorem told_frame (t a : Nat) (W W' : World) (h : toldSt t a W) (_hs : W.heap.size ≤ W'.heap.size) (hk : ∀ k, toldTk t W k → W'.heap[k]? = W.heap[k]?) : toldSt t a W' ∧ ∀ k, toldTk t W' k ↔ toldTk t W k := by
  obtain ⟨v, xs, h⟩ := h
  have ht := hk t (.inl rfl)
  have h' : Told t a v xs W' := ⟨ht.trans h.blk, owns_of_block h.row fun k e => hk k ((h.tk k).2 (.inr e)), h.ne⟩
  exact ⟨⟨v, xs, h'⟩, fun k => by rw [h'.tk, h.tk]⟩

theorem ask_info : (Tryd.prog.info? 52).map (fun i => (i.zero, i.size, i.bytes)) = some (some (.agg #[.int .u8 0, .string ⟨#[]⟩, .int .i64 0]), 3, 32) := by kernel_rfl

/-- One question is put behind the others: in their own row, or in a new one. -/
theorem app_ask {n : Nat} {v : Value} {xs news : List Value} {W : World} (hown : W.ownsRow 0 52 3 v n xs) (ad : Addr) (hl : news.length = 1 * 3) (hnews : ∀ j u, news[j]? = some u → W.cell? (ad.add j) = some u) (h1 : ∀ u ∈ news, u.oneCell' = true) (hn : n + 1 ≤ 100000) :
    ∃ v' w', (Builtin.append_ #[32, 32] 32 #[v, .slice (some ad) 1 1]).run Tryd.prog W = .ok v' w' ∧ w'.ownsRow 0 52 3 v' (n + 1) (xs ++ news) ∧ W.grownBy w' v.ownBlock ∧
      (v'.ownBlock = v.ownBlock ∨ v'.ownBlock = some W.heap.size) := by
  obtain ⟨i0, hi, hz0, hz1, hz2⟩ := info_parts ask_info
  obtain ⟨v', w', hr, h3, h4, _⟩ := run_append_own (P := Tryd.prog) W 0 32 32 52 i0 _ 3 32 Tryd.underlying32 hi hz0 hz1 hz2 rfl (by omega) v n xs hown ad 1 1 news hl hnews h1 (by unfold maxLen; omega) (by omega) (Nat.zero_le _)
  refine ⟨v', w', hr, h3, h4, ?_⟩
  have hl' : news.length = 1 * i0.size := by rw [hz1]; exact hl
  rcases hown.2 with ⟨rfl, rfl⟩ | ⟨g, cap, cur, rfl, h5, h6, h7, h8, h9, h10⟩
  · right
    have := run_append_nil (P := Tryd.prog) W 32 32 52 i0 _ Tryd.underlying32 hi hz0 ad 1 1 news hl' hnews (by omega) (by omega) (by rw [hz2]; omega)
    exact (congrArg Value.ownBlock (run_val (hr.symm.trans this))).trans rfl
  · by_cases hroom : n + 1 ≤ cap
    · left
      have := run_append_room (P := Tryd.prog) W 32 32 52 i0 Tryd.underlying32 hi g n cap cur h6 ad 1 1 news hl' hnews h1 hroom (by rw [hz1]; omega)
      exact (congrArg Value.ownBlock (run_val (hr.symm.trans this))).trans rfl
    · right
      have := run_append_grow (P := Tryd.prog) W 32 32 52 i0 _ Tryd.underlying32 hi hz0 ⟨g, 0, none⟩ n cap xs (by rw [hown.1, hz1]) (hown.cells (g := g) rfl) ad 1 1 news hl' hnews (by omega) (by omega) (growslice_fits (by omega) (by rw [hz2]; omega))
      exact (congrArg Value.ownBlock (run_val (hr.symm.trans this))).trans rfl
theorem step_ask {W : World} {ops : Array Oper} {o : Oper} {a : Act} {K : Act → World → Prop} {Q : Exit → Act → World → Prop} {E : Prop} (hgd : o.guard = none) (s x : Operand)
    (ho : o.op = .call { callee := .builtin .append, args := #[s, x], argTypes := #[32, 32] }) (hty : o.type = 32)
    {n : Nat} {v : Value} {xs news : List Value} (hs : a.eval s = v) (ad : Addr) (hx : a.eval x = .slice (some ad) 1 1) (hown : W.ownsRow 0 52 3 v n xs) (hl : news.length = 1 * 3) (hnews : ∀ j u, news[j]? = some u → W.cell? (ad.add j) = some u) (h1 : ∀ u ∈ news, u.oneCell' = true) (hn : n + 1 ≤ 100000)
    (h : ∀ v' w', w'.ownsRow 0 52 3 v' (n + 1) (xs ++ news) → W.grownBy w' v.ownBlock → (v'.ownBlock = v.ownBlock ∨ v'.ownBlock = some W.heap.size) → K (a.put o.dst v') w') : if Region.wanted o (yielded ops a.tmps) = true then Oper.wp Tryd.prog o a W K Q else E := by
  have hw : Region.wanted o (yielded ops a.tmps) = true := by simp [Region.wanted, hgd]
  rw [if_pos hw]
  obtain ⟨v', w', hrun, h2, h3, h4⟩ := app_ask hown ad hl hnews h1 hn
  unfold Oper.wp
  simp [execOp, ho, hty, resolve, invoke, builtin, hs, hx, hrun, Result.andThen]
  exact h v' w' h2 h3 h4

theorem enters_look (args : Array Value) (w : World) : (callFunc 13 args).run Tryd.prog w = .ok (.enter 13 args) w := by kernel_rfl

theorem set_zero {W : World} {x : Nat} {v0 v1 u : Value} {t : TypeId} (h : W.heap[x]? = some (.cells #[v0, v1] t (0, 0))) : (W.setCell ⟨x, 0, none⟩ u).heap[x]? = some (.cells #[u, v1] t (0, 0)) := by
  have hlt := (Array.getElem?_eq_some_iff.1 h).1
  have h' : W.heap[x] = .cells #[v0, v1] t (0, 0) := by simpa [Array.getElem?_eq_getElem hlt] using h
  show (W.heap.modify x _)[x]? = _
  rw [Array.getElem?_eq_getElem (by simpa using hlt), Array.getElem_modify_self, h']
  rfl
theorem new_cells {X : World} {n : Nat} (hn : X.heap.size = n) (news : List Value) (T : TypeId) : ∀ j u, news[j]? = some u → (X.alloc (.cells news.toArray T)).cell? ((⟨n, 0, none⟩ : Addr).add j) = some u := by
  intro j u hj
  rw [Go.WideShapes.add_plain]
  unfold World.cell?
  rw [← hn]
  have := heap_alloc_new X (.cells news.toArray T)
  rw [this]
  simpa using hj
def AnswP (t a : Nat) (W : World) (e : Ending) (W' : World) : Prop := e = .returned (.string ⟨#[]⟩) ∧ toldSt t (a + 1) W' ∧ Left (toldTk t) W W'
/-- Behind the append, ahead of the store. -/
structure Behind (t a : Nat) (v v' : Value) (xs : List Value) (W w' : World) : Prop where
  row : w'.ownsRow 0 52 3 v' (a + 1) xs
  os : w'.os = W.os
  tape : w'.tape = W.tape
  output : w'.output = W.output
  size : W.heap.size ≤ w'.heap.size
  block : ∀ k, k < W.heap.size → v.ownBlock ≠ some k → w'.heap[k]? = W.heap[k]?
  own : v'.ownBlock = v.ownBlock ∨ ∃ k, v'.ownBlock = some k ∧ W.heap.size ≤ k
theorem behind {t a : Nat} {v v' : Value} {xs news : List Value} {W X w' : World} (hb : Below W.heap.size W X) (hX : W.heap.size ≤ X.heap.size) (h1 : w'.ownsRow 0 52 3 v' (a + 1) (xs ++ news)) (h2 : X.grownBy w' v.ownBlock) (h3 : v'.ownBlock = v.ownBlock ∨ v'.ownBlock = some X.heap.size) :
    Behind t a v v' (xs ++ news) W w' :=
  ⟨h1, h2.os.trans hb.os, h2.tape.trans hb.tape, h2.output.trans hb.output, Nat.le_trans hX h2.size, fun k hk hne => (h2.block k (Nat.lt_of_lt_of_le hk hX) (fun e => hne e.symm)).trans (hb.block k hk), h3.imp id fun e => ⟨_, e, hX⟩⟩
theorem told_behind {t a : Nat} {v v' : Value} {xs ys : List Value} {W w' : World} (h : Told t a v xs W) (hB : Behind t a v v' ys W w') : toldSt t (a + 1) (w'.setCell ⟨t, 0, none⟩ v') ∧ Left (toldTk t) W (w'.setCell ⟨t, 0, none⟩ v') := by
  have hlt := h.lt
  have hne := h.ne
  have ht : w'.heap[t]? = some (.cells #[v, .slice none 0 0] 36 (0, 0)) := (hB.block t hlt hne).trans h.blk
  have hn' : v'.ownBlock ≠ some t := by
    rcases hB.own with e | ⟨k, e, hk⟩
    · rw [e]; exact hne
    · rw [e]
      intro e2
      injection e2 with e2
      omega
  have h' : Told t (a + 1) v' ys (w'.setCell ⟨t, 0, none⟩ v') := ⟨set_zero ht, owns_of_block hB.row fun k e => set_other 0 (fun e2 => hn' (by rw [e, e2])), hn'⟩
  refine ⟨⟨v', ys, h'⟩, hB.os, hB.tape, hB.output, Nat.le_trans hB.size (by simp), fun k hk hkt => ?_⟩
  have hk1 : k ≠ t := fun e => hkt ((h.tk k).2 (.inl e))
  have hk2 : v.ownBlock ≠ some k := fun e => hkt ((h.tk k).2 (.inr e))
  refine ⟨(set_other 0 hk1).trans (hB.block k hk hk2), fun e => ?_⟩
  rcases (h'.tk k).1 e with e | e
  · exact hk1 e
  · rcases hB.own with e2 | ⟨j, e2, hj⟩
    · rw [e2] at e; exact hk2 e
    · rw [e2] at e
      injection e with e
      omega

set_option maxRecDepth 100000 in
set_option maxHeartbeats 4000000 in
theorem answer_any (t a : Nat) (W : World) (kind : Int) (nm : ByteArray) (st : Int) (ha : a ≤ 500) (h : toldSt t a W) : Calls Tryd.prog 23 #[.pointer (some ⟨t, 0, none⟩), .agg #[.int .u8 kind, .string nm, .int .i64 st]] W (AnswP t a W) := by
  obtain ⟨v, xs, h⟩ := h
  have hlt := h.lt
  have hc0 : W.cell? ⟨t, 0, none⟩ = some v := by unfold World.cell?; rw [h.blk]; rfl
  have hc1 : W.cell? ⟨t, 1, none⟩ = some (.slice none 0 0) := by unfold World.cell?; rw [h.blk]; rfl
  have hf : ∀ j, W.frozen? ⟨t, j, none⟩ = false := fun j => by simp [World.frozen?, h.blk]
  have HO : Hid (∀ W4, Below W.heap.size W W4 → World.ownsRow W4 0 52 3 v a xs) := fun W4 hb => owns_of_block h.row fun k e => hb.block k (h.row.lt k e).2
  have HONE : Hid (∀ u ∈ ([.int .u8 kind, .string nm, .int .i64 st] : List Value), u.oneCell' = true) := fun u hu => by
    simp only [List.mem_cons, List.not_mem_nil, or_false] at hu
    rcases hu with rfl | rfl | rfl <;> rfl
  have HBE : Hid (∀ v' w', Behind t a v v' (xs ++ [.int .u8 kind, .string nm, .int .i64 st]) W w' → w'.heap[t]? = W.heap[t]? ∧ toldSt t (a + 1) (w'.setCell ⟨t, 0, none⟩ v') ∧ Left (toldTk t) W (w'.setCell ⟨t, 0, none⟩ v')) := fun v' w' hB => ⟨hB.block t hlt h.ne, told_behind h hB⟩
  have HT := Lib.hid h.blk
  have HB1 : Hid (Below W.heap.size W ((W.alloc (.cells #[.int .u8 kind, .string nm, .int .i64 st] 52)).alloc (.cells #[.int .u8 kind, .string nm, .int .i64 st] 52))) := ((Below.refl _ _).alloc (Nat.le_refl _) _).alloc (by simp) _
  clear h
  go_enter Tryd.func23, Tryd.ntmps23
  go_wp2_with fail
  go_region_law (refine step_ask rfl (.tmp 11) (.tmp 13) rfl rfl (v := v) (news := [.int .u8 kind, .string nm, .int .i64 st]) (by simp [Act.eval]) ⟨W.heap.size + 1, 0, none⟩ (by simp [Act.eval]) (HO.out _ (by first | exact HB1.out | exact below_drewN HB1.out 1)) rfl (new_cells (by simp) _ _) HONE.out (by omega) ?_; intro v' w' h1 h2 h3; have HBD := Lib.hid (HBE.out v' w' (behind (by first | exact HB1.out | exact below_drewN HB1.out 1) (by first | (simp; done) | (simp; omega)) h1 h2 h3)); obtain ⟨ao, c, hv'⟩ := own_form h1; clear h1 h2 h3; subst hv'; have ht' := HBD.out.1.trans HT.out; have k0 : w'.cell? ⟨t, 0, none⟩ = some v := (by unfold World.cell?; rw [ht']; rfl); have k1 : w'.cell? ⟨t, 1, none⟩ = some (.slice none 0 0) := (by unfold World.cell?; rw [ht']; rfl); have kf : ∀ j, w'.frozen? ⟨t, j, none⟩ = false := (fun j => by simp [World.frozen?, ht']); clear ht')
  all_goals
    go_wp2_with fail
    go_ret
    exact ⟨rfl, HBD.out.2⟩

set_option maxRecDepth 100000 in
set_option maxHeartbeats 1000000 in
theorem look_any (t a : Nat) (W : World) (kind : Int) (nm : ByteArray) (st : Int) (ha : a ≤ 500) (h : toldSt t a W) : Calls Tryd.prog 13 #[.pointer (some ⟨t, 0, none⟩), .int .u8 kind, .string nm, .int .i64 st] W (AnswP t a W) := by
  have HA := Lib.hid (answer_any t a W kind nm st ha h)
  clear h
  go_enter Tryd.func13, Tryd.ntmps13
  go_wp2_with fail
  refine HA.out.mono ?_
  rintro e w1 ⟨rfl, h⟩
  have HH := Lib.hid h
  clear h
  go_wp2_with fail
  go_ret
  exact ⟨rfl, HH.out⟩

/-- The teller is asked. -/
def tellerA (t : Nat) : Asker where
  g := 13
  first := #[.pointer (some ⟨t, 0, none⟩)]
  r := ⟨#[]⟩
  St := toldSt t
  tk := toldTk t
  small := by decide
  enters := enters_look
  own := told_own t
  frame := told_frame t
  call := fun a W kind nm st ha h => look_any t a W kind nm st ha h

/-- Nobody who holds anything: the same answer each time. -/
theorem fixed_any (kind : Int) (nm : ByteArray) (st : Int) (W : World) : Calls Tryd.prog 16 #[.int .u8 kind, .string nm, .int .i64 st] W (Says (.string ⟨#[51]⟩) W) := by
  go_enter Tryd.func16, Tryd.ntmps16
  go_wp2_with fail
  go_ret
  exact ⟨rfl, rfl⟩
theorem enters_fixed (args : Array Value) (w : World) : (callFunc 16 args).run Tryd.prog w = .ok (.enter 16 args) w := by kernel_rfl
def fixedA : Asker where
  g := 16
  first := #[]
  r := ⟨#[51]⟩
  St := fun _ _ => True
  tk := fun _ _ => False
  small := by decide
  enters := enters_fixed
  own := fun _ _ _ _ h => h.elim
  frame := fun _ _ _ _ _ _ => ⟨trivial, fun _ => Iff.rfl⟩
  call := fun a W kind nm st _ _ => (fixed_any kind nm st W).mono fun e W' ⟨h1, h2⟩ => ⟨h1, trivial, h2 ▸ ⟨rfl, rfl, rfl, Nat.le_refl _, fun _ _ h => ⟨rfl, h⟩⟩⟩
end Go.Proofs.YtopgbbkndkincaaDoor
