/- The document's standard fonts: a glyph is put into its place. -/
import Derived.Test.YtboophfcakdlcaaFtAsW
import Derived.BigQuiet
import Derived.Deep.CutBlock
import Derived.Laws.OwnMore
import Derived.Deep.DeepCutAuto
namespace Go.Proofs.Ytboophfcakdlcaa
open Go.RowKit Go.PlainAid Go.Shelf

/-- Where a name goes among the first so many. -/
def atG (l : List Gl) (s : List UInt8) : Nat → Nat
  | 0 => 0
  | n + 1 => if ltL s l[n]!.nm then atG l s n else n + 1
theorem atG_le (l : List Gl) (s : List UInt8) : ∀ n, atG l s n ≤ n
  | 0 => Nat.le_refl _
  | n + 1 => by
    unfold atG
    split
    · exact Nat.le_succ_of_le (atG_le l s n)
    · exact Nat.le_refl _
def putG (l : List Gl) (g : Gl) : List Gl := l.take (atG l g.nm l.length) ++ [g] ++ l.drop (atG l g.nm l.length)
theorem putG_len (l : List Gl) (g : Gl) : (putG l g).length = l.length + 1 := by
  have := atG_le l g.nm l.length
  simp [putG]
  omega
section
variable {α : Type} {enc : α → List Value} {k : Nat}
theorem flat_app (xs ys : List α) : flatE enc (xs ++ ys) = flatE enc xs ++ flatE enc ys := by simp [flatE]
theorem flat_takeN (hk : ∀ x, (enc x).length = k) : ∀ (xs : List α) (p : Nat), flatE enc (xs.take p) = (flatE enc xs).take (p * k)
  | [], p => by simp [flatE]
  | x :: xs, 0 => by simp [flatE]
  | x :: xs, p + 1 => by
    have e1 : flatE enc ((x :: xs).take (p + 1)) = enc x ++ flatE enc (xs.take p) := by simp [flatE]
    have e2 : flatE enc (x :: xs) = enc x ++ flatE enc xs := by simp [flatE]
    have hkk : (enc x).length ≤ (p + 1) * k := by rw [hk, Nat.add_mul]; omega
    rw [e1, e2, flat_takeN hk xs p, List.take_append, List.take_of_length_le hkk, hk, show (p + 1) * k - k = p * k by rw [Nat.add_mul]; omega]
theorem flat_dropN (hk : ∀ x, (enc x).length = k) : ∀ (xs : List α) (p : Nat), flatE enc (xs.drop p) = (flatE enc xs).drop (p * k)
  | [], p => by simp [flatE]
  | x :: xs, 0 => by simp [flatE]
  | x :: xs, p + 1 => by
    have e1 : flatE enc ((x :: xs).drop (p + 1)) = flatE enc (xs.drop p) := by simp [flatE]
    have e2 : flatE enc (x :: xs) = enc x ++ flatE enc xs := by simp [flatE]
    have hkk : (enc x).length ≤ (p + 1) * k := by rw [hk, Nat.add_mul]; omega
    rw [e1, e2, flat_dropN hk xs p, List.drop_append, List.drop_eq_nil_of_le hkk, hk, show (p + 1) * k - k = p * k by rw [Nat.add_mul]; omega, List.nil_append]
theorem rowK_flat [Inhabited α] (hk : ∀ x, (enc x).length = k) (k0 : 0 < k) {b off : Nat} {xs : List α} {w : World} (h : RowK enc k (some ⟨b, off, none⟩) xs w) : ∀ j u, (flatE enc xs)[j]? = some u → w.cell? ⟨b, off + j, none⟩ = some u := by
  intro j u hu
  have hj : j < xs.length * k := by
    have := (List.getElem?_eq_some_iff.1 hu).1
    rwa [flat_len hk] at this
  have hq : j / k < xs.length := Nat.div_lt_of_lt_mul (by rwa [Nat.mul_comm])
  have hm : j % k < k := Nat.mod_lt _ k0
  have he : j / k * k + j % k = j := Nat.div_add_mod' j k
  obtain ⟨b', off', h1, h2⟩ := h
  obtain ⟨ha, _⟩ := h1 (Nat.lt_of_le_of_lt (Nat.zero_le _) hq)
  obtain ⟨rfl, rfl⟩ : b = b' ∧ off = off' := by have := Option.some.inj ha; simp only [Addr.mk.injEq] at this; exact ⟨this.1, this.2.1⟩
  have := h2 (j / k) hq (j % k) u (by rw [← flat_get hk xs _ _ hq hm, he]; exact hu)
  rwa [Nat.add_assoc, he] at this
end
abbrev OwnR (B : Nat) (v : Value) (xs : List Gl) (w : World) : Prop := w.ownsRow B 83 2 v xs.length (flatE encG xs)
/-- What is appended: nothing, or glyphs that lie somewhere. -/
def SrcG (W : World) (sv : Value) (ys : List Gl) : Prop := (sv = .slice none 0 0 ∧ ys = []) ∨ ∃ a c, sv = .slice (some a) ys.length c ∧ ∀ j u, (flatE encG ys)[j]? = some u → W.cell? (a.add j) = some u
theorem flatG_one (l : List Gl) : ∀ u ∈ flatE encG l, u.oneCell' = true := by
  intro u hu
  obtain ⟨r, _, hr⟩ := List.mem_flatMap.1 hu
  simp only [encG, List.mem_cons, List.not_mem_nil, or_false] at hr
  rcases hr with rfl | rfl <;> rfl
theorem appG_any {B : Nat} {v sv : Value} {xs ys : List Gl} {W : World} (hown : OwnR B v xs W) (hs : SrcG W sv ys) (hnm : xs.length + ys.length ≤ 100000) (hB : B ≤ W.heap.size) :
    ∃ v' w', (Builtin.append_ #[27, 27] 27 #[v, sv]).run Try.prog W = .ok v' w' ∧ OwnR B v' (xs ++ ys) w' ∧ W.grownBy w' v.ownBlock := by
  obtain ⟨i0, hi, hz0, hz1, hz2⟩ := info_parts rg_info
  rcases hs with ⟨rfl, rfl⟩ | ⟨a, c, rfl, h2⟩
  · refine ⟨v, W, ?_, by simpa using hown, ⟨rfl, rfl, rfl, Nat.le_refl _, fun _ _ _ => rfl⟩⟩
    exact run_append_owned_none (P := Try.prog) (w := W) B 27 27 83 i0 2 Try.underlying27 hi v xs.length (flatE encG xs) hown
  · obtain ⟨v', w', hr, ho, hg, _⟩ := run_append_own (P := Try.prog) W B 27 27 83 i0 _ 2 24 Try.underlying27 hi hz0 hz1 hz2 rfl (by omega) v xs.length (flatE encG xs) hown a ys.length c (flatE encG ys) (flat_len encG_len ys) h2 (flatG_one ys) (by unfold maxLen; omega) (by omega) hB
    refine ⟨v', w', hr, ?_, hg⟩
    unfold OwnR
    rw [flat_app, List.length_append]
    exact ho
theorem wpList_appG {W : World} {ops : Array Oper} {rest : List Oper} {o : Oper} {a : Act} {Q : Exit → Act → World → Prop} (hgd : o.guard = none) (s x : Operand)
    (ho : o.op = .call { callee := .builtin .append, args := #[s, x], argTypes := #[27, 27] }) (hty : o.type = 27)
    {B : Nat} {v sv : Value} {xs ys : List Gl} (hs : a.eval s = v) (hx : a.eval x = sv) (hown : OwnR B v xs W) (hsrc : SrcG W sv ys) (hnm : xs.length + ys.length ≤ 100000) (hB : B ≤ W.heap.size)
    (h : ∀ v' w', OwnR B v' (xs ++ ys) w' → W.grownBy w' v.ownBlock → wpList Try.prog ops Q rest (a.put o.dst v') w') : wpList Try.prog ops Q (o :: rest) a W := by
  obtain ⟨v', w', hrun, h1, h2⟩ := appG_any hown hsrc hnm hB
  refine wpList_plain hgd fun K hK => ?_
  unfold Oper.wp
  simp [execOp, ho, hty, resolve, invoke, builtin, hs, hx, hrun, Result.andThen]
  exact hK _ _ (h v' w' h1 h2)
theorem grown_new {w1 w2 : World} {o : Obj} (h : (w1.alloc o).grownBy w2 (some w1.heap.size)) : Below w1.heap.size w1 w2 :=
  ⟨h.os, h.tape, h.output, Nat.le_trans (by simp) h.size, fun k hk => by
    rw [h.block k (by simp; omega) (by simp; omega)]
    exact ((Below.refl _ _).alloc (Nat.le_refl _) _).block k hk⟩
theorem grown_own {A : Nat} {w1 w2 w3 : World} {v : Value} {o : Obj} (h : Below A w1 w2) (hl : ∀ k, v.ownBlock = some k → A ≤ k) (hA : A ≤ w2.heap.size) (hg : (w2.alloc o).grownBy w3 v.ownBlock) : Below A w1 w3 :=
  h.trans ⟨hg.os, hg.tape, hg.output, Nat.le_trans (by simp) hg.size, fun k hk => by
    rw [hg.block k (by simp; omega) (fun e => by have := hl k e.symm; omega)]
    exact ((Below.refl _ _).alloc (Nat.le_refl _) _).block k (by omega)⟩
theorem grown_own0 {A : Nat} {w1 w2 w3 : World} {v : Value} (h : Below A w1 w2) (hl : ∀ k, v.ownBlock = some k → A ≤ k) (hA : A ≤ w2.heap.size) (hg : w2.grownBy w3 v.ownBlock) : Below A w1 w3 :=
  h.trans ⟨hg.os, hg.tape, hg.output, hg.size, fun k hk => hg.block k (by omega) (fun e => by have := hl k e.symm; omega)⟩
theorem src_take {b c p : Nat} {l : List Gl} {w : World} (h : RowK encG 2 (some ⟨b, 0, none⟩) l w) (hp : p ≤ l.length) : SrcG w (.slice (some ⟨b, 0, none⟩) p c) (l.take p) := by
  refine .inr ⟨⟨b, 0, none⟩, c, by rw [List.length_take, Nat.min_eq_left hp], fun j u hu => ?_⟩
  rw [flat_takeN encG_len, List.getElem?_take] at hu
  split at hu
  · have := rowK_flat encG_len (by decide) h j u hu
    rwa [Go.WideShapes.add_plain]
  · cases hu
theorem src_drop {b c p : Nat} {l : List Gl} {w : World} (h : RowK encG 2 (some ⟨b, 0, none⟩) l w) : SrcG w (.slice (some ⟨b, p * 2, none⟩) (l.length - p) c) (l.drop p) := by
  refine .inr ⟨⟨b, p * 2, none⟩, c, by rw [List.length_drop], fun j u hu => ?_⟩
  rw [flat_dropN encG_len, List.getElem?_drop] at hu
  have := rowK_flat encG_len (by decide) h _ u hu
  rw [Go.WideShapes.add_plain]
  rwa [Nat.zero_add] at this
theorem src_end {a : Addr} {c p : Nat} {l : List Gl} {w : World} (hp : l.length ≤ p) : SrcG w (.slice (some a) (l.length - p) c) (l.drop p) := by
  rw [List.drop_eq_nil_of_le hp, Nat.sub_eq_zero_of_le hp]
  exact .inr ⟨a, c, rfl, fun j u hu => by simp [flatE] at hu⟩
theorem src_zero {w : World} (a : Addr) (c : Nat) : SrcG w (.slice (some a) 0 c) [] := .inr ⟨a, c, rfl, fun j u hu => by simp [flatE] at hu⟩
theorem src_one {a : Addr} {c : Nat} {g : Gl} {w : World} (h0 : w.cell? (a.add 0) = some (.string (mk8 g.nm))) (h1 : w.cell? (a.add 1) = some (.int .i64 g.wd)) : SrcG w (.slice (some a) 1 c) [g] := by
  refine .inr ⟨a, c, rfl, fun j u hu => ?_⟩
  rcases j with _ | _ | j
  · simp [flatE, encG] at hu; subst hu; exact h0
  · simp [flatE, encG] at hu; subst hu; exact h1
  · simp [flatE, encG] at hu
theorem own_base {B B' e size n : Nat} {v : Value} {xs : List Value} {W : World} (h : W.ownsRow B e size v n xs) (hb : B' ≤ B) : W.ownsRow B' e size v n xs :=
  ⟨h.1, h.2.imp id (fun ⟨g, cap, cur, h1, h2, h3⟩ => ⟨g, cap, cur, h1, Nat.le_trans hb h2, h3⟩)⟩
theorem lt_ways (s x : List UInt8) : (ltL s x = true ∧ ltL x s = false ∧ (x == s) = false) ∨ (ltL s x = false ∧ ltL x s = true ∧ (x == s) = false) ∨ (ltL s x = false ∧ ltL x s = false ∧ (x == s) = true) := by
  cases h1 : ltL s x with
  | true =>
    refine .inl ⟨rfl, ltL_asymm h1, ?_⟩
    rw [beq_eq_false_iff_ne]
    intro e
    rw [e, ltL_irr] at h1
    cases h1
  | false =>
    cases h2 : ltL x s with
    | true =>
      refine .inr (.inl ⟨rfl, rfl, ?_⟩)
      rw [beq_eq_false_iff_ne]
      intro e
      rw [e, ltL_irr] at h2
      cases h2
    | false => exact .inr (.inr ⟨rfl, rfl, by rw [beq_iff_eq]; exact ltL_eq_of h2 h1⟩)
/-- What Put gives. -/
def PutP (l : List Gl) (g : Gl) (w : World) (e : Ending) (w' : World) : Prop := ∃ v', e = .returned v' ∧ OwnR w.heap.size v' (putG l g) w' ∧ Below w.heap.size w w'
set_option maxRecDepth 100000 in
set_option maxHeartbeats 4000000 in
theorem put_nil (g : Gl) (w : World) : Calls Try.prog 37 #[.slice none 0 0, .agg (encG g).toArray] w (PutP [] g w) := by
  obtain ⟨s, m⟩ := g
  show Calls _ _ #[.slice none 0 0, .agg #[.string (mk8 s), .int .i64 m]] w _
  have e1 : ∀ x : List UInt8, Op.bytesLess (mk8 x).toList (mk8 s).toList = ltL x s := fun x => by rw [mk8_list, mk8_list]
  have e2 : ∀ x : List UInt8, ((mk8 x).toList == (mk8 s).toList) = (x == s) := fun x => by rw [mk8_list, mk8_list]
  obtain ⟨t, ht⟩ : ∃ t, mk8 s = t := ⟨_, rfl⟩
  rw [ht]
  simp only [ht] at e1 e2
  have HT := Lib.hid ht
  have HE := Lib.hid e1
  have HE2 := Lib.hid e2
  clear ht e1 e2
  go_enter Try.func37, Try.ntmps37
  go_upto_block 0 with fail
  generalize hw1 : w.alloc _ = w1
  have hb1 : Below w.heap.size w w1 := by rw [← hw1]; exact (Below.refl _ _).alloc (Nat.le_refl _) _
  have t1 : w1.heap[w.heap.size]? = some (.cells #[.string t, .int .i64 m] 83 (0, 0)) := by rw [← hw1]; exact heap_alloc_new w _
  have hl1 := (Array.getElem?_eq_some_iff.1 t1).1
  have HB := Lib.hid hb1
  have HT1 := Lib.hid t1
  obtain ⟨p, hp⟩ : ∃ p, w.heap.size = p := ⟨_, rfl⟩
  rw [hp] at HT1 hl1
  rw [hp]
  clear hw1 hb1 t1 hp
  go_cut [5] (fun s5 wx => s5 = .int .i64 0 ∧ Hid (Below w1.heap.size w1 wx))
  case first =>
    go_wp2_with fail
    go_loop [5] (fun i => i = .int .i64 0) (fun _ => 0)
    case atStart => rfl
    case round =>
      subst hrel
      go_wp2_with fail
      go_quiet (fail)
      go_wp2_with fail
      go_meet
      case rel => exact ⟨rfl, below_drewN' (Below.refl _ _) _⟩
  case rest =>
    obtain ⟨rfl, hb⟩ := hcut
    have HBX : Hid (∀ w2, Below w1.heap.size w1 w2 → w2.cell? ⟨p, 0, none⟩ = some (.string t) ∧ w2.cell? ⟨p, 1, none⟩ = some (.int .i64 m)) := fun w2 h2 => ⟨(h2.cell (p := ⟨p, 0, none⟩) hl1).trans (cell_of HT1.out rfl), (h2.cell (p := ⟨p, 1, none⟩) hl1).trans (cell_of HT1.out rfl)⟩
    have O1 : Hid (OwnR wc.heap.size (.slice (some ⟨wc.heap.size, 0, none⟩) 0 0) [] (wc.alloc (.cells #[] 83))) := World.ownsRow_lit wc #[] 0 (Nat.le_refl _) (by unfold maxLen; omega) rfl
    go_wp2_with (first
      | (at_builtin; refine wpList_appG rfl (.tmp 24) (.tmp 27) rfl rfl rfl rfl O1.out (.inl ⟨rfl, rfl⟩) ?_ (by simp) ?_; (simp only [List.length_nil]; omega); intro v2 w2 own2 hg2; have HB2 := Lib.hid (grown_new hg2); have O2 := Lib.hid own2; clear own2 hg2; obtain ⟨k0, k1⟩ := HBX.out _ (hb.out.trans (HB2.out.mono hb.out.size)))
      | (at_builtin; refine wpList_appG (ys := [⟨s, m⟩]) rfl (.tmp 29) (.tmp 31) rfl rfl rfl rfl (O2.out.alloc _) (src_one (a := ⟨w2.heap.size, 0, none⟩) (g := ⟨s, m⟩) (by rw [HT.out]; exact cell_of (heap_alloc_new w2 _) rfl) (cell_of (heap_alloc_new w2 _) rfl)) ?_ (by have := HB2.out.size; simp; omega) ?_; (simp only [List.length_nil, List.length_append, List.length_singleton]; omega); intro v3 w3 own3 hg3; have HB3 := Lib.hid (grown_own HB2.out (fun k e => (O2.out.lt k e).1) HB2.out.size hg3); have O3 := Lib.hid own3; clear own3 hg3 k0 k1)
      | (at_builtin; refine wpList_appG rfl (.tmp 33) (.tmp 36) rfl rfl rfl rfl O3.out (.inl ⟨rfl, rfl⟩) ?_ HB3.out.size ?_; (simp only [List.length_nil, List.length_append, List.length_singleton]; omega); intro v4 w4 own4 hg4; have HB4 := Lib.hid (grown_own0 HB3.out (fun k e => (O3.out.lt k e).1) HB3.out.size hg4); have O4 := Lib.hid own4; clear own4 hg4))
    go_ret
    have hbp : w.heap.size ≤ wc.heap.size := Nat.le_trans HB.out.size hb.out.size
    refine ⟨v4, rfl, ?_, HB.out.trans ((hb.out.trans (HB4.out.mono hb.out.size)).mono HB.out.size)⟩
    have own := own_base O4.out hbp
    exact own

set_option maxRecDepth 100000 in
set_option maxHeartbeats 4000000 in
theorem put_row (b cap : Nat) (l : List Gl) (g : Gl) (w : World) (h : RowK encG 2 (some ⟨b, 0, none⟩) l w) (_hb0 : b < w.heap.size) (hc : l.length ≤ cap) (_hm : cap ≤ 9223372036854775807) (hl : l.length ≤ 1000) :
    Calls Try.prog 37 #[.slice (some ⟨b, 0, none⟩) l.length cap, .agg (encG g).toArray] w (PutP l g w) := by
  have HR := Lib.hid h
  clear h
  obtain ⟨s, m⟩ := g
  show Calls _ _ #[.slice (some ⟨b, 0, none⟩) l.length cap, .agg #[.string (mk8 s), .int .i64 m]] w _
  have e1 : ∀ x : List UInt8, Op.bytesLess (mk8 x).toList (mk8 s).toList = ltL x s := fun x => by rw [mk8_list, mk8_list]
  have e2 : ∀ x : List UInt8, ((mk8 x).toList == (mk8 s).toList) = (x == s) := fun x => by rw [mk8_list, mk8_list]
  obtain ⟨t, ht⟩ : ∃ t, mk8 s = t := ⟨_, rfl⟩
  rw [ht]
  simp only [ht] at e1 e2
  have HT := Lib.hid ht
  have HE := Lib.hid e1
  have HE2 := Lib.hid e2
  clear ht e1 e2
  go_enter Try.func37, Try.ntmps37
  go_upto_block 0 with fail
  generalize hw1 : w.alloc _ = w1
  have hb1 : Below w.heap.size w w1 := by rw [← hw1]; exact (Below.refl _ _).alloc (Nat.le_refl _) _
  have t1 : w1.heap[w.heap.size]? = some (.cells #[.string t, .int .i64 m] 83 (0, 0)) := by rw [← hw1]; exact heap_alloc_new w _
  have hl1 := (Array.getElem?_eq_some_iff.1 t1).1
  have HB := Lib.hid hb1
  have HT1 := Lib.hid t1
  obtain ⟨p, hp⟩ : ∃ p, w.heap.size = p := ⟨_, rfl⟩
  rw [hp] at HT1 hl1
  rw [hp]
  clear hw1 hb1 t1 hp
  have HRow : Hid (∀ w2, Below w1.heap.size w1 w2 → RowK encG 2 (some ⟨b, 0, none⟩) l w2) := fun w2 h2 => HR.out.below (HB.out.trans (h2.mono HB.out.size))
  clear HR
  go_cut [5] (fun s5 wx => ∃ q : Nat, s5 = .int .i64 q ∧ Hid (q = atG l s l.length) ∧ q ≤ l.length ∧ Hid (Below w1.heap.size w1 wx))
  case first =>
    go_wp2_with fail
    go_loopw [5] (fun i wr => ∃ k : Nat, k ≤ l.length ∧ i = .int .i64 k ∧ Hid (atG l s l.length = atG l s k) ∧ Hid (Below w1.heap.size w1 wr)) (fun i _ => (intOf i).toNat)
    case atStart => exact ⟨l.length, Nat.le_refl _, rfl, rfl, Below.refl _ _⟩
    case round =>
      obtain ⟨k, hk, rfl, ha, hbl⟩ := hrel
      have x0 := (hbl.out.cell (p := ⟨p, 0, none⟩) hl1).trans (cell_of HT1.out rfl)
      cases k with
      | zero =>
        go_wp2_with fail
        go_quiet (fail)
        go_wp2_with fail
        go_meet
        case rel => exact ⟨0, rfl, ha.out.symm, Nat.zero_le _, below_drewN' hbl.out _⟩
      | succ j =>
        have hr := HRow.out _ hbl.out
        have c0 := rowK_flat encG_len (by decide) hr (j * 2) (.string (mk8 l[j]!.nm)) (by have := flat_get encG_len l j 0 (by omega) (by decide); rw [Nat.add_zero] at this; rw [this]; rfl)
        rw [Nat.zero_add] at c0
        have hE := HE.out l[j]!.nm
        have hE2 := HE2.out l[j]!.nm
        have hw := lt_ways s l[j]!.nm
        obtain ⟨u, hu⟩ : ∃ u, mk8 l[j]!.nm = u := ⟨_, rfl⟩
        rw [hu] at c0 hE hE2
        have hz0 : (0 : Int) ≤ j := by omega
        have hzn : (j : Int) < l.length := by omega
        have hsub : IntKind.i64.wrap (((j + 1 : Nat) : Int) - 1) = (j : Int) := by rw [IntWalk.i64_in _ (by omega)]; omega
        have hzp : (0 : Int) < ((j + 1 : Nat) : Int) := by omega
        have HK := Lib.hid hk
        clear hr hu
        have hats : atG l s (j + 1) = if ltL s l[j]!.nm then atG l s j else j + 1 := rfl
        rcases hw with ⟨h1, h2, h3⟩ | ⟨h1, h2, h3⟩ | ⟨h1, h2, h3⟩
        · rw [h2] at hE
          rw [h3] at hE2
          have hat : Hid (atG l s l.length = atG l s j) := by show _ = _; rw [ha.out, hats, h1]; rfl
          clear h1 h2 h3 hats ha hk
          go_wp2_with fail
          go_quiet (fail)
          go_wp2_with fail
          go_roundw
          case rel => exact ⟨j, by have := HK.out; omega, by go_num, hat, below_drewN' hbl.out _⟩
          case measure => simp only [intOf]; omega
        · rw [h2] at hE
          rw [h3] at hE2
          have hat : Hid (j + 1 = atG l s l.length) := by show _ = _; rw [ha.out, hats, h1]; rfl
          clear h1 h2 h3 hats ha hk
          go_wp2_with fail
          go_quiet (fail)
          go_wp2_with fail
          go_meet
          case rel => exact ⟨j + 1, rfl, hat, HK.out, below_drewN' hbl.out _⟩
        · rw [h2] at hE
          rw [h3] at hE2
          have hat : Hid (j + 1 = atG l s l.length) := by show _ = _; rw [ha.out, hats, h1]; rfl
          clear h1 h2 h3 hats ha hk
          go_wp2_with fail
          go_quiet (fail)
          go_wp2_with fail
          go_meet
          case rel => exact ⟨j + 1, rfl, hat, HK.out, below_drewN' hbl.out _⟩
  case rest =>
    obtain ⟨q, rfl, hq, hql, hb⟩ := hcut
    have hq0 : (0 : Int) ≤ q := by omega
    have hqn : (q : Int) ≤ l.length := by omega
    have hqc : (q : Int) ≤ cap := by omega
    have hnc : (l.length : Int) ≤ cap := by omega
    have hBase : Hid (putG l ⟨s, m⟩ = [] ++ l.take q ++ [⟨s, m⟩] ++ l.drop q) := by show _ = _; unfold putG; rw [← hq.out, List.nil_append]
    by_cases hcp : cap = q
    · have HCP := Lib.hid hcp
      subst hcp
      have HBX : Hid (∀ w2, Below w1.heap.size w1 w2 → w2.cell? ⟨p, 0, none⟩ = some (.string t) ∧ w2.cell? ⟨p, 1, none⟩ = some (.int .i64 m)) := fun w2 h2 => ⟨(h2.cell (p := ⟨p, 0, none⟩) hl1).trans (cell_of HT1.out rfl), (h2.cell (p := ⟨p, 1, none⟩) hl1).trans (cell_of HT1.out rfl)⟩
      have O1 : Hid (OwnR wc.heap.size (.slice (some ⟨wc.heap.size, 0, none⟩) 0 0) [] (wc.alloc (.cells #[] 83))) := World.ownsRow_lit wc #[] 0 (Nat.le_refl _) (by unfold maxLen; omega) rfl
      go_wp2_with (first
        | (at_builtin; refine wpList_appG rfl (.tmp 24) (.tmp 27) rfl rfl rfl rfl O1.out (src_take (HRow.out _ (hb.out.trans (((Below.refl _ _).alloc (Nat.le_refl _) _).mono hb.out.size))) hql) ?_ (by simp) ?_; (simp only [List.length_nil, List.length_take]; omega); intro v2 w2 own2 hg2; have HB2 := Lib.hid (grown_new hg2); have O2 := Lib.hid own2; clear own2 hg2; obtain ⟨k0, k1⟩ := HBX.out _ (hb.out.trans (HB2.out.mono hb.out.size)))
        | (at_builtin; refine wpList_appG (ys := [⟨s, m⟩]) rfl (.tmp 29) (.tmp 31) rfl rfl rfl rfl (O2.out.alloc _) (src_one (a := ⟨w2.heap.size, 0, none⟩) (g := ⟨s, m⟩) (by rw [HT.out]; exact cell_of (heap_alloc_new w2 _) rfl) (cell_of (heap_alloc_new w2 _) rfl)) ?_ (by have := HB2.out.size; simp; omega) ?_; (simp only [List.length_nil, List.length_append, List.length_take, List.length_singleton]; omega); intro v3 w3 own3 hg3; have HB3 := Lib.hid (grown_own HB2.out (fun k e => (O2.out.lt k e).1) HB2.out.size hg3); have O3 := Lib.hid own3; clear own3 hg3 k0 k1)
        | (at_builtin; refine wpList_appG rfl (.tmp 33) (.tmp 36) rfl rfl rfl rfl O3.out (src_end (l := l) (p := cap) hc) ?_ HB3.out.size ?_; (simp only [List.length_nil, List.length_append, List.length_take, List.length_drop, List.length_singleton]; omega); intro v4 w4 own4 hg4; have HB4 := Lib.hid (grown_own0 HB3.out (fun k e => (O3.out.lt k e).1) HB3.out.size hg4); have O4 := Lib.hid own4; clear own4 hg4)
        | (at_builtin; refine wpList_appG rfl (.tmp 33) (.tmp 36) rfl rfl rfl rfl O3.out (ys := l.drop cap) (by rw [List.drop_eq_nil_of_le hc]; exact src_zero _ _) ?_ HB3.out.size ?_; (simp only [List.length_nil, List.length_append, List.length_take, List.length_drop, List.length_singleton]; omega); intro v4 w4 own4 hg4; have HB4 := Lib.hid (grown_own0 HB3.out (fun k e => (O3.out.lt k e).1) HB3.out.size hg4); have O4 := Lib.hid own4; clear own4 hg4))
      go_ret
      have hbp : w.heap.size ≤ wc.heap.size := Nat.le_trans HB.out.size hb.out.size
      refine ⟨v4, rfl, ?_, HB.out.trans ((hb.out.trans (HB4.out.mono hb.out.size)).mono HB.out.size)⟩
      have own := own_base O4.out hbp
      rw [hBase.out]
      exact own
    · have hqs : (q : Int) < cap := by omega
      have HBX : Hid (∀ w2, Below w1.heap.size w1 w2 → w2.cell? ⟨p, 0, none⟩ = some (.string t) ∧ w2.cell? ⟨p, 1, none⟩ = some (.int .i64 m)) := fun w2 h2 => ⟨(h2.cell (p := ⟨p, 0, none⟩) hl1).trans (cell_of HT1.out rfl), (h2.cell (p := ⟨p, 1, none⟩) hl1).trans (cell_of HT1.out rfl)⟩
      have O1 : Hid (OwnR wc.heap.size (.slice (some ⟨wc.heap.size, 0, none⟩) 0 0) [] (wc.alloc (.cells #[] 83))) := World.ownsRow_lit wc #[] 0 (Nat.le_refl _) (by unfold maxLen; omega) rfl
      go_wp2_with (first
        | (at_builtin; refine wpList_appG rfl (.tmp 24) (.tmp 27) rfl rfl rfl rfl O1.out (src_take (HRow.out _ (hb.out.trans (((Below.refl _ _).alloc (Nat.le_refl _) _).mono hb.out.size))) hql) ?_ (by simp) ?_; (simp only [List.length_nil, List.length_take]; omega); intro v2 w2 own2 hg2; have HB2 := Lib.hid (grown_new hg2); have O2 := Lib.hid own2; clear own2 hg2; obtain ⟨k0, k1⟩ := HBX.out _ (hb.out.trans (HB2.out.mono hb.out.size)))
        | (at_builtin; refine wpList_appG (ys := [⟨s, m⟩]) rfl (.tmp 29) (.tmp 31) rfl rfl rfl rfl (O2.out.alloc _) (src_one (a := ⟨w2.heap.size, 0, none⟩) (g := ⟨s, m⟩) (by rw [HT.out]; exact cell_of (heap_alloc_new w2 _) rfl) (cell_of (heap_alloc_new w2 _) rfl)) ?_ (by have := HB2.out.size; simp; omega) ?_; (simp only [List.length_nil, List.length_append, List.length_take, List.length_singleton]; omega); intro v3 w3 own3 hg3; have HB3 := Lib.hid (grown_own HB2.out (fun k e => (O2.out.lt k e).1) HB2.out.size hg3); have O3 := Lib.hid own3; clear own3 hg3 k0 k1)
        | (at_builtin; refine wpList_appG rfl (.tmp 33) (.tmp 36) rfl rfl rfl rfl O3.out (src_drop (HRow.out _ (hb.out.trans (HB3.out.mono hb.out.size)))) ?_ HB3.out.size ?_; (simp only [List.length_nil, List.length_append, List.length_take, List.length_drop, List.length_singleton]; omega); intro v4 w4 own4 hg4; have HB4 := Lib.hid (grown_own0 HB3.out (fun k e => (O3.out.lt k e).1) HB3.out.size hg4); have O4 := Lib.hid own4; clear own4 hg4))
      go_ret
      have hbp : w.heap.size ≤ wc.heap.size := Nat.le_trans HB.out.size hb.out.size
      refine ⟨v4, rfl, ?_, HB.out.trans ((hb.out.trans (HB4.out.mono hb.out.size)).mono HB.out.size)⟩
      have own := own_base O4.out hbp
      rw [hBase.out]
      exact own
theorem put_any (B : Nat) (v : Value) (l : List Gl) (g : Gl) (w : World) (h : OwnR B v l w) (hl : l.length ≤ 1000) : Calls Try.prog 37 #[v, .agg (encG g).toArray] w (PutP l g w) := by
  rcases h.2 with ⟨rfl, h0⟩ | ⟨b, cap, cur, rfl, h2, h3, h4, h5, h6, h7⟩
  · obtain rfl := List.eq_nil_of_length_eq_zero h0
    exact put_nil g w
  · unfold maxLen at h5
    obtain ⟨ao, c, e, hr⟩ := own_row encG_len (by decide) h
    cases e
    exact put_row b cap l g w hr (Array.getElem?_eq_some_iff.1 h3).1 h4 (by omega) hl
end Go.Proofs.Ytboophfcakdlcaa
