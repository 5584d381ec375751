/- The law's standard fonts: the document's, for the program. -/
import Derived.Test.YtboophfcakdlcaaFrStd
import Derived.Test.YtboophfcakdlcaaFtBack
import Derived.Test.YtboophfcakdlcaaFtStdLaw
import Derived.Deep.DeepCutAuto
namespace Go.Proofs.Ytboophfcakdlcaa
open Go.RowKit Go.PlainAid Go.Shelf

theorem owns_below6 {B e size n : Nat} {v : Value} {xs : List Value} {W W1 : World} (h : W.ownsRow B e size v n xs) (hb : Below W.heap.size W W1) : W1.ownsRow B e size v n xs := owns_below h hb
/-- A row whose place does not change. -/
theorem RowK.apart {α : Type} [Inhabited α] {enc : α → List Value} {k b : Nat} {ao : Option Addr} {xs : List α} {w w' : World} (h : RowK enc k ao xs w) (hne : 0 < xs.length → ∀ a, ao = some a → a.block ≠ b) (hs : w.heap.size ≤ w'.heap.size) (hb : ∀ j, j < w.heap.size → j ≠ b → w'.heap[j]? = w.heap[j]?) : RowK enc k ao xs w' := by
  obtain ⟨b', off, h1, h2⟩ := h
  refine ⟨b', off, fun hp => ⟨(h1 hp).1, Nat.lt_of_lt_of_le (h1 hp).2 hs⟩, fun j hj i v hv => ?_⟩
  have hp : 0 < xs.length := by omega
  have hn : b' ≠ b := hne hp _ (h1 hp).1
  rw [← h2 j hj i v hv]
  unfold World.cell?
  rw [hb b' (h1 hp).2 hn]
/-- The rows of a font lie in no such block. -/
def Clear (b : Nat) (x : FA) : Prop := (0 < x.F.gs.length → ∀ a, x.ag = some a → a.block ≠ b) ∧ (0 < x.F.ls.length → ∀ a, x.al = some a → a.block ≠ b) ∧ (0 < x.F.ks.length → ∀ a, x.ak = some a → a.block ≠ b)
theorem FA.apart {x : FA} {b : Nat} {w w' : World} (h : x.ok w) (hc : Clear b x) (hs : w.heap.size ≤ w'.heap.size) (hb : ∀ j, j < w.heap.size → j ≠ b → w'.heap[j]? = w.heap[j]?) : x.ok w' :=
  ⟨h.gs.apart hc.1 hs hb, h.ls.apart hc.2.1 hs hb, h.ks.apart hc.2.2 hs hb⟩
/-- A font's rows lie among what is there. -/
theorem FA.clear_new {x : FA} {w : World} {b : Nat} (h : x.ok w) (hb : w.heap.size ≤ b) : Clear b x := by
  have one : ∀ {α : Type} [Inhabited α] {enc : α → List Value} {k : Nat} {ao : Option Addr} {xs : List α}, RowK enc k ao xs w → 0 < xs.length → ∀ a, ao = some a → a.block ≠ b := by
    intro α _ enc k ao xs h hp a ha
    obtain ⟨b', off, h1, _⟩ := h
    obtain ⟨e, hl⟩ := h1 hp
    rw [e] at ha
    obtain rfl := Option.some.inj ha
    show b' ≠ b
    omega
  exact ⟨one h.gs, one h.ls, one h.ks⟩
theorem font_info : (Try.prog.info? 37).map (fun i => (i.zero, i.size, i.bytes)) = some (some (.agg #[.string ⟨#[]⟩, .bool false, .int .i64 0, .slice none 0 0, .slice none 0 0, .slice none 0 0]), 6, 104) := by kernel_rfl
/-- The own row of fonts. -/
abbrev OwnF (B : Nat) (v : Value) (xs : List FA) (w : World) : Prop := w.ownsRow B 37 6 v xs.length (flatE encF xs)
theorem wpList_font {W : World} {ops : Array Oper} {rest : List Oper} {o : Oper} {a : Act} {Q : Exit → Act → World → Prop} (hgd : o.guard = none) (sl x : Operand)
    (ho : o.op = .call { callee := .builtin .append, args := #[sl, x], argTypes := #[22, 22] })
    {B : Nat} {v : Value} {xs : List FA} {f : FA} (hs : a.eval sl = v) (ad : Addr) (hx : a.eval x = .slice (some ad) 1 1) (h0 : ∀ j u, (encF f)[j]? = some u → W.cell? (ad.add j) = some u) (hown : OwnF B v xs W) (hn : xs.length + 1 ≤ 100000) (hB : B ≤ W.heap.size)
    (h : ∀ v' w', OwnF B v' (xs ++ [f]) w' → W.grownBy w' v.ownBlock → (v'.ownBlock = v.ownBlock ∨ ∃ k, v'.ownBlock = some k ∧ W.heap.size ≤ k) → wpList Try.prog ops Q rest (a.put o.dst v') w') : wpList Try.prog ops Q (o :: rest) a W := by
  obtain ⟨i0, hi, hz0, hz1, hz2⟩ := info_parts font_info
  refine wpList_append_own_at (P := Try.prog) W hgd sl x 22 ho B 37 i0 _ 6 104 Try.underlying22 hi hz0 hz1 hz2 rfl (by omega) v xs.length (flatE encF xs) hs hown ad 1 1 (encF f) hx rfl h0 ?_ (by unfold maxLen; omega) (by omega) hB ?_
  · intro u hu
    simp [encF, fontCells] at hu
    rcases hu with rfl | rfl | rfl | rfl | rfl | rfl <;> rfl
  · intro v' w' h2 h3 _ h4
    refine h v' w' ?_ h3 ?_
    · have hf : flatE encF (xs ++ [f]) = flatE encF xs ++ encF f := by simp [flatE]
      unfold OwnF
      rw [hf, List.length_append]
      exact h2
    · rcases h4 with h4 | h4
      · exact .inl (by rw [h4])
      · exact .inr ⟨_, by rw [h4], Nat.le_refl _⟩
theorem std_pos : ∀ F ∈ [FR, FI, FB, FM, FS], 0 < F.gs.length := by
  intro F hF
  simp only [List.mem_cons, List.not_mem_nil, or_false] at hF
  rcases hF with rfl | rfl | rfl | rfl | rfl <;> decide +kernel
/-- What the law's All gives. -/
def AllP (W : World) (e : Ending) (w : World) : Prop := ∃ (ao : Option Addr) (c : Nat) (l : List FA), e = .returned (.slice ao 5 c) ∧ l.map FA.F = [FR, FI, FB, FM, FS] ∧ RowK encF 6 ao l w ∧ (∀ x ∈ l, x.ok w) ∧ Below W.heap.size W w
set_option maxRecDepth 100000 in
set_option maxHeartbeats 4000000 in
theorem all_any (W : World) : Calls Try.prog 17 #[] W (AllP W) := by
  have HD := Lib.hid (rstandard_any W)
  unfold StdP at HD
  go_enter Try.func17, Try.ntmps17
  go_wp2_with fail
  refine HD.out.mono ?_
  rintro e w1 ⟨g, l, rfl, hl, hr, hok, hb⟩
  have H1 := Lib.hid hl
  have H2 := Lib.hid hr
  have H3 := Lib.hid hok
  have HB := Lib.hid hb
  have hl5 := map_len hl
  clear hl hr hok hb HD
  go_wp2_with fail
  go_loopw [1, 3] (fun u i wr => ∃ (k : Nat) (xs : List FA), k ≤ 5 ∧ i = .int .i64 k ∧ xs.length = k ∧ Hid (xs.map FA.F = (l.map FA.F).take k) ∧ Hid (OwnF w1.heap.size u xs wr) ∧ Hid (∀ x ∈ xs, x.ok wr ∧ ∀ b, u.ownBlock = some b → Clear b x) ∧ Hid (Below w1.heap.size w1 wr)) (fun _ i _ => 5 - (intOf i).toNat)
  case atStart => exact ⟨0, [], by omega, rfl, rfl, rfl, World.ownsRow_nil _ _ _ _, fun x hx => absurd hx (by simp), Below.refl _ _⟩
  case round =>
    obtain ⟨k, xs, hk, rfl, hxl, hmap, hown, hall, hbl⟩ := hrel
    by_cases hlt : k < 5
    · have hz1 : (k : Int) < 5 := by omega
      have hz0 : (0 : Int) ≤ k := by omega
      have HLT := Lib.hid hlt
      obtain ⟨hF, hm⟩ := map_at H1.out H1.out hlt
      obtain ⟨hv, q1, q2, q3⟩ := std_all _ hm
      have oy := (H3.out l[k]! (by rw [getElem!_pos l k (by omega)]; exact List.getElem_mem _)).below hbl.out
      have ry := H2.out.below hbl.out
      obtain ⟨b2, o2, ha2, hc2⟩ := ry
      obtain ⟨ea2, hl2⟩ := ha2 (by omega)
      obtain ⟨rfl, rfl⟩ : g = b2 ∧ 0 = o2 := by have := Option.some.inj ea2; simp only [Addr.mk.injEq] at this; exact ⟨this.1, this.2.1⟩
      have hy := hc2 k (by omega)
      have hmap2 : ∀ Y : FA, l[k]! = Y → Hid ((l.map FA.F).take (k + 1) = (l.map FA.F).take k ++ [Y.F]) := fun Y hY => by
        show _ = _
        rw [List.take_add_one, List.getElem?_map, List.getElem?_eq_getElem (by omega), ← hY, getElem!_pos l k (by omega)]
        rfl
      obtain ⟨Y, hY⟩ : ∃ Y, l[k]! = Y := ⟨_, rfl⟩
      have HM := hmap2 Y hY
      rw [hY] at hv q1 q2 q3 oy hy
      have HBA := Lib.hid (back_fresh Y wr oy q1 q2 q3)
      unfold BackP at HBA
      clear hF hv q1 q2 q3 hm oy ha2 hc2 ea2 hY hlt hmap2
      obtain ⟨⟨n2, s2, z2, gs2, ls2, ks2⟩, bg, bl, bk, dg, dl, dk⟩ := Y
      have y0 := hy 0 _ rfl
      have y1 := hy 1 _ rfl
      have y2 := hy 2 _ rfl
      have y3 := hy 3 _ rfl
      have y4 := hy 4 _ rfl
      have y5 := hy 5 _ rfl
      simp only [fontVal] at HBA
      simp only [Nat.zero_add, Nat.add_zero] at y0 y1 y2 y3 y4 y5
      clear hy
      go_wp2_with fail
      refine HBA.out.mono ?_
      rintro e w2 ⟨eg, el, ek, fg, fl, fk, rfl, hv, hb, hfr⟩
      have HV := Lib.hid hv
      have HB2 := Lib.hid hb
      have HFR := Lib.hid hfr
      have HO2 := Lib.hid (owns_below6 hown.out hb)
      have hs2 := hb.size
      have hs1 := hbl.out.size
      have hu : ∀ b, u1.ownBlock = some b → b < wr.heap.size := fun b h => (hown.out.lt b h).2
      have HU := Lib.hid hu
      clear hv hb hfr hown HBA hu
      go_wp2_with (at_builtin; refine wpList_font (v := u1) (f := ⟨⟨n2, s2, z2, gs2, ls2, ks2⟩, eg, el, ek, fg, fl, fk⟩) rfl (.tmp 11) (.tmp 17) rfl rfl ⟨w2.heap.size, 0, none⟩ rfl (fun j u hu => World.news_of_block (heap_alloc_new w2 _) j u (by simpa using hu)) (HO2.out.alloc _) (by omega) (by simp; omega) ?_; intro v' w' h1 h2 h3; have G1 := Lib.hid h1; have G2 := Lib.hid h2; have G3 := Lib.hid h3; clear h1 h2 h3)
      have hba : Below w2.heap.size w2 (w2.alloc (.cells #[.string (mk8 n2), .bool s2, .int .i64 z2, .slice eg gs2.length fg, .slice el ls2.length fl, .slice ek ks2.length fk] 37)) := (Below.refl _ _).alloc (Nat.le_refl _) _
      have hfo : (⟨⟨n2, s2, z2, gs2, ls2, ks2⟩, eg, el, ek, fg, fl, fk⟩ : FA).ok w2 := HV.out
      have hgrow : ∀ x : FA, x.ok w2 → (∀ b, u1.ownBlock = some b → Clear b x) → x.ok w' ∧ ∀ b, v'.ownBlock = some b → Clear b x := fun x hx hc => by
        have hx2 := hx.below hba
        refine ⟨?_, fun b hb => ?_⟩
        · cases hub : u1.ownBlock with
          | none =>
            refine FA.apart (b := w'.heap.size) hx2 (FA.clear_new hx2 G2.out.size) G2.out.size (fun j hj _ => G2.out.block j hj (by rw [hub]; intro e; cases e))
          | some b => exact FA.apart (b := b) hx2 (hc b hub) G2.out.size (fun j hj hne => G2.out.block j hj (by rw [hub]; intro e; exact hne (Option.some.inj e)))
        · rcases G3.out with e | ⟨k', e, hk'⟩
          · exact hc b (by rw [← e]; exact hb)
          · rw [hb] at e
            obtain rfl := Option.some.inj e
            exact FA.clear_new hx2 hk'
      have HALL : Hid (∀ x ∈ xs ++ [(⟨⟨n2, s2, z2, gs2, ls2, ks2⟩, eg, el, ek, fg, fl, fk⟩ : FA)], x.ok w' ∧ ∀ b, v'.ownBlock = some b → Clear b x) := fun x hx => by
        rcases List.mem_append.1 hx with hx | hx
        · exact hgrow x ((hall.out x hx).1.below HB2.out) (hall.out x hx).2
        · obtain rfl := List.mem_singleton.1 hx
          refine hgrow _ hfo (fun b hb => ?_)
          have hbl := HU.out b hb
          obtain ⟨f1, f2, f3⟩ := HFR.out
          refine ⟨fun _ a ha => ?_, fun _ a ha => ?_, fun _ a ha => ?_⟩
          · have := f1 a ha; omega
          · have := f2 a ha; omega
          · have := f3 a ha; omega
      have HBN : Hid (Below w1.heap.size w1 w') := (hbl.out.trans (HB2.out.mono hbl.out.size)).trans ((hba.mono (by omega)).trans ⟨G2.out.os, G2.out.tape, G2.out.output, G2.out.size, fun j hj => G2.out.block j (by simp; omega) (fun e => by have := (HO2.out.lt j e.symm).1; omega)⟩)
      have HMN : Hid ((xs ++ [(⟨⟨n2, s2, z2, gs2, ls2, ks2⟩, eg, el, ek, fg, fl, fk⟩ : FA)]).map FA.F = (l.map FA.F).take (k + 1)) := by show _ = _; rw [HM.out, List.map_append, hmap.out]; rfl
      clear hba hfo hgrow hall hmap HM hs1 hs2
      go_roundw
      case rel => exact ⟨k + 1, _, by have := HLT.out; omega, by go_num, by rw [List.length_append, hxl]; rfl, HMN, G1, HALL, HBN⟩
      case measure => have := HLT.out; simp only [intOf]; omega
    · obtain rfl : k = 5 := by omega
      have hz1 : ¬ ((5 : Nat) : Int) < 5 := by omega
      obtain ⟨ao, c, e, hrow⟩ := own_row (enc := encF) (k := 6) (fun _ => rfl) (by decide) hown.out
      subst e
      have HR := Lib.hid hrow
      have HMM : Hid (xs.map FA.F = [FR, FI, FB, FM, FS]) := by show _ = _; rw [hmap.out, H1.out]; rfl
      rw [hxl]
      clear hrow hmap hown
      go_wp2_with fail
      go_ret
      exact ⟨ao, c, xs, rfl, HMM.out, HR.out, fun x hx => (hall.out x hx).1, HB.out.trans (hbl.out.mono HB.out.size)⟩
end Go.Proofs.Ytboophfcakdlcaa
