/- As, walked. -/
import Derived.Test.YtboophfcakdlcaaFtAs
import Derived.Deep.RegionHeld3
import Derived.Deep.DeepCutAuto
namespace Go.Proofs.Ytboophfcakdlcaa
open Go.RowKit Go.PlainAid Go.Shelf

theorem flat_take {α : Type} [Inhabited α] {enc : α → List Value} {xs : List α} {k : Nat} (hk : k < xs.length) : flatE enc (xs.take (k + 1)) = flatE enc (xs.take k) ++ enc xs[k]! := by
  rw [getElem!_pos xs k hk, List.take_add_one, List.getElem?_eq_getElem hk]
  show List.flatMap enc (xs.take k ++ [xs[k]]) = _
  rw [List.flatMap_append]
  simp
theorem own_form {B n size : Nat} {t : TypeId} {v : Value} {xs : List Value} {w : World} (h : w.ownsRow B t size v n xs) : ∃ ao c, v = .slice ao n c := by
  rcases h.2 with ⟨rfl, rfl⟩ | ⟨g, cap, cur, rfl, _⟩
  · exact ⟨_, _, rfl⟩
  · exact ⟨_, _, rfl⟩
theorem below_dalloc (w : World) (o : Obj) : Below w.heap.size w (w.drew.alloc o) := by
  have h := (Below.refl w.heap.size w.drew).alloc (Nat.le_refl _) o
  exact ⟨h.os, h.tape, h.output, h.size, h.block⟩
theorem news_at {w : World} {cs : List Value} {t : TypeId} : ∀ j u, cs[j]? = some u → (w.drew.alloc (.cells cs.toArray t)).cell? ((⟨w.heap.size, 0, none⟩ : Addr).add j) = some u := fun j u hu =>
  World.news_of_block (heap_alloc_new w.drew _) j u (by simpa using hu)
theorem own_fr {x B T sz n : Nat} {v : Value} {xs : List Value} {a b : World} (h : a.ownsRow B T sz v n xs) (hF : Fr x a b) (hx : x < B) : b.ownsRow B T sz v n xs := by
  refine ⟨h.1, ?_⟩
  rcases h.2 with h' | ⟨g, cap, cur, h1, h2, h3, h4⟩
  · exact .inl h'
  · exact .inr ⟨g, cap, cur, h1, h2, by rw [hF.block g (Array.getElem?_eq_some_iff.1 h3).1 (by omega)]; exact h3, h4⟩
theorem fr_set {x j : Nat} {a b : World} {u : Value} (h : Fr x a b) : Fr x a (b.setCell ⟨x, j, none⟩ u) :=
  ⟨h.os, h.tape, h.output, by have := h.size; simp at *; omega, fun k hk hx => by rw [Below.heap_setCell _ _ _ _ (by simpa using hx)]; exact h.block k hk hx⟩
/-- What As gives. -/
def AsP (x : FA) (w : World) (e : Ending) (w' : World) : Prop := ∃ (ag al ak : Option Addr) (cg cl ck : Nat), e = .returned (.agg #[.string (mk8 x.F.name), .bool x.F.special, .int .i64 x.F.space, .slice ag x.F.gs.length cg, .slice al x.F.ls.length cl, .slice ak x.F.ks.length ck]) ∧ FontV x.F ag al ak w' ∧ Below w.heap.size w w'

set_option maxRecDepth 100000 in
set_option maxHeartbeats 8000000 in
theorem as_any (x : FA) (w : World) (h : x.ok w) (hf1 : x.F.gs.length ≤ 1000) (hf2 : x.F.ls.length ≤ 1000) (hf3 : x.F.ks.length ≤ 1000) : Calls Try.prog 12 #[fontVal x] w (AsP x w) := by
  have HG := Lib.hid h.gs
  have HL := Lib.hid h.ls
  have HK := Lib.hid h.ks
  unfold AsP
  clear h
  obtain ⟨⟨fn, fs, fz, gs, ls, ks⟩, ag, al, ak, cg, cl, ck⟩ := x
  simp only at HG HL HK hf1 hf2 hf3 ⊢
  show Calls _ _ #[.agg #[.string (mk8 fn), .bool fs, .int .i64 fz, .slice ag gs.length cg, .slice al ls.length cl, .slice ak ks.length ck]] w _
  obtain ⟨sn, hsn⟩ : ∃ s, mk8 fn = s := ⟨_, rfl⟩
  rw [hsn]
  clear hsn
  go_enter Try.func12, Try.ntmps12
  go_upto_region 1 with fail
  generalize hw1 : w.alloc _ = w1
  have hb1 : Below w.heap.size w w1 := by rw [← hw1]; exact (Below.refl _ _).alloc (Nat.le_refl _) _
  have t1 : w1.heap[w.heap.size]? = some (.cells #[.string sn, .bool fs, .int .i64 fz, .slice ag gs.length cg, .slice al ls.length cl, .slice ak ks.length ck] 37 (0, 0)) := by rw [← hw1]; exact heap_alloc_new w _
  have hs1 : w1.heap.size = w.heap.size + 1 := by rw [← hw1]; simp
  generalize hw2 : w1.alloc _ = w2
  have hb2 : Below w1.heap.size w1 w2 := by rw [← hw2]; exact (Below.refl _ _).alloc (Nat.le_refl _) _
  have r2 : XB w1.heap.size ⟨#[]⟩ false 0 (.slice none 0 0) (.slice none 0 0) (.slice none 0 0) w2 := by rw [← hw2]; exact heap_alloc_new w1 _
  have hs2 : w2.heap.size = w1.heap.size + 1 := by rw [← hw2]; simp
  have t2 : w2.heap[w.heap.size]? = some (.cells #[.string sn, .bool fs, .int .i64 fz, .slice ag gs.length cg, .slice al ls.length cl, .slice ak ks.length ck] 37 (0, 0)) := by rw [hb2.block _ (by omega)]; exact t1
  have y0 := cell_of (j := 0) t2 rfl
  have y1 := cell_of (j := 1) t2 rfl
  have y2 := cell_of (j := 2) t2 rfl
  have hs1' : w1.heap.size = w.heap.size + 1 := hs1
  rw [hs1] at r2 hs2
  have HB2 := Lib.hid (hb1.trans (hb2.mono hb1.size))
  obtain ⟨p, hp⟩ : ∃ p, w.heap.size = p := ⟨_, rfl⟩
  obtain ⟨r, hr⟩ : ∃ r, p + 1 = r := ⟨_, rfl⟩
  rw [hp] at t2 y0 y1 y2 r2 hs2
  rw [hr] at r2 hs2
  rw [hp, hr]
  have HPW : Hid (w.heap.size = p) := hp
  have HT2 := Lib.hid t2
  have HR2 := Lib.hid r2
  have hpr : p < r := by omega
  have hsz2 := Lib.hid hs2
  clear hw1 hw2 hb1 hb2 t1 t2 r2 hs1 hs1' hs2 hp hr
  go_upto_region 2 with fail
  generalize hw3 : w2.alloc _ = w3
  have hb3 : Below w2.heap.size w2 w3 := by rw [← hw3]; exact (Below.refl _ _).alloc (Nat.le_refl _) _
  have x3 : XB w2.heap.size sn fs fz (.slice none 0 0) (.slice none 0 0) (.slice none 0 0) w3 := by rw [← hw3]; exact heap_alloc_new w2 _
  have hx3 : w2.heap.size < w3.heap.size := (Array.getElem?_eq_some_iff.1 x3).1
  have HT3 : Hid (w3.heap[p]? = some (.cells #[.string sn, .bool fs, .int .i64 fz, .slice ag gs.length cg, .slice al ls.length cl, .slice ak ks.length ck] 37 (0, 0))) := by show _ = _; rw [hb3.block p (by have := hsz2.out; omega)]; exact HT2.out
  have HR3 : Hid (XB r ⟨#[]⟩ false 0 (.slice none 0 0) (.slice none 0 0) (.slice none 0 0) w3) := by show _ = _; rw [hb3.block r (by have := hsz2.out; omega)]; exact HR2.out
  have HB3 := Lib.hid (HB2.out.trans (hb3.mono HB2.out.size))
  have hxr : r < w2.heap.size := by have := hsz2.out; omega
  obtain ⟨x, hx⟩ : ∃ x, w2.heap.size = x := ⟨_, rfl⟩
  rw [hx] at x3 hx3 hxr
  rw [hx]
  have HX3 := Lib.hid x3
  have hxs : x < w3.heap.size := hx3
  have hxp : p < x := by omega
  clear hw3 hb3 x3 hx3 y0 y1 y2 HT2 HR2 HB2 hsz2 hx
  go_wp2_with fail
  go_loopw [4] (fun i wr => ∃ (k : Nat) (v : Value), k ≤ gs.length ∧ i = .int .i64 k ∧ Hid (Fr x w3 wr) ∧ Hid (XB x sn fs fz v (.slice none 0 0) (.slice none 0 0) wr) ∧ Hid (wr.ownsRow w3.heap.size 83 2 v k (flatE encG (gs.take k)))) (fun i _ => gs.length - (intOf i).toNat)
  case atStart => exact ⟨0, .slice none 0 0, by omega, rfl, Fr.refl _ _, HX3.out, World.ownsRow_nil _ _ _ _⟩
  case round =>
    obtain ⟨k, v, hk, rfl, hfr, hxb, how⟩ := hrel
    have htp : wr.heap[p]? = some (.cells #[.string sn, .bool fs, .int .i64 fz, .slice ag gs.length cg, .slice al ls.length cl, .slice ak ks.length ck] 37 (0, 0)) := by rw [hfr.out.block p (by omega) (by omega)]; exact HT3.out
    have p3 := cell_of (j := 3) htp rfl
    have HBw := Lib.hid (HB3.out.trans (hfr.out.below (B := w.heap.size) (by rw [HPW.out]; omega) HB3.out.size))
    by_cases hlt : k < gs.length
    · obtain ⟨b, off, ha, hr⟩ := HG.out
      obtain ⟨rfl, hbw⟩ := ha (by omega)
      obtain ⟨e, he⟩ : ∃ e, gs[k]! = e := ⟨_, rfl⟩
      have r1 := hr k hlt
      rw [he] at r1
      obtain ⟨e0, e1⟩ := e
      have c0 := (HBw.out.cell (p := ⟨b, off + k * 2 + 0, none⟩) hbw).trans (r1 0 _ rfl)
      have c1 := (HBw.out.cell (p := ⟨b, off + k * 2 + 1, none⟩) hbw).trans (r1 1 _ rfl)
      rw [Nat.add_zero] at c0
      simp only at c0 c1
      have hz1 : (k : Int) < gs.length := by omega
      have hz0 : (0 : Int) ≤ k := by omega
      have x3 := cell_of (j := 3) hxb.out rfl
      have f3 := frozen_of (j := 3) hxb.out
      have HTK : Hid (flatE encG (gs.take (k + 1)) = flatE encG (gs.take k) ++ [.string (mk8 e0), .int .i64 e1]) := by show _ = _; rw [flat_take hlt, he]; rfl
      have hbx : b < p := by have := HPW.out; omega
      have HOW := Lib.hid (fun (o : Obj) => owns_below how.out (below_dalloc wr o))
      have hsx := hfr.out.size
      have x3a : ∀ o : Obj, (wr.alloc o).cell? ⟨x, 3, none⟩ = some v := fun o => (((Below.refl wr.heap.size wr).alloc (Nat.le_refl _) o).cell (p := ⟨x, 3, none⟩) (show x < wr.heap.size by omega)).trans x3
      clear hsx
      have HKp : Hid (∀ (o : Obj) (w' : World), (wr.drew.alloc o).grownBy w' v.ownBlock → (w'.cell? ⟨p, 3, none⟩ = some (.slice (some ⟨b, off, none⟩) gs.length cg) ∧ w'.cell? ⟨b, off + k * 2, none⟩ = some (.string (mk8 e0)) ∧ w'.cell? ⟨b, off + k * 2 + 1, none⟩ = some (.int .i64 e1)) ∧ (w'.frozen? ⟨x, 3, none⟩ = false ∧ w'.cell? ⟨x, 3, none⟩ = some v) ∧ ∀ u : Value, (w'.setCell ⟨x, 3, none⟩ u).cell? ⟨p, 3, none⟩ = some (.slice (some ⟨b, off, none⟩) gs.length cg) ∧ (w'.setCell ⟨x, 3, none⟩ u).cell? ⟨b, off + k * 2, none⟩ = some (.string (mk8 e0)) ∧ (w'.setCell ⟨x, 3, none⟩ u).cell? ⟨b, off + k * 2 + 1, none⟩ = some (.int .i64 e1)) := fun o w' hg => by
        have hv : ∀ k, v.ownBlock = some k → w3.heap.size ≤ k := fun k hk => (how.out.lt k hk).1
        have hsz := hfr.out.size
        have hb : ∀ k, k < w3.heap.size → w'.heap[k]? = wr.heap[k]? := fun k hk => by
          rw [hg.block k (by simp; omega) (fun e => by have := hv k e.symm; omega)]
          exact (below_dalloc wr o).block k (by omega)
        have hc : ∀ (k j : Nat), k < w3.heap.size → w'.cell? ⟨k, j, none⟩ = wr.cell? ⟨k, j, none⟩ := fun k j hk => by simp only [World.cell?, hb k hk]
        have q0 : w'.cell? ⟨p, 3, none⟩ = _ := (hc p _ (by omega)).trans p3
        have q1 := (hc b _ (by omega)).trans c0
        have q2 := (hc b _ (by omega)).trans c1
        refine ⟨⟨q0, q1, q2⟩, ?_, fun u => ?_⟩
        · refine ⟨?_, (hc x _ hxs).trans x3⟩
          simp only [World.frozen?, hb x hxs]
          exact f3
        · have hs : ∀ (k j : Nat), k ≠ x → (w'.setCell ⟨x, 3, none⟩ u).cell? ⟨k, j, none⟩ = w'.cell? ⟨k, j, none⟩ := fun k j hk => by simp only [World.cell?, Below.heap_setCell _ (⟨x, 3, none⟩ : Addr) _ _ (show k ≠ (⟨x, 3, none⟩ : Addr).block from hk)]
          exact ⟨(hs p _ (by omega)).trans q0, (hs b _ (by omega)).trans q1, (hs b _ (by omega)).trans q2⟩
      have n1 : wr.heap.size ≠ x := by have := hfr.out.size; omega
      have n2 : wr.heap.size ≠ p := by have := hfr.out.size; omega
      have n3 : wr.heap.size ≠ b := by have := hfr.out.size; omega
      have HONE : Hid (∀ u ∈ ([.string (mk8 e0), .int .i64 e1] : List Value), u.oneCell' = true) := Lib.hid (by simp [Value.oneCell'])
      have hln : k + 1 ≤ 100000 := by omega
      have HSZ := Lib.hid hfr.out.size
      have HEND : Hid (∀ (o : Obj) (w' : World) (ao' : Option Addr) (c' : Nat), (wr.drew.alloc o).grownBy w' v.ownBlock → w'.ownsRow w3.heap.size 83 2 (.slice ao' (k + 1) c') (k + 1) (flatE encG (gs.take (k + 1))) →
          Fr x w3 (w'.setCell ⟨x, 3, none⟩ (.slice ao' (k + 1) c')) ∧ XB x sn fs fz (.slice ao' (k + 1) c') (.slice none 0 0) (.slice none 0 0) (w'.setCell ⟨x, 3, none⟩ (.slice ao' (k + 1) c')) ∧ (w'.setCell ⟨x, 3, none⟩ (.slice ao' (k + 1) c')).ownsRow w3.heap.size 83 2 (.slice ao' (k + 1) c') (k + 1) (flatE encG (gs.take (k + 1)))) := fun o w' ao' c' hg hw => by
        obtain ⟨F1, F2, F3⟩ := grown_fr (j := 3) hfr.out hxs how.out hg hw
        refine ⟨F1, ?_, F3⟩
        have := heap_setCell_c (F2.trans hxb.out) 3 (.slice ao' (k + 1) c')
        simpa using this
      clear he r1 hr ha htp hfr hxb
      go_upto_region 5 with fail
      clear HG HL HK HT3 HX3 how HPW
      refine wp_region_held_drew (S := (fun w' => w'.cell? ⟨p, 3, none⟩ = some (.slice (some ⟨b, off, none⟩) gs.length cg) ∧ w'.cell? ⟨b, off + k * 2, none⟩ = some (.string (mk8 e0)) ∧ w'.cell? ⟨b, off + k * 2 + 1, none⟩ = some (.int .i64 e1))) (by kernel_rfl) (by go_keep) (fun hHeld => ?_)
      refine' wpAnyH_take (i := 0) (oi := _) (v := _) ?hi1 (by kernel_rfl) (by kernel_rfl) (by kernel_rfl) ?hQ1 (Or.inl ⟨?hw1, ?hy1⟩) hHeld ?rest1
      case hi1 => simp only [List.getElem?_toArray, List.getElem?_cons_zero]; rfl
      case hQ1 => exact fun _ _ _ h => h
      case hw1 => rfl
      case hy1 =>
        intro w hSw
        try dsimp only at hSw
        go_simp
        all_goals with_reducible rfl
      try simp only [Act.put, List.setIfInBounds_toArray, List.set_cons_zero, List.set_cons_succ]
      refine' wpAnyH_take (i := 2) (oi := _) (v := _) ?hi2 (by kernel_rfl) (by kernel_rfl) (by kernel_rfl) ?hQ2 (Or.inl ⟨?hw2, ?hy2⟩) hHeld ?rest2
      case hi2 => simp only [List.getElem?_toArray, List.getElem?_cons_succ, List.getElem?_cons_zero]; rfl
      case hQ2 => exact fun _ _ _ h => h
      case hw2 => rfl
      case hy2 =>
        intro w hSw
        try dsimp only at hSw
        go_simp
        all_goals with_reducible rfl
      try simp only [Act.put, List.setIfInBounds_toArray, List.set_cons_zero, List.set_cons_succ]
      refine' wpAnyH_take (i := 3) (oi := _) (v := _) ?hi3 (by kernel_rfl) (by kernel_rfl) (by kernel_rfl) ?hQ3 (Or.inl ⟨?hw3, ?hy3⟩) hHeld ?rest3
      case hi3 => simp only [List.getElem?_toArray, List.getElem?_cons_succ, List.getElem?_cons_zero]; rfl
      case hQ3 => exact fun _ _ _ h => h
      case hw3 => rfl
      case hy3 =>
        intro w hSw
        try dsimp only at hSw
        go_simp
        all_goals with_reducible rfl
      try simp only [Act.put, List.setIfInBounds_toArray, List.set_cons_zero, List.set_cons_succ]
      refine' wpAnyH_take (i := 4) (oi := _) (v := _) ?hi4 (by kernel_rfl) (by kernel_rfl) (by kernel_rfl) ?hQ4 (Or.inl ⟨?hw4, ?hy4⟩) hHeld ?rest4
      case hi4 => simp only [List.getElem?_toArray, List.getElem?_cons_succ, List.getElem?_cons_zero]; rfl
      case hQ4 => exact fun _ _ _ h => h
      case hw4 => rfl
      case hy4 =>
        intro w hSw
        try dsimp only at hSw
        go_simp
        all_goals with_reducible rfl
      try simp only [Act.put, List.setIfInBounds_toArray, List.set_cons_zero, List.set_cons_succ]
      refine' wpAnyH_take (i := 5) (oi := _) (v := _) ?hi5 (by kernel_rfl) (by kernel_rfl) (by kernel_rfl) ?hQ5 (Or.inl ⟨?hw5, ?hy5⟩) hHeld ?rest5
      case hi5 => simp only [List.getElem?_toArray, List.getElem?_cons_succ, List.getElem?_cons_zero]; rfl
      case hQ5 => exact fun _ _ _ h => h
      case hw5 => rfl
      case hy5 =>
        intro w hSw
        try dsimp only at hSw
        go_simp
        all_goals with_reducible rfl
      try simp only [Act.put, List.setIfInBounds_toArray, List.set_cons_zero, List.set_cons_succ]
      refine' wpAnyH_take (i := 6) (oi := _) (v := _) ?hi6 (by kernel_rfl) (by kernel_rfl) (by kernel_rfl) ?hQ6 (Or.inl ⟨?hw6, ?hy6⟩) hHeld ?rest6
      case hi6 => simp only [List.getElem?_toArray, List.getElem?_cons_succ, List.getElem?_cons_zero]; rfl
      case hQ6 => exact fun _ _ _ h => h
      case hw6 => rfl
      case hy6 =>
        intro w hSw
        try dsimp only at hSw
        go_simp
        all_goals with_reducible rfl
      try simp only [Act.put, List.setIfInBounds_toArray, List.set_cons_zero, List.set_cons_succ]
      refine' wpAnyH_take (i := 7) (oi := _) (v := _) ?hi7 (by kernel_rfl) (by kernel_rfl) (by kernel_rfl) ?hQ7 (Or.inl ⟨?hw7, ?hy7⟩) hHeld ?rest7
      case hi7 => simp only [List.getElem?_toArray, List.getElem?_cons_succ, List.getElem?_cons_zero]; rfl
      case hQ7 => exact fun _ _ _ h => h
      case hw7 => rfl
      case hy7 =>
        intro w hSw
        try dsimp only at hSw
        go_simp
        all_goals with_reducible rfl
      try simp only [Act.put, List.setIfInBounds_toArray, List.set_cons_zero, List.set_cons_succ]
      refine' wpAnyH_take (i := 8) (oi := _) (v := _) ?hi8 (by kernel_rfl) (by kernel_rfl) (by kernel_rfl) ?hQ8 (Or.inl ⟨?hw8, ?hy8⟩) hHeld ?rest8
      case hi8 => simp only [List.getElem?_toArray, List.getElem?_cons_succ, List.getElem?_cons_zero]; rfl
      case hQ8 => exact fun _ _ _ h => h
      case hw8 => rfl
      case hy8 =>
        intro w hSw
        try dsimp only at hSw
        go_simp
        all_goals with_reducible rfl
      try simp only [Act.put, List.setIfInBounds_toArray, List.set_cons_zero, List.set_cons_succ]
      refine' wpAnyH_take (i := 9) (oi := _) (v := _) ?hi9 (by kernel_rfl) (by kernel_rfl) (by kernel_rfl) ?hQ9 (Or.inl ⟨?hw9, ?hy9⟩) hHeld ?rest9
      case hi9 => simp only [List.getElem?_toArray, List.getElem?_cons_succ, List.getElem?_cons_zero]; rfl
      case hQ9 => exact fun _ _ _ h => h
      case hw9 => rfl
      case hy9 =>
        intro w hSw
        try dsimp only at hSw
        go_simp
        all_goals with_reducible rfl
      try simp only [Act.put, List.setIfInBounds_toArray, List.set_cons_zero, List.set_cons_succ]
      refine' wpAnyH_take (i := 10) (oi := _) (v := _) ?hi10 (by kernel_rfl) (by kernel_rfl) (by kernel_rfl) ?hQ10 (Or.inl ⟨?hw10, ?hy10⟩) hHeld ?rest10
      case hi10 => simp only [List.getElem?_toArray, List.getElem?_cons_succ, List.getElem?_cons_zero]; rfl
      case hQ10 => exact fun _ _ _ h => h
      case hw10 => rfl
      case hy10 =>
        intro w hSw
        try dsimp only at hSw
        go_simp
        all_goals with_reducible rfl
      try simp only [Act.put, List.setIfInBounds_toArray, List.set_cons_zero, List.set_cons_succ]
      refine' wpAnyH_take (i := 11) (oi := _) (v := _) ?hi11 (by kernel_rfl) (by kernel_rfl) (by kernel_rfl) ?hQ11 (Or.inl ⟨?hw11, ?hy11⟩) hHeld ?rest11
      case hi11 => simp only [List.getElem?_toArray, List.getElem?_cons_succ, List.getElem?_cons_zero]; rfl
      case hQ11 => exact fun _ _ _ h => h
      case hw11 => rfl
      case hy11 =>
        intro w hSw
        try dsimp only at hSw
        go_simp
        all_goals with_reducible rfl
      try simp only [Act.put, List.setIfInBounds_toArray, List.set_cons_zero, List.set_cons_succ]
      refine' wpAnyH_take (i := 12) (oi := _) (v := _) ?hi12 (by kernel_rfl) (by kernel_rfl) (by kernel_rfl) ?hQ12 (Or.inl ⟨?hw12, ?hy12⟩) hHeld ?rest12
      case hi12 => simp only [List.getElem?_toArray, List.getElem?_cons_succ, List.getElem?_cons_zero]; rfl
      case hQ12 => exact fun _ _ _ h => h
      case hw12 => rfl
      case hy12 =>
        intro w hSw
        try dsimp only at hSw
        go_simp
        all_goals with_reducible rfl
      try simp only [Act.put, List.setIfInBounds_toArray, List.set_cons_zero, List.set_cons_succ]
      refine' wpAnyH_take (i := 13) (oi := _) (v := _) ?hi13 (by kernel_rfl) (by kernel_rfl) (by kernel_rfl) ?hQ13 (Or.inl ⟨?hw13, ?hy13⟩) hHeld ?rest13
      case hi13 => simp only [List.getElem?_toArray, List.getElem?_cons_succ, List.getElem?_cons_zero]; rfl
      case hQ13 => exact fun _ _ _ h => h
      case hw13 => rfl
      case hy13 =>
        intro w hSw
        try dsimp only at hSw
        go_simp
        all_goals with_reducible rfl
      try simp only [Act.put, List.setIfInBounds_toArray, List.set_cons_zero, List.set_cons_succ]
      refine' wpAnyH_take (i := 14) (oi := _) (v := _) ?hi14 (by kernel_rfl) (by kernel_rfl) (by kernel_rfl) ?hQ14 (Or.inl ⟨?hw14, ?hy14⟩) hHeld ?rest14
      case hi14 => simp only [List.getElem?_toArray, List.getElem?_cons_succ, List.getElem?_cons_zero]; rfl
      case hQ14 => exact fun _ _ _ h => h
      case hw14 => rfl
      case hy14 =>
        intro w hSw
        try dsimp only at hSw
        go_simp
        all_goals with_reducible rfl
      try simp only [Act.put, List.setIfInBounds_toArray, List.set_cons_zero, List.set_cons_succ]
      refine wpAnyH_ready (rs := [1, 15]) (by kernel_rfl) (by simp) ?_
      refine' AllReadyH.cons (o := _) ?ha24 (fun K hK => ?sa24) ?ma24
      case ha24 => simp only [List.getElem?_toArray, List.getElem?_cons_succ, List.getElem?_cons_zero]; rfl
      case sa24 =>
        go_simp
        refine hK.out _ _ ?_ (fun hHeld => ?_)
        · exact hHeld
        clear hK K
        try simp only [Act.put, List.setIfInBounds_toArray, List.set_cons_zero, List.set_cons_succ]
        refine wpAnyH_ready (rs := [15]) (by kernel_rfl) (by simp) ?_
        refine' AllReadyH.cons (o := _) ?ha18 (fun K hK => ?sa18) ?ma18
        case ha18 => simp only [List.getElem?_toArray, List.getElem?_cons_succ, List.getElem?_cons_zero]; rfl
        case sa18 =>
          go_simp
          refine hK.out _ _ ?_ (fun hHeld => ?_)
          · go_keep
          clear hK K
          try simp only [Act.put, List.setIfInBounds_toArray, List.set_cons_zero, List.set_cons_succ]
          refine wpAnyH_ready (rs := [16]) (by kernel_rfl) (by simp) ?_
          refine' AllReadyH.cons (o := _) ?ha17 (fun K hK => ?sa17) ?ma17
          case ha17 => simp only [List.getElem?_toArray, List.getElem?_cons_succ, List.getElem?_cons_zero]; rfl
          case sa17 =>
            refine step_rg rfl (.tmp 22) (.tmp 36) rfl (v := v) (news := [.string (mk8 e0), .int .i64 e1]) (by simp [Act.eval]) ⟨wr.heap.size, 0, none⟩ (by simp [Act.eval]) (HOW.out _) rfl (news_at (cs := [.string (mk8 e0), .int .i64 e1])) HONE.out hln (by have := HSZ.out; simp; omega) ?_
            intro v' w' h1 h2
            obtain ⟨ao', c', rfl⟩ := own_form h1
            have hkk := (HKp.out _ w' h2).1
            have hfz := (HKp.out _ w' h2).2.1.1
            have hxv := (HKp.out _ w' h2).2.1.2
            have HKS := Lib.hid (HKp.out _ w' h2).2.2
            rw [← HTK.out] at h1
            have HE := Lib.hid (HEND.out _ w' ao' c' h2 h1)
            clear h1 h2
            refine hK.out _ _ ?_ (fun hHeld => ?_)
            · exact hkk
            clear hK K
            try simp only [Act.put, List.setIfInBounds_toArray, List.set_cons_zero, List.set_cons_succ]
            refine' wpAnyH_take (i := 17) (oi := _) (v := _) ?hi15 (by kernel_rfl) (by kernel_rfl) (by kernel_rfl) ?hQ15 (Or.inl ⟨?hw15, ?hy15⟩) hHeld ?rest15
            case hi15 => simp only [List.getElem?_toArray, List.getElem?_cons_succ, List.getElem?_cons_zero]; rfl
            case hQ15 => exact fun _ _ _ h => h
            case hw15 => rfl
            case hy15 =>
              intro w hSw
              try dsimp only at hSw
              go_simp
              all_goals with_reducible rfl
            try simp only [Act.put, List.setIfInBounds_toArray, List.set_cons_zero, List.set_cons_succ]
            refine wpAnyH_ready (rs := [18]) (by kernel_rfl) (by simp) ?_
            refine' AllReadyH.cons (o := _) ?ha16 (fun K hK => ?sa16) ?ma16
            case ha16 => simp only [List.getElem?_toArray, List.getElem?_cons_succ, List.getElem?_cons_zero]; rfl
            case sa16 =>
              go_simp
              refine hK.out _ _ ?_ (fun hHeld => ?_)
              · exact HKS.out _
              clear hK K
              try simp only [Act.put, List.setIfInBounds_toArray, List.set_cons_zero, List.set_cons_succ]
              refine wpAnyH_done (by kernel_rfl) ?_ _
              clear hHeld hkk hfz hxv HKS HKp HOW HONE HTK HEND
              obtain ⟨wn, hwn⟩ : ∃ z, w'.setCell ⟨x, 3, none⟩ (.slice ao' (k + 1) c') = z := ⟨_, rfl⟩
              rw [hwn] at HE
              rw [hwn]
              clear hwn x3 x3a f3 c0 c1 p3
              go_wp2_with fail
              go_roundw
              case rel => exact ⟨k + 1, .slice ao' (k + 1) c', by omega, by go_num, HE.out.1, HE.out.2.1, HE.out.2.2⟩
              case measure => simp [intOf]; omega
            case ma16 =>
              exact AllReadyH.nil
          case ma17 =>
            exact AllReadyH.nil
        case ma18 =>
          exact AllReadyH.nil
      case ma24 =>
        refine' AllReadyH.cons (o := _) ?ha23 (fun K hK => ?sa23) ?ma23
        case ha23 => simp only [List.getElem?_toArray, List.getElem?_cons_succ, List.getElem?_cons_zero]; rfl
        case sa23 =>
          go_simp
          refine hK.out _ _ ?_ (fun hHeld => ?_)
          · go_keep
          clear hK K
          try simp only [Act.put, List.setIfInBounds_toArray, List.set_cons_zero, List.set_cons_succ]
          refine wpAnyH_ready (rs := [1]) (by kernel_rfl) (by simp) ?_
          refine' AllReadyH.cons (o := _) ?ha22 (fun K hK => ?sa22) ?ma22
          case ha22 => simp only [List.getElem?_toArray, List.getElem?_cons_succ, List.getElem?_cons_zero]; rfl
          case sa22 =>
            go_simp
            refine hK.out _ _ ?_ (fun hHeld => ?_)
            · exact hHeld
            clear hK K
            try simp only [Act.put, List.setIfInBounds_toArray, List.set_cons_zero, List.set_cons_succ]
            refine wpAnyH_ready (rs := [16]) (by kernel_rfl) (by simp) ?_
            refine' AllReadyH.cons (o := _) ?ha21 (fun K hK => ?sa21) ?ma21
            case ha21 => simp only [List.getElem?_toArray, List.getElem?_cons_succ, List.getElem?_cons_zero]; rfl
            case sa21 =>
              refine step_rg rfl (.tmp 22) (.tmp 36) rfl (v := v) (news := [.string (mk8 e0), .int .i64 e1]) (by simp [Act.eval]) ⟨wr.heap.size, 0, none⟩ (by simp [Act.eval]) (HOW.out _) rfl (news_at (cs := [.string (mk8 e0), .int .i64 e1])) HONE.out hln (by have := HSZ.out; simp; omega) ?_
              intro v' w' h1 h2
              obtain ⟨ao', c', rfl⟩ := own_form h1
              have hkk := (HKp.out _ w' h2).1
              have hfz := (HKp.out _ w' h2).2.1.1
              have hxv := (HKp.out _ w' h2).2.1.2
              have HKS := Lib.hid (HKp.out _ w' h2).2.2
              rw [← HTK.out] at h1
              have HE := Lib.hid (HEND.out _ w' ao' c' h2 h1)
              clear h1 h2
              refine hK.out _ _ ?_ (fun hHeld => ?_)
              · exact hkk
              clear hK K
              try simp only [Act.put, List.setIfInBounds_toArray, List.set_cons_zero, List.set_cons_succ]
              refine' wpAnyH_take (i := 17) (oi := _) (v := _) ?hi19 (by kernel_rfl) (by kernel_rfl) (by kernel_rfl) ?hQ19 (Or.inl ⟨?hw19, ?hy19⟩) hHeld ?rest19
              case hi19 => simp only [List.getElem?_toArray, List.getElem?_cons_succ, List.getElem?_cons_zero]; rfl
              case hQ19 => exact fun _ _ _ h => h
              case hw19 => rfl
              case hy19 =>
                intro w hSw
                try dsimp only at hSw
                go_simp
                all_goals with_reducible rfl
              try simp only [Act.put, List.setIfInBounds_toArray, List.set_cons_zero, List.set_cons_succ]
              refine wpAnyH_ready (rs := [18]) (by kernel_rfl) (by simp) ?_
              refine' AllReadyH.cons (o := _) ?ha20 (fun K hK => ?sa20) ?ma20
              case ha20 => simp only [List.getElem?_toArray, List.getElem?_cons_succ, List.getElem?_cons_zero]; rfl
              case sa20 =>
                go_simp
                refine hK.out _ _ ?_ (fun hHeld => ?_)
                · exact HKS.out _
                clear hK K
                try simp only [Act.put, List.setIfInBounds_toArray, List.set_cons_zero, List.set_cons_succ]
                refine wpAnyH_done (by kernel_rfl) ?_ _
                clear hHeld hkk hfz hxv HKS HKp HOW HONE HTK HEND
                obtain ⟨wn, hwn⟩ : ∃ z, w'.setCell ⟨x, 3, none⟩ (.slice ao' (k + 1) c') = z := ⟨_, rfl⟩
                rw [hwn] at HE
                rw [hwn]
                clear hwn x3 x3a f3 c0 c1 p3
                go_wp2_with fail
                go_roundw
                case rel => exact ⟨k + 1, .slice ao' (k + 1) c', by omega, by go_num, HE.out.1, HE.out.2.1, HE.out.2.2⟩
                case measure => simp [intOf]; omega
              case ma20 =>
                exact AllReadyH.nil
            case ma21 =>
              exact AllReadyH.nil
          case ma22 =>
            exact AllReadyH.nil
        case ma23 =>
          exact AllReadyH.nil
    · have hkl : k = gs.length := by omega
      subst hkl
      have hz1 : ¬ ((gs.length : Nat) : Int) < gs.length := by omega
      rw [List.take_length] at how
      go_wp2_with fail
      have hB0 : x < w3.heap.size := hxs
      have HT3' := Lib.hid htp
      have HR3' : Hid (XB r ⟨#[]⟩ false 0 (.slice none 0 0) (.slice none 0 0) (.slice none 0 0) wr) := by show _ = _; rw [hfr.out.block r (by omega) (by omega)]; exact HR3.out
      have hxs' : x < wr.heap.size := by have := hfr.out.size; omega
      have hGO : Hid (wr.ownsRow w3.heap.size 83 2 v gs.length (flatE encG gs)) := how
      obtain ⟨B0, hB0'⟩ : ∃ z, w3.heap.size = z := ⟨_, rfl⟩
      rw [hB0'] at hGO hB0
      clear HT3 HX3 HR3 HB3 hxs how hfr htp hB0' 
      clear p3
      obtain ⟨wA0, hA0⟩ : ∃ z, z = wr := ⟨_, rfl⟩
      subst hA0
      obtain ⟨w3, hw3⟩ : ∃ z, z = wA0 := ⟨_, rfl⟩
      subst hw3
      obtain ⟨V0, hV0⟩ : ∃ z, v = z := ⟨_, rfl⟩
      rw [hV0] at hxb hGO
      clear hV0 v
      have HX3 := hxb
      have HT3 := HT3'
      have HR3 := HR3'
      have HB3 := HBw
      have hxs := hxs'
      have HO0 := hGO
      clear hxb HT3' HR3' HBw hxs' hGO 
      go_loopw [5] (fun i wr => ∃ (k : Nat) (v : Value), k ≤ ls.length ∧ i = .int .i64 k ∧ Hid (Fr x w3 wr) ∧ Hid (XB x sn fs fz V0 v (.slice none 0 0) wr) ∧ Hid (wr.ownsRow w3.heap.size 85 3 v k (flatE encLg (ls.take k)))) (fun i _ => ls.length - (intOf i).toNat)
      case atStart => exact ⟨0, .slice none 0 0, by omega, rfl, Fr.refl _ _, HX3.out, World.ownsRow_nil _ _ _ _⟩
      case round =>
        obtain ⟨k, v, hk, rfl, hfr, hxb, how⟩ := hrel
        have htp : wr.heap[p]? = some (.cells #[.string sn, .bool fs, .int .i64 fz, .slice ag gs.length cg, .slice al ls.length cl, .slice ak ks.length ck] 37 (0, 0)) := by rw [hfr.out.block p (by omega) (by omega)]; exact HT3.out
        have p3 := cell_of (j := 4) htp rfl
        have HBw := Lib.hid (HB3.out.trans (hfr.out.below (B := w.heap.size) (by rw [HPW.out]; omega) HB3.out.size))
        by_cases hlt : k < ls.length
        · obtain ⟨b, off, ha, hr⟩ := HL.out
          obtain ⟨rfl, hbw⟩ := ha (by omega)
          obtain ⟨e, he⟩ : ∃ e, ls[k]! = e := ⟨_, rfl⟩
          have r1 := hr k hlt
          rw [he] at r1
          obtain ⟨e0, e1, e2⟩ := e
          have c0 := (HBw.out.cell (p := ⟨b, off + k * 3 + 0, none⟩) hbw).trans (r1 0 _ rfl)
          have c1 := (HBw.out.cell (p := ⟨b, off + k * 3 + 1, none⟩) hbw).trans (r1 1 _ rfl)
          have c2 := (HBw.out.cell (p := ⟨b, off + k * 3 + 2, none⟩) hbw).trans (r1 2 _ rfl)
          rw [Nat.add_zero] at c0
          simp only at c0 c1 c2
          have hz1 : (k : Int) < ls.length := by omega
          have hz0 : (0 : Int) ≤ k := by omega
          have x3 := cell_of (j := 4) hxb.out rfl
          have f3 := frozen_of (j := 4) hxb.out
          have HTK : Hid (flatE encLg (ls.take (k + 1)) = flatE encLg (ls.take k) ++ [.string (mk8 e0), .string (mk8 e1), .string (mk8 e2)]) := by show _ = _; rw [flat_take hlt, he]; rfl
          have hbx : b < p := by have := HPW.out; omega
          have HOW := Lib.hid (fun (o : Obj) => owns_below how.out (below_dalloc wr o))
          have hsx := hfr.out.size
          have x3a : ∀ o : Obj, (wr.alloc o).cell? ⟨x, 4, none⟩ = some v := fun o => (((Below.refl wr.heap.size wr).alloc (Nat.le_refl _) o).cell (p := ⟨x, 4, none⟩) (show x < wr.heap.size by omega)).trans x3
          clear hsx
          have HKp : Hid (∀ (o : Obj) (w' : World), (wr.drew.alloc o).grownBy w' v.ownBlock → (w'.cell? ⟨p, 4, none⟩ = some (.slice (some ⟨b, off, none⟩) ls.length cl) ∧ w'.cell? ⟨b, off + k * 3, none⟩ = some (.string (mk8 e0)) ∧ w'.cell? ⟨b, off + k * 3 + 1, none⟩ = some (.string (mk8 e1)) ∧ w'.cell? ⟨b, off + k * 3 + 2, none⟩ = some (.string (mk8 e2))) ∧ (w'.frozen? ⟨x, 4, none⟩ = false ∧ w'.cell? ⟨x, 4, none⟩ = some v) ∧ ∀ u : Value, (w'.setCell ⟨x, 4, none⟩ u).cell? ⟨p, 4, none⟩ = some (.slice (some ⟨b, off, none⟩) ls.length cl) ∧ (w'.setCell ⟨x, 4, none⟩ u).cell? ⟨b, off + k * 3, none⟩ = some (.string (mk8 e0)) ∧ (w'.setCell ⟨x, 4, none⟩ u).cell? ⟨b, off + k * 3 + 1, none⟩ = some (.string (mk8 e1)) ∧ (w'.setCell ⟨x, 4, none⟩ u).cell? ⟨b, off + k * 3 + 2, none⟩ = some (.string (mk8 e2))) := fun o w' hg => by
            have hv : ∀ k, v.ownBlock = some k → w3.heap.size ≤ k := fun k hk => (how.out.lt k hk).1
            have hsz := hfr.out.size
            have hb : ∀ k, k < w3.heap.size → w'.heap[k]? = wr.heap[k]? := fun k hk => by
              rw [hg.block k (by simp; omega) (fun e => by have := hv k e.symm; omega)]
              exact (below_dalloc wr o).block k (by omega)
            have hc : ∀ (k j : Nat), k < w3.heap.size → w'.cell? ⟨k, j, none⟩ = wr.cell? ⟨k, j, none⟩ := fun k j hk => by simp only [World.cell?, hb k hk]
            have q0 : w'.cell? ⟨p, 4, none⟩ = _ := (hc p _ (by omega)).trans p3
            have q1 := (hc b _ (by omega)).trans c0
            have q2 := (hc b _ (by omega)).trans c1
            have q3 := (hc b _ (by omega)).trans c2
            refine ⟨⟨q0, q1, q2, q3⟩, ?_, fun u => ?_⟩
            · refine ⟨?_, (hc x _ hxs).trans x3⟩
              simp only [World.frozen?, hb x hxs]
              exact f3
            · have hs : ∀ (k j : Nat), k ≠ x → (w'.setCell ⟨x, 4, none⟩ u).cell? ⟨k, j, none⟩ = w'.cell? ⟨k, j, none⟩ := fun k j hk => by simp only [World.cell?, Below.heap_setCell _ (⟨x, 4, none⟩ : Addr) _ _ (show k ≠ (⟨x, 4, none⟩ : Addr).block from hk)]
              exact ⟨(hs p _ (by omega)).trans q0, (hs b _ (by omega)).trans q1, (hs b _ (by omega)).trans q2, (hs b _ (by omega)).trans q3⟩
          have n1 : wr.heap.size ≠ x := by have := hfr.out.size; omega
          have n2 : wr.heap.size ≠ p := by have := hfr.out.size; omega
          have n3 : wr.heap.size ≠ b := by have := hfr.out.size; omega
          have HONE : Hid (∀ u ∈ ([.string (mk8 e0), .string (mk8 e1), .string (mk8 e2)] : List Value), u.oneCell' = true) := Lib.hid (by simp [Value.oneCell'])
          have hln : k + 1 ≤ 100000 := by omega
          have HSZ := Lib.hid hfr.out.size
          have HEND : Hid (∀ (o : Obj) (w' : World) (ao' : Option Addr) (c' : Nat), (wr.drew.alloc o).grownBy w' v.ownBlock → w'.ownsRow w3.heap.size 85 3 (.slice ao' (k + 1) c') (k + 1) (flatE encLg (ls.take (k + 1))) →
              Fr x w3 (w'.setCell ⟨x, 4, none⟩ (.slice ao' (k + 1) c')) ∧ XB x sn fs fz V0 (.slice ao' (k + 1) c') (.slice none 0 0) (w'.setCell ⟨x, 4, none⟩ (.slice ao' (k + 1) c')) ∧ (w'.setCell ⟨x, 4, none⟩ (.slice ao' (k + 1) c')).ownsRow w3.heap.size 85 3 (.slice ao' (k + 1) c') (k + 1) (flatE encLg (ls.take (k + 1)))) := fun o w' ao' c' hg hw => by
            obtain ⟨F1, F2, F3⟩ := grown_fr (j := 4) hfr.out hxs how.out hg hw
            refine ⟨F1, ?_, F3⟩
            have := heap_setCell_c (F2.trans hxb.out) 4 (.slice ao' (k + 1) c')
            simpa using this
          clear he r1 hr ha htp hfr hxb
          go_upto_region 9 with fail
          clear HG HL HK HT3 HX3 how HPW
          refine wp_region_held_drew (S := (fun w' => w'.cell? ⟨p, 4, none⟩ = some (.slice (some ⟨b, off, none⟩) ls.length cl) ∧ w'.cell? ⟨b, off + k * 3, none⟩ = some (.string (mk8 e0)) ∧ w'.cell? ⟨b, off + k * 3 + 1, none⟩ = some (.string (mk8 e1)) ∧ w'.cell? ⟨b, off + k * 3 + 2, none⟩ = some (.string (mk8 e2)))) (by kernel_rfl) (by go_keep) (fun hHeld => ?_)
          refine' wpAnyH_take (i := 0) (oi := _) (v := _) ?hi25 (by kernel_rfl) (by kernel_rfl) (by kernel_rfl) ?hQ25 (Or.inl ⟨?hw25, ?hy25⟩) hHeld ?rest25
          case hi25 => simp only [List.getElem?_toArray, List.getElem?_cons_zero]; rfl
          case hQ25 => exact fun _ _ _ h => h
          case hw25 => rfl
          case hy25 =>
            intro w hSw
            try dsimp only at hSw
            go_simp
            all_goals with_reducible rfl
          try simp only [Act.put, List.setIfInBounds_toArray, List.set_cons_zero, List.set_cons_succ]
          refine' wpAnyH_take (i := 2) (oi := _) (v := _) ?hi26 (by kernel_rfl) (by kernel_rfl) (by kernel_rfl) ?hQ26 (Or.inl ⟨?hw26, ?hy26⟩) hHeld ?rest26
          case hi26 => simp only [List.getElem?_toArray, List.getElem?_cons_succ, List.getElem?_cons_zero]; rfl
          case hQ26 => exact fun _ _ _ h => h
          case hw26 => rfl
          case hy26 =>
            intro w hSw
            try dsimp only at hSw
            go_simp
            all_goals with_reducible rfl
          try simp only [Act.put, List.setIfInBounds_toArray, List.set_cons_zero, List.set_cons_succ]
          refine' wpAnyH_take (i := 3) (oi := _) (v := _) ?hi27 (by kernel_rfl) (by kernel_rfl) (by kernel_rfl) ?hQ27 (Or.inl ⟨?hw27, ?hy27⟩) hHeld ?rest27
          case hi27 => simp only [List.getElem?_toArray, List.getElem?_cons_succ, List.getElem?_cons_zero]; rfl
          case hQ27 => exact fun _ _ _ h => h
          case hw27 => rfl
          case hy27 =>
            intro w hSw
            try dsimp only at hSw
            go_simp
            all_goals with_reducible rfl
          try simp only [Act.put, List.setIfInBounds_toArray, List.set_cons_zero, List.set_cons_succ]
          refine' wpAnyH_take (i := 4) (oi := _) (v := _) ?hi28 (by kernel_rfl) (by kernel_rfl) (by kernel_rfl) ?hQ28 (Or.inl ⟨?hw28, ?hy28⟩) hHeld ?rest28
          case hi28 => simp only [List.getElem?_toArray, List.getElem?_cons_succ, List.getElem?_cons_zero]; rfl
          case hQ28 => exact fun _ _ _ h => h
          case hw28 => rfl
          case hy28 =>
            intro w hSw
            try dsimp only at hSw
            go_simp
            all_goals with_reducible rfl
          try simp only [Act.put, List.setIfInBounds_toArray, List.set_cons_zero, List.set_cons_succ]
          refine' wpAnyH_take (i := 5) (oi := _) (v := _) ?hi29 (by kernel_rfl) (by kernel_rfl) (by kernel_rfl) ?hQ29 (Or.inl ⟨?hw29, ?hy29⟩) hHeld ?rest29
          case hi29 => simp only [List.getElem?_toArray, List.getElem?_cons_succ, List.getElem?_cons_zero]; rfl
          case hQ29 => exact fun _ _ _ h => h
          case hw29 => rfl
          case hy29 =>
            intro w hSw
            try dsimp only at hSw
            go_simp
            all_goals with_reducible rfl
          try simp only [Act.put, List.setIfInBounds_toArray, List.set_cons_zero, List.set_cons_succ]
          refine' wpAnyH_take (i := 6) (oi := _) (v := _) ?hi30 (by kernel_rfl) (by kernel_rfl) (by kernel_rfl) ?hQ30 (Or.inl ⟨?hw30, ?hy30⟩) hHeld ?rest30
          case hi30 => simp only [List.getElem?_toArray, List.getElem?_cons_succ, List.getElem?_cons_zero]; rfl
          case hQ30 => exact fun _ _ _ h => h
          case hw30 => rfl
          case hy30 =>
            intro w hSw
            try dsimp only at hSw
            go_simp
            all_goals with_reducible rfl
          try simp only [Act.put, List.setIfInBounds_toArray, List.set_cons_zero, List.set_cons_succ]
          refine' wpAnyH_take (i := 7) (oi := _) (v := _) ?hi31 (by kernel_rfl) (by kernel_rfl) (by kernel_rfl) ?hQ31 (Or.inl ⟨?hw31, ?hy31⟩) hHeld ?rest31
          case hi31 => simp only [List.getElem?_toArray, List.getElem?_cons_succ, List.getElem?_cons_zero]; rfl
          case hQ31 => exact fun _ _ _ h => h
          case hw31 => rfl
          case hy31 =>
            intro w hSw
            try dsimp only at hSw
            go_simp
            all_goals with_reducible rfl
          try simp only [Act.put, List.setIfInBounds_toArray, List.set_cons_zero, List.set_cons_succ]
          refine' wpAnyH_take (i := 8) (oi := _) (v := _) ?hi32 (by kernel_rfl) (by kernel_rfl) (by kernel_rfl) ?hQ32 (Or.inl ⟨?hw32, ?hy32⟩) hHeld ?rest32
          case hi32 => simp only [List.getElem?_toArray, List.getElem?_cons_succ, List.getElem?_cons_zero]; rfl
          case hQ32 => exact fun _ _ _ h => h
          case hw32 => rfl
          case hy32 =>
            intro w hSw
            try dsimp only at hSw
            go_simp
            all_goals with_reducible rfl
          try simp only [Act.put, List.setIfInBounds_toArray, List.set_cons_zero, List.set_cons_succ]
          refine' wpAnyH_take (i := 9) (oi := _) (v := _) ?hi33 (by kernel_rfl) (by kernel_rfl) (by kernel_rfl) ?hQ33 (Or.inl ⟨?hw33, ?hy33⟩) hHeld ?rest33
          case hi33 => simp only [List.getElem?_toArray, List.getElem?_cons_succ, List.getElem?_cons_zero]; rfl
          case hQ33 => exact fun _ _ _ h => h
          case hw33 => rfl
          case hy33 =>
            intro w hSw
            try dsimp only at hSw
            go_simp
            all_goals with_reducible rfl
          try simp only [Act.put, List.setIfInBounds_toArray, List.set_cons_zero, List.set_cons_succ]
          refine' wpAnyH_take (i := 10) (oi := _) (v := _) ?hi34 (by kernel_rfl) (by kernel_rfl) (by kernel_rfl) ?hQ34 (Or.inl ⟨?hw34, ?hy34⟩) hHeld ?rest34
          case hi34 => simp only [List.getElem?_toArray, List.getElem?_cons_succ, List.getElem?_cons_zero]; rfl
          case hQ34 => exact fun _ _ _ h => h
          case hw34 => rfl
          case hy34 =>
            intro w hSw
            try dsimp only at hSw
            go_simp
            all_goals with_reducible rfl
          try simp only [Act.put, List.setIfInBounds_toArray, List.set_cons_zero, List.set_cons_succ]
          refine' wpAnyH_take (i := 11) (oi := _) (v := _) ?hi35 (by kernel_rfl) (by kernel_rfl) (by kernel_rfl) ?hQ35 (Or.inl ⟨?hw35, ?hy35⟩) hHeld ?rest35
          case hi35 => simp only [List.getElem?_toArray, List.getElem?_cons_succ, List.getElem?_cons_zero]; rfl
          case hQ35 => exact fun _ _ _ h => h
          case hw35 => rfl
          case hy35 =>
            intro w hSw
            try dsimp only at hSw
            go_simp
            all_goals with_reducible rfl
          try simp only [Act.put, List.setIfInBounds_toArray, List.set_cons_zero, List.set_cons_succ]
          refine' wpAnyH_take (i := 12) (oi := _) (v := _) ?hi36 (by kernel_rfl) (by kernel_rfl) (by kernel_rfl) ?hQ36 (Or.inl ⟨?hw36, ?hy36⟩) hHeld ?rest36
          case hi36 => simp only [List.getElem?_toArray, List.getElem?_cons_succ, List.getElem?_cons_zero]; rfl
          case hQ36 => exact fun _ _ _ h => h
          case hw36 => rfl
          case hy36 =>
            intro w hSw
            try dsimp only at hSw
            go_simp
            all_goals with_reducible rfl
          try simp only [Act.put, List.setIfInBounds_toArray, List.set_cons_zero, List.set_cons_succ]
          refine' wpAnyH_take (i := 13) (oi := _) (v := _) ?hi37 (by kernel_rfl) (by kernel_rfl) (by kernel_rfl) ?hQ37 (Or.inl ⟨?hw37, ?hy37⟩) hHeld ?rest37
          case hi37 => simp only [List.getElem?_toArray, List.getElem?_cons_succ, List.getElem?_cons_zero]; rfl
          case hQ37 => exact fun _ _ _ h => h
          case hw37 => rfl
          case hy37 =>
            intro w hSw
            try dsimp only at hSw
            go_simp
            all_goals with_reducible rfl
          try simp only [Act.put, List.setIfInBounds_toArray, List.set_cons_zero, List.set_cons_succ]
          refine' wpAnyH_take (i := 14) (oi := _) (v := _) ?hi38 (by kernel_rfl) (by kernel_rfl) (by kernel_rfl) ?hQ38 (Or.inl ⟨?hw38, ?hy38⟩) hHeld ?rest38
          case hi38 => simp only [List.getElem?_toArray, List.getElem?_cons_succ, List.getElem?_cons_zero]; rfl
          case hQ38 => exact fun _ _ _ h => h
          case hw38 => rfl
          case hy38 =>
            intro w hSw
            try dsimp only at hSw
            go_simp
            all_goals with_reducible rfl
          try simp only [Act.put, List.setIfInBounds_toArray, List.set_cons_zero, List.set_cons_succ]
          refine' wpAnyH_take (i := 15) (oi := _) (v := _) ?hi39 (by kernel_rfl) (by kernel_rfl) (by kernel_rfl) ?hQ39 (Or.inl ⟨?hw39, ?hy39⟩) hHeld ?rest39
          case hi39 => simp only [List.getElem?_toArray, List.getElem?_cons_succ, List.getElem?_cons_zero]; rfl
          case hQ39 => exact fun _ _ _ h => h
          case hw39 => rfl
          case hy39 =>
            intro w hSw
            try dsimp only at hSw
            go_simp
            all_goals with_reducible rfl
          try simp only [Act.put, List.setIfInBounds_toArray, List.set_cons_zero, List.set_cons_succ]
          refine' wpAnyH_take (i := 16) (oi := _) (v := _) ?hi40 (by kernel_rfl) (by kernel_rfl) (by kernel_rfl) ?hQ40 (Or.inl ⟨?hw40, ?hy40⟩) hHeld ?rest40
          case hi40 => simp only [List.getElem?_toArray, List.getElem?_cons_succ, List.getElem?_cons_zero]; rfl
          case hQ40 => exact fun _ _ _ h => h
          case hw40 => rfl
          case hy40 =>
            intro w hSw
            try dsimp only at hSw
            go_simp
            all_goals with_reducible rfl
          try simp only [Act.put, List.setIfInBounds_toArray, List.set_cons_zero, List.set_cons_succ]
          refine' wpAnyH_take (i := 17) (oi := _) (v := _) ?hi41 (by kernel_rfl) (by kernel_rfl) (by kernel_rfl) ?hQ41 (Or.inl ⟨?hw41, ?hy41⟩) hHeld ?rest41
          case hi41 => simp only [List.getElem?_toArray, List.getElem?_cons_succ, List.getElem?_cons_zero]; rfl
          case hQ41 => exact fun _ _ _ h => h
          case hw41 => rfl
          case hy41 =>
            intro w hSw
            try dsimp only at hSw
            go_simp
            all_goals with_reducible rfl
          try simp only [Act.put, List.setIfInBounds_toArray, List.set_cons_zero, List.set_cons_succ]
          refine' wpAnyH_take (i := 18) (oi := _) (v := _) ?hi42 (by kernel_rfl) (by kernel_rfl) (by kernel_rfl) ?hQ42 (Or.inl ⟨?hw42, ?hy42⟩) hHeld ?rest42
          case hi42 => simp only [List.getElem?_toArray, List.getElem?_cons_succ, List.getElem?_cons_zero]; rfl
          case hQ42 => exact fun _ _ _ h => h
          case hw42 => rfl
          case hy42 =>
            intro w hSw
            try dsimp only at hSw
            go_simp
            all_goals with_reducible rfl
          try simp only [Act.put, List.setIfInBounds_toArray, List.set_cons_zero, List.set_cons_succ]
          refine' wpAnyH_take (i := 19) (oi := _) (v := _) ?hi43 (by kernel_rfl) (by kernel_rfl) (by kernel_rfl) ?hQ43 (Or.inl ⟨?hw43, ?hy43⟩) hHeld ?rest43
          case hi43 => simp only [List.getElem?_toArray, List.getElem?_cons_succ, List.getElem?_cons_zero]; rfl
          case hQ43 => exact fun _ _ _ h => h
          case hw43 => rfl
          case hy43 =>
            intro w hSw
            try dsimp only at hSw
            go_simp
            all_goals with_reducible rfl
          try simp only [Act.put, List.setIfInBounds_toArray, List.set_cons_zero, List.set_cons_succ]
          refine' wpAnyH_take (i := 20) (oi := _) (v := _) ?hi44 (by kernel_rfl) (by kernel_rfl) (by kernel_rfl) ?hQ44 (Or.inl ⟨?hw44, ?hy44⟩) hHeld ?rest44
          case hi44 => simp only [List.getElem?_toArray, List.getElem?_cons_succ, List.getElem?_cons_zero]; rfl
          case hQ44 => exact fun _ _ _ h => h
          case hw44 => rfl
          case hy44 =>
            intro w hSw
            try dsimp only at hSw
            go_simp
            all_goals with_reducible rfl
          try simp only [Act.put, List.setIfInBounds_toArray, List.set_cons_zero, List.set_cons_succ]
          refine wpAnyH_ready (rs := [1, 21]) (by kernel_rfl) (by simp) ?_
          refine' AllReadyH.cons (o := _) ?ha54 (fun K hK => ?sa54) ?ma54
          case ha54 => simp only [List.getElem?_toArray, List.getElem?_cons_succ, List.getElem?_cons_zero]; rfl
          case sa54 =>
            go_simp
            refine hK.out _ _ ?_ (fun hHeld => ?_)
            · exact hHeld
            clear hK K
            try simp only [Act.put, List.setIfInBounds_toArray, List.set_cons_zero, List.set_cons_succ]
            refine wpAnyH_ready (rs := [21]) (by kernel_rfl) (by simp) ?_
            refine' AllReadyH.cons (o := _) ?ha48 (fun K hK => ?sa48) ?ma48
            case ha48 => simp only [List.getElem?_toArray, List.getElem?_cons_succ, List.getElem?_cons_zero]; rfl
            case sa48 =>
              go_simp
              refine hK.out _ _ ?_ (fun hHeld => ?_)
              · go_keep
              clear hK K
              try simp only [Act.put, List.setIfInBounds_toArray, List.set_cons_zero, List.set_cons_succ]
              refine wpAnyH_ready (rs := [22]) (by kernel_rfl) (by simp) ?_
              refine' AllReadyH.cons (o := _) ?ha47 (fun K hK => ?sa47) ?ma47
              case ha47 => simp only [List.getElem?_toArray, List.getElem?_cons_succ, List.getElem?_cons_zero]; rfl
              case sa47 =>
                refine step_rl rfl (.tmp 47) (.tmp 67) rfl (v := v) (news := [.string (mk8 e0), .string (mk8 e1), .string (mk8 e2)]) (by simp [Act.eval]) ⟨wr.heap.size, 0, none⟩ (by simp [Act.eval]) (HOW.out _) rfl (news_at (cs := [.string (mk8 e0), .string (mk8 e1), .string (mk8 e2)])) HONE.out hln (by have := HSZ.out; simp; omega) ?_
                intro v' w' h1 h2
                obtain ⟨ao', c', rfl⟩ := own_form h1
                have hkk := (HKp.out _ w' h2).1
                have hfz := (HKp.out _ w' h2).2.1.1
                have hxv := (HKp.out _ w' h2).2.1.2
                have HKS := Lib.hid (HKp.out _ w' h2).2.2
                rw [← HTK.out] at h1
                have HE := Lib.hid (HEND.out _ w' ao' c' h2 h1)
                clear h1 h2
                refine hK.out _ _ ?_ (fun hHeld => ?_)
                · exact hkk
                clear hK K
                try simp only [Act.put, List.setIfInBounds_toArray, List.set_cons_zero, List.set_cons_succ]
                refine' wpAnyH_take (i := 23) (oi := _) (v := _) ?hi45 (by kernel_rfl) (by kernel_rfl) (by kernel_rfl) ?hQ45 (Or.inl ⟨?hw45, ?hy45⟩) hHeld ?rest45
                case hi45 => simp only [List.getElem?_toArray, List.getElem?_cons_succ, List.getElem?_cons_zero]; rfl
                case hQ45 => exact fun _ _ _ h => h
                case hw45 => rfl
                case hy45 =>
                  intro w hSw
                  try dsimp only at hSw
                  go_simp
                  all_goals with_reducible rfl
                try simp only [Act.put, List.setIfInBounds_toArray, List.set_cons_zero, List.set_cons_succ]
                refine wpAnyH_ready (rs := [24]) (by kernel_rfl) (by simp) ?_
                refine' AllReadyH.cons (o := _) ?ha46 (fun K hK => ?sa46) ?ma46
                case ha46 => simp only [List.getElem?_toArray, List.getElem?_cons_succ, List.getElem?_cons_zero]; rfl
                case sa46 =>
                  go_simp
                  refine hK.out _ _ ?_ (fun hHeld => ?_)
                  · exact HKS.out _
                  clear hK K
                  try simp only [Act.put, List.setIfInBounds_toArray, List.set_cons_zero, List.set_cons_succ]
                  refine wpAnyH_done (by kernel_rfl) ?_ _
                  clear hHeld hkk hfz hxv HKS HKp HOW HONE HTK HEND
                  obtain ⟨wn, hwn⟩ : ∃ z, w'.setCell ⟨x, 4, none⟩ (.slice ao' (k + 1) c') = z := ⟨_, rfl⟩
                  rw [hwn] at HE
                  rw [hwn]
                  clear hwn x3 x3a f3 c0 c1 c2 p3
                  go_wp2_with fail
                  go_roundw
                  case rel => exact ⟨k + 1, .slice ao' (k + 1) c', by omega, by go_num, HE.out.1, HE.out.2.1, HE.out.2.2⟩
                  case measure => simp [intOf]; omega
                case ma46 =>
                  exact AllReadyH.nil
              case ma47 =>
                exact AllReadyH.nil
            case ma48 =>
              exact AllReadyH.nil
          case ma54 =>
            refine' AllReadyH.cons (o := _) ?ha53 (fun K hK => ?sa53) ?ma53
            case ha53 => simp only [List.getElem?_toArray, List.getElem?_cons_succ, List.getElem?_cons_zero]; rfl
            case sa53 =>
              go_simp
              refine hK.out _ _ ?_ (fun hHeld => ?_)
              · go_keep
              clear hK K
              try simp only [Act.put, List.setIfInBounds_toArray, List.set_cons_zero, List.set_cons_succ]
              refine wpAnyH_ready (rs := [1]) (by kernel_rfl) (by simp) ?_
              refine' AllReadyH.cons (o := _) ?ha52 (fun K hK => ?sa52) ?ma52
              case ha52 => simp only [List.getElem?_toArray, List.getElem?_cons_succ, List.getElem?_cons_zero]; rfl
              case sa52 =>
                go_simp
                refine hK.out _ _ ?_ (fun hHeld => ?_)
                · exact hHeld
                clear hK K
                try simp only [Act.put, List.setIfInBounds_toArray, List.set_cons_zero, List.set_cons_succ]
                refine wpAnyH_ready (rs := [22]) (by kernel_rfl) (by simp) ?_
                refine' AllReadyH.cons (o := _) ?ha51 (fun K hK => ?sa51) ?ma51
                case ha51 => simp only [List.getElem?_toArray, List.getElem?_cons_succ, List.getElem?_cons_zero]; rfl
                case sa51 =>
                  refine step_rl rfl (.tmp 47) (.tmp 67) rfl (v := v) (news := [.string (mk8 e0), .string (mk8 e1), .string (mk8 e2)]) (by simp [Act.eval]) ⟨wr.heap.size, 0, none⟩ (by simp [Act.eval]) (HOW.out _) rfl (news_at (cs := [.string (mk8 e0), .string (mk8 e1), .string (mk8 e2)])) HONE.out hln (by have := HSZ.out; simp; omega) ?_
                  intro v' w' h1 h2
                  obtain ⟨ao', c', rfl⟩ := own_form h1
                  have hkk := (HKp.out _ w' h2).1
                  have hfz := (HKp.out _ w' h2).2.1.1
                  have hxv := (HKp.out _ w' h2).2.1.2
                  have HKS := Lib.hid (HKp.out _ w' h2).2.2
                  rw [← HTK.out] at h1
                  have HE := Lib.hid (HEND.out _ w' ao' c' h2 h1)
                  clear h1 h2
                  refine hK.out _ _ ?_ (fun hHeld => ?_)
                  · exact hkk
                  clear hK K
                  try simp only [Act.put, List.setIfInBounds_toArray, List.set_cons_zero, List.set_cons_succ]
                  refine' wpAnyH_take (i := 23) (oi := _) (v := _) ?hi49 (by kernel_rfl) (by kernel_rfl) (by kernel_rfl) ?hQ49 (Or.inl ⟨?hw49, ?hy49⟩) hHeld ?rest49
                  case hi49 => simp only [List.getElem?_toArray, List.getElem?_cons_succ, List.getElem?_cons_zero]; rfl
                  case hQ49 => exact fun _ _ _ h => h
                  case hw49 => rfl
                  case hy49 =>
                    intro w hSw
                    try dsimp only at hSw
                    go_simp
                    all_goals with_reducible rfl
                  try simp only [Act.put, List.setIfInBounds_toArray, List.set_cons_zero, List.set_cons_succ]
                  refine wpAnyH_ready (rs := [24]) (by kernel_rfl) (by simp) ?_
                  refine' AllReadyH.cons (o := _) ?ha50 (fun K hK => ?sa50) ?ma50
                  case ha50 => simp only [List.getElem?_toArray, List.getElem?_cons_succ, List.getElem?_cons_zero]; rfl
                  case sa50 =>
                    go_simp
                    refine hK.out _ _ ?_ (fun hHeld => ?_)
                    · exact HKS.out _
                    clear hK K
                    try simp only [Act.put, List.setIfInBounds_toArray, List.set_cons_zero, List.set_cons_succ]
                    refine wpAnyH_done (by kernel_rfl) ?_ _
                    clear hHeld hkk hfz hxv HKS HKp HOW HONE HTK HEND
                    obtain ⟨wn, hwn⟩ : ∃ z, w'.setCell ⟨x, 4, none⟩ (.slice ao' (k + 1) c') = z := ⟨_, rfl⟩
                    rw [hwn] at HE
                    rw [hwn]
                    clear hwn x3 x3a f3 c0 c1 c2 p3
                    go_wp2_with fail
                    go_roundw
                    case rel => exact ⟨k + 1, .slice ao' (k + 1) c', by omega, by go_num, HE.out.1, HE.out.2.1, HE.out.2.2⟩
                    case measure => simp [intOf]; omega
                  case ma50 =>
                    exact AllReadyH.nil
                case ma51 =>
                  exact AllReadyH.nil
              case ma52 =>
                exact AllReadyH.nil
            case ma53 =>
              exact AllReadyH.nil
        · have hkl : k = ls.length := by omega
          subst hkl
          have hz1 : ¬ ((ls.length : Nat) : Int) < ls.length := by omega
          rw [List.take_length] at how
          go_wp2_with fail
          have HO0' := Lib.hid (own_fr HO0.out hfr.out hB0)
          have hB1 : x < w3.heap.size := hxs
          have HT3' := Lib.hid htp
          have HR3' : Hid (XB r ⟨#[]⟩ false 0 (.slice none 0 0) (.slice none 0 0) (.slice none 0 0) wr) := by show _ = _; rw [hfr.out.block r (by omega) (by omega)]; exact HR3.out
          have hxs' : x < wr.heap.size := by have := hfr.out.size; omega
          have hGO : Hid (wr.ownsRow w3.heap.size 85 3 v ls.length (flatE encLg ls)) := how
          obtain ⟨B1, hB1'⟩ : ∃ z, w3.heap.size = z := ⟨_, rfl⟩
          rw [hB1'] at hGO hB1
          clear HT3 HX3 HR3 HB3 hxs how hfr htp hB1' HO0
          clear p3
          obtain ⟨wA1, hA1⟩ : ∃ z, z = wr := ⟨_, rfl⟩
          subst hA1
          obtain ⟨w3, hw3⟩ : ∃ z, z = wA1 := ⟨_, rfl⟩
          subst hw3
          obtain ⟨V1, hV1⟩ : ∃ z, v = z := ⟨_, rfl⟩
          rw [hV1] at hxb hGO
          clear hV1 v
          have HX3 := hxb
          have HT3 := HT3'
          have HR3 := HR3'
          have HB3 := HBw
          have hxs := hxs'
          have HO1 := hGO
          have HO0 := HO0'
          clear hxb HT3' HR3' HBw hxs' hGO HO0'
          go_loopw [6] (fun i wr => ∃ (k : Nat) (v : Value), k ≤ ks.length ∧ i = .int .i64 k ∧ Hid (Fr x w3 wr) ∧ Hid (XB x sn fs fz V0 V1 v wr) ∧ Hid (wr.ownsRow w3.heap.size 87 3 v k (flatE encKn (ks.take k)))) (fun i _ => ks.length - (intOf i).toNat)
          case atStart => exact ⟨0, .slice none 0 0, by omega, rfl, Fr.refl _ _, HX3.out, World.ownsRow_nil _ _ _ _⟩
          case round =>
            obtain ⟨k, v, hk, rfl, hfr, hxb, how⟩ := hrel
            have htp : wr.heap[p]? = some (.cells #[.string sn, .bool fs, .int .i64 fz, .slice ag gs.length cg, .slice al ls.length cl, .slice ak ks.length ck] 37 (0, 0)) := by rw [hfr.out.block p (by omega) (by omega)]; exact HT3.out
            have p3 := cell_of (j := 5) htp rfl
            have HBw := Lib.hid (HB3.out.trans (hfr.out.below (B := w.heap.size) (by rw [HPW.out]; omega) HB3.out.size))
            by_cases hlt : k < ks.length
            · obtain ⟨b, off, ha, hr⟩ := HK.out
              obtain ⟨rfl, hbw⟩ := ha (by omega)
              obtain ⟨e, he⟩ : ∃ e, ks[k]! = e := ⟨_, rfl⟩
              have r1 := hr k hlt
              rw [he] at r1
              obtain ⟨e0, e1, e2⟩ := e
              have c0 := (HBw.out.cell (p := ⟨b, off + k * 3 + 0, none⟩) hbw).trans (r1 0 _ rfl)
              have c1 := (HBw.out.cell (p := ⟨b, off + k * 3 + 1, none⟩) hbw).trans (r1 1 _ rfl)
              have c2 := (HBw.out.cell (p := ⟨b, off + k * 3 + 2, none⟩) hbw).trans (r1 2 _ rfl)
              rw [Nat.add_zero] at c0
              simp only at c0 c1 c2
              have hz1 : (k : Int) < ks.length := by omega
              have hz0 : (0 : Int) ≤ k := by omega
              have x3 := cell_of (j := 5) hxb.out rfl
              have f3 := frozen_of (j := 5) hxb.out
              have HTK : Hid (flatE encKn (ks.take (k + 1)) = flatE encKn (ks.take k) ++ [.string (mk8 e0), .string (mk8 e1), .int .i64 e2]) := by show _ = _; rw [flat_take hlt, he]; rfl
              have hbx : b < p := by have := HPW.out; omega
              have HOW := Lib.hid (fun (o : Obj) => owns_below how.out (below_dalloc wr o))
              have hsx := hfr.out.size
              have x3a : ∀ o : Obj, (wr.alloc o).cell? ⟨x, 5, none⟩ = some v := fun o => (((Below.refl wr.heap.size wr).alloc (Nat.le_refl _) o).cell (p := ⟨x, 5, none⟩) (show x < wr.heap.size by omega)).trans x3
              clear hsx
              have HKp : Hid (∀ (o : Obj) (w' : World), (wr.drew.alloc o).grownBy w' v.ownBlock → (w'.cell? ⟨p, 5, none⟩ = some (.slice (some ⟨b, off, none⟩) ks.length ck) ∧ w'.cell? ⟨b, off + k * 3, none⟩ = some (.string (mk8 e0)) ∧ w'.cell? ⟨b, off + k * 3 + 1, none⟩ = some (.string (mk8 e1)) ∧ w'.cell? ⟨b, off + k * 3 + 2, none⟩ = some (.int .i64 e2)) ∧ (w'.frozen? ⟨x, 5, none⟩ = false ∧ w'.cell? ⟨x, 5, none⟩ = some v) ∧ ∀ u : Value, (w'.setCell ⟨x, 5, none⟩ u).cell? ⟨p, 5, none⟩ = some (.slice (some ⟨b, off, none⟩) ks.length ck) ∧ (w'.setCell ⟨x, 5, none⟩ u).cell? ⟨b, off + k * 3, none⟩ = some (.string (mk8 e0)) ∧ (w'.setCell ⟨x, 5, none⟩ u).cell? ⟨b, off + k * 3 + 1, none⟩ = some (.string (mk8 e1)) ∧ (w'.setCell ⟨x, 5, none⟩ u).cell? ⟨b, off + k * 3 + 2, none⟩ = some (.int .i64 e2)) := fun o w' hg => by
                have hv : ∀ k, v.ownBlock = some k → w3.heap.size ≤ k := fun k hk => (how.out.lt k hk).1
                have hsz := hfr.out.size
                have hb : ∀ k, k < w3.heap.size → w'.heap[k]? = wr.heap[k]? := fun k hk => by
                  rw [hg.block k (by simp; omega) (fun e => by have := hv k e.symm; omega)]
                  exact (below_dalloc wr o).block k (by omega)
                have hc : ∀ (k j : Nat), k < w3.heap.size → w'.cell? ⟨k, j, none⟩ = wr.cell? ⟨k, j, none⟩ := fun k j hk => by simp only [World.cell?, hb k hk]
                have q0 : w'.cell? ⟨p, 5, none⟩ = _ := (hc p _ (by omega)).trans p3
                have q1 := (hc b _ (by omega)).trans c0
                have q2 := (hc b _ (by omega)).trans c1
                have q3 := (hc b _ (by omega)).trans c2
                refine ⟨⟨q0, q1, q2, q3⟩, ?_, fun u => ?_⟩
                · refine ⟨?_, (hc x _ hxs).trans x3⟩
                  simp only [World.frozen?, hb x hxs]
                  exact f3
                · have hs : ∀ (k j : Nat), k ≠ x → (w'.setCell ⟨x, 5, none⟩ u).cell? ⟨k, j, none⟩ = w'.cell? ⟨k, j, none⟩ := fun k j hk => by simp only [World.cell?, Below.heap_setCell _ (⟨x, 5, none⟩ : Addr) _ _ (show k ≠ (⟨x, 5, none⟩ : Addr).block from hk)]
                  exact ⟨(hs p _ (by omega)).trans q0, (hs b _ (by omega)).trans q1, (hs b _ (by omega)).trans q2, (hs b _ (by omega)).trans q3⟩
              have n1 : wr.heap.size ≠ x := by have := hfr.out.size; omega
              have n2 : wr.heap.size ≠ p := by have := hfr.out.size; omega
              have n3 : wr.heap.size ≠ b := by have := hfr.out.size; omega
              have HONE : Hid (∀ u ∈ ([.string (mk8 e0), .string (mk8 e1), .int .i64 e2] : List Value), u.oneCell' = true) := Lib.hid (by simp [Value.oneCell'])
              have hln : k + 1 ≤ 100000 := by omega
              have HSZ := Lib.hid hfr.out.size
              have HEND : Hid (∀ (o : Obj) (w' : World) (ao' : Option Addr) (c' : Nat), (wr.drew.alloc o).grownBy w' v.ownBlock → w'.ownsRow w3.heap.size 87 3 (.slice ao' (k + 1) c') (k + 1) (flatE encKn (ks.take (k + 1))) →
                  Fr x w3 (w'.setCell ⟨x, 5, none⟩ (.slice ao' (k + 1) c')) ∧ XB x sn fs fz V0 V1 (.slice ao' (k + 1) c') (w'.setCell ⟨x, 5, none⟩ (.slice ao' (k + 1) c')) ∧ (w'.setCell ⟨x, 5, none⟩ (.slice ao' (k + 1) c')).ownsRow w3.heap.size 87 3 (.slice ao' (k + 1) c') (k + 1) (flatE encKn (ks.take (k + 1)))) := fun o w' ao' c' hg hw => by
                obtain ⟨F1, F2, F3⟩ := grown_fr (j := 5) hfr.out hxs how.out hg hw
                refine ⟨F1, ?_, F3⟩
                have := heap_setCell_c (F2.trans hxb.out) 5 (.slice ao' (k + 1) c')
                simpa using this
              clear he r1 hr ha htp hfr hxb
              go_upto_region 13 with fail
              clear HG HL HK HT3 HX3 how HPW
              refine wp_region_held_drew (S := (fun w' => w'.cell? ⟨p, 5, none⟩ = some (.slice (some ⟨b, off, none⟩) ks.length ck) ∧ w'.cell? ⟨b, off + k * 3, none⟩ = some (.string (mk8 e0)) ∧ w'.cell? ⟨b, off + k * 3 + 1, none⟩ = some (.string (mk8 e1)) ∧ w'.cell? ⟨b, off + k * 3 + 2, none⟩ = some (.int .i64 e2))) (by kernel_rfl) (by go_keep) (fun hHeld => ?_)
              refine' wpAnyH_take (i := 0) (oi := _) (v := _) ?hi55 (by kernel_rfl) (by kernel_rfl) (by kernel_rfl) ?hQ55 (Or.inl ⟨?hw55, ?hy55⟩) hHeld ?rest55
              case hi55 => simp only [List.getElem?_toArray, List.getElem?_cons_zero]; rfl
              case hQ55 => exact fun _ _ _ h => h
              case hw55 => rfl
              case hy55 =>
                intro w hSw
                try dsimp only at hSw
                go_simp
                all_goals with_reducible rfl
              try simp only [Act.put, List.setIfInBounds_toArray, List.set_cons_zero, List.set_cons_succ]
              refine' wpAnyH_take (i := 2) (oi := _) (v := _) ?hi56 (by kernel_rfl) (by kernel_rfl) (by kernel_rfl) ?hQ56 (Or.inl ⟨?hw56, ?hy56⟩) hHeld ?rest56
              case hi56 => simp only [List.getElem?_toArray, List.getElem?_cons_succ, List.getElem?_cons_zero]; rfl
              case hQ56 => exact fun _ _ _ h => h
              case hw56 => rfl
              case hy56 =>
                intro w hSw
                try dsimp only at hSw
                go_simp
                all_goals with_reducible rfl
              try simp only [Act.put, List.setIfInBounds_toArray, List.set_cons_zero, List.set_cons_succ]
              refine' wpAnyH_take (i := 3) (oi := _) (v := _) ?hi57 (by kernel_rfl) (by kernel_rfl) (by kernel_rfl) ?hQ57 (Or.inl ⟨?hw57, ?hy57⟩) hHeld ?rest57
              case hi57 => simp only [List.getElem?_toArray, List.getElem?_cons_succ, List.getElem?_cons_zero]; rfl
              case hQ57 => exact fun _ _ _ h => h
              case hw57 => rfl
              case hy57 =>
                intro w hSw
                try dsimp only at hSw
                go_simp
                all_goals with_reducible rfl
              try simp only [Act.put, List.setIfInBounds_toArray, List.set_cons_zero, List.set_cons_succ]
              refine' wpAnyH_take (i := 4) (oi := _) (v := _) ?hi58 (by kernel_rfl) (by kernel_rfl) (by kernel_rfl) ?hQ58 (Or.inl ⟨?hw58, ?hy58⟩) hHeld ?rest58
              case hi58 => simp only [List.getElem?_toArray, List.getElem?_cons_succ, List.getElem?_cons_zero]; rfl
              case hQ58 => exact fun _ _ _ h => h
              case hw58 => rfl
              case hy58 =>
                intro w hSw
                try dsimp only at hSw
                go_simp
                all_goals with_reducible rfl
              try simp only [Act.put, List.setIfInBounds_toArray, List.set_cons_zero, List.set_cons_succ]
              refine' wpAnyH_take (i := 5) (oi := _) (v := _) ?hi59 (by kernel_rfl) (by kernel_rfl) (by kernel_rfl) ?hQ59 (Or.inl ⟨?hw59, ?hy59⟩) hHeld ?rest59
              case hi59 => simp only [List.getElem?_toArray, List.getElem?_cons_succ, List.getElem?_cons_zero]; rfl
              case hQ59 => exact fun _ _ _ h => h
              case hw59 => rfl
              case hy59 =>
                intro w hSw
                try dsimp only at hSw
                go_simp
                all_goals with_reducible rfl
              try simp only [Act.put, List.setIfInBounds_toArray, List.set_cons_zero, List.set_cons_succ]
              refine' wpAnyH_take (i := 6) (oi := _) (v := _) ?hi60 (by kernel_rfl) (by kernel_rfl) (by kernel_rfl) ?hQ60 (Or.inl ⟨?hw60, ?hy60⟩) hHeld ?rest60
              case hi60 => simp only [List.getElem?_toArray, List.getElem?_cons_succ, List.getElem?_cons_zero]; rfl
              case hQ60 => exact fun _ _ _ h => h
              case hw60 => rfl
              case hy60 =>
                intro w hSw
                try dsimp only at hSw
                go_simp
                all_goals with_reducible rfl
              try simp only [Act.put, List.setIfInBounds_toArray, List.set_cons_zero, List.set_cons_succ]
              refine' wpAnyH_take (i := 7) (oi := _) (v := _) ?hi61 (by kernel_rfl) (by kernel_rfl) (by kernel_rfl) ?hQ61 (Or.inl ⟨?hw61, ?hy61⟩) hHeld ?rest61
              case hi61 => simp only [List.getElem?_toArray, List.getElem?_cons_succ, List.getElem?_cons_zero]; rfl
              case hQ61 => exact fun _ _ _ h => h
              case hw61 => rfl
              case hy61 =>
                intro w hSw
                try dsimp only at hSw
                go_simp
                all_goals with_reducible rfl
              try simp only [Act.put, List.setIfInBounds_toArray, List.set_cons_zero, List.set_cons_succ]
              refine' wpAnyH_take (i := 8) (oi := _) (v := _) ?hi62 (by kernel_rfl) (by kernel_rfl) (by kernel_rfl) ?hQ62 (Or.inl ⟨?hw62, ?hy62⟩) hHeld ?rest62
              case hi62 => simp only [List.getElem?_toArray, List.getElem?_cons_succ, List.getElem?_cons_zero]; rfl
              case hQ62 => exact fun _ _ _ h => h
              case hw62 => rfl
              case hy62 =>
                intro w hSw
                try dsimp only at hSw
                go_simp
                all_goals with_reducible rfl
              try simp only [Act.put, List.setIfInBounds_toArray, List.set_cons_zero, List.set_cons_succ]
              refine' wpAnyH_take (i := 9) (oi := _) (v := _) ?hi63 (by kernel_rfl) (by kernel_rfl) (by kernel_rfl) ?hQ63 (Or.inl ⟨?hw63, ?hy63⟩) hHeld ?rest63
              case hi63 => simp only [List.getElem?_toArray, List.getElem?_cons_succ, List.getElem?_cons_zero]; rfl
              case hQ63 => exact fun _ _ _ h => h
              case hw63 => rfl
              case hy63 =>
                intro w hSw
                try dsimp only at hSw
                go_simp
                all_goals with_reducible rfl
              try simp only [Act.put, List.setIfInBounds_toArray, List.set_cons_zero, List.set_cons_succ]
              refine' wpAnyH_take (i := 10) (oi := _) (v := _) ?hi64 (by kernel_rfl) (by kernel_rfl) (by kernel_rfl) ?hQ64 (Or.inl ⟨?hw64, ?hy64⟩) hHeld ?rest64
              case hi64 => simp only [List.getElem?_toArray, List.getElem?_cons_succ, List.getElem?_cons_zero]; rfl
              case hQ64 => exact fun _ _ _ h => h
              case hw64 => rfl
              case hy64 =>
                intro w hSw
                try dsimp only at hSw
                go_simp
                all_goals with_reducible rfl
              try simp only [Act.put, List.setIfInBounds_toArray, List.set_cons_zero, List.set_cons_succ]
              refine' wpAnyH_take (i := 11) (oi := _) (v := _) ?hi65 (by kernel_rfl) (by kernel_rfl) (by kernel_rfl) ?hQ65 (Or.inl ⟨?hw65, ?hy65⟩) hHeld ?rest65
              case hi65 => simp only [List.getElem?_toArray, List.getElem?_cons_succ, List.getElem?_cons_zero]; rfl
              case hQ65 => exact fun _ _ _ h => h
              case hw65 => rfl
              case hy65 =>
                intro w hSw
                try dsimp only at hSw
                go_simp
                all_goals with_reducible rfl
              try simp only [Act.put, List.setIfInBounds_toArray, List.set_cons_zero, List.set_cons_succ]
              refine' wpAnyH_take (i := 12) (oi := _) (v := _) ?hi66 (by kernel_rfl) (by kernel_rfl) (by kernel_rfl) ?hQ66 (Or.inl ⟨?hw66, ?hy66⟩) hHeld ?rest66
              case hi66 => simp only [List.getElem?_toArray, List.getElem?_cons_succ, List.getElem?_cons_zero]; rfl
              case hQ66 => exact fun _ _ _ h => h
              case hw66 => rfl
              case hy66 =>
                intro w hSw
                try dsimp only at hSw
                go_simp
                all_goals with_reducible rfl
              try simp only [Act.put, List.setIfInBounds_toArray, List.set_cons_zero, List.set_cons_succ]
              refine' wpAnyH_take (i := 13) (oi := _) (v := _) ?hi67 (by kernel_rfl) (by kernel_rfl) (by kernel_rfl) ?hQ67 (Or.inl ⟨?hw67, ?hy67⟩) hHeld ?rest67
              case hi67 => simp only [List.getElem?_toArray, List.getElem?_cons_succ, List.getElem?_cons_zero]; rfl
              case hQ67 => exact fun _ _ _ h => h
              case hw67 => rfl
              case hy67 =>
                intro w hSw
                try dsimp only at hSw
                go_simp
                all_goals with_reducible rfl
              try simp only [Act.put, List.setIfInBounds_toArray, List.set_cons_zero, List.set_cons_succ]
              refine' wpAnyH_take (i := 14) (oi := _) (v := _) ?hi68 (by kernel_rfl) (by kernel_rfl) (by kernel_rfl) ?hQ68 (Or.inl ⟨?hw68, ?hy68⟩) hHeld ?rest68
              case hi68 => simp only [List.getElem?_toArray, List.getElem?_cons_succ, List.getElem?_cons_zero]; rfl
              case hQ68 => exact fun _ _ _ h => h
              case hw68 => rfl
              case hy68 =>
                intro w hSw
                try dsimp only at hSw
                go_simp
                all_goals with_reducible rfl
              try simp only [Act.put, List.setIfInBounds_toArray, List.set_cons_zero, List.set_cons_succ]
              refine' wpAnyH_take (i := 15) (oi := _) (v := _) ?hi69 (by kernel_rfl) (by kernel_rfl) (by kernel_rfl) ?hQ69 (Or.inl ⟨?hw69, ?hy69⟩) hHeld ?rest69
              case hi69 => simp only [List.getElem?_toArray, List.getElem?_cons_succ, List.getElem?_cons_zero]; rfl
              case hQ69 => exact fun _ _ _ h => h
              case hw69 => rfl
              case hy69 =>
                intro w hSw
                try dsimp only at hSw
                go_simp
                all_goals with_reducible rfl
              try simp only [Act.put, List.setIfInBounds_toArray, List.set_cons_zero, List.set_cons_succ]
              refine' wpAnyH_take (i := 16) (oi := _) (v := _) ?hi70 (by kernel_rfl) (by kernel_rfl) (by kernel_rfl) ?hQ70 (Or.inl ⟨?hw70, ?hy70⟩) hHeld ?rest70
              case hi70 => simp only [List.getElem?_toArray, List.getElem?_cons_succ, List.getElem?_cons_zero]; rfl
              case hQ70 => exact fun _ _ _ h => h
              case hw70 => rfl
              case hy70 =>
                intro w hSw
                try dsimp only at hSw
                go_simp
                all_goals with_reducible rfl
              try simp only [Act.put, List.setIfInBounds_toArray, List.set_cons_zero, List.set_cons_succ]
              refine' wpAnyH_take (i := 17) (oi := _) (v := _) ?hi71 (by kernel_rfl) (by kernel_rfl) (by kernel_rfl) ?hQ71 (Or.inl ⟨?hw71, ?hy71⟩) hHeld ?rest71
              case hi71 => simp only [List.getElem?_toArray, List.getElem?_cons_succ, List.getElem?_cons_zero]; rfl
              case hQ71 => exact fun _ _ _ h => h
              case hw71 => rfl
              case hy71 =>
                intro w hSw
                try dsimp only at hSw
                go_simp
                all_goals with_reducible rfl
              try simp only [Act.put, List.setIfInBounds_toArray, List.set_cons_zero, List.set_cons_succ]
              refine' wpAnyH_take (i := 18) (oi := _) (v := _) ?hi72 (by kernel_rfl) (by kernel_rfl) (by kernel_rfl) ?hQ72 (Or.inl ⟨?hw72, ?hy72⟩) hHeld ?rest72
              case hi72 => simp only [List.getElem?_toArray, List.getElem?_cons_succ, List.getElem?_cons_zero]; rfl
              case hQ72 => exact fun _ _ _ h => h
              case hw72 => rfl
              case hy72 =>
                intro w hSw
                try dsimp only at hSw
                go_simp
                all_goals with_reducible rfl
              try simp only [Act.put, List.setIfInBounds_toArray, List.set_cons_zero, List.set_cons_succ]
              refine' wpAnyH_take (i := 19) (oi := _) (v := _) ?hi73 (by kernel_rfl) (by kernel_rfl) (by kernel_rfl) ?hQ73 (Or.inl ⟨?hw73, ?hy73⟩) hHeld ?rest73
              case hi73 => simp only [List.getElem?_toArray, List.getElem?_cons_succ, List.getElem?_cons_zero]; rfl
              case hQ73 => exact fun _ _ _ h => h
              case hw73 => rfl
              case hy73 =>
                intro w hSw
                try dsimp only at hSw
                go_simp
                all_goals with_reducible rfl
              try simp only [Act.put, List.setIfInBounds_toArray, List.set_cons_zero, List.set_cons_succ]
              refine' wpAnyH_take (i := 20) (oi := _) (v := _) ?hi74 (by kernel_rfl) (by kernel_rfl) (by kernel_rfl) ?hQ74 (Or.inl ⟨?hw74, ?hy74⟩) hHeld ?rest74
              case hi74 => simp only [List.getElem?_toArray, List.getElem?_cons_succ, List.getElem?_cons_zero]; rfl
              case hQ74 => exact fun _ _ _ h => h
              case hw74 => rfl
              case hy74 =>
                intro w hSw
                try dsimp only at hSw
                go_simp
                all_goals with_reducible rfl
              try simp only [Act.put, List.setIfInBounds_toArray, List.set_cons_zero, List.set_cons_succ]
              refine wpAnyH_ready (rs := [1, 21]) (by kernel_rfl) (by simp) ?_
              refine' AllReadyH.cons (o := _) ?ha84 (fun K hK => ?sa84) ?ma84
              case ha84 => simp only [List.getElem?_toArray, List.getElem?_cons_succ, List.getElem?_cons_zero]; rfl
              case sa84 =>
                go_simp
                refine hK.out _ _ ?_ (fun hHeld => ?_)
                · exact hHeld
                clear hK K
                try simp only [Act.put, List.setIfInBounds_toArray, List.set_cons_zero, List.set_cons_succ]
                refine wpAnyH_ready (rs := [21]) (by kernel_rfl) (by simp) ?_
                refine' AllReadyH.cons (o := _) ?ha78 (fun K hK => ?sa78) ?ma78
                case ha78 => simp only [List.getElem?_toArray, List.getElem?_cons_succ, List.getElem?_cons_zero]; rfl
                case sa78 =>
                  go_simp
                  refine hK.out _ _ ?_ (fun hHeld => ?_)
                  · go_keep
                  clear hK K
                  try simp only [Act.put, List.setIfInBounds_toArray, List.set_cons_zero, List.set_cons_succ]
                  refine wpAnyH_ready (rs := [22]) (by kernel_rfl) (by simp) ?_
                  refine' AllReadyH.cons (o := _) ?ha77 (fun K hK => ?sa77) ?ma77
                  case ha77 => simp only [List.getElem?_toArray, List.getElem?_cons_succ, List.getElem?_cons_zero]; rfl
                  case sa77 =>
                    refine step_rk rfl (.tmp 78) (.tmp 98) rfl (v := v) (news := [.string (mk8 e0), .string (mk8 e1), .int .i64 e2]) (by simp [Act.eval]) ⟨wr.heap.size, 0, none⟩ (by simp [Act.eval]) (HOW.out _) rfl (news_at (cs := [.string (mk8 e0), .string (mk8 e1), .int .i64 e2])) HONE.out hln (by have := HSZ.out; simp; omega) ?_
                    intro v' w' h1 h2
                    obtain ⟨ao', c', rfl⟩ := own_form h1
                    have hkk := (HKp.out _ w' h2).1
                    have hfz := (HKp.out _ w' h2).2.1.1
                    have hxv := (HKp.out _ w' h2).2.1.2
                    have HKS := Lib.hid (HKp.out _ w' h2).2.2
                    rw [← HTK.out] at h1
                    have HE := Lib.hid (HEND.out _ w' ao' c' h2 h1)
                    clear h1 h2
                    refine hK.out _ _ ?_ (fun hHeld => ?_)
                    · exact hkk
                    clear hK K
                    try simp only [Act.put, List.setIfInBounds_toArray, List.set_cons_zero, List.set_cons_succ]
                    refine' wpAnyH_take (i := 23) (oi := _) (v := _) ?hi75 (by kernel_rfl) (by kernel_rfl) (by kernel_rfl) ?hQ75 (Or.inl ⟨?hw75, ?hy75⟩) hHeld ?rest75
                    case hi75 => simp only [List.getElem?_toArray, List.getElem?_cons_succ, List.getElem?_cons_zero]; rfl
                    case hQ75 => exact fun _ _ _ h => h
                    case hw75 => rfl
                    case hy75 =>
                      intro w hSw
                      try dsimp only at hSw
                      go_simp
                      all_goals with_reducible rfl
                    try simp only [Act.put, List.setIfInBounds_toArray, List.set_cons_zero, List.set_cons_succ]
                    refine wpAnyH_ready (rs := [24]) (by kernel_rfl) (by simp) ?_
                    refine' AllReadyH.cons (o := _) ?ha76 (fun K hK => ?sa76) ?ma76
                    case ha76 => simp only [List.getElem?_toArray, List.getElem?_cons_succ, List.getElem?_cons_zero]; rfl
                    case sa76 =>
                      go_simp
                      refine hK.out _ _ ?_ (fun hHeld => ?_)
                      · exact HKS.out _
                      clear hK K
                      try simp only [Act.put, List.setIfInBounds_toArray, List.set_cons_zero, List.set_cons_succ]
                      refine wpAnyH_done (by kernel_rfl) ?_ _
                      clear hHeld hkk hfz hxv HKS HKp HOW HONE HTK HEND
                      obtain ⟨wn, hwn⟩ : ∃ z, w'.setCell ⟨x, 5, none⟩ (.slice ao' (k + 1) c') = z := ⟨_, rfl⟩
                      rw [hwn] at HE
                      rw [hwn]
                      clear hwn x3 x3a f3 c0 c1 c2 p3
                      go_wp2_with fail
                      go_roundw
                      case rel => exact ⟨k + 1, .slice ao' (k + 1) c', by omega, by go_num, HE.out.1, HE.out.2.1, HE.out.2.2⟩
                      case measure => simp [intOf]; omega
                    case ma76 =>
                      exact AllReadyH.nil
                  case ma77 =>
                    exact AllReadyH.nil
                case ma78 =>
                  exact AllReadyH.nil
              case ma84 =>
                refine' AllReadyH.cons (o := _) ?ha83 (fun K hK => ?sa83) ?ma83
                case ha83 => simp only [List.getElem?_toArray, List.getElem?_cons_succ, List.getElem?_cons_zero]; rfl
                case sa83 =>
                  go_simp
                  refine hK.out _ _ ?_ (fun hHeld => ?_)
                  · go_keep
                  clear hK K
                  try simp only [Act.put, List.setIfInBounds_toArray, List.set_cons_zero, List.set_cons_succ]
                  refine wpAnyH_ready (rs := [1]) (by kernel_rfl) (by simp) ?_
                  refine' AllReadyH.cons (o := _) ?ha82 (fun K hK => ?sa82) ?ma82
                  case ha82 => simp only [List.getElem?_toArray, List.getElem?_cons_succ, List.getElem?_cons_zero]; rfl
                  case sa82 =>
                    go_simp
                    refine hK.out _ _ ?_ (fun hHeld => ?_)
                    · exact hHeld
                    clear hK K
                    try simp only [Act.put, List.setIfInBounds_toArray, List.set_cons_zero, List.set_cons_succ]
                    refine wpAnyH_ready (rs := [22]) (by kernel_rfl) (by simp) ?_
                    refine' AllReadyH.cons (o := _) ?ha81 (fun K hK => ?sa81) ?ma81
                    case ha81 => simp only [List.getElem?_toArray, List.getElem?_cons_succ, List.getElem?_cons_zero]; rfl
                    case sa81 =>
                      refine step_rk rfl (.tmp 78) (.tmp 98) rfl (v := v) (news := [.string (mk8 e0), .string (mk8 e1), .int .i64 e2]) (by simp [Act.eval]) ⟨wr.heap.size, 0, none⟩ (by simp [Act.eval]) (HOW.out _) rfl (news_at (cs := [.string (mk8 e0), .string (mk8 e1), .int .i64 e2])) HONE.out hln (by have := HSZ.out; simp; omega) ?_
                      intro v' w' h1 h2
                      obtain ⟨ao', c', rfl⟩ := own_form h1
                      have hkk := (HKp.out _ w' h2).1
                      have hfz := (HKp.out _ w' h2).2.1.1
                      have hxv := (HKp.out _ w' h2).2.1.2
                      have HKS := Lib.hid (HKp.out _ w' h2).2.2
                      rw [← HTK.out] at h1
                      have HE := Lib.hid (HEND.out _ w' ao' c' h2 h1)
                      clear h1 h2
                      refine hK.out _ _ ?_ (fun hHeld => ?_)
                      · exact hkk
                      clear hK K
                      try simp only [Act.put, List.setIfInBounds_toArray, List.set_cons_zero, List.set_cons_succ]
                      refine' wpAnyH_take (i := 23) (oi := _) (v := _) ?hi79 (by kernel_rfl) (by kernel_rfl) (by kernel_rfl) ?hQ79 (Or.inl ⟨?hw79, ?hy79⟩) hHeld ?rest79
                      case hi79 => simp only [List.getElem?_toArray, List.getElem?_cons_succ, List.getElem?_cons_zero]; rfl
                      case hQ79 => exact fun _ _ _ h => h
                      case hw79 => rfl
                      case hy79 =>
                        intro w hSw
                        try dsimp only at hSw
                        go_simp
                        all_goals with_reducible rfl
                      try simp only [Act.put, List.setIfInBounds_toArray, List.set_cons_zero, List.set_cons_succ]
                      refine wpAnyH_ready (rs := [24]) (by kernel_rfl) (by simp) ?_
                      refine' AllReadyH.cons (o := _) ?ha80 (fun K hK => ?sa80) ?ma80
                      case ha80 => simp only [List.getElem?_toArray, List.getElem?_cons_succ, List.getElem?_cons_zero]; rfl
                      case sa80 =>
                        go_simp
                        refine hK.out _ _ ?_ (fun hHeld => ?_)
                        · exact HKS.out _
                        clear hK K
                        try simp only [Act.put, List.setIfInBounds_toArray, List.set_cons_zero, List.set_cons_succ]
                        refine wpAnyH_done (by kernel_rfl) ?_ _
                        clear hHeld hkk hfz hxv HKS HKp HOW HONE HTK HEND
                        obtain ⟨wn, hwn⟩ : ∃ z, w'.setCell ⟨x, 5, none⟩ (.slice ao' (k + 1) c') = z := ⟨_, rfl⟩
                        rw [hwn] at HE
                        rw [hwn]
                        clear hwn x3 x3a f3 c0 c1 c2 p3
                        go_wp2_with fail
                        go_roundw
                        case rel => exact ⟨k + 1, .slice ao' (k + 1) c', by omega, by go_num, HE.out.1, HE.out.2.1, HE.out.2.2⟩
                        case measure => simp [intOf]; omega
                      case ma80 =>
                        exact AllReadyH.nil
                    case ma81 =>
                      exact AllReadyH.nil
                  case ma82 =>
                    exact AllReadyH.nil
                case ma83 =>
                  exact AllReadyH.nil
            · have hkl : k = ks.length := by omega
              subst hkl
              have hz1 : ¬ ((ks.length : Nat) : Int) < ks.length := by omega
              rw [List.take_length] at how
              skip
              have HO0' := Lib.hid (own_fr HO0.out hfr.out hB0)
              have HO1' := Lib.hid (own_fr HO1.out hfr.out hB1)
              have hB2 : x < w3.heap.size := hxs
              have HT3' := Lib.hid htp
              have HR3' : Hid (XB r ⟨#[]⟩ false 0 (.slice none 0 0) (.slice none 0 0) (.slice none 0 0) wr) := by show _ = _; rw [hfr.out.block r (by omega) (by omega)]; exact HR3.out
              have hxs' : x < wr.heap.size := by have := hfr.out.size; omega
              have hGO : Hid (wr.ownsRow w3.heap.size 87 3 v ks.length (flatE encKn ks)) := how
              obtain ⟨B2, hB2'⟩ : ∃ z, w3.heap.size = z := ⟨_, rfl⟩
              rw [hB2'] at hGO hB2
              clear HT3 HX3 HR3 HB3 hxs how hfr htp hB2' HO0 HO1
              skip
              obtain ⟨ag', cg', rfl⟩ := own_form HO0'.out
              obtain ⟨al', cl', rfl⟩ := own_form HO1'.out
              obtain ⟨ak', ck', rfl⟩ := own_form hGO.out
              have hx0 : wr.cell? ⟨x, 0, none⟩ = some (.string sn) := cell_of (j := 0) hxb.out rfl
              have hx1 : wr.cell? ⟨x, 1, none⟩ = some (.bool fs) := cell_of (j := 1) hxb.out rfl
              have hx2 : wr.cell? ⟨x, 2, none⟩ = some (.int .i64 fz) := cell_of (j := 2) hxb.out rfl
              have hx3 : wr.cell? ⟨x, 3, none⟩ = some ((.slice ag' gs.length cg')) := cell_of (j := 3) hxb.out rfl
              have hx4 : wr.cell? ⟨x, 4, none⟩ = some ((.slice al' ls.length cl')) := cell_of (j := 4) hxb.out rfl
              have hx5 : wr.cell? ⟨x, 5, none⟩ = some ((.slice ak' ks.length ck')) := cell_of (j := 5) hxb.out rfl
              have hr0 : wr.cell? ⟨r, 0, none⟩ = some (.string ⟨#[]⟩) := cell_of (j := 0) HR3'.out rfl
              have hf0 : wr.frozen? ⟨r, 0, none⟩ = false := frozen_of (j := 0) HR3'.out
              have hr1 : wr.cell? ⟨r, 1, none⟩ = some (.bool false) := cell_of (j := 1) HR3'.out rfl
              have hf1 : wr.frozen? ⟨r, 1, none⟩ = false := frozen_of (j := 1) HR3'.out
              have hr2 : wr.cell? ⟨r, 2, none⟩ = some (.int .i64 0) := cell_of (j := 2) HR3'.out rfl
              have hf2 : wr.frozen? ⟨r, 2, none⟩ = false := frozen_of (j := 2) HR3'.out
              have hr3 : wr.cell? ⟨r, 3, none⟩ = some ((.slice none 0 0)) := cell_of (j := 3) HR3'.out rfl
              have hf3 : wr.frozen? ⟨r, 3, none⟩ = false := frozen_of (j := 3) HR3'.out
              have hr4 : wr.cell? ⟨r, 4, none⟩ = some ((.slice none 0 0)) := cell_of (j := 4) HR3'.out rfl
              have hf4 : wr.frozen? ⟨r, 4, none⟩ = false := frozen_of (j := 4) HR3'.out
              have hr5 : wr.cell? ⟨r, 5, none⟩ = some ((.slice none 0 0)) := cell_of (j := 5) HR3'.out rfl
              have hf5 : wr.frozen? ⟨r, 5, none⟩ = false := frozen_of (j := 5) HR3'.out
              clear hxb HT3' HG HL HK
              go_wp2_with fail
              have HZ : ((((((wr.setCell ⟨r, 0, none⟩ (.string sn)).setCell ⟨r, 1, none⟩ (.bool fs)).setCell ⟨r, 2, none⟩ (.int .i64 fz)).setCell ⟨r, 3, none⟩ ((.slice ag' gs.length cg'))).setCell ⟨r, 4, none⟩ ((.slice al' ls.length cl'))).setCell ⟨r, 5, none⟩ ((.slice ak' ks.length ck'))).heap[r]? = some (.cells #[.string sn, .bool fs, .int .i64 fz, (.slice ag' gs.length cg'), (.slice al' ls.length cl'), (.slice ak' ks.length ck')] 31 (0, 0)) := by
                have k0 := heap_setCell_c HR3'.out 0 (.string sn)
                have k1 := heap_setCell_c k0 1 (.bool fs)
                have k2 := heap_setCell_c k1 2 (.int .i64 fz)
                have k3 := heap_setCell_c k2 3 ((.slice ag' gs.length cg'))
                have k4 := heap_setCell_c k3 4 ((.slice al' ls.length cl'))
                have k5 := heap_setCell_c k4 5 ((.slice ak' ks.length ck'))
                simpa using k5
              have HFz : Fr r wr ((((((wr.setCell ⟨r, 0, none⟩ (.string sn)).setCell ⟨r, 1, none⟩ (.bool fs)).setCell ⟨r, 2, none⟩ (.int .i64 fz)).setCell ⟨r, 3, none⟩ ((.slice ag' gs.length cg'))).setCell ⟨r, 4, none⟩ ((.slice al' ls.length cl'))).setCell ⟨r, 5, none⟩ ((.slice ak' ks.length ck'))) := fr_set (fr_set (fr_set (fr_set (fr_set (fr_set (Fr.refl r wr))))))
              generalize ((((((wr.setCell ⟨r, 0, none⟩ (.string sn)).setCell ⟨r, 1, none⟩ (.bool fs)).setCell ⟨r, 2, none⟩ (.int .i64 fz)).setCell ⟨r, 3, none⟩ ((.slice ag' gs.length cg'))).setCell ⟨r, 4, none⟩ ((.slice al' ls.length cl'))).setCell ⟨r, 5, none⟩ ((.slice ak' ks.length ck'))) = wz at HZ HFz ⊢
              have hz0z : wz.cell? ⟨r, 0, none⟩ = some (.string sn) := cell_of (j := 0) HZ rfl
              have hz1z : wz.cell? ⟨r, 1, none⟩ = some (.bool fs) := cell_of (j := 1) HZ rfl
              have hz2z : wz.cell? ⟨r, 2, none⟩ = some (.int .i64 fz) := cell_of (j := 2) HZ rfl
              have hz3z : wz.cell? ⟨r, 3, none⟩ = some ((.slice ag' gs.length cg')) := cell_of (j := 3) HZ rfl
              have hz4z : wz.cell? ⟨r, 4, none⟩ = some ((.slice al' ls.length cl')) := cell_of (j := 4) HZ rfl
              have hz5z : wz.cell? ⟨r, 5, none⟩ = some ((.slice ak' ks.length ck')) := cell_of (j := 5) HZ rfl
              have HBz : Hid (Below w.heap.size w wz) := HBw.out.trans (HFz.below (B := w.heap.size) (by rw [HPW.out]; omega) HBw.out.size)
              obtain ⟨a1, n1, hag, hrg⟩ := own_row encG_len (by decide) (own_fr HO0'.out HFz (by omega))
              obtain ⟨a2, n2, hal, hrl⟩ := own_row (enc := encLg) (k := 3) (fun _ => rfl) (by decide) (own_fr HO1'.out HFz (by omega))
              obtain ⟨a3, n3, hak, hrk⟩ := own_row (enc := encKn) (k := 3) (fun _ => rfl) (by decide) (own_fr hGO.out HFz (by omega))
              injection hag with q1 _ _
              injection hal with q2 _ _
              injection hak with q3 _ _
              subst q1 q2 q3
              have HF : Hid (FontV ⟨fn, fs, fz, gs, ls, ks⟩ ag' al' ak' wz) := ⟨hrg, hrl, hrk⟩
              clear hrg hrl hrk HO0' HO1' hGO HFz HZ
              refine bodyPost_ret (v := .agg #[.string sn, .bool fs, .int .i64 fz, .slice ag' gs.length cg', .slice al' ls.length cl', .slice ak' ks.length ck']) (by simp [results, Try.results12, go_sem, hz0z, hz1z, hz2z, hz3z, hz4z, hz5z]) rfl ?_
              exact ⟨ag', al', ak', ⟨cg', cl', ck', rfl⟩, HF.out, HBz.out⟩
end Go.Proofs.Ytboophfcakdlcaa
