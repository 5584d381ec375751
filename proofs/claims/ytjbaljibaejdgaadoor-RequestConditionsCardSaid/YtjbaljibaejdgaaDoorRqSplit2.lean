/- Split of a control line. -/
import Derived.Test.YtjbaljibaejdgaaDoorRqSplit
namespace Go.Proofs.YtjbaljibaejdgaaDoor
open Go.RowKit Go.PlainAid Go.Shelf

/-- The request that is being made, in memory. -/
def Rq (c : Nat) (name : List UInt8) (v : Value) (rest : List UInt8) (q : Bool) (w : World) : Prop :=
  w.heap[c]? = some (.cells #[.string (mk8 name), v, .string (mk8 rest), .bool q] 34 (0, 0))
section
variable {c : Nat} {name rest : List UInt8} {v : Value} {q : Bool} {w w' : World}
theorem Rq.lt (h : Rq c name v rest q w) : c < w.heap.size := (Array.getElem?_eq_some_iff.1 h).1
theorem Rq.below (h : Rq c name v rest q w) (hb : Below w.heap.size w w') : Rq c name v rest q w' := by unfold Rq; rw [hb.block c h.lt]; exact h
theorem Rq.only {b : Nat} (h : Rq c name v rest q w) (hb : Only b w w') (hn : c ≠ b) : Rq c name v rest q w' := by unfold Rq; rw [hb.block c h.lt hn]; exact h
theorem Rq.c0 (h : Rq c name v rest q w) : w.cell? ⟨c, 0, none⟩ = some (.string (mk8 name)) := by simp [World.cell?, show w.heap[c]? = _ from h]
theorem Rq.c1 (h : Rq c name v rest q w) : w.cell? ⟨c, 1, none⟩ = some v := by simp [World.cell?, show w.heap[c]? = _ from h]
theorem Rq.c2 (h : Rq c name v rest q w) : w.cell? ⟨c, 2, none⟩ = some (.string (mk8 rest)) := by simp [World.cell?, show w.heap[c]? = _ from h]
theorem Rq.c3 (h : Rq c name v rest q w) : w.cell? ⟨c, 3, none⟩ = some (.bool q) := by simp [World.cell?, show w.heap[c]? = _ from h]
theorem Rq.fz (h : Rq c name v rest q w) (k : Nat) : w.frozen? ⟨c, k, none⟩ = false := by simp [World.frozen?, show w.heap[c]? = _ from h]
theorem heap_setCell_at {w : World} {b : Nat} {c : Array Value} {t : TypeId} {f : Nat × Nat} (h : w.heap[b]? = some (.cells c t f)) (k : Nat) (u : Value) :
    (w.setCell ⟨b, k, none⟩ u).heap[b]? = some (.cells (c.setIfInBounds k u) t f) := by
  have hlt := (Array.getElem?_eq_some_iff.1 h).1
  have h' : w.heap[b] = .cells c t f := by simpa [Array.getElem?_eq_getElem hlt] using h
  show (w.heap.modify b _)[b]? = _
  rw [Array.getElem?_eq_getElem (by simpa using hlt), Array.getElem_modify_self, h']
  rfl
theorem Rq.set1 (h : Rq c name v rest q w) (u : Value) : Rq c name u rest q (w.setCell ⟨c, 1, none⟩ u) := heap_setCell_at h 1 _
theorem Rq.set2 (h : Rq c name v rest q w) (u : List UInt8) : Rq c name v u q (w.setCell ⟨c, 2, none⟩ (.string (mk8 u))) := heap_setCell_at h 2 _
theorem rq_new (w : World) : Rq w.heap.size [] (.slice none 0 0) [] false (w.alloc (.cells #[.string ⟨#[]⟩, .slice none 0 0, .string ⟨#[]⟩, .bool false] 34)) := heap_alloc_new w _
end
theorem box_alloc {b : Nat} {l : List UInt8} {w : World} (h : Box b l w) (o : Obj) : Box b l (w.alloc o).drew := h.below ((Below.refl _ _).alloc (Nat.le_refl _) _).drew
theorem rq_kept {b : Nat} {w w' : World} (h : Only b (w.alloc (.cells #[.string ⟨#[]⟩, .slice none 0 0, .string ⟨#[]⟩, .bool false] 34)).drew w') (hn : w.heap.size ≠ b) : Rq w.heap.size [] (.slice none 0 0) [] false w' := Rq.only (w := (w.alloc (.cells #[.string ⟨#[]⟩, .slice none 0 0, .string ⟨#[]⟩, .bool false] 34)).drew) (rq_new w) h hn
theorem owns_wide {B B' e size n : Nat} {v : Value} {xs : List Value} {W : World} (h : W.ownsRow B e size v n xs) (hle : B' ≤ B) : W.ownsRow B' e size v n xs := by
  refine ⟨h.1, ?_⟩
  rcases h.2 with ⟨h1, h2⟩ | ⟨g, cap, cur, rfl, h2, h3⟩
  · exact .inl ⟨h1, h2⟩
  · exact .inr ⟨g, cap, cur, rfl, Nat.le_trans hle h2, h3⟩
theorem one_drop (m : List UInt8) : m.drop (oneN m) = m.drop 1 := by
  unfold oneN
  cases m with
  | nil => rfl
  | cons c r => simp
/-- The request is begun: its name stands, and whether it is quiet. -/
structure Begun (W : World) (p : Nat) (name m : List UInt8) (q : Bool) (w : World) : Prop where
  rq : Rq p name (.slice none 0 0) [] q w
  box : Box (W.heap.size + 1) m w
  res : Rq W.heap.size [] (.slice none 0 0) [] false w
  bel : Below W.heap.size W w
  new : W.heap.size + 1 < p
theorem Rq.alloc {p : Nat} {name rest : List UInt8} {v : Value} {q : Bool} {w : World} (h : Rq p name v rest q w) (o : Obj) : Rq p name v rest q (w.alloc o) := h.below ((Below.refl _ _).alloc (Nat.le_refl _) _)
theorem Rq.set0 {p : Nat} {name rest u : List UInt8} {v : Value} {q : Bool} {w : World} (h : Rq p name v rest q w) : Rq p u v rest q (w.setCell ⟨p, 0, none⟩ (.string (mk8 u))) := heap_setCell_at h 0 _
theorem Rq.set3 {p : Nat} {name rest : List UInt8} {v : Value} {q u : Bool} {w : World} (h : Rq p name v rest q w) : Rq p name v rest u (w.setCell ⟨p, 3, none⟩ (.bool u)) := heap_setCell_at h 3 _
theorem set_only {b k : Nat} (w : World) (u : Value) : Only b w (w.setCell ⟨b, k, none⟩ u) := (Only.refl b w).set u
theorem Box.only {b c : Nat} {l : List UInt8} {w w' : World} (h : Box b l w) (hb : Only c w w') (hn : b ≠ c) : Box b l w' := by unfold Box; rw [hb.block b h.lt hn]; exact h
theorem begun_a {W w2 w3 : World} {d name m : List UInt8} {q : Bool} (_hx : Box (W.heap.size + 1) d w2) (hr : Rq W.heap.size [] (.slice none 0 0) [] false w2) (hb : Below W.heap.size W w2) (hx3 : Box (W.heap.size + 1) m w3) (ho : Only (W.heap.size + 1) w2.drew w3) :
    Begun W w3.heap.size name m q (w3.alloc (.cells #[.string (mk8 name), .slice none 0 0, .string ⟨#[]⟩, .bool q] 34)) := by
  have hs : w2.heap.size ≤ w3.heap.size := ho.size
  have h1 : Only (W.heap.size + 1) w2 w3 := ⟨ho.os, ho.tape, ho.output, ho.size, ho.block⟩
  exact ⟨heap_alloc_new w3 _, hx3.below ((Below.refl _ _).alloc (Nat.le_refl _) _), (hr.only h1 (by omega)).alloc _, (hb.trans (h1.below (by omega) hb.size)).alloc (Nat.le_trans hb.size hs) _, hx3.lt⟩
theorem begun_b {W w2 w3 : World} {d name m : List UInt8} {q : Bool} (hx : Box (W.heap.size + 1) d w2) (hr : Rq W.heap.size [] (.slice none 0 0) [] false w2) (hb : Below W.heap.size W w2) (hx3 : Box (W.heap.size + 1) m w3)
    (ho : Only (W.heap.size + 1) (w2.alloc (.cells #[.string ⟨#[]⟩, .slice none 0 0, .string ⟨#[]⟩, .bool false] 34)).drew w3) :
    Begun W w2.heap.size name m q ((((w3.setCell ⟨w2.heap.size, 0, none⟩ (.string (mk8 name))).setCell ⟨w2.heap.size, 1, none⟩ (.slice none 0 0)).setCell ⟨w2.heap.size, 2, none⟩ (.string ⟨#[]⟩)).setCell ⟨w2.heap.size, 3, none⟩ (.bool q)) := by
  have hlt := hx.lt
  have h1 := rq_kept ho (by omega)
  have hr1 : Rq W.heap.size [] (.slice none 0 0) [] false (w2.alloc (.cells #[.string ⟨#[]⟩, .slice none 0 0, .string ⟨#[]⟩, .bool false] 34)).drew := hr.alloc _
  have hr3 := hr1.only ho (by omega)
  have hs := set_only (b := w2.heap.size) (k := 0) w3 (.string (mk8 name))
  have hs := hs.set (k := 1) (.slice none 0 0)
  have hs := hs.set (k := 2) (.string ⟨#[]⟩)
  have hs := hs.set (k := 3) (.bool q)
  have hb1 : Below W.heap.size W (w2.alloc (.cells #[.string ⟨#[]⟩, .slice none 0 0, .string ⟨#[]⟩, .bool false] 34)).drew := (hb.alloc hb.size _).drew
  have hb3 := hb1.trans (ho.below (by omega) hb1.size)
  exact ⟨(((h1.set0).set1 _).set2 []).set3, hx3.only hs (by omega), hr3.only hs (by omega), hb3.trans (hs.below (by omega) hb3.size), hlt⟩

set_option maxRecDepth 100000 in
set_option maxHeartbeats 4000000 in
theorem split_yes (x : UInt8) (r : List UInt8) (c q : Int) (W : World) (h : fitB (x :: r) c q = true) (hs : startB (x :: r) c q = true) : Calls Tryd.prog 9 #[.string (mk8 (x :: r)), .int .u8 c, .int .u8 q] W (SplitP (x :: r) c q W) := by
  rw [splitP_yes h hs]
  have HL := Lib.hid (fun w => isLine_any (x :: r) w)
  have HC := Lib.hid (fun w => control_any c w)
  have HQ := Lib.hid (fun w => control_any q w)
  unfold fitB at h
  simp only [Bool.and_eq_true, Bool.not_eq_true'] at h
  obtain ⟨⟨⟨h1, h2⟩, h3⟩, h4⟩ := h
  have hlen : (x :: r).length ≤ 2000 := by
    simp only [lineL, Bool.and_eq_true, decide_eq_true_eq] at h1
    exact h1.1
  simp only [h1] at HL; simp only [h2] at HC; simp only [h3] at HQ
  clear h1 h2 h3
  have hgb := get_bt (mk8 (x :: r))
  have hb : bt (mk8 (x :: r)) 0 = x.toNat := bt_mk rfl
  have hs : ((((x.toNat : Nat) : Int) == c) || (((x.toNat : Nat) : Int) == q)) = true := hs
  rw [← hb] at hs
  have z1 : ((mk8 (x :: r)).size : Int) = (x :: r).length := by rw [mk8_size]
  have z3 : 0 < (mk8 (x :: r)).size := by rw [mk8_size]; simp
  have z4 : (x :: r).isEmpty = false := rfl
  have z5 : (1 : Int) ≤ (x :: r).length := by simp; omega
  have HT := Lib.hid (ext_tail (x :: r) 1)
  rw [show (x :: r).drop 1 = r from rfl] at HT
  have hr2 : r.length ≤ 2000 := by simp at hlen; omega
  show Calls _ _ _ _ (fun e W' => ∃ v ws, e = .returned (.tuple #[.agg #[.string (mk8 (nameL r)), v, .string (mk8 (restL r)), .bool ((bt (mk8 (x :: r)) 0) == q)], .bool true, .int .i64 0]) ∧
    Wds (restL r) ws ∧ ws.length ≤ 2000 ∧ W'.ownsRow W.heap.size 9 1 v ws.length (ws.map strV) ∧ Below W.heap.size W W')
  obtain ⟨l, hl⟩ : ∃ l, x :: r = l := ⟨_, rfl⟩
  rw [hl] at hgb hs z1 z3 z4 z5 HT HL ⊢
  clear hl hb hlen
  have hce := enters_cut
  obtain ⟨d, hd⟩ : ∃ d, r.drop (blkN r) = d := ⟨_, rfl⟩
  have hd2 : r.dropWhile blk = d := by rw [blkN_drop, hd]
  have hN : Hid (nameL r = d.take (wordN d)) := by show _ = _; unfold nameL; rw [hd2]
  have hR : Hid (restL r = (d.drop (wordN d)).drop 1) := by show _ = _; unfold restL; rw [hd2]
  have hdl : d.length ≤ 2000 := by rw [← hd, List.length_drop]; omega
  cases e1 : (bt (mk8 l) 0 == c)
  case' true => have e2 : (bt (mk8 l) 0 != c) = false := by rw [bne, e1]; rfl
  case' false =>
    have e2 : (bt (mk8 l) 0 != c) = true := by rw [bne, e1]; rfl
    have e3 : (bt (mk8 l) 0 != q) = false := by rw [e1, Bool.false_or] at hs; rw [bne, hs]; rfl
  all_goals
    clear hs e1
    go_enter Tryd.func9, Tryd.ntmps9
    go_wp2_with fail
    refine (HL.out _).mono ?_
    rintro e w1 ⟨rfl, rfl⟩
    go_wp2_with fail
    refine (HC.out _).mono ?_
    rintro e w1 ⟨rfl, rfl⟩
    go_wp2_with fail
    refine (HQ.out _).mono ?_
    rintro e w1 ⟨rfl, rfl⟩
    go_wp2_with fail
    try clear e3
    clear e2
    rw [HT.out]
    refine (cutter_any r _).mono ?_
    rintro e w1 ⟨rfl, hx, hb⟩
    have HB := Lib.hid ((((Below.refl W.heap.size W).alloc (Nat.le_refl _) _)).trans (hb.mono (by simp)))
    have HR := Lib.hid ((rq_new W).below hb)
    have hx : Box (W.heap.size + 1) r w1 := by simpa using hx
    have HX := Lib.hid hx
    clear hx hb
    go_wp2_with fail
    refine (cut_blanks _ r (by omega) w1 HX.out).mono ?_
    rintro e w2 ⟨rfl, hx, ho⟩
    rw [hd] at hx
    have HB2 := Lib.hid (HB.out.trans (ho.below (by omega) HB.out.size))
    have HR2 := Lib.hid (HR.out.only ho (by omega))
    have HX2 := Lib.hid hx
    clear hx ho HB HR HX
    go_upto_region 7 with fail
    go_cut [10] (fun s10 wx => ∃ p : Nat, s10 = .pointer (some ⟨p, 0, none⟩) ∧ Hid (Begun W p (d.take (wordN d)) (d.drop (wordN d)) (bt (mk8 l) 0 == q) wx))
    case first =>
      go_region_with (first | (go_at_call 28; refine (cut_word _ d (by omega) _ (by exact HX2.out)).mono ?_; rintro e w3 ⟨rfl, hx3, ho3⟩) | (go_at_call 28; refine (cut_word _ d (by omega) _ (by exact box_alloc HX2.out _)).mono ?_; rintro e w3 ⟨rfl, hx3, ho3⟩; have hq3 := rq_kept (w := w2) (by exact ho3) (by have := HX2.out.lt; omega); have k0 := hq3.c0; have k1 := hq3.c1; have k2 := hq3.c2; have k3 := hq3.c3; have f0 := hq3.fz 0; have f1 := hq3.fz 1; have f2 := hq3.fz 2; have f3 := hq3.fz 3))
      all_goals
        go_wp2_with fail
        go_meet
        case rel =>
          first
            | exact ⟨_, rfl, begun_a HX2.out HR2.out HB2.out hx3 ho3⟩
            | exact ⟨_, rfl, begun_b HX2.out HR2.out HB2.out hx3 ho3⟩
    case rest =>
      obtain ⟨p, rfl, hp⟩ := hcut
      clear HX2 HR2 HB2
      obtain ⟨m, hm⟩ : ∃ m, d.drop (wordN d) = m := ⟨_, rfl⟩
      have hml : m.length ≤ 2000 := by rw [← hm, List.length_drop]; omega
      obtain ⟨name, hname⟩ : ∃ n, d.take (wordN d) = n := ⟨_, rfl⟩
      rw [hm, hname] at hp
      rw [hname] at hN
      rw [hm] at hR
      obtain ⟨k, hk⟩ : ∃ k, (bt (mk8 l) 0 == q) = k := ⟨_, rfl⟩
      rw [hk] at hp
      have H1 := hp.out.new
      have HP := Lib.hid hp.out.rq
      have HX := Lib.hid hp.out.box
      have HR := Lib.hid hp.out.res
      have HB := Lib.hid hp.out.bel
      clear hp hm hname
      go_wp2_with fail
      refine (cut_one _ m _ HX.out).mono ?_
      rintro e w3 ⟨rfl, hx, ho⟩
      have HP3 := Lib.hid (HP.out.only ho (by omega))
      have HR3 := Lib.hid (HR.out.only ho (by omega))
      have HB3 := Lib.hid (HB.out.trans (ho.below (by omega) HB.out.size))
      have hx : Box (W.heap.size + 1) (m.drop 1) w3 := by rw [one_drop] at hx; exact hx
      have HX3 := Lib.hid hx
      clear hx ho HP HR HB HX
      go_wp2_with fail
      refine (cut_whole _ (m.drop 1) w3 HX3.out).mono ?_
      rintro e w4 ⟨rfl, hx, ho⟩
      rw [List.take_length]
      rw [← hR.out]
      have HP4 := Lib.hid (HP3.out.only ho (by omega))
      have HR4 := Lib.hid (HR3.out.only ho (by omega))
      have HB4 := Lib.hid (HB3.out.trans (ho.below (by omega) HB3.out.size))
      have k2 := HP4.out.c2
      have f2 := HP4.out.fz 2
      clear hx ho HP3 HR3 HB3 HX3
      go_wp2_with fail
      obtain ⟨w5, hw5⟩ : ∃ w5, w5 = w4.setCell ⟨p, 2, none⟩ (.string (mk8 (restL r))) := ⟨_, rfl⟩
      have HP5 : Hid (Rq p name (.slice none 0 0) (restL r) k w5) := by rw [hw5]; exact HP4.out.set2 _
      have hs5 : Only p w4 w5 := by rw [hw5]; exact set_only _ _
      have HR5 := Lib.hid (HR4.out.only hs5 (by omega))
      have HB5 := Lib.hid (HB4.out.trans (hs5.below (by omega) HB4.out.size))
      have hrl : (restL r).length ≤ 2000 := by rw [hR.out, List.length_drop]; omega
      rw [← hw5]
      clear hw5 hs5 HP4 HR4 HB4 k2 f2
      refine (words_any (restL r) (by omega) w5).mono ?_
      rintro e w6 ⟨v, ws, rfl, hwd, hwl, hown, hb6⟩
      obtain ⟨ao, cap, rfl⟩ := own_form hown
      have HP6 := Lib.hid (HP5.out.below hb6)
      have HR6 := Lib.hid (HR5.out.below hb6)
      have HB6 := Lib.hid (HB5.out.trans (hb6.mono HB5.out.size))
      have HW := Lib.hid hwd
      have hwl : ws.length ≤ 2000 := by omega
      have HO : Hid (∀ w' : World, (∀ i : Nat, w5.heap.size ≤ i → w'.heap[i]? = w6.heap[i]?) → w'.ownsRow W.heap.size 9 1 (.slice ao ws.length cap) ws.length (ws.map strV)) := fun w' hb =>
        owns_wide (owns_of_block hown fun g hg => hb g (hown.lt g hg).1) HB5.out.size
      have hpl := HP5.out.lt
      have hrl := HR5.out.lt
      have k0 := HP6.out.c0
      have k1 := HP6.out.c1
      have k2 := HP6.out.c2
      have k3 := HP6.out.c3
      have f1 := HP6.out.fz 1
      have r0 := HR6.out.c0
      have r1 := HR6.out.c1
      have r2 := HR6.out.c2
      have r3 := HR6.out.c3
      have g0 := HR6.out.fz 0
      have g1 := HR6.out.fz 1
      have g2 := HR6.out.fz 2
      have g3 := HR6.out.fz 3
      clear hown hb6 HP5 HR5 HB5 hwd
      go_wp2_with fail
      obtain ⟨w7, hw7⟩ : ∃ w7, w7 = ((((w6.setCell ⟨p, 1, none⟩ (.slice ao ws.length cap)).setCell ⟨W.heap.size, 0, none⟩ (.string (mk8 name))).setCell ⟨W.heap.size, 1, none⟩ (.slice ao ws.length cap)).setCell ⟨W.heap.size, 2, none⟩ (.string (mk8 (restL r)))).setCell ⟨W.heap.size, 3, none⟩ (.bool k) := ⟨_, rfl⟩
      rw [← hw7]
      have d0 : Rq W.heap.size name (.slice ao ws.length cap) (restL r) k w7 := by
        rw [hw7]
        exact ((((HR6.out.only (set_only (b := p) (k := 1) w6 _) (by omega)).set0).set1 _).set2 _).set3
      have hfar : ∀ i, i ≠ p → i ≠ W.heap.size → w7.heap[i]? = w6.heap[i]? := fun i h1 h2 => by
        rw [hw7]
        rw [Below.heap_setCell _ _ _ _ h2, Below.heap_setCell _ _ _ _ h2, Below.heap_setCell _ _ _ _ h2, Below.heap_setCell _ _ _ _ h2, Below.heap_setCell _ _ _ _ h1]
      have hb7 : Below W.heap.size W w7 := by
        rw [hw7]
        exact below_set (below_set (below_set (below_set (below_set HB6.out (by omega) _) (Nat.le_refl _) _) (Nat.le_refl _) _) (Nat.le_refl _) _) (Nat.le_refl _) _
      have d1 := d0.c0
      have d2 := d0.c1
      have d3 := d0.c2
      have d4 := d0.c3
      have HF := Lib.hid (HO.out w7 fun i hi => hfar i (by omega) (by omega))
      clear hw7 k0 k1 k2 k3 r0 r1 r2 r3
      simp [bodyPost, results, Tryd.results9, go_sem, d1, d2, d3, d4]
      exact ⟨_, ⟨hN.out.symm, rfl, hk.symm⟩, ws, HW.out, hwl, HF.out, hb7⟩
theorem split_any (l : List UInt8) (c q : Int) (W : World) : Calls Tryd.prog 9 #[.string (mk8 l), .int .u8 c, .int .u8 q] W (SplitP l c q W) := by
  cases h : fitB l c q with
  | false => rw [splitP_bad h]; exact split_bad l c q W h
  | true =>
    cases hs : startB l c q with
    | false => rw [splitP_none h hs]; exact split_none l c q W h hs
    | true =>
      cases l with
      | nil => cases hs
      | cons x r => exact split_yes x r c q W h hs
end Go.Proofs.YtjbaljibaejdgaaDoor
