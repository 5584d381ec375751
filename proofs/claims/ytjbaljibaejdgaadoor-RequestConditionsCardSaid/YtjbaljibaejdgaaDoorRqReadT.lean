/- What is asked behind every !, read: two texts. -/
import Derived.Test.YtjbaljibaejdgaaDoorRqReadD
import Derived.Test.YtjbaljibaejdgaaDoorRqTexts
namespace Go.Proofs.YtjbaljibaejdgaaDoor
open Go.RowKit Go.PlainAid Go.Shelf

theorem read_quo {c : UInt8} {r : List UInt8} (h1 : oneK c = false) (h2 : namK c = false) (h : quoB c = true) : kindN (c :: r) = 1 ∧ readL (c :: r) = textsL c r := by
  constructor
  · unfold kindN; simp [h]
  · conv => lhs; unfold readL
    simp only [h1, h2, h]
    rfl
theorem mk8_one (c : UInt8) : (mk8 [c]).toList = [c] := by
  first
    | rfl
    | simp [mk8]
    | kernel_rfl
theorem not_lit {c : UInt8} (k : UInt8) (h : c ≠ k) : ((mk8 [c]).toList == [k]) = false := by
  rw [mk8_one]
  simpa using h
set_option maxRecDepth 100000 in
set_option maxHeartbeats 4000000 in
theorem read_texts (b : Nat) (c : UInt8) (r : List UInt8) (hm : r.length ≤ 2000) (h1 : oneK c = false) (h2 : namK c = false) (h3 : quoB c = true) (W : World) (hB : Box b (c :: r) W) : Calls Tryd.prog 15 #[.func (.func 28) #[] #[.pointer (some ⟨b, 0, none⟩)]] W (ReadP b (c :: r) W) := by
  have hbl := hB.lt
  have hce := enters_cut
  obtain ⟨hk, hs⟩ := read_quo (r := r) h1 h2 h3
  have hbR : W.heap.size ≠ b := by omega
  have HW0 := Lib.hid (show Below W.heap.size W (W.alloc (.cells (condCells false 0 [] [] [] []) 28)) from (Below.refl _ _).alloc (Nat.le_refl _) _)
  have hB1 := hB.below HW0.out
  have HR1 := Lib.hid (cd_new false 0 [] [] [] [] W)
  have HK := Lib.hid (cut_kind b (c :: r) _ hB1)
  unfold CutP at HK
  rw [hk, show (c :: r).take 1 = [c] from rfl, show (c :: r).drop 1 = r from rfl] at HK
  have HO1 := Lib.hid (only_of (b := b) HW0.out)
  have HT := Lib.hid (fun w (h : Box b r w) => readTexts_any b c r hm w h)
  unfold TextsP at HT
  have hbt : bt (mk8 [c]) 0 = c.toNat := bt_mk rfl
  have hz : 0 < (mk8 [c]).size := by rw [mk8_size]; simp
  unfold oneK at h1
  unfold namK at h2
  simp only [List.contains_cons, List.contains_nil, Bool.or_eq_false_iff, beq_eq_false_iff_ne, ne_eq, Bool.or_false] at h1 h2
  have n1 := not_lit 111 h1.1
  have n2 := not_lit 101 h1.2.1
  have n3 := not_lit 116 h1.2.2.1
  have n4 := not_lit 110 h1.2.2.2
  have n5 := not_lit 100 h2.1
  have n6 := not_lit 114 h2.2
  unfold ReadP
  rw [hs]
  clear h1 h2 h3 hk hB hB1 hs
  obtain ⟨s, hs⟩ : ∃ s, mk8 [c] = s := ⟨_, rfl⟩
  have hgb := get_bt s
  have hse : s.toList.isEmpty = false := by rw [← hs, mk8_one]; rfl
  rw [hs] at HK hbt hz n1 n2 n3 n4 n5 n6
  obtain ⟨z, hzz⟩ : ∃ z : Int, (c.toNat : Int) = z := ⟨_, rfl⟩
  rw [hzz] at HT hbt
  clear hs hzz
  go_enter Tryd.func15, Tryd.ntmps15
  go_wp2_with fail
  refine HK.out.mono ?_
  rintro e w2 ⟨rfl, hx2, ho2⟩
  have HR2 := Lib.hid (HR1.out.only ho2 hbR)
  have HO2 := Lib.hid (HO1.out.trans ho2)
  have HB2 := Lib.hid hx2
  clear hx2 ho2 HR1 HO1
  go_wp2_with fail
  refine (HT.out w2 HB2.out).mono ?_
  rintro e w3 ⟨la, lb, rfl, hx3, ho3, ha, hbb⟩
  have HR3 := Lib.hid (HR2.out.only ho3 hbR)
  have HO3 := Lib.hid (HO2.out.trans ho3)
  have HB3 := Lib.hid hx3
  have HA := Lib.hid ha
  have HBB := Lib.hid hbb
  clear hx3 ho3 ha hbb HR2 HO2 HB2 HT
  have q0 := HR3.out.c0
  have q1 := HR3.out.c1
  have q2 := HR3.out.c2
  have q3 := HR3.out.c3
  have q4 := HR3.out.c4
  have q5 := HR3.out.c5
  have g0 := HR3.out.fz 0
  have g1 := HR3.out.fz 1
  have g2 := HR3.out.fz 2
  have g3 := HR3.out.fz 3
  have g4 := HR3.out.fz 4
  have g5 := HR3.out.fz 5
  go_wp2_with fail
  obtain ⟨w5, hw5⟩ : ∃ w5, w5 = (((((w3.setCell ⟨W.heap.size, 0, none⟩ (.bool false)).setCell ⟨W.heap.size, 1, none⟩ (.int .u8 39)).setCell ⟨W.heap.size, 2, none⟩ (.string (mk8 []))).setCell ⟨W.heap.size, 3, none⟩ (.string (mk8 la))).setCell ⟨W.heap.size, 4, none⟩ (.string (mk8 lb))).setCell ⟨W.heap.size, 5, none⟩ (.string (mk8 [])) := ⟨_, rfl⟩
  have hd : Cd W.heap.size false 39 [] la lb [] w5 := by rw [hw5]; exact putCd_is HR3.out
  have ho5 : Only W.heap.size w3 w5 := by rw [hw5]; exact putCd_only w3 W.heap.size false 39 [] la lb []
  have HB5 := Lib.hid (HB3.out.far ho5 (Ne.symm hbR))
  have HO5 : Hid (Only b W w5) := ⟨ho5.os.trans HO3.out.os, ho5.tape.trans HO3.out.tape, ho5.output.trans HO3.out.output, Nat.le_trans HO3.out.size ho5.size, fun i hi hb => (ho5.block i (Nat.lt_of_lt_of_le hi HO3.out.size) (by omega)).trans (HO3.out.block i hi hb)⟩
  have e0 := hd.c0
  have e1 := hd.c1
  have e2 := hd.c2
  have e3 := hd.c3
  have e4 := hd.c4
  have e5 := hd.c5
  clear q0 q1 q2 q3 q4 q5 g0 g1 g2 g3 g4 g5 hd ho5 n1 n2 n3 n4 n5 n6 hse hgb
  rw [← hw5]
  clear hw5
  have HS : Hid ((textsL c r).isSome = !(atEnd c r).isEmpty) := by
    show _ = _
    by_cases hq : atEnd c r = []
    · rw [texts_none hq, hq]; rfl
    · rw [texts_some hq]
      cases hq2 : atEnd c r with
      | nil => exact absurd hq2 hq
      | cons y t => rfl
  have HX : Hid (∀ x, textsL c r = some x → x.kind = 39 ∧ x.name = [] ∧ x.left = la ∧ x.right = lb ∧ x.rest = (atEnd c r).drop 1) := by
    show ∀ x, _
    intro x hx
    by_cases hq : atEnd c r = []
    · rw [texts_none hq] at hx; cases hx
    · rw [texts_some hq] at hx
      obtain rfl := Option.some.inj hx
      exact ⟨rfl, rfl, HA.out.symm, HBB.out.symm, rfl⟩
  rw [HS.out]
  simp [bodyPost, results, Tryd.results15, go_sem, e0, e1, e2, e3, e4, e5]
  exact ⟨_, _, _, _, ⟨rfl, rfl, rfl, rfl⟩, _, HB5.out, HO5.out, fun x hx => by obtain ⟨h1, h2, h3, h4, h5⟩ := HX.out x hx; rw [h1, h2, h3, h4, h5]; exact ⟨rfl, rfl, rfl, rfl, rfl⟩⟩
theorem read_any (b : Nat) (m : List UInt8) (hm : m.length ≤ 2000) (W : World) (hB : Box b m W) : Calls Tryd.prog 15 #[.func (.func 28) #[] #[.pointer (some ⟨b, 0, none⟩)]] W (ReadP b m W) := by
  cases m with
  | nil => exact read_none b [] hm W hB rfl
  | cons c r =>
    have hr : r.length ≤ 2000 := by simp at hm; omega
    cases h1 : oneK c with
    | true => exact read_one b c r h1 W hB
    | false =>
      cases h2 : namK c with
      | true => exact read_name b c r hr h2 W hB
      | false =>
        cases h3 : quoB c with
        | true => exact read_texts b c r hr h1 h2 h3 W hB
        | false => exact read_none b (c :: r) hm W hB (by unfold kindN; simp [h1, h2, h3])
end Go.Proofs.YtjbaljibaejdgaaDoor
