/- The document's Split of a control line. -/
import Derived.Test.YtejffadjakajcaaDoorRqRSplit
import Derived.Deep.DeepCutAuto
namespace Go.Proofs.YtejffadjakajcaaDoor
open Go.RowKit Go.PlainAid Go.Shelf

/-- The request is begun. -/
structure RBegun (W : World) (p : Nat) (name rest : List UInt8) (q : Bool) (w : World) : Prop where
  rr : Rr p name (.slice none 0 0) rest q w
  res : Rr W.heap.size [] (.slice none 0 0) [] false w
  bel : Below W.heap.size W w
  new : W.heap.size < p
theorem rbegun (W : World) (name : List UInt8) (q : Bool) : RBegun W (W.heap.size + 1) name [] q ((W.alloc (.cells #[.string ⟨#[]⟩, .slice none 0 0, .string ⟨#[]⟩, .bool false] 48)).alloc (.cells #[.string (mk8 name), .slice none 0 0, .string ⟨#[]⟩, .bool q] 48)).drew := by
  have h1 : (W.alloc (.cells #[.string ⟨#[]⟩, .slice none 0 0, .string ⟨#[]⟩, .bool false] 48)).heap.size = W.heap.size + 1 := by simp
  refine ⟨?_, (rr_new W).below ((Below.refl _ _).alloc (Nat.le_refl _) _).drew, (((Below.refl _ _).alloc (Nat.le_refl _) _).alloc (by rw [h1]; omega) _).drew, by omega⟩
  have := heap_alloc_new (W.alloc (.cells #[.string ⟨#[]⟩, .slice none 0 0, .string ⟨#[]⟩, .bool false] 48)) (.cells #[.string (mk8 name), .slice none 0 0, .string ⟨#[]⟩, .bool q] 48)
  rw [h1] at this
  exact this

set_option maxRecDepth 100000 in
set_option maxHeartbeats 4000000 in
theorem rsplit_yes (x : UInt8) (r : List UInt8) (c q : Int) (W : World) (h : fitB (x :: r) c q = true) (hs : startB (x :: r) c q = true) : Calls Tryd.prog 22 #[.string (mk8 (x :: r)), .int .u8 c, .int .u8 q] W (SplitP (x :: r) c q W) := by
  rw [splitP_yes h hs]
  unfold fitB at h
  simp only [Bool.and_eq_true, Bool.not_eq_true'] at h
  obtain ⟨⟨⟨h1, h2⟩, h3⟩, h4⟩ := h
  have hlen : (x :: r).length ≤ 2000 := by
    simp only [lineL, Bool.and_eq_true, decide_eq_true_eq] at h1
    exact h1.1
  have HL := Lib.hid (fun w => rIsLine_any (x :: r) (by omega) w)
  have HC := Lib.hid (fun w => rcontrol_any c w)
  have HQ := Lib.hid (fun w => rcontrol_any q w)
  simp only [h1] at HL; simp only [h2] at HC; simp only [h3] at HQ
  clear h1 h2 h3
  have hgb := get_bt (mk8 (x :: r))
  have hb : bt (mk8 (x :: r)) 0 = x.toNat := bt_mk rfl
  have hs : ((((x.toNat : Nat) : Int) == c) || (((x.toNat : Nat) : Int) == q)) = true := hs
  rw [← hb] at hs
  have z1 : ((mk8 (x :: r)).size : Int) = (x :: r).length := by rw [mk8_size]
  have z2 : (mk8 (x :: r)).size = (x :: r).length := mk8_size _
  have z3 : 0 < (mk8 (x :: r)).size := by rw [mk8_size]; simp
  have z4 : (x :: r).isEmpty = false := rfl
  have hl1 : 1 ≤ (x :: r).length := by simp
  have hd1 : (x :: r).drop 1 = r := rfl
  show Calls _ _ _ _ (fun e W' => ∃ v ws, e = .returned (.tuple #[.agg #[.string (mk8 (nameL r)), v, .string (mk8 (restL r)), .bool ((bt (mk8 (x :: r)) 0) == q)], .bool true, .int .i64 0]) ∧
    Wds (restL r) ws ∧ ws.length ≤ 2000 ∧ W'.ownsRow W.heap.size 9 1 v ws.length (ws.map strV) ∧ Below W.heap.size W W')
  obtain ⟨l, hl⟩ : ∃ l, x :: r = l := ⟨_, rfl⟩
  rw [hl] at hgb hs z1 z2 z3 z4 HL hlen hl1 hd1 ⊢
  clear hl hb
  -- the places
  have HSk := Lib.hid (fun w => skip_any l 1 hl1 (by omega) w)
  have hbk := blkN_le (l.drop 1)
  rw [List.length_drop] at hbk
  obtain ⟨fr, hfr⟩ : ∃ fr, 1 + blkN (l.drop 1) = fr := ⟨_, rfl⟩
  rw [hfr] at HSk
  have hfl : fr ≤ l.length := by omega
  have hdw : r.dropWhile blk = l.drop fr := by rw [← hd1, ← hfr, skip_trim]
  have HWd := Lib.hid (fun w => rword_any l fr hfl (by omega) w)
  have hwl := wordN_le (l.drop fr)
  rw [List.length_drop] at hwl
  obtain ⟨n, hn⟩ : ∃ n, wordN (l.drop fr) = n := ⟨_, rfl⟩
  rw [hn] at HWd hwl
  have hN : Hid (nameL r = (l.drop fr).take n) := by show _ = _; unfold nameL; rw [hdw, hn]
  have hR : Hid (restL r = l.drop (fr + n + 1)) := by show _ = _; unfold restL; rw [hdw, hn, List.drop_drop, List.drop_drop, Nat.add_assoc]
  have HNm : Hid ((mk8 l).extract fr (fr + n) = mk8 ((l.drop fr).take n)) := ext_mid l fr n
  have HRs : Hid ((mk8 l).extract (fr + n + 1) l.length = mk8 (l.drop (fr + n + 1))) := ext_tail l _
  obtain ⟨tp, hto⟩ : ∃ tp, fr + n = tp := ⟨_, rfl⟩
  rw [hto] at HWd HNm HRs hR
  have hft : fr ≤ tp := by omega
  have htl : tp ≤ l.length := by omega
  have hftz : (fr : Int) ≤ tp := by omega
  have htlz : (tp : Int) ≤ l.length := by omega
  have hrl : (restL r).length ≤ 2000 := by rw [hR.out, List.length_drop]; omega
  rw [← hN.out] at HNm
  rw [← hR.out] at HRs
  have HWo := Lib.hid (fun w => rwords_any (restL r) (by omega) w)
  have hnil : Hid (tp = l.length → restL r = []) := fun e => by rw [hR.out, e]; exact List.drop_eq_nil_of_le (by omega)
  obtain ⟨name, hname⟩ : ∃ name, nameL r = name := ⟨_, rfl⟩
  obtain ⟨rest, hrest⟩ : ∃ rest, restL r = rest := ⟨_, rfl⟩
  rw [hname] at HNm ⊢
  rw [hrest] at HRs HWo hnil hrl ⊢
  obtain ⟨kq, hk⟩ : ∃ kq, (bt (mk8 l) 0 == q) = kq := ⟨_, rfl⟩
  clear hname hrest hN hR hn hfr hdw hto hd1
  cases e1 : (bt (mk8 l) 0 == c)
  case' true => have e2 : (bt (mk8 l) 0 != c) = false := by rw [bne, e1]; rfl
  case' false =>
    have e2 : (bt (mk8 l) 0 != c) = true := by rw [bne, e1]; rfl
    have e3 : (bt (mk8 l) 0 != q) = false := by rw [e1, Bool.false_or] at hs; rw [bne, hs]; rfl
  all_goals
    have HK := Lib.hid hk
    clear hs e1 hk
    go_enter Tryd.func22, Tryd.ntmps22
    go_wp2_with fail
    refine (HL.out _).mono ?_
    rintro e w1 ⟨rfl, rfl⟩
    go_wp2_with fail
    refine (HC.out _).mono ?_
    rintro e w1 ⟨rfl, rfl⟩
    go_wp2_with fail
    refine (HQ.out _).mono ?_
    rintro e w1 ⟨rfl, rfl⟩
    go_wp2_with fail
    try clear e3
    clear e2
    refine (HSk.out _).mono ?_
    rintro e w1 ⟨rfl, rfl⟩
    go_wp2_with fail
    refine (HWd.out _).mono ?_
    rintro e w1 ⟨rfl, rfl⟩
    go_upto_region 7 with fail
    go_cut [11] (fun s11 wx => ∃ p : Nat, s11 = .pointer (some ⟨p, 0, none⟩) ∧ Hid (RBegun W p name [] (bt (mk8 l) 0 == q) wx))
    case first =>
      go_region
      all_goals
        go_wp2_with fail
        go_meet
        case rel =>
          rw [HNm.out]
          exact ⟨_, rfl, rbegun W name _⟩
    case rest =>
      obtain ⟨p, rfl, hp⟩ := hcut
      rw [HK.out] at hp
      have H1 := hp.out.new
      have HP := Lib.hid hp.out.rr
      have HR := Lib.hid hp.out.res
      have HB := Lib.hid hp.out.bel
      clear hp
      obtain ⟨w4, hw4⟩ : ∃ w4, w4 = wc := ⟨_, rfl⟩
      rw [← hw4] at HP HR HB ⊢
      clear hw4
      by_cases hlt : tp < l.length
      case' pos =>
        have hltz : (tp : Int) < l.length := by omega
        have hlt1 : (tp : Int) + 1 ≤ l.length := by omega
        have k2 := HP.out.c2
        have f2 := HP.out.fz 2
        go_upto_region 10 with fail
        rw [HRs.out]
        have HP5' : Rr p name (.slice none 0 0) rest kq (w4.setCell ⟨p, 2, none⟩ (.string (mk8 rest))) := HP.out.set2 _
        have hs5 := set_only (b := p) (k := 2) w4 (.string (mk8 rest))
        have HR5' := HR.out.only hs5 (by omega)
        have HB5' := HB.out.trans (hs5.below (by omega) HB.out.size)
        generalize w4.setCell ⟨p, 2, none⟩ (.string (mk8 rest)) = w5 at HP5' HR5' HB5' ⊢
        clear k2 f2 hs5 HP HR HB hltz hlt1
      case' neg =>
        have hltz : ¬ (tp : Int) < l.length := by omega
        have hre := hnil.out (by omega)
        go_upto_region 10 with fail
        have HP5' : Rr p name (.slice none 0 0) rest kq w4 := by rw [hre]; exact HP.out
        clear hre
        have HR5' := HR.out
        have HB5' := HB.out
        obtain ⟨w5, hw5⟩ : ∃ w5, w5 = w4 := ⟨_, rfl⟩
        rw [← hw5] at HP5' HR5' HB5' ⊢
        clear hw5 HP HR HB hltz
      all_goals
        have HP5 := Lib.hid HP5'
        have HR5 := Lib.hid HR5'
        have HB5 := Lib.hid HB5'
        have k2' := HP5'.c2
        clear HP5' HR5' HB5'
        go_wp2_with fail
        refine (HWo.out w5).mono ?_
        rintro e w6 ⟨v, ws, rfl, hwd, hwl, hown, hb6⟩
        obtain ⟨ao, cap, rfl⟩ := own_form hown
        have HP6 := Lib.hid (HP5.out.below hb6)
        have HR6 := Lib.hid (HR5.out.below hb6)
        have HB6 := Lib.hid (HB5.out.trans (hb6.mono HB5.out.size))
        have HW := Lib.hid hwd
        have hwl : ws.length ≤ 2000 := by omega
        have HO : Hid (∀ w' : World, (∀ i : Nat, w5.heap.size ≤ i → w'.heap[i]? = w6.heap[i]?) → w'.ownsRow W.heap.size 9 1 (.slice ao ws.length cap) ws.length (ws.map strV)) := fun w' hb =>
          owns_wide (owns_of_block hown fun g hg => hb g (hown.lt g hg).1) HB5.out.size
        have hpl := HP5.out.lt
        have hrl5 := HR5.out.lt
        have k0 := HP6.out.c0
        have k1 := HP6.out.c1
        have k2 := HP6.out.c2
        have k3 := HP6.out.c3
        have f1 := HP6.out.fz 1
        have r0 := HR6.out.c0
        have r1 := HR6.out.c1
        have r2 := HR6.out.c2
        have r3 := HR6.out.c3
        have g0 := HR6.out.fz 0
        have g1 := HR6.out.fz 1
        have g2 := HR6.out.fz 2
        have g3 := HR6.out.fz 3
        clear hown hb6 HP5 HR5 HB5 hwd k2'
        go_wp2_with fail
        obtain ⟨w7, hw7⟩ : ∃ w7, w7 = ((((w6.setCell ⟨p, 1, none⟩ (.slice ao ws.length cap)).setCell ⟨W.heap.size, 0, none⟩ (.string (mk8 name))).setCell ⟨W.heap.size, 1, none⟩ (.slice ao ws.length cap)).setCell ⟨W.heap.size, 2, none⟩ (.string (mk8 rest))).setCell ⟨W.heap.size, 3, none⟩ (.bool kq) := ⟨_, rfl⟩
        rw [← hw7]
        have d0 : Rr W.heap.size name (.slice ao ws.length cap) rest kq w7 := by
          rw [hw7]
          exact ((((HR6.out.only (set_only (b := p) (k := 1) w6 _) (by omega)).set0).set1 _).set2 _).set3
        have hfar : ∀ i, i ≠ p → i ≠ W.heap.size → w7.heap[i]? = w6.heap[i]? := fun i h1 h2 => by
          rw [hw7]
          rw [Below.heap_setCell _ _ _ _ h2, Below.heap_setCell _ _ _ _ h2, Below.heap_setCell _ _ _ _ h2, Below.heap_setCell _ _ _ _ h2, Below.heap_setCell _ _ _ _ h1]
        have hb7 : Below W.heap.size W w7 := by
          rw [hw7]
          exact below_set (below_set (below_set (below_set (below_set HB6.out (by omega) _) (Nat.le_refl _) _) (Nat.le_refl _) _) (Nat.le_refl _) _) (Nat.le_refl _) _
        have d1 := d0.c0
        have d2 := d0.c1
        have d3 := d0.c2
        have d4 := d0.c3
        have HF := Lib.hid (HO.out w7 fun i hi => hfar i (by omega) (by omega))
        clear hw7 k0 k1 k2 k3 r0 r1 r2 r3
        simp [bodyPost, results, Tryd.results22, go_sem, d1, d2, d3, d4]
        exact ⟨_, ⟨rfl, HK.out.symm⟩, ws, HW.out, hwl, HF.out, hb7⟩
theorem rsplit_any (l : List UInt8) (c q : Int) (hl : l.length ≤ 1000000) (W : World) : Calls Tryd.prog 22 #[.string (mk8 l), .int .u8 c, .int .u8 q] W (SplitP l c q W) := by
  cases h : fitB l c q with
  | false => rw [splitP_bad h]; exact rsplit_bad l c q W hl h
  | true =>
    cases hs : startB l c q with
    | false => rw [splitP_none h hs]; exact rsplit_none l c q W hl h hs
    | true =>
      cases l with
      | nil => cases hs
      | cons x r => exact rsplit_yes x r c q W h hs
end Go.Proofs.YtejffadjakajcaaDoor
