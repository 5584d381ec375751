/- RegisterApart: walked. -/
import Derived.Test.YtopgbbkndkincaaGreatDoorRdInv
import Derived.Test.YtopgbbkndkincaaGreatDoorRdCopy
namespace Go.Proofs.YtopgbbkndkincaaGreatDoor
open Go.RowKit Go.PlainAid Go.Maps

section
variable {A B S b mb n n2 x c mc y : Nat} {D D2 : DataW Unit} {v v' v2 : Value} {l l2 : List Row} {w W W' : World}
/-- The copies, and that nothing of theirs is turned with the books. -/
structure Twin (S c mc y n2 : Nat) (D2 : DataW Unit) (v2 : Value) (l2 : List Row) (mb x : Nat) (v : Value) (W : World) : Prop where
  bk : BookAt c mc n2 D2 W
  rf : RefAt S y v2 l2 W
  sm : Same D2 l2
  n1 : c ≠ mb ∧ c ≠ x ∧ v.ownBlock ≠ some c
  n2 : mc ≠ mb ∧ mc ≠ x ∧ v.ownBlock ≠ some mc
  n3 : y ≠ mb ∧ y ≠ x ∧ v.ownBlock ≠ some y
  n4 : ∀ j, v2.ownBlock = some j → j ≠ mb ∧ j ≠ x ∧ v.ownBlock ≠ some j
theorem Twin.keep (h : Twin S c mc y n2 D2 v2 l2 mb x v W) (ha : Apart mb x v v' W W') : Twin S c mc y n2 D2 v2 l2 mb x v' W' := by
  have hmc := h.bk.mlt
  have hc := h.bk.lt
  have hy := h.rf.lt
  have hv2 : ∀ j, v2.ownBlock = some j → j < W.heap.size := fun j e => (h.rf.row.lt j e).2
  have new : ∀ j, j < W.heap.size → v.ownBlock ≠ some j → v'.ownBlock ≠ some j := fun j hj hn e => by
    rcases ha.new j e with e | e
    · exact hn e
    · omega
  refine ⟨⟨?_, ?_⟩, ⟨?_, ?_, h.rf.lo, h.rf.few⟩, h.sm, ⟨h.n1.1, h.n1.2.1, new c hc h.n1.2.2⟩, ⟨h.n2.1, h.n2.2.1, new mc hmc h.n2.2.2⟩, ⟨h.n3.1, h.n3.2.1, new y hy h.n3.2.2⟩, fun j e => ?_⟩
  · rw [ha.block c hc h.n1.1 h.n1.2.1 h.n1.2.2]; exact h.bk.blk
  · obtain ⟨es, clock, hb, Ft, hs, hD⟩ := h.bk.map
    exact ⟨es, clock, (ha.block mc hmc h.n2.1 h.n2.2.1 h.n2.2.2).trans hb, Ft, hs, hD⟩
  · rw [ha.block y hy h.n3.1 h.n3.2.1 h.n3.2.2]; exact h.rf.blk
  · refine ⟨h.rf.row.1, ?_⟩
    rcases h.rf.row.2 with h1 | ⟨g, cap, cur, h1, h2, h3, h4⟩
    · exact .inl h1
    · have e : v2.ownBlock = some g := by rw [h1]; rfl
      obtain ⟨q1, q2, q3⟩ := h.n4 g e
      exact .inr ⟨g, cap, cur, h1, h2, (ha.block g (hv2 g e) q1 q2 q3).trans h3, h4⟩
  · obtain ⟨q1, q2, q3⟩ := h.n4 j e
    exact ⟨q1, q2, new j (hv2 j e) q3⟩
/-- What holds between the later deeds. -/
def Inv2 (A B b mb x S c mc y n2 : Nat) (D2 : DataW Unit) (v2 : Value) (l2 : List Row) (w : World) (k : Nat) (W : World) : Prop :=
  ∃ n D v l, Two A B b mb n D x v l W ∧ Same D l ∧ n ≤ 40 + k ∧ l.length ≤ 40 + k ∧ Below A w W ∧ Twin S c mc y n2 D2 v2 l2 mb x v W
theorem twin_new (hT : Two A B b mb n D x v l w) (sm : Same D l) {w1 w2 : World} (hc : w.heap.size ≤ c) (hmc : w.heap.size ≤ mc) (hB : BookAt c mc n D w1) (hb1 : Below w.heap.size w w1) (hR : RefAt w1.heap.size y v2 l w2) (hb2 : Below w1.heap.size w1 w2) :
    Twin w1.heap.size c mc y n D v2 l mb x v w2 := by
  have hmb := hT.bk.mlt
  have hx := hT.rf.lt
  have hy := hR.lo
  have hs := hb1.size
  have hv : ∀ j, v.ownBlock = some j → j < w.heap.size := fun j e => (hT.own j e).2
  have far : ∀ j, w.heap.size ≤ j → j ≠ mb ∧ j ≠ x ∧ v.ownBlock ≠ some j := fun j hj => ⟨by omega, by omega, fun e => by have := hv j e; omega⟩
  refine ⟨hB.below hb2, hR, sm, far c hc, far mc hmc, far y (by omega), fun j e => far j ?_⟩
  have := (hR.row.lt j e).1
  omega

set_option maxRecDepth 100000 in
set_option maxHeartbeats 4000000 in
theorem law_apart (ao ao2 : Option Addr) (len cap len2 cap2 : Nat) (hl : len ≤ maxLen) (hl2 : len2 ≤ maxLen) (Ds Es : Nat → DeedV) (w : World) (hD : DeedsAt ao len Ds w) (hE : DeedsAt ao2 len2 Es w) (hw : Tabs w) :
    Calls Tryz.prog 3 #[.slice ao len cap, .slice ao2 len2 cap2] w (Makes (.bool true) w) := by
  unfold maxLen at hl hl2
  have HW := Lib.hid hw
  have HD := Lib.hid hD
  have HE := Lib.hid hE
  clear hw hD hE
  by_cases h40 : 40 < len
  · go_enter Tryz.func3, Tryz.ntmps3
    go_wp2_with fail
    refine (sane_any _).mono ?_
    rintro e w1 ⟨rfl, rfl⟩
    go_wp2_with fail
    go_ret
    exact ⟨rfl, Below.refl _ _⟩
  · by_cases h20 : 20 < len2
    · go_enter Tryz.func3, Tryz.ntmps3
      go_wp2_with fail
      refine (sane_any _).mono ?_
      rintro e w1 ⟨rfl, rfl⟩
      go_wp2_with fail
      go_ret
      exact ⟨rfl, Below.refl _ _⟩
    · go_enter Tryz.func3, Tryz.ntmps3
      go_wp2_with fail
      refine (new_any _).mono ?_
      rintro e w1 ⟨b, mb, rfl, hb0, hm0, hB, hb1⟩
      have HI := Lib.hid (inv_start HW.out hb0 hm0 hB hb1)
      clear hb0 hm0 hB hb1 HW
      go_wp2_with fail
      obtain ⟨x, hx⟩ : ∃ x, w1.heap.size = x := ⟨_, rfl⟩
      obtain ⟨w2, hw2⟩ : ∃ w2, w1.alloc (.cells #[.slice none 0 0] 29) = w2 := ⟨_, rfl⟩
      rw [hx, hw2] at HI
      simp only [hx, hw2]
      clear hx hw2
      go_loopw [7] (fun i wr => ∃ k : Nat, k ≤ len ∧ i = .int .i64 k ∧ Hid (Inv w.heap.size x b mb x w k wr)) (fun i _ => len - (intOf i).toNat)
      case atStart => exact ⟨0, by omega, rfl, HI⟩
      case round =>
        obtain ⟨k, hk, rfl, hi⟩ := hrel
        clear HI
        by_cases hlt : k < len
        · obtain ⟨g, off, e1, e2⟩ := HD.out
          obtain ⟨rfl, hg⟩ := e1 (by omega)
          obtain ⟨hok, hat⟩ := e2 k hlt
          obtain ⟨n, D, v, l, hT, hS, hn, hll, hbe⟩ := hi.out
          obtain ⟨c0, c1, c2, c3⟩ := hat.below hbe hg
          have HDO := Lib.hid (does_any hT hS (by omega) (by omega) (Ds k) hok)
          obtain ⟨⟨a, nm, fm, z⟩, hd⟩ : ∃ d, Ds k = d := ⟨_, rfl⟩
          rw [hd] at c0 c1 c2 c3 HDO
          have HB := Lib.hid hbe
          have HN := Lib.hid (And.intro hn hll)
          have hkz : (k : Int) < len := by omega
          have hk0 : (0 : Int) ≤ k := by omega
          clear hok hat hT hS hn hll hbe hd e1 e2 hi hg
          go_wp2_with fail
          refine HDO.out.mono ?_
          rintro e w4 ⟨rfl, n', D', v', l', hT', hS', hn', hl', hb', _⟩
          have HI : Hid (Inv w.heap.size x b mb x w (k + 1) w4) := by
            have h2 := HN.out
            exact ⟨n', D', v', l', hT', hS', by omega, by omega, HB.out.trans hb'⟩
          clear hT' hS' hn' hl' hb'
          go_wp2_with fail
          go_roundw
          case rel => exact ⟨k + 1, by omega, by go_num, HI⟩
          case measure => simp only [intOf]; omega
        · obtain rfl : k = len := by omega
          obtain ⟨n, D, v, l, hT, hS, hn, hll, hbe⟩ := hi.out
          have HT := Lib.hid hT
          have HSM := Lib.hid hS
          have HN := Lib.hid (And.intro hn hll)
          have HB := Lib.hid hbe
          have HC := Lib.hid (copy_any hT.bk)
          clear hT hS hn hll hbe hi
          go_wp2_with fail
          refine HC.out.mono ?_
          rintro e w3 ⟨c, mc, rfl, hc, hmc, hBC, hb3⟩
          have HRC := Lib.hid (rcopy_any (HT.out.below hb3).rf)
          have HBC := Lib.hid (And.intro (And.intro hc hmc) (And.intro hBC hb3))
          clear hc hmc hBC hb3
          go_wp2_with fail
          refine HRC.out.mono ?_
          rintro e w4 ⟨y, v2, rfl, hR, hb4⟩
          obtain ⟨S, hS⟩ : ∃ S, w3.heap.size = S := ⟨_, rfl⟩
          have HI2 : Hid (Inv2 w.heap.size x b mb x S c mc y n D v2 l w 0 w4) := by
            have h2 := HN.out
            obtain ⟨⟨q1, q2⟩, q3, q4⟩ := HBC.out
            have hbb := q4.trans (hb4.mono q4.size)
            exact ⟨n, D, v, l, HT.out.below hbb, HSM.out, by omega, by omega, HB.out.trans (hbb.mono HT.out.le), hS ▸ twin_new HT.out HSM.out q1 q2 q3 q4 hR hb4⟩
          have HNC : Hid (n ≤ 40 ∧ l.length ≤ 40) := by have h2 := HN.out; exact ⟨by omega, by omega⟩
          clear hS hR hb4 HBC HT HB HSM HN
          go_wp2_with fail
          go_loopw [10] (fun i wr => ∃ k2 : Nat, k2 ≤ len2 ∧ i = .int .i64 k2 ∧ Hid (Inv2 w.heap.size x b mb x S c mc y n D v2 l w k2 wr)) (fun i _ => len2 - (intOf i).toNat)
          case atStart => exact ⟨0, by omega, rfl, HI2⟩
          case round =>
            obtain ⟨k2, hk2, rfl, hi2⟩ := hrel
            clear HI2
            by_cases hlt2 : k2 < len2
            · obtain ⟨g, off, e1, e2⟩ := HE.out
              obtain ⟨rfl, hg⟩ := e1 (by omega)
              obtain ⟨hok, hat⟩ := e2 k2 hlt2
              obtain ⟨n3, D3, v3, l3, hT, hSm, hn, hll, hbe, htw⟩ := hi2.out
              obtain ⟨c0, c1, c2, c3⟩ := hat.below hbe hg
              have HDO := Lib.hid (does_any hT hSm (by omega) (by omega) (Es k2) hok)
              obtain ⟨⟨a, nm, fm, z⟩, hd⟩ : ∃ d, Es k2 = d := ⟨_, rfl⟩
              rw [hd] at c0 c1 c2 c3 HDO
              have HB := Lib.hid hbe
              have HN := Lib.hid (And.intro hn hll)
              have HTW := Lib.hid htw
              have hkz : (k2 : Int) < len2 := by omega
              have hk0 : (0 : Int) ≤ k2 := by omega
              clear hok hat hT hSm hn hll hbe hd e1 e2 hi2 hg htw
              go_wp2_with fail
              refine HDO.out.mono ?_
              rintro e w5 ⟨rfl, n', D', v', l', hT', hS', hn', hl', hb', hap⟩
              have HI : Hid (Inv2 w.heap.size x b mb x S c mc y n D v2 l w (k2 + 1) w5) := by
                have h2 := HN.out
                exact ⟨n', D', v', l', hT', hS', by omega, by omega, HB.out.trans hb', HTW.out.keep hap⟩
              clear hT' hS' hn' hl' hb' hap
              go_wp2_with fail
              go_roundw
              case rel => exact ⟨k2 + 1, by omega, by go_num, HI⟩
              case measure => simp only [intOf]; omega
            · obtain rfl : k2 = len2 := by omega
              obtain ⟨n3, D3, v3, l3, hT, hSm, hn, hll, hbe, htw⟩ := hi2.out
              have HS1 := Lib.hid (same_any (⟨htw.bk, htw.rf, htw.sm, hT.tb _ (Below.refl _ _)⟩ : Both S c mc n D y v2 l wr) (by have := HNC.out.1; omega) (htw.sm.nameSize htw.bk))
              have HT := Lib.hid hT
              have HSM := Lib.hid hSm
              have HB := Lib.hid hbe
              have HN3 := Lib.hid hn
              clear hT hSm hn hll hbe htw hi2
              go_wp2_with fail
              refine HS1.out.mono ?_
              rintro e w5 ⟨rfl, hb5⟩
              have hT5 := HT.out.below hb5
              have HS2 := Lib.hid (same_any (hT5.both HSM.out) (by have := HN3.out; omega) (HSM.out.nameSize hT5.bk))
              have HB5 := Lib.hid (HB.out.trans (hb5.mono HT.out.le))
              have HL5 := Lib.hid hT5.le
              clear hb5 hT5
              go_wp2_with fail
              refine HS2.out.mono ?_
              rintro e w6 ⟨rfl, hb6⟩
              have HB6 := Lib.hid (HB5.out.trans (hb6.mono HL5.out))
              clear hb6
              go_wp2_with fail
              refine (sane_any _).mono ?_
              rintro e w7 ⟨rfl, rfl⟩
              go_wp2_with fail
              go_ret
              exact ⟨rfl, HB6.out⟩
end
end Go.Proofs.YtopgbbkndkincaaGreatDoor
