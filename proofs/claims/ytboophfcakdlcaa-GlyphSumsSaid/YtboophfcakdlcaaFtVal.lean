/- Has a font all of some glyphs; a font in memory. -/
import Derived.Test.YtboophfcakdlcaaFtHas
import Derived.Test.YtboophfcakdlcaaFtSame
import Derived.Deep.DeepCutAuto
namespace Go.Proofs.Ytboophfcakdlcaa
open Go.RowKit Go.PlainAid Go.Shelf

/-- Names that lie one behind the other in a block. -/
def NamesAt (g : Nat) (ns : List (List UInt8)) (w : World) : Prop := g < w.heap.size ∧ ∀ j, j < ns.length → w.cell? ⟨g, j, none⟩ = some (.string (mk8 ns[j]!))
theorem NamesAt.below {g : Nat} {ns : List (List UInt8)} {w w' : World} (h : NamesAt g ns w) (hb : Below w.heap.size w w') : NamesAt g ns w' :=
  ⟨Nat.lt_of_lt_of_le h.1 hb.size, fun j hj => by rw [← h.2 j hj]; exact hb.cell (p := ⟨g, j, none⟩) h.1⟩

set_option maxRecDepth 100000 in
set_option maxHeartbeats 4000000 in
theorem hasAll_any (x : FA) (g cap : Nat) (ns : List (List UInt8)) (w : World) (h : x.ok w) (hasc : ascB cmpG x.F.gs = true) (hl : x.F.gs.length ≤ 400) (hn : NamesAt g ns w) (hns : ns.length ≤ 1000) :
    Calls Try.prog 72 #[fontVal x, .slice (some ⟨g, 0, none⟩) ns.length cap] w (Makes (.bool (ns.all (hasB x.F.gs))) w) := by
  have hce := enters_byName
  have HS0 := Lib.hid (fun nm w' (hb : Below w.heap.size w w') => search_any x.ag x.F.gs x.cg nm w' (h.gs.below hb) hasc hl)
  have HN0 := Lib.hid hn
  obtain ⟨V, hV⟩ : ∃ V, ns.all (hasB x.F.gs) = V := ⟨_, rfl⟩
  rw [hV]
  have HY : Hid ((∀ j, j < ns.length → hasB x.F.gs ns[j]! = true) → V = true) := fun h => by rw [← hV]; exact all_of h
  have HNo : Hid (∀ j, j < ns.length → hasB x.F.gs ns[j]! = false → V = false) := fun j hj h => by rw [← hV]; exact all_no hj h
  clear hV hn h hasc
  obtain ⟨F, ag, al, ak, cg, cl, ck⟩ := x
  simp only at HS0 HY HNo hl ⊢
  go_enter Try.func72, Try.ntmps72
  go_upto_region 1 with fail
  generalize hw2 : w.alloc _ = w2
  have hb2 : Below w.heap.size w w2 := by rw [← hw2]; exact (Below.refl _ _).alloc (Nat.le_refl _) _
  have HT : Hid (w2.heap[w.heap.size]? = some (.cells #[.string (mk8 F.name), .bool F.special, .int .i64 F.space, .slice ag F.gs.length cg, .slice al F.ls.length cl, .slice ak F.ks.length ck] 37 (0, 0))) := by rw [← hw2]; exact heap_alloc_new w _
  have HB2 := Lib.hid hb2
  have HN2 := Lib.hid (HN0.out.below hb2)
  obtain ⟨p, hp⟩ : ∃ p, w.heap.size = p := ⟨_, rfl⟩
  rw [hp] at HT
  rw [hp]
  have hpl : p < w2.heap.size := (Array.getElem?_eq_some_iff.1 HT.out).1
  have hpw : Hid (w.heap.size = p) := hp
  clear hw2 hb2 HN0 hp
  go_wp2_with fail
  go_loopw [11] (fun i wr => ∃ k : Nat, k ≤ ns.length ∧ i = .int .i64 k ∧ Hid (∀ j, j < k → hasB F.gs ns[j]! = true) ∧ Hid (Below w2.heap.size w2 wr)) (fun i _ => ns.length - (intOf i).toNat)
  case atStart => exact ⟨0, by omega, rfl, fun j hj => absurd hj (Nat.not_lt_zero _), Below.refl _ _⟩
  case round =>
    obtain ⟨k, hk, rfl, hn, hbl⟩ := hrel
    by_cases hlt : k < ns.length
    · have ht := hbl.out.block p hpl
      rw [HT.out] at ht
      have t3 := cell_of (j := 3) ht rfl
      have c0 := (HN2.out.below hbl.out).2 k hlt
      obtain ⟨nm, hnm⟩ : ∃ nm, ns[k]! = nm := ⟨_, rfl⟩
      have HNo2 := Lib.hid (HNo.out k hlt)
      have HS2 : Hid (hasB F.gs nm = true → ∀ j, j < k + 1 → hasB F.gs ns[j]! = true) := fun h j hj => by
        by_cases e : j = k
        · subst e; rw [hnm]; exact h
        · exact hn.out j (by omega)
      rw [hnm] at c0 HNo2
      have hz1 : (k : Int) < ns.length := by omega
      have HBw := Lib.hid (HB2.out.trans (hbl.out.mono HB2.out.size))
      have HS := Lib.hid (HS0.out nm wr HBw.out)
      clear ht hnm hn
      cases hh : hasB F.gs nm with
      | false =>
        have HV := Lib.hid (HNo2.out hh)
        simp only [hh] at HS
        clear hh HS2
        go_wp2_with fail
        refine HS.out.mono ?_
        rintro e w3 ⟨z, rfl, hb3⟩
        have HB3 := Lib.hid (HBw.out.trans (hb3.mono HBw.out.size))
        clear hb3
        go_wp2_with fail
        go_ret
        exact ⟨by rw [HV.out]; rfl, HB3.out⟩
      | true =>
        have HS3 := Lib.hid (HS2.out hh)
        simp only [hh] at HS
        clear hh HS2 HNo2
        go_wp2_with fail
        refine HS.out.mono ?_
        rintro e w3 ⟨z, rfl, hb3⟩
        have HB3 := Lib.hid (hbl.out.trans (hb3.mono hbl.out.size))
        clear hb3
        go_wp2_with fail
        go_roundw
        case rel => exact ⟨k + 1, by omega, by go_num, HS3, HB3⟩
        case measure => simp [intOf]; omega
    · obtain rfl : k = ns.length := by omega
      have HV := Lib.hid (HY.out hn.out)
      clear hn
      go_wp2_with fail
      go_ret
      exact ⟨by rw [HV.out]; rfl, HB2.out.trans (hbl.out.mono HB2.out.size)⟩
end Go.Proofs.Ytboophfcakdlcaa
