/- Both books have the same: walked. -/
import Derived.Test.YtopgbbkndkincaaGreatDoorRdDoes
import Derived.Deep.RegionHeld3
namespace Go.Proofs.YtopgbbkndkincaaGreatDoor
open Go.RowKit Go.PlainAid Go.Maps

section
variable {B b mb n x : Nat} {D : DataW Unit} {v : Value} {l : List Row} {w : World}
theorem names_len {ss : List (List UInt8)} (h : (ss.mergeSort (fun x y => decide (x ≤ y))).map encStr = namesOf l) : ss.length = l.length := by
  have := congrArg List.length h
  simpa [namesOf] using this
theorem names_at {W : World} {B2 g c : Nat} {l : List Row} {vv : Value} (h : W.ownsRow B2 9 1 vv l.length (namesOf l)) (hv : vv = .slice (some ⟨g, 0, none⟩) l.length c) {k : Nat} {r : Row} (hr : l[k]? = some r) : W.cell? ⟨g, k, none⟩ = some (.string r.name) := by
  subst hv
  have hk := (List.getElem?_eq_some_iff.1 hr).1
  have := h.cellAt k (by omega)
  rw [this]
  unfold namesOf
  rw [List.getElem?_map, hr]
  rfl
theorem own_len {W : World} {B2 m : Nat} {vv : Value} {xs : List Value} (h : W.ownsRow B2 9 1 vv m xs) : ∃ ao c, vv = .slice ao m c := by
  rcases h.2 with ⟨h1, h2⟩ | ⟨g, c, _, h1, _⟩
  · exact ⟨none, 0, by rw [h1, h2]⟩
  · exact ⟨_, c, h1⟩
theorem own_cells {W : World} {B2 c : Nat} {l : List Row} {ao : Option Addr} {vv : Value} (h : W.ownsRow B2 9 1 vv l.length (namesOf l)) (hv : vv = .slice ao l.length c) {k : Nat} {r : Row} (hr : l[k]? = some r) : ∃ g, ao = some ⟨g, 0, none⟩ ∧ W.cell? ⟨g, k, none⟩ = some (.string r.name) ∧ g < W.heap.size := by
  have hk := (List.getElem?_eq_some_iff.1 hr).1
  rcases h.2 with ⟨_, h2⟩ | ⟨g, c2, cur, h1, _⟩
  · omega
  · rw [h1] at hv
    injection hv with e1 e2 e3
    exact ⟨g, e1.symm, names_at h h1 hr, (h.lt g (by rw [h1]; rfl)).2⟩
theorem len_str (ao : Option Addr) (m c : Nat) (W : World) : (Builtin.len_ #[52] 3 #[.slice ao m c]).run Tryz.prog W = .ok (.int .i64 m) W := by kernel_rfl
set_option maxRecDepth 100000 in
set_option maxHeartbeats 2000000 in
theorem same_any (h : Both B b mb n D x v l w) (hn : n ≤ 1000000) (hnm : ∀ r ∈ l, r.name.size ≤ 9223372036854775807) :
    Calls Tryz.prog 9 #[ptr b, ptr x] w (Makes (.bool true) w) := by
  have HH := Lib.hid h
  have HN := Lib.hid (names_any h.bk (Nat.le_trans h.bk.map.size_le hn))
  have HM := Lib.hid hnm
  clear h hnm
  go_enter Tryz.func9, Tryz.ntmps9
  go_wp2_with fail
  refine HN.out.mono ?_
  rintro e w1 ⟨v1, ss, rfl, hperm, hrow1, -, hb1⟩
  have hnames := HH.out.sm.names HH.out.bk hperm
  have hlen := names_len hnames
  rw [hnames, hlen] at hrow1
  have HR1 := Lib.hid hrow1
  have HB1 := Lib.hid hb1
  have h1 := HH.out.below hb1
  have HN2 := Lib.hid (rnames_any h1.rf)
  clear hnames hlen hrow1 hb1 h1 hperm HN
  go_wp2_with fail
  refine HN2.out.mono ?_
  rintro e w2 ⟨v2, rfl, hrow2, hb2⟩
  have hr1 := HR1.out.kept (row := none) ⟨hb2.os, hb2.tape, hb2.output, hb2.size, fun k hk _ => hb2.block k hk⟩ (by cases v1.ownBlock <;> simp)
  have HR2 := Lib.hid hrow2
  have HR1b := Lib.hid hr1
  have HB2 := Lib.hid (HB1.out.trans (hb2.mono HB1.out.size))
  have hfew := HH.out.rf.few
  clear hrow2 hr1 hb2 HN2 HR1
  obtain ⟨ao1, c1, e1⟩ := own_len HR1b.out
  obtain ⟨ao2, c2, e3⟩ := own_len HR2.out
  have HC1 : Hid (∀ k r, l[k]? = some r → ∃ g, ao1 = some ⟨g, 0, none⟩ ∧ w2.cell? ⟨g, k, none⟩ = some (.string r.name) ∧ g < w2.heap.size) := fun k r hr => own_cells HR1b.out e1 hr
  have HC2 : Hid (∀ k r, l[k]? = some r → ∃ g, ao2 = some ⟨g, 0, none⟩ ∧ w2.cell? ⟨g, k, none⟩ = some (.string r.name) ∧ g < w2.heap.size) := fun k r hr => own_cells HR2.out e3 hr
  subst e1 e3
  clear HR1b HR2
  go_wp2_with fail
  go_loopw [7] (fun i wr => ∃ k : Nat, k ≤ l.length ∧ i = .int .i64 k ∧ Hid (Below w2.heap.size w2 wr)) (fun i _ => l.length - (intOf i).toNat)
  case atStart => exact ⟨0, by omega, rfl, Below.refl _ _⟩
  case round =>
    obtain ⟨k, hk, rfl, hbr⟩ := hrel
    by_cases hlt : k < l.length
    · obtain ⟨r, hr⟩ : ∃ r, l[k]? = some r := ⟨_, List.getElem?_eq_getElem hlt⟩
      obtain ⟨g1, rfl, k1, l1⟩ := HC1.out k r hr
      obtain ⟨g2, rfl, k2, l2⟩ := HC2.out k r hr
      have hkz : (k : Int) < l.length := by omega
      have hk0 : (0 : Int) ≤ k := by omega
      have j1 : wr.cell? ⟨g1, k, none⟩ = some (.string r.name) := by rw [hbr.out.cell (p := ⟨g1, k, none⟩) l1]; exact k1
      have j2 : wr.cell? ⟨g2, k, none⟩ = some (.string r.name) := by rw [hbr.out.cell (p := ⟨g2, k, none⟩) l2]; exact k2
      have HA : Hid (∀ W, Below w2.heap.size w2 W → Calls Tryz.prog 23 #[ptr b, ptr x, .string r.name] W fun e w' => e = .returned (.bool true) ∧ Below w2.heap.size w2 w' ∧ w'.cell? ⟨g1, k, none⟩ = some (.string r.name) ∧ w'.cell? ⟨g2, k, none⟩ = some (.string r.name)) := fun W hW => by
        refine (asked_any (HH.out.below (HB2.out.trans (hW.mono HB2.out.size))) r.name (HM.out r (List.mem_of_getElem? hr))).mono fun e w' ⟨h1, h2⟩ => ⟨h1, ?_⟩
        have h3 := hW.trans (h2.mono hW.size)
        exact ⟨h3, by rw [h3.cell (p := ⟨g1, k, none⟩) l1]; exact k1, by rw [h3.cell (p := ⟨g2, k, none⟩) l2]; exact k2⟩
      clear hr k1 k2 l1 l2
      go_wp2_with fail
      go_region_held3 (fun w' => w'.cell? ⟨g1, k, none⟩ = some (.string r.name) ∧ w'.cell? ⟨g2, k, none⟩ = some (.string r.name)) (simp [*])
        ((go_at_call 23; refine (HA.out _ (by first | exact hbr.out | exact below_drewN hbr.out 1)).mono ?_; rintro e w3 ⟨rfl, hb3, j3, j4⟩))
      have HB3 := Lib.hid hb3
      clear hb3
      go_wp2_with fail
      go_roundw
      case rel => exact ⟨k + 1, by omega, by go_num, HB3⟩
      case measure => simp only [intOf]; omega
    · obtain rfl : k = l.length := by omega
      go_wp2_with fail
      go_ret
      exact ⟨rfl, HB2.out.trans (hbr.out.mono HB2.out.size)⟩
end
end Go.Proofs.YtopgbbkndkincaaGreatDoor
