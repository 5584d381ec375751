/- RegisterDoes: walked. -/
import Derived.Test.YtghpcfodjacdpaaGreatDoorRdSameWalk
namespace Go.Proofs.YtghpcfodjacdpaaGreatDoor
open Go.RowKit Go.PlainAid Go.Maps

/-- A deed's cells. -/
structure DeedAt (g o : Nat) (d : DeedV) (w : World) : Prop where
  c0 : w.cell? ⟨g, o, none⟩ = some (.int .i64 d.what)
  c1 : w.cell? ⟨g, o + 1, none⟩ = some (.string d.name)
  c2 : w.cell? ⟨g, o + 2, none⟩ = some (.string d.form)
  c3 : w.cell? ⟨g, o + 3, none⟩ = some (.int .i64 d.num)
theorem DeedAt.below {A g o : Nat} {d : DeedV} {w w' : World} (h : DeedAt g o d w) (hb : Below A w w') (hg : g < A) : DeedAt g o d w' :=
  ⟨by rw [hb.cell (p := ⟨g, _, none⟩) hg]; exact h.c0, by rw [hb.cell (p := ⟨g, _, none⟩) hg]; exact h.c1, by rw [hb.cell (p := ⟨g, _, none⟩) hg]; exact h.c2, by rw [hb.cell (p := ⟨g, _, none⟩) hg]; exact h.c3⟩
def DeedsAt (ao : Option Addr) (len : Nat) (Ds : Nat → DeedV) (w : World) : Prop :=
  ∃ g off, (0 < len → ao = some ⟨g, off, none⟩ ∧ g < w.heap.size) ∧ ∀ i, i < len → DeedOk (Ds i) ∧ DeedAt g (off + i * 4) (Ds i) w
section
variable {B b mb n x : Nat} {D : DataW Unit} {v : Value} {l : List Row} {w : World}
theorem Same.nameSize (h : Same D l) (hB : BookAt b mb n D w) : ∀ r ∈ l, r.name.size ≤ 9223372036854775807 := by
  intro r hr
  have hh := (h.has r.name).2 ⟨r, hr, rfl⟩
  obtain ⟨es, rfl, hko⟩ := hB.map.keysOf
  rw [has_eq, List.any_eq_true] at hh
  obtain ⟨p, hp, hs⟩ := hh
  obtain ⟨u, hu⟩ := hko p hp
  obtain ⟨y, _, hy, hl⟩ := Maps.keyOf_str Tryz.underlying9 hu
  rw [hy] at hs
  have he : y = r.name.data.toList := by simpa [Lit.sameKey] using hs
  rw [he] at hl
  rw [Lib.size_eq]
  exact hl
theorem same_nil : Same (.map []) [] := by
  refine ⟨List.Pairwise.nil, fun s => ⟨fun h => ?_, ?_⟩, fun r hr => ?_, fun r hr => ?_⟩
  · cases h
  · rintro ⟨r, hr, _⟩
    cases hr
  · cases hr
  · cases hr
/-- What holds between the deeds. -/
def Inv (A B b mb x : Nat) (w : World) (k : Nat) (W : World) : Prop := ∃ n D v l, Two A B b mb n D x v l W ∧ Same D l ∧ n ≤ k ∧ l.length ≤ k ∧ Below A w W
theorem inv_start {w w1 : World} {b mb : Nat} (hw : Tabs w) (h1 : w.heap.size ≤ b) (h2 : w.heap.size ≤ mb) (hB : BookAt b mb 0 (.map []) w1) (hb : Below w.heap.size w w1) :
    Inv w.heap.size w1.heap.size b mb w1.heap.size w 0 (w1.alloc (.cells #[.slice none 0 0] 29)) := by
  have hb2 : Below w.heap.size w (w1.alloc (.cells #[.slice none 0 0] 29)) := hb.alloc hb.size _
  refine ⟨0, .map [], .slice none 0 0, [], ⟨hB.alloc _, ⟨heap_alloc_new _ _, World.ownsRow_nil _ _ _ _, Nat.le_refl _, by simp⟩, fun W hW => hw.below (hb2.trans hW), h1, h2, hB.lt, hB.mlt⟩, same_nil, Nat.le_refl _, by simp, hb2⟩

set_option maxRecDepth 100000 in
set_option maxHeartbeats 2000000 in
theorem law_does (ao : Option Addr) (len cap : Nat) (hl : len ≤ maxLen) (Ds : Nat → DeedV) (w : World) (hD : DeedsAt ao len Ds w) (hw : Tabs w) :
    Calls Tryz.prog 3 #[.slice ao len cap] w (Makes (.bool true) w) := by
  unfold maxLen at hl
  have HW := Lib.hid hw
  have HD := Lib.hid hD
  clear hw hD
  by_cases h60 : 60 < len
  · go_enter Tryz.func3, Tryz.ntmps3
    go_wp2_with fail
    refine (sane_any _).mono ?_
    rintro e w1 ⟨rfl, rfl⟩
    go_wp2_with fail
    go_ret
    exact ⟨rfl, Below.refl _ _⟩
  · go_enter Tryz.func3, Tryz.ntmps3
    go_wp2_with fail
    refine (new_any _).mono ?_
    rintro e w1 ⟨b, mb, rfl, hb0, hm0, hB, hb1⟩
    have HI := Lib.hid (inv_start HW.out hb0 hm0 hB hb1)
    clear hb0 hm0 hB hb1 HW
    go_wp2_with fail
    obtain ⟨x, hx⟩ : ∃ x, w1.heap.size = x := ⟨_, rfl⟩
    obtain ⟨w2, hw2⟩ : ∃ w2, w1.alloc (.cells #[.slice none 0 0] 29) = w2 := ⟨_, rfl⟩
    rw [hx, hw2] at HI
    simp only [hx, hw2]
    clear hx hw2
    go_loopw [5] (fun i wr => ∃ k : Nat, k ≤ len ∧ i = .int .i64 k ∧ Hid (Inv w.heap.size x b mb x w k wr)) (fun i _ => len - (intOf i).toNat)
    case atStart => exact ⟨0, by omega, rfl, HI⟩
    case round =>
      obtain ⟨k, hk, rfl, hi⟩ := hrel
      clear HI
      by_cases hlt : k < len
      · obtain ⟨g, off, e1, e2⟩ := HD.out
        obtain ⟨rfl, hg⟩ := e1 (by omega)
        obtain ⟨hok, hat⟩ := e2 k hlt
        obtain ⟨n, D, v, l, hT, hS, hn, hll, hbe⟩ := hi.out
        obtain ⟨c0, c1, c2, c3⟩ := hat.below hbe hg
        have HDO := Lib.hid (does_any hT hS (by omega) (by omega) (Ds k) hok)
        obtain ⟨⟨a, nm, fm, z⟩, hd⟩ : ∃ d, Ds k = d := ⟨_, rfl⟩
        rw [hd] at c0 c1 c2 c3 HDO
        have HB := Lib.hid hbe
        have HN := Lib.hid (And.intro hn hll)
        have hkz : (k : Int) < len := by omega
        have hk0 : (0 : Int) ≤ k := by omega
        clear hok hat hT hS hn hll hbe hd e1 e2 hi hg
        go_wp2_with fail
        refine HDO.out.mono ?_
        rintro e w4 ⟨rfl, n', D', v', l', hT', hS', hn', hl', hb'⟩
        have HSM := Lib.hid (same_any (hT'.both hS') (by have := HN.out.1; omega) (hS'.nameSize hT'.bk))
        have HT := Lib.hid hT'
        have HS := Lib.hid hS'
        have HL := Lib.hid (And.intro hn' hl')
        have HB4 := Lib.hid (HB.out.trans hb')
        clear hT' hS' hn' hl' hb'
        go_wp2_with fail
        refine HSM.out.mono ?_
        rintro e w5 ⟨rfl, hb5⟩
        have HI : Hid (Inv w.heap.size x b mb x w (k + 1) w5) := by
          have h1 := HL.out
          have h2 := HN.out
          exact ⟨n', D', v', l', HT.out.below hb5, HS.out, by omega, by omega, HB4.out.trans (hb5.mono HT.out.le)⟩
        clear hb5
        go_wp2_with fail
        go_roundw
        case rel => exact ⟨k + 1, by omega, by go_num, HI⟩
        case measure => simp only [intOf]; omega
      · obtain rfl : k = len := by omega
        have HB : Hid (Below w.heap.size w wr) := by
          obtain ⟨n, D, v, l, _, _, _, _, h⟩ := hi.out
          exact h
        go_wp2_with fail
        refine (sane_any _).mono ?_
        rintro e w5 ⟨rfl, rfl⟩
        go_wp2_with fail
        go_ret
        exact ⟨rfl, HB.out⟩
end
end Go.Proofs.YtghpcfodjacdpaaGreatDoor
