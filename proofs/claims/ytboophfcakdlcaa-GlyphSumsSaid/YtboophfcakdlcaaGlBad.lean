/- Chars that are no names are refused; boxes of the standard fonts, plain. -/
import Derived.Test.YtboophfcakdlcaaGlSane8
import Derived.Test.YtboophfcakdlcaaGlShift
import Derived.Test.YtboophfcakdlcaaGlChars
import Derived.Deep.DeepCutAuto
namespace Go.Proofs.Ytboophfcakdlcaa
open Go.RowKit Go.PlainAid Go.Shelf

set_option maxRecDepth 100000 in
set_option maxHeartbeats 4000000 in
theorem boxes_bad (ao : Option Addr) (l : List FA) (c : Nat) (own : Nat) (z : Int) (lg : Bool) (an : Option Addr) (chars : List (List UInt8)) (cn : Nat) (W : World) (h : Fonts ao l W) (hv : ∀ x ∈ l, validB x.F = true) (ho : own < l.length) (hz : sizeB z = true) (hn : RowK encS 1 an chars W) (hnl : chars.length ≤ 2000)
    (hg : chars.all glyphNameB = false) :
    Calls Try.prog 20 #[.slice ao l.length c, .agg #[.int .i64 own, .int .i64 z, .bool lg, .bool false], .slice an chars.length cn, .slice none 0 0] W (Makes (.tuple #[.slice none 0 0, .slice none 0 0, .int .i64 1]) W) := by
  have hfew := h.few
  have hva : (l.all fun x => validB x.F) = true := List.all_eq_true.2 hv
  have H1 : Hid (∀ W', Below W.heap.size W W' → Calls Try.prog 49 #[.slice ao l.length c] W' (Makes (.bool true) W')) := fun W' hb => by have := areFonts_any ao l c W' (h.below hb); rwa [hva] at this
  have H2 : Hid (∀ W', Calls Try.prog 50 #[.agg #[.int .i64 own, .int .i64 z, .bool lg, .bool false], .slice ao l.length c] W' (Makes (.bool true) W')) := fun W' => style_ok own z lg false ao l.length c W' ho hz hfew
  have H3 : Hid (∀ W', Below W.heap.size W W' → Calls Try.prog 51 #[.slice an chars.length cn] W' (Makes (.bool false) W')) := fun W' hb => by have := areChars_any an chars cn W' (hn.below hb) hnl; rwa [hg] at this
  clear h hv hva hg hn ho hz
  go_enter Try.func20, Try.ntmps20
  go_upto_region 1 with fail
  generalize hw1 : W.alloc _ = w1
  have hb1 : Below W.heap.size W w1 := by rw [← hw1]; exact (Below.refl _ _).alloc (Nat.le_refl _) _
  have t1 : StB W.heap.size own z lg w1 := by rw [← hw1]; exact heap_alloc_new W _
  obtain ⟨p, hp⟩ : ∃ p, W.heap.size = p := ⟨_, rfl⟩
  have HPW : Hid (W.heap.size = p) := hp
  have HB1 := Lib.hid hb1
  rw [hp] at t1
  rw [hp]
  have HT1 := Lib.hid t1
  clear hw1 hb1 t1 hp
  go_wp2_with fail
  refine (H1.out _ HB1.out).mono ?_
  rintro e w2 ⟨rfl, hb2⟩
  have HB2 := Lib.hid (HB1.out.trans (hb2.mono HB1.out.size))
  have HT2 := Lib.hid (HT1.out.below hb2)
  have s0 := cell_of (j := 0) HT2.out rfl
  have s1 := cell_of (j := 1) HT2.out rfl
  have s2 := cell_of (j := 2) HT2.out rfl
  have s3 := cell_of (j := 3) HT2.out rfl
  clear hb2 HT1 HB1
  go_wp2_with fail
  refine (H2.out _).mono ?_
  rintro e w3 ⟨rfl, hb3⟩
  have HB3 := Lib.hid (HB2.out.trans (hb3.mono HB2.out.size))
  have HT3 := Lib.hid (HT2.out.below hb3)
  clear s0 s1 s2 s3 hb3 HT2 HB2
  go_wp2_with fail
  refine (H3.out _ HB3.out).mono ?_
  rintro e w4 ⟨rfl, hb4⟩
  have HB4 := Lib.hid (HB3.out.trans (hb4.mono HB3.out.size))
  clear hb4 HT3 HB3
  go_wp2_with fail
  go_ret3
  exact ⟨rfl, HB4.out⟩

/-- The standard fonts, without places. -/
def L0 : List FA := [FR, FI, FB, FM, FS].map fun F => ⟨F, none, none, none, 0, 0, 0⟩
theorem L0_map : L0.map FA.F = [FR, FI, FB, FM, FS] := rfl
theorem L0_len : L0.length = 5 := rfl
theorem same_at {l l' : List FA} (h : l.map FA.F = l'.map FA.F) (j : Nat) (hj : j < l.length) : l[j]!.F = l'[j]!.F := by
  have hl : l.length = l'.length := by have := congrArg List.length h; simpa using this
  have e : (l.map FA.F)[j]? = (l'.map FA.F)[j]? := by rw [h]
  rw [List.getElem?_map, List.getElem?_map, List.getElem?_eq_getElem hj, List.getElem?_eq_getElem (by omega)] at e
  rw [getElem!_pos l j hj, getElem!_pos l' j (by omega)]
  exact Option.some.inj e
theorem idxG_map (q : FontL → Bool) : ∀ (l : List FA) (i : Nat), idxG (fun x : FA => q x.F) l i = idxG q (l.map FA.F) i
  | [], _ => rfl
  | x :: r, i => by
    show (if q x.F then (i : Int) else idxG (fun x : FA => q x.F) r (i + 1)) = if q x.F then (i : Int) else idxG q (r.map FA.F) (i + 1)
    rw [idxG_map q r (i + 1)]
theorem home_same {l l' : List FA} (h : l.map FA.F = l'.map FA.F) (own : Nat) (ho : own < l.length) (nm : List UInt8) : homeL l own nm = homeL l' own nm := by
  unfold homeL
  rw [same_at h own ho, idxG_map (fun F => F.special && hasB F.gs nm) l 0, idxG_map (fun F => F.special && hasB F.gs nm) l' 0, h]
theorem step_same {l l' : List FA} (h : l.map FA.F = l'.map FA.F) (own : Nat) (ho : own < l.length) (z : Int) (r : List Bx' × List (List UInt8)) (nm : List UInt8) : stepP l own z r nm = stepP l' own z r nm := by
  unfold stepP
  rw [← home_same h own ho nm]
  obtain hw | ⟨k, hk, hw, _⟩ := home_ways l own nm ho
  · rw [hw, if_pos (by omega), if_pos (by omega)]
  · rw [hw, if_neg (by omega), if_neg (by omega), Int.toNat_natCast, same_at h k hk]
theorem place_same {l l' : List FA} (h : l.map FA.F = l'.map FA.F) (own : Nat) (ho : own < l.length) (z : Int) (names : List (List UInt8)) : placeL l own z names = placeL l' own z names := by
  unfold placeL
  have : ∀ (ns : List (List UInt8)) (r : List Bx' × List (List UInt8)), ns.foldl (stepP l own z) r = ns.foldl (stepP l' own z) r := by
    intro ns
    induction ns with
    | nil => intro r; rfl
    | cons x xs ih => intro r; rw [List.foldl_cons, List.foldl_cons, step_same h own ho z r x]; exact ih _
  exact this names _
theorem shift_same {l l' : List FA} (h : l.map FA.F = l'.map FA.F) (z : Int) (b : Bx') (hb : Fine l b) : shiftB l z b = shiftB l' z b := by
  obtain ⟨_, k, hk, hl, _⟩ := hb
  unfold shiftB
  rw [hk, Int.toNat_natCast, same_at h k hl]
theorem fine_same {l l' : List FA} (h : l.map FA.F = l'.map FA.F) {b : Bx'} (hb : Fine l b) : Fine l' b := by
  obtain ⟨h0, k, hk, hl, hh⟩ := hb
  have hlen : l.length = l'.length := by have := congrArg List.length h; simpa using this
  exact ⟨h0, k, hk, by omega, by rw [← same_at h k hl]; exact hh⟩
theorem place_fine (l : List FA) (own : Nat) (ho : own < l.length) (z : Int) : ∀ (ns : List (List UInt8)) (r : List Bx' × List (List UInt8)), (∀ b ∈ r.1, Fine l b) → ∀ b ∈ (ns.foldl (stepP l own z) r).1, Fine l b
  | [], r, h => h
  | nm :: ns, r, h => by
    rw [List.foldl_cons]
    refine place_fine l own ho z ns _ ?_
    unfold stepP
    obtain hw | ⟨k, hk, hw, hh⟩ := home_ways l own nm ho
    · rw [hw, if_pos (by omega)]; exact h
    · rw [hw, if_neg (by omega)]
      intro b hb
      rcases List.mem_append.1 hb with hb | hb
      · exact h b hb
      · obtain rfl := List.mem_singleton.1 hb
        exact ⟨rfl, k, rfl, hk, hh⟩
theorem place_shift (l : List FA) (own : Nat) (z z' : Int) : ∀ (ns : List (List UInt8)) (r r' : List Bx' × List (List UInt8)), r.1.map (shiftB l z') = r'.1 → ((ns.foldl (stepP l own z) r).1).map (shiftB l z') = (ns.foldl (stepP l own z') r').1
  | [], r, r', h => h
  | nm :: ns, r, r', h => by
    rw [List.foldl_cons, List.foldl_cons]
    refine place_shift l own z z' ns _ _ ?_
    unfold stepP
    split
    · exact h
    · rw [List.map_append, h]
      rfl
theorem own_plain {B T sz n c m : Nat} {ao : Option Addr} {xs : List Value} {w : World} (h : w.ownsRow B T sz (.slice ao n c) m xs) : ∀ a, ao = some a → ∃ b off, a = ⟨b, off, none⟩ := by
  intro a ha
  subst ha
  rcases h.2 with ⟨e, _⟩ | ⟨g, cap, cur, e, _⟩
  · cases e
  · injection e with e1 _ _
    obtain rfl := Option.some.inj e1
    exact ⟨_, _, rfl⟩
end Go.Proofs.Ytboophfcakdlcaa
