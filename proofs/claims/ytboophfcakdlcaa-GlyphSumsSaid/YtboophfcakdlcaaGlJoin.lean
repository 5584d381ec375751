/- What two glyphs become in a font that is valid. -/
import Derived.Test.YtboophfcakdlcaaFtWidth
import Derived.Deep.DeepCutAuto
namespace Go.Proofs.Ytboophfcakdlcaa
open Go.RowKit Go.PlainAid Go.Shelf

theorem find_first {α : Type} [Inhabited α] {p : α → Bool} : ∀ {ls : List α} {k : Nat}, k < ls.length → p ls[k]! = true → (∀ j, j < k → p ls[j]! = false) → ls.find? p = some ls[k]!
  | [], k, h, _, _ => absurd h (Nat.not_lt_zero _)
  | x :: r, 0, _, hp, _ => by
    have hp' : p x = true := hp
    rw [List.find?_cons_of_pos hp']
    rfl
  | x :: r, k + 1, h, hp, hn => by
    have h0 : p x = false := hn 0 (Nat.succ_pos _)
    rw [List.find?_cons_of_neg (by rw [h0]; exact Bool.false_ne_true)]
    have e : (x :: r)[k + 1]! = r[k]! := by simp
    rw [e] at hp ⊢
    exact find_first (by simpa using h) hp (fun j hj => by have := hn (j + 1) (by omega); simpa using this)
theorem find_none {α : Type} [Inhabited α] {p : α → Bool} {ls : List α} (h : ∀ j, j < ls.length → p ls[j]! = false) : ls.find? p = none := by
  rw [List.find?_eq_none]
  intro x hx
  obtain ⟨j, hj, rfl⟩ := List.getElem_of_mem hx
  have := h j hj
  rw [getElem!_pos ls j hj] at this
  rw [this]
  exact Bool.false_ne_true
/-- What two names become. -/
def joinL (ls : List Lg) (a b : List UInt8) : Option (List UInt8) := (ls.find? fun l => l.a == a && l.b == b).map Lg.is
def joinV : Option (List UInt8) → Value
  | some s => .tuple #[.string (mk8 s), .bool true]
  | none => .tuple #[.string ⟨#[]⟩, .bool false]
set_option maxRecDepth 100000 in
set_option maxHeartbeats 4000000 in
theorem join_any (x : FA) (a b : List UInt8) (w : World) (h : x.ok w) (hv : validB x.F = true) : Calls Try.prog 84 #[fontVal x, .string (mk8 a), .string (mk8 b)] w (Makes (joinV (joinL x.F.ls a b)) w) := by
  have H1 := Lib.hid (fun (W : World) (hb : Below w.heap.size w W) => valid_any x W (h.below hb))
  simp only [hv] at H1
  have hlen : x.F.ls.length ≤ 50 := by
    have h := hv
    unfold validB ligsB at h
    simp only [Bool.and_eq_true, decide_eq_true_eq] at h
    exact h.1.2.1.1
  have HR := Lib.hid h.ls
  clear h hv
  obtain ⟨⟨fn, fs, fz, gs, ls, ks⟩, ag, al, ak, cg, cl, ck⟩ := x
  simp only at HR hlen H1 ⊢
  have HF : Hid (∀ k, k < ls.length → (ls[k]!.a == a && ls[k]!.b == b) = true → (∀ j, j < k → (ls[j]!.a == a && ls[j]!.b == b) = false) → joinL ls a b = some ls[k]!.is) := fun k h1 h2 h3 => by
    unfold joinL
    rw [find_first (p := fun l : Lg => l.a == a && l.b == b) h1 h2 h3]
    rfl
  have HN : Hid ((∀ j, j < ls.length → (ls[j]!.a == a && ls[j]!.b == b) = false) → joinL ls a b = none) := fun h1 => by
    unfold joinL
    rw [find_none (p := fun l : Lg => l.a == a && l.b == b) h1]
    rfl
  obtain ⟨R, hR⟩ : ∃ R, joinL ls a b = R := ⟨_, rfl⟩
  rw [hR] at HF HN
  rw [hR]
  have e1 : ∀ u : List UInt8, ((mk8 u).toList == (mk8 a).toList) = (u == a) := fun u => by rw [mk8_list, mk8_list]
  have e2 : ∀ u : List UInt8, ((mk8 u).toList == (mk8 b).toList) = (u == b) := fun u => by rw [mk8_list, mk8_list]
  show Calls _ _ #[.agg #[.string (mk8 fn), .bool fs, .int .i64 fz, .slice ag gs.length cg, .slice al ls.length cl, .slice ak ks.length ck], .string (mk8 a), .string (mk8 b)] w _
  obtain ⟨sa, hsa⟩ : ∃ s, mk8 a = s := ⟨_, rfl⟩
  obtain ⟨sb, hsb⟩ : ∃ s, mk8 b = s := ⟨_, rfl⟩
  simp only [hsa] at e1
  simp only [hsb] at e2
  rw [hsa, hsb]
  have E1 := Lib.hid e1
  have E2 := Lib.hid e2
  simp only [fontVal] at H1
  generalize mk8 fn = m1 at H1 ⊢
  clear hR hsa hsb e1 e2
  go_enter Try.func84, Try.ntmps84
  go_upto_region 1 with fail
  generalize hw2 : w.alloc _ = w2
  have hb2 : Below w.heap.size w w2 := by rw [← hw2]; exact (Below.refl _ _).alloc (Nat.le_refl _) _
  have ht : w2.heap[w.heap.size]? = some (.cells #[.string m1, .bool fs, .int .i64 fz, .slice ag gs.length cg, .slice al ls.length cl, .slice ak ks.length ck] 37 (0, 0)) := by rw [← hw2]; exact heap_alloc_new w _
  have x0 := cell_of (j := 0) ht rfl
  have x1 := cell_of (j := 1) ht rfl
  have x2 := cell_of (j := 2) ht rfl
  have x3 := cell_of (j := 3) ht rfl
  have x4 := cell_of (j := 4) ht rfl
  have x5 := cell_of (j := 5) ht rfl
  have HB := Lib.hid hb2
  have HT := Lib.hid ht
  have HC := Lib.hid (H1.out w2 hb2)
  clear hw2 hb2 ht H1
  go_wp2_with fail
  refine HC.out.mono ?_
  rintro e w3 ⟨rfl, hb3⟩
  have hl := (Array.getElem?_eq_some_iff.1 HT.out).1
  have ht3 := hb3.block _ hl
  rw [HT.out] at ht3
  have y4 := cell_of (j := 4) ht3 rfl
  have HB3 := Lib.hid (HB.out.trans (hb3.mono HB.out.size))
  clear hb3 ht3 hl HT HC HB x0 x1 x2 x3 x4 x5
  go_wp2_with fail
  go_loopw [16] (fun s wr => ∃ k : Nat, k ≤ ls.length ∧ s = .int .i64 k ∧ Hid (∀ j, j < k → (ls[j]!.a == a && ls[j]!.b == b) = false) ∧ Hid (Below w.heap.size w wr)) (fun s _ => ls.length - (intOf s).toNat)
  case atStart => exact ⟨0, by omega, rfl, fun j hj => absurd hj (Nat.not_lt_zero _), HB3⟩
  case round =>
    obtain ⟨k, hk, rfl, hn, hbl⟩ := hrel
    by_cases hlt : k < ls.length
    · obtain ⟨bb, off, ha, hr⟩ := HR.out.below hbl.out
      obtain ⟨rfl, hbw⟩ := ha (by omega)
      obtain ⟨x, hx⟩ : ∃ x, ls[k]! = x := ⟨_, rfl⟩
      have r1 := hr k hlt
      rw [hx] at r1
      obtain ⟨la, lb, li⟩ := x
      have c0 := r1 0 _ rfl
      have c1 := r1 1 _ rfl
      have c2 := r1 2 _ rfl
      rw [Nat.add_zero] at c0
      simp only at c0 c1 c2
      have hz1 : (k : Int) < ls.length := by omega
      have hz0 : (0 : Int) ≤ k := by omega
      have q1 := E1.out la
      have q2 := E2.out lb
      have HX := Lib.hid hx
      have HLT := Lib.hid hlt
      have hq : Hid (∀ u v, (la == a) = u → (lb == b) = v → (ls[k]!.a == a && ls[k]!.b == b) = (u && v)) := fun u v h1 h2 => by rw [HX.out]; simp only; rw [h1, h2]
      obtain ⟨u, hu⟩ : ∃ u, (la == a) = u := ⟨_, rfl⟩
      obtain ⟨v, hv⟩ : ∃ v, (lb == b) = v := ⟨_, rfl⟩
      have HQ := Lib.hid (hq.out u v hu hv)
      rw [hu] at q1
      rw [hv] at q2
      obtain ⟨ta, hta⟩ : ∃ s, mk8 la = s := ⟨_, rfl⟩
      obtain ⟨tb, htb⟩ : ∃ s, mk8 lb = s := ⟨_, rfl⟩
      obtain ⟨ti, hti⟩ : ∃ s, mk8 li = s := ⟨_, rfl⟩
      rw [hta] at c0 q1
      rw [htb] at c1 q2
      rw [hti] at c2
      have HTI := Lib.hid hti
      clear hx r1 hr ha hta htb hti hu hv hq hlt
      go_upto_region 6 with fail
      generalize hw4 : wr.alloc _ = w4
      have hb4 : Below wr.heap.size wr w4 := by rw [← hw4]; exact (Below.refl _ _).alloc (Nat.le_refl _) _
      have hcell : w4.heap[wr.heap.size]? = some (.cells #[.string ta, .string tb, .string ti] 89 (0, 0)) := by rw [← hw4]; exact heap_alloc_new wr _
      have HB4 := Lib.hid (hbl.out.trans (hb4.mono hbl.out.size))
      have f0 := cell_of (j := 0) hcell rfl
      have f1 := cell_of (j := 1) hcell rfl
      have f2 := cell_of (j := 2) hcell rfl
      obtain ⟨q, hq⟩ : ∃ q, wr.heap.size = q := ⟨_, rfl⟩
      rw [hq] at f0 f1 f2
      rw [hq]
      clear hw4 hb4 hcell c0 c1 c2 hq hbl hbw
      cases u with
      | true =>
        cases v with
        | true =>
          have HV : Hid (R = some li) := by show _ = _; rw [HF.out k HLT.out HQ.out hn.out, HX.out]
          clear hn HF HN
          go_wp2_with fail
          go_ret2
          exact ⟨by rw [HV.out]; show _ = Ending.returned (.tuple #[.string (mk8 li), .bool true]); rw [HTI.out]; rfl, HB4.out⟩
        | false =>
          have HN2 : Hid (∀ j, j < k + 1 → (ls[j]!.a == a && ls[j]!.b == b) = false) := fun j hj => by
            by_cases e : j = k
            · subst e; exact HQ.out
            · exact hn.out j (by omega)
          clear hn
          go_wp2_with fail
          go_roundw
          case rel => exact ⟨k + 1, HLT.out, by go_num, HN2, HB4⟩
          case measure => have := HLT.out; simp only [intOf]; omega
      | false =>
        have HN2 : Hid (∀ j, j < k + 1 → (ls[j]!.a == a && ls[j]!.b == b) = false) := fun j hj => by
          by_cases e : j = k
          · subst e; rw [HQ.out]; exact Bool.false_and _
          · exact hn.out j (by omega)
        clear hn
        go_wp2_with fail
        go_roundw
        case rel => exact ⟨k + 1, HLT.out, by go_num, HN2, HB4⟩
        case measure => have := HLT.out; simp only [intOf]; omega
    · obtain rfl : k = ls.length := by omega
      have HV := Lib.hid (HN.out hn.out)
      clear hn HF HN
      go_wp2_with fail
      go_ret2
      exact ⟨by rw [HV.out]; rfl, hbl.out⟩
end Go.Proofs.Ytboophfcakdlcaa
