/- The kern of two glyphs in a font that is valid. -/
import Derived.Test.YtboophfcakdlcaaGlJoin
import Derived.Deep.DeepCutAuto
namespace Go.Proofs.Ytboophfcakdlcaa
open Go.RowKit Go.PlainAid Go.Shelf

/-- The kern of two names at a size. -/
def kernL (ks : List Kn) (a b : List UInt8) (z : Int) : Int := match ks.find? fun k => k.a == a && k.b == b with | some k => scaleZ k.more z | none => 0
theorem valid_kerns {F : FontL} (h : validB F = true) : F.ks.length ≤ 500 ∧ ∀ j, j < F.ks.length → -500 ≤ F.ks[j]!.more ∧ F.ks[j]!.more ≤ 500 := by
  unfold validB kernsB at h
  simp only [Bool.and_eq_true, decide_eq_true_eq, List.all_eq_true] at h
  refine ⟨h.2.1.1, fun j hj => ?_⟩
  have := h.2.2 F.ks[j]! (by rw [getElem!_pos F.ks j hj]; exact List.getElem_mem hj)
  unfold kernB at this
  simp only [Bool.and_eq_true, decide_eq_true_eq] at this
  exact ⟨this.1.1.1.1, this.1.1.1.2⟩
set_option maxRecDepth 100000 in
set_option maxHeartbeats 4000000 in
theorem kern_any (x : FA) (a b : List UInt8) (z : Int) (w : World) (h : x.ok w) (hv : validB x.F = true) (hz : sizeB z = true) : Calls Try.prog 27 #[fontVal x, .string (mk8 a), .string (mk8 b), .int .i64 z] w (Makes (.tuple #[.int .i64 (kernL x.F.ks a b z), .int .i64 0]) w) := by
  have H1 := Lib.hid (fun (W : World) (hb : Below w.heap.size w W) => argError_any x z W (h.below hb) hv hz)
  obtain ⟨hlen, hmore⟩ := valid_kerns hv
  have hzz : 1 ≤ z ∧ z ≤ 1000 := by
    unfold sizeB at hz
    simpa only [Bool.and_eq_true, decide_eq_true_eq] using hz
  have H2 := Lib.hid (fun (n : Int) (h1 : -500 ≤ n) (h2 : n ≤ 500) (w : World) => scale_any n z (by omega) (by omega) hzz.1 hzz.2 w)
  have HR := Lib.hid h.ks
  have HMo := Lib.hid hmore
  clear h hv hz hzz hmore
  obtain ⟨⟨fn, fs, fz, gs, ls, ks⟩, ag, al, ak, cg, cl, ck⟩ := x
  simp only at HR hlen H1 HMo ⊢
  have HF : Hid (∀ k, k < ks.length → (ks[k]!.a == a && ks[k]!.b == b) = true → (∀ j, j < k → (ks[j]!.a == a && ks[j]!.b == b) = false) → kernL ks a b z = scaleZ ks[k]!.more z) := fun k h1 h2 h3 => by
    unfold kernL
    rw [find_first (p := fun l : Kn => l.a == a && l.b == b) h1 h2 h3]
  have HN : Hid ((∀ j, j < ks.length → (ks[j]!.a == a && ks[j]!.b == b) = false) → kernL ks a b z = 0) := fun h1 => by
    unfold kernL
    rw [find_none (p := fun l : Kn => l.a == a && l.b == b) h1]
  obtain ⟨R, hR⟩ : ∃ R, kernL ks a b z = R := ⟨_, rfl⟩
  rw [hR] at HF HN
  rw [hR]
  have e1 : ∀ u : List UInt8, ((mk8 u).toList == (mk8 a).toList) = (u == a) := fun u => by rw [mk8_list, mk8_list]
  have e2 : ∀ u : List UInt8, ((mk8 u).toList == (mk8 b).toList) = (u == b) := fun u => by rw [mk8_list, mk8_list]
  show Calls _ _ #[.agg #[.string (mk8 fn), .bool fs, .int .i64 fz, .slice ag gs.length cg, .slice al ls.length cl, .slice ak ks.length ck], .string (mk8 a), .string (mk8 b), .int .i64 z] w _
  obtain ⟨sa, hsa⟩ : ∃ s, mk8 a = s := ⟨_, rfl⟩
  obtain ⟨sb, hsb⟩ : ∃ s, mk8 b = s := ⟨_, rfl⟩
  simp only [hsa] at e1
  simp only [hsb] at e2
  rw [hsa, hsb]
  have E1 := Lib.hid e1
  have E2 := Lib.hid e2
  simp only [fontVal] at H1
  generalize mk8 fn = m1 at H1 ⊢
  clear hR hsa hsb e1 e2
  go_enter Try.func27, Try.ntmps27
  go_upto_region 1 with fail
  generalize hw2 : w.alloc _ = w2
  have hb2 : Below w.heap.size w w2 := by rw [← hw2]; exact (Below.refl _ _).alloc (Nat.le_refl _) _
  have ht : w2.heap[w.heap.size]? = some (.cells #[.string m1, .bool fs, .int .i64 fz, .slice ag gs.length cg, .slice al ls.length cl, .slice ak ks.length ck] 37 (0, 0)) := by rw [← hw2]; exact heap_alloc_new w _
  have x0 := cell_of (j := 0) ht rfl
  have x1 := cell_of (j := 1) ht rfl
  have x2 := cell_of (j := 2) ht rfl
  have x3 := cell_of (j := 3) ht rfl
  have x4 := cell_of (j := 4) ht rfl
  have x5 := cell_of (j := 5) ht rfl
  have HB := Lib.hid hb2
  have HT := Lib.hid ht
  have HC := Lib.hid (H1.out w2 hb2)
  clear hw2 hb2 ht H1
  go_wp2_with fail
  refine HC.out.mono ?_
  rintro e w3 ⟨rfl, hb3⟩
  have hl := (Array.getElem?_eq_some_iff.1 HT.out).1
  have ht3 := hb3.block _ hl
  rw [HT.out] at ht3
  have y5 := cell_of (j := 5) ht3 rfl
  have HB3 := Lib.hid (HB.out.trans (hb3.mono HB.out.size))
  clear hb3 ht3 hl HT HC HB x0 x1 x2 x3 x4 x5
  go_wp2_with fail
  go_loopw [22] (fun s wr => ∃ k : Nat, k ≤ ks.length ∧ s = .int .i64 k ∧ Hid (∀ j, j < k → (ks[j]!.a == a && ks[j]!.b == b) = false) ∧ Hid (Below w.heap.size w wr)) (fun s _ => ks.length - (intOf s).toNat)
  case atStart => exact ⟨0, by omega, rfl, fun j hj => absurd hj (Nat.not_lt_zero _), HB3⟩
  case round =>
    obtain ⟨k, hk, rfl, hn, hbl⟩ := hrel
    by_cases hlt : k < ks.length
    · obtain ⟨bb, off, ha, hr⟩ := HR.out.below hbl.out
      obtain ⟨rfl, hbw⟩ := ha (by omega)
      obtain ⟨x, hx⟩ : ∃ x, ks[k]! = x := ⟨_, rfl⟩
      have r1 := hr k hlt
      rw [hx] at r1
      obtain ⟨la, lb, lm⟩ := x
      have c0 := r1 0 _ rfl
      have c1 := r1 1 _ rfl
      have c2 := r1 2 _ rfl
      rw [Nat.add_zero] at c0
      simp only at c0 c1 c2
      have hz1 : (k : Int) < ks.length := by omega
      have hz0 : (0 : Int) ≤ k := by omega
      have q1 := E1.out la
      have q2 := E2.out lb
      have HX := Lib.hid hx
      have HLT := Lib.hid hlt
      have hq : Hid (∀ u v, (la == a) = u → (lb == b) = v → (ks[k]!.a == a && ks[k]!.b == b) = (u && v)) := fun u v h1 h2 => by rw [HX.out]; simp only; rw [h1, h2]
      obtain ⟨u, hu⟩ : ∃ u, (la == a) = u := ⟨_, rfl⟩
      obtain ⟨v, hv⟩ : ∃ v, (lb == b) = v := ⟨_, rfl⟩
      have HQ := Lib.hid (hq.out u v hu hv)
      rw [hu] at q1
      rw [hv] at q2
      obtain ⟨ta, hta⟩ : ∃ s, mk8 la = s := ⟨_, rfl⟩
      obtain ⟨tb, htb⟩ : ∃ s, mk8 lb = s := ⟨_, rfl⟩
      rw [hta] at c0 q1
      rw [htb] at c1 q2
      clear hx r1 hr ha hta htb hu hv hq hlt
      go_upto_region 7 with fail
      generalize hw4 : wr.alloc _ = w4
      have hb4 : Below wr.heap.size wr w4 := by rw [← hw4]; exact (Below.refl _ _).alloc (Nat.le_refl _) _
      have hcell : w4.heap[wr.heap.size]? = some (.cells #[.string ta, .string tb, .int .i64 lm] 90 (0, 0)) := by rw [← hw4]; exact heap_alloc_new wr _
      have HB4 := Lib.hid (hbl.out.trans (hb4.mono hbl.out.size))
      have f0 := cell_of (j := 0) hcell rfl
      have f1 := cell_of (j := 1) hcell rfl
      have f2 := cell_of (j := 2) hcell rfl
      obtain ⟨q, hq⟩ : ∃ q, wr.heap.size = q := ⟨_, rfl⟩
      rw [hq] at f0 f1 f2
      rw [hq]
      clear hw4 hb4 hcell c0 c1 c2 hq hbl hbw
      cases u with
      | true =>
        cases v with
        | true =>
          have HV : Hid (R = scaleZ lm z) := by show _ = _; rw [HF.out k HLT.out HQ.out hn.out, HX.out]
          have hmm := HMo.out k HLT.out
          rw [HX.out] at hmm
          have HSc := Lib.hid (H2.out lm hmm.1 hmm.2)
          clear hn HF HN hmm
          go_wp2_with fail
          refine (HSc.out _).mono ?_
          rintro e w5 ⟨rfl, rfl⟩
          go_wp2_with fail
          go_ret2
          exact ⟨by rw [HV.out]; rfl, HB4.out⟩
        | false =>
          have HN2 : Hid (∀ j, j < k + 1 → (ks[j]!.a == a && ks[j]!.b == b) = false) := fun j hj => by
            by_cases e : j = k
            · subst e; exact HQ.out
            · exact hn.out j (by omega)
          clear hn
          go_wp2_with fail
          go_roundw
          case rel => exact ⟨k + 1, HLT.out, by go_num, HN2, HB4⟩
          case measure => have := HLT.out; simp only [intOf]; omega
      | false =>
        have HN2 : Hid (∀ j, j < k + 1 → (ks[j]!.a == a && ks[j]!.b == b) = false) := fun j hj => by
          by_cases e : j = k
          · subst e; rw [HQ.out]; exact Bool.false_and _
          · exact hn.out j (by omega)
        clear hn
        go_wp2_with fail
        go_roundw
        case rel => exact ⟨k + 1, HLT.out, by go_num, HN2, HB4⟩
        case measure => have := HLT.out; simp only [intOf]; omega
    · obtain rfl : k = ks.length := by omega
      have HV := Lib.hid (HN.out hn.out)
      clear hn HF HN
      go_wp2_with fail
      go_ret2
      exact ⟨by rw [HV.out]; rfl, hbl.out⟩
end Go.Proofs.Ytboophfcakdlcaa
