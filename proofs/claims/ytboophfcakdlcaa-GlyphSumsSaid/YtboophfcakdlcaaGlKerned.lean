/- Kerns are put between boxes. -/
import Derived.Test.YtboophfcakdlcaaGlRow
import Derived.Test.YtboophfcakdlcaaGlKern
import Derived.Test.YtboophfcakdlcaaGlShift
import Derived.BigQuiet
import Derived.Deep.RegionHeld3
import Derived.Deep.DeepCutAuto
namespace Go.Proofs.Ytboophfcakdlcaa
open Go.RowKit Go.PlainAid Go.Shelf

/-- The kern between two boxes. -/
def kernB' (l : List FA) (z : Int) (a b : Bx') : Int := if a.font = b.font then kernL l[b.font.toNat]!.F.ks a.nm b.nm z else 0
/-- Boxes, up to the k-th, with kerns between. -/
def kAcc (l : List FA) (z : Int) (bs : List Bx') : Nat → List Bx'
  | 0 => []
  | k + 1 => kAcc l z bs k ++ (if 0 < k ∧ kernB' l z bs[k - 1]! bs[k]! ≠ 0 then [⟨2, kernB' l z bs[k - 1]! bs[k]!, 0, 0, []⟩] else []) ++ [bs[k]!]
theorem kAcc_len (l : List FA) (z : Int) (bs : List Bx') : ∀ k, (kAcc l z bs k).length ≤ 2 * k
  | 0 => Nat.le_refl _
  | k + 1 => by
    have := kAcc_len l z bs k
    unfold kAcc
    split <;> simp <;> omega
theorem below_dNk {B : Nat} {w w' : World} (h : Below B w w') (q : Nat) : Below B w (w'.drewN q) := ⟨h.os, h.tape, h.output, h.size, h.block⟩
set_option maxRecDepth 100000 in
set_option maxHeartbeats 8000000 in
theorem kerned_any (ao : Option Addr) (l : List FA) (c : Nat) (z : Int) (a1 : Option Addr) (bs : List Bx') (c1 : Nat) (W : World) (hF : Fonts ao l W) (hv : ∀ x ∈ l, validB x.F = true) (hz : sizeB z = true) (hr : RowK encB 7 a1 bs W) (hn : bs.length ≤ 2000) (hfi : ∀ b ∈ bs, Fine l b) :
    Calls Try.prog 56 #[.slice ao l.length c, .int .i64 z, .slice a1 bs.length c1] W (fun e w' => ∃ v, e = .returned v ∧ OwnB W.heap.size v (kAcc l z bs bs.length) w' ∧ Below W.heap.size W w') := by
  have HK := Lib.hid (fun (x : FA) (hx : x ∈ l) (a b : List UInt8) (W' : World) (hb : Below W.heap.size W W') => kern_any x a b z W' ((hF.ok x hx).below hb) (hv x hx) hz)
  have HR := Lib.hid hr
  have HFi := Lib.hid hfi
  have hfew := hF.few
  obtain ⟨fb, fo, rfl, hfb, hfc⟩ := hF.at_
  have HFC := Lib.hid hfc
  clear hr hfi hF hv hz hfc
  go_enter Try.func56, Try.ntmps56
  go_wp2_with fail
  go_loopw [7, 14] (fun u i wr => ∃ k : Nat, k ≤ bs.length ∧ i = .int .i64 k ∧ Hid (OwnB W.heap.size u (kAcc l z bs k) wr) ∧ Hid (Below W.heap.size W wr)) (fun _ i _ => bs.length - (intOf i).toNat)
  case atStart => exact ⟨0, by omega, rfl, World.ownsRow_nil _ _ _ _, Below.refl _ _⟩
  case round =>
    obtain ⟨k, hk, rfl, ho, hbl⟩ := hrel
    by_cases hlt : k < bs.length
    · have HLT := Lib.hid hlt
      obtain ⟨b2, o2, ha2, hc2⟩ := HR.out.below hbl.out
      obtain ⟨rfl, hl2⟩ := ha2 (by omega)
      have hx := hc2 k hlt
      obtain ⟨hk0, h, hfo, hhl, _⟩ := HFi.out bs[k]! (by rw [getElem!_pos bs k hlt]; exact List.getElem_mem hlt)
      have hlen := kAcc_len l z bs k
      have hz1 : (k : Int) < bs.length := by omega
      have hz0 : (0 : Int) ≤ k := by omega
      have HC2 : Hid (∀ j, j < bs.length → ∀ i v, (encB bs[j]!)[i]? = some v → wr.cell? ⟨b2, o2 + j * 7 + i, none⟩ = some v) := hc2
      obtain ⟨X, hX⟩ : ∃ X, bs[k]! = X := ⟨_, rfl⟩
      have HXE := Lib.hid hX
      rw [hX] at hx hfo
      obtain ⟨kd, wd, fov, sz, nm⟩ := X
      simp only at hfo
      subst hfo
      have x0 := hx 0 _ rfl
      have x1 := hx 1 _ rfl
      have x2 := hx 2 _ rfl
      have x3 := hx 3 _ rfl
      have x4 := hx 4 _ rfl
      have x5 := hx 5 _ rfl
      have x6 := hx 6 _ rfl
      simp only [Nat.add_zero] at x0 x1 x2 x3 x4 x5 x6
      obtain ⟨sn, hsn⟩ : ∃ s, mk8 nm = s := ⟨_, rfl⟩
      have HSN := Lib.hid hsn
      rw [hsn] at x4
      clear hX hx hc2 ha2 hk0 hsn hlt
      go_upto_region 5 with fail
      generalize hw4 : wr.alloc _ = w4
      have hb4 : Below wr.heap.size wr w4 := by rw [← hw4]; exact (Below.refl _ _).alloc (Nat.le_refl _) _
      have t4 : w4.heap[wr.heap.size]? = some (.cells #[.int .i64 kd, .int .i64 wd, .int .i64 h, .int .i64 sz, .string sn, .string ⟨#[]⟩, .slice none 0 0] 70 (0, 0)) := by rw [← hw4]; exact heap_alloc_new wr _
      obtain ⟨q, hq⟩ : ∃ q, wr.heap.size = q := ⟨_, rfl⟩
      have HQW : Hid (wr.heap.size = q) := hq
      have HB4 := Lib.hid hb4
      rw [hq] at t4
      rw [hq]
      have HT4 := Lib.hid t4
      have y2 := cell_of (j := 2) t4 rfl
      clear hw4 hb4 t4 hq x0 x1 x2 x3 x4 x5 x6
      cases k with
      | zero =>
        go_quiet (fail)
        obtain ⟨w5, hw5⟩ : ∃ w5, w5 = w4.drewN nq := ⟨_, rfl⟩
        rw [← hw5]
        have HB45 : Hid (Below w4.heap.size w4 w5) := by rw [hw5]; exact below_dNk (Below.refl _ _) _
        have HT5 : Hid (w5.heap[q]? = some (.cells #[.int .i64 kd, .int .i64 wd, .int .i64 h, .int .i64 sz, .string sn, .string ⟨#[]⟩, .slice none 0 0] 70 (0, 0))) := by show _ = _; rw [HB45.out.block q (Array.getElem?_eq_some_iff.1 HT4.out).1]; exact HT4.out
        have HB5 := Lib.hid (hbl.out.trans ((HB4.out.trans (HB45.out.mono HB4.out.size)).mono hbl.out.size))
        have HO5 := Lib.hid (owns_below ho.out (HB4.out.trans (HB45.out.mono HB4.out.size)))
        clear hw5
        have HST : Hid (kAcc l z bs (0 + 1) = kAcc l z bs 0 ++ [⟨kd, wd, h, sz, nm⟩]) := by
          show kAcc l z bs 0 ++ (if 0 < 0 ∧ _ then _ else _) ++ [bs[0]!] = _
          rw [if_neg (fun h => absurd h.1 (Nat.lt_irrefl _)), List.append_nil, HXE.out]
        clear y2 ho hbl HB45
        have hszB := HB5.out.size
        have hlo : ∀ j, u7.ownBlock = some j → W.heap.size ≤ j ∧ j < w5.heap.size := fun j hj => HO5.out.lt j hj
        have t9 : w5.heap[q]? = some (.cells #[.int .i64 kd, .int .i64 wd, .int .i64 h, .int .i64 sz, .string sn, .string ⟨#[]⟩, .slice none 0 0] 70 (0, 0)) := HT5.out
        have z0 := cell_of (j := 0) t9 rfl
        have z1 := cell_of (j := 1) t9 rfl
        have z2 := cell_of (j := 2) t9 rfl
        have z3 := cell_of (j := 3) t9 rfl
        have z4 := cell_of (j := 4) t9 rfl
        have z5 := cell_of (j := 5) t9 rfl
        have z6 := cell_of (j := 6) t9 rfl
        clear t9
        go_wp2_with (at_builtin; refine wpList_box (v := u7) (xs := (kAcc l z bs 0)) (e := ⟨kd, wd, h, sz, nm⟩) rfl (.tmp 61) (.tmp 63) rfl rfl ⟨w5.heap.size, 0, none⟩ rfl (fun j u hu => World.news_of_block (heap_alloc_new w5 _) j u (by rw [← HSN.out]; simpa [encB] using hu)) (HO5.out.alloc _) (by first | omega | (simp only [List.length_append, List.length_singleton]; omega)) (by simp; omega) ?_; intro v9 w9 h1 h2 h3; have G1 := Lib.hid h1; have G2 := Lib.hid h2; clear h1 h2 h3)
        have N1 : Hid (OwnB W.heap.size v9 (kAcc l z bs (0 + 1)) w9) := by rw [HST.out]; exact G1.out
        have N2 : Hid (Below W.heap.size W w9) := grown_base HB5.out hszB (fun j hj => (hlo j hj).1) G2.out
        clear z0 z1 z2 z3 z4 z5 z6
        go_roundw
        case rel => exact ⟨0 + 1, by have := HLT.out; omega, by go_num, N1, N2⟩
        case measure => have := HLT.out; simp only [intOf]; omega
      | succ m =>
        have hm := HC2.out m (by have := HLT.out; omega)
        obtain ⟨_, hp, hpf, hphl, _⟩ := HFi.out bs[m]! (by rw [getElem!_pos bs m (by have := HLT.out; omega)]; exact List.getElem_mem _)
        obtain ⟨Y, hY⟩ : ∃ Y, bs[m]! = Y := ⟨_, rfl⟩
        have HYE := Lib.hid hY
        rw [hY] at hm hpf
        obtain ⟨pk, pw, pfv, pz, pn⟩ := Y
        simp only at hpf
        subst hpf
        have p2 := (HB4.out.cell (p := ⟨b2, o2 + m * 7 + 2, none⟩) hl2).trans (hm 2 _ rfl)
        have p4 := (HB4.out.cell (p := ⟨b2, o2 + m * 7 + 4, none⟩) hl2).trans (hm 4 _ rfl)
        have hms : IntKind.i64.wrap (((m + 1 : Nat) : Int) - 1) = (m : Int) := by rw [IntWalk.i64_in _ (by have := HLT.out; omega)]; omega
        have hmw : IntKind.i64.wrap (m : Int) = (m : Int) := IntWalk.i64_in _ (by have := HLT.out; omega)
        have hmz : (0 : Int) < ((m + 1 : Nat) : Int) := by omega
        have hm0 : (0 : Int) ≤ m := by omega
        have hm1 : (m : Int) < bs.length := by have := HLT.out; omega
        have HE1 : Hid (kAcc l z bs (m + 1 + 1) = kAcc l z bs (m + 1) ++ (if kernB' l z ⟨pk, pw, hp, pz, pn⟩ ⟨kd, wd, h, sz, nm⟩ ≠ 0 then [⟨2, kernB' l z ⟨pk, pw, hp, pz, pn⟩ ⟨kd, wd, h, sz, nm⟩, 0, 0, []⟩] else []) ++ [⟨kd, wd, h, sz, nm⟩]) := by
          show kAcc l z bs (m + 1) ++ (if 0 < m + 1 ∧ kernB' l z bs[m + 1 - 1]! bs[m + 1]! ≠ 0 then [⟨2, kernB' l z bs[m + 1 - 1]! bs[m + 1]!, 0, 0, []⟩] else []) ++ [bs[m + 1]!] = _
          rw [show m + 1 - 1 = m from rfl, HXE.out, HYE.out]
          simp only [Nat.succ_pos, true_and]
        clear hm hY
        by_cases he : hp = h
        · subst he
          have d1 : (((hp : Nat) : Int) == ((hp : Nat) : Int)) = true := beq_self_eq_true _
          have HQU : Hid (u7.ownBlock ≠ some q) := fun e => by
            have h1 := (ho.out.lt q e).2
            have h2 := HQW.out
            omega
          have HBY0 : kernB' l z ⟨pk, pw, hp, pz, pn⟩ ⟨kd, wd, hp, sz, nm⟩ = kernL l[hp]!.F.ks pn nm z := by unfold kernB'; rw [if_pos rfl]; simp only [Int.toNat_natCast]
          obtain ⟨BY, hBY⟩ : ∃ B, kernL l[hp]!.F.ks pn nm z = B := ⟨_, rfl⟩
          rw [hBY] at HBY0
          have HBY := Lib.hid HBY0
          have hfx := HFC.out hp hphl
          have HKx := Lib.hid (fun (W' : World) (hb : Below W.heap.size W W') => HK.out l[hp]! (by rw [getElem!_pos l hp hphl]; exact List.getElem_mem hphl) pn nm W' hb)
          simp only [hBY, HSN.out] at HKx
          obtain ⟨X, hX⟩ : ∃ X, l[hp]! = X := ⟨_, rfl⟩
          simp only [hX] at HKx
          rw [hX] at hfx
          clear hBY hX HBY0
          obtain ⟨⟨fn, fs, fz, gs, ls, ks⟩, ag, al, ak, cg, cl, ck⟩ := X
          have g0 := hfx 0 _ rfl
          have g1 := hfx 1 _ rfl
          have g2 := hfx 2 _ rfl
          have g3 := hfx 3 _ rfl
          have g4 := hfx 4 _ rfl
          have g5 := hfx 5 _ rfl
          simp only [fontVal] at HKx
          simp only [Nat.add_zero] at g0
          generalize mk8 fn = m1 at HKx g0
          obtain ⟨spn, hspn⟩ : ∃ s, mk8 pn = s := ⟨_, rfl⟩
          simp only [hspn] at HKx
          have hspz : (encB ⟨pk, pw, hp, pz, pn⟩)[4]? = some (.string spn) := by rw [← hspn]; rfl
          have hhz0 : (0 : Int) ≤ hp := by omega
          have hhz1 : (hp : Int) < l.length := by omega
          clear hfx hspz
          rw [hspn] at p4
          clear hspn
          go_quiet (fail)
          obtain ⟨w5, hw5⟩ : ∃ w5, w5 = w4.drewN nq := ⟨_, rfl⟩
          rw [← hw5]
          have HB45 : Hid (Below w4.heap.size w4 w5) := by rw [hw5]; exact below_dNk (Below.refl _ _) _
          have HT5 : Hid (w5.heap[q]? = some (.cells #[.int .i64 kd, .int .i64 wd, .int .i64 hp, .int .i64 sz, .string sn, .string ⟨#[]⟩, .slice none 0 0] 70 (0, 0))) := by show _ = _; rw [HB45.out.block q (Array.getElem?_eq_some_iff.1 HT4.out).1]; exact HT4.out
          have HB5 := Lib.hid (hbl.out.trans ((HB4.out.trans (HB45.out.mono HB4.out.size)).mono hbl.out.size))
          have HO5 := Lib.hid (owns_below ho.out (HB4.out.trans (HB45.out.mono HB4.out.size)))
          clear hw5
          have hq5 := (Array.getElem?_eq_some_iff.1 HT5.out).1
          have hb5 : b2 < w5.heap.size := Nat.lt_of_lt_of_le hl2 (Nat.le_trans HB4.out.size HB45.out.size)
          have hf5 : fb < w5.heap.size := Nat.lt_of_lt_of_le hfb HB5.out.size
          have y2 := cell_of (j := 2) HT5.out rfl
          have y4 := cell_of (j := 4) HT5.out rfl
          have p2 := (HB45.out.cell (p := ⟨b2, o2 + m * 7 + 2, none⟩) (Nat.lt_of_lt_of_le hl2 HB4.out.size)).trans p2
          have p4 := (HB45.out.cell (p := ⟨b2, o2 + m * 7 + 4, none⟩) (Nat.lt_of_lt_of_le hl2 HB4.out.size)).trans p4
          have f0 := (HB5.out.cell (p := ⟨fb, fo + hp * 6, none⟩) hfb).trans g0
          have f1 := (HB5.out.cell (p := ⟨fb, fo + hp * 6 + 1, none⟩) hfb).trans g1
          have f2 := (HB5.out.cell (p := ⟨fb, fo + hp * 6 + 2, none⟩) hfb).trans g2
          have f3 := (HB5.out.cell (p := ⟨fb, fo + hp * 6 + 3, none⟩) hfb).trans g3
          have f4 := (HB5.out.cell (p := ⟨fb, fo + hp * 6 + 4, none⟩) hfb).trans g4
          have f5 := (HB5.out.cell (p := ⟨fb, fo + hp * 6 + 5, none⟩) hfb).trans g5
          clear g0 g1 g2 g3 g4 g5 ho hbl HB45
          go_upto_region 6 with fail
          refine wp_region_held_drew (S := fun w' => Below w5.heap.size w5 w') (by kernel_rfl) ?_ (fun hHeld => ?_)
          · exact (Below.refl _ _).drew
          refine' wpAnyH_take (i := 0) (oi := _) (v := _) ?hi1 (by kernel_rfl) (by kernel_rfl) (by kernel_rfl) ?hQ1 (Or.inl ⟨?hw1, ?hy1⟩) hHeld ?rest1
          case hi1 => simp only [List.getElem?_toArray, List.getElem?_cons_zero]; rfl
          case hQ1 => exact fun _ _ _ h => h
          case hw1 => rfl
          case hy1 =>
            intro w hSw
            try dsimp only at hSw
            go_simp
            all_goals with_reducible rfl
          try simp only [Act.put, List.setIfInBounds_toArray, List.set_cons_zero, List.set_cons_succ]
          refine' wpAnyH_take (i := 1) (oi := _) (v := _) ?hi2 (by kernel_rfl) (by kernel_rfl) (by kernel_rfl) ?hQ2 (Or.inl ⟨?hw2, ?hy2⟩) hHeld ?rest2
          case hi2 => simp only [List.getElem?_toArray, List.getElem?_cons_succ, List.getElem?_cons_zero]; rfl
          case hQ2 => exact fun _ _ _ h => h
          case hw2 => rfl
          case hy2 =>
            intro w hSw
            try dsimp only at hSw
            go_simp
            all_goals with_reducible rfl
          try simp only [Act.put, List.setIfInBounds_toArray, List.set_cons_zero, List.set_cons_succ]
          refine' wpAnyH_take (i := 2) (oi := _) (v := _) ?hi3 (by kernel_rfl) (by kernel_rfl) (by kernel_rfl) ?hQ3 (Or.inl ⟨?hw3, ?hy3⟩) hHeld ?rest3
          case hi3 => simp only [List.getElem?_toArray, List.getElem?_cons_succ, List.getElem?_cons_zero]; rfl
          case hQ3 => exact fun _ _ _ h => h
          case hw3 => rfl
          case hy3 =>
            intro w hSw
            try dsimp only at hSw
            have y2' := (hSw.cell (p := ⟨q, 2, none⟩) hq5).trans y2
            clear hSw
            go_simp
            all_goals with_reducible rfl
          try simp only [Act.put, List.setIfInBounds_toArray, List.set_cons_zero, List.set_cons_succ]
          refine' wpAnyH_take (i := 3) (oi := _) (v := _) ?hi4 (by kernel_rfl) (by kernel_rfl) (by kernel_rfl) ?hQ4 (Or.inl ⟨?hw4, ?hy4⟩) hHeld ?rest4
          case hi4 => simp only [List.getElem?_toArray, List.getElem?_cons_succ, List.getElem?_cons_zero]; rfl
          case hQ4 => exact fun _ _ _ h => h
          case hw4 => rfl
          case hy4 =>
            intro w hSw
            try dsimp only at hSw
            go_simp
            all_goals with_reducible rfl
          try simp only [Act.put, List.setIfInBounds_toArray, List.set_cons_zero, List.set_cons_succ]
          refine' wpAnyH_take (i := 4) (oi := _) (v := _) ?hi5 (by kernel_rfl) (by kernel_rfl) (by kernel_rfl) ?hQ5 (Or.inl ⟨?hw5, ?hy5⟩) hHeld ?rest5
          case hi5 => simp only [List.getElem?_toArray, List.getElem?_cons_succ, List.getElem?_cons_zero]; rfl
          case hQ5 => exact fun _ _ _ h => h
          case hw5 => rfl
          case hy5 =>
            intro w hSw
            try dsimp only at hSw
            have f0' := (hSw.cell (p := ⟨fb, fo + hp * 6, none⟩) hf5).trans f0
            have f1' := (hSw.cell (p := ⟨fb, fo + hp * 6 + 1, none⟩) hf5).trans f1
            have f2' := (hSw.cell (p := ⟨fb, fo + hp * 6 + 2, none⟩) hf5).trans f2
            have f3' := (hSw.cell (p := ⟨fb, fo + hp * 6 + 3, none⟩) hf5).trans f3
            have f4' := (hSw.cell (p := ⟨fb, fo + hp * 6 + 4, none⟩) hf5).trans f4
            have f5' := (hSw.cell (p := ⟨fb, fo + hp * 6 + 5, none⟩) hf5).trans f5
            clear hSw
            go_simp
            all_goals with_reducible rfl
          try simp only [Act.put, List.setIfInBounds_toArray, List.set_cons_zero, List.set_cons_succ]
          refine' wpAnyH_take (i := 5) (oi := _) (v := _) ?hi6 (by kernel_rfl) (by kernel_rfl) (by kernel_rfl) ?hQ6 (Or.inl ⟨?hw6, ?hy6⟩) hHeld ?rest6
          case hi6 => simp only [List.getElem?_toArray, List.getElem?_cons_succ, List.getElem?_cons_zero]; rfl
          case hQ6 => exact fun _ _ _ h => h
          case hw6 => rfl
          case hy6 =>
            intro w hSw
            try dsimp only at hSw
            go_simp
            all_goals with_reducible rfl
          try simp only [Act.put, List.setIfInBounds_toArray, List.set_cons_zero, List.set_cons_succ]
          refine' wpAnyH_take (i := 6) (oi := _) (v := _) ?hi7 (by kernel_rfl) (by kernel_rfl) (by kernel_rfl) ?hQ7 (Or.inl ⟨?hw7, ?hy7⟩) hHeld ?rest7
          case hi7 => simp only [List.getElem?_toArray, List.getElem?_cons_succ, List.getElem?_cons_zero]; rfl
          case hQ7 => exact fun _ _ _ h => h
          case hw7 => rfl
          case hy7 =>
            intro w hSw
            try dsimp only at hSw
            go_simp
            all_goals with_reducible rfl
          try simp only [Act.put, List.setIfInBounds_toArray, List.set_cons_zero, List.set_cons_succ]
          refine' wpAnyH_take (i := 7) (oi := _) (v := _) ?hi8 (by kernel_rfl) (by kernel_rfl) (by kernel_rfl) ?hQ8 (Or.inl ⟨?hw8, ?hy8⟩) hHeld ?rest8
          case hi8 => simp only [List.getElem?_toArray, List.getElem?_cons_succ, List.getElem?_cons_zero]; rfl
          case hQ8 => exact fun _ _ _ h => h
          case hw8 => rfl
          case hy8 =>
            intro w hSw
            try dsimp only at hSw
            go_simp
            all_goals with_reducible rfl
          try simp only [Act.put, List.setIfInBounds_toArray, List.set_cons_zero, List.set_cons_succ]
          refine' wpAnyH_take (i := 8) (oi := _) (v := _) ?hi9 (by kernel_rfl) (by kernel_rfl) (by kernel_rfl) ?hQ9 (Or.inl ⟨?hw9, ?hy9⟩) hHeld ?rest9
          case hi9 => simp only [List.getElem?_toArray, List.getElem?_cons_succ, List.getElem?_cons_zero]; rfl
          case hQ9 => exact fun _ _ _ h => h
          case hw9 => rfl
          case hy9 =>
            intro w hSw
            try dsimp only at hSw
            go_simp
            all_goals with_reducible rfl
          try simp only [Act.put, List.setIfInBounds_toArray, List.set_cons_zero, List.set_cons_succ]
          refine' wpAnyH_take (i := 9) (oi := _) (v := _) ?hi10 (by kernel_rfl) (by kernel_rfl) (by kernel_rfl) ?hQ10 (Or.inl ⟨?hw10, ?hy10⟩) hHeld ?rest10
          case hi10 => simp only [List.getElem?_toArray, List.getElem?_cons_succ, List.getElem?_cons_zero]; rfl
          case hQ10 => exact fun _ _ _ h => h
          case hw10 => rfl
          case hy10 =>
            intro w hSw
            try dsimp only at hSw
            go_simp
            all_goals with_reducible rfl
          try simp only [Act.put, List.setIfInBounds_toArray, List.set_cons_zero, List.set_cons_succ]
          refine' wpAnyH_take (i := 10) (oi := _) (v := _) ?hi11 (by kernel_rfl) (by kernel_rfl) (by kernel_rfl) ?hQ11 (Or.inl ⟨?hw11, ?hy11⟩) hHeld ?rest11
          case hi11 => simp only [List.getElem?_toArray, List.getElem?_cons_succ, List.getElem?_cons_zero]; rfl
          case hQ11 => exact fun _ _ _ h => h
          case hw11 => rfl
          case hy11 =>
            intro w hSw
            try dsimp only at hSw
            have p4' := (hSw.cell (p := ⟨b2, o2 + m * 7 + 4, none⟩) hb5).trans p4
            clear hSw
            go_simp
            all_goals with_reducible rfl
          try simp only [Act.put, List.setIfInBounds_toArray, List.set_cons_zero, List.set_cons_succ]
          refine' wpAnyH_take (i := 11) (oi := _) (v := _) ?hi12 (by kernel_rfl) (by kernel_rfl) (by kernel_rfl) ?hQ12 (Or.inl ⟨?hw12, ?hy12⟩) hHeld ?rest12
          case hi12 => simp only [List.getElem?_toArray, List.getElem?_cons_succ, List.getElem?_cons_zero]; rfl
          case hQ12 => exact fun _ _ _ h => h
          case hw12 => rfl
          case hy12 =>
            intro w hSw
            try dsimp only at hSw
            go_simp
            all_goals with_reducible rfl
          try simp only [Act.put, List.setIfInBounds_toArray, List.set_cons_zero, List.set_cons_succ]
          refine' wpAnyH_take (i := 12) (oi := _) (v := _) ?hi13 (by kernel_rfl) (by kernel_rfl) (by kernel_rfl) ?hQ13 (Or.inl ⟨?hw13, ?hy13⟩) hHeld ?rest13
          case hi13 => simp only [List.getElem?_toArray, List.getElem?_cons_succ, List.getElem?_cons_zero]; rfl
          case hQ13 => exact fun _ _ _ h => h
          case hw13 => rfl
          case hy13 =>
            intro w hSw
            try dsimp only at hSw
            have y4' := (hSw.cell (p := ⟨q, 4, none⟩) hq5).trans y4
            clear hSw
            go_simp
            all_goals with_reducible rfl
          try simp only [Act.put, List.setIfInBounds_toArray, List.set_cons_zero, List.set_cons_succ]
          refine' wpAnyH_take (i := 13) (oi := _) (v := _) ?hi14 (by kernel_rfl) (by kernel_rfl) (by kernel_rfl) ?hQ14 (Or.inl ⟨?hw14, ?hy14⟩) hHeld ?rest14
          case hi14 => simp only [List.getElem?_toArray, List.getElem?_cons_succ, List.getElem?_cons_zero]; rfl
          case hQ14 => exact fun _ _ _ h => h
          case hw14 => rfl
          case hy14 =>
            intro w hSw
            try dsimp only at hSw
            go_simp
            all_goals with_reducible rfl
          try simp only [Act.put, List.setIfInBounds_toArray, List.set_cons_zero, List.set_cons_succ]
          refine wpAnyH_ready (rs := [14]) (by kernel_rfl) (by simp) ?_
          refine' AllReadyH.cons (o := _) ?ha20 (fun K hK => ?sa20) ?ma20
          case ha20 => simp only [List.getElem?_toArray, List.getElem?_cons_succ, List.getElem?_cons_zero]; rfl
          case ma20 => exact AllReadyH.nil
          case sa20 =>
            go_simp
            go_at_call 27
            refine (HKx.out _ (HB5.out.trans (hHeld.mono HB5.out.size))).mono ?_
            rintro e w6 ⟨rfl, hb⟩
            have hbk := hHeld.trans (hb.mono hHeld.size)
            clear hb
            go_wp2_with fail
            refine hK.out _ _ ?_ (fun hHeld => ?_)
            · exact hbk
            clear hK K
            try simp only [Act.put, List.setIfInBounds_toArray, List.set_cons_zero, List.set_cons_succ]
            clear hbk
            refine' wpAnyH_take (i := 15) (oi := _) (v := _) ?hi15 (by kernel_rfl) (by kernel_rfl) (by kernel_rfl) ?hQ15 (Or.inl ⟨?hw15, ?hy15⟩) hHeld ?rest15
            case hi15 => simp only [List.getElem?_toArray, List.getElem?_cons_succ, List.getElem?_cons_zero]; rfl
            case hQ15 => exact fun _ _ _ h => h
            case hw15 => rfl
            case hy15 =>
              intro w hSw
              try dsimp only at hSw
              go_simp
              all_goals with_reducible rfl
            try simp only [Act.put, List.setIfInBounds_toArray, List.set_cons_zero, List.set_cons_succ]
            refine' wpAnyH_take (i := 16) (oi := _) (v := _) ?hi16 (by kernel_rfl) (by kernel_rfl) (by kernel_rfl) ?hQ16 (Or.inl ⟨?hw16, ?hy16⟩) hHeld ?rest16
            case hi16 => simp only [List.getElem?_toArray, List.getElem?_cons_succ, List.getElem?_cons_zero]; rfl
            case hQ16 => exact fun _ _ _ h => h
            case hw16 => rfl
            case hy16 =>
              intro w hSw
              try dsimp only at hSw
              go_simp
              all_goals with_reducible rfl
            try simp only [Act.put, List.setIfInBounds_toArray, List.set_cons_zero, List.set_cons_succ]
            refine' wpAnyH_take (i := 17) (oi := _) (v := _) ?hi17 (by kernel_rfl) (by kernel_rfl) (by kernel_rfl) ?hQ17 (Or.inl ⟨?hw17, ?hy17⟩) hHeld ?rest17
            case hi17 => simp only [List.getElem?_toArray, List.getElem?_cons_succ, List.getElem?_cons_zero]; rfl
            case hQ17 => exact fun _ _ _ h => h
            case hw17 => rfl
            case hy17 =>
              intro w hSw
              try dsimp only at hSw
              go_simp
              all_goals with_reducible rfl
            try simp only [Act.put, List.setIfInBounds_toArray, List.set_cons_zero, List.set_cons_succ]
            refine' wpAnyH_take (i := 18) (oi := _) (v := _) ?hi18 (by kernel_rfl) (by kernel_rfl) (by kernel_rfl) ?hQ18 (Or.inl ⟨?hw18, ?hy18⟩) hHeld ?rest18
            case hi18 => simp only [List.getElem?_toArray, List.getElem?_cons_succ, List.getElem?_cons_zero]; rfl
            case hQ18 => exact fun _ _ _ h => h
            case hw18 => rfl
            case hy18 =>
              intro w hSw
              try dsimp only at hSw
              go_simp
              all_goals with_reducible rfl
            try simp only [Act.put, List.setIfInBounds_toArray, List.set_cons_zero, List.set_cons_succ]
            refine' wpAnyH_take (i := 19) (oi := _) (v := _) ?hi19 (by kernel_rfl) (by kernel_rfl) (by kernel_rfl) ?hQ19 (Or.inl ⟨?hw19, ?hy19⟩) hHeld ?rest19
            case hi19 => simp only [List.getElem?_toArray, List.getElem?_cons_succ, List.getElem?_cons_zero]; rfl
            case hQ19 => exact fun _ _ _ h => h
            case hw19 => rfl
            case hy19 =>
              intro w hSw
              try dsimp only at hSw
              go_simp
              all_goals with_reducible rfl
            try simp only [Act.put, List.setIfInBounds_toArray, List.set_cons_zero, List.set_cons_succ]
            refine wpAnyH_done (by kernel_rfl) ?_ _
            have HB6 := Lib.hid (HB5.out.trans (hHeld.mono HB5.out.size))
            have HO6 := Lib.hid (owns_below HO5.out hHeld)
            have HT6 : Hid (w6.heap[q]? = some (.cells #[.int .i64 kd, .int .i64 wd, .int .i64 hp, .int .i64 sz, .string sn, .string ⟨#[]⟩, .slice none 0 0] 70 (0, 0))) := by show _ = _; rw [hHeld.block q hq5]; exact HT5.out
            clear hHeld y2 y4 p2 p4 f0 f1 f2 f3 f4 f5 hq5 hb5 hf5 d1 hms hmw hmz HB5 HO5 HT5
            by_cases hby : BY = 0
            · have HST : Hid (kAcc l z bs (m + 1 + 1) = kAcc l z bs (m + 1) ++ [⟨kd, wd, hp, sz, nm⟩]) := by
                show _ = _
                rw [HE1.out, HBY.out, if_neg (fun h => h hby), List.append_nil]
              have e0 : (BY == 0) = true := by rw [hby]; rfl
              subst hby
              have hszB := HB6.out.size
              have hlo : ∀ j, u7.ownBlock = some j → W.heap.size ≤ j ∧ j < w6.heap.size := fun j hj => HO6.out.lt j hj
              have t9 : w6.heap[q]? = some (.cells #[.int .i64 kd, .int .i64 wd, .int .i64 hp, .int .i64 sz, .string sn, .string ⟨#[]⟩, .slice none 0 0] 70 (0, 0)) := HT6.out
              have z0 := cell_of (j := 0) t9 rfl
              have z1 := cell_of (j := 1) t9 rfl
              have z2 := cell_of (j := 2) t9 rfl
              have z3 := cell_of (j := 3) t9 rfl
              have z4 := cell_of (j := 4) t9 rfl
              have z5 := cell_of (j := 5) t9 rfl
              have z6 := cell_of (j := 6) t9 rfl
              clear t9 e0
              go_wp2_with (at_builtin; refine wpList_box (v := u7) (xs := (kAcc l z bs (m + 1))) (e := ⟨kd, wd, hp, sz, nm⟩) rfl (.tmp 61) (.tmp 63) rfl rfl ⟨w6.heap.size, 0, none⟩ rfl (fun j u hu => World.news_of_block (heap_alloc_new w6 _) j u (by rw [← HSN.out]; simpa [encB] using hu)) (HO6.out.alloc _) (by first | omega | (simp only [List.length_append, List.length_singleton]; omega)) (by simp; omega) ?_; intro v9 w9 h1 h2 h3; have G1 := Lib.hid h1; have G2 := Lib.hid h2; clear h1 h2 h3)
              have N1 : Hid (OwnB W.heap.size v9 (kAcc l z bs ((m + 1) + 1)) w9) := by rw [HST.out]; exact G1.out
              have N2 : Hid (Below W.heap.size W w9) := grown_base HB6.out hszB (fun j hj => (hlo j hj).1) G2.out
              clear z0 z1 z2 z3 z4 z5 z6
              go_roundw
              case rel => exact ⟨(m + 1) + 1, by have := HLT.out; omega, by go_num, N1, N2⟩
              case measure => have := HLT.out; simp only [intOf]; omega
            · have HST : Hid (kAcc l z bs (m + 1 + 1) = (kAcc l z bs (m + 1) ++ [⟨2, BY, 0, 0, []⟩]) ++ [⟨kd, wd, hp, sz, nm⟩]) := by
                show _ = _
                rw [HE1.out, HBY.out, if_pos hby]
              have e0 : (BY == 0) = false := by rw [beq_eq_false_iff_ne]; exact hby
              have hsz6 := HB6.out.size
              have hlo6 : ∀ j, u7.ownBlock = some j → W.heap.size ≤ j ∧ j < w6.heap.size := fun j hj => HO6.out.lt j hj
              go_upto_region 9 with (at_builtin; refine wpList_box (v := u7) (xs := kAcc l z bs (m + 1)) (e := ⟨2, BY, 0, 0, []⟩) rfl (.tmp 56) (.tmp 59) rfl rfl ⟨w6.heap.size, 0, none⟩ rfl (fun j u hu => World.news_of_block (heap_alloc_new w6 _) j u (by simpa [encB] using hu)) (HO6.out.alloc _) (by omega) (by simp; omega) ?_; intro v7 w7 h1 h2 h3; have K1 := Lib.hid h1; have K2 := Lib.hid h2; have K3 := Lib.hid h3; clear h1 h2 h3)
              have HO7 := K1
              have HB7 : Hid (Below W.heap.size W w7) := grown_base HB6.out hsz6 (fun j hj => (hlo6 j hj).1) K2.out
              have HT7 : w7.heap[q]? = some (.cells #[.int .i64 kd, .int .i64 wd, .int .i64 hp, .int .i64 sz, .string sn, .string ⟨#[]⟩, .slice none 0 0] 70 (0, 0)) := by
                have hqn : u7.ownBlock ≠ some q := HQU.out
                have h6 := HT6.out
                have hl := (Array.getElem?_eq_some_iff.1 h6).1
                rw [K2.out.block q (by simp; omega) (fun e => hqn e.symm), ((Below.refl w6.heap.size w6).alloc (Nat.le_refl _) _).block q hl]
                exact h6
              have HT7 := Lib.hid HT7
              clear hby e0 HB6 HO6 HT6 hlo6 K1 K2 K3
              have hszB := HB7.out.size
              have hlo : ∀ j, v7.ownBlock = some j → W.heap.size ≤ j ∧ j < w7.heap.size := fun j hj => HO7.out.lt j hj
              have t9 : w7.heap[q]? = some (.cells #[.int .i64 kd, .int .i64 wd, .int .i64 hp, .int .i64 sz, .string sn, .string ⟨#[]⟩, .slice none 0 0] 70 (0, 0)) := HT7.out
              have z0 := cell_of (j := 0) t9 rfl
              have z1 := cell_of (j := 1) t9 rfl
              have z2 := cell_of (j := 2) t9 rfl
              have z3 := cell_of (j := 3) t9 rfl
              have z4 := cell_of (j := 4) t9 rfl
              have z5 := cell_of (j := 5) t9 rfl
              have z6 := cell_of (j := 6) t9 rfl
              clear t9
              go_wp2_with (at_builtin; refine wpList_box (v := v7) (xs := (kAcc l z bs (m + 1) ++ [⟨2, BY, 0, 0, []⟩])) (e := ⟨kd, wd, hp, sz, nm⟩) rfl (.tmp 61) (.tmp 63) rfl rfl ⟨w7.heap.size, 0, none⟩ rfl (fun j u hu => World.news_of_block (heap_alloc_new w7 _) j u (by rw [← HSN.out]; simpa [encB] using hu)) (HO7.out.alloc _) (by first | omega | (simp only [List.length_append, List.length_singleton]; omega)) (by simp; omega) ?_; intro v9 w9 h1 h2 h3; have G1 := Lib.hid h1; have G2 := Lib.hid h2; clear h1 h2 h3)
              have N1 : Hid (OwnB W.heap.size v9 (kAcc l z bs ((m + 1) + 1)) w9) := by rw [HST.out]; exact G1.out
              have N2 : Hid (Below W.heap.size W w9) := grown_base HB7.out hszB (fun j hj => (hlo j hj).1) G2.out
              clear z0 z1 z2 z3 z4 z5 z6
              go_roundw
              case rel => exact ⟨(m + 1) + 1, by have := HLT.out; omega, by go_num, N1, N2⟩
              case measure => have := HLT.out; simp only [intOf]; omega
        · have d1 : (((hp : Nat) : Int) == ((h : Nat) : Int)) = false := by rw [beq_eq_false_iff_ne]; omega
          have HST : Hid (kAcc l z bs (m + 1 + 1) = kAcc l z bs (m + 1) ++ [⟨kd, wd, h, sz, nm⟩]) := by
            show _ = _
            rw [HE1.out]
            have hk0 : kernB' l z ⟨pk, pw, hp, pz, pn⟩ ⟨kd, wd, h, sz, nm⟩ = 0 := by unfold kernB'; rw [if_neg (by simp only; omega)]
            rw [hk0, if_neg (fun h => h rfl), List.append_nil]
          go_quiet (fail)
          obtain ⟨w5, hw5⟩ : ∃ w5, w5 = w4.drewN nq := ⟨_, rfl⟩
          rw [← hw5]
          have HB45 : Hid (Below w4.heap.size w4 w5) := by rw [hw5]; exact below_dNk (Below.refl _ _) _
          have HT5 : Hid (w5.heap[q]? = some (.cells #[.int .i64 kd, .int .i64 wd, .int .i64 h, .int .i64 sz, .string sn, .string ⟨#[]⟩, .slice none 0 0] 70 (0, 0))) := by show _ = _; rw [HB45.out.block q (Array.getElem?_eq_some_iff.1 HT4.out).1]; exact HT4.out
          have HB5 := Lib.hid (hbl.out.trans ((HB4.out.trans (HB45.out.mono HB4.out.size)).mono hbl.out.size))
          have HO5 := Lib.hid (owns_below ho.out (HB4.out.trans (HB45.out.mono HB4.out.size)))
          clear hw5
          clear y2 p2 p4 ho hbl HB45 d1 hms hmz
          have hszB := HB5.out.size
          have hlo : ∀ j, u7.ownBlock = some j → W.heap.size ≤ j ∧ j < w5.heap.size := fun j hj => HO5.out.lt j hj
          have t9 : w5.heap[q]? = some (.cells #[.int .i64 kd, .int .i64 wd, .int .i64 h, .int .i64 sz, .string sn, .string ⟨#[]⟩, .slice none 0 0] 70 (0, 0)) := HT5.out
          have z0 := cell_of (j := 0) t9 rfl
          have z1 := cell_of (j := 1) t9 rfl
          have z2 := cell_of (j := 2) t9 rfl
          have z3 := cell_of (j := 3) t9 rfl
          have z4 := cell_of (j := 4) t9 rfl
          have z5 := cell_of (j := 5) t9 rfl
          have z6 := cell_of (j := 6) t9 rfl
          clear t9
          go_wp2_with (at_builtin; refine wpList_box (v := u7) (xs := (kAcc l z bs (m + 1))) (e := ⟨kd, wd, h, sz, nm⟩) rfl (.tmp 61) (.tmp 63) rfl rfl ⟨w5.heap.size, 0, none⟩ rfl (fun j u hu => World.news_of_block (heap_alloc_new w5 _) j u (by rw [← HSN.out]; simpa [encB] using hu)) (HO5.out.alloc _) (by first | omega | (simp only [List.length_append, List.length_singleton]; omega)) (by simp; omega) ?_; intro v9 w9 h1 h2 h3; have G1 := Lib.hid h1; have G2 := Lib.hid h2; clear h1 h2 h3)
          have N1 : Hid (OwnB W.heap.size v9 (kAcc l z bs ((m + 1) + 1)) w9) := by rw [HST.out]; exact G1.out
          have N2 : Hid (Below W.heap.size W w9) := grown_base HB5.out hszB (fun j hj => (hlo j hj).1) G2.out
          clear z0 z1 z2 z3 z4 z5 z6
          go_roundw
          case rel => exact ⟨(m + 1) + 1, by have := HLT.out; omega, by go_num, N1, N2⟩
          case measure => have := HLT.out; simp only [intOf]; omega
    · obtain rfl : k = bs.length := by omega
      have hz1 : ¬ ((bs.length : Nat) : Int) < bs.length := by omega
      go_wp2_with fail
      go_ret
      exact ⟨u7, rfl, ho.out, hbl.out⟩
end Go.Proofs.Ytboophfcakdlcaa
