/- The document's standard fonts, walked. -/
import Derived.Test.YtboophfcakdlcaaFrSt
import Derived.Deep.RegionWith
import Derived.Deep.RegionHeld3
import Derived.Deep.CutBlock
import Derived.Deep.DeepCutAuto
namespace Go.Proofs.Ytboophfcakdlcaa
open Go.RowKit Go.PlainAid Go.Shelf

theorem put_at (nm : List UInt8) (z : Int) (lo : Nat) (v : Value) (l : List Gl) (w : World) (h : OwnR lo v l w) (hl : l.length ≤ 1000) : Calls Try.prog 37 #[v, .agg #[.string (mk8 nm), .int .i64 z]] w (PutP l ⟨nm, z⟩ w) := put_any lo v l ⟨nm, z⟩ w h hl
theorem five_room {q : Nat} {vr vi vb vm vs rl rk bl : Value} {lr li lb lm ls : List Gl} {w : World} (h : Five q vr vi vb vm vs lr li lb lm ls rl rk bl w) : q + 5 ≤ w.heap.size := by have := h.s.box.lt; omega
theorem accB (f : Nat → Gl) {k n : Nat} (h : k ≤ n) (hn : n ≤ 900) : (accL [] f k).length ≤ 1000 := by rw [accL_len]; simp; omega

abbrev JBlk (J : Nat) (w : World) : Prop := w.heap[J]? = some (.cells #[.string (mk8 [102, 105]), .string (mk8 [102, 108]), .string (mk8 [102, 102])] 9 (0, 0))
theorem jblk_below {J : Nat} {w w' : World} (h : JBlk J w) (hb : Below w.heap.size w w') : JBlk J w' := by show w'.heap[J]? = _; rw [hb.block J (Array.getElem?_eq_some_iff.1 h).1]; exact h
theorem jblk_set {J x j : Nat} {u : Value} {w : World} (h : JBlk J w) (hx : x ≠ J) : JBlk J (w.setCell ⟨x, j, none⟩ u) := by show (w.setCell _ _).heap[J]? = _; rw [Below.heap_setCell _ _ _ _ (by simpa using Ne.symm hx)]; exact h
/-- The rows of ligatures, kerns and symbols. -/
structure Rws (q g1 g2 g3 g4 : Nat) (w : World) : Prop where
  l1 : RowK encLg 3 (some ⟨g1, 0, none⟩) RL w
  l2 : RowK encLg 3 (some ⟨g2, 0, none⟩) RL w
  l3 : RowK encKn 3 (some ⟨g3, 0, none⟩) RK w
  l4 : RowK encG 2 (some ⟨g4, 0, none⟩) SL w
  lo : q + 5 ≤ g1 ∧ q + 5 ≤ g2 ∧ q + 5 ≤ g3 ∧ q + 5 ≤ g4
theorem Rws.below {q g1 g2 g3 g4 : Nat} {w w' : World} (h : Rws q g1 g2 g3 g4 w) (hb : Below w.heap.size w w') : Rws q g1 g2 g3 g4 w' := ⟨h.l1.below hb, h.l2.below hb, h.l3.below hb, h.l4.below hb, h.lo⟩
theorem Rws.set {q g1 g2 g3 g4 j : Nat} {u : Value} {w : World} (h : Rws q g1 g2 g3 g4 w) : Rws q g1 g2 g3 g4 (w.setCell ⟨q + 4, j, none⟩ u) := by
  obtain ⟨a, b, c, d⟩ := h.lo
  exact ⟨rowK_set h.l1 (by decide) (by omega), rowK_set h.l2 (by decide) (by omega), rowK_set h.l3 (by decide) (by omega), rowK_set h.l4 (by decide) (by omega), h.lo⟩
theorem five_cells {F : FontL} {ag al ak : Option Addr} {cg cl ck x : Nat} {w : World} (h : XB x (mk8 F.name) F.special F.space (.slice ag F.gs.length cg) (.slice al F.ls.length cl) (.slice ak F.ks.length ck) w) : ∀ i v, (fontCells F ag al ak cg cl ck)[i]? = some v → w.cell? ⟨x, i, none⟩ = some v := fun i v hv => cell_of h (by simpa using hv)
set_option maxRecDepth 100000 in
set_option maxHeartbeats 12000000 in
theorem rstandard_any (W : World) : Calls Try.prog 10 #[] W (StdP W) := by
  go_enter Try.func10, Try.ntmps10
  go_upto_region 2 with fail
  generalize hw1 : W.alloc _ = w1
  generalize hw2 : w1.alloc _ = w2
  generalize hw3 : w2.alloc _ = w3
  generalize hw4 : w3.alloc _ = w4
  generalize hw5 : w4.alloc _ = w5
  have s1 : w1.heap.size = W.heap.size + 1 := by rw [← hw1]; simp
  have s2 : w2.heap.size = W.heap.size + 2 := by rw [← hw2]; simp; omega
  have s3 : w3.heap.size = W.heap.size + 3 := by rw [← hw3]; simp; omega
  have s4 : w4.heap.size = W.heap.size + 4 := by rw [← hw4]; simp; omega
  have b1 : Below W.heap.size W w1 := by rw [← hw1]; exact (Below.refl _ _).alloc (Nat.le_refl _) _
  have b2 : Below w1.heap.size w1 w2 := by rw [← hw2]; exact (Below.refl _ _).alloc (Nat.le_refl _) _
  have b3 : Below w2.heap.size w2 w3 := by rw [← hw3]; exact (Below.refl _ _).alloc (Nat.le_refl _) _
  have b4 : Below w3.heap.size w3 w4 := by rw [← hw4]; exact (Below.refl _ _).alloc (Nat.le_refl _) _
  have b5 : Below w4.heap.size w4 w5 := by rw [← hw5]; exact (Below.refl _ _).alloc (Nat.le_refl _) _
  have c45 := b5
  have c35 := b4.trans (c45.mono b4.size)
  have c25 := b3.trans (c35.mono b3.size)
  have c15 := b2.trans (c25.mono b2.size)
  have HB5 := Lib.hid (b1.trans (c15.mono b1.size))
  have HF : Hid (Five W.heap.size nilV nilV nilV nilV nilV [] [] [] [] [] nilV nilV nilV w5) := by
    refine ⟨⟨?_, World.ownsRow_nil _ _ _ _⟩, ⟨?_, World.ownsRow_nil _ _ _ _⟩, ⟨?_, World.ownsRow_nil _ _ _ _⟩, ⟨?_, World.ownsRow_nil _ _ _ _⟩, ⟨?_, World.ownsRow_nil _ _ _ _⟩⟩
    · show w5.heap[W.heap.size]? = _
      rw [c15.block _ (by omega), ← hw1]; exact heap_alloc_new W _
    · show w5.heap[W.heap.size + 1]? = _
      rw [c25.block _ (by omega), ← hw2, ← s1]; exact heap_alloc_new w1 _
    · show w5.heap[W.heap.size + 2]? = _
      rw [c35.block _ (by omega), ← hw3, ← s2]; exact heap_alloc_new w2 _
    · show w5.heap[W.heap.size + 3]? = _
      rw [c45.block _ (by omega), ← hw4, ← s3]; exact heap_alloc_new w3 _
    · show w5.heap[W.heap.size + 4]? = _
      rw [← hw5, ← s4]; exact heap_alloc_new w4 _
  obtain ⟨q, hq⟩ : ∃ q, W.heap.size = q := ⟨_, rfl⟩
  have HQ : Hid (W.heap.size = q) := hq
  rw [hq] at HF HB5
  simp only [hq]
  rw [show q + 1 + 1 + 1 + 1 = q + 4 from rfl, show q + 1 + 1 + 1 = q + 3 from rfl, show q + 1 + 1 = q + 2 from rfl]
  clear hw1 hw2 hw3 hw4 hw5 s1 s2 s3 s4 b1 b2 b3 b4 b5 c45 c35 c25 c15 hq
  go_wp2_with fail
  go_loopw [6] (fun i wr => ∃ (k : Nat) (vr vi vb vm : Value), k ≤ 94 ∧ i = .int .i64 ((k : Int) + 33) ∧ Hid (Five q vr vi vb vm nilV (accL [] (fG xR) k) (accL [] (fG xI) k) (accL [] (fG xB) k) (accL [] (fG xM) k) [] nilV nilV nilV wr) ∧ Hid (Below q W wr)) (fun i _ => 127 - (intOf i).toNat)
  case atStart => exact ⟨0, nilV, nilV, nilV, nilV, by omega, rfl, HF, HB5⟩
  case round =>
    obtain ⟨k, vr, vi, vb, vm, hk, rfl, hf, hbl⟩ := hrel
    by_cases hlt : k < 94
    · have hz1 : (k : Int) + 33 ≤ 126 := by omega
      have hcv := fun V => one_str k hlt V
      have hcv2 : ∀ V : World, (convert 81 9 (.slice (some ⟨V.heap.size, 0, none⟩) 1 1)).run Try.prog (V.alloc (.cells #[.int .u8 ((k : Int) + 33)] 5)).drew = .ok (.string (mk8 [bC k])) (V.alloc (.cells #[.int .u8 ((k : Int) + 33)] 5)).drew := fun V => one_str k hlt V.drew
      have HR := Lib.hid (fun V => roman_any (bC k) V)
      rw [bC_nat hlt] at HR
      have hcu : IntKind.u8.wrap ((k : Int) + 33) = (k : Int) + 33 := by simp [IntKind.wrap, IntKind.bits, IntKind.signed]; omega
      have hro := five_room hf.out
      have hkz : (0 : Int) ≤ k := by omega
      go_upto_region 5 with fail
      go_cut [7, 8] (fun s7 s8 wx => s7 = .string (mk8 [bC k]) ∧ s8 = .int .i64 (romanW (bC k)) ∧ Hid (Below wr.heap.size wr wx))
      case first =>
        go_region_with (go_at_call 36; refine (HR.out _).mono ?_; rintro e w' ⟨rfl, rfl⟩)
        all_goals
          go_wp2_with fail
          go_meet
          case rel => exact ⟨rfl, rfl, (Below.refl _ _).drew.alloc (Nat.le_refl _) _⟩
      case rest =>
        obtain ⟨rfl, rfl, hb5⟩ := hcut
        have HF0 := Lib.hid (hf.out.below hb5.out)
        have HB0 := Lib.hid (hbl.out.trans (hb5.out.mono (by omega)))
        have hr := romanW_range (bC k)
        obtain ⟨z, hz⟩ : ∃ z, romanW (bC k) = z := ⟨_, rfl⟩
        have HZ := Lib.hid hz
        rw [hz] at hr
        simp only [hz]
        clear hcv hcv2 HR hcu hf hb5 hbl hro hz
        have c3 := cell_of (j := 3) HF0.out.r.box rfl
        go_wp2_with fail
        refine (put_at [bC k] (z) (q + 5) _ _ _ HF0.out.r.own (accB _ hk (by omega))).mono ?_
        rintro e w1 ⟨v1, rfl, ho, hb⟩
        have hf := HF0.out.below hb
        have O := own_base ho (five_room HF0.out)
        obtain ⟨ao1, ca1, rfl⟩ := own_form ho
        have d3 := cell_of (j := 3) hf.r.box rfl
        have f3 := frozen_of (j := 3) hf.r.box
        have HF1 := Lib.hid (hf.putR O)
        have HB1 := Lib.hid (below_set (x := q) (j := 3) (u := .slice ao1 (putG (accL [] (fG xR) k) ⟨[bC k], z⟩).length ca1) (HB0.out.trans (hb.mono (by have := five_room HF0.out; omega))) (by omega))
        clear c3 ho hb hf O
        have c3 := cell_of (j := 3) HF1.out.i.box rfl
        go_wp2_with fail
        clear d3 f3
        refine (put_at [bC k] (max (z - 20) 0) (q + 5) _ _ _ HF1.out.i.own (accB _ hk (by omega))).mono ?_
        rintro e w2 ⟨v2, rfl, ho, hb⟩
        have hf := HF1.out.below hb
        have O := own_base ho (five_room HF1.out)
        obtain ⟨ao2, ca2, rfl⟩ := own_form ho
        have d3 := cell_of (j := 3) hf.i.box rfl
        have f3 := frozen_of (j := 3) hf.i.box
        have HF2 := Lib.hid (hf.putI O)
        have HB2 := Lib.hid (below_set (x := q + 1) (j := 3) (u := .slice ao2 (putG (accL [] (fG xI) k) ⟨[bC k], max (z - 20) 0⟩).length ca2) (HB1.out.trans (hb.mono (by have := five_room HF1.out; omega))) (by omega))
        clear c3 ho hb hf O
        have c3 := cell_of (j := 3) HF2.out.b.box rfl
        go_wp2_with fail
        clear d3 f3
        refine (put_at [bC k] (z + 50) (q + 5) _ _ _ HF2.out.b.own (accB _ hk (by omega))).mono ?_
        rintro e w3 ⟨v3, rfl, ho, hb⟩
        have hf := HF2.out.below hb
        have O := own_base ho (five_room HF2.out)
        obtain ⟨ao3, ca3, rfl⟩ := own_form ho
        have d3 := cell_of (j := 3) hf.b.box rfl
        have f3 := frozen_of (j := 3) hf.b.box
        have HF3 := Lib.hid (hf.putB O)
        have HB3 := Lib.hid (below_set (x := q + 2) (j := 3) (u := .slice ao3 (putG (accL [] (fG xB) k) ⟨[bC k], z + 50⟩).length ca3) (HB2.out.trans (hb.mono (by have := five_room HF2.out; omega))) (by omega))
        clear c3 ho hb hf O
        have c3 := cell_of (j := 3) HF3.out.m.box rfl
        go_wp2_with fail
        clear d3 f3
        refine (put_at [bC k] (600) (q + 5) _ _ _ HF3.out.m.own (accB _ hk (by omega))).mono ?_
        rintro e w4 ⟨v4, rfl, ho, hb⟩
        have hf := HF3.out.below hb
        have O := own_base ho (five_room HF3.out)
        obtain ⟨ao4, ca4, rfl⟩ := own_form ho
        have d3 := cell_of (j := 3) hf.m.box rfl
        have f3 := frozen_of (j := 3) hf.m.box
        have HF4 := Lib.hid (hf.putM O)
        have HB4 := Lib.hid (below_set (x := q + 3) (j := 3) (u := .slice ao4 (putG (accL [] (fG xM) k) ⟨[bC k], 600⟩).length ca4) (HB3.out.trans (hb.mono (by have := five_room HF3.out; omega))) (by omega))
        clear c3 ho hb hf O
        go_wp2_with fail
        go_roundw
        case rel => exact ⟨k + 1, _, _, _, _, by omega, by go_num, by rw [← HZ.out] at HF4; exact HF4, HB4⟩
        case measure => simp only [intOf]; omega
    · obtain rfl : k = 94 := by omega
      rw [show (((94 : Nat) : Int) + 33) = 127 from rfl]
      have hz1 : ¬ (127 : Int) ≤ 126 := by omega
      have hlr : (accL [] (fG xR) 94).length = 94 := by rw [accL_len]; rfl
      have hlb : (accL [] (fG xB) 94).length = 94 := by rw [accL_len]; rfl
      obtain ⟨LR, hLR⟩ : ∃ L, accL [] (fG xR) 94 = L := ⟨_, rfl⟩
      obtain ⟨LI, hLI⟩ : ∃ L, accL [] (fG xI) 94 = L := ⟨_, rfl⟩
      obtain ⟨LB, hLB⟩ : ∃ L, accL [] (fG xB) 94 = L := ⟨_, rfl⟩
      obtain ⟨LM, hLM⟩ : ∃ L, accL [] (fG xM) 94 = L := ⟨_, rfl⟩
      rw [hLR] at hf hlr
      rw [hLI] at hf
      rw [hLB] at hf hlb
      rw [hLM] at hf
      have HLR : Hid (accL LR (fJ 550) 3 = GR) := by show _ = _; rw [← hLR]; exact eq_R
      have HLI : Hid (LI = GI) := by show _ = _; rw [← hLI]; exact eq_I
      have HLB : Hid (accL LB (fJ 600) 3 = GB) := by show _ = _; rw [← hLB]; exact eq_B
      have HLM : Hid (LM = GM) := by show _ = _; rw [← hLM]; exact eq_M
      clear hLR hLI hLB hLM hk hlt
      have hro := five_room hf.out
      go_upto_block 2 with fail
      generalize hwj : wr.alloc _ = wj
      have bj : Below wr.heap.size wr wj := by rw [← hwj]; exact (Below.refl _ _).alloc (Nat.le_refl _) _
      have hj : JBlk wr.heap.size wj := by rw [← hwj]; exact heap_alloc_new wr _
      have HFJ := Lib.hid (hf.out.below bj)
      have HBJ := Lib.hid (hbl.out.trans (bj.mono (by omega)))
      obtain ⟨J, hJ⟩ : ∃ J, wr.heap.size = J := ⟨_, rfl⟩
      rw [hJ] at hj hro
      rw [hJ]
      have HJ := Lib.hid hj
      clear hwj bj hj hf hbl hJ hz1
      go_wp2_with fail
      go_loopw [10] (fun i wx => ∃ (k : Nat) (ur ub : Value), k ≤ 3 ∧ i = .int .i64 k ∧ Hid (Five q ur vi ub vm nilV (accL LR (fJ 550) k) LI (accL LB (fJ 600) k) LM [] nilV nilV nilV wx) ∧ Hid (JBlk J wx) ∧ Hid (Below q W wx)) (fun i _ => 3 - (intOf i).toNat)
      case atStart => exact ⟨0, vr, vb, by omega, rfl, HFJ, HJ, HBJ⟩
      case round =>
        clear HFJ HBJ HJ
        obtain ⟨k, ur, ub, hk, rfl, hf, hjb, hbl⟩ := hrel
        by_cases hlt : k < 3
        · have hz3 : (k : Int) < 3 := by omega
          have hz0 : (0 : Int) ≤ k := by omega
          obtain ⟨nm, hnm⟩ : ∃ nm, jN[k]! = nm := ⟨_, rfl⟩
          have HNM : Hid (fJ 550 k = ⟨nm, 550⟩) := by show _ = _; rw [← hnm]; rfl
          have hb0 : Below wr.heap.size wr wr.drew := (Below.refl _ _).drew
          have HFc := hf
          have HFd := Lib.hid (hf.out.below hb0)
          have HP : Hid (Calls Try.prog 37 #[ur, .agg #[.string (mk8 nm), .int .i64 550]] wr.drew (PutP (accL LR (fJ 550) k) (fJ 550 k) wr.drew)) := by
            have := put_at jN[k]! 550 (q + 5) ur _ _ HFd.out.r.own (by rw [accL_len]; omega)
            rw [hnm] at this
            rw [HNM.out]
            exact this
          have cJd : wr.drew.cell? ⟨J, k, none⟩ = some (.string (mk8 nm)) := by
            rw [← hnm]
            obtain rfl | rfl | rfl : k = 0 ∨ k = 1 ∨ k = 2 := by omega
            all_goals exact cell_of hjb.out rfl
          have c3 : wr.drew.cell? ⟨q, 3, none⟩ = some ur := cell_of (j := 3) HFd.out.r.box rfl
          have HJC : Hid (∀ wz, JBlk J wz → wz.cell? ⟨J, k, none⟩ = some (.string (mk8 nm))) := fun wz hz => by
            rw [← hnm]
            obtain rfl | rfl | rfl : k = 0 ∨ k = 1 ∨ k = 2 := by omega
            all_goals exact cell_of hz rfl
          clear hnm
          go_upto_region 14 with fail
          refine wp_region_held_drew (S := fun w' => w'.cell? ⟨J, k, none⟩ = some (.string (mk8 nm))) (by kernel_rfl) ?_ (fun hHeld => ?_)
          · exact cJd
          refine' wpAnyH_take (i := 0) (oi := _) (v := _) ?hi11 (by kernel_rfl) (by kernel_rfl) (by kernel_rfl) ?hQ11 (Or.inl ⟨?hw11, ?hy11⟩) hHeld ?rest11
          case hi11 => simp only [List.getElem?_toArray, List.getElem?_cons_zero]; rfl
          case hQ11 => exact fun _ _ _ h => h
          case hw11 => rfl
          case hy11 =>
            intro w hSw
            try dsimp only at hSw
            go_simp
            all_goals with_reducible rfl
          try simp only [Act.put, List.setIfInBounds_toArray, List.set_cons_zero, List.set_cons_succ]
          refine' wpAnyH_take (i := 2) (oi := _) (v := _) ?hi12 (by kernel_rfl) (by kernel_rfl) (by kernel_rfl) ?hQ12 (Or.inl ⟨?hw12, ?hy12⟩) hHeld ?rest12
          case hi12 => simp only [List.getElem?_toArray, List.getElem?_cons_succ, List.getElem?_cons_zero]; rfl
          case hQ12 => exact fun _ _ _ h => h
          case hw12 => rfl
          case hy12 =>
            intro w hSw
            try dsimp only at hSw
            go_simp
            all_goals with_reducible rfl
          try simp only [Act.put, List.setIfInBounds_toArray, List.set_cons_zero, List.set_cons_succ]
          refine' wpAnyH_take (i := 3) (oi := _) (v := _) ?hi13 (by kernel_rfl) (by kernel_rfl) (by kernel_rfl) ?hQ13 (Or.inl ⟨?hw13, ?hy13⟩) hHeld ?rest13
          case hi13 => simp only [List.getElem?_toArray, List.getElem?_cons_succ, List.getElem?_cons_zero]; rfl
          case hQ13 => exact fun _ _ _ h => h
          case hw13 => rfl
          case hy13 =>
            intro w hSw
            try dsimp only at hSw
            go_simp
            all_goals with_reducible rfl
          try simp only [Act.put, List.setIfInBounds_toArray, List.set_cons_zero, List.set_cons_succ]
          refine' wpAnyH_take (i := 4) (oi := _) (v := _) ?hi14 (by kernel_rfl) (by kernel_rfl) (by kernel_rfl) ?hQ14 (Or.inl ⟨?hw14, ?hy14⟩) hHeld ?rest14
          case hi14 => simp only [List.getElem?_toArray, List.getElem?_cons_succ, List.getElem?_cons_zero]; rfl
          case hQ14 => exact fun _ _ _ h => h
          case hw14 => rfl
          case hy14 =>
            intro w hSw
            try dsimp only at hSw
            go_simp
            all_goals with_reducible rfl
          try simp only [Act.put, List.setIfInBounds_toArray, List.set_cons_zero, List.set_cons_succ]
          refine' wpAnyH_take (i := 5) (oi := _) (v := _) ?hi15 (by kernel_rfl) (by kernel_rfl) (by kernel_rfl) ?hQ15 (Or.inl ⟨?hw15, ?hy15⟩) hHeld ?rest15
          case hi15 => simp only [List.getElem?_toArray, List.getElem?_cons_succ, List.getElem?_cons_zero]; rfl
          case hQ15 => exact fun _ _ _ h => h
          case hw15 => rfl
          case hy15 =>
            intro w hSw
            try dsimp only at hSw
            go_simp
            all_goals with_reducible rfl
          try simp only [Act.put, List.setIfInBounds_toArray, List.set_cons_zero, List.set_cons_succ]
          refine' wpAnyH_take (i := 6) (oi := _) (v := _) ?hi16 (by kernel_rfl) (by kernel_rfl) (by kernel_rfl) ?hQ16 (Or.inl ⟨?hw16, ?hy16⟩) hHeld ?rest16
          case hi16 => simp only [List.getElem?_toArray, List.getElem?_cons_succ, List.getElem?_cons_zero]; rfl
          case hQ16 => exact fun _ _ _ h => h
          case hw16 => rfl
          case hy16 =>
            intro w hSw
            try dsimp only at hSw
            go_simp
            all_goals with_reducible rfl
          try simp only [Act.put, List.setIfInBounds_toArray, List.set_cons_zero, List.set_cons_succ]
          refine wpAnyH_ready (rs := [1]) (by kernel_rfl) (by simp) ?_
          refine' AllReadyH.cons (o := _) ?ha20 (fun K hK => ?sa20) ?ma20
          case ha20 => simp only [List.getElem?_toArray, List.getElem?_cons_succ, List.getElem?_cons_zero]; rfl
          case ma20 => exact AllReadyH.nil
          case sa20 =>
            go_simp
            refine hK.out _ _ ?_ (fun hHeld => ?_)
            · exact hHeld
            clear hK K
            try simp only [Act.put, List.setIfInBounds_toArray, List.set_cons_zero, List.set_cons_succ]
            refine wpAnyH_ready (rs := [7]) (by kernel_rfl) (by simp) ?_
            refine' AllReadyH.cons (o := _) ?ha19 (fun K hK => ?sa19) ?ma19
            case ha19 => simp only [List.getElem?_toArray, List.getElem?_cons_succ, List.getElem?_cons_zero]; rfl
            case ma19 => exact AllReadyH.nil
            case sa19 =>
              go_simp
              go_at_call 37
              refine HP.out.mono ?_
              rintro e wn ⟨v', rfl, ho, hb⟩
              have hbx := hb0.trans (hb.mono hb0.size)
              have HFx := Lib.hid (HFc.out.below hbx)
              have HO := Lib.hid (own_base ho (five_room HFd.out))
              obtain ⟨ao, ca, rfl⟩ := own_form ho
              have d3 := cell_of (j := 3) HFx.out.r.box rfl
              have f3 := frozen_of (j := 3) HFx.out.r.box
              have HBx := Lib.hid hbx
              clear ho hb hbx
              go_wp2_with fail
              refine hK.out _ _ ?_ (fun hHeld => ?_)
              · exact HJC.out _ (jblk_below hjb.out HBx.out)
              clear hK K
              try simp only [Act.put, List.setIfInBounds_toArray, List.set_cons_zero, List.set_cons_succ]
              refine' wpAnyH_take (i := 8) (oi := _) (v := _) ?hi18 (by kernel_rfl) (by kernel_rfl) (by kernel_rfl) ?hQ18 (Or.inl ⟨?hw18, ?hy18⟩) hHeld ?rest18
              case hi18 => simp only [List.getElem?_toArray, List.getElem?_cons_succ, List.getElem?_cons_zero]; rfl
              case hQ18 => exact fun _ _ _ h => h
              case hw18 => rfl
              case hy18 =>
                intro w hSw
                try dsimp only at hSw
                go_simp
                all_goals with_reducible rfl
              try simp only [Act.put, List.setIfInBounds_toArray, List.set_cons_zero, List.set_cons_succ]
              refine wpAnyH_ready (rs := [9]) (by kernel_rfl) (by simp) ?_
              refine' AllReadyH.cons (o := _) ?ha17 (fun K hK => ?sa17) ?ma17
              case ha17 => simp only [List.getElem?_toArray, List.getElem?_cons_succ, List.getElem?_cons_zero]; rfl
              case ma17 => exact AllReadyH.nil
              case sa17 =>
                go_simp
                refine hK.out _ _ ?_ (fun hHeld => ?_)
                · exact HJC.out _ (jblk_set (jblk_below hjb.out HBx.out) (by omega))
                clear hK K
                try simp only [Act.put, List.setIfInBounds_toArray, List.set_cons_zero, List.set_cons_succ]
                refine wpAnyH_done (by kernel_rfl) ?_ _
                clear hHeld
                have hf' := Lib.hid (HFx.out.putR HO.out)
                have hjb' := Lib.hid (jblk_set (x := q) (j := 3) (u := .slice ao (putG (accL LR (fJ 550) k) (fJ 550 k)).length ca) (jblk_below hjb.out HBx.out) (by omega))
                have hbl' := Lib.hid (below_set (x := q) (j := 3) (u := .slice ao (putG (accL LR (fJ 550) k) (fJ 550 k)).length ca) (hbl.out.trans (HBx.out.mono (by have := five_room hf.out; omega))) (by omega))
                clear hf hjb hbl HFc HFd HP HNM cJd c3 HJC HO HFx HBx d3 f3 hb0
                generalize hw6 : wn.setCell _ _ = w6 at hf' hjb' hbl' ⊢
                clear hw6
                
                obtain ⟨nm, hnm⟩ : ∃ nm, jN[k]! = nm := ⟨_, rfl⟩
                have HNM : Hid (fJ 600 k = ⟨nm, 600⟩) := by show _ = _; rw [← hnm]; rfl
                have hb0 : Below w6.heap.size w6 w6.drew := (Below.refl _ _).drew
                have HFc := hf'
                have HFd := Lib.hid (hf'.out.below hb0)
                have HP : Hid (Calls Try.prog 37 #[ub, .agg #[.string (mk8 nm), .int .i64 600]] w6.drew (PutP (accL LB (fJ 600) k) (fJ 600 k) w6.drew)) := by
                  have := put_at jN[k]! 600 (q + 5) ub _ _ HFd.out.b.own (by rw [accL_len]; omega)
                  rw [hnm] at this
                  rw [HNM.out]
                  exact this
                have cJd : w6.drew.cell? ⟨J, k, none⟩ = some (.string (mk8 nm)) := by
                  rw [← hnm]
                  obtain rfl | rfl | rfl : k = 0 ∨ k = 1 ∨ k = 2 := by omega
                  all_goals exact cell_of hjb'.out rfl
                have c3 : w6.drew.cell? ⟨q + 2, 3, none⟩ = some ub := cell_of (j := 3) HFd.out.b.box rfl
                have HJC : Hid (∀ wz, JBlk J wz → wz.cell? ⟨J, k, none⟩ = some (.string (mk8 nm))) := fun wz hz => by
                  rw [← hnm]
                  obtain rfl | rfl | rfl : k = 0 ∨ k = 1 ∨ k = 2 := by omega
                  all_goals exact cell_of hz rfl
                clear hnm
                go_upto_region 15 with fail
                refine wp_region_held_drew (S := fun w' => w'.cell? ⟨J, k, none⟩ = some (.string (mk8 nm))) (by kernel_rfl) ?_ (fun hHeld => ?_)
                · exact cJd
                refine' wpAnyH_take (i := 0) (oi := _) (v := _) ?hi1 (by kernel_rfl) (by kernel_rfl) (by kernel_rfl) ?hQ1 (Or.inl ⟨?hw1, ?hy1⟩) hHeld ?rest1
                case hi1 => simp only [List.getElem?_toArray, List.getElem?_cons_zero]; rfl
                case hQ1 => exact fun _ _ _ h => h
                case hw1 => rfl
                case hy1 =>
                  intro w hSw
                  try dsimp only at hSw
                  go_simp
                  all_goals with_reducible rfl
                try simp only [Act.put, List.setIfInBounds_toArray, List.set_cons_zero, List.set_cons_succ]
                refine' wpAnyH_take (i := 2) (oi := _) (v := _) ?hi2 (by kernel_rfl) (by kernel_rfl) (by kernel_rfl) ?hQ2 (Or.inl ⟨?hw2, ?hy2⟩) hHeld ?rest2
                case hi2 => simp only [List.getElem?_toArray, List.getElem?_cons_succ, List.getElem?_cons_zero]; rfl
                case hQ2 => exact fun _ _ _ h => h
                case hw2 => rfl
                case hy2 =>
                  intro w hSw
                  try dsimp only at hSw
                  go_simp
                  all_goals with_reducible rfl
                try simp only [Act.put, List.setIfInBounds_toArray, List.set_cons_zero, List.set_cons_succ]
                refine' wpAnyH_take (i := 3) (oi := _) (v := _) ?hi3 (by kernel_rfl) (by kernel_rfl) (by kernel_rfl) ?hQ3 (Or.inl ⟨?hw3, ?hy3⟩) hHeld ?rest3
                case hi3 => simp only [List.getElem?_toArray, List.getElem?_cons_succ, List.getElem?_cons_zero]; rfl
                case hQ3 => exact fun _ _ _ h => h
                case hw3 => rfl
                case hy3 =>
                  intro w hSw
                  try dsimp only at hSw
                  go_simp
                  all_goals with_reducible rfl
                try simp only [Act.put, List.setIfInBounds_toArray, List.set_cons_zero, List.set_cons_succ]
                refine' wpAnyH_take (i := 4) (oi := _) (v := _) ?hi4 (by kernel_rfl) (by kernel_rfl) (by kernel_rfl) ?hQ4 (Or.inl ⟨?hw4, ?hy4⟩) hHeld ?rest4
                case hi4 => simp only [List.getElem?_toArray, List.getElem?_cons_succ, List.getElem?_cons_zero]; rfl
                case hQ4 => exact fun _ _ _ h => h
                case hw4 => rfl
                case hy4 =>
                  intro w hSw
                  try dsimp only at hSw
                  go_simp
                  all_goals with_reducible rfl
                try simp only [Act.put, List.setIfInBounds_toArray, List.set_cons_zero, List.set_cons_succ]
                refine' wpAnyH_take (i := 5) (oi := _) (v := _) ?hi5 (by kernel_rfl) (by kernel_rfl) (by kernel_rfl) ?hQ5 (Or.inl ⟨?hw5, ?hy5⟩) hHeld ?rest5
                case hi5 => simp only [List.getElem?_toArray, List.getElem?_cons_succ, List.getElem?_cons_zero]; rfl
                case hQ5 => exact fun _ _ _ h => h
                case hw5 => rfl
                case hy5 =>
                  intro w hSw
                  try dsimp only at hSw
                  go_simp
                  all_goals with_reducible rfl
                try simp only [Act.put, List.setIfInBounds_toArray, List.set_cons_zero, List.set_cons_succ]
                refine' wpAnyH_take (i := 6) (oi := _) (v := _) ?hi6 (by kernel_rfl) (by kernel_rfl) (by kernel_rfl) ?hQ6 (Or.inl ⟨?hw6, ?hy6⟩) hHeld ?rest6
                case hi6 => simp only [List.getElem?_toArray, List.getElem?_cons_succ, List.getElem?_cons_zero]; rfl
                case hQ6 => exact fun _ _ _ h => h
                case hw6 => rfl
                case hy6 =>
                  intro w hSw
                  try dsimp only at hSw
                  go_simp
                  all_goals with_reducible rfl
                try simp only [Act.put, List.setIfInBounds_toArray, List.set_cons_zero, List.set_cons_succ]
                refine wpAnyH_ready (rs := [1]) (by kernel_rfl) (by simp) ?_
                refine' AllReadyH.cons (o := _) ?ha10 (fun K hK => ?sa10) ?ma10
                case ha10 => simp only [List.getElem?_toArray, List.getElem?_cons_succ, List.getElem?_cons_zero]; rfl
                case ma10 => exact AllReadyH.nil
                case sa10 =>
                  go_simp
                  refine hK.out _ _ ?_ (fun hHeld => ?_)
                  · exact hHeld
                  clear hK K
                  try simp only [Act.put, List.setIfInBounds_toArray, List.set_cons_zero, List.set_cons_succ]
                  refine wpAnyH_ready (rs := [7]) (by kernel_rfl) (by simp) ?_
                  refine' AllReadyH.cons (o := _) ?ha9 (fun K hK => ?sa9) ?ma9
                  case ha9 => simp only [List.getElem?_toArray, List.getElem?_cons_succ, List.getElem?_cons_zero]; rfl
                  case ma9 => exact AllReadyH.nil
                  case sa9 =>
                    go_simp
                    go_at_call 37
                    refine HP.out.mono ?_
                    rintro e wn ⟨v', rfl, ho, hb⟩
                    have hbx := hb0.trans (hb.mono hb0.size)
                    have HFx := Lib.hid (HFc.out.below hbx)
                    have HO := Lib.hid (own_base ho (five_room HFd.out))
                    obtain ⟨ao, ca, rfl⟩ := own_form ho
                    have d3 := cell_of (j := 3) HFx.out.b.box rfl
                    have f3 := frozen_of (j := 3) HFx.out.b.box
                    have HBx := Lib.hid hbx
                    clear ho hb hbx
                    go_wp2_with fail
                    refine hK.out _ _ ?_ (fun hHeld => ?_)
                    · exact HJC.out _ (jblk_below hjb'.out HBx.out)
                    clear hK K
                    try simp only [Act.put, List.setIfInBounds_toArray, List.set_cons_zero, List.set_cons_succ]
                    refine' wpAnyH_take (i := 8) (oi := _) (v := _) ?hi8 (by kernel_rfl) (by kernel_rfl) (by kernel_rfl) ?hQ8 (Or.inl ⟨?hw8, ?hy8⟩) hHeld ?rest8
                    case hi8 => simp only [List.getElem?_toArray, List.getElem?_cons_succ, List.getElem?_cons_zero]; rfl
                    case hQ8 => exact fun _ _ _ h => h
                    case hw8 => rfl
                    case hy8 =>
                      intro w hSw
                      try dsimp only at hSw
                      go_simp
                      all_goals with_reducible rfl
                    try simp only [Act.put, List.setIfInBounds_toArray, List.set_cons_zero, List.set_cons_succ]
                    refine wpAnyH_ready (rs := [9]) (by kernel_rfl) (by simp) ?_
                    refine' AllReadyH.cons (o := _) ?ha7 (fun K hK => ?sa7) ?ma7
                    case ha7 => simp only [List.getElem?_toArray, List.getElem?_cons_succ, List.getElem?_cons_zero]; rfl
                    case ma7 => exact AllReadyH.nil
                    case sa7 =>
                      go_simp
                      refine hK.out _ _ ?_ (fun hHeld => ?_)
                      · exact HJC.out _ (jblk_set (jblk_below hjb'.out HBx.out) (by omega))
                      clear hK K
                      try simp only [Act.put, List.setIfInBounds_toArray, List.set_cons_zero, List.set_cons_succ]
                      refine wpAnyH_done (by kernel_rfl) ?_ _
                      clear hHeld
                      have hf2 := Lib.hid (HFx.out.putB HO.out)
                      have hjb2 := Lib.hid (jblk_set (x := q + 2) (j := 3) (u := .slice ao (putG (accL LB (fJ 600) k) (fJ 600 k)).length ca) (jblk_below hjb'.out HBx.out) (by omega))
                      have hbl2 := Lib.hid (below_set (x := q + 2) (j := 3) (u := .slice ao (putG (accL LB (fJ 600) k) (fJ 600 k)).length ca) (hbl'.out.trans (HBx.out.mono (by have := five_room hf'.out; omega))) (by omega))
                      clear hf' hjb' hbl' HFc HFd HP HNM cJd c3 HJC HO HFx HBx d3 f3 hb0
                      go_wp2_with fail
                      go_roundw
                      case rel => exact ⟨k + 1, _, _, by omega, by go_num, hf2, hjb2, hbl2⟩
                      case measure => simp only [intOf]; omega
        · obtain rfl : k = 3 := by omega
          have hz3 : ¬ ((3 : Nat) : Int) < 3 := by omega
          rw [HLR.out, HLI.out, HLB.out, HLM.out] at hf
          clear HLR HLI HLB HLM hlr hlb hjb hlt hk
          have hro := five_room hf.out
          have c4 : ∀ o : Obj, (wr.alloc o).cell? ⟨q, 4, none⟩ = some (.slice none 0 0) := fun o => cell_of (j := 4) (hf.out.below ((Below.refl _ _).alloc (Nat.le_refl _) o)).r.box rfl
          have f4 : ∀ o : Obj, (wr.alloc o).frozen? ⟨q, 4, none⟩ = false := fun o => frozen_of (j := 4) (hf.out.below ((Below.refl _ _).alloc (Nat.le_refl _) o)).r.box
          go_upto_region 17 with fail
          clear c4 f4
          obtain ⟨g1, hg1⟩ : ∃ g, wr.heap.size = g := ⟨_, rfl⟩
          generalize hwa : wr.alloc _ = wa
          have bA : Below wr.heap.size wr wa := by rw [← hwa]; exact (Below.refl _ _).alloc (Nat.le_refl _) _
          have lA : RowK encLg 3 (some ⟨wr.heap.size, 0, none⟩) RL wa := by rw [← hwa]; exact rowK_block (enc := encLg) (k := 3) (fun _ => rfl) (heap_alloc_new wr _) rfl
          rw [hg1] at lA hro
          rw [hg1]
          generalize hwb : wa.setCell _ _ = wb
          have HF1 : Hid (Five q ur vi ub vm nilV GR GI GB GM [] (.slice (some ⟨g1, 0, none⟩) 3 3) nilV nilV wb) := by rw [← hwb]; exact (hf.out.below bA).setRl
          have HL1 : Hid (RowK encLg 3 (some ⟨g1, 0, none⟩) RL wb) := by rw [← hwb]; exact rowK_set lA (by decide) (by omega)
          have HB1 : Hid (Below q W wb) := by rw [← hwb]; exact below_set (hbl.out.trans (bA.mono (by omega))) (Nat.le_refl _)
          have HG1 : Hid (q + 5 ≤ g1) := hro
          clear hwa hwb bA lA hf hbl hg1 hro
          have hro := five_room HF1.out
          have c4 : ∀ o : Obj, (wb.alloc o).cell? ⟨q + 2, 4, none⟩ = some (.slice none 0 0) := fun o => cell_of (j := 4) (HF1.out.below ((Below.refl _ _).alloc (Nat.le_refl _) o)).b.box rfl
          have f4 : ∀ o : Obj, (wb.alloc o).frozen? ⟨q + 2, 4, none⟩ = false := fun o => frozen_of (j := 4) (HF1.out.below ((Below.refl _ _).alloc (Nat.le_refl _) o)).b.box
          go_upto_region 18 with fail
          clear c4 f4
          obtain ⟨g2, hg2⟩ : ∃ g, wb.heap.size = g := ⟨_, rfl⟩
          generalize hwa : wb.alloc _ = wa
          have bA : Below wb.heap.size wb wa := by rw [← hwa]; exact (Below.refl _ _).alloc (Nat.le_refl _) _
          have lA : RowK encLg 3 (some ⟨wb.heap.size, 0, none⟩) RL wa := by rw [← hwa]; exact rowK_block (enc := encLg) (k := 3) (fun _ => rfl) (heap_alloc_new wb _) rfl
          rw [hg2] at lA hro
          rw [hg2]
          generalize hwc : wa.setCell _ _ = wc
          have HF2 : Hid (Five q ur vi ub vm nilV GR GI GB GM [] (.slice (some ⟨g1, 0, none⟩) 3 3) nilV (.slice (some ⟨g2, 0, none⟩) 3 3) wc) := by rw [← hwc]; exact (HF1.out.below bA).setBl
          have HL2 : Hid (RowK encLg 3 (some ⟨g2, 0, none⟩) RL wc) := by rw [← hwc]; exact rowK_set lA (by decide) (by omega)
          have HL1' : Hid (RowK encLg 3 (some ⟨g1, 0, none⟩) RL wc) := by rw [← hwc]; exact rowK_set (HL1.out.below bA) (by decide) (by have := HG1.out; omega)
          have HB2 : Hid (Below q W wc) := by rw [← hwc]; exact below_set (HB1.out.trans (bA.mono (by omega))) (by omega)
          have HG2 : Hid (q + 5 ≤ g2) := hro
          clear hwa hwc bA lA HF1 HL1 HB1 hg2 hro
          have hro := five_room HF2.out
          have c5 : ∀ o : Obj, (wc.alloc o).cell? ⟨q, 5, none⟩ = some (.slice none 0 0) := fun o => cell_of (j := 5) (HF2.out.below ((Below.refl _ _).alloc (Nat.le_refl _) o)).r.box rfl
          have f5 : ∀ o : Obj, (wc.alloc o).frozen? ⟨q, 5, none⟩ = false := fun o => frozen_of (j := 5) (HF2.out.below ((Below.refl _ _).alloc (Nat.le_refl _) o)).r.box
          go_upto_region 19 with fail
          clear c5 f5
          obtain ⟨g3, hg3⟩ : ∃ g, wc.heap.size = g := ⟨_, rfl⟩
          generalize hwa : wc.alloc _ = wa
          have bA : Below wc.heap.size wc wa := by rw [← hwa]; exact (Below.refl _ _).alloc (Nat.le_refl _) _
          have lA : RowK encKn 3 (some ⟨wc.heap.size, 0, none⟩) RK wa := by rw [← hwa]; exact rowK_block (enc := encKn) (k := 3) (fun _ => rfl) (heap_alloc_new wc _) rfl
          rw [hg3] at lA hro
          rw [hg3]
          generalize hwd : wa.setCell _ _ = wd
          have HF3 : Hid (Five q ur vi ub vm nilV GR GI GB GM [] (.slice (some ⟨g1, 0, none⟩) 3 3) (.slice (some ⟨g3, 0, none⟩) 5 5) (.slice (some ⟨g2, 0, none⟩) 3 3) wd) := by rw [← hwd]; exact (HF2.out.below bA).setRk
          have HL3 : Hid (RowK encKn 3 (some ⟨g3, 0, none⟩) RK wd) := by rw [← hwd]; exact rowK_set lA (by decide) (by omega)
          have HL1 : Hid (RowK encLg 3 (some ⟨g1, 0, none⟩) RL wd) := by rw [← hwd]; exact rowK_set (HL1'.out.below bA) (by decide) (by have := HG1.out; omega)
          have HL2' : Hid (RowK encLg 3 (some ⟨g2, 0, none⟩) RL wd) := by rw [← hwd]; exact rowK_set (HL2.out.below bA) (by decide) (by have := HG2.out; omega)
          have HB3 : Hid (Below q W wd) := by rw [← hwd]; exact below_set (HB2.out.trans (bA.mono (by omega))) (Nat.le_refl _)
          have HG3 : Hid (q + 5 ≤ g3) := hro
          clear hwa hwd bA lA HF2 HL2 HL1' HB2 hg3 hro
          go_wp2_with fail
          refine (rsymbols_any wd).mono ?_
          rintro e we ⟨rfl, hsl, hsz, hbs⟩
          have HF4 := Lib.hid (HF3.out.below hbs)
          have HB4 := Lib.hid (HB3.out.trans (hbs.mono (by have := five_room HF3.out; omega)))
          have HR4 : Hid (Rws q g1 g2 g3 wd.heap.size we) := ⟨HL1.out.below hbs, HL2'.out.below hbs, HL3.out.below hbs, hsl, HG1.out, HG2.out, HG3.out, five_room HF3.out⟩
          obtain ⟨g4, hg4⟩ : ∃ g, wd.heap.size = g := ⟨_, rfl⟩
          rw [hg4] at HR4
          rw [hg4]
          clear hsl hsz hbs hg4 HF3 HB3 HL1 HL2' HL3
          go_wp2_with fail
          go_loopw [12] (fun i wx => ∃ (k : Nat) (us : Value), k ≤ 35 ∧ i = .int .i64 k ∧ Hid (Five q ur vi ub vm us GR GI GB GM (accL [] fS k) (.slice (some ⟨g1, 0, none⟩) 3 3) (.slice (some ⟨g3, 0, none⟩) 5 5) (.slice (some ⟨g2, 0, none⟩) 3 3) wx) ∧ Hid (Rws q g1 g2 g3 g4 wx) ∧ Hid (Below q W wx)) (fun i _ => 35 - (intOf i).toNat)
          case atStart => exact ⟨0, nilV, by omega, rfl, HF4, HR4, HB4⟩
          case round =>
            clear HF4 HR4 HB4
            obtain ⟨k, us, hk, rfl, hf, hrw, hbl⟩ := hrel
            by_cases hlt : k < 35
            · have hz3 : (k : Int) < 35 := by omega
              have hz0 : (0 : Int) ≤ k := by omega
              obtain ⟨nm, wz, hfs⟩ : ∃ nm wz, fS k = ⟨nm, wz⟩ := ⟨_, _, rfl⟩
              have hSL : SL[k]! = ⟨nm, wz⟩ := hfs
              have HNM := Lib.hid hfs
              have hb0 : Below wr.heap.size wr wr.drew := (Below.refl _ _).drew
              have HFc := hf
              have HFd := Lib.hid (hf.out.below hb0)
              have HP : Hid (Calls Try.prog 37 #[us, .agg #[.string (mk8 nm), .int .i64 wz]] wr.drew (PutP (accL [] fS k) (fS k) wr.drew)) := by
                rw [HNM.out]
                exact put_at nm wz (q + 5) us _ _ HFd.out.s.own (by rw [accL_len]; simp; omega)
              have HJC : Hid (∀ wz', Rws q g1 g2 g3 g4 wz' → wz'.cell? ⟨g4, k * 2, none⟩ = some (.string (mk8 nm)) ∧ wz'.cell? ⟨g4, k * 2 + 1, none⟩ = some (.int .i64 wz)) := fun wz' hz => by
                have h := rowK_flat encG_len (by decide) hz.l4
                have e0 := h (k * 2 + 0) (.string (mk8 nm)) (by rw [flat_get encG_len SL k 0 hlt (by decide), hSL]; rfl)
                have e1 := h (k * 2 + 1) (.int .i64 wz) (by rw [flat_get encG_len SL k 1 hlt (by decide), hSL]; rfl)
                rw [Nat.zero_add] at e0 e1
                exact ⟨e0, e1⟩
              have cJd := HJC.out _ (hrw.out.below hb0)
              have c3 : wr.drew.cell? ⟨q + 4, 3, none⟩ = some us := cell_of (j := 3) HFd.out.s.box rfl
              clear hSL hfs
              go_upto_region 23 with fail
              refine wp_region_held_drew (S := fun w' => w'.cell? ⟨g4, k * 2, none⟩ = some (.string (mk8 nm)) ∧ w'.cell? ⟨g4, k * 2 + 1, none⟩ = some (.int .i64 wz)) (by kernel_rfl) ?_ (fun hHeld => ?_)
              · exact cJd
              refine' wpAnyH_take (i := 0) (oi := _) (v := _) ?hi21 (by kernel_rfl) (by kernel_rfl) (by kernel_rfl) ?hQ21 (Or.inl ⟨?hw21, ?hy21⟩) hHeld ?rest21
              case hi21 => simp only [List.getElem?_toArray, List.getElem?_cons_zero]; rfl
              case hQ21 => exact fun _ _ _ h => h
              case hw21 => rfl
              case hy21 =>
                intro w hSw
                try dsimp only at hSw
                go_simp
                all_goals with_reducible rfl
              try simp only [Act.put, List.setIfInBounds_toArray, List.set_cons_zero, List.set_cons_succ]
              refine' wpAnyH_take (i := 2) (oi := _) (v := _) ?hi22 (by kernel_rfl) (by kernel_rfl) (by kernel_rfl) ?hQ22 (Or.inl ⟨?hw22, ?hy22⟩) hHeld ?rest22
              case hi22 => simp only [List.getElem?_toArray, List.getElem?_cons_succ, List.getElem?_cons_zero]; rfl
              case hQ22 => exact fun _ _ _ h => h
              case hw22 => rfl
              case hy22 =>
                intro w hSw
                try dsimp only at hSw
                go_simp
                all_goals with_reducible rfl
              try simp only [Act.put, List.setIfInBounds_toArray, List.set_cons_zero, List.set_cons_succ]
              refine' wpAnyH_take (i := 3) (oi := _) (v := _) ?hi23 (by kernel_rfl) (by kernel_rfl) (by kernel_rfl) ?hQ23 (Or.inl ⟨?hw23, ?hy23⟩) hHeld ?rest23
              case hi23 => simp only [List.getElem?_toArray, List.getElem?_cons_succ, List.getElem?_cons_zero]; rfl
              case hQ23 => exact fun _ _ _ h => h
              case hw23 => rfl
              case hy23 =>
                intro w hSw
                try dsimp only at hSw
                go_simp
                all_goals with_reducible rfl
              try simp only [Act.put, List.setIfInBounds_toArray, List.set_cons_zero, List.set_cons_succ]
              refine' wpAnyH_take (i := 4) (oi := _) (v := _) ?hi24 (by kernel_rfl) (by kernel_rfl) (by kernel_rfl) ?hQ24 (Or.inl ⟨?hw24, ?hy24⟩) hHeld ?rest24
              case hi24 => simp only [List.getElem?_toArray, List.getElem?_cons_succ, List.getElem?_cons_zero]; rfl
              case hQ24 => exact fun _ _ _ h => h
              case hw24 => rfl
              case hy24 =>
                intro w hSw
                try dsimp only at hSw
                go_simp
                all_goals with_reducible rfl
              try simp only [Act.put, List.setIfInBounds_toArray, List.set_cons_zero, List.set_cons_succ]
              refine' wpAnyH_take (i := 5) (oi := _) (v := _) ?hi25 (by kernel_rfl) (by kernel_rfl) (by kernel_rfl) ?hQ25 (Or.inl ⟨?hw25, ?hy25⟩) hHeld ?rest25
              case hi25 => simp only [List.getElem?_toArray, List.getElem?_cons_succ, List.getElem?_cons_zero]; rfl
              case hQ25 => exact fun _ _ _ h => h
              case hw25 => rfl
              case hy25 =>
                intro w hSw
                try dsimp only at hSw
                go_simp
                all_goals with_reducible rfl
              try simp only [Act.put, List.setIfInBounds_toArray, List.set_cons_zero, List.set_cons_succ]
              refine wpAnyH_ready (rs := [1]) (by kernel_rfl) (by simp) ?_
              refine' AllReadyH.cons (o := _) ?ha29 (fun K hK => ?sa29) ?ma29
              case ha29 => simp only [List.getElem?_toArray, List.getElem?_cons_succ, List.getElem?_cons_zero]; rfl
              case ma29 => exact AllReadyH.nil
              case sa29 =>
                go_simp
                refine hK.out _ _ ?_ (fun hHeld => ?_)
                · exact hHeld
                clear hK K
                try simp only [Act.put, List.setIfInBounds_toArray, List.set_cons_zero, List.set_cons_succ]
                refine wpAnyH_ready (rs := [6]) (by kernel_rfl) (by simp) ?_
                refine' AllReadyH.cons (o := _) ?ha28 (fun K hK => ?sa28) ?ma28
                case ha28 => simp only [List.getElem?_toArray, List.getElem?_cons_succ, List.getElem?_cons_zero]; rfl
                case ma28 => exact AllReadyH.nil
                case sa28 =>
                  go_simp
                  go_at_call 37
                  refine HP.out.mono ?_
                  rintro e wn ⟨v', rfl, ho, hb⟩
                  have hbx := hb0.trans (hb.mono hb0.size)
                  have HFx := Lib.hid (HFc.out.below hbx)
                  have HO := Lib.hid (own_base ho (five_room HFd.out))
                  obtain ⟨ao, ca, rfl⟩ := own_form ho
                  have d3 := cell_of (j := 3) HFx.out.s.box rfl
                  have f3 := frozen_of (j := 3) HFx.out.s.box
                  have HBx := Lib.hid hbx
                  clear ho hb hbx
                  go_wp2_with fail
                  refine hK.out _ _ ?_ (fun hHeld => ?_)
                  · exact HJC.out _ (hrw.out.below HBx.out)
                  clear hK K
                  try simp only [Act.put, List.setIfInBounds_toArray, List.set_cons_zero, List.set_cons_succ]
                  refine' wpAnyH_take (i := 7) (oi := _) (v := _) ?hi27 (by kernel_rfl) (by kernel_rfl) (by kernel_rfl) ?hQ27 (Or.inl ⟨?hw27, ?hy27⟩) hHeld ?rest27
                  case hi27 => simp only [List.getElem?_toArray, List.getElem?_cons_succ, List.getElem?_cons_zero]; rfl
                  case hQ27 => exact fun _ _ _ h => h
                  case hw27 => rfl
                  case hy27 =>
                    intro w hSw
                    try dsimp only at hSw
                    go_simp
                    all_goals with_reducible rfl
                  try simp only [Act.put, List.setIfInBounds_toArray, List.set_cons_zero, List.set_cons_succ]
                  refine wpAnyH_ready (rs := [8]) (by kernel_rfl) (by simp) ?_
                  refine' AllReadyH.cons (o := _) ?ha26 (fun K hK => ?sa26) ?ma26
                  case ha26 => simp only [List.getElem?_toArray, List.getElem?_cons_succ, List.getElem?_cons_zero]; rfl
                  case ma26 => exact AllReadyH.nil
                  case sa26 =>
                    go_simp
                    refine hK.out _ _ ?_ (fun hHeld => ?_)
                    · exact HJC.out _ (hrw.out.below HBx.out).set
                    clear hK K
                    try simp only [Act.put, List.setIfInBounds_toArray, List.set_cons_zero, List.set_cons_succ]
                    refine wpAnyH_done (by kernel_rfl) ?_ _
                    clear hHeld
                    have hf' := Lib.hid (HFx.out.putS HO.out)
                    have hrw' := Lib.hid ((hrw.out.below HBx.out).set (j := 3) (u := .slice ao (putG (accL [] fS k) (fS k)).length ca))
                    have hbl' := Lib.hid (below_set (x := q + 4) (j := 3) (u := .slice ao (putG (accL [] fS k) (fS k)).length ca) (hbl.out.trans (HBx.out.mono (by have := five_room hf.out; omega))) (by omega))
                    clear hf hrw hbl HFc HFd HP HNM cJd c3 HJC HO HFx HBx d3 f3 hb0
                    go_wp2_with fail
                    go_roundw
                    case rel => exact ⟨k + 1, _, by omega, by go_num, hf', hrw', hbl'⟩
                    case measure => simp only [intOf]; omega
            · obtain rfl : k = 35 := by omega
              have hz3 : ¬ ((35 : Nat) : Int) < 35 := by omega
              rw [eq_S] at hf
              obtain ⟨ar, cr, e, rr⟩ := own_row encG_len (by decide) hf.out.r.own
              subst e
              obtain ⟨ai, ci, e, ri⟩ := own_row encG_len (by decide) hf.out.i.own
              subst e
              obtain ⟨ab, cb, e, rb⟩ := own_row encG_len (by decide) hf.out.b.own
              subst e
              obtain ⟨am, cm, e, rm⟩ := own_row encG_len (by decide) hf.out.m.own
              subst e
              obtain ⟨as', cs, e, rs⟩ := own_row encG_len (by decide) hf.out.s.own
              subst e
              have RR := Lib.hid rr
              have RI := Lib.hid ri
              have RB := Lib.hid rb
              have RM := Lib.hid rm
              have RS := Lib.hid rs
              obtain ⟨nR, hnR⟩ : ∃ n, GR.length = n := ⟨_, rfl⟩
              obtain ⟨nI, hnI⟩ : ∃ n, GI.length = n := ⟨_, rfl⟩
              obtain ⟨nB, hnB⟩ : ∃ n, GB.length = n := ⟨_, rfl⟩
              obtain ⟨nM, hnM⟩ : ∃ n, GM.length = n := ⟨_, rfl⟩
              obtain ⟨nS, hnS⟩ : ∃ n, GS.length = n := ⟨_, rfl⟩
              rw [hnR, hnI, hnB, hnM, hnS] at hf
              have HNS : Hid (GR.length = nR ∧ GI.length = nI ∧ GB.length = nB ∧ GM.length = nM ∧ GS.length = nS) := ⟨hnR, hnI, hnB, hnM, hnS⟩
              clear rr ri rb rm rs hnR hnI hnB hnM hnS
              have r0 := cell_of (j := 0) hf.out.r.box rfl
              have r1 := cell_of (j := 1) hf.out.r.box rfl
              have r2 := cell_of (j := 2) hf.out.r.box rfl
              have r3 := cell_of (j := 3) hf.out.r.box rfl
              have r4 := cell_of (j := 4) hf.out.r.box rfl
              have r5 := cell_of (j := 5) hf.out.r.box rfl
              have i0 := cell_of (j := 0) hf.out.i.box rfl
              have i1 := cell_of (j := 1) hf.out.i.box rfl
              have i2 := cell_of (j := 2) hf.out.i.box rfl
              have i3 := cell_of (j := 3) hf.out.i.box rfl
              have i4 := cell_of (j := 4) hf.out.i.box rfl
              have i5 := cell_of (j := 5) hf.out.i.box rfl
              have b0 := cell_of (j := 0) hf.out.b.box rfl
              have b1 := cell_of (j := 1) hf.out.b.box rfl
              have b2 := cell_of (j := 2) hf.out.b.box rfl
              have b3 := cell_of (j := 3) hf.out.b.box rfl
              have b4 := cell_of (j := 4) hf.out.b.box rfl
              have b5 := cell_of (j := 5) hf.out.b.box rfl
              have m0 := cell_of (j := 0) hf.out.m.box rfl
              have m1 := cell_of (j := 1) hf.out.m.box rfl
              have m2 := cell_of (j := 2) hf.out.m.box rfl
              have m3 := cell_of (j := 3) hf.out.m.box rfl
              have m4 := cell_of (j := 4) hf.out.m.box rfl
              have m5 := cell_of (j := 5) hf.out.m.box rfl
              have s0 := cell_of (j := 0) hf.out.s.box rfl
              have s1 := cell_of (j := 1) hf.out.s.box rfl
              have s2 := cell_of (j := 2) hf.out.s.box rfl
              have s3 := cell_of (j := 3) hf.out.s.box rfl
              have s4 := cell_of (j := 4) hf.out.s.box rfl
              have s5 := cell_of (j := 5) hf.out.s.box rfl
              have HW := Lib.hid (hbl.out)
              have HRW := Lib.hid hrw.out
              have HN := Lib.hid (five_room hf.out)
              clear hf hrw hbl
              go_wp2_with fail
              go_ret
              obtain ⟨e1, e2, e3, e4, e5⟩ := HNS.out
              have hb := fun o => (Below.refl wr.heap.size wr).alloc (Nat.le_refl _) o
              refine ⟨wr.heap.size, [⟨FR, ar, some ⟨g1, 0, none⟩, some ⟨g3, 0, none⟩, cr, 3, 5⟩, ⟨FI, ai, none, none, ci, 0, 0⟩, ⟨FB, ab, some ⟨g2, 0, none⟩, none, cb, 3, 0⟩, ⟨FM, am, none, none, cm, 0, 0⟩, ⟨FS, as', none, none, cs, 0, 0⟩], rfl, rfl, ?_, ?_, ?_⟩
              · refine rowK_block (enc := encF) (k := 6) (fun _ => rfl) (heap_alloc_new wr _) ?_
                rw [← e1, ← e2, ← e3, ← e4, ← e5]
                rfl
              · intro x hx
                rcases List.mem_cons.1 hx with rfl | hx
                · exact FontV.below ⟨RR.out, HRW.out.l1, HRW.out.l3⟩ (hb _)
                rcases List.mem_cons.1 hx with rfl | hx
                · exact FontV.below ⟨RI.out, RowK.nil, RowK.nil⟩ (hb _)
                rcases List.mem_cons.1 hx with rfl | hx
                · exact FontV.below ⟨RB.out, HRW.out.l2, RowK.nil⟩ (hb _)
                rcases List.mem_cons.1 hx with rfl | hx
                · exact FontV.below ⟨RM.out, RowK.nil, RowK.nil⟩ (hb _)
                rcases List.mem_cons.1 hx with rfl | hx
                · exact FontV.below ⟨RS.out, RowK.nil, RowK.nil⟩ (hb _)
                · cases hx
              · rw [HQ.out]
                exact HW.out.trans ((hb _).mono (by have := HN.out; omega))
end Go.Proofs.Ytboophfcakdlcaa
