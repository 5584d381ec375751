/- Names join. -/
import Derived.Test.YtboophfcakdlcaaGlRow
import Derived.Test.YtboophfcakdlcaaGlJoin
import Derived.Test.YtboophfcakdlcaaFrPut
import Derived.Test.YtboophfcakdlcaaGlSized2
import Derived.Deep.RegionHeld3
import Derived.Deep.DeepCutAuto
namespace Go.Proofs.Ytboophfcakdlcaa
open Go.RowKit Go.PlainAid Go.Shelf

theorem flatS (l : List (List UInt8)) : flatE encS l = l.map fun s => Value.string (mk8 s) := by
  induction l with
  | nil => rfl
  | cons x r ih =>
    have : flatE encS (x :: r) = encS x ++ flatE encS r := by simp [flatE]
    rw [this, ih]
    rfl
theorem set_last (o : List (List UInt8)) (a s : List UInt8) : (flatE encS (o ++ [a])).set o.length (.string (mk8 s)) = flatE encS (o ++ [s]) := by
  rw [flatS, flatS, List.map_append, List.map_append, List.set_append_right _ _ (by simp)]
  simp
def joinStep (ls : List Lg) (out : List (List UInt8)) (nm : List UInt8) : List (List UInt8) := match out.getLast? with
  | some a => (match joinL ls a nm with | some s => out.dropLast ++ [s] | none => out ++ [nm])
  | none => out ++ [nm]
theorem joinStep_nil (ls : List Lg) (nm : List UInt8) : joinStep ls [] nm = [nm] := rfl
theorem joinStep_some {ls : List Lg} {o : List (List UInt8)} {a nm s : List UInt8} (h : joinL ls a nm = some s) : joinStep ls (o ++ [a]) nm = o ++ [s] := by
  unfold joinStep
  rw [List.getLast?_concat]
  simp only [h, List.dropLast_concat]
theorem joinStep_none {ls : List Lg} {o : List (List UInt8)} {a nm : List UInt8} (h : joinL ls a nm = none) : joinStep ls (o ++ [a]) nm = o ++ [a] ++ [nm] := by
  unfold joinStep
  rw [List.getLast?_concat]
  simp only [h]
/-- Names with what becomes one put in its place. -/
def joinedL (ls : List Lg) (names : List (List UInt8)) : List (List UInt8) := names.foldl (joinStep ls) []
theorem joined_succ (ls : List Lg) (names : List (List UInt8)) {k : Nat} (hk : k < names.length) : joinedL ls (names.take (k + 1)) = joinStep ls (joinedL ls (names.take k)) names[k]! := by
  unfold joinedL
  rw [List.take_add_one, List.getElem?_eq_getElem hk, getElem!_pos names k hk, Option.toList_some, List.foldl_append]
  rfl
theorem joinStep_len (ls : List Lg) (out : List (List UInt8)) (nm : List UInt8) : (joinStep ls out nm).length ≤ out.length + 1 := by
  rcases List.eq_nil_or_concat out with rfl | ⟨o, a, rfl⟩
  · exact Nat.le_refl _
  · cases h : joinL ls a nm with
    | none => rw [List.concat_eq_append, joinStep_none h]; simp
    | some s => rw [List.concat_eq_append, joinStep_some h]; simp
theorem joined_len (ls : List Lg) : ∀ (names out : List (List UInt8)), (names.foldl (joinStep ls) out).length ≤ out.length + names.length
  | [], out => Nat.le_refl _
  | nm :: r, out => by
    rw [List.foldl_cons]
    have h1 := joined_len ls r (joinStep ls out nm)
    have h2 := joinStep_len ls out nm
    rw [List.length_cons]
    omega
set_option maxRecDepth 100000 in
set_option maxHeartbeats 8000000 in
theorem joined_any (x : FA) (an : Option Addr) (names : List (List UInt8)) (cn : Nat) (W : World) (h : x.ok W) (hv : validB x.F = true) (hn : RowK encS 1 an names W) (hnl : names.length ≤ 2000) :
    Calls Try.prog 54 #[fontVal x, .slice an names.length cn] W (fun e w' => ∃ v, e = .returned v ∧ OwnS W.heap.size v (joinedL x.F.ls names) w' ∧ Below W.heap.size W w') := by
  have HJ0 := Lib.hid (fun (a b : List UInt8) (W' : World) (hb : Below W.heap.size W W') => join_any x a b W' (h.below hb) hv)
  have HN := Lib.hid hn
  clear h hv hn
  obtain ⟨⟨fn, fs, fz, gs, ls, ks⟩, ag, al, ak, cg, cl, ck⟩ := x
  simp only [fontVal] at HJ0 ⊢
  generalize mk8 fn = m1 at HJ0 ⊢
  go_enter Try.func54, Try.ntmps54
  go_upto_region 1 with fail
  generalize hw1 : W.alloc _ = w1
  have hb1 : Below W.heap.size W w1 := by rw [← hw1]; exact (Below.refl _ _).alloc (Nat.le_refl _) _
  have t1 : w1.heap[W.heap.size]? = some (.cells #[.string m1, .bool fs, .int .i64 fz, .slice ag gs.length cg, .slice al ls.length cl, .slice ak ks.length ck] 37 (0, 0)) := by rw [← hw1]; exact heap_alloc_new W _
  have hpl := (Array.getElem?_eq_some_iff.1 t1).1
  obtain ⟨p, hp⟩ : ∃ p, W.heap.size = p := ⟨_, rfl⟩
  have HPW : Hid (W.heap.size = p) := hp
  have HB1 := Lib.hid hb1
  rw [hp] at t1 hpl
  rw [hp]
  have HT1 := Lib.hid t1
  clear hw1 hb1 t1 hp
  go_wp2_with fail
  go_loopw [5, 13] (fun u i wr => ∃ k : Nat, k ≤ names.length ∧ i = .int .i64 k ∧ Hid (OwnS w1.heap.size u (joinedL ls (names.take k)) wr) ∧ Hid (Below w1.heap.size w1 wr)) (fun _ i _ => names.length - (intOf i).toNat)
  case atStart => exact ⟨0, by omega, rfl, World.ownsRow_nil _ _ _ _, Below.refl _ _⟩
  case round =>
    obtain ⟨k, hk, rfl, ho, hbl⟩ := hrel
    by_cases hlt : k < names.length
    · have HLT := Lib.hid hlt
      have HBW := Lib.hid (HB1.out.trans (hbl.out.mono HB1.out.size))
      obtain ⟨b2, o2, ha2, hc2⟩ := HN.out.below HBW.out
      obtain ⟨rfl, hl2⟩ := ha2 (by omega)
      have HS := Lib.hid (joined_succ ls names hlt)
      have hnm := hc2 k hlt 0 _ rfl
      rw [Nat.mul_one, Nat.add_zero] at hnm
      obtain ⟨nm, hnme⟩ : ∃ nm, names[k]! = nm := ⟨_, rfl⟩
      rw [hnme] at HS hnm
      have hlen : (joinedL ls (names.take k)).length ≤ 2000 := by
        have h1 := joined_len ls (names.take k) []
        have h2 : (names.take k).length ≤ names.length := by rw [List.length_take]; omega
        unfold joinedL
        simp only [List.length_nil] at h1
        omega
      have hz1 : (k : Int) < names.length := by omega
      have hz0 : (0 : Int) ≤ k := by omega
      obtain ⟨sn, hsn⟩ : ∃ s, mk8 nm = s := ⟨_, rfl⟩
      have HSN := Lib.hid hsn
      rw [hsn] at hnm
      have hlo0 : ∀ j, u5.ownBlock = some j → w1.heap.size ≤ j ∧ j < wr.heap.size := fun j hj => ho.out.lt j hj
      obtain ⟨OUT, hO⟩ : ∃ O, joinedL ls (names.take k) = O := ⟨_, rfl⟩
      rw [hO] at HS ho hlen
      clear hO hc2 ha2 hnme hlt
      rcases List.eq_nil_or_concat OUT with rfl | ⟨o, a, rfl⟩
      · obtain ⟨ao5, c5, rfl⟩ := own_form ho.out
        have HO2 := ho
        have HB2 := hbl
        have hsz := hbl.out.size
        have hlo := hlo0
        have HST : Hid (joinedL ls (names.take (k + 1)) = [] ++ [nm]) := by show _ = _; rw [HS.out]; rfl
        simp only [List.length_nil]
        clear ho hbl hlo0 HS hlen
        go_wp2_with (at_builtin; refine wpList_str (v := (.slice ao5 0 c5)) (xs := []) (e := nm) rfl (.tmp 37) (.tmp 39) rfl rfl ⟨wr.heap.size, 0, none⟩ rfl (by rw [HSN.out]; exact cell_of (heap_alloc_new wr _) rfl) (HO2.out.alloc _) (by simp) (by simp; omega) ?_; intro v' w' h1 h2 h3; have G1 := Lib.hid h1; have G2 := Lib.hid h2; clear h1 h2 h3)
        have N1 : Hid (OwnS w1.heap.size v' (joinedL ls (names.take (k + 1))) w') := by rw [HST.out]; exact G1.out
        have N2 : Hid (Below w1.heap.size w1 w') := grown_base HB2.out hsz (fun j hj => (hlo j hj).1) G2.out
        clear HST
        go_roundw
        case rel => exact ⟨k + 1, by have := HLT.out; omega, by go_num, N1, N2⟩
        case measure => have := HLT.out; simp only [intOf]; omega
      · rw [List.concat_eq_append] at HS ho hlen
        have e5 : (o ++ [a]).length = o.length + 1 := by simp
        rcases ho.out.2 with ⟨_, e0⟩ | ⟨g, cap, cur, hu, hB, hg, hnc, hcm, _⟩
        · omega
        subst hu
        have hgl := ho.out.lt g rfl
        have co0 := ho.out.cellAt o.length (by omega)
        have cf0 : (flatE encS (o ++ [a]))[o.length]? = some (.string (mk8 a)) := by rw [flatS]; simp
        rw [cf0] at co0
        rw [e5] at hnc
        have HOWN := ho
        obtain ⟨m, hm⟩ : ∃ m, o.length = m := ⟨_, rfl⟩
        have HM := Lib.hid hm
        rw [hm] at co0 hnc e5
        have HE5 := Lib.hid e5
        rw [e5]
        have f0 := (hbl.out.cell (p := ⟨p, 0, none⟩) hpl).trans (cell_of HT1.out rfl)
        have f1 := (hbl.out.cell (p := ⟨p, 1, none⟩) hpl).trans (cell_of HT1.out rfl)
        have f2 := (hbl.out.cell (p := ⟨p, 2, none⟩) hpl).trans (cell_of HT1.out rfl)
        have f3 := (hbl.out.cell (p := ⟨p, 3, none⟩) hpl).trans (cell_of HT1.out rfl)
        have f4 := (hbl.out.cell (p := ⟨p, 4, none⟩) hpl).trans (cell_of HT1.out rfl)
        have f5 := (hbl.out.cell (p := ⟨p, 5, none⟩) hpl).trans (cell_of HT1.out rfl)
        have hpw : p < wr.heap.size := Nat.lt_of_lt_of_le hpl hbl.out.size
        have hgw : g < wr.heap.size := hgl.2
        have hmz0 : (0 : Int) ≤ m := by omega
        have hmz1 : (m : Int) < ((m + 1 : Nat) : Int) := by omega
        have hmz2 : (m : Int) < (m : Int) + 1 := by omega
        unfold maxLen at hcm
        have HHL := Lib.hid hlen
        have HJw := Lib.hid (fun (W' : World) (hb : Below wr.heap.size wr W') => HJ0.out a nm W' (HBW.out.trans (hb.mono HBW.out.size)))
        obtain ⟨sa, hsa⟩ : ∃ t, mk8 a = t := ⟨_, rfl⟩
        simp only [hsa, HSN.out] at HJw
        rw [hsa] at co0
        have co := co0
        clear hm co0 cf0 e5 ho hlen hsa
        cases hR : joinL ls a nm with
        | some s =>
          rw [hR] at HJw
          have HJ : Hid (∀ W', Below wr.heap.size wr W' → Calls Try.prog 84 #[.agg #[.string m1, .bool fs, .int .i64 fz, .slice ag gs.length cg, .slice al ls.length cl, .slice ak ks.length ck], .string sa, .string sn] W' (Makes (.tuple #[.string (mk8 s), .bool true]) W')) := HJw.out
          have HST : Hid (joinedL ls (names.take (k + 1)) = o ++ [s]) := by show _ = _; rw [HS.out, joinStep_some hR]
          clear hR HJw HS
          go_upto_region 7 with fail
          refine wp_region_held_drew (S := fun w' => Below wr.heap.size wr w') (by kernel_rfl) ?_ (fun hHeld => ?_)
          · exact (Below.refl _ _).drew
          refine' wpAnyH_take (i := 0) (oi := _) (v := _) ?hi1 (by kernel_rfl) (by kernel_rfl) (by kernel_rfl) ?hQ1 (Or.inl ⟨?hw1, ?hy1⟩) hHeld ?rest1
          case hi1 => simp only [List.getElem?_toArray, List.getElem?_cons_zero]; rfl
          case hQ1 => exact fun _ _ _ h => h
          case hw1 => rfl
          case hy1 =>
            intro w hSw
            try dsimp only at hSw
            have f0' := (hSw.cell (p := ⟨p, 0, none⟩) hpw).trans f0
            have f1' := (hSw.cell (p := ⟨p, 1, none⟩) hpw).trans f1
            have f2' := (hSw.cell (p := ⟨p, 2, none⟩) hpw).trans f2
            have f3' := (hSw.cell (p := ⟨p, 3, none⟩) hpw).trans f3
            have f4' := (hSw.cell (p := ⟨p, 4, none⟩) hpw).trans f4
            have f5' := (hSw.cell (p := ⟨p, 5, none⟩) hpw).trans f5
            clear hSw
            go_simp
            all_goals with_reducible rfl
          try simp only [Act.put, List.setIfInBounds_toArray, List.set_cons_zero, List.set_cons_succ]
          refine' wpAnyH_take (i := 1) (oi := _) (v := _) ?hi2 (by kernel_rfl) (by kernel_rfl) (by kernel_rfl) ?hQ2 (Or.inl ⟨?hw2, ?hy2⟩) hHeld ?rest2
          case hi2 => simp only [List.getElem?_toArray, List.getElem?_cons_succ, List.getElem?_cons_zero]; rfl
          case hQ2 => exact fun _ _ _ h => h
          case hw2 => rfl
          case hy2 =>
            intro w hSw
            try dsimp only at hSw
            go_simp
            all_goals with_reducible rfl
          try simp only [Act.put, List.setIfInBounds_toArray, List.set_cons_zero, List.set_cons_succ]
          refine' wpAnyH_take (i := 2) (oi := _) (v := _) ?hi3 (by kernel_rfl) (by kernel_rfl) (by kernel_rfl) ?hQ3 (Or.inl ⟨?hw3, ?hy3⟩) hHeld ?rest3
          case hi3 => simp only [List.getElem?_toArray, List.getElem?_cons_succ, List.getElem?_cons_zero]; rfl
          case hQ3 => exact fun _ _ _ h => h
          case hw3 => rfl
          case hy3 =>
            intro w hSw
            try dsimp only at hSw
            go_simp
            all_goals with_reducible rfl
          try simp only [Act.put, List.setIfInBounds_toArray, List.set_cons_zero, List.set_cons_succ]
          refine' wpAnyH_take (i := 3) (oi := _) (v := _) ?hi4 (by kernel_rfl) (by kernel_rfl) (by kernel_rfl) ?hQ4 (Or.inl ⟨?hw4, ?hy4⟩) hHeld ?rest4
          case hi4 => simp only [List.getElem?_toArray, List.getElem?_cons_succ, List.getElem?_cons_zero]; rfl
          case hQ4 => exact fun _ _ _ h => h
          case hw4 => rfl
          case hy4 =>
            intro w hSw
            try dsimp only at hSw
            go_simp
            all_goals with_reducible rfl
          try simp only [Act.put, List.setIfInBounds_toArray, List.set_cons_zero, List.set_cons_succ]
          refine' wpAnyH_take (i := 4) (oi := _) (v := _) ?hi5 (by kernel_rfl) (by kernel_rfl) (by kernel_rfl) ?hQ5 (Or.inl ⟨?hw5, ?hy5⟩) hHeld ?rest5
          case hi5 => simp only [List.getElem?_toArray, List.getElem?_cons_succ, List.getElem?_cons_zero]; rfl
          case hQ5 => exact fun _ _ _ h => h
          case hw5 => rfl
          case hy5 =>
            intro w hSw
            try dsimp only at hSw
            have co' := (hSw.cell (p := ⟨g, m, none⟩) hgw).trans co
            clear hSw
            go_simp
            all_goals with_reducible rfl
          try simp only [Act.put, List.setIfInBounds_toArray, List.set_cons_zero, List.set_cons_succ]
          refine' wpAnyH_take (i := 5) (oi := _) (v := _) ?hi6 (by kernel_rfl) (by kernel_rfl) (by kernel_rfl) ?hQ6 (Or.inl ⟨?hw6, ?hy6⟩) hHeld ?rest6
          case hi6 => simp only [List.getElem?_toArray, List.getElem?_cons_succ, List.getElem?_cons_zero]; rfl
          case hQ6 => exact fun _ _ _ h => h
          case hw6 => rfl
          case hy6 =>
            intro w hSw
            try dsimp only at hSw
            go_simp
            all_goals with_reducible rfl
          try simp only [Act.put, List.setIfInBounds_toArray, List.set_cons_zero, List.set_cons_succ]
          refine wpAnyH_ready (rs := [6]) (by kernel_rfl) (by simp) ?_
          refine' AllReadyH.cons (o := _) ?ha12 (fun K hK => ?sa12) ?ma12
          case ha12 => simp only [List.getElem?_toArray, List.getElem?_cons_succ, List.getElem?_cons_zero]; rfl
          case ma12 => exact AllReadyH.nil
          case sa12 =>
            go_simp
            go_at_call 84
            refine (HJ.out _ hHeld).mono ?_
            rintro e w2 ⟨rfl, hb2⟩
            have hbk := hHeld.trans (hb2.mono hHeld.size)
            clear hb2
            go_wp2_with fail
            refine hK.out _ _ ?_ (fun hHeld => ?_)
            · exact hbk
            clear hK K
            try simp only [Act.put, List.setIfInBounds_toArray, List.set_cons_zero, List.set_cons_succ]
            clear hbk
            refine' wpAnyH_take (i := 7) (oi := _) (v := _) ?hi7 (by kernel_rfl) (by kernel_rfl) (by kernel_rfl) ?hQ7 (Or.inl ⟨?hw7, ?hy7⟩) hHeld ?rest7
            case hi7 => simp only [List.getElem?_toArray, List.getElem?_cons_succ, List.getElem?_cons_zero]; rfl
            case hQ7 => exact fun _ _ _ h => h
            case hw7 => rfl
            case hy7 =>
              intro w hSw
              try dsimp only at hSw
              go_simp
              all_goals with_reducible rfl
            try simp only [Act.put, List.setIfInBounds_toArray, List.set_cons_zero, List.set_cons_succ]
            refine' wpAnyH_take (i := 8) (oi := _) (v := _) ?hi8 (by kernel_rfl) (by kernel_rfl) (by kernel_rfl) ?hQ8 (Or.inl ⟨?hw8, ?hy8⟩) hHeld ?rest8
            case hi8 => simp only [List.getElem?_toArray, List.getElem?_cons_succ, List.getElem?_cons_zero]; rfl
            case hQ8 => exact fun _ _ _ h => h
            case hw8 => rfl
            case hy8 =>
              intro w hSw
              try dsimp only at hSw
              go_simp
              all_goals with_reducible rfl
            try simp only [Act.put, List.setIfInBounds_toArray, List.set_cons_zero, List.set_cons_succ]
            refine' wpAnyH_take (i := 9) (oi := _) (v := _) ?hi9 (by kernel_rfl) (by kernel_rfl) (by kernel_rfl) ?hQ9 (Or.inl ⟨?hw9, ?hy9⟩) hHeld ?rest9
            case hi9 => simp only [List.getElem?_toArray, List.getElem?_cons_succ, List.getElem?_cons_zero]; rfl
            case hQ9 => exact fun _ _ _ h => h
            case hw9 => rfl
            case hy9 =>
              intro w hSw
              try dsimp only at hSw
              go_simp
              all_goals with_reducible rfl
            try simp only [Act.put, List.setIfInBounds_toArray, List.set_cons_zero, List.set_cons_succ]
            refine' wpAnyH_take (i := 10) (oi := _) (v := _) ?hi10 (by kernel_rfl) (by kernel_rfl) (by kernel_rfl) ?hQ10 (Or.inl ⟨?hw10, ?hy10⟩) hHeld ?rest10
            case hi10 => simp only [List.getElem?_toArray, List.getElem?_cons_succ, List.getElem?_cons_zero]; rfl
            case hQ10 => exact fun _ _ _ h => h
            case hw10 => rfl
            case hy10 =>
              intro w hSw
              try dsimp only at hSw
              go_simp
              all_goals with_reducible rfl
            try simp only [Act.put, List.setIfInBounds_toArray, List.set_cons_zero, List.set_cons_succ]
            refine' wpAnyH_take (i := 11) (oi := _) (v := _) ?hi11 (by kernel_rfl) (by kernel_rfl) (by kernel_rfl) ?hQ11 (Or.inl ⟨?hw11, ?hy11⟩) hHeld ?rest11
            case hi11 => simp only [List.getElem?_toArray, List.getElem?_cons_succ, List.getElem?_cons_zero]; rfl
            case hQ11 => exact fun _ _ _ h => h
            case hw11 => rfl
            case hy11 =>
              intro w hSw
              try dsimp only at hSw
              go_simp
              all_goals with_reducible rfl
            try simp only [Act.put, List.setIfInBounds_toArray, List.set_cons_zero, List.set_cons_succ]
            refine wpAnyH_done (by kernel_rfl) ?_ _
            have HO2 : Hid (OwnS w1.heap.size (.slice (some ⟨g, 0, none⟩) (o ++ [a]).length cap) (o ++ [a]) w2) := owns_of_block HOWN.out (fun j hj => hHeld.block j (HOWN.out.lt j hj).2)
            have st := HO2.out.stored m (.string (mk8 s))
            have hfz := HO2.out.frozenAt m
            have hcl : w2.cell? ⟨g, m, none⟩ = some (.string sa) := (hHeld.cell (p := ⟨g, m, none⟩) hgw).trans co
            have N1 : Hid (OwnS w1.heap.size (.slice (some ⟨g, 0, none⟩) (m + 1) cap) (joinedL ls (names.take (k + 1))) (w2.setCell ⟨g, m, none⟩ (.string (mk8 s)))) := by
              have h1 := st.1
              rw [← HM.out, set_last, HM.out, HE5.out] at h1
              have h2 : (o ++ [s]).length = m + 1 := by rw [List.length_append, HM.out]; rfl
              rw [HST.out]
              show World.ownsRow _ _ _ _ _ (o ++ [s]).length _
              rw [h2]
              exact h1
            have N2 : Hid (Below w1.heap.size w1 (w2.setCell ⟨g, m, none⟩ (.string (mk8 s)))) := below_setA (hbl.out.trans (hHeld.mono hbl.out.size)) hgl.1
            clear st hHeld hbl HST HO2 co f0 f1 f2 f3 f4 f5
            go_wp2_with fail
            go_roundw
            case rel => exact ⟨k + 1, by have := HLT.out; omega, by go_num, N1, N2⟩
            case measure => have := HLT.out; simp only [intOf]; omega
        | none =>
          rw [hR] at HJw
          have HJ : Hid (∀ W', Below wr.heap.size wr W' → Calls Try.prog 84 #[.agg #[.string m1, .bool fs, .int .i64 fz, .slice ag gs.length cg, .slice al ls.length cl, .slice ak ks.length ck], .string sa, .string sn] W' (Makes (.tuple #[.string ⟨#[]⟩, .bool false]) W')) := HJw.out
          have HST : Hid (joinedL ls (names.take (k + 1)) = (o ++ [a]) ++ [nm]) := by show _ = _; rw [HS.out, joinStep_none hR]
          clear hR HJw HS
          go_upto_region 7 with fail
          refine wp_region_held_drew (S := fun w' => Below wr.heap.size wr w') (by kernel_rfl) ?_ (fun hHeld => ?_)
          · exact (Below.refl _ _).drew
          refine' wpAnyH_take (i := 0) (oi := _) (v := _) ?hi13 (by kernel_rfl) (by kernel_rfl) (by kernel_rfl) ?hQ13 (Or.inl ⟨?hw13, ?hy13⟩) hHeld ?rest13
          case hi13 => simp only [List.getElem?_toArray, List.getElem?_cons_zero]; rfl
          case hQ13 => exact fun _ _ _ h => h
          case hw13 => rfl
          case hy13 =>
            intro w hSw
            try dsimp only at hSw
            have f0' := (hSw.cell (p := ⟨p, 0, none⟩) hpw).trans f0
            have f1' := (hSw.cell (p := ⟨p, 1, none⟩) hpw).trans f1
            have f2' := (hSw.cell (p := ⟨p, 2, none⟩) hpw).trans f2
            have f3' := (hSw.cell (p := ⟨p, 3, none⟩) hpw).trans f3
            have f4' := (hSw.cell (p := ⟨p, 4, none⟩) hpw).trans f4
            have f5' := (hSw.cell (p := ⟨p, 5, none⟩) hpw).trans f5
            clear hSw
            go_simp
            all_goals with_reducible rfl
          try simp only [Act.put, List.setIfInBounds_toArray, List.set_cons_zero, List.set_cons_succ]
          refine' wpAnyH_take (i := 1) (oi := _) (v := _) ?hi14 (by kernel_rfl) (by kernel_rfl) (by kernel_rfl) ?hQ14 (Or.inl ⟨?hw14, ?hy14⟩) hHeld ?rest14
          case hi14 => simp only [List.getElem?_toArray, List.getElem?_cons_succ, List.getElem?_cons_zero]; rfl
          case hQ14 => exact fun _ _ _ h => h
          case hw14 => rfl
          case hy14 =>
            intro w hSw
            try dsimp only at hSw
            go_simp
            all_goals with_reducible rfl
          try simp only [Act.put, List.setIfInBounds_toArray, List.set_cons_zero, List.set_cons_succ]
          refine' wpAnyH_take (i := 2) (oi := _) (v := _) ?hi15 (by kernel_rfl) (by kernel_rfl) (by kernel_rfl) ?hQ15 (Or.inl ⟨?hw15, ?hy15⟩) hHeld ?rest15
          case hi15 => simp only [List.getElem?_toArray, List.getElem?_cons_succ, List.getElem?_cons_zero]; rfl
          case hQ15 => exact fun _ _ _ h => h
          case hw15 => rfl
          case hy15 =>
            intro w hSw
            try dsimp only at hSw
            go_simp
            all_goals with_reducible rfl
          try simp only [Act.put, List.setIfInBounds_toArray, List.set_cons_zero, List.set_cons_succ]
          refine' wpAnyH_take (i := 3) (oi := _) (v := _) ?hi16 (by kernel_rfl) (by kernel_rfl) (by kernel_rfl) ?hQ16 (Or.inl ⟨?hw16, ?hy16⟩) hHeld ?rest16
          case hi16 => simp only [List.getElem?_toArray, List.getElem?_cons_succ, List.getElem?_cons_zero]; rfl
          case hQ16 => exact fun _ _ _ h => h
          case hw16 => rfl
          case hy16 =>
            intro w hSw
            try dsimp only at hSw
            go_simp
            all_goals with_reducible rfl
          try simp only [Act.put, List.setIfInBounds_toArray, List.set_cons_zero, List.set_cons_succ]
          refine' wpAnyH_take (i := 4) (oi := _) (v := _) ?hi17 (by kernel_rfl) (by kernel_rfl) (by kernel_rfl) ?hQ17 (Or.inl ⟨?hw17, ?hy17⟩) hHeld ?rest17
          case hi17 => simp only [List.getElem?_toArray, List.getElem?_cons_succ, List.getElem?_cons_zero]; rfl
          case hQ17 => exact fun _ _ _ h => h
          case hw17 => rfl
          case hy17 =>
            intro w hSw
            try dsimp only at hSw
            have co' := (hSw.cell (p := ⟨g, m, none⟩) hgw).trans co
            clear hSw
            go_simp
            all_goals with_reducible rfl
          try simp only [Act.put, List.setIfInBounds_toArray, List.set_cons_zero, List.set_cons_succ]
          refine' wpAnyH_take (i := 5) (oi := _) (v := _) ?hi18 (by kernel_rfl) (by kernel_rfl) (by kernel_rfl) ?hQ18 (Or.inl ⟨?hw18, ?hy18⟩) hHeld ?rest18
          case hi18 => simp only [List.getElem?_toArray, List.getElem?_cons_succ, List.getElem?_cons_zero]; rfl
          case hQ18 => exact fun _ _ _ h => h
          case hw18 => rfl
          case hy18 =>
            intro w hSw
            try dsimp only at hSw
            go_simp
            all_goals with_reducible rfl
          try simp only [Act.put, List.setIfInBounds_toArray, List.set_cons_zero, List.set_cons_succ]
          refine wpAnyH_ready (rs := [6]) (by kernel_rfl) (by simp) ?_
          refine' AllReadyH.cons (o := _) ?ha24 (fun K hK => ?sa24) ?ma24
          case ha24 => simp only [List.getElem?_toArray, List.getElem?_cons_succ, List.getElem?_cons_zero]; rfl
          case ma24 => exact AllReadyH.nil
          case sa24 =>
            go_simp
            go_at_call 84
            refine (HJ.out _ hHeld).mono ?_
            rintro e w2 ⟨rfl, hb2⟩
            have hbk := hHeld.trans (hb2.mono hHeld.size)
            clear hb2
            go_wp2_with fail
            refine hK.out _ _ ?_ (fun hHeld => ?_)
            · exact hbk
            clear hK K
            try simp only [Act.put, List.setIfInBounds_toArray, List.set_cons_zero, List.set_cons_succ]
            clear hbk
            refine' wpAnyH_take (i := 7) (oi := _) (v := _) ?hi19 (by kernel_rfl) (by kernel_rfl) (by kernel_rfl) ?hQ19 (Or.inl ⟨?hw19, ?hy19⟩) hHeld ?rest19
            case hi19 => simp only [List.getElem?_toArray, List.getElem?_cons_succ, List.getElem?_cons_zero]; rfl
            case hQ19 => exact fun _ _ _ h => h
            case hw19 => rfl
            case hy19 =>
              intro w hSw
              try dsimp only at hSw
              go_simp
              all_goals with_reducible rfl
            try simp only [Act.put, List.setIfInBounds_toArray, List.set_cons_zero, List.set_cons_succ]
            refine' wpAnyH_take (i := 8) (oi := _) (v := _) ?hi20 (by kernel_rfl) (by kernel_rfl) (by kernel_rfl) ?hQ20 (Or.inl ⟨?hw20, ?hy20⟩) hHeld ?rest20
            case hi20 => simp only [List.getElem?_toArray, List.getElem?_cons_succ, List.getElem?_cons_zero]; rfl
            case hQ20 => exact fun _ _ _ h => h
            case hw20 => rfl
            case hy20 =>
              intro w hSw
              try dsimp only at hSw
              go_simp
              all_goals with_reducible rfl
            try simp only [Act.put, List.setIfInBounds_toArray, List.set_cons_zero, List.set_cons_succ]
            refine' wpAnyH_take (i := 9) (oi := _) (v := _) ?hi21 (by kernel_rfl) (by kernel_rfl) (by kernel_rfl) ?hQ21 (Or.inl ⟨?hw21, ?hy21⟩) hHeld ?rest21
            case hi21 => simp only [List.getElem?_toArray, List.getElem?_cons_succ, List.getElem?_cons_zero]; rfl
            case hQ21 => exact fun _ _ _ h => h
            case hw21 => rfl
            case hy21 =>
              intro w hSw
              try dsimp only at hSw
              go_simp
              all_goals with_reducible rfl
            try simp only [Act.put, List.setIfInBounds_toArray, List.set_cons_zero, List.set_cons_succ]
            refine' wpAnyH_take (i := 10) (oi := _) (v := _) ?hi22 (by kernel_rfl) (by kernel_rfl) (by kernel_rfl) ?hQ22 (Or.inl ⟨?hw22, ?hy22⟩) hHeld ?rest22
            case hi22 => simp only [List.getElem?_toArray, List.getElem?_cons_succ, List.getElem?_cons_zero]; rfl
            case hQ22 => exact fun _ _ _ h => h
            case hw22 => rfl
            case hy22 =>
              intro w hSw
              try dsimp only at hSw
              go_simp
              all_goals with_reducible rfl
            try simp only [Act.put, List.setIfInBounds_toArray, List.set_cons_zero, List.set_cons_succ]
            refine' wpAnyH_take (i := 11) (oi := _) (v := _) ?hi23 (by kernel_rfl) (by kernel_rfl) (by kernel_rfl) ?hQ23 (Or.inl ⟨?hw23, ?hy23⟩) hHeld ?rest23
            case hi23 => simp only [List.getElem?_toArray, List.getElem?_cons_succ, List.getElem?_cons_zero]; rfl
            case hQ23 => exact fun _ _ _ h => h
            case hw23 => rfl
            case hy23 =>
              intro w hSw
              try dsimp only at hSw
              go_simp
              all_goals with_reducible rfl
            try simp only [Act.put, List.setIfInBounds_toArray, List.set_cons_zero, List.set_cons_succ]
            refine wpAnyH_done (by kernel_rfl) ?_ _
            have HO2 : Hid (OwnS w1.heap.size (.slice (some ⟨g, 0, none⟩) (m + 1) cap) (o ++ [a]) w2) := by
              rw [← HE5.out]
              exact owns_of_block HOWN.out (fun j hj => hHeld.block j (HOWN.out.lt j hj).2)
            have HB2 := Lib.hid (hbl.out.trans (hHeld.mono hbl.out.size))
            have hsz := HB2.out.size
            have hlo : ∀ j, (Value.slice (some ⟨g, 0, none⟩) (m + 1) cap).ownBlock = some j → w1.heap.size ≤ j ∧ j < w2.heap.size := fun j hj => HO2.out.lt j hj
            clear hHeld hbl co f0 f1 f2 f3 f4 f5
            go_wp2_with (at_builtin; refine wpList_str (v := (.slice (some ⟨g, 0, none⟩) (m + 1) cap)) (xs := (o ++ [a])) (e := nm) rfl (.tmp 37) (.tmp 39) rfl rfl ⟨w2.heap.size, 0, none⟩ rfl (by rw [HSN.out]; exact cell_of (heap_alloc_new w2 _) rfl) (HO2.out.alloc _) (by have := HHL.out; omega) (by simp; omega) ?_; intro v' w' h1 h2 h3; have G1 := Lib.hid h1; have G2 := Lib.hid h2; clear h1 h2 h3)
            have N1 : Hid (OwnS w1.heap.size v' (joinedL ls (names.take (k + 1))) w') := by rw [HST.out]; exact G1.out
            have N2 : Hid (Below w1.heap.size w1 w') := grown_base HB2.out hsz (fun j hj => (hlo j hj).1) G2.out
            clear HST
            go_roundw
            case rel => exact ⟨k + 1, by have := HLT.out; omega, by go_num, N1, N2⟩
            case measure => have := HLT.out; simp only [intOf]; omega
    · obtain rfl : k = names.length := by omega
      have hz1 : ¬ ((names.length : Nat) : Int) < names.length := by omega
      rw [List.take_length] at ho
      have hsz : p ≤ w1.heap.size := by rw [← HPW.out]; exact HB1.out.size
      have N1 := Lib.hid (own_base ho.out hsz)
      have N3 := Lib.hid (HB1.out.trans (hbl.out.mono HB1.out.size))
      clear ho hbl
      go_wp2_with fail
      go_ret
      exact ⟨u5, rfl, by rw [HPW.out]; exact N1.out, N3.out⟩
end Go.Proofs.Ytboophfcakdlcaa
