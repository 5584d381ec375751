/- The program's Same. -/
import Derived.Test.YtboophfcakdlcaaFtEq
import Derived.Deep.DeepCutAuto
namespace Go.Proofs.Ytboophfcakdlcaa
open Go.RowKit Go.PlainAid Go.Shelf

def sameF (F G : FontL) : Bool := F.name == G.name && F.special == G.special && F.space == G.space && Lib.allEq eqG F.gs G.gs && Lib.allEq eqLg F.ls G.ls && Lib.allEq eqKn F.ks G.ks
/-- A font's value. -/
abbrev fontVal (x : FA) : Value := .agg #[.string (mk8 x.F.name), .bool x.F.special, .int .i64 x.F.space, .slice x.ag x.F.gs.length x.cg, .slice x.al x.F.ls.length x.cl, .slice x.ak x.F.ks.length x.ck]
/-- A font's cells in a block. -/
abbrev FBlk (p : Nat) (x : FA) (w : World) : Prop := w.heap[p]? = some (.cells #[.string (mk8 x.F.name), .bool x.F.special, .int .i64 x.F.space, .slice x.ag x.F.gs.length x.cg, .slice x.al x.F.ls.length x.cl, .slice x.ak x.F.ks.length x.ck] 37 (0, 0))
/-- Not too long. -/
abbrev FA.fit (x : FA) : Prop := x.F.gs.length ≤ 1000000 ∧ x.F.ls.length ≤ 1000000 ∧ x.F.ks.length ≤ 1000000

set_option maxRecDepth 100000 in
set_option maxHeartbeats 4000000 in
theorem same_any (x y : FA) (w : World) (hx : x.ok w) (hy : y.ok w) (fx : x.fit) (fy : y.fit) : Calls Try.prog 14 #[fontVal x, fontVal y] w (Makes (.bool (sameF x.F y.F)) w) := by
  have H1 := Lib.hid (fun w' (hb : Below w.heap.size w w') => equalG_any x.ag y.ag x.F.gs y.F.gs x.cg y.cg w' (hx.gs.below hb) (hy.gs.below hb) fx.1 fy.1)
  have H2 := Lib.hid (fun w' (hb : Below w.heap.size w w') => equalLg_any x.al y.al x.F.ls y.F.ls x.cl y.cl w' (hx.ls.below hb) (hy.ls.below hb) fx.2.1 fy.2.1)
  have H3 := Lib.hid (fun w' (hb : Below w.heap.size w w') => equalKn_any x.ak y.ak x.F.ks y.F.ks x.ck y.ck w' (hx.ks.below hb) (hy.ks.below hb) fx.2.2 fy.2.2)
  clear hx hy fx fy
  obtain ⟨⟨n1, s1, z1, g1, l1, k1⟩, ag, al, ak, cg, cl, ck⟩ := x
  obtain ⟨⟨n2, s2, z2, g2, l2, k2⟩, bg, bl, bk, dg, dl, dk⟩ := y
  simp only at H1 H2 H3 ⊢
  unfold sameF
  show Calls _ _ #[.agg #[.string (mk8 n1), .bool s1, .int .i64 z1, .slice ag g1.length cg, .slice al l1.length cl, .slice ak k1.length ck], .agg #[.string (mk8 n2), .bool s2, .int .i64 z2, .slice bg g2.length dg, .slice bl l2.length dl, .slice bk k2.length dk]] w (Makes (.bool (n1 == n2 && s1 == s2 && z1 == z2 && Lib.allEq eqG g1 g2 && Lib.allEq eqLg l1 l2 && Lib.allEq eqKn k1 k2)) w)
  have e1 : ((mk8 n1).toList == (mk8 n2).toList) = (n1 == n2) := by rw [mk8_list, mk8_list]
  obtain ⟨a1, ha1⟩ : ∃ b, (n1 == n2) = b := ⟨_, rfl⟩
  obtain ⟨a2, ha2⟩ : ∃ b, (s1 == s2) = b := ⟨_, rfl⟩
  obtain ⟨a3, ha3⟩ : ∃ b, (z1 == z2) = b := ⟨_, rfl⟩
  obtain ⟨a4, ha4⟩ : ∃ b, Lib.allEq eqG g1 g2 = b := ⟨_, rfl⟩
  obtain ⟨a5, ha5⟩ : ∃ b, Lib.allEq eqLg l1 l2 = b := ⟨_, rfl⟩
  obtain ⟨a6, ha6⟩ : ∃ b, Lib.allEq eqKn k1 k2 = b := ⟨_, rfl⟩
  rw [ha1] at e1
  rw [ha1, ha2, ha3, ha4, ha5, ha6]
  simp only [ha4] at H1
  simp only [ha5] at H2
  simp only [ha6] at H3
  obtain ⟨m1, hm1⟩ : ∃ m, mk8 n1 = m := ⟨_, rfl⟩
  obtain ⟨m2, hm2⟩ : ∃ m, mk8 n2 = m := ⟨_, rfl⟩
  rw [hm1, hm2] at e1 ⊢
  clear ha1 ha4 ha5 ha6 hm1 hm2
  cases a1 with
  | false =>
    simp only [Bool.false_and]
    go_enter Try.func14, Try.ntmps14
    go_upto_region 1 with fail
    generalize hw1 : w.alloc _ = w1
    have hb1 : Below w.heap.size w w1 := by rw [← hw1]; exact (Below.refl _ _).alloc (Nat.le_refl _) _
    have t1 : w1.heap[w.heap.size]? = some (.cells #[.string m1, .bool s1, .int .i64 z1, .slice ag g1.length cg, .slice al l1.length cl, .slice ak k1.length ck] 37 (0, 0)) := by rw [← hw1]; exact heap_alloc_new w _
    have hs1 : w1.heap.size = w.heap.size + 1 := by rw [← hw1]; simp
    generalize hw2 : w1.alloc _ = w2
    have hb2 : Below w1.heap.size w1 w2 := by rw [← hw2]; exact (Below.refl _ _).alloc (Nat.le_refl _) _
    have t2 : w2.heap[w1.heap.size]? = some (.cells #[.string m2, .bool s2, .int .i64 z2, .slice bg g2.length dg, .slice bl l2.length dl, .slice bk k2.length dk] 37 (0, 0)) := by rw [← hw2]; exact heap_alloc_new w1 _
    have HB := Lib.hid (hb1.trans (hb2.mono hb1.size))
    have t1' : w2.heap[w.heap.size]? = some (.cells #[.string m1, .bool s1, .int .i64 z1, .slice ag g1.length cg, .slice al l1.length cl, .slice ak k1.length ck] 37 (0, 0)) := by rw [hb2.block _ (by omega)]; exact t1
    rw [hs1] at t2
    have hl1 : w.heap.size < w2.heap.size := (Array.getElem?_eq_some_iff.1 t1').1
    have hl2 : w.heap.size + 1 < w2.heap.size := (Array.getElem?_eq_some_iff.1 t2).1
    have HT1 := Lib.hid t1'
    have HT2 := Lib.hid t2
    have x0 := cell_of (j := 0) t1' rfl
    have y0 := cell_of (j := 0) t2 rfl
    have x1 := cell_of (j := 1) t1' rfl
    have y1 := cell_of (j := 1) t2 rfl
    have x2 := cell_of (j := 2) t1' rfl
    have y2 := cell_of (j := 2) t2 rfl
    have x3 := cell_of (j := 3) t1' rfl
    have y3 := cell_of (j := 3) t2 rfl
    have x4 := cell_of (j := 4) t1' rfl
    have y4 := cell_of (j := 4) t2 rfl
    have x5 := cell_of (j := 5) t1' rfl
    have y5 := cell_of (j := 5) t2 rfl
    clear hw1 hw2 hb1 hb2 t1 t2 t1' hs1
    go_wp2_with fail
    go_ret
    exact ⟨rfl, HB.out⟩
  | true =>
    cases a2 with
    | false =>
      simp only [Bool.false_and, Bool.and_false]
      go_enter Try.func14, Try.ntmps14
      go_upto_region 1 with fail
      generalize hw1 : w.alloc _ = w1
      have hb1 : Below w.heap.size w w1 := by rw [← hw1]; exact (Below.refl _ _).alloc (Nat.le_refl _) _
      have t1 : w1.heap[w.heap.size]? = some (.cells #[.string m1, .bool s1, .int .i64 z1, .slice ag g1.length cg, .slice al l1.length cl, .slice ak k1.length ck] 37 (0, 0)) := by rw [← hw1]; exact heap_alloc_new w _
      have hs1 : w1.heap.size = w.heap.size + 1 := by rw [← hw1]; simp
      generalize hw2 : w1.alloc _ = w2
      have hb2 : Below w1.heap.size w1 w2 := by rw [← hw2]; exact (Below.refl _ _).alloc (Nat.le_refl _) _
      have t2 : w2.heap[w1.heap.size]? = some (.cells #[.string m2, .bool s2, .int .i64 z2, .slice bg g2.length dg, .slice bl l2.length dl, .slice bk k2.length dk] 37 (0, 0)) := by rw [← hw2]; exact heap_alloc_new w1 _
      have HB := Lib.hid (hb1.trans (hb2.mono hb1.size))
      have t1' : w2.heap[w.heap.size]? = some (.cells #[.string m1, .bool s1, .int .i64 z1, .slice ag g1.length cg, .slice al l1.length cl, .slice ak k1.length ck] 37 (0, 0)) := by rw [hb2.block _ (by omega)]; exact t1
      rw [hs1] at t2
      have hl1 : w.heap.size < w2.heap.size := (Array.getElem?_eq_some_iff.1 t1').1
      have hl2 : w.heap.size + 1 < w2.heap.size := (Array.getElem?_eq_some_iff.1 t2).1
      have HT1 := Lib.hid t1'
      have HT2 := Lib.hid t2
      have x0 := cell_of (j := 0) t1' rfl
      have y0 := cell_of (j := 0) t2 rfl
      have x1 := cell_of (j := 1) t1' rfl
      have y1 := cell_of (j := 1) t2 rfl
      have x2 := cell_of (j := 2) t1' rfl
      have y2 := cell_of (j := 2) t2 rfl
      have x3 := cell_of (j := 3) t1' rfl
      have y3 := cell_of (j := 3) t2 rfl
      have x4 := cell_of (j := 4) t1' rfl
      have y4 := cell_of (j := 4) t2 rfl
      have x5 := cell_of (j := 5) t1' rfl
      have y5 := cell_of (j := 5) t2 rfl
      clear hw1 hw2 hb1 hb2 t1 t2 t1' hs1
      go_wp2_with fail
      go_ret
      exact ⟨rfl, HB.out⟩
    | true =>
      cases a3 with
      | false =>
        simp only [Bool.false_and, Bool.true_and, Bool.and_false]
        go_enter Try.func14, Try.ntmps14
        go_upto_region 1 with fail
        generalize hw1 : w.alloc _ = w1
        have hb1 : Below w.heap.size w w1 := by rw [← hw1]; exact (Below.refl _ _).alloc (Nat.le_refl _) _
        have t1 : w1.heap[w.heap.size]? = some (.cells #[.string m1, .bool s1, .int .i64 z1, .slice ag g1.length cg, .slice al l1.length cl, .slice ak k1.length ck] 37 (0, 0)) := by rw [← hw1]; exact heap_alloc_new w _
        have hs1 : w1.heap.size = w.heap.size + 1 := by rw [← hw1]; simp
        generalize hw2 : w1.alloc _ = w2
        have hb2 : Below w1.heap.size w1 w2 := by rw [← hw2]; exact (Below.refl _ _).alloc (Nat.le_refl _) _
        have t2 : w2.heap[w1.heap.size]? = some (.cells #[.string m2, .bool s2, .int .i64 z2, .slice bg g2.length dg, .slice bl l2.length dl, .slice bk k2.length dk] 37 (0, 0)) := by rw [← hw2]; exact heap_alloc_new w1 _
        have HB := Lib.hid (hb1.trans (hb2.mono hb1.size))
        have t1' : w2.heap[w.heap.size]? = some (.cells #[.string m1, .bool s1, .int .i64 z1, .slice ag g1.length cg, .slice al l1.length cl, .slice ak k1.length ck] 37 (0, 0)) := by rw [hb2.block _ (by omega)]; exact t1
        rw [hs1] at t2
        have hl1 : w.heap.size < w2.heap.size := (Array.getElem?_eq_some_iff.1 t1').1
        have hl2 : w.heap.size + 1 < w2.heap.size := (Array.getElem?_eq_some_iff.1 t2).1
        have HT1 := Lib.hid t1'
        have HT2 := Lib.hid t2
        have x0 := cell_of (j := 0) t1' rfl
        have y0 := cell_of (j := 0) t2 rfl
        have x1 := cell_of (j := 1) t1' rfl
        have y1 := cell_of (j := 1) t2 rfl
        have x2 := cell_of (j := 2) t1' rfl
        have y2 := cell_of (j := 2) t2 rfl
        have x3 := cell_of (j := 3) t1' rfl
        have y3 := cell_of (j := 3) t2 rfl
        have x4 := cell_of (j := 4) t1' rfl
        have y4 := cell_of (j := 4) t2 rfl
        have x5 := cell_of (j := 5) t1' rfl
        have y5 := cell_of (j := 5) t2 rfl
        clear hw1 hw2 hb1 hb2 t1 t2 t1' hs1
        go_wp2_with fail
        go_ret
        exact ⟨rfl, HB.out⟩
      | true =>
        cases a4 with
        | false =>
          simp only [Bool.false_and, Bool.true_and, Bool.and_false]
          go_enter Try.func14, Try.ntmps14
          go_upto_region 1 with fail
          generalize hw1 : w.alloc _ = w1
          have hb1 : Below w.heap.size w w1 := by rw [← hw1]; exact (Below.refl _ _).alloc (Nat.le_refl _) _
          have t1 : w1.heap[w.heap.size]? = some (.cells #[.string m1, .bool s1, .int .i64 z1, .slice ag g1.length cg, .slice al l1.length cl, .slice ak k1.length ck] 37 (0, 0)) := by rw [← hw1]; exact heap_alloc_new w _
          have hs1 : w1.heap.size = w.heap.size + 1 := by rw [← hw1]; simp
          generalize hw2 : w1.alloc _ = w2
          have hb2 : Below w1.heap.size w1 w2 := by rw [← hw2]; exact (Below.refl _ _).alloc (Nat.le_refl _) _
          have t2 : w2.heap[w1.heap.size]? = some (.cells #[.string m2, .bool s2, .int .i64 z2, .slice bg g2.length dg, .slice bl l2.length dl, .slice bk k2.length dk] 37 (0, 0)) := by rw [← hw2]; exact heap_alloc_new w1 _
          have HB := Lib.hid (hb1.trans (hb2.mono hb1.size))
          have t1' : w2.heap[w.heap.size]? = some (.cells #[.string m1, .bool s1, .int .i64 z1, .slice ag g1.length cg, .slice al l1.length cl, .slice ak k1.length ck] 37 (0, 0)) := by rw [hb2.block _ (by omega)]; exact t1
          rw [hs1] at t2
          have hl1 : w.heap.size < w2.heap.size := (Array.getElem?_eq_some_iff.1 t1').1
          have hl2 : w.heap.size + 1 < w2.heap.size := (Array.getElem?_eq_some_iff.1 t2).1
          have HT1 := Lib.hid t1'
          have HT2 := Lib.hid t2
          have x0 := cell_of (j := 0) t1' rfl
          have y0 := cell_of (j := 0) t2 rfl
          have x1 := cell_of (j := 1) t1' rfl
          have y1 := cell_of (j := 1) t2 rfl
          have x2 := cell_of (j := 2) t1' rfl
          have y2 := cell_of (j := 2) t2 rfl
          have x3 := cell_of (j := 3) t1' rfl
          have y3 := cell_of (j := 3) t2 rfl
          have x4 := cell_of (j := 4) t1' rfl
          have y4 := cell_of (j := 4) t2 rfl
          have x5 := cell_of (j := 5) t1' rfl
          have y5 := cell_of (j := 5) t2 rfl
          clear hw1 hw2 hb1 hb2 t1 t2 t1' hs1
          go_wp2_with fail
          refine (H1.out _ HB.out).mono ?_
          rintro e v1 ⟨rfl, hc⟩
          have HB1 := Lib.hid (HB.out.trans (hc.mono HB.out.size))
          clear hc
          go_wp2_with fail
          go_ret
          exact ⟨rfl, HB1.out⟩
        | true =>
          cases a5 with
          | false =>
            simp only [Bool.false_and, Bool.true_and, Bool.and_false]
            go_enter Try.func14, Try.ntmps14
            go_upto_region 1 with fail
            generalize hw1 : w.alloc _ = w1
            have hb1 : Below w.heap.size w w1 := by rw [← hw1]; exact (Below.refl _ _).alloc (Nat.le_refl _) _
            have t1 : w1.heap[w.heap.size]? = some (.cells #[.string m1, .bool s1, .int .i64 z1, .slice ag g1.length cg, .slice al l1.length cl, .slice ak k1.length ck] 37 (0, 0)) := by rw [← hw1]; exact heap_alloc_new w _
            have hs1 : w1.heap.size = w.heap.size + 1 := by rw [← hw1]; simp
            generalize hw2 : w1.alloc _ = w2
            have hb2 : Below w1.heap.size w1 w2 := by rw [← hw2]; exact (Below.refl _ _).alloc (Nat.le_refl _) _
            have t2 : w2.heap[w1.heap.size]? = some (.cells #[.string m2, .bool s2, .int .i64 z2, .slice bg g2.length dg, .slice bl l2.length dl, .slice bk k2.length dk] 37 (0, 0)) := by rw [← hw2]; exact heap_alloc_new w1 _
            have HB := Lib.hid (hb1.trans (hb2.mono hb1.size))
            have t1' : w2.heap[w.heap.size]? = some (.cells #[.string m1, .bool s1, .int .i64 z1, .slice ag g1.length cg, .slice al l1.length cl, .slice ak k1.length ck] 37 (0, 0)) := by rw [hb2.block _ (by omega)]; exact t1
            rw [hs1] at t2
            have hl1 : w.heap.size < w2.heap.size := (Array.getElem?_eq_some_iff.1 t1').1
            have hl2 : w.heap.size + 1 < w2.heap.size := (Array.getElem?_eq_some_iff.1 t2).1
            have HT1 := Lib.hid t1'
            have HT2 := Lib.hid t2
            have x0 := cell_of (j := 0) t1' rfl
            have y0 := cell_of (j := 0) t2 rfl
            have x1 := cell_of (j := 1) t1' rfl
            have y1 := cell_of (j := 1) t2 rfl
            have x2 := cell_of (j := 2) t1' rfl
            have y2 := cell_of (j := 2) t2 rfl
            have x3 := cell_of (j := 3) t1' rfl
            have y3 := cell_of (j := 3) t2 rfl
            have x4 := cell_of (j := 4) t1' rfl
            have y4 := cell_of (j := 4) t2 rfl
            have x5 := cell_of (j := 5) t1' rfl
            have y5 := cell_of (j := 5) t2 rfl
            clear hw1 hw2 hb1 hb2 t1 t2 t1' hs1
            go_wp2_with fail
            refine (H1.out _ HB.out).mono ?_
            rintro e v1 ⟨rfl, hc⟩
            have HB1 := Lib.hid (HB.out.trans (hc.mono HB.out.size))
            have q1 := hc.block _ hl1
            have q2 := hc.block _ hl2
            rw [HT1.out] at q1
            rw [HT2.out] at q2
            have p1 := cell_of (j := 4) q1 rfl
            have p2 := cell_of (j := 4) q2 rfl
            have HT1' := Lib.hid q1
            have HT2' := Lib.hid q2
            have hl1' := (Array.getElem?_eq_some_iff.1 q1).1
            have hl2' := (Array.getElem?_eq_some_iff.1 q2).1
            clear hc q1 q2 HT1 HT2 hl1 hl2
            have HT1 := HT1'
            have HT2 := HT2'
            have hl1 := hl1'
            have hl2 := hl2'
            clear HT1' HT2' hl1' hl2'
            go_wp2_with fail
            refine (H2.out _ HB1.out).mono ?_
            rintro e v2 ⟨rfl, hc⟩
            have HB2 := Lib.hid (HB1.out.trans (hc.mono HB1.out.size))
            clear hc
            go_wp2_with fail
            go_ret
            exact ⟨rfl, HB2.out⟩
          | true =>
            cases a6 with
            | false =>
              simp only [Bool.true_and, Bool.and_false]
              go_enter Try.func14, Try.ntmps14
              go_upto_region 1 with fail
              generalize hw1 : w.alloc _ = w1
              have hb1 : Below w.heap.size w w1 := by rw [← hw1]; exact (Below.refl _ _).alloc (Nat.le_refl _) _
              have t1 : w1.heap[w.heap.size]? = some (.cells #[.string m1, .bool s1, .int .i64 z1, .slice ag g1.length cg, .slice al l1.length cl, .slice ak k1.length ck] 37 (0, 0)) := by rw [← hw1]; exact heap_alloc_new w _
              have hs1 : w1.heap.size = w.heap.size + 1 := by rw [← hw1]; simp
              generalize hw2 : w1.alloc _ = w2
              have hb2 : Below w1.heap.size w1 w2 := by rw [← hw2]; exact (Below.refl _ _).alloc (Nat.le_refl _) _
              have t2 : w2.heap[w1.heap.size]? = some (.cells #[.string m2, .bool s2, .int .i64 z2, .slice bg g2.length dg, .slice bl l2.length dl, .slice bk k2.length dk] 37 (0, 0)) := by rw [← hw2]; exact heap_alloc_new w1 _
              have HB := Lib.hid (hb1.trans (hb2.mono hb1.size))
              have t1' : w2.heap[w.heap.size]? = some (.cells #[.string m1, .bool s1, .int .i64 z1, .slice ag g1.length cg, .slice al l1.length cl, .slice ak k1.length ck] 37 (0, 0)) := by rw [hb2.block _ (by omega)]; exact t1
              rw [hs1] at t2
              have hl1 : w.heap.size < w2.heap.size := (Array.getElem?_eq_some_iff.1 t1').1
              have hl2 : w.heap.size + 1 < w2.heap.size := (Array.getElem?_eq_some_iff.1 t2).1
              have HT1 := Lib.hid t1'
              have HT2 := Lib.hid t2
              have x0 := cell_of (j := 0) t1' rfl
              have y0 := cell_of (j := 0) t2 rfl
              have x1 := cell_of (j := 1) t1' rfl
              have y1 := cell_of (j := 1) t2 rfl
              have x2 := cell_of (j := 2) t1' rfl
              have y2 := cell_of (j := 2) t2 rfl
              have x3 := cell_of (j := 3) t1' rfl
              have y3 := cell_of (j := 3) t2 rfl
              have x4 := cell_of (j := 4) t1' rfl
              have y4 := cell_of (j := 4) t2 rfl
              have x5 := cell_of (j := 5) t1' rfl
              have y5 := cell_of (j := 5) t2 rfl
              clear hw1 hw2 hb1 hb2 t1 t2 t1' hs1
              go_wp2_with fail
              refine (H1.out _ HB.out).mono ?_
              rintro e v1 ⟨rfl, hc⟩
              have HB1 := Lib.hid (HB.out.trans (hc.mono HB.out.size))
              have q1 := hc.block _ hl1
              have q2 := hc.block _ hl2
              rw [HT1.out] at q1
              rw [HT2.out] at q2
              have p1 := cell_of (j := 4) q1 rfl
              have p2 := cell_of (j := 4) q2 rfl
              have HT1' := Lib.hid q1
              have HT2' := Lib.hid q2
              have hl1' := (Array.getElem?_eq_some_iff.1 q1).1
              have hl2' := (Array.getElem?_eq_some_iff.1 q2).1
              clear hc q1 q2 HT1 HT2 hl1 hl2
              have HT1 := HT1'
              have HT2 := HT2'
              have hl1 := hl1'
              have hl2 := hl2'
              clear HT1' HT2' hl1' hl2'
              go_wp2_with fail
              refine (H2.out _ HB1.out).mono ?_
              rintro e v2 ⟨rfl, hc⟩
              have HB2 := Lib.hid (HB1.out.trans (hc.mono HB1.out.size))
              have q1 := hc.block _ hl1
              have q2 := hc.block _ hl2
              rw [HT1.out] at q1
              rw [HT2.out] at q2
              have p1 := cell_of (j := 5) q1 rfl
              have p2 := cell_of (j := 5) q2 rfl
              have HT1' := Lib.hid q1
              have HT2' := Lib.hid q2
              have hl1' := (Array.getElem?_eq_some_iff.1 q1).1
              have hl2' := (Array.getElem?_eq_some_iff.1 q2).1
              clear hc q1 q2 HT1 HT2 hl1 hl2
              have HT1 := HT1'
              have HT2 := HT2'
              have hl1 := hl1'
              have hl2 := hl2'
              clear HT1' HT2' hl1' hl2'
              go_wp2_with fail
              refine (H3.out _ HB2.out).mono ?_
              rintro e v3 ⟨rfl, hc⟩
              have HB3 := Lib.hid (HB2.out.trans (hc.mono HB2.out.size))
              clear hc
              go_wp2_with fail
              go_ret
              exact ⟨rfl, HB3.out⟩
            | true =>
              simp only [Bool.true_and]
              go_enter Try.func14, Try.ntmps14
              go_upto_region 1 with fail
              generalize hw1 : w.alloc _ = w1
              have hb1 : Below w.heap.size w w1 := by rw [← hw1]; exact (Below.refl _ _).alloc (Nat.le_refl _) _
              have t1 : w1.heap[w.heap.size]? = some (.cells #[.string m1, .bool s1, .int .i64 z1, .slice ag g1.length cg, .slice al l1.length cl, .slice ak k1.length ck] 37 (0, 0)) := by rw [← hw1]; exact heap_alloc_new w _
              have hs1 : w1.heap.size = w.heap.size + 1 := by rw [← hw1]; simp
              generalize hw2 : w1.alloc _ = w2
              have hb2 : Below w1.heap.size w1 w2 := by rw [← hw2]; exact (Below.refl _ _).alloc (Nat.le_refl _) _
              have t2 : w2.heap[w1.heap.size]? = some (.cells #[.string m2, .bool s2, .int .i64 z2, .slice bg g2.length dg, .slice bl l2.length dl, .slice bk k2.length dk] 37 (0, 0)) := by rw [← hw2]; exact heap_alloc_new w1 _
              have HB := Lib.hid (hb1.trans (hb2.mono hb1.size))
              have t1' : w2.heap[w.heap.size]? = some (.cells #[.string m1, .bool s1, .int .i64 z1, .slice ag g1.length cg, .slice al l1.length cl, .slice ak k1.length ck] 37 (0, 0)) := by rw [hb2.block _ (by omega)]; exact t1
              rw [hs1] at t2
              have hl1 : w.heap.size < w2.heap.size := (Array.getElem?_eq_some_iff.1 t1').1
              have hl2 : w.heap.size + 1 < w2.heap.size := (Array.getElem?_eq_some_iff.1 t2).1
              have HT1 := Lib.hid t1'
              have HT2 := Lib.hid t2
              have x0 := cell_of (j := 0) t1' rfl
              have y0 := cell_of (j := 0) t2 rfl
              have x1 := cell_of (j := 1) t1' rfl
              have y1 := cell_of (j := 1) t2 rfl
              have x2 := cell_of (j := 2) t1' rfl
              have y2 := cell_of (j := 2) t2 rfl
              have x3 := cell_of (j := 3) t1' rfl
              have y3 := cell_of (j := 3) t2 rfl
              have x4 := cell_of (j := 4) t1' rfl
              have y4 := cell_of (j := 4) t2 rfl
              have x5 := cell_of (j := 5) t1' rfl
              have y5 := cell_of (j := 5) t2 rfl
              clear hw1 hw2 hb1 hb2 t1 t2 t1' hs1
              go_wp2_with fail
              refine (H1.out _ HB.out).mono ?_
              rintro e v1 ⟨rfl, hc⟩
              have HB1 := Lib.hid (HB.out.trans (hc.mono HB.out.size))
              have q1 := hc.block _ hl1
              have q2 := hc.block _ hl2
              rw [HT1.out] at q1
              rw [HT2.out] at q2
              have p1 := cell_of (j := 4) q1 rfl
              have p2 := cell_of (j := 4) q2 rfl
              have HT1' := Lib.hid q1
              have HT2' := Lib.hid q2
              have hl1' := (Array.getElem?_eq_some_iff.1 q1).1
              have hl2' := (Array.getElem?_eq_some_iff.1 q2).1
              clear hc q1 q2 HT1 HT2 hl1 hl2
              have HT1 := HT1'
              have HT2 := HT2'
              have hl1 := hl1'
              have hl2 := hl2'
              clear HT1' HT2' hl1' hl2'
              go_wp2_with fail
              refine (H2.out _ HB1.out).mono ?_
              rintro e v2 ⟨rfl, hc⟩
              have HB2 := Lib.hid (HB1.out.trans (hc.mono HB1.out.size))
              have q1 := hc.block _ hl1
              have q2 := hc.block _ hl2
              rw [HT1.out] at q1
              rw [HT2.out] at q2
              have p1 := cell_of (j := 5) q1 rfl
              have p2 := cell_of (j := 5) q2 rfl
              have HT1' := Lib.hid q1
              have HT2' := Lib.hid q2
              have hl1' := (Array.getElem?_eq_some_iff.1 q1).1
              have hl2' := (Array.getElem?_eq_some_iff.1 q2).1
              clear hc q1 q2 HT1 HT2 hl1 hl2
              have HT1 := HT1'
              have HT2 := HT2'
              have hl1 := hl1'
              have hl2 := hl2'
              clear HT1' HT2' hl1' hl2'
              go_wp2_with fail
              refine (H3.out _ HB2.out).mono ?_
              rintro e v3 ⟨rfl, hc⟩
              have HB3 := Lib.hid (HB2.out.trans (hc.mono HB2.out.size))
              clear hc
              go_wp2_with fail
              go_ret
              exact ⟨rfl, HB3.out⟩
end Go.Proofs.Ytboophfcakdlcaa
