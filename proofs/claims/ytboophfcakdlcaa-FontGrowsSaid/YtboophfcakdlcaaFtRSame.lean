/- The document's Same. -/
import Derived.Test.YtboophfcakdlcaaFtAsW
namespace Go.Proofs.Ytboophfcakdlcaa
open Go.RowKit Go.PlainAid Go.Shelf

theorem neqR_G : NeqAt Try.prog 83 (fun x => .agg (encG x).toArray) eqG := by
  refine ⟨fun x y w => ?_, GuardAt.agg _ (by kernel_rfl)⟩
  have uint := Try.underlying3
  have aint := Try.isAgg3
  have ustring := Try.underlying9
  have astring := Try.isAgg9
  have hS : Try.prog.underlying 83 = some (.struct (Try.prog.fieldsOf 83)) := by kernel_rfl
  have hp : Try.prog.stoodInHeld 83 = false := by kernel_rfl
  simp only [encG]
  rw [run_neq_struct, show (10000 : Nat) = 9999 + 1 from rfl, run_equalIn_agg w 9999 83 _ _ hS hp]
  simp only [Program.fieldsOf, Try.underlying83]
  go_simp
  unfold eqG
  cases h0 : x.nm == y.nm <;> cases h1 : x.wd == y.wd <;> simp_all
theorem neqR_Lg : NeqAt Try.prog 85 (fun x => .agg (encLg x).toArray) eqLg := by
  refine ⟨fun x y w => ?_, GuardAt.agg _ (by kernel_rfl)⟩
  have uint := Try.underlying3
  have aint := Try.isAgg3
  have ustring := Try.underlying9
  have astring := Try.isAgg9
  have hS : Try.prog.underlying 85 = some (.struct (Try.prog.fieldsOf 85)) := by kernel_rfl
  have hp : Try.prog.stoodInHeld 85 = false := by kernel_rfl
  simp only [encLg]
  rw [run_neq_struct, show (10000 : Nat) = 9999 + 1 from rfl, run_equalIn_agg w 9999 85 _ _ hS hp]
  simp only [Program.fieldsOf, Try.underlying85]
  go_simp
  unfold eqLg
  cases h0 : x.a == y.a <;> cases h1 : x.b == y.b <;> cases h2 : x.is == y.is <;> simp_all
theorem neqR_Kn : NeqAt Try.prog 87 (fun x => .agg (encKn x).toArray) eqKn := by
  refine ⟨fun x y w => ?_, GuardAt.agg _ (by kernel_rfl)⟩
  have uint := Try.underlying3
  have aint := Try.isAgg3
  have ustring := Try.underlying9
  have astring := Try.isAgg9
  have hS : Try.prog.underlying 87 = some (.struct (Try.prog.fieldsOf 87)) := by kernel_rfl
  have hp : Try.prog.stoodInHeld 87 = false := by kernel_rfl
  simp only [encKn]
  rw [run_neq_struct, show (10000 : Nat) = 9999 + 1 from rfl, run_equalIn_agg w 9999 87 _ _ hS hp]
  simp only [Program.fieldsOf, Try.underlying87]
  go_simp
  unfold eqKn
  cases h0 : x.a == y.a <;> cases h1 : x.b == y.b <;> cases h2 : x.more == y.more <;> simp_all
set_option maxRecDepth 100000 in
set_option maxHeartbeats 8000000 in
theorem rsame_any (x y : FA) (w : World) (hx : x.ok w) (hy : y.ok w) (fx : x.fit) : Calls Try.prog 11 #[fontVal x, fontVal y] w (Makes (.bool (sameF x.F y.F)) w) := by
  have HX := Lib.hid hx
  have HY := Lib.hid hy
  clear hx hy
  obtain ⟨⟨n1, s1, z1, g1, l1, k1⟩, ag, al, ak, cg, cl, ck⟩ := x
  obtain ⟨⟨n2, s2, z2, g2, l2, k2⟩, bg, bl, bk, dg, dl, dk⟩ := y
  obtain ⟨f1, f2, f3⟩ := fx
  simp only at f1 f2 f3 ⊢
  unfold sameF
  show Calls _ _ #[.agg #[.string (mk8 n1), .bool s1, .int .i64 z1, .slice ag g1.length cg, .slice al l1.length cl, .slice ak k1.length ck], .agg #[.string (mk8 n2), .bool s2, .int .i64 z2, .slice bg g2.length dg, .slice bl l2.length dl, .slice bk k2.length dk]] w (Makes (.bool (n1 == n2 && s1 == s2 && z1 == z2 && Lib.allEq eqG g1 g2 && Lib.allEq eqLg l1 l2 && Lib.allEq eqKn k1 k2)) w)
  have e1 : ((mk8 n1).toList == (mk8 n2).toList) = (n1 == n2) := by rw [mk8_list, mk8_list]
  obtain ⟨a1, ha1⟩ : ∃ b, (n1 == n2) = b := ⟨_, rfl⟩
  obtain ⟨a2, ha2⟩ : ∃ b, (s1 == s2) = b := ⟨_, rfl⟩
  obtain ⟨a3, ha3⟩ : ∃ b, (z1 == z2) = b := ⟨_, rfl⟩
  rw [ha1] at e1
  rw [ha1, ha2, ha3]
  obtain ⟨m1, hm1⟩ : ∃ m, mk8 n1 = m := ⟨_, rfl⟩
  obtain ⟨m2, hm2⟩ : ∃ m, mk8 n2 = m := ⟨_, rfl⟩
  rw [hm1, hm2] at e1 ⊢
  clear ha1 hm1 hm2
  cases a1 with
  | false =>
    simp only [Bool.false_and]
    go_enter Try.func11, Try.ntmps11
    go_upto_region 1 with fail
    generalize hw1 : w.alloc _ = w1
    have hb1 : Below w.heap.size w w1 := by rw [← hw1]; exact (Below.refl _ _).alloc (Nat.le_refl _) _
    have t1 : w1.heap[w.heap.size]? = some (.cells #[.string m1, .bool s1, .int .i64 z1, .slice ag g1.length cg, .slice al l1.length cl, .slice ak k1.length ck] 31 (0, 0)) := by rw [← hw1]; exact heap_alloc_new w _
    have hs1 : w1.heap.size = w.heap.size + 1 := by rw [← hw1]; simp
    generalize hw2 : w1.alloc _ = w2
    have hb2 : Below w1.heap.size w1 w2 := by rw [← hw2]; exact (Below.refl _ _).alloc (Nat.le_refl _) _
    have t2 : w2.heap[w1.heap.size]? = some (.cells #[.string m2, .bool s2, .int .i64 z2, .slice bg g2.length dg, .slice bl l2.length dl, .slice bk k2.length dk] 31 (0, 0)) := by rw [← hw2]; exact heap_alloc_new w1 _
    have HB := Lib.hid (hb1.trans (hb2.mono hb1.size))
    have t1' : w2.heap[w.heap.size]? = some (.cells #[.string m1, .bool s1, .int .i64 z1, .slice ag g1.length cg, .slice al l1.length cl, .slice ak k1.length ck] 31 (0, 0)) := by rw [hb2.block _ (by omega)]; exact t1
    rw [hs1] at t2
    obtain ⟨p, hp⟩ : ∃ p, w.heap.size = p := ⟨_, rfl⟩
    obtain ⟨r, hr⟩ : ∃ r, p + 1 = r := ⟨_, rfl⟩
    have HPW : Hid (w.heap.size = p) := hp
    rw [hp] at t1' t2
    rw [hr] at t2
    simp only [hp, hr]
    have hl1 : p < w2.heap.size := (Array.getElem?_eq_some_iff.1 t1').1
    have hl2 : r < w2.heap.size := (Array.getElem?_eq_some_iff.1 t2).1
    have HT1 := Lib.hid t1'
    have HT2 := Lib.hid t2
    have x0 := cell_of (j := 0) t1' rfl
    have y0 := cell_of (j := 0) t2 rfl
    have x1 := cell_of (j := 1) t1' rfl
    have y1 := cell_of (j := 1) t2 rfl
    have x2 := cell_of (j := 2) t1' rfl
    have y2 := cell_of (j := 2) t2 rfl
    have x3 := cell_of (j := 3) t1' rfl
    have y3 := cell_of (j := 3) t2 rfl
    have x4 := cell_of (j := 4) t1' rfl
    have y4 := cell_of (j := 4) t2 rfl
    have x5 := cell_of (j := 5) t1' rfl
    have y5 := cell_of (j := 5) t2 rfl
    clear hw1 hw2 hb1 hb2 t1 t2 t1' hs1 hp hr
    go_wp2_with fail
    go_ret
    exact ⟨rfl, HB.out⟩
  | true =>
    cases a2 with
    | false =>
      simp only [Bool.false_and, Bool.and_false]
      go_enter Try.func11, Try.ntmps11
      go_upto_region 1 with fail
      generalize hw1 : w.alloc _ = w1
      have hb1 : Below w.heap.size w w1 := by rw [← hw1]; exact (Below.refl _ _).alloc (Nat.le_refl _) _
      have t1 : w1.heap[w.heap.size]? = some (.cells #[.string m1, .bool s1, .int .i64 z1, .slice ag g1.length cg, .slice al l1.length cl, .slice ak k1.length ck] 31 (0, 0)) := by rw [← hw1]; exact heap_alloc_new w _
      have hs1 : w1.heap.size = w.heap.size + 1 := by rw [← hw1]; simp
      generalize hw2 : w1.alloc _ = w2
      have hb2 : Below w1.heap.size w1 w2 := by rw [← hw2]; exact (Below.refl _ _).alloc (Nat.le_refl _) _
      have t2 : w2.heap[w1.heap.size]? = some (.cells #[.string m2, .bool s2, .int .i64 z2, .slice bg g2.length dg, .slice bl l2.length dl, .slice bk k2.length dk] 31 (0, 0)) := by rw [← hw2]; exact heap_alloc_new w1 _
      have HB := Lib.hid (hb1.trans (hb2.mono hb1.size))
      have t1' : w2.heap[w.heap.size]? = some (.cells #[.string m1, .bool s1, .int .i64 z1, .slice ag g1.length cg, .slice al l1.length cl, .slice ak k1.length ck] 31 (0, 0)) := by rw [hb2.block _ (by omega)]; exact t1
      rw [hs1] at t2
      obtain ⟨p, hp⟩ : ∃ p, w.heap.size = p := ⟨_, rfl⟩
      obtain ⟨r, hr⟩ : ∃ r, p + 1 = r := ⟨_, rfl⟩
      have HPW : Hid (w.heap.size = p) := hp
      rw [hp] at t1' t2
      rw [hr] at t2
      simp only [hp, hr]
      have hl1 : p < w2.heap.size := (Array.getElem?_eq_some_iff.1 t1').1
      have hl2 : r < w2.heap.size := (Array.getElem?_eq_some_iff.1 t2).1
      have HT1 := Lib.hid t1'
      have HT2 := Lib.hid t2
      have x0 := cell_of (j := 0) t1' rfl
      have y0 := cell_of (j := 0) t2 rfl
      have x1 := cell_of (j := 1) t1' rfl
      have y1 := cell_of (j := 1) t2 rfl
      have x2 := cell_of (j := 2) t1' rfl
      have y2 := cell_of (j := 2) t2 rfl
      have x3 := cell_of (j := 3) t1' rfl
      have y3 := cell_of (j := 3) t2 rfl
      have x4 := cell_of (j := 4) t1' rfl
      have y4 := cell_of (j := 4) t2 rfl
      have x5 := cell_of (j := 5) t1' rfl
      have y5 := cell_of (j := 5) t2 rfl
      clear hw1 hw2 hb1 hb2 t1 t2 t1' hs1 hp hr
      go_wp2_with fail
      go_ret
      exact ⟨rfl, HB.out⟩
    | true =>
      cases a3 with
      | false =>
        simp only [Bool.false_and, Bool.and_false, Bool.true_and]
        have hzn : (z1 != z2) = true := by rw [bne, ha3]; rfl
        have hzp : ¬ z1 = z2 := by simpa using ha3
        go_enter Try.func11, Try.ntmps11
        go_upto_region 1 with fail
        generalize hw1 : w.alloc _ = w1
        have hb1 : Below w.heap.size w w1 := by rw [← hw1]; exact (Below.refl _ _).alloc (Nat.le_refl _) _
        have t1 : w1.heap[w.heap.size]? = some (.cells #[.string m1, .bool s1, .int .i64 z1, .slice ag g1.length cg, .slice al l1.length cl, .slice ak k1.length ck] 31 (0, 0)) := by rw [← hw1]; exact heap_alloc_new w _
        have hs1 : w1.heap.size = w.heap.size + 1 := by rw [← hw1]; simp
        generalize hw2 : w1.alloc _ = w2
        have hb2 : Below w1.heap.size w1 w2 := by rw [← hw2]; exact (Below.refl _ _).alloc (Nat.le_refl _) _
        have t2 : w2.heap[w1.heap.size]? = some (.cells #[.string m2, .bool s2, .int .i64 z2, .slice bg g2.length dg, .slice bl l2.length dl, .slice bk k2.length dk] 31 (0, 0)) := by rw [← hw2]; exact heap_alloc_new w1 _
        have HB := Lib.hid (hb1.trans (hb2.mono hb1.size))
        have t1' : w2.heap[w.heap.size]? = some (.cells #[.string m1, .bool s1, .int .i64 z1, .slice ag g1.length cg, .slice al l1.length cl, .slice ak k1.length ck] 31 (0, 0)) := by rw [hb2.block _ (by omega)]; exact t1
        rw [hs1] at t2
        obtain ⟨p, hp⟩ : ∃ p, w.heap.size = p := ⟨_, rfl⟩
        obtain ⟨r, hr⟩ : ∃ r, p + 1 = r := ⟨_, rfl⟩
        have HPW : Hid (w.heap.size = p) := hp
        rw [hp] at t1' t2
        rw [hr] at t2
        simp only [hp, hr]
        have hl1 : p < w2.heap.size := (Array.getElem?_eq_some_iff.1 t1').1
        have hl2 : r < w2.heap.size := (Array.getElem?_eq_some_iff.1 t2).1
        have HT1 := Lib.hid t1'
        have HT2 := Lib.hid t2
        have x0 := cell_of (j := 0) t1' rfl
        have y0 := cell_of (j := 0) t2 rfl
        have x1 := cell_of (j := 1) t1' rfl
        have y1 := cell_of (j := 1) t2 rfl
        have x2 := cell_of (j := 2) t1' rfl
        have y2 := cell_of (j := 2) t2 rfl
        have x3 := cell_of (j := 3) t1' rfl
        have y3 := cell_of (j := 3) t2 rfl
        have x4 := cell_of (j := 4) t1' rfl
        have y4 := cell_of (j := 4) t2 rfl
        have x5 := cell_of (j := 5) t1' rfl
        have y5 := cell_of (j := 5) t2 rfl
        clear hw1 hw2 hb1 hb2 t1 t2 t1' hs1 hp hr
        go_wp2_with fail
        go_ret
        exact ⟨rfl, HB.out⟩
      | true =>
        simp only [Bool.true_and]
        obtain rfl : z1 = z2 := by simpa using ha3
        obtain rfl : s1 = s2 := by simpa using ha2
        clear ha2 ha3
        by_cases hlg : g2.length = g1.length
        case neg =>
          have d1 : ((g1.length : Int) != (g2.length : Int)) = true := by simp; omega
          rw [Lib.allEq_len eqG g1 g2 (by omega)]
          simp only [Bool.false_and]
          go_enter Try.func11, Try.ntmps11
          go_upto_region 1 with fail
          generalize hw1 : w.alloc _ = w1
          have hb1 : Below w.heap.size w w1 := by rw [← hw1]; exact (Below.refl _ _).alloc (Nat.le_refl _) _
          have t1 : w1.heap[w.heap.size]? = some (.cells #[.string m1, .bool s1, .int .i64 z1, .slice ag g1.length cg, .slice al l1.length cl, .slice ak k1.length ck] 31 (0, 0)) := by rw [← hw1]; exact heap_alloc_new w _
          have hs1 : w1.heap.size = w.heap.size + 1 := by rw [← hw1]; simp
          generalize hw2 : w1.alloc _ = w2
          have hb2 : Below w1.heap.size w1 w2 := by rw [← hw2]; exact (Below.refl _ _).alloc (Nat.le_refl _) _
          have t2 : w2.heap[w1.heap.size]? = some (.cells #[.string m2, .bool s1, .int .i64 z1, .slice bg g2.length dg, .slice bl l2.length dl, .slice bk k2.length dk] 31 (0, 0)) := by rw [← hw2]; exact heap_alloc_new w1 _
          have HB := Lib.hid (hb1.trans (hb2.mono hb1.size))
          have t1' : w2.heap[w.heap.size]? = some (.cells #[.string m1, .bool s1, .int .i64 z1, .slice ag g1.length cg, .slice al l1.length cl, .slice ak k1.length ck] 31 (0, 0)) := by rw [hb2.block _ (by omega)]; exact t1
          rw [hs1] at t2
          obtain ⟨p, hp⟩ : ∃ p, w.heap.size = p := ⟨_, rfl⟩
          obtain ⟨r, hr⟩ : ∃ r, p + 1 = r := ⟨_, rfl⟩
          have HPW : Hid (w.heap.size = p) := hp
          rw [hp] at t1' t2
          rw [hr] at t2
          simp only [hp, hr]
          have hl1 : p < w2.heap.size := (Array.getElem?_eq_some_iff.1 t1').1
          have hl2 : r < w2.heap.size := (Array.getElem?_eq_some_iff.1 t2).1
          have HT1 := Lib.hid t1'
          have HT2 := Lib.hid t2
          have x0 := cell_of (j := 0) t1' rfl
          have y0 := cell_of (j := 0) t2 rfl
          have x1 := cell_of (j := 1) t1' rfl
          have y1 := cell_of (j := 1) t2 rfl
          have x2 := cell_of (j := 2) t1' rfl
          have y2 := cell_of (j := 2) t2 rfl
          have x3 := cell_of (j := 3) t1' rfl
          have y3 := cell_of (j := 3) t2 rfl
          have x4 := cell_of (j := 4) t1' rfl
          have y4 := cell_of (j := 4) t2 rfl
          have x5 := cell_of (j := 5) t1' rfl
          have y5 := cell_of (j := 5) t2 rfl
          clear hw1 hw2 hb1 hb2 t1 t2 t1' hs1 hp hr
          go_wp2_with fail
          go_ret
          exact ⟨rfl, HB.out⟩
        rw [hlg]
        by_cases hll : l2.length = l1.length
        case neg =>
          have d1 : ((l1.length : Int) != (l2.length : Int)) = true := by simp; omega
          rw [Lib.allEq_len eqLg l1 l2 (by omega)]
          simp only [Bool.false_and, Bool.and_false]
          go_enter Try.func11, Try.ntmps11
          go_upto_region 1 with fail
          generalize hw1 : w.alloc _ = w1
          have hb1 : Below w.heap.size w w1 := by rw [← hw1]; exact (Below.refl _ _).alloc (Nat.le_refl _) _
          have t1 : w1.heap[w.heap.size]? = some (.cells #[.string m1, .bool s1, .int .i64 z1, .slice ag g1.length cg, .slice al l1.length cl, .slice ak k1.length ck] 31 (0, 0)) := by rw [← hw1]; exact heap_alloc_new w _
          have hs1 : w1.heap.size = w.heap.size + 1 := by rw [← hw1]; simp
          generalize hw2 : w1.alloc _ = w2
          have hb2 : Below w1.heap.size w1 w2 := by rw [← hw2]; exact (Below.refl _ _).alloc (Nat.le_refl _) _
          have t2 : w2.heap[w1.heap.size]? = some (.cells #[.string m2, .bool s1, .int .i64 z1, .slice bg g1.length dg, .slice bl l2.length dl, .slice bk k2.length dk] 31 (0, 0)) := by rw [← hw2]; exact heap_alloc_new w1 _
          have HB := Lib.hid (hb1.trans (hb2.mono hb1.size))
          have t1' : w2.heap[w.heap.size]? = some (.cells #[.string m1, .bool s1, .int .i64 z1, .slice ag g1.length cg, .slice al l1.length cl, .slice ak k1.length ck] 31 (0, 0)) := by rw [hb2.block _ (by omega)]; exact t1
          rw [hs1] at t2
          obtain ⟨p, hp⟩ : ∃ p, w.heap.size = p := ⟨_, rfl⟩
          obtain ⟨r, hr⟩ : ∃ r, p + 1 = r := ⟨_, rfl⟩
          have HPW : Hid (w.heap.size = p) := hp
          rw [hp] at t1' t2
          rw [hr] at t2
          simp only [hp, hr]
          have hl1 : p < w2.heap.size := (Array.getElem?_eq_some_iff.1 t1').1
          have hl2 : r < w2.heap.size := (Array.getElem?_eq_some_iff.1 t2).1
          have HT1 := Lib.hid t1'
          have HT2 := Lib.hid t2
          have x0 := cell_of (j := 0) t1' rfl
          have y0 := cell_of (j := 0) t2 rfl
          have x1 := cell_of (j := 1) t1' rfl
          have y1 := cell_of (j := 1) t2 rfl
          have x2 := cell_of (j := 2) t1' rfl
          have y2 := cell_of (j := 2) t2 rfl
          have x3 := cell_of (j := 3) t1' rfl
          have y3 := cell_of (j := 3) t2 rfl
          have x4 := cell_of (j := 4) t1' rfl
          have y4 := cell_of (j := 4) t2 rfl
          have x5 := cell_of (j := 5) t1' rfl
          have y5 := cell_of (j := 5) t2 rfl
          clear hw1 hw2 hb1 hb2 t1 t2 t1' hs1 hp hr
          go_wp2_with fail
          go_ret
          exact ⟨rfl, HB.out⟩
        rw [hll]
        by_cases hlk : k2.length = k1.length
        case neg =>
          have d1 : ((k1.length : Int) != (k2.length : Int)) = true := by simp; omega
          rw [Lib.allEq_len eqKn k1 k2 (by omega)]
          simp only [Bool.and_false]
          go_enter Try.func11, Try.ntmps11
          go_upto_region 1 with fail
          generalize hw1 : w.alloc _ = w1
          have hb1 : Below w.heap.size w w1 := by rw [← hw1]; exact (Below.refl _ _).alloc (Nat.le_refl _) _
          have t1 : w1.heap[w.heap.size]? = some (.cells #[.string m1, .bool s1, .int .i64 z1, .slice ag g1.length cg, .slice al l1.length cl, .slice ak k1.length ck] 31 (0, 0)) := by rw [← hw1]; exact heap_alloc_new w _
          have hs1 : w1.heap.size = w.heap.size + 1 := by rw [← hw1]; simp
          generalize hw2 : w1.alloc _ = w2
          have hb2 : Below w1.heap.size w1 w2 := by rw [← hw2]; exact (Below.refl _ _).alloc (Nat.le_refl _) _
          have t2 : w2.heap[w1.heap.size]? = some (.cells #[.string m2, .bool s1, .int .i64 z1, .slice bg g1.length dg, .slice bl l1.length dl, .slice bk k2.length dk] 31 (0, 0)) := by rw [← hw2]; exact heap_alloc_new w1 _
          have HB := Lib.hid (hb1.trans (hb2.mono hb1.size))
          have t1' : w2.heap[w.heap.size]? = some (.cells #[.string m1, .bool s1, .int .i64 z1, .slice ag g1.length cg, .slice al l1.length cl, .slice ak k1.length ck] 31 (0, 0)) := by rw [hb2.block _ (by omega)]; exact t1
          rw [hs1] at t2
          obtain ⟨p, hp⟩ : ∃ p, w.heap.size = p := ⟨_, rfl⟩
          obtain ⟨r, hr⟩ : ∃ r, p + 1 = r := ⟨_, rfl⟩
          have HPW : Hid (w.heap.size = p) := hp
          rw [hp] at t1' t2
          rw [hr] at t2
          simp only [hp, hr]
          have hl1 : p < w2.heap.size := (Array.getElem?_eq_some_iff.1 t1').1
          have hl2 : r < w2.heap.size := (Array.getElem?_eq_some_iff.1 t2).1
          have HT1 := Lib.hid t1'
          have HT2 := Lib.hid t2
          have x0 := cell_of (j := 0) t1' rfl
          have y0 := cell_of (j := 0) t2 rfl
          have x1 := cell_of (j := 1) t1' rfl
          have y1 := cell_of (j := 1) t2 rfl
          have x2 := cell_of (j := 2) t1' rfl
          have y2 := cell_of (j := 2) t2 rfl
          have x3 := cell_of (j := 3) t1' rfl
          have y3 := cell_of (j := 3) t2 rfl
          have x4 := cell_of (j := 4) t1' rfl
          have y4 := cell_of (j := 4) t2 rfl
          have x5 := cell_of (j := 5) t1' rfl
          have y5 := cell_of (j := 5) t2 rfl
          clear hw1 hw2 hb1 hb2 t1 t2 t1' hs1 hp hr
          go_wp2_with fail
          go_ret
          exact ⟨rfl, HB.out⟩
        rw [hlk]
        go_enter Try.func11, Try.ntmps11
        go_upto_region 1 with fail
        generalize hw1 : w.alloc _ = w1
        have hb1 : Below w.heap.size w w1 := by rw [← hw1]; exact (Below.refl _ _).alloc (Nat.le_refl _) _
        have t1 : w1.heap[w.heap.size]? = some (.cells #[.string m1, .bool s1, .int .i64 z1, .slice ag g1.length cg, .slice al l1.length cl, .slice ak k1.length ck] 31 (0, 0)) := by rw [← hw1]; exact heap_alloc_new w _
        have hs1 : w1.heap.size = w.heap.size + 1 := by rw [← hw1]; simp
        generalize hw2 : w1.alloc _ = w2
        have hb2 : Below w1.heap.size w1 w2 := by rw [← hw2]; exact (Below.refl _ _).alloc (Nat.le_refl _) _
        have t2 : w2.heap[w1.heap.size]? = some (.cells #[.string m2, .bool s1, .int .i64 z1, .slice bg g1.length dg, .slice bl l1.length dl, .slice bk k1.length dk] 31 (0, 0)) := by rw [← hw2]; exact heap_alloc_new w1 _
        have HB := Lib.hid (hb1.trans (hb2.mono hb1.size))
        have t1' : w2.heap[w.heap.size]? = some (.cells #[.string m1, .bool s1, .int .i64 z1, .slice ag g1.length cg, .slice al l1.length cl, .slice ak k1.length ck] 31 (0, 0)) := by rw [hb2.block _ (by omega)]; exact t1
        rw [hs1] at t2
        obtain ⟨p, hp⟩ : ∃ p, w.heap.size = p := ⟨_, rfl⟩
        obtain ⟨r, hr⟩ : ∃ r, p + 1 = r := ⟨_, rfl⟩
        have HPW : Hid (w.heap.size = p) := hp
        rw [hp] at t1' t2
        rw [hr] at t2
        simp only [hp, hr]
        have hl1 : p < w2.heap.size := (Array.getElem?_eq_some_iff.1 t1').1
        have hl2 : r < w2.heap.size := (Array.getElem?_eq_some_iff.1 t2).1
        have HT1 := Lib.hid t1'
        have HT2 := Lib.hid t2
        have x0 := cell_of (j := 0) t1' rfl
        have y0 := cell_of (j := 0) t2 rfl
        have x1 := cell_of (j := 1) t1' rfl
        have y1 := cell_of (j := 1) t2 rfl
        have x2 := cell_of (j := 2) t1' rfl
        have y2 := cell_of (j := 2) t2 rfl
        have x3 := cell_of (j := 3) t1' rfl
        have y3 := cell_of (j := 3) t2 rfl
        have x4 := cell_of (j := 4) t1' rfl
        have y4 := cell_of (j := 4) t2 rfl
        have x5 := cell_of (j := 5) t1' rfl
        have y5 := cell_of (j := 5) t2 rfl
        clear hw1 hw2 hb1 hb2 t1 t2 t1' hs1 hp hr
        go_wp2_with fail
        have HB0 : Hid (Below w2.heap.size w2 w2) := Below.refl _ _
        clear x0 y0 x1 y1 x2 y2 x3 y3 x4 y4 x5 y5
        go_loopw [5] (fun i wr => ∃ k : Nat, k ≤ g1.length ∧ i = .int .i64 k ∧ Hid (∀ j, j < k → eqG g1[j]! g2[j]! = true) ∧ Hid (Below w2.heap.size w2 wr)) (fun i _ => g1.length - (intOf i).toNat)
        case atStart => exact ⟨0, by omega, rfl, fun j hj => absurd hj (Nat.not_lt_zero _), HB0.out⟩
        case round =>
          obtain ⟨k, hk, rfl, hn, hbl⟩ := hrel
          have q1 : wr.heap[p]? = _ := (hbl.out.block p hl1).trans HT1.out
          have q2 : wr.heap[r]? = _ := (hbl.out.block r hl2).trans HT2.out
          have p3 := cell_of (j := 3) q1 rfl
          have r3 := cell_of (j := 3) q2 rfl
          have HBw := Lib.hid (HB.out.trans (hbl.out.mono HB.out.size))
          by_cases hlt : k < g1.length
          · obtain ⟨b1, off1, h1, hr1⟩ := HX.out.gs
            obtain ⟨b2, off2, h2, hr2⟩ := HY.out.gs
            obtain ⟨rfl, hbw1⟩ := h1 (by show 0 < g1.length; omega)
            obtain ⟨rfl, hbw2⟩ := h2 (by show 0 < g2.length; rw [hlg]; omega)
            have HNE := Lib.hid (fun w => (neqR_G.1 g1[k]! g2[k]! w))
            have HNG := Lib.hid (fun a b w => (neqR_G.2 .neq a b g1[k]! g2[k]! w))
            have HKE : Hid (eqG g1[k]! g2[k]! = eqG g1[k]! g2[k]!) := rfl
            obtain ⟨e, he⟩ : ∃ e, g1[k]! = e := ⟨_, rfl⟩
            obtain ⟨d, hd⟩ : ∃ d, g2[k]! = d := ⟨_, rfl⟩
            have v1 := hr1 k (show k < g1.length from hlt)
            have v2 := hr2 k (show k < g2.length by rw [hlg]; exact hlt)
            simp only [he] at v1
            simp only [hd] at v2
            simp only [he, hd] at HNE HNG
            have HZ : Hid (eqG g1[k]! g2[k]! = eqG e d) := by show _ = _; rw [he, hd]
            clear HKE
            obtain ⟨z, hz⟩ : ∃ z, eqG e d = z := ⟨_, rfl⟩
            rw [hz] at HZ HNE
            obtain ⟨e0, e1⟩ := e
            obtain ⟨d0, d1⟩ := d
            have c0 := (HBw.out.cell (p := ⟨b1, off1 + k * 2 + 0, none⟩) hbw1).trans (v1 0 _ rfl)
            have o0 := (HBw.out.cell (p := ⟨b2, off2 + k * 2 + 0, none⟩) hbw2).trans (v2 0 _ rfl)
            have c1 := (HBw.out.cell (p := ⟨b1, off1 + k * 2 + 1, none⟩) hbw1).trans (v1 1 _ rfl)
            have o1 := (HBw.out.cell (p := ⟨b2, off2 + k * 2 + 1, none⟩) hbw2).trans (v2 1 _ rfl)
            rw [Nat.add_zero] at c0 o0
            simp only at c0 o0 c1 o1
            have HN2 : ∀ w, (binOp .neq 83 (.agg #[.string (mk8 e0), .int .i64 e1]) (.agg #[.string (mk8 d0), .int .i64 d1])).run Try.prog w = .ok (.bool (!z)) w := HNE.out
            have HG2 : ∀ a b w, (eqGuard .neq 83 a b (.agg #[.string (mk8 e0), .int .i64 e1]) (.agg #[.string (mk8 d0), .int .i64 d1])).run Try.prog w = .ok () w := HNG.out
            have HN2 := Lib.hid HN2
            have HG2 := Lib.hid HG2
            have hz1 : (k : Int) < g1.length := by omega
            have hz0 : (0 : Int) ≤ k := by omega
            clear HNE HNG hz he hd v1 v2 h1 h2 hr1 hr2 q1 q2
            go_upto_region 6 with fail
            refine wp_region_held_drew (S := (fun w' => w'.cell? ⟨p, 3, none⟩ = some (.slice (some ⟨b1, off1, none⟩) g1.length cg) ∧ w'.cell? ⟨r, 3, none⟩ = some (.slice (some ⟨b2, off2, none⟩) g1.length dg) ∧ w'.cell? ⟨b1, off1 + k * 2, none⟩ = some (.string (mk8 e0)) ∧ w'.cell? ⟨b1, off1 + k * 2 + 1, none⟩ = some (.int .i64 e1) ∧ w'.cell? ⟨b2, off2 + k * 2, none⟩ = some (.string (mk8 d0)) ∧ w'.cell? ⟨b2, off2 + k * 2 + 1, none⟩ = some (.int .i64 d1))) (by kernel_rfl) (by go_keep) (fun hHeld => ?_)
            refine' wpAnyH_take (i := 0) (oi := _) (v := _) ?hi1 (by kernel_rfl) (by kernel_rfl) (by kernel_rfl) ?hQ1 (Or.inl ⟨?hw1, ?hy1⟩) hHeld ?rest1
            case hi1 => simp only [List.getElem?_toArray, List.getElem?_cons_zero]; rfl
            case hQ1 => exact fun _ _ _ h => h
            case hw1 => rfl
            case hy1 =>
              intro w hSw
              try dsimp only at hSw
              go_simp
              all_goals with_reducible rfl
            try simp only [Act.put, List.setIfInBounds_toArray, List.set_cons_zero, List.set_cons_succ]
            refine' wpAnyH_take (i := 1) (oi := _) (v := _) ?hi2 (by kernel_rfl) (by kernel_rfl) (by kernel_rfl) ?hQ2 (Or.inl ⟨?hw2, ?hy2⟩) hHeld ?rest2
            case hi2 => simp only [List.getElem?_toArray, List.getElem?_cons_succ, List.getElem?_cons_zero]; rfl
            case hQ2 => exact fun _ _ _ h => h
            case hw2 => rfl
            case hy2 =>
              intro w hSw
              try dsimp only at hSw
              go_simp
              all_goals with_reducible rfl
            try simp only [Act.put, List.setIfInBounds_toArray, List.set_cons_zero, List.set_cons_succ]
            refine' wpAnyH_take (i := 2) (oi := _) (v := _) ?hi3 (by kernel_rfl) (by kernel_rfl) (by kernel_rfl) ?hQ3 (Or.inl ⟨?hw3, ?hy3⟩) hHeld ?rest3
            case hi3 => simp only [List.getElem?_toArray, List.getElem?_cons_succ, List.getElem?_cons_zero]; rfl
            case hQ3 => exact fun _ _ _ h => h
            case hw3 => rfl
            case hy3 =>
              intro w hSw
              try dsimp only at hSw
              go_simp
              all_goals with_reducible rfl
            try simp only [Act.put, List.setIfInBounds_toArray, List.set_cons_zero, List.set_cons_succ]
            refine' wpAnyH_take (i := 3) (oi := _) (v := _) ?hi4 (by kernel_rfl) (by kernel_rfl) (by kernel_rfl) ?hQ4 (Or.inl ⟨?hw4, ?hy4⟩) hHeld ?rest4
            case hi4 => simp only [List.getElem?_toArray, List.getElem?_cons_succ, List.getElem?_cons_zero]; rfl
            case hQ4 => exact fun _ _ _ h => h
            case hw4 => rfl
            case hy4 =>
              intro w hSw
              try dsimp only at hSw
              go_simp
              all_goals with_reducible rfl
            try simp only [Act.put, List.setIfInBounds_toArray, List.set_cons_zero, List.set_cons_succ]
            refine' wpAnyH_take (i := 4) (oi := _) (v := _) ?hi5 (by kernel_rfl) (by kernel_rfl) (by kernel_rfl) ?hQ5 (Or.inl ⟨?hw5, ?hy5⟩) hHeld ?rest5
            case hi5 => simp only [List.getElem?_toArray, List.getElem?_cons_succ, List.getElem?_cons_zero]; rfl
            case hQ5 => exact fun _ _ _ h => h
            case hw5 => rfl
            case hy5 =>
              intro w hSw
              try dsimp only at hSw
              go_simp
              all_goals with_reducible rfl
            try simp only [Act.put, List.setIfInBounds_toArray, List.set_cons_zero, List.set_cons_succ]
            refine' wpAnyH_take (i := 5) (oi := _) (v := _) ?hi6 (by kernel_rfl) (by kernel_rfl) (by kernel_rfl) ?hQ6 (Or.inl ⟨?hw6, ?hy6⟩) hHeld ?rest6
            case hi6 => simp only [List.getElem?_toArray, List.getElem?_cons_succ, List.getElem?_cons_zero]; rfl
            case hQ6 => exact fun _ _ _ h => h
            case hw6 => rfl
            case hy6 =>
              intro w hSw
              try dsimp only at hSw
              go_simp
              all_goals with_reducible rfl
            try simp only [Act.put, List.setIfInBounds_toArray, List.set_cons_zero, List.set_cons_succ]
            refine' wpAnyH_take (i := 6) (oi := _) (v := _) ?hi7 (by kernel_rfl) (by kernel_rfl) (by kernel_rfl) ?hQ7 (Or.inl ⟨?hw7, ?hy7⟩) hHeld ?rest7
            case hi7 => simp only [List.getElem?_toArray, List.getElem?_cons_succ, List.getElem?_cons_zero]; rfl
            case hQ7 => exact fun _ _ _ h => h
            case hw7 => rfl
            case hy7 =>
              intro w hSw
              try dsimp only at hSw
              go_simp
              all_goals with_reducible rfl
            try simp only [Act.put, List.setIfInBounds_toArray, List.set_cons_zero, List.set_cons_succ]
            refine' wpAnyH_take (i := 7) (oi := _) (v := _) ?hi8 (by kernel_rfl) (by kernel_rfl) (by kernel_rfl) ?hQ8 (Or.inl ⟨?hw8, ?hy8⟩) hHeld ?rest8
            case hi8 => simp only [List.getElem?_toArray, List.getElem?_cons_succ, List.getElem?_cons_zero]; rfl
            case hQ8 => exact fun _ _ _ h => h
            case hw8 => rfl
            case hy8 =>
              intro w hSw
              try dsimp only at hSw
              go_simp
              all_goals with_reducible rfl
            try simp only [Act.put, List.setIfInBounds_toArray, List.set_cons_zero, List.set_cons_succ]
            refine' wpAnyH_take (i := 8) (oi := _) (v := _) ?hi9 (by kernel_rfl) (by kernel_rfl) (by kernel_rfl) ?hQ9 (Or.inl ⟨?hw9, ?hy9⟩) hHeld ?rest9
            case hi9 => simp only [List.getElem?_toArray, List.getElem?_cons_succ, List.getElem?_cons_zero]; rfl
            case hQ9 => exact fun _ _ _ h => h
            case hw9 => rfl
            case hy9 =>
              intro w hSw
              try dsimp only at hSw
              go_simp
              all_goals with_reducible rfl
            try simp only [Act.put, List.setIfInBounds_toArray, List.set_cons_zero, List.set_cons_succ]
            refine' wpAnyH_take (i := 9) (oi := _) (v := _) ?hi10 (by kernel_rfl) (by kernel_rfl) (by kernel_rfl) ?hQ10 (Or.inl ⟨?hw10, ?hy10⟩) hHeld ?rest10
            case hi10 => simp only [List.getElem?_toArray, List.getElem?_cons_succ, List.getElem?_cons_zero]; rfl
            case hQ10 => exact fun _ _ _ h => h
            case hw10 => rfl
            case hy10 =>
              intro w hSw
              try dsimp only at hSw
              go_simp
              all_goals with_reducible rfl
            try simp only [Act.put, List.setIfInBounds_toArray, List.set_cons_zero, List.set_cons_succ]
            refine' wpAnyH_take (i := 10) (oi := _) (v := _) ?hi11 (by kernel_rfl) (by kernel_rfl) (by kernel_rfl) ?hQ11 (Or.inl ⟨?hw11, ?hy11⟩) hHeld ?rest11
            case hi11 => simp only [List.getElem?_toArray, List.getElem?_cons_succ, List.getElem?_cons_zero]; rfl
            case hQ11 => exact fun _ _ _ h => h
            case hw11 => rfl
            case hy11 =>
              intro w hSw
              try dsimp only at hSw
              have HN3 := HN2.out
              have HG3 := HG2.out
              go_simp
              all_goals with_reducible rfl
            try simp only [Act.put, List.setIfInBounds_toArray, List.set_cons_zero, List.set_cons_succ]
            refine wpAnyH_done (by kernel_rfl) ?_ _
            clear hHeld HN2 HG2
            cases z with
            | false =>
              have HV := Lib.hid (Lib.allEq_elem eqG g1 g2 k hlt (by rw [hlg]; exact hlt) HZ.out)
              go_wp2_with fail
              go_ret
              exact ⟨by show Ending.returned _ = Ending.returned (.bool _); rw [HV.out]; simp only [Bool.false_and]; rfl, HBw.out.drew⟩
            | true =>
              have HS : Hid (∀ j, j < k + 1 → eqG g1[j]! g2[j]! = true) := fun j hj => by
                by_cases h : j = k
                · subst h; exact HZ.out
                · exact hn.out j (by omega)
              have HB2 : Hid (Below w2.heap.size w2 wr.drew) := hbl.out.drew
              go_wp2_with fail
              go_roundw
              case rel => exact ⟨k + 1, by omega, by go_num, HS, HB2⟩
              case measure => simp [intOf]; omega
          · have hkl : k = g1.length := by omega
            subst hkl
            have HA0 := Lib.hid (Lib.allEq_all eqG g1 g2 hlg.symm hn.out)
            have HB1 := hbl
            have hz1 : ¬ ((g1.length : Nat) : Int) < g1.length := by omega
            clear hn hbl q1 q2 r3
            go_wp2_with fail
            clear hz1 p3
            clear HBw
            go_loopw [6] (fun i wr => ∃ k : Nat, k ≤ l1.length ∧ i = .int .i64 k ∧ Hid (∀ j, j < k → eqLg l1[j]! l2[j]! = true) ∧ Hid (Below w2.heap.size w2 wr)) (fun i _ => l1.length - (intOf i).toNat)
            case atStart => exact ⟨0, by omega, rfl, fun j hj => absurd hj (Nat.not_lt_zero _), HB1.out⟩
            case round =>
              obtain ⟨k, hk, rfl, hn, hbl⟩ := hrel
              have q1 : wr.heap[p]? = _ := (hbl.out.block p hl1).trans HT1.out
              have q2 : wr.heap[r]? = _ := (hbl.out.block r hl2).trans HT2.out
              have p3 := cell_of (j := 4) q1 rfl
              have r3 := cell_of (j := 4) q2 rfl
              have HBw := Lib.hid (HB.out.trans (hbl.out.mono HB.out.size))
              by_cases hlt : k < l1.length
              · obtain ⟨b1, off1, h1, hr1⟩ := HX.out.ls
                obtain ⟨b2, off2, h2, hr2⟩ := HY.out.ls
                obtain ⟨rfl, hbw1⟩ := h1 (by show 0 < l1.length; omega)
                obtain ⟨rfl, hbw2⟩ := h2 (by show 0 < l2.length; rw [hll]; omega)
                have HNE := Lib.hid (fun w => (neqR_Lg.1 l1[k]! l2[k]! w))
                have HNG := Lib.hid (fun a b w => (neqR_Lg.2 .neq a b l1[k]! l2[k]! w))
                have HKE : Hid (eqLg l1[k]! l2[k]! = eqLg l1[k]! l2[k]!) := rfl
                obtain ⟨e, he⟩ : ∃ e, l1[k]! = e := ⟨_, rfl⟩
                obtain ⟨d, hd⟩ : ∃ d, l2[k]! = d := ⟨_, rfl⟩
                have v1 := hr1 k (show k < l1.length from hlt)
                have v2 := hr2 k (show k < l2.length by rw [hll]; exact hlt)
                simp only [he] at v1
                simp only [hd] at v2
                simp only [he, hd] at HNE HNG
                have HZ : Hid (eqLg l1[k]! l2[k]! = eqLg e d) := by show _ = _; rw [he, hd]
                clear HKE
                obtain ⟨z, hz⟩ : ∃ z, eqLg e d = z := ⟨_, rfl⟩
                rw [hz] at HZ HNE
                obtain ⟨e0, e1, e2⟩ := e
                obtain ⟨d0, d1, d2⟩ := d
                have c0 := (HBw.out.cell (p := ⟨b1, off1 + k * 3 + 0, none⟩) hbw1).trans (v1 0 _ rfl)
                have o0 := (HBw.out.cell (p := ⟨b2, off2 + k * 3 + 0, none⟩) hbw2).trans (v2 0 _ rfl)
                have c1 := (HBw.out.cell (p := ⟨b1, off1 + k * 3 + 1, none⟩) hbw1).trans (v1 1 _ rfl)
                have o1 := (HBw.out.cell (p := ⟨b2, off2 + k * 3 + 1, none⟩) hbw2).trans (v2 1 _ rfl)
                have c2 := (HBw.out.cell (p := ⟨b1, off1 + k * 3 + 2, none⟩) hbw1).trans (v1 2 _ rfl)
                have o2 := (HBw.out.cell (p := ⟨b2, off2 + k * 3 + 2, none⟩) hbw2).trans (v2 2 _ rfl)
                rw [Nat.add_zero] at c0 o0
                simp only at c0 o0 c1 o1 c2 o2
                have HN2 : ∀ w, (binOp .neq 85 (.agg #[.string (mk8 e0), .string (mk8 e1), .string (mk8 e2)]) (.agg #[.string (mk8 d0), .string (mk8 d1), .string (mk8 d2)])).run Try.prog w = .ok (.bool (!z)) w := HNE.out
                have HG2 : ∀ a b w, (eqGuard .neq 85 a b (.agg #[.string (mk8 e0), .string (mk8 e1), .string (mk8 e2)]) (.agg #[.string (mk8 d0), .string (mk8 d1), .string (mk8 d2)])).run Try.prog w = .ok () w := HNG.out
                have HN2 := Lib.hid HN2
                have HG2 := Lib.hid HG2
                have hz1 : (k : Int) < l1.length := by omega
                have hz0 : (0 : Int) ≤ k := by omega
                clear HNE HNG hz he hd v1 v2 h1 h2 hr1 hr2 q1 q2
                go_upto_region 11 with fail
                refine wp_region_held_drew (S := (fun w' => w'.cell? ⟨p, 4, none⟩ = some (.slice (some ⟨b1, off1, none⟩) l1.length cl) ∧ w'.cell? ⟨r, 4, none⟩ = some (.slice (some ⟨b2, off2, none⟩) l1.length dl) ∧ w'.cell? ⟨b1, off1 + k * 3, none⟩ = some (.string (mk8 e0)) ∧ w'.cell? ⟨b1, off1 + k * 3 + 1, none⟩ = some (.string (mk8 e1)) ∧ w'.cell? ⟨b1, off1 + k * 3 + 2, none⟩ = some (.string (mk8 e2)) ∧ w'.cell? ⟨b2, off2 + k * 3, none⟩ = some (.string (mk8 d0)) ∧ w'.cell? ⟨b2, off2 + k * 3 + 1, none⟩ = some (.string (mk8 d1)) ∧ w'.cell? ⟨b2, off2 + k * 3 + 2, none⟩ = some (.string (mk8 d2)))) (by kernel_rfl) (by go_keep) (fun hHeld => ?_)
                refine' wpAnyH_take (i := 0) (oi := _) (v := _) ?hi12 (by kernel_rfl) (by kernel_rfl) (by kernel_rfl) ?hQ12 (Or.inl ⟨?hw12, ?hy12⟩) hHeld ?rest12
                case hi12 => simp only [List.getElem?_toArray, List.getElem?_cons_zero]; rfl
                case hQ12 => exact fun _ _ _ h => h
                case hw12 => rfl
                case hy12 =>
                  intro w hSw
                  try dsimp only at hSw
                  go_simp
                  all_goals with_reducible rfl
                try simp only [Act.put, List.setIfInBounds_toArray, List.set_cons_zero, List.set_cons_succ]
                refine' wpAnyH_take (i := 1) (oi := _) (v := _) ?hi13 (by kernel_rfl) (by kernel_rfl) (by kernel_rfl) ?hQ13 (Or.inl ⟨?hw13, ?hy13⟩) hHeld ?rest13
                case hi13 => simp only [List.getElem?_toArray, List.getElem?_cons_succ, List.getElem?_cons_zero]; rfl
                case hQ13 => exact fun _ _ _ h => h
                case hw13 => rfl
                case hy13 =>
                  intro w hSw
                  try dsimp only at hSw
                  go_simp
                  all_goals with_reducible rfl
                try simp only [Act.put, List.setIfInBounds_toArray, List.set_cons_zero, List.set_cons_succ]
                refine' wpAnyH_take (i := 2) (oi := _) (v := _) ?hi14 (by kernel_rfl) (by kernel_rfl) (by kernel_rfl) ?hQ14 (Or.inl ⟨?hw14, ?hy14⟩) hHeld ?rest14
                case hi14 => simp only [List.getElem?_toArray, List.getElem?_cons_succ, List.getElem?_cons_zero]; rfl
                case hQ14 => exact fun _ _ _ h => h
                case hw14 => rfl
                case hy14 =>
                  intro w hSw
                  try dsimp only at hSw
                  go_simp
                  all_goals with_reducible rfl
                try simp only [Act.put, List.setIfInBounds_toArray, List.set_cons_zero, List.set_cons_succ]
                refine' wpAnyH_take (i := 3) (oi := _) (v := _) ?hi15 (by kernel_rfl) (by kernel_rfl) (by kernel_rfl) ?hQ15 (Or.inl ⟨?hw15, ?hy15⟩) hHeld ?rest15
                case hi15 => simp only [List.getElem?_toArray, List.getElem?_cons_succ, List.getElem?_cons_zero]; rfl
                case hQ15 => exact fun _ _ _ h => h
                case hw15 => rfl
                case hy15 =>
                  intro w hSw
                  try dsimp only at hSw
                  go_simp
                  all_goals with_reducible rfl
                try simp only [Act.put, List.setIfInBounds_toArray, List.set_cons_zero, List.set_cons_succ]
                refine' wpAnyH_take (i := 4) (oi := _) (v := _) ?hi16 (by kernel_rfl) (by kernel_rfl) (by kernel_rfl) ?hQ16 (Or.inl ⟨?hw16, ?hy16⟩) hHeld ?rest16
                case hi16 => simp only [List.getElem?_toArray, List.getElem?_cons_succ, List.getElem?_cons_zero]; rfl
                case hQ16 => exact fun _ _ _ h => h
                case hw16 => rfl
                case hy16 =>
                  intro w hSw
                  try dsimp only at hSw
                  go_simp
                  all_goals with_reducible rfl
                try simp only [Act.put, List.setIfInBounds_toArray, List.set_cons_zero, List.set_cons_succ]
                refine' wpAnyH_take (i := 5) (oi := _) (v := _) ?hi17 (by kernel_rfl) (by kernel_rfl) (by kernel_rfl) ?hQ17 (Or.inl ⟨?hw17, ?hy17⟩) hHeld ?rest17
                case hi17 => simp only [List.getElem?_toArray, List.getElem?_cons_succ, List.getElem?_cons_zero]; rfl
                case hQ17 => exact fun _ _ _ h => h
                case hw17 => rfl
                case hy17 =>
                  intro w hSw
                  try dsimp only at hSw
                  go_simp
                  all_goals with_reducible rfl
                try simp only [Act.put, List.setIfInBounds_toArray, List.set_cons_zero, List.set_cons_succ]
                refine' wpAnyH_take (i := 6) (oi := _) (v := _) ?hi18 (by kernel_rfl) (by kernel_rfl) (by kernel_rfl) ?hQ18 (Or.inl ⟨?hw18, ?hy18⟩) hHeld ?rest18
                case hi18 => simp only [List.getElem?_toArray, List.getElem?_cons_succ, List.getElem?_cons_zero]; rfl
                case hQ18 => exact fun _ _ _ h => h
                case hw18 => rfl
                case hy18 =>
                  intro w hSw
                  try dsimp only at hSw
                  go_simp
                  all_goals with_reducible rfl
                try simp only [Act.put, List.setIfInBounds_toArray, List.set_cons_zero, List.set_cons_succ]
                refine' wpAnyH_take (i := 7) (oi := _) (v := _) ?hi19 (by kernel_rfl) (by kernel_rfl) (by kernel_rfl) ?hQ19 (Or.inl ⟨?hw19, ?hy19⟩) hHeld ?rest19
                case hi19 => simp only [List.getElem?_toArray, List.getElem?_cons_succ, List.getElem?_cons_zero]; rfl
                case hQ19 => exact fun _ _ _ h => h
                case hw19 => rfl
                case hy19 =>
                  intro w hSw
                  try dsimp only at hSw
                  go_simp
                  all_goals with_reducible rfl
                try simp only [Act.put, List.setIfInBounds_toArray, List.set_cons_zero, List.set_cons_succ]
                refine' wpAnyH_take (i := 8) (oi := _) (v := _) ?hi20 (by kernel_rfl) (by kernel_rfl) (by kernel_rfl) ?hQ20 (Or.inl ⟨?hw20, ?hy20⟩) hHeld ?rest20
                case hi20 => simp only [List.getElem?_toArray, List.getElem?_cons_succ, List.getElem?_cons_zero]; rfl
                case hQ20 => exact fun _ _ _ h => h
                case hw20 => rfl
                case hy20 =>
                  intro w hSw
                  try dsimp only at hSw
                  go_simp
                  all_goals with_reducible rfl
                try simp only [Act.put, List.setIfInBounds_toArray, List.set_cons_zero, List.set_cons_succ]
                refine' wpAnyH_take (i := 9) (oi := _) (v := _) ?hi21 (by kernel_rfl) (by kernel_rfl) (by kernel_rfl) ?hQ21 (Or.inl ⟨?hw21, ?hy21⟩) hHeld ?rest21
                case hi21 => simp only [List.getElem?_toArray, List.getElem?_cons_succ, List.getElem?_cons_zero]; rfl
                case hQ21 => exact fun _ _ _ h => h
                case hw21 => rfl
                case hy21 =>
                  intro w hSw
                  try dsimp only at hSw
                  go_simp
                  all_goals with_reducible rfl
                try simp only [Act.put, List.setIfInBounds_toArray, List.set_cons_zero, List.set_cons_succ]
                refine' wpAnyH_take (i := 10) (oi := _) (v := _) ?hi22 (by kernel_rfl) (by kernel_rfl) (by kernel_rfl) ?hQ22 (Or.inl ⟨?hw22, ?hy22⟩) hHeld ?rest22
                case hi22 => simp only [List.getElem?_toArray, List.getElem?_cons_succ, List.getElem?_cons_zero]; rfl
                case hQ22 => exact fun _ _ _ h => h
                case hw22 => rfl
                case hy22 =>
                  intro w hSw
                  try dsimp only at hSw
                  have HN3 := HN2.out
                  have HG3 := HG2.out
                  go_simp
                  all_goals with_reducible rfl
                try simp only [Act.put, List.setIfInBounds_toArray, List.set_cons_zero, List.set_cons_succ]
                refine wpAnyH_done (by kernel_rfl) ?_ _
                clear hHeld HN2 HG2
                cases z with
                | false =>
                  have HV := Lib.hid (Lib.allEq_elem eqLg l1 l2 k hlt (by rw [hll]; exact hlt) HZ.out)
                  go_wp2_with fail
                  go_ret
                  exact ⟨by show Ending.returned _ = Ending.returned (.bool _); rw [HV.out]; simp only [Bool.false_and, Bool.and_false]; rfl, HBw.out.drew⟩
                | true =>
                  have HS : Hid (∀ j, j < k + 1 → eqLg l1[j]! l2[j]! = true) := fun j hj => by
                    by_cases h : j = k
                    · subst h; exact HZ.out
                    · exact hn.out j (by omega)
                  have HB2 : Hid (Below w2.heap.size w2 wr.drew) := hbl.out.drew
                  go_wp2_with fail
                  go_roundw
                  case rel => exact ⟨k + 1, by omega, by go_num, HS, HB2⟩
                  case measure => simp [intOf]; omega
              · have hkl : k = l1.length := by omega
                subst hkl
                have HA1 := Lib.hid (Lib.allEq_all eqLg l1 l2 hll.symm hn.out)
                have HB2 := hbl
                have hz1 : ¬ ((l1.length : Nat) : Int) < l1.length := by omega
                clear hn hbl q1 q2 r3
                go_wp2_with fail
                clear hz1 p3
                clear HBw
                go_loopw [7] (fun i wr => ∃ k : Nat, k ≤ k1.length ∧ i = .int .i64 k ∧ Hid (∀ j, j < k → eqKn k1[j]! k2[j]! = true) ∧ Hid (Below w2.heap.size w2 wr)) (fun i _ => k1.length - (intOf i).toNat)
                case atStart => exact ⟨0, by omega, rfl, fun j hj => absurd hj (Nat.not_lt_zero _), HB2.out⟩
                case round =>
                  obtain ⟨k, hk, rfl, hn, hbl⟩ := hrel
                  have q1 : wr.heap[p]? = _ := (hbl.out.block p hl1).trans HT1.out
                  have q2 : wr.heap[r]? = _ := (hbl.out.block r hl2).trans HT2.out
                  have p3 := cell_of (j := 5) q1 rfl
                  have r3 := cell_of (j := 5) q2 rfl
                  have HBw := Lib.hid (HB.out.trans (hbl.out.mono HB.out.size))
                  by_cases hlt : k < k1.length
                  · obtain ⟨b1, off1, h1, hr1⟩ := HX.out.ks
                    obtain ⟨b2, off2, h2, hr2⟩ := HY.out.ks
                    obtain ⟨rfl, hbw1⟩ := h1 (by show 0 < k1.length; omega)
                    obtain ⟨rfl, hbw2⟩ := h2 (by show 0 < k2.length; rw [hlk]; omega)
                    have HNE := Lib.hid (fun w => (neqR_Kn.1 k1[k]! k2[k]! w))
                    have HNG := Lib.hid (fun a b w => (neqR_Kn.2 .neq a b k1[k]! k2[k]! w))
                    have HKE : Hid (eqKn k1[k]! k2[k]! = eqKn k1[k]! k2[k]!) := rfl
                    obtain ⟨e, he⟩ : ∃ e, k1[k]! = e := ⟨_, rfl⟩
                    obtain ⟨d, hd⟩ : ∃ d, k2[k]! = d := ⟨_, rfl⟩
                    have v1 := hr1 k (show k < k1.length from hlt)
                    have v2 := hr2 k (show k < k2.length by rw [hlk]; exact hlt)
                    simp only [he] at v1
                    simp only [hd] at v2
                    simp only [he, hd] at HNE HNG
                    have HZ : Hid (eqKn k1[k]! k2[k]! = eqKn e d) := by show _ = _; rw [he, hd]
                    clear HKE
                    obtain ⟨z, hz⟩ : ∃ z, eqKn e d = z := ⟨_, rfl⟩
                    rw [hz] at HZ HNE
                    obtain ⟨e0, e1, e2⟩ := e
                    obtain ⟨d0, d1, d2⟩ := d
                    have c0 := (HBw.out.cell (p := ⟨b1, off1 + k * 3 + 0, none⟩) hbw1).trans (v1 0 _ rfl)
                    have o0 := (HBw.out.cell (p := ⟨b2, off2 + k * 3 + 0, none⟩) hbw2).trans (v2 0 _ rfl)
                    have c1 := (HBw.out.cell (p := ⟨b1, off1 + k * 3 + 1, none⟩) hbw1).trans (v1 1 _ rfl)
                    have o1 := (HBw.out.cell (p := ⟨b2, off2 + k * 3 + 1, none⟩) hbw2).trans (v2 1 _ rfl)
                    have c2 := (HBw.out.cell (p := ⟨b1, off1 + k * 3 + 2, none⟩) hbw1).trans (v1 2 _ rfl)
                    have o2 := (HBw.out.cell (p := ⟨b2, off2 + k * 3 + 2, none⟩) hbw2).trans (v2 2 _ rfl)
                    rw [Nat.add_zero] at c0 o0
                    simp only at c0 o0 c1 o1 c2 o2
                    have HN2 : ∀ w, (binOp .neq 87 (.agg #[.string (mk8 e0), .string (mk8 e1), .int .i64 e2]) (.agg #[.string (mk8 d0), .string (mk8 d1), .int .i64 d2])).run Try.prog w = .ok (.bool (!z)) w := HNE.out
                    have HG2 : ∀ a b w, (eqGuard .neq 87 a b (.agg #[.string (mk8 e0), .string (mk8 e1), .int .i64 e2]) (.agg #[.string (mk8 d0), .string (mk8 d1), .int .i64 d2])).run Try.prog w = .ok () w := HNG.out
                    have HN2 := Lib.hid HN2
                    have HG2 := Lib.hid HG2
                    have hz1 : (k : Int) < k1.length := by omega
                    have hz0 : (0 : Int) ≤ k := by omega
                    clear HNE HNG hz he hd v1 v2 h1 h2 hr1 hr2 q1 q2
                    go_upto_region 16 with fail
                    refine wp_region_held_drew (S := (fun w' => w'.cell? ⟨p, 5, none⟩ = some (.slice (some ⟨b1, off1, none⟩) k1.length ck) ∧ w'.cell? ⟨r, 5, none⟩ = some (.slice (some ⟨b2, off2, none⟩) k1.length dk) ∧ w'.cell? ⟨b1, off1 + k * 3, none⟩ = some (.string (mk8 e0)) ∧ w'.cell? ⟨b1, off1 + k * 3 + 1, none⟩ = some (.string (mk8 e1)) ∧ w'.cell? ⟨b1, off1 + k * 3 + 2, none⟩ = some (.int .i64 e2) ∧ w'.cell? ⟨b2, off2 + k * 3, none⟩ = some (.string (mk8 d0)) ∧ w'.cell? ⟨b2, off2 + k * 3 + 1, none⟩ = some (.string (mk8 d1)) ∧ w'.cell? ⟨b2, off2 + k * 3 + 2, none⟩ = some (.int .i64 d2))) (by kernel_rfl) (by go_keep) (fun hHeld => ?_)
                    refine' wpAnyH_take (i := 0) (oi := _) (v := _) ?hi23 (by kernel_rfl) (by kernel_rfl) (by kernel_rfl) ?hQ23 (Or.inl ⟨?hw23, ?hy23⟩) hHeld ?rest23
                    case hi23 => simp only [List.getElem?_toArray, List.getElem?_cons_zero]; rfl
                    case hQ23 => exact fun _ _ _ h => h
                    case hw23 => rfl
                    case hy23 =>
                      intro w hSw
                      try dsimp only at hSw
                      go_simp
                      all_goals with_reducible rfl
                    try simp only [Act.put, List.setIfInBounds_toArray, List.set_cons_zero, List.set_cons_succ]
                    refine' wpAnyH_take (i := 1) (oi := _) (v := _) ?hi24 (by kernel_rfl) (by kernel_rfl) (by kernel_rfl) ?hQ24 (Or.inl ⟨?hw24, ?hy24⟩) hHeld ?rest24
                    case hi24 => simp only [List.getElem?_toArray, List.getElem?_cons_succ, List.getElem?_cons_zero]; rfl
                    case hQ24 => exact fun _ _ _ h => h
                    case hw24 => rfl
                    case hy24 =>
                      intro w hSw
                      try dsimp only at hSw
                      go_simp
                      all_goals with_reducible rfl
                    try simp only [Act.put, List.setIfInBounds_toArray, List.set_cons_zero, List.set_cons_succ]
                    refine' wpAnyH_take (i := 2) (oi := _) (v := _) ?hi25 (by kernel_rfl) (by kernel_rfl) (by kernel_rfl) ?hQ25 (Or.inl ⟨?hw25, ?hy25⟩) hHeld ?rest25
                    case hi25 => simp only [List.getElem?_toArray, List.getElem?_cons_succ, List.getElem?_cons_zero]; rfl
                    case hQ25 => exact fun _ _ _ h => h
                    case hw25 => rfl
                    case hy25 =>
                      intro w hSw
                      try dsimp only at hSw
                      go_simp
                      all_goals with_reducible rfl
                    try simp only [Act.put, List.setIfInBounds_toArray, List.set_cons_zero, List.set_cons_succ]
                    refine' wpAnyH_take (i := 3) (oi := _) (v := _) ?hi26 (by kernel_rfl) (by kernel_rfl) (by kernel_rfl) ?hQ26 (Or.inl ⟨?hw26, ?hy26⟩) hHeld ?rest26
                    case hi26 => simp only [List.getElem?_toArray, List.getElem?_cons_succ, List.getElem?_cons_zero]; rfl
                    case hQ26 => exact fun _ _ _ h => h
                    case hw26 => rfl
                    case hy26 =>
                      intro w hSw
                      try dsimp only at hSw
                      go_simp
                      all_goals with_reducible rfl
                    try simp only [Act.put, List.setIfInBounds_toArray, List.set_cons_zero, List.set_cons_succ]
                    refine' wpAnyH_take (i := 4) (oi := _) (v := _) ?hi27 (by kernel_rfl) (by kernel_rfl) (by kernel_rfl) ?hQ27 (Or.inl ⟨?hw27, ?hy27⟩) hHeld ?rest27
                    case hi27 => simp only [List.getElem?_toArray, List.getElem?_cons_succ, List.getElem?_cons_zero]; rfl
                    case hQ27 => exact fun _ _ _ h => h
                    case hw27 => rfl
                    case hy27 =>
                      intro w hSw
                      try dsimp only at hSw
                      go_simp
                      all_goals with_reducible rfl
                    try simp only [Act.put, List.setIfInBounds_toArray, List.set_cons_zero, List.set_cons_succ]
                    refine' wpAnyH_take (i := 5) (oi := _) (v := _) ?hi28 (by kernel_rfl) (by kernel_rfl) (by kernel_rfl) ?hQ28 (Or.inl ⟨?hw28, ?hy28⟩) hHeld ?rest28
                    case hi28 => simp only [List.getElem?_toArray, List.getElem?_cons_succ, List.getElem?_cons_zero]; rfl
                    case hQ28 => exact fun _ _ _ h => h
                    case hw28 => rfl
                    case hy28 =>
                      intro w hSw
                      try dsimp only at hSw
                      go_simp
                      all_goals with_reducible rfl
                    try simp only [Act.put, List.setIfInBounds_toArray, List.set_cons_zero, List.set_cons_succ]
                    refine' wpAnyH_take (i := 6) (oi := _) (v := _) ?hi29 (by kernel_rfl) (by kernel_rfl) (by kernel_rfl) ?hQ29 (Or.inl ⟨?hw29, ?hy29⟩) hHeld ?rest29
                    case hi29 => simp only [List.getElem?_toArray, List.getElem?_cons_succ, List.getElem?_cons_zero]; rfl
                    case hQ29 => exact fun _ _ _ h => h
                    case hw29 => rfl
                    case hy29 =>
                      intro w hSw
                      try dsimp only at hSw
                      go_simp
                      all_goals with_reducible rfl
                    try simp only [Act.put, List.setIfInBounds_toArray, List.set_cons_zero, List.set_cons_succ]
                    refine' wpAnyH_take (i := 7) (oi := _) (v := _) ?hi30 (by kernel_rfl) (by kernel_rfl) (by kernel_rfl) ?hQ30 (Or.inl ⟨?hw30, ?hy30⟩) hHeld ?rest30
                    case hi30 => simp only [List.getElem?_toArray, List.getElem?_cons_succ, List.getElem?_cons_zero]; rfl
                    case hQ30 => exact fun _ _ _ h => h
                    case hw30 => rfl
                    case hy30 =>
                      intro w hSw
                      try dsimp only at hSw
                      go_simp
                      all_goals with_reducible rfl
                    try simp only [Act.put, List.setIfInBounds_toArray, List.set_cons_zero, List.set_cons_succ]
                    refine' wpAnyH_take (i := 8) (oi := _) (v := _) ?hi31 (by kernel_rfl) (by kernel_rfl) (by kernel_rfl) ?hQ31 (Or.inl ⟨?hw31, ?hy31⟩) hHeld ?rest31
                    case hi31 => simp only [List.getElem?_toArray, List.getElem?_cons_succ, List.getElem?_cons_zero]; rfl
                    case hQ31 => exact fun _ _ _ h => h
                    case hw31 => rfl
                    case hy31 =>
                      intro w hSw
                      try dsimp only at hSw
                      go_simp
                      all_goals with_reducible rfl
                    try simp only [Act.put, List.setIfInBounds_toArray, List.set_cons_zero, List.set_cons_succ]
                    refine' wpAnyH_take (i := 9) (oi := _) (v := _) ?hi32 (by kernel_rfl) (by kernel_rfl) (by kernel_rfl) ?hQ32 (Or.inl ⟨?hw32, ?hy32⟩) hHeld ?rest32
                    case hi32 => simp only [List.getElem?_toArray, List.getElem?_cons_succ, List.getElem?_cons_zero]; rfl
                    case hQ32 => exact fun _ _ _ h => h
                    case hw32 => rfl
                    case hy32 =>
                      intro w hSw
                      try dsimp only at hSw
                      go_simp
                      all_goals with_reducible rfl
                    try simp only [Act.put, List.setIfInBounds_toArray, List.set_cons_zero, List.set_cons_succ]
                    refine' wpAnyH_take (i := 10) (oi := _) (v := _) ?hi33 (by kernel_rfl) (by kernel_rfl) (by kernel_rfl) ?hQ33 (Or.inl ⟨?hw33, ?hy33⟩) hHeld ?rest33
                    case hi33 => simp only [List.getElem?_toArray, List.getElem?_cons_succ, List.getElem?_cons_zero]; rfl
                    case hQ33 => exact fun _ _ _ h => h
                    case hw33 => rfl
                    case hy33 =>
                      intro w hSw
                      try dsimp only at hSw
                      have HN3 := HN2.out
                      have HG3 := HG2.out
                      go_simp
                      all_goals with_reducible rfl
                    try simp only [Act.put, List.setIfInBounds_toArray, List.set_cons_zero, List.set_cons_succ]
                    refine wpAnyH_done (by kernel_rfl) ?_ _
                    clear hHeld HN2 HG2
                    cases z with
                    | false =>
                      have HV := Lib.hid (Lib.allEq_elem eqKn k1 k2 k hlt (by rw [hlk]; exact hlt) HZ.out)
                      go_wp2_with fail
                      go_ret
                      exact ⟨by show Ending.returned _ = Ending.returned (.bool _); rw [HV.out]; simp only [Bool.and_false]; rfl, HBw.out.drew⟩
                    | true =>
                      have HS : Hid (∀ j, j < k + 1 → eqKn k1[j]! k2[j]! = true) := fun j hj => by
                        by_cases h : j = k
                        · subst h; exact HZ.out
                        · exact hn.out j (by omega)
                      have HB2 : Hid (Below w2.heap.size w2 wr.drew) := hbl.out.drew
                      go_wp2_with fail
                      go_roundw
                      case rel => exact ⟨k + 1, by omega, by go_num, HS, HB2⟩
                      case measure => simp [intOf]; omega
                  · have hkl : k = k1.length := by omega
                    subst hkl
                    have HA2 := Lib.hid (Lib.allEq_all eqKn k1 k2 hlk.symm hn.out)
                    have HB3 := hbl
                    have hz1 : ¬ ((k1.length : Nat) : Int) < k1.length := by omega
                    clear hn hbl q1 q2 r3
                    go_wp2_with fail
                    clear hz1 p3
                    go_ret
                    exact ⟨by rw [HA0.out, HA1.out, HA2.out]; rfl, HBw.out⟩
end Go.Proofs.Ytboophfcakdlcaa
