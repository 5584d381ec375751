/- Glyphs with the ligatures' ones among them. -/
import Derived.Test.YtboophfcakdlcaaFtSort
import Derived.Deep.DeepCutAuto
namespace Go.Proofs.Ytboophfcakdlcaa
open Go.RowKit Go.PlainAid Go.Shelf

set_option maxHeartbeats 1000000 in
theorem romanGlyphs_any (d : Int) (hd : -1000 ≤ d ∧ d ≤ 1000) (w : World) : Calls Try.prog 30 #[.int .i64 d] w (fun e w' => ∃ v, e = .returned v ∧ OwnG w.heap.size v (bytesG (fun c => max 0 (romanW c + d)) 94) w' ∧ Below w.heap.size w w') := by
  have hmf : ∀ (fn : Fn) (first cap : Array Value) (w : World), (Instr.makeFunc fn first cap).run Try.prog w = .ok (.func fn first cap) w := fun _ _ _ _ => rfl
  have HP := Lib.hid (fun (w1 : World) (p : Nat) (hp : p < w1.heap.size) (hc : w1.cell? ⟨p, 0, none⟩ = some (.int .i64 d)) => bytesOf_any 63 #[.pointer (some ⟨p, 0, none⟩)] (fun c => max 0 (romanW c + d)) w1 enters_r1
    (fun c W hb => r1_any p d hd c W ((hb.cell (p := ⟨p, 0, none⟩) hp).trans hc)))
  go_enter Try.func30, Try.ntmps30
  go_upto_region 1 with fail
  generalize hw2 : w.alloc _ = w2
  have hb2 : Below w.heap.size w w2 := by rw [← hw2]; exact (Below.refl _ _).alloc (Nat.le_refl _) _
  have ht : w2.heap[w.heap.size]? = some (.cells #[.int .i64 d] 3 (0, 0)) := by rw [← hw2]; exact heap_alloc_new w _
  have HB := Lib.hid hb2
  have hp := (Array.getElem?_eq_some_iff.1 ht).1
  have HC := Lib.hid (HP.out w2 w.heap.size hp (cell_of (j := 0) ht rfl))
  clear hw2 hb2 ht HP
  go_wp2_with fail
  refine HC.out.mono ?_
  rintro e w3 ⟨v, rfl, ho, hb3⟩
  have HO : Hid (OwnG w.heap.size v (bytesG (fun c => max 0 (romanW c + d)) 94) w3) := by
    refine ⟨ho.1, ?_⟩
    rcases ho.2 with h | ⟨g, cap, cur, h1, h2, h3⟩
    · exact .inl h
    · exact .inr ⟨g, cap, cur, h1, Nat.le_trans HB.out.size h2, h3⟩
  have HB3 := Lib.hid (HB.out.trans (hb3.mono HB.out.size))
  clear ho hb3 HC
  go_wp2_with fail
  go_ret
  exact ⟨_, rfl, HO.out, HB3.out⟩

/-- The ligatures and the kerns of R. -/
def RL : List Lg := [⟨[102], [102], [102, 102]⟩, ⟨[102], [105], [102, 105]⟩, ⟨[102], [108], [102, 108]⟩]
def RK : List Kn := [⟨[65], [86], -80⟩, ⟨[65], [87], -60⟩, ⟨[84], [111], -70⟩, ⟨[86], [65], -80⟩, ⟨[89], [111], -90⟩]
theorem rowK_block {α : Type} [Inhabited α] {enc : α → List Value} {k : Nat} (hk : ∀ x, (enc x).length = k) {g : Nat} {xs : List α} {cs : Array Value} {t : TypeId} {f : Nat × Nat} {w : World} (h : w.heap[g]? = some (.cells cs t f)) (hc : cs.toList = flatE enc xs) :
    RowK enc k (some ⟨g, 0, none⟩) xs w := by
  refine ⟨g, 0, fun _ => ⟨rfl, (Array.getElem?_eq_some_iff.1 h).1⟩, fun j hj i v hv => ?_⟩
  have hi : i < k := by rw [← hk xs[j]!]; exact (List.getElem?_eq_some_iff.1 hv).1
  rw [Nat.zero_add]
  refine cell_of h ?_
  rw [← Array.getElem?_toList, hc, flat_get hk xs j i hj hi]
  exact hv
theorem romanLigs_any (w : World) : Calls Try.prog 31 #[] w (fun e w' => e = .returned (.slice (some ⟨w.heap.size, 0, none⟩) 3 3) ∧ RowK encLg 3 (some ⟨w.heap.size, 0, none⟩) RL w' ∧ Below w.heap.size w w') := by
  go_enter Try.func31, Try.ntmps31
  go_wp2_with fail
  go_ret
  exact ⟨rfl, by refine rowK_block (enc := encLg) (k := 3) (fun _ => rfl) (heap_alloc_new w _) ?_; rfl, (Below.refl _ _).alloc (Nat.le_refl _) _⟩
theorem romanKerns_any (w : World) : Calls Try.prog 32 #[] w (fun e w' => e = .returned (.slice (some ⟨w.heap.size, 0, none⟩) 5 5) ∧ RowK encKn 3 (some ⟨w.heap.size, 0, none⟩) RK w' ∧ Below w.heap.size w w') := by
  go_enter Try.func32, Try.ntmps32
  go_wp2_with fail
  go_ret
  exact ⟨rfl, by refine rowK_block (enc := encKn) (k := 3) (fun _ => rfl) (heap_alloc_new w _) ?_; rfl, (Below.refl _ _).alloc (Nat.le_refl _) _⟩

/-- One glyph is put behind the others; a block that is not the row's stays as it is. -/
theorem wpList_glyph2 {W : World} {ops : Array Oper} {rest : List Oper} {o : Oper} {a : Act} {Q : Exit → Act → World → Prop} (hgd : o.guard = none) (sl x : Operand)
    (ho : o.op = .call { callee := .builtin .append, args := #[sl, x], argTypes := #[33, 33] })
    {B : Nat} {v : Value} {xs : List Gl} {s : List UInt8} {m : Int} (hs : a.eval sl = v) (ad : Addr) (hx : a.eval x = .slice (some ad) 1 1) (h0 : W.cell? (ad.add 0) = some (.string (mk8 s))) (h1 : W.cell? (ad.add 1) = some (.int .i64 m)) (hown : OwnG B v xs W) (hn : xs.length + 1 ≤ 100000) (hB : B ≤ W.heap.size)
    (h : ∀ v' w', OwnG B v' (xs ++ [⟨s, m⟩]) w' → Below B W w' → (∀ k, k < W.heap.size → v.ownBlock ≠ some k → v'.ownBlock ≠ some k ∧ w'.heap[k]? = W.heap[k]?) → wpList Try.prog ops Q rest (a.put o.dst v') w') : wpList Try.prog ops Q (o :: rest) a W := by
  obtain ⟨i0, hi, hz0, hz1, hz2⟩ := info_parts glyph_info
  refine wpList_append_own_at (P := Try.prog) W hgd sl x 33 ho B 44 i0 _ 2 24 Try.underlying33 hi hz0 hz1 hz2 rfl (by omega) v xs.length (flatE encG xs) hs hown ad 1 1 (encG ⟨s, m⟩) hx rfl ?_ ?_ (by unfold maxLen; omega) (by omega) hB ?_
  · intro j u hj
    rcases j with _ | _ | j
    · simp [encG] at hj; subst hj; exact h0
    · simp [encG] at hj; subst hj; exact h1
    · simp [encG] at hj
  · intro u hu
    simp [encG] at hu
    rcases hu with rfl | rfl <;> rfl
  · intro v' w' h2 h3 _ h4
    refine h v' w' ?_ ⟨h3.os, h3.tape, h3.output, h3.size, fun k hk => h3.block k (Nat.lt_of_lt_of_le hk hB) (fun e => by have := (hown.lt k e.symm).1; omega)⟩ (fun k hk hne => ⟨?_, h3.block k hk (fun e => hne e.symm)⟩)
    · have hf : flatE encG (xs ++ [⟨s, m⟩]) = flatE encG xs ++ encG ⟨s, m⟩ := by simp [flatE]
      unfold OwnG
      rw [hf, List.length_append]
      exact h2
    · rcases h4 with h4 | h4
      · rw [h4]; exact hne
      · rw [h4]; intro e; have := Option.some.inj e; omega
/-- A block's list of ligatures. -/
abbrev LigBlk (b : Nat) (w : World) : Prop := ∃ t f, w.heap[b]? = some (.cells ((flatE encLg RL).toArray) t f)
theorem romanLigs_blk (w : World) : Calls Try.prog 31 #[] w (fun e w' => e = .returned (.slice (some ⟨w.heap.size, 0, none⟩) 3 3) ∧ LigBlk w.heap.size w' ∧ w'.heap.size = w.heap.size + 1 ∧ Below w.heap.size w w') := by
  go_enter Try.func31, Try.ntmps31
  go_wp2_with fail
  go_ret
  exact ⟨rfl, ⟨_, _, heap_alloc_new w _⟩, by simp, (Below.refl _ _).alloc (Nat.le_refl _) _⟩
def ligG (d : Int) (k : Nat) : List Gl := (RL.take k).map fun l => ⟨l.is, d⟩
theorem ligG_succ (d : Int) {k : Nat} (hk : k < 3) : ligG d (k + 1) = ligG d k ++ [⟨RL[k]!.is, d⟩] := by
  obtain rfl | rfl | rfl : k = 0 ∨ k = 1 ∨ k = 2 := by omega
  all_goals rfl

set_option maxRecDepth 100000 in
set_option maxHeartbeats 4000000 in
theorem withLigs_any (B : Nat) (v : Value) (xs : List Gl) (d : Int) (w : World) (h : OwnG B v xs w) (h0 : 0 < xs.length) (hl : xs.length ≤ 1000) (hB : B ≤ w.heap.size) :
    Calls Try.prog 29 #[v, .int .i64 d] w (fun e w' => ∃ ao cap ys, e = .returned (.slice ao ys.length cap) ∧ Sorted (xs ++ ligG d 3) ys ∧ RowK encG 2 ao ys w' ∧ Below B w w') := by
  have hce := enters_byName
  have HL := Lib.hid (romanLigs_blk w)
  have HO := Lib.hid h
  have hvb : ∀ k, v.ownBlock = some k → k < w.heap.size := fun k hk => (h.lt k hk).2
  clear h
  go_enter Try.func29, Try.ntmps29
  go_wp2_with fail
  refine HL.out.mono ?_
  rintro e w1 ⟨rfl, hlb, hsz, hb1⟩
  have HO1 := Lib.hid (owns_below HO.out hb1)
  have HB1 := Lib.hid (hb1.mono hB)
  have hB1 : B ≤ w1.heap.size := by omega
  obtain ⟨p, hp⟩ : ∃ p, w.heap.size = p := ⟨_, rfl⟩
  rw [hp] at hlb hvb
  rw [hp]
  have hpl : p < w1.heap.size := by omega
  have HL1 := Lib.hid hlb
  have hvp : Hid (v.ownBlock ≠ some p) := fun e => absurd (hvb p e) (Nat.lt_irrefl _)
  clear HL HO hb1 hlb hvb hp hsz hB
  go_wp2_with fail
  go_loopw [0, 9] (fun u i wr => ∃ k : Nat, k ≤ 3 ∧ i = .int .i64 k ∧ Hid (OwnG B u (xs ++ ligG d k) wr) ∧ Hid (LigBlk p wr) ∧ Hid (u.ownBlock ≠ some p) ∧ w1.heap.size ≤ wr.heap.size ∧ Hid (Below B w wr)) (fun _ i _ => 3 - (intOf i).toNat)
  case atStart => exact ⟨0, by omega, rfl, by rw [show ligG d 0 = [] from rfl, List.append_nil]; exact HO1, HL1, hvp, Nat.le_refl _, HB1⟩
  case round =>
    obtain ⟨k, hk, rfl, ho, hlb, hub, hws, hbl⟩ := hrel
    by_cases hlt : k < 3
    · obtain ⟨t, f, ht⟩ := hlb.out
      obtain ⟨x, hx⟩ : ∃ x, RL[k]! = x := ⟨_, rfl⟩
      have hr : ∀ i u, (encLg x)[i]? = some u → i < 3 → wr.cell? ⟨p, k * 3 + i, none⟩ = some u := fun i u hu hi => by
        refine cell_of ht ?_
        have := flat_get (enc := encLg) (k := 3) (fun _ => rfl) RL k i hlt hi
        rw [hx, hu] at this
        simpa using this
      obtain ⟨la, lb, li⟩ := x
      have c0 := hr 0 _ rfl (by omega)
      have c1 := hr 1 _ rfl (by omega)
      have c2 := hr 2 _ rfl (by omega)
      rw [Nat.add_zero] at c0
      simp only at c0 c1 c2
      have hz1 : (k : Int) < 3 := by omega
      have hpw : p < wr.heap.size := by omega
      have HN : Hid (xs ++ ligG d (k + 1) = (xs ++ ligG d k) ++ [⟨li, d⟩]) := by show _ = _; rw [ligG_succ d hlt, hx, List.append_assoc]
      have hlen : (xs ++ ligG d k).length ≤ 1003 := by rw [List.length_append, ligG, List.length_map, List.length_take]; omega
      clear hr hx
      go_upto_region 4 with fail
      generalize hw2 : wr.alloc _ = w2
      have hb2 : Below wr.heap.size wr w2 := by rw [← hw2]; exact (Below.refl _ _).alloc (Nat.le_refl _) _
      have hcell : w2.heap[wr.heap.size]? = some (.cells #[.string (mk8 la), .string (mk8 lb), .string (mk8 li)] 89 (0, 0)) := by rw [← hw2]; exact heap_alloc_new wr _
      have hs2 : wr.heap.size < w2.heap.size := by rw [← hw2]; simp
      have ho2 := Lib.hid (owns_below ho.out hb2)
      have ht2 : Hid (w2.heap[p]? = some (.cells ((flatE encLg RL).toArray) t f)) := by show _ = _; rw [hb2.block p hpw]; exact ht
      have HB2 := Lib.hid (hbl.out.trans (hb2.mono (by omega)))
      have e2 := cell_of (j := 2) hcell rfl
      obtain ⟨q, hq⟩ : ∃ q, wr.heap.size = q := ⟨_, rfl⟩
      rw [hq] at e2
      rw [hq]
      clear hw2 hb2 hcell ho ht c0 c1 c2 hbl hlb hq
      have hBw : B ≤ (w2.alloc (.cells #[.string (mk8 li), .int .i64 d] 44)).heap.size := by simp; omega
      have hpw2 : p < (w2.alloc (.cells #[.string (mk8 li), .int .i64 d] 44)).heap.size := by simp; omega
      have hln : (xs ++ ligG d k).length + 1 ≤ 100000 := by omega
      go_wp2_with (at_builtin; refine wpList_glyph2 rfl (.tmp 13) (.tmp 18) rfl (s := li) (m := d) rfl ⟨w2.heap.size, 0, none⟩ rfl (cell_of (heap_alloc_new w2 _) rfl) (cell_of (heap_alloc_new w2 _) rfl) (ho2.out.alloc _) hln hBw ?_; intro v' w' h1 h2 h3; have G1 := Lib.hid h1; have G2 := Lib.hid h2; have G3 := Lib.hid h3; clear h1 h2 h3)
      have HA : Hid (OwnG B v' (xs ++ ligG d (k + 1)) w') := by rw [HN.out]; exact G1.out
      have HB3 := Lib.hid (HB2.out.trans (((Below.refl B w2).alloc (by omega) _).trans G2.out))
      obtain ⟨h4, h5⟩ := G3.out p hpw2 hub.out
      have H5 : Hid (LigBlk p w') := ⟨t, f, by rw [h5, ((Below.refl w2.heap.size w2).alloc (Nat.le_refl _) _).block p (by omega)]; exact ht2.out⟩
      have H6 := G2.out.size
      have H7 : w1.heap.size ≤ w'.heap.size := by simp at H6; omega
      go_roundw
      case rel => exact ⟨k + 1, by omega, by go_num, HA, H5, h4, H7, HB3⟩
      case measure => simp [intOf]; omega
    · obtain rfl : k = 3 := by omega
      have hz1 : ¬ ((3 : Nat) : Int) < 3 := by omega
      have HS := Lib.hid (sort_any B u0 (xs ++ ligG d 3) wr ho.out (by rw [List.length_append]; omega) (by rw [List.length_append, ligG, List.length_map, List.length_take]; omega))
      clear ho hlb hub
      go_wp2_with fail
      refine HS.out.mono ?_
      rintro e w3 ⟨rfl, ao, cap, ys, hv, hsr, hrow, hb3⟩
      have hly : ys.length = (xs ++ ligG d 3).length := hsr.perm.length_eq
      have HB3 := Lib.hid (hbl.out.trans hb3)
      have HR := Lib.hid hrow
      have HSo := Lib.hid hsr
      have HLY : Hid (ys.length = xs.length + (ligG d 3).length) := by show _ = _; rw [hly, List.length_append]
      subst hv
      clear hb3 hrow hsr HS
      go_wp2_with fail
      go_ret
      exact ⟨ao, cap, ys, by rw [HLY.out]; rfl, HSo.out, HR.out, HB3.out⟩
end Go.Proofs.Ytboophfcakdlcaa
