/- The document's book: Remove; IsName. -/
import Derived.Test.YtopgbbkndkincaaGreatDoorRdNew
import Derived.Test.YtopgbbkndkincaaGreatDoorRgPure
namespace Go.Proofs.YtopgbbkndkincaaGreatDoor
open Go.RowKit Go.PlainAid

set_option maxRecDepth 100000 in
set_option maxHeartbeats 2000000 in
theorem rIsName_any (s : ByteArray) (hs : s.size ≤ 9223372036854775807) (w : World) : Calls Tryz.prog 32 #[.string s] w (Says (.bool (nameB s)) w) := by
  by_cases h : s.size = 0 ∨ 20 < s.size
  · have hn : nameB s = false := by
      rcases h with h | h
      · exact nameB_empty h
      · exact nameB_long (by omega)
    rw [hn]
    clear hn
    rcases h with h | h
    · go_enter Tryz.func32, Tryz.ntmps32
      go_wp2_with fail
      go_ret
      exact ⟨rfl, rfl⟩
    · go_enter Tryz.func32, Tryz.ntmps32
      go_wp2_with fail
      go_ret
      exact ⟨rfl, rfl⟩
  have h0 : 0 < s.size := by omega
  have h1 : s.size ≤ 20 := by omega
  have hgb := get_bt s
  clear h
  go_enter Tryz.func32, Tryz.ntmps32
  go_wp2_with fail
  go_loop [3] (fun i => ∃ k : Nat, k ≤ s.size ∧ i = .int .i64 k ∧ Hid (∀ j, j < k → nmB (bt s j) = true)) (fun i => s.size - (intOf i).toNat)
  case atStart => exact ⟨0, by omega, rfl, fun j hj => absurd hj (Nat.not_lt_zero _)⟩
  case round =>
    obtain ⟨k, hk, rfl, hn⟩ := hrel
    by_cases hlt : k < s.size
    · cases hb : nmB (bt s k) with
      | true =>
        have hne : Hid (∀ j, j < k + 1 → nmB (bt s j) = true) := fun j hj => by
          by_cases e : j = k
          · rw [e]; exact hb
          · exact hn.out j (by omega)
        have hb3 := hb
        simp only [nmB, Bool.and_eq_true, decide_eq_true_eq, Bool.not_eq_true'] at hb3
        obtain ⟨⟨c0, c1⟩, c2⟩ := hb3
        clear hb hn
        go_wp2
        go_round
        case rel => exact ⟨k + 1, by omega, by go_num, hne⟩
        case measure => simp [intOf]; omega
      | false =>
        have HN : Hid (nameB s = false) := nameB_byte hlt hb
        have c : bt s k < 33 ∨ (33 ≤ bt s k ∧ 126 < bt s k) ∨ (33 ≤ bt s k ∧ bt s k ≤ 126 ∧ (bt s k == 93) = true) := by
          by_cases h1 : 33 ≤ bt s k
          · by_cases h2 : bt s k ≤ 126
            · refine .inr (.inr ⟨h1, h2, ?_⟩)
              cases h3 : (bt s k == 93) with
              | true => rfl
              | false => simp [nmB, h1, h2, h3] at hb
            · exact .inr (.inl ⟨h1, by omega⟩)
          · exact .inl (by omega)
        clear hb hn
        rcases c with c0 | ⟨c0, c1⟩ | ⟨c0, c1, c2⟩
        all_goals
          go_wp2
          go_ret
          exact ⟨by rw [HN.out]; rfl, rfl⟩
    · have HN : Hid (nameB s = true) := nameB_all h0 h1 (fun j hj => hn.out j (by omega))
      clear hn
      go_wp2
      go_ret
      exact ⟨by rw [HN.out]; rfl, rfl⟩

/-- The rows without the one at its place. -/
def delR (nm : ByteArray) (l : List Row) : List Row := l.take (pos nm l) ++ l.drop (pos nm l + 1)
theorem own_form {W : World} {B n : Nat} {e : TypeId} {v : Value} {xs : List Value} (h : W.ownsRow B e 4 v n xs) : ∃ ao m c, v = .slice ao m c := by
  rcases h.2 with ⟨h0, _⟩ | ⟨g, c, _, h1, _⟩
  · exact ⟨none, 0, 0, h0⟩
  · exact ⟨_, n, c, h1⟩
section
variable {B b : Nat} {v : Value} {l : List Row} {w w' : World}
def RemP (B b : Nat) (v : Value) (l : List Row) (nm : ByteArray) (w : World) (e : Ending) (w' : World) : Prop :=
  e = .returned (.int .i64 0) ∧ (∃ v', RefAt B b v' (delR nm l) w' ∧ ∀ k, v'.ownBlock = some k → w.heap.size ≤ k) ∧ RefKept b v w w'
theorem rrem_bad (nm : ByteArray) (hs : nm.size ≤ maxLen) (hn : nameErr nm ≠ 0) (x : Value) : Calls Tryz.prog 20 #[x, .string nm] w (Makes (.int .i64 (nameErr nm)) w) := by
  have HN := Lib.hid (rIsName_any nm (by unfold maxLen at hs; omega) w)
  unfold nameErr at hn ⊢
  cases hb : nameB nm with
  | true => rw [hb] at hn; exact absurd rfl hn
  | false =>
    rw [hb] at HN
    clear hb hn
    go_enter Tryz.func20, Tryz.ntmps20
    go_wp2_with fail
    refine HN.out.mono ?_
    rintro e w1 ⟨rfl, rfl⟩
    go_wp2_with fail
    go_ret
    exact ⟨rfl, Below.refl _ _⟩
theorem nameErr_yes {nm : ByteArray} (hn : nameErr nm = 0) : nameB nm = true ∧ nm.size ≤ 20 := by
  unfold nameErr at hn
  split at hn
  · rename_i h; exact ⟨h, (nameB_yes h).2.1⟩
  · cases hn
theorem rrem_none (nm : ByteArray) (h : RefAt B b v l w) (hn : nameErr nm = 0) (hi : isAt nm l = false) : Calls Tryz.prog 20 #[.pointer (some ⟨b, 0, none⟩), .string nm] w (Makes (.int .i64 0) w) := by
  obtain ⟨hb, hsz⟩ := nameErr_yes hn
  have HN := Lib.hid (rIsName_any nm (by omega) w)
  have HA := Lib.hid (rat_any nm h)
  rw [hb] at HN
  rw [hi] at HA
  clear hb hn hi h
  go_enter Tryz.func20, Tryz.ntmps20
  go_wp2_with fail
  refine HN.out.mono ?_
  rintro e w1 ⟨rfl, rfl⟩
  go_wp2_with fail
  refine HA.out.mono ?_
  rintro e w1 ⟨rfl, hb⟩
  go_wp2_with fail
  go_ret
  exact ⟨rfl, hb⟩
set_option maxRecDepth 100000 in
set_option maxHeartbeats 2000000 in
theorem rrem_yes (nm : ByteArray) (h : RefAt B b v l w) (hn : nameErr nm = 0) (hi : isAt nm l = true) : Calls Tryz.prog 20 #[.pointer (some ⟨b, 0, none⟩), .string nm] w (RemP B b v l nm w) := by
  obtain ⟨hb, hsz⟩ := nameErr_yes hn
  have HN := Lib.hid (rIsName_any nm (by omega) w)
  have HA := Lib.hid (rat_any nm h)
  rw [hb] at HN
  rw [hi] at HA
  obtain ⟨q, hq, _⟩ := isAt_yes hi
  have hlt : pos nm l < l.length := (List.getElem?_eq_some_iff.1 hq).1
  have HH := Lib.hid h
  have hBw : B ≤ w.heap.size := by have := h.lo; have := h.lt; omega
  obtain ⟨p, hp⟩ : ∃ p, pos nm l = p := ⟨_, rfl⟩
  have hdel : delR nm l = l.take p ++ l.drop (p + 1) := by unfold delR; rw [hp]
  rw [hp] at HA hlt
  have HI := Lib.hid hdel
  rcases h.ways with ⟨_, h2⟩ | ⟨g, cap, rfl, hBg, hgl, hgb, hcap, hmax⟩
  · rw [h2] at hlt; exact absurd hlt (Nat.not_lt_zero _)
  have hln := h.few
  unfold maxLen at hmax
  clear h hi hp hdel hb hn hq
  by_cases hcp : cap = p + 1
  · subst hcp
    go_enter Tryz.func20, Tryz.ntmps20
    go_wp2_with fail
    refine HN.out.mono ?_
    rintro e w0 ⟨rfl, rfl⟩
    go_wp2_with fail
    refine HA.out.mono ?_
    rintro e w1 ⟨rfl, hb⟩
    have h2 := HH.out.below hb
    have hc1 : (w1.alloc (.cells #[] 62)).cell? ⟨b, 0, none⟩ = some (.slice (some ⟨g, 0, none⟩) l.length (p + 1)) := (h2.below ((Below.refl _ _).alloc (Nat.le_refl _) _)).cell
    have hpz : (0 : Int) ≤ p := by omega
    have hpc : (p : Int) ≤ (p + 1 : Nat) := by omega
    have hpc1 : ((p : Int) + 1) ≤ (p + 1 : Nat) := by omega
    have hpl1 : ((p : Int) + 1) ≤ l.length := by omega
    have hBw1 : B ≤ w1.heap.size := by have := hb.size; omega
    have ha1 : Below w1.heap.size w1 (w1.alloc (.cells #[] 62)) := (Below.refl _ _).alloc (Nat.le_refl _) _
    have O1 : Hid ((w1.alloc (.cells #[] 62)).ownsRow w1.heap.size 62 4 (.slice (some ⟨w1.heap.size, 0, none⟩) 0 0) 0 []) := World.ownsRow_lit w1 #[] 0 (Nat.le_refl _) (by omega) rfl
    have src1 := src_of (h2.below ha1) (i := 0) (m := p) (p + 1) (by omega)
    rw [Nat.zero_mul, List.drop_zero] at src1
    have S1 := Lib.hid src1
    have HL : Hid (∀ w2, Below w1.heap.size w1 w2 → RefAt B b (.slice (some ⟨g, 0, none⟩) l.length (p + 1)) l w2) := fun w2 hb2 => h2.below hb2
    clear src1 h2
    go_wp2_with (first
      | (at_builtin; refine wpList_app rfl (.tmp 18) (.tmp 24) rfl rfl rfl rfl O1.out S1.out (by omega) (by simp) ?_; intro v2 w2 own2 hg2; have B2 := Lib.hid (below_of_new hg2); have L2 := Lib.hid (HL.out w2 B2.out); have O2 := Lib.hid own2; clear own2 hg2; have hc2 := L2.out.cell)
      | (at_builtin; refine wpList_app rfl (.tmp 27) (.tmp 34) rfl rfl rfl rfl O2.out (src_zero _ _) (by omega) (by have := B2.out.size; omega) ?_; intro v3 w3 own3 hg3; have B3 := Lib.hid (below_of_own0 B2.out (fun k e => (O2.out.lt k e).1) B2.out.size hg3); have L3 := Lib.hid (HL.out w3 B3.out); obtain ⟨ao, m3, c3, rfl⟩ := own_form own3; have O3 := Lib.hid own3; clear own3 hg3 hc2; have hc3 := L3.out.cell; have hz3 := L3.out.free))
    go_ret
    refine ⟨rfl, ⟨.slice ao m3 c3, ?_, fun k hk => Nat.le_trans hb.size (O3.out.lt k hk).1⟩, RefKept.moved (hb.trans (B3.out.mono hb.size))⟩
    have own := O3.out
    have hfl : [] ++ flat (l.take p) ++ [] = flat (delR nm l) := by rw [HI.out, List.drop_eq_nil_of_le hcap, List.append_nil, List.append_nil, List.nil_append]
    have hln2 : 0 + p + 0 = (delR nm l).length := by rw [HI.out]; simp; omega
    rw [hfl, hln2] at own
    exact L3.out.moved (ownsRow_base_a own hBw1) (by rw [HI.out]; simp; omega) (fun k hk => by
      have h1 := (own.lt k hk).1
      have h2 := HH.out.lt
      have h3 := hb.size
      omega)
  · have hB0 : True := trivial
    go_enter Tryz.func20, Tryz.ntmps20
    go_wp2_with fail
    refine HN.out.mono ?_
    rintro e w0 ⟨rfl, rfl⟩
    go_wp2_with fail
    refine HA.out.mono ?_
    rintro e w1 ⟨rfl, hb⟩
    have h2 := HH.out.below hb
    have hc1 : (w1.alloc (.cells #[] 62)).cell? ⟨b, 0, none⟩ = some (.slice (some ⟨g, 0, none⟩) l.length (cap)) := (h2.below ((Below.refl _ _).alloc (Nat.le_refl _) _)).cell
    have hpz : (0 : Int) ≤ p := by omega
    have hpc : (p : Int) ≤ (cap : Nat) := by omega
    have hpc1 : ((p : Int) + 1) ≤ (cap : Nat) := by omega
    have hpl1 : ((p : Int) + 1) ≤ l.length := by omega
    have hBw1 : B ≤ w1.heap.size := by have := hb.size; omega
    have ha1 : Below w1.heap.size w1 (w1.alloc (.cells #[] 62)) := (Below.refl _ _).alloc (Nat.le_refl _) _
    have O1 : Hid ((w1.alloc (.cells #[] 62)).ownsRow w1.heap.size 62 4 (.slice (some ⟨w1.heap.size, 0, none⟩) 0 0) 0 []) := World.ownsRow_lit w1 #[] 0 (Nat.le_refl _) (by omega) rfl
    have src1 := src_of (h2.below ha1) (i := 0) (m := p) (cap) (by omega)
    rw [Nat.zero_mul, List.drop_zero] at src1
    have S1 := Lib.hid src1
    have HL : Hid (∀ w2, Below w1.heap.size w1 w2 → RefAt B b (.slice (some ⟨g, 0, none⟩) l.length (cap)) l w2) := fun w2 hb2 => h2.below hb2
    clear src1 h2
    go_wp2_with (first
      | (at_builtin; refine wpList_app rfl (.tmp 18) (.tmp 24) rfl rfl rfl rfl O1.out S1.out (by omega) (by simp) ?_; intro v2 w2 own2 hg2; have B2 := Lib.hid (below_of_new hg2); have L2 := Lib.hid (HL.out w2 B2.out); have O2 := Lib.hid own2; clear own2 hg2; have hc2 := L2.out.cell)
      | (at_builtin; refine wpList_app rfl (.tmp 27) (.tmp 34) rfl rfl rfl rfl O2.out (src_tail L2.out _ hlt) (by omega) (by have := B2.out.size; omega) ?_; intro v3 w3 own3 hg3; have B3 := Lib.hid (below_of_own0 B2.out (fun k e => (O2.out.lt k e).1) B2.out.size hg3); have L3 := Lib.hid (HL.out w3 B3.out); obtain ⟨ao, m3, c3, rfl⟩ := own_form own3; have O3 := Lib.hid own3; clear own3 hg3 hc2; have hc3 := L3.out.cell; have hz3 := L3.out.free))
    go_ret
    refine ⟨rfl, ⟨.slice ao m3 c3, ?_, fun k hk => Nat.le_trans hb.size (O3.out.lt k hk).1⟩, RefKept.moved (hb.trans (B3.out.mono hb.size))⟩
    have own := O3.out
    have hfl : [] ++ flat (l.take p) ++ flat (l.drop (p + 1)) = flat (delR nm l) := by rw [HI.out, flat_append, List.nil_append]
    have hln2 : 0 + p + (l.length - (p + 1)) = (delR nm l).length := by rw [HI.out]; simp; omega
    rw [hfl, hln2] at own
    exact L3.out.moved (ownsRow_base_a own hBw1) (by rw [HI.out]; simp; omega) (fun k hk => by
      have h1 := (own.lt k hk).1
      have h2 := HH.out.lt
      have h3 := hb.size
      omega)
end
end Go.Proofs.YtopgbbkndkincaaGreatDoor
