/- The program's Join. -/
import Derived.Test.YtopgbbkndkincaaDoorExStrs
import Derived.Laws.IdiomStrings
import Derived.Laws.BytesArg
namespace Go.Proofs.YtopgbbkndkincaaDoor
open Go.RowKit Go.PlainAid

abbrev strV (l : List UInt8) : Value := .string ⟨l.toArray⟩
abbrev mk8 (l : List UInt8) : ByteArray := ⟨l.toArray⟩
theorem mk8_size (l : List UInt8) : (mk8 l).size = l.length := by rw [Lib.size_eq]
theorem mk8_of (s : ByteArray) : mk8 s.data.toList = s := by apply ByteArray.ext; simp
theorem mk8_app (a b : List UInt8) : mk8 a ++ mk8 b = mk8 (a ++ b) := ByteArray.mk_append_mk a b
theorem mk8_cut (s : ByteArray) : s.extract 0 (s.size - 1) = mk8 s.data.toList.dropLast := by
  apply ByteArray.ext
  rw [ByteArray.data_extract]
  apply Array.ext'
  rw [Array.toList_extract, List.extract_eq_take_drop, List.drop_zero, List.dropLast_eq_take, Lib.size_eq]
  simp
theorem own_form {B n size : Nat} {e : TypeId} {v : Value} {xs : List Value} {W : World} (h : W.ownsRow B e size v n xs) : ∃ ao c, v = .slice ao n c := by
  rcases h.2 with ⟨h1, h2⟩ | ⟨g, c, _, h1, _⟩
  · exact ⟨none, 0, by rw [h1, h2]⟩
  · exact ⟨_, c, h1⟩
/-- A row of bytes as a string. -/
theorem row_back {B : Nat} {v : Value} {l : List UInt8} {W : World} (h : W.ownsRow B 5 1 v l.length (Lib.strCells (mk8 l))) : (convert 40 9 v).run Tryd.prog W = .ok (.string (mk8 l)) W := by
  rcases h.2 with ⟨rfl, h2⟩ | ⟨g, cap, cur, rfl, h2, h3, h4⟩
  · have hz : l = [] := List.eq_nil_of_length_eq_zero h2
    subst hz
    exact run_convert_bytes_nil (P := Tryd.prog) W 40 5 Tryd.underlying40 Tryd.underlying5 0 0 9 Tryd.underlying9
  · exact run_convert_bytes_back (P := Tryd.prog) W 40 9 5 ⟨g, 0, none⟩ cap l Tryd.underlying40 Tryd.underlying5 Tryd.underlying9 (fun j hj =>
      h.cells (g := g) rfl j (.int .u8 (l[j].toNat : Int)) (by
        unfold Lib.strCells
        rw [List.getElem?_map, List.getElem?_eq_getElem hj]
        rfl))
theorem row_zero {B n : Nat} {ao : Option Addr} {c : Nat} {xs : List Value} {W : World} (h : W.ownsRow B 5 1 (.slice ao n c) n xs) : W.ownsRow B 5 1 (.slice ao 0 c) 0 [] := by
  refine ⟨rfl, ?_⟩
  rcases h.2 with ⟨h1, h2⟩ | ⟨g, cap, cur, h1, h2, h3, h4, h5, h6, _⟩
  · injection h1 with h1 h2 h3
    subst h1 h3
    exact .inl ⟨rfl, rfl⟩
  · injection h1 with h1 h7 h8
    subst h1 h8
    exact .inr ⟨g, c, cur, rfl, h2, h3, Nat.zero_le _, h5, h6, by simp⟩

theorem cell_new (X : World) (v : Value) (T : TypeId) : (X.alloc (.cells #[v] T)).cell? ⟨X.heap.size, 0, none⟩ = some v := by
  unfold World.cell?
  rw [heap_alloc_new]
  rfl
/-- Joined so far. -/
structure JnAt (W0 : World) (L : List (List UInt8)) (k : Nat) (vj va : Value) (J : List (List UInt8)) (acc : List UInt8) (W : World) : Prop where
  eq : J ++ jn acc (L.drop k) = jn [] L
  jrow : W.ownsRow W0.heap.size 9 1 vj J.length (J.map strV)
  arow : W.ownsRow W0.heap.size 5 1 va acc.length (Lib.strCells (mk8 acc))
  apart : ∀ g, vj.ownBlock = some g → va.ownBlock ≠ some g
  bel : Below W0.heap.size W0 W
  few : acc.length + tot (L.drop k) ≤ 4000
section
variable {W0 W W1 : World} {L J : List (List UInt8)} {k : Nat} {vj va v' : Value} {acc l : List UInt8}
theorem drop_at (hl : L[k]? = some l) : L.drop k = l :: L.drop (k + 1) := by
  obtain ⟨h1, h2⟩ := List.getElem?_eq_some_iff.1 hl
  rw [List.drop_eq_getElem_cons h1, h2]
theorem JnAt.below (h : JnAt W0 L k vj va J acc W) (hb : Below W.heap.size W W1) : JnAt W0 L k vj va J acc W1 :=
  ⟨h.eq, owns_of_block h.jrow fun g e => hb.block g (h.jrow.lt g e).2, owns_of_block h.arow fun g e => hb.block g (h.arow.lt g e).2, h.apart, h.bel.trans (hb.mono h.bel.size), h.few⟩
/-- A line that goes on. -/
theorem JnAt.goes (h : JnAt W0 L k vj va J acc W) (hl : L[k]? = some l) (ho : oddL l = true) (hk : k + 1 < L.length)
    (h1 : W1.ownsRow W0.heap.size 5 1 v' (acc.length + (mk8 l.dropLast).size) (Lib.strCells (mk8 acc) ++ Lib.strCells (mk8 l.dropLast))) (h2 : W.grownBy W1 va.ownBlock) (h3 : v'.ownBlock = va.ownBlock ∨ v'.ownBlock = some W.heap.size) :
    JnAt W0 L (k + 1) vj v' J (acc ++ l.dropLast) W1 := by
  have hd := drop_at hl
  refine ⟨?_, owns_of_block h.jrow fun g e => h2.block g (h.jrow.lt g e).2 (fun e2 => h.apart g e e2.symm), ?_, fun g e e2 => ?_, ?_, ?_⟩
  · rw [← h.eq, hd, jn_go ho (by
      intro e
      have := congrArg List.length e
      simp at this
      omega)]
  · rw [mk8_size] at h1
    rw [List.length_append, ← mk8_app, strCells_app]
    exact h1
  · rcases h3 with h3 | h3
    · rw [h3] at e2; exact h.apart g e e2
    · rw [h3] at e2
      injection e2 with e2
      have := (h.jrow.lt g e).2
      omega
  · refine h.bel.trans ⟨h2.os, h2.tape, h2.output, h2.size, fun g hg => h2.block g (Nat.lt_of_lt_of_le hg h.bel.size) (fun e => by have := (h.arow.lt g e.symm).1; omega)⟩
  · have := h.few
    rw [hd, tot_cons] at this
    have h4 : l.dropLast.length ≤ l.length := by simp
    rw [List.length_append]
    omega
/-- A line that ends one. -/
theorem JnAt.ends {ao : Option Addr} {c : Nat} (h : JnAt W0 L k vj (.slice ao acc.length c) J acc W) (hl : L[k]? = some l) (ho : oddL l = false ∨ L.length ≤ k + 1)
    (h1 : W1.ownsRow W0.heap.size 9 1 v' (J.length + 1) (J.map strV ++ [strV (acc ++ l)])) (h2 : (W.alloc (.cells #[strV (acc ++ l)] 9)).grownBy W1 vj.ownBlock) (h3 : v'.ownBlock = vj.ownBlock ∨ v'.ownBlock = some (W.alloc (.cells #[strV (acc ++ l)] 9)).heap.size) :
    JnAt W0 L (k + 1) v' (.slice ao 0 c) (J ++ [acc ++ l]) [] W1 := by
  have hd := drop_at hl
  have hb : Below W.heap.size W (W.alloc (.cells #[strV (acc ++ l)] 9)) := (Below.refl _ _).alloc (Nat.le_refl _) _
  have ha2 : Value.ownBlock (.slice ao 0 c) = Value.ownBlock (.slice ao acc.length c) := by cases ao <;> rfl
  refine ⟨?_, ?_, owns_of_block (row_zero h.arow) fun g e => ?_, fun g e e2 => ?_, ?_, ?_⟩
  · rw [← h.eq, hd, jn_end (by
      rcases ho with ho | ho
      · exact .inl ho
      · exact .inr (List.drop_eq_nil_of_le ho))]
    simp
  · rw [List.length_append, List.map_append]
    exact h1
  · rw [ha2] at e
    have hlt := (h.arow.lt g e).2
    rw [h2.block g (by simp; omega) (fun e2 => h.apart g e2.symm e)]
    exact hb.block g hlt
  · rw [ha2] at e2
    rcases h3 with h3 | h3
    · rw [h3] at e; exact h.apart g e e2
    · rw [h3] at e
      injection e with e
      have := (h.arow.lt g e2).2
      simp at e
      omega
  · refine h.bel.trans ⟨h2.os, h2.tape, h2.output, Nat.le_trans (by simp) h2.size, fun g hg => ?_⟩
    rw [h2.block g (by have := h.bel.size; simp; omega) (fun e => by have := (h.jrow.lt g e.symm).1; omega)]
    exact hb.block g (Nat.lt_of_lt_of_le hg h.bel.size)
  · have := h.few
    rw [hd, tot_cons] at this
    simp
    omega
end
/-- What joining gives. -/
def JoinP (L : List (List UInt8)) (W : World) (e : Ending) (W' : World) : Prop := ∃ v, e = .returned v ∧ W'.ownsRow W.heap.size 9 1 v (jn [] L).length ((jn [] L).map strV) ∧ Below W.heap.size W W'
abbrev bytesOf (ls : List ByteArray) : List (List UInt8) := ls.map fun s => s.data.toList
set_option maxRecDepth 100000 in
set_option maxHeartbeats 4000000 in
theorem join_any (ao : Option Addr) (ls : List ByteArray) (cap : Nat) (W : World) (h : Strs ao ls W) (hn : ls.length ≤ 40) (ht : tot (bytesOf ls) ≤ 4000) : Calls Tryd.prog 8 #[.slice ao ls.length cap] W (JoinP (bytesOf ls) W) := by
  have HH := Lib.hid h
  have HT := Lib.hid ht
  clear h ht
  go_enter Tryd.func8, Tryd.ntmps8
  go_wp2_with fail
  go_loopw [3, 4, 9] (fun vj va i wr => ∃ k J acc, k ≤ ls.length ∧ i = .int .i64 (k : Nat) ∧ Hid (JnAt W (bytesOf ls) k vj va J acc wr)) (fun _ _ i _ => ls.length - (intOf i).toNat)
  case atStart => exact ⟨0, [], [], by omega, rfl, ⟨rfl, World.ownsRow_nil _ _ _ _, World.ownsRow_nil _ _ _ _, (fun _ e => by cases e), Below.refl _ _, (by rw [List.drop_zero, List.length_nil, Nat.zero_add]; exact HT.out)⟩⟩
  case round =>
    obtain ⟨k, J, acc, hk, rfl, hat⟩ := hrel
    by_cases hlt : k < ls.length
    · obtain ⟨s, hs⟩ : ∃ s, ls[k]? = some s := ⟨_, List.getElem?_eq_getElem hlt⟩
      obtain ⟨b, off, rfl, hbl, hcell⟩ := (HH.out.below hat.out.bel).at hs
      have HL : Hid ((bytesOf ls)[k]? = some s.data.toList) := by show (ls.map _)[k]? = _; rw [List.getElem?_map, hs]; rfl
      have hsz : s.size ≤ 4000 := by
        have := hat.out.few
        rw [drop_at HL.out, tot_cons, ← Lib.size_eq] at this
        omega
      have hkz : (k : Int) < ls.length := by omega
      have hk0 : (0 : Int) ≤ k := by omega
      obtain ⟨ao2, c, rfl⟩ := own_form hat.out.arow
      have HG := Lib.hid (goesOn_any s (by omega) wr)
      have HJ := Lib.hid hat.out
      have hcc : acc.length + s.size ≤ 8000 := by have := hat.out.few; omega
      have hB : W.heap.size ≤ wr.heap.size := hat.out.bel.size
      clear hs hat
      by_cases hgo : oddL s.data.toList = true ∧ k + 1 < ls.length
      · obtain ⟨ho, hk1⟩ := hgo
        have hkl : (k : Int) < ls.length - 1 := by omega
        have hs1 : 1 ≤ s.size := by
          have h1 := (odd_cut ho).2
          rw [Lib.size_eq]
          exact List.length_pos_iff.2 h1
        have hs1z : (1 : Int) ≤ s.size := by omega
        have hcz : ((s.size : Int) - 1).toNat = s.size - 1 := by omega
        have HCU := Lib.hid (mk8_cut s)
        rw [ho] at HG
        have HGO : Hid (∀ v' w', w'.ownsRow W.heap.size 5 1 v' (acc.length + (s.extract 0 (s.size - 1)).size) (Lib.strCells (mk8 acc) ++ Lib.strCells (s.extract 0 (s.size - 1))) → wr.grownBy w' (Value.slice ao2 acc.length c).ownBlock → (v'.ownBlock = (Value.slice ao2 acc.length c).ownBlock ∨ v'.ownBlock = some wr.heap.size) →
            JnAt W (bytesOf ls) (k + 1) u3 v' J (acc ++ s.data.toList.dropLast) w') := fun v' w' h1 h2 h3 => by
          rw [HCU.out] at h1
          exact HJ.out.goes HL.out ho (by simpa using hk1) h1 h2 h3
        have hfit : acc.length + (s.extract 0 (s.size - 1)).size ≤ 100000 := by
          have := HJ.out.few
          rw [ByteArray.size_extract]
          omega
        clear ho hk1 HL
        go_wp2_with fail
        refine HG.out.mono ?_
        rintro e w1 ⟨rfl, rfl⟩
        go_wp2_with (at_builtin; refine wpList_str rfl (.tmp 23) (.tmp 28) rfl rfl rfl _ rfl HJ.out.arow hfit hB ?_; intro v' w' h1 h2 h3; have HA := Lib.hid (HGO.out v' w' h1 h2 h3); clear h1 h2 h3)
        go_roundw
        case rel => exact ⟨k + 1, _, _, by omega, by go_num, HA⟩
        case measure => simp only [intOf]; omega
      · have hback := row_back HJ.out.arow
        have HQ : Hid (mk8 acc ++ s = mk8 (acc ++ s.data.toList)) := by
          show mk8 acc ++ s = _
          rw [← mk8_app, mk8_of]
        have HEN : Hid (∀ v' w', w'.ownsRow W.heap.size 9 1 v' (J.length + 1) (J.map strV ++ [.string (mk8 acc ++ s)]) → (wr.alloc (.cells #[.string (mk8 acc ++ s)] 9)).grownBy w' u3.ownBlock → (v'.ownBlock = u3.ownBlock ∨ v'.ownBlock = some (wr.alloc (.cells #[.string (mk8 acc ++ s)] 9)).heap.size) →
            JnAt W (bytesOf ls) (k + 1) v' (.slice ao2 0 c) (J ++ [acc ++ s.data.toList]) [] w') := fun v' w' h1 h2 h3 => by
          rw [HQ.out] at h1 h2 h3
          exact HJ.out.ends HL.out (by
            rcases Classical.em (k + 1 < ls.length) with h | h
            · left
              cases ho : oddL s.data.toList with
              | false => rfl
              | true => exact absurd ⟨ho, h⟩ hgo
            · right; simp; omega) h1 h2 h3
        have hjl : J.length + 1 ≤ 100000 := by
          have h1 := congrArg List.length HJ.out.eq
          have h2 := jn_length [] (bytesOf ls)
          rw [List.length_append] at h1
          simp at h2
          omega
        by_cases hk1 : k + 1 < ls.length
        · have ho : oddL s.data.toList = false := by
            cases ho : oddL s.data.toList with
            | false => rfl
            | true => exact absurd ⟨ho, hk1⟩ hgo
          rw [ho] at HG
          have hkl : (k : Int) < ls.length - 1 := by omega
          clear hgo ho HL
          go_wp2_with fail
          refine HG.out.mono ?_
          rintro e w1 ⟨rfl, rfl⟩
          go_wp2_with (at_builtin; refine wpList_line rfl (.tmp 30) (.tmp 35) rfl rfl (s := mk8 acc ++ s) rfl ⟨wr.heap.size, 0, none⟩ rfl (cell_new _ _ _) (HJ.out.jrow.alloc _) hjl (by simp; omega) ?_; intro v' w' h1 h2 h3; have HA := Lib.hid (HEN.out v' w' h1 h2 h3); clear h1 h2 h3)
          go_roundw
          case rel => exact ⟨k + 1, _, _, by omega, by go_num, HA⟩
          case measure => simp only [intOf]; omega
        · have hkl : ¬ (k : Int) < ls.length - 1 := by omega
          clear hgo HL HG
          go_wp2_with (at_builtin; refine wpList_line rfl (.tmp 30) (.tmp 35) rfl rfl (s := mk8 acc ++ s) rfl ⟨wr.heap.size, 0, none⟩ rfl (cell_new _ _ _) (HJ.out.jrow.alloc _) hjl (by simp; omega) ?_; intro v' w' h1 h2 h3; have HA := Lib.hid (HEN.out v' w' h1 h2 h3); clear h1 h2 h3)
          go_roundw
          case rel => exact ⟨k + 1, _, _, by omega, by go_num, HA⟩
          case measure => simp only [intOf]; omega
    · obtain rfl : k = ls.length := by omega
      have HE : Hid (J = jn [] (bytesOf ls)) := by
        have := hat.out.eq
        rw [List.drop_eq_nil_of_le (by simp)] at this
        rw [jn, List.append_nil] at this
        exact this
      go_wp2_with fail
      go_ret
      exact ⟨_, rfl, by rw [← HE.out]; exact hat.out.jrow, hat.out.bel⟩
end Go.Proofs.YtopgbbkndkincaaDoor
