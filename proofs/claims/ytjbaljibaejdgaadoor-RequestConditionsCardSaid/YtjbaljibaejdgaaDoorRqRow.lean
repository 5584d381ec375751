/- A row of texts that the call makes. -/
import Derived.Test.YtjbaljibaejdgaaDoorRqQuot
import Derived.SliceStrings
namespace Go.Proofs.YtjbaljibaejdgaaDoor
open Go.RowKit Go.PlainAid Go.Shelf

abbrev strV (l : List UInt8) : Value := .string (mk8 l)
theorem str_info : (Tryd.prog.info? 9).map (fun i => (i.zero, i.size, i.bytes)) = some (some (.string ⟨#[]⟩), 1, 16) := by kernel_rfl
theorem owns_of_block {B e size n : Nat} {v : Value} {xs : List Value} {W W1 : World} (h : W.ownsRow B e size v n xs) (hk : ∀ k, v.ownBlock = some k → W1.heap[k]? = W.heap[k]?) : W1.ownsRow B e size v n xs := by
  refine ⟨h.1, ?_⟩
  rcases h.2 with ⟨h1, h2⟩ | ⟨g, cap, cur, rfl, h2, h3, h4⟩
  · exact .inl ⟨h1, h2⟩
  · exact .inr ⟨g, cap, cur, rfl, h2, (hk g rfl).trans h3, h4⟩
theorem owns_below {B e size n : Nat} {v : Value} {xs : List Value} {W W1 : World} (h : W.ownsRow B e size v n xs) (hb : Below W.heap.size W W1) : W1.ownsRow B e size v n xs :=
  owns_of_block h fun g hg => hb.block g (h.lt g hg).2
theorem own_form {B n size : Nat} {e : TypeId} {v : Value} {xs : List Value} {W : World} (h : W.ownsRow B e size v n xs) : ∃ ao c, v = .slice ao n c := by
  rcases h.2 with ⟨h1, h2⟩ | ⟨g, c, _, h1, _⟩
  · exact ⟨none, 0, by rw [h1, h2]⟩
  · exact ⟨_, c, h1⟩
theorem cell_new (X : World) (v : Value) (T : TypeId) : (X.alloc (.cells #[v] T)).cell? ⟨X.heap.size, 0, none⟩ = some v := by
  unfold World.cell?
  rw [heap_alloc_new]
  rfl
/-- One text is put behind the others. -/
theorem app_word {B n : Nat} {v : Value} {xs : List Value} {s : ByteArray} {W : World} (hown : W.ownsRow B 9 1 v n xs) (ad : Addr) (hnews : W.cell? ad = some (.string s)) (hn : n + 1 ≤ 100000) (hB : B ≤ W.heap.size) :
    ∃ v' w', (Builtin.append_ #[32, 32] 32 #[v, .slice (some ad) 1 1]).run Tryd.prog W = .ok v' w' ∧ w'.ownsRow B 9 1 v' (n + 1) (xs ++ [.string s]) ∧ Below B W w' := by
  obtain ⟨i0, hi, hz0, hz1, hz2⟩ := info_parts str_info
  have hone : ∀ u ∈ [Value.string s], u.oneCell' = true := fun u hu => by simp at hu; subst hu; rfl
  have hadd : ∀ j u, [Value.string s][j]? = some u → W.cell? (ad.add j) = some u := fun j u hj => by
    rcases j with _ | j
    · simp at hj
      subst hj
      have : ad.add 0 = ad := by obtain ⟨b, o, sp⟩ := ad; cases sp <;> simp [Addr.add]
      rw [this]; exact hnews
    · simp at hj
  obtain ⟨v', w', hr, h3, h4, _⟩ := run_append_own (P := Tryd.prog) W B 32 32 9 i0 _ 1 16 Tryd.underlying32 hi hz0 hz1 hz2 rfl (by omega) v n xs hown ad 1 1 [.string s] rfl hadd hone (by unfold maxLen; omega) (by omega) hB
  exact ⟨v', w', hr, h3, h4.os, h4.tape, h4.output, h4.size, fun k hk => h4.block k (Nat.lt_of_lt_of_le hk hB) (fun e => by have := (hown.lt k e.symm).1; omega)⟩
theorem wpList_word {W : World} {ops : Array Oper} {rest : List Oper} {o : Oper} {a : Act} {Q : Exit → Act → World → Prop} (hgd : o.guard = none) (sl x : Operand)
    (ho : o.op = .call { callee := .builtin .append, args := #[sl, x], argTypes := #[32, 32] }) (hty : o.type = 32)
    {B n : Nat} {v : Value} {xs : List Value} {s : ByteArray} (hs : a.eval sl = v) (ad : Addr) (hx : a.eval x = .slice (some ad) 1 1) (hnews : W.cell? ad = some (.string s)) (hown : W.ownsRow B 9 1 v n xs) (hn : n + 1 ≤ 100000) (hB : B ≤ W.heap.size)
    (h : ∀ v' w', w'.ownsRow B 9 1 v' (n + 1) (xs ++ [.string s]) → Below B W w' → wpList Tryd.prog ops Q rest (a.put o.dst v') w') : wpList Tryd.prog ops Q (o :: rest) a W := by
  obtain ⟨v', w', hrun, h1, h2⟩ := app_word hown ad hnews hn hB
  refine wpList_plain hgd fun K hK => ?_
  unfold Oper.wp
  simp [execOp, ho, hty, resolve, invoke, builtin, hs, hx, hrun, Result.andThen]
  exact hK _ _ (h v' w' h1 h2)

theorem wds_trim {l m : List UInt8} {ws : List (List UInt8)} (h : l.dropWhile blk = m) (hm : m.dropWhile blk = m) (hw : Wds m ws) : Wds l ws := by
  cases hw with
  | done h2 => exact .done (h.trans (hm.symm.trans h2))
  | more h2 h3 h4 => exact .more (h.trans (hm.symm.trans h2)) h3 h4
theorem trim_twice (l : List UInt8) : (l.dropWhile blk).dropWhile blk = l.dropWhile blk := by
  induction l with
  | nil => rfl
  | cons c r ih =>
    cases h : blk c with
    | true => rw [List.dropWhile_cons_of_pos h, ih]
    | false => rw [List.dropWhile_cons_of_neg (by simp [h]), List.dropWhile_cons_of_neg (by simp [h])]
/-- The words so far. -/
structure WdAt (W : World) (l m : List UInt8) (v : Value) (J : List (List UInt8)) (w : World) : Prop where
  eq : ∀ ws, Wds m ws → Wds l (J ++ ws)
  trim : m.dropWhile blk = m
  few : J.length + m.length ≤ l.length
  own : w.ownsRow W.heap.size 9 1 v J.length (J.map strV)
  bel : Below W.heap.size W w
/-- What a text's words are. -/
def WordsP (l : List UInt8) (W : World) (e : Ending) (W' : World) : Prop := ∃ v ws, e = .returned v ∧ Wds l ws ∧ ws.length ≤ l.length ∧ W'.ownsRow W.heap.size 9 1 v ws.length (ws.map strV) ∧ Below W.heap.size W W'

set_option maxRecDepth 100000 in
set_option maxHeartbeats 4000000 in
theorem words_any (l : List UInt8) (hl : l.length ≤ 90000) (W : World) : Calls Tryd.prog 20 #[.string (mk8 l)] W (WordsP l W) := by
  have HB := Lib.hid (blanks_any l (by omega) W)
  have h1 := blkN_le l
  have z1 : ((mk8 l).size : Int) = l.length := by rw [mk8_size]
  have hd := blkN_drop l
  obtain ⟨n, hn⟩ : ∃ n, blkN l = n := ⟨_, rfl⟩
  rw [hn] at HB h1 hd
  have T0 := Lib.hid (ext_tail l n)
  rw [← hd] at T0
  obtain ⟨m0, hm0⟩ : ∃ m, l.dropWhile blk = m := ⟨_, rfl⟩
  rw [hm0] at T0
  have HM0 := Lib.hid hm0
  have hml : Hid (m0.length ≤ l.length) := by show _ ≤ _; rw [← hm0, hd, List.length_drop]; omega
  have hnz : (n : Int) ≤ l.length := by omega
  clear hn hd hm0
  go_enter Tryd.func20, Tryd.ntmps20
  go_wp2_with fail
  refine HB.out.mono ?_
  rintro e w1 ⟨rfl, hb⟩
  have HB1 := Lib.hid hb
  clear hb
  go_wp2_with fail
  rw [T0.out]
  go_loopw [0, 3] (fun s v wr => ∃ m J, s = .string (mk8 m) ∧ Hid (WdAt W l m v J wr)) (fun s _ _ => match s with | .string t => t.size | _ => 0)
  case atStart =>
    refine ⟨m0, [], rfl, ⟨fun ws h => wds_trim HM0.out (by rw [← HM0.out, trim_twice]) h, by rw [← HM0.out, trim_twice], by simp; exact hml.out, World.ownsRow_nil _ _ _ _, HB1.out⟩⟩
  case round =>
    obtain ⟨m, J, rfl, hat⟩ := hrel
    by_cases hm : m = []
    · subst hm
      have hemp := mk8_empty (l := []) rfl
      have HW : Hid (Wds l J) := by have := hat.out.eq [] (.done rfl); rw [List.append_nil] at this; exact this
      have hj := hat.out.few
      go_wp2_with fail
      go_ret
      exact ⟨_, J, rfl, HW.out, by simp at hj; exact hj, hat.out.own, hat.out.bel⟩
    · obtain ⟨c, hc⟩ : ∃ c, m.head? = some c := by cases m with | nil => exact absurd rfl hm | cons c r => exact ⟨c, rfl⟩
      have hcb : blk c = false := head_dropW (p := blk) (l := m) (by rw [hat.out.trim]; exact hc)
      have hne : m.isEmpty = false := List.isEmpty_eq_false_iff.2 hm
      have hf1 := firstL_pos hc hcb
      obtain ⟨hf2, hf3⟩ := firstL_le m
      have hml2 : J.length + m.length ≤ 90000 := Nat.le_trans hat.out.few hl
      have HF := Lib.hid (first_any m (by omega) hm wr)
      have hbl := blkN_le (m.drop (firstL m).2)
      have HM : Hid (∀ v' w', w'.ownsRow W.heap.size 9 1 v' (J.length + 1) (J.map strV ++ [strV (firstL m).1]) → Below W.heap.size wr w' → WdAt W l ((m.drop (firstL m).2).dropWhile blk) v' (J ++ [(firstL m).1]) w') := fun v' w' h1 h2 => by
        refine ⟨fun ws h => ?_, trim_twice _, ?_, by rw [List.length_append, List.map_append]; exact h1, hat.out.bel.trans h2⟩
        · have := hat.out.eq _ (.more hat.out.trim hm (wds_trim rfl (trim_twice _) h))
          rw [List.append_assoc]
          exact this
        · have := hat.out.few
          rw [blkN_drop, List.length_drop, List.length_drop, List.length_append]
          simp
          omega
      rw [List.length_drop] at hbl
      have HK := Lib.hid (fun w' => blanks_any (m.drop (firstL m).2) (by rw [List.length_drop]; omega) w')
      rw [← ext_tail] at HK
      have HT : Hid (∀ k, ((mk8 m).extract (firstL m).2 m.length).extract k (m.length - (firstL m).2) = mk8 ((m.drop (firstL m).2).drop k)) := fun k => by
        rw [ext_tail, ← List.length_drop, ext_tail]
      have HD : Hid ((m.drop (firstL m).2).dropWhile blk = (m.drop (firstL m).2).drop (blkN (m.drop (firstL m).2))) := blkN_drop _
      rw [HD.out] at HM
      have HOwn := Lib.hid hat.out.own
      have HBel := Lib.hid hat.out.bel
      obtain ⟨m', hm'⟩ : ∃ m', m.drop (firstL m).2 = m' := ⟨_, rfl⟩
      have HLM : Hid (m'.length = m.length - (firstL m).2) := by show _ = _; rw [← hm', List.length_drop]
      rw [hm'] at HM HK HT hbl
      obtain ⟨⟨word, size⟩, hq⟩ : ∃ q, firstL m = q := ⟨_, rfl⟩
      rw [hq] at HF hf1 hf2 HM HK HT hbl HLM
      have hf1 : 1 ≤ size := hf1
      have hf2 : size ≤ m.length := hf2
      obtain ⟨k, hk⟩ : ∃ k, blkN m' = k := ⟨_, rfl⟩
      rw [hk] at HM HK hbl
      have hbl : k ≤ m.length - size := hbl
      have hsz : (size : Int) ≤ m.length := by omega
      have z2 : ((mk8 m).size : Int) = m.length := by rw [mk8_size]
      have hkz : (k : Int) ≤ m.length - size := by omega
      clear hat hc hcb hm' hq hk HD hm
      go_wp2_with fail
      refine HF.out.mono ?_
      rintro e w1 ⟨rfl, hb1⟩
      have HB1 := Lib.hid (HBel.out.trans (hb1.mono HBel.out.size))
      have HO1 := Lib.hid (owns_below HOwn.out hb1)
      have hbw1 := Lib.hid (hb1.mono HBel.out.size)
      clear hb1
      go_wp2_with (at_builtin; refine wpList_word rfl (.tmp 21) (.tmp 23) rfl rfl (s := mk8 word) rfl ⟨w1.heap.size, 0, none⟩ rfl (cell_new _ _ _) (HO1.out.alloc _) (by omega) (by have := HB1.out.size; simp; omega) ?_; intro v' w' h1 h2; have HA := Lib.hid (HM.out v' w' h1 (hbw1.out.trans (((Below.refl W.heap.size w1).alloc HB1.out.size _).trans h2))); clear h1 h2)
      refine (HK.out w').mono ?_
      rintro e w2 ⟨rfl, hb2⟩
      have HA2 : Hid (WdAt W l (m'.drop k) v' (J ++ [word]) w2) := ⟨HA.out.eq, HA.out.trim, HA.out.few, owns_below HA.out.own hb2, HA.out.bel.trans (hb2.mono HA.out.bel.size)⟩
      clear hb2
      go_wp2_with fail
      rw [HT.out]
      go_roundw
      case rel => exact ⟨_, _, rfl, HA2⟩
      case measure =>
        show (mk8 (m'.drop k)).size < (mk8 m).size
        rw [mk8_size, mk8_size, List.length_drop, HLM.out]
        omega
end Go.Proofs.YtjbaljibaejdgaaDoor
