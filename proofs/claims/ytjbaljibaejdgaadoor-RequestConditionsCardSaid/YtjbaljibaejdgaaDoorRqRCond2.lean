/- The document's condition, at whatever text. -/
import Derived.Test.YtjbaljibaejdgaaDoorRqRCondB
import Derived.Test.YtjbaljibaejdgaaDoorRqRCondC
import Derived.Test.YtjbaljibaejdgaaDoorRqNots
namespace Go.Proofs.YtjbaljibaejdgaaDoor
open Go.RowKit Go.PlainAid Go.Shelf

theorem rcond_bad (l : List UInt8) (hl : l.length ≤ 1000000) (W : World) (h : lineL l = false) : Calls Tryd.prog 10 #[.string (mk8 l)] W (fun e W' => e = .returned (.tuple #[CondV false 0 [] [] [] [], .int .i64 1]) ∧ Below W.heap.size W W') := by
  have HL := Lib.hid (fun w => rIsLine_any l hl w)
  simp only [h] at HL
  clear h
  go_enter Tryd.func10, Tryd.ntmps10
  go_wp2_with fail
  refine (HL.out _).mono ?_
  rintro e w1 ⟨rfl, rfl⟩
  go_wp2_with fail
  simp [bodyPost, results, Tryd.results10, go_sem]
  exact (Below.refl _ _).alloc (Nat.le_refl _) _

/-- What is asked behind the !, and what the document's Condition gives of it. -/
def AskP (o : Option Ask) (t : Nat) (W : World) (e : Ending) (W' : World) : Prop :=
  (match o with
    | none => e = .returned (.tuple #[CondV false 0 [] [] [] [], .int .i64 4])
    | some x => e = .returned (.tuple #[CondV (par t) x.kind.toNat x.name x.left x.right (x.rest.dropWhile blk), .int .i64 0])) ∧ Below W.heap.size W W'
theorem dropW_at (l : List UInt8) (a : Nat) : (l.drop a).dropWhile blk = l.drop (a + blkN (l.drop a)) := by rw [blkN_drop, List.drop_drop]
theorem toZ_neg {l : List UInt8} {k : Nat} {c : UInt8} (h : Lib.indexByte (l.drop k) c < 0) : toZ l k c < 0 := by unfold toZ; rw [if_pos h]; omega
theorem toZ_pos {l : List UInt8} {k : Nat} {c : UInt8} (h : ¬ Lib.indexByte (l.drop k) c < 0) : toZ l k c = ((k + (Lib.indexByte (l.drop k) c).toNat : Nat) : Int) ∧ k + (Lib.indexByte (l.drop k) c).toNat < l.length := by
  obtain ⟨o, ho⟩ : ∃ o : Nat, Lib.indexByte (l.drop k) c = o := ⟨(Lib.indexByte (l.drop k) c).toNat, by omega⟩
  have h1 := (List.getElem?_eq_some_iff.1 (Lib.indexByte_some ho).1).1
  rw [List.length_drop] at h1
  unfold toZ
  rw [if_neg h, ho]
  refine ⟨?_, ?_⟩ <;> simp <;> omega
theorem take_drop (l : List UInt8) (a n : Nat) : (l.take (a + n)).drop a = (l.drop a).take n := by rw [List.drop_take]; congr 1; omega

set_option maxHeartbeats 1000000 in
theorem rcond_line (l : List UInt8) (W : World) (h : lineL l = true) : Calls Tryd.prog 10 #[.string (mk8 l)] W (AskP (askL l) (exN 33 (l.dropWhile blk)) W) := by
  have T := turns_at l
  have hd : l.dropWhile blk = l.drop (blkN l) := blkN_drop l
  have hask : askL l = readL (l.drop (blkN l + exN 33 (l.drop (blkN l)))) := by unfold askL turnsN; rw [hd, List.drop_drop]
  rw [hd, hask]
  obtain ⟨b0, hb0⟩ : ∃ b0, blkN l = b0 := ⟨_, rfl⟩
  rw [hb0] at T ⊢
  obtain ⟨t, ht⟩ : ∃ t, exN 33 (l.drop b0) = t := ⟨_, rfl⟩
  rw [ht] at T ⊢
  obtain ⟨a, hat⟩ : ∃ a, b0 + t = a := ⟨_, rfl⟩
  have hle := T.le
  rw [hat] at hle ⊢
  clear hd hask ht
  unfold AskP
  by_cases hend : a = l.length
  · rw [hend, List.drop_length]
    exact rcond_end l a b0 t hend W h hb0 T hat
  · obtain ⟨c, hc, hdc⟩ := drop_cons (show a < l.length by omega)
    rw [hdc]
    cases hk : blk c with
    | true =>
      have h2 : c = 32 ∨ c = 9 := by simpa [blk] using hk
      have hr : readL (c :: l.drop (a + 1)) = none := by
        unfold readL
        have hw := wordN_cons_no (r := l.drop (a + 1)) hk
        simp only [hw]
        rcases h2 with rfl | rfl <;> rfl
      rw [hr]
      exact rcond_blank l a b0 t c hc hk W h hb0 T hat
    | false =>
      cases ho1 : oneK c with
      | true =>
        have hr : readL (c :: l.drop (a + 1)) = some ⟨c, [], [], [], l.drop (a + 1)⟩ := by unfold readL; simp only [ho1, if_true]
        rw [hr]
        show Calls _ _ _ _ (fun e W' => e = .returned (.tuple #[CondV (par t) c.toNat [] [] [] ((l.drop (a + 1)).dropWhile blk), .int .i64 0]) ∧ Below W.heap.size W W')
        rw [dropW_at]
        exact rcond_one l a b0 t c hc hk ho1 (a + 1) _ rfl (by omega) rfl W h hb0 T hat
      | false =>
        have hw1 := wordN_cons_yes (r := l.drop (a + 1)) hk
        have hwl := wordN_le (l.drop (a + 1))
        rw [List.length_drop] at hwl
        cases ho2 : namK c with
        | true =>
          by_cases hw : wordN (l.drop (a + 1)) = 0
          · have hr : readL (c :: l.drop (a + 1)) = none := by unfold readL; simp only [ho1, ho2, hw, if_true, Bool.false_eq_true, if_false]
            rw [hr]
            exact rcond_nam0 l a b0 t c hc hk ho1 ho2 (a + 1) (by rw [hdc, hw1, hw]) rfl W h hb0 T hat
          · have hr : readL (c :: l.drop (a + 1)) = some ⟨c, (l.drop (a + 1)).take (wordN (l.drop (a + 1))), [], [], (l.drop (a + 1)).drop (wordN (l.drop (a + 1)))⟩ := by
              unfold readL; simp only [ho1, ho2, hw, if_true, Bool.false_eq_true, if_false]
            rw [hr]
            obtain ⟨n, hn⟩ : ∃ n, wordN (l.drop (a + 1)) = n := ⟨_, rfl⟩
            rw [hn] at hw hw1 hwl ⊢
            show Calls _ _ _ _ (fun e W' => e = .returned (.tuple #[CondV (par t) c.toNat ((l.drop (a + 1)).take n) [] [] (((l.drop (a + 1)).drop n).dropWhile blk), .int .i64 0]) ∧ Below W.heap.size W W')
            rw [List.drop_drop, dropW_at, ← take_drop]
            exact rcond_nam l a b0 t c hc hk ho1 ho2 (a + 1 + n) _ (by rw [hdc, hw1]; omega) (by omega) (by omega) rfl W h hb0 T hat
        | false =>
          cases hqt : quoB c with
          | true =>
            have hr : readL (c :: l.drop (a + 1)) = textsL c (l.drop (a + 1)) := by unfold readL; simp only [ho1, ho2, hqt, if_true, Bool.false_eq_true, if_false]
            rw [hr]
            unfold textsL
            by_cases h1 : Lib.indexByte (l.drop (a + 1)) c < 0
            · rw [if_pos h1]
              exact rcond_q1 l a b0 t c hc hk ho1 ho2 hqt (toZ_neg h1) W h hb0 T hat
            · rw [if_neg h1]
              obtain ⟨e1, l1⟩ := toZ_pos h1
              obtain ⟨n1, hn1⟩ : ∃ n1, (Lib.indexByte (l.drop (a + 1)) c).toNat = n1 := ⟨_, rfl⟩
              rw [hn1] at e1 l1 ⊢
              rw [List.drop_drop, show a + 1 + (n1 + 1) = a + 1 + n1 + 1 by omega]
              by_cases h2 : Lib.indexByte (l.drop (a + 1 + n1 + 1)) c < 0
              · rw [if_pos h2]
                exact rcond_q2 l a b0 t c hc hk ho1 ho2 hqt (a + 1 + n1) e1 l1 (toZ_neg h2) W h hb0 T hat
              · rw [if_neg h2]
                obtain ⟨e2, l2⟩ := toZ_pos h2
                obtain ⟨n2, hn2⟩ : ∃ n2, (Lib.indexByte (l.drop (a + 1 + n1 + 1)) c).toNat = n2 := ⟨_, rfl⟩
                rw [hn2] at e2 l2 ⊢
                show Calls _ _ _ _ (fun e W' => e = .returned (.tuple #[CondV (par t) 39 [] ((l.drop (a + 1)).take n1) ((l.drop (a + 1 + n1 + 1)).take n2) (((l.drop (a + 1 + n1 + 1)).drop (n2 + 1)).dropWhile blk), .int .i64 0]) ∧ Below W.heap.size W W')
                rw [List.drop_drop, dropW_at, ← take_drop l (a + 1) n1, ← take_drop l (a + 1 + n1 + 1) n2]
                exact rcond_q3 l a b0 t c hc hk ho1 ho2 hqt (a + 1 + n1) (a + 1 + n1 + 1 + n2) (a + 1 + n1 + 1 + (n2 + 1)) _ e1 l1 (by omega) e2 l2 (by omega) (by omega) (by omega) rfl W h hb0 T hat
          | false =>
            have hne : ¬ wordN (c :: l.drop (a + 1)) = 0 := by rw [hw1]; omega
            have hr : readL (c :: l.drop (a + 1)) = some ⟨120, (c :: l.drop (a + 1)).take (wordN (c :: l.drop (a + 1))), [], [], (c :: l.drop (a + 1)).drop (wordN (c :: l.drop (a + 1)))⟩ := by
              unfold readL; simp only [ho1, ho2, hqt, hne, Bool.false_eq_true, if_false]
            rw [hr, ← hdc]
            have hw0 := wordN_le (l.drop a)
            rw [List.length_drop] at hw0
            obtain ⟨n, hn⟩ : ∃ n, wordN (l.drop a) = n := ⟨_, rfl⟩
            rw [hn] at hw0 ⊢
            show Calls _ _ _ _ (fun e W' => e = .returned (.tuple #[CondV (par t) 120 ((l.drop a).take n) [] [] (((l.drop a).drop n).dropWhile blk), .int .i64 0]) ∧ Below W.heap.size W W')
            rw [List.drop_drop, dropW_at, ← take_drop]
            exact rcond_word l a b0 t c hc hk ho1 ho2 hqt (a + n) _ (by rw [hn]) (by omega) (by omega) rfl W h hb0 T hat
theorem rcond_any (l : List UInt8) (hl : l.length ≤ 1000000) (W : World) : Calls Tryd.prog 10 #[.string (mk8 l)] W (CondQ l W) := by
  unfold CondQ
  cases h : lineL l with
  | false =>
    have h1 : outA l = zeroA := by unfold outA; rw [h]; rfl
    have h2 : notC l = false := by unfold notC okC; rw [h]; rfl
    have h3 : errC l = 1 := by unfold errC; rw [h]; rfl
    rw [h1, h2, h3]
    exact rcond_bad l hl W h
  | true =>
    have hm := rcond_line l W h
    unfold AskP at hm
    cases hx : askL l with
    | none =>
      have h1 : outA l = zeroA := by unfold outA; rw [h, hx]; rfl
      have h2 : notC l = false := by unfold notC okC; rw [h, hx]; rfl
      have h3 : errC l = 4 := by unfold errC; rw [h, hx]; rfl
      rw [h1, h2, h3]
      rw [hx] at hm
      exact hm
    | some x =>
      have h1 : outA l = x := by unfold outA; rw [h, hx]; rfl
      have h2 : notC l = par (exN 33 (l.dropWhile blk)) := by unfold notC okC; rw [h, hx]; rfl
      have h3 : errC l = 0 := by unfold errC; rw [h, hx]; rfl
      rw [h1, h2, h3]
      rw [hx] at hm
      exact hm
end Go.Proofs.YtjbaljibaejdgaaDoor
