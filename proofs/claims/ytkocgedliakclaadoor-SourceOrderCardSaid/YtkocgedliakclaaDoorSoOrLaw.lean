/- SourceOrder's walk. -/
import Derived.Test.YtkocgedliakclaaDoorSoDoIn
import Derived.Test.YtkocgedliakclaaDoorSoDeeds
import Derived.Test.YtkocgedliakclaaDoorSoRef
import Derived.Test.YtkocgedliakclaaDoorSoDeep
namespace Go.Proofs.YtkocgedliakclaaDoor
open Go.RowKit Go.PlainAid Go.Maps Go.Shelf

/-- What is left of the upper one of two frames. -/
def leftOf (b : Nat) (w : World) : Nat :=
  match w.cell? ⟨b, 1, none⟩ with
  | some (.slice (some a) 2 _) => match w.cell? ⟨a.block, 7, none⟩, w.cell? ⟨a.block, 8, none⟩ with
    | some (.slice _ n _), some (.int _ k) => n - k.toNat + 1
    | _, _ => 0
  | _ => 0
section
variable {B b : Nat} {S : Nat → Prop} {v : Value} {w : World}
theorem left_two {f g : FrC} (h : SkAt B S b v [f, g] w) : leftOf b w = g.lines.length - g.next + 1 := by
  obtain ⟨q, lv, av, hq, hf⟩ := h.frame (i := 1) (Nat.lt_succ_self 1)
  obtain ⟨⟨la, lc, rfl⟩, _⟩ := hf.val.form
  have c1 := h.cell1
  obtain ⟨ao, c, rfl, _, _⟩ := h.form
  have c7 := hf.c2
  have c8 := hf.c3
  cases ao with
  | none => cases hq
  | some a =>
    obtain rfl : a.block = q := by simpa [Value.ownBlock] using hq
    simp at c7 c8
    simp [leftOf, c1, c7, c8]
theorem left_one {f : FrC} (h : SkAt B S b v [f] w) : leftOf b w = 0 := by
  have c1 := h.cell1
  obtain ⟨ao, c, rfl, _, _⟩ := h.form
  cases ao <;> simp [leftOf, c1]
end

def flC (L : List ByteArray) (a : Nat) : FrC := ⟨1, nmF, textC L, a, []⟩
section
variable {B b : Nat} {S : Nat → Prop} {v : Value} {w : World} {L : List ByteArray}
theorem stays_file (p : Nat) : upTo staysB [flC L p] = [flC L p] := upTo_all fun f hf => by rw [List.mem_singleton.1 hf]; rfl
def FNextP (B : Nat) (S : Nat → Prop) (b : Nat) (s : ByteArray) (F : List FrC) (w : World) (e : Ending) (w' : World) : Prop :=
  ∃ y1 y2, e = .returned (.tuple #[.agg #[.string s, .bool false, .int .i64 0, .int .i64 0, .slice y1 0 y2], .int .i64 0]) ∧ (∃ v', SkAt B S b v' F w') ∧ Below B w w' ∧ Off S w w'
def GNextP (B : Nat) (S : Nat → Prop) (b : Nat) (F : List FrC) (w : World) (e : Ending) (w' : World) : Prop :=
  ∃ s m up dn y1 n y2, e = .returned (.tuple #[.agg #[.string s, .bool m, .int .i64 up, .int .i64 dn, .slice y1 n y2], .int .i64 0]) ∧ (∃ v', SkAt B S b v' F w') ∧ Below B w w' ∧ Off S w w'
theorem line_of {p : Nat} (hp : p < L.length) : (flC L p).lines[p]? = some ⟨L[p], false, 0, 0, []⟩ := by
  show (textC L)[p]? = _
  unfold textC
  rw [List.getElem?_map, List.getElem?_eq_getElem hp]
  rfl
theorem to_file {x : ByteArray} {F F' : List FrC} (hF : F = F') {e : Ending} {w' : World} (h : NextP B S b ⟨x, false, 0, 0, []⟩ F w e w') : FNextP B S b x F' w e w' := by
  obtain ⟨bv, rfl, hx, hs, hb, ho⟩ := h
  obtain ⟨y1, y2, rfl, _⟩ := hx
  subst hF
  exact ⟨y1, y2, rfl, hs, hb, ho⟩
theorem file_next {p : Nat} (h : SkAt B S b v [flC L p] w) (hp : p < L.length) : Calls Tryd.prog 19 #[.pointer (some ⟨b, 0, none⟩)] w (FNextP B S b L[p] [flC L (p + 1)] w) :=
  (next_line h (i := 0) (f := flC L p) rfl (line_of hp) last_one).mono fun _ _ k => to_file rfl k
theorem file_done (h : SkAt B S b v [flC L L.length] w) : Calls Tryd.prog 19 #[.pointer (some ⟨b, 0, none⟩)] w (NoneP B S b [] w) :=
  next_none h fun f hf => by
    rw [List.mem_singleton.1 hf]
    exact decide_eq_false (by show ¬ L.length < (textC L).length; unfold textC; rw [List.length_map]; omega)
theorem two_file {p : Nat} {g : FrC} (h : SkAt B S b v [flC L p, g] w) (hp : p < L.length) (hg : ¬ g.next < g.lines.length) : Calls Tryd.prog 19 #[.pointer (some ⟨b, 0, none⟩)] w (FNextP B S b L[p] [flC L (p + 1)] w) :=
  (next_line h (i := 0) (f := flC L p) rfl (line_of hp) (last_two (decide_eq_false hg))).mono fun _ _ k => to_file rfl k
theorem two_next {p : Nat} {g : FrC} (h : SkAt B S b v [flC L p, g] w) (hg : g.next < g.lines.length) : Calls Tryd.prog 19 #[.pointer (some ⟨b, 0, none⟩)] w (GNextP B S b [flC L p, g.at (g.next + 1)] w) :=
  (next_line h (i := 1) (f := g) (x := g.lines[g.next]) rfl (List.getElem?_eq_getElem hg) last_snd).mono fun _ _ k => by
    obtain ⟨bv, rfl, hx, hs, hb, ho⟩ := k
    obtain ⟨y1, y2, rfl, _⟩ := hx
    exact ⟨_, _, _, _, y1, _, y2, rfl, hs, hb, ho⟩
end

theorem on_more {B : Nat} {S : Nat → Prop} {w0 w w' : World} (h : Below B w0 w ∧ Off S w0 w) (hb : Below B w w') (ho : Off S w w') : Below B w0 w' ∧ Off S w0 w' := ⟨h.1.trans hb, Off.trans h.2 h.1.size ho⟩
theorem on_below {B : Nat} {S : Nat → Prop} {w0 w w' : World} (h : Below B w0 w ∧ Off S w0 w) (hB : B ≤ w0.heap.size) (hb : Below w.heap.size w w') : Below B w0 w' ∧ Off S w0 w' := on_more h (Below.mono hb (Nat.le_trans hB h.1.size)) (off_below hb)
theorem on_alloc {B : Nat} {S : Nat → Prop} {w0 w : World} (h : Below B w0 w ∧ Off S w0 w) (hB : B ≤ w0.heap.size) (o : Obj) : Below B w0 (w.alloc o) ∧ Off S w0 (w.alloc o) := on_below h hB ((Below.refl _ _).alloc (Nat.le_refl _) _)
theorem depth1 {B b : Nat} {S : Nat → Prop} {v : Value} {f : FrC} {w : World} (h : SkAt B S b v [f] w) : Calls Tryd.prog 11 #[.pointer (some ⟨b, 0, none⟩)] w (Says (.int .i64 1) w) := skDepth_any h
theorem depth2 {B b : Nat} {S : Nat → Prop} {v : Value} {f g : FrC} {w : World} (h : SkAt B S b v [f, g] w) : Calls Tryd.prog 11 #[.pointer (some ⟨b, 0, none⟩)] w (Says (.int .i64 2) w) := skDepth_any h

set_option maxRecDepth 100000 in
set_option maxHeartbeats 8000000 in
theorem order_any (t : ByteArray) (ao : Option Addr) (cap : Nat) (D : List DeedC) (w : World) (ht : t.size ≤ 9223372036854775807) (hl : D.length ≤ maxLen) (hd : DeedsRd (· < w.heap.size) ao D w) (hft : ∀ d ∈ D, DeedFit d) :
    Calls Tryd.prog 6 #[.string t, .slice ao D.length cap] w (Makes (.bool true) w) := by
  unfold maxLen at hl
  by_cases h3 : t.size ≤ 3000
  · have hz3 : ¬ (3000 : Int) < t.size := by omega
    have HBG := Lib.hid (bigs_any ao cap D w (by unfold maxLen; exact hl) hd hft)
    have HD := Lib.hid hd
    have HF := Lib.hid hft
    have HSN := Lib.hid (fun W => soSane_any W)
    clear hd hft
    go_enter Tryd.func6, Tryd.ntmps6
    go_wp2_with fail
    refine (HBG.out).mono ?_
    rintro e w1 ⟨q, rfl, hb1⟩
    have HB1 := Lib.hid hb1
    clear hb1 HBG
    cases q with
    | true =>
      go_wp2_with fail
      refine (HSN.out _).mono ?_
      rintro e w5 ⟨rfl, hb5⟩
      go_wp2_with fail
      go_ret
      exact ⟨rfl, HB1.out.trans (Below.mono hb5 HB1.out.size)⟩
    | false =>
      go_wp2_with fail
      refine (skNew_any w1).mono ?_
      rintro e w2 ⟨b, rfl, hs2, hb2⟩
      have HS2 := Lib.hid hs2
      have HB2 := Lib.hid hb2
      clear hs2 hb2
      go_wp2_with fail
      refine (refLines_any t w2 (by omega)).mono ?_
      rintro e w3 ⟨la, lc, rfl, hb3, hr3⟩
      rw [← lines_ref] at hr3 ⊢
      obtain ⟨L, hL⟩ : ∃ L, linesT t = L := ⟨_, rfl⟩
      rw [hL] at hr3 ⊢
      have hLs : L.length ≤ 3001 := by
        rw [← hL]
        have h1 := linesT_len t
        have h2 := countB_bd t
        omega
      have HS3 := Lib.hid ((HS2.out.asides w3.heap.size).below hb3)
      have HLN := Lib.hid (hr3.both)
      have HSQ := Lib.hid (show ∀ k, w3.heap.size ≤ k → w1.heap.size ≤ k ∧ (k < w2.heap.size ∨ w3.heap.size ≤ k) from fun k hk => ⟨Nat.le_trans (Nat.le_trans HB2.out.size hb3.size) hk, .inr hk⟩)
      have HB3 := Lib.hid (HB2.out.trans (Below.mono hb3 HB2.out.size))
      have hc : Lib.countB t nlB ≤ 20000 := by have := countB_bd t; omega
      have HNF := Lib.hid (show ∀ k, w2.heap.size ≤ k ∧ k < w3.heap.size → ¬ (w1.heap.size ≤ k ∧ (k < w2.heap.size ∨ w3.heap.size ≤ k)) from fun k hk h => by omega)
      have HW23 := Lib.hid (show w2.heap.size ≤ w3.heap.size from hb3.size)
      have HBS := Lib.hid (show w1.heap.size ≤ w3.heap.size from Nat.le_trans HB2.out.size hb3.size)
      have HW12 := Lib.hid (show w1.heap.size ≤ w2.heap.size from HB2.out.size)
      clear hb3 hr3 HS2
      obtain ⟨S, hS⟩ : ∃ S : Nat → Prop, (fun k => w1.heap.size ≤ k ∧ (k < w2.heap.size ∨ w3.heap.size ≤ k)) = S := ⟨_, rfl⟩
      have HSQ := Lib.hid (show ∀ k, w3.heap.size ≤ k → S k from hS ▸ HSQ.out)
      have HNF := Lib.hid (show ∀ k, w2.heap.size ≤ k ∧ k < w3.heap.size → ¬ S k from hS ▸ HNF.out)
      have HS3 : Hid (SkAt w1.heap.size S b (.slice none 0 0) [] w3) := Lib.hid (hS ▸ HS3.out)
      clear hS
      cases hg : goodC (textC (linesT t)) with
      | false =>
        have HFL := Lib.hid (skFile_unfit HS3.out nmF t (fileOf_bad nmF t w3 (by omega) canF hc hg))
        unfold nmF at HFL
        clear hg hc
        go_wp2_with fail
        refine (HFL.out).mono ?_
        rintro e w4 ⟨rfl, hb4⟩
        have HB4 := Lib.hid (HB1.out.trans (Below.mono (HB3.out.trans (Below.mono hb4 HB3.out.size)) HB1.out.size))
        clear hb4 HFL
        go_wp2_with fail
        refine (HSN.out _).mono ?_
        rintro e w5 ⟨rfl, hb5⟩
        go_wp2_with fail
        go_ret
        exact ⟨rfl, HB4.out.trans (Below.mono hb5 HB4.out.size)⟩
      | true =>
        have HFL := Lib.hid (skFile_ok HS3.out HSQ.out nmF t (by omega) canF hc hg (by decide))
        have hfl : upTo staysB [] ++ [(⟨1, nmF, textC (linesT t), 0, []⟩ : FrC)] = [flC L 0] := by rw [hL]; rfl
        rw [hfl] at HFL
        unfold nmF at HFL
        clear hg hc hfl HS3
        go_wp2_with fail
        refine (HFL.out).mono ?_
        rintro e w4 ⟨rfl, v4, hs4, hb4, ho4⟩
        have HI4 := Lib.hid (show ∃ v, SkAt w1.heap.size S b v [flC L 0] w4 from ⟨v4, hs4⟩)
        have HO4 := Lib.hid (show Below w1.heap.size w3 w4 ∧ Off S w3 w4 from ⟨hb4, ho4⟩)
        clear hs4 hb4 ho4 HFL
        go_wp2_with fail
        go_loopw [8, 9] (fun a i wr => ∃ p j : Nat, p ≤ L.length ∧ j ≤ D.length ∧ a = .int .i64 p ∧ i = .int .i64 j ∧ Hid (∃ v, SkAt w1.heap.size S b v [flC L p] wr) ∧ Hid (Below w1.heap.size w3 wr ∧ Off S w3 wr)) (fun _ i _ => D.length - (intOf i).toNat)
        case atStart => exact ⟨0, 0, by omega, by omega, rfl, rfl, HI4, HO4⟩
        case round =>
          obtain ⟨p, j, hp, hj, rfl, rfl, HI, HO⟩ := hrel
          clear HI4 HO4
          by_cases hlt : j < D.length
          · by_cases hpl : p < L.length
            · have hjz : (j : Int) < D.length := by omega
              have hjn : (0 : Int) ≤ j := by omega
              have hpz : (p : Int) < L.length := by omega
              have HBW := Lib.hid (show Below w.heap.size w wr from HB1.out.trans (Below.mono (HB3.out.trans HO.out.1) HB1.out.size))
              obtain ⟨db, doff, h1, h2⟩ := HD.out
              obtain ⟨rfl, hbl⟩ := h1 (by omega)
              obtain ⟨dl, dc, da, dac, hat⟩ := h2 j hlt
              obtain ⟨d, hd⟩ : ∃ d, D[j] = d := ⟨_, rfl⟩
              have hfit := HF.out _ (List.getElem_mem hlt)
              rw [hd] at hat hfit
              have hl9 := hfit.fit.lines
              have ha9 := hfit.args
              have HFIT := Lib.hid hfit
              have e0 := (HBW.out.cell (p := ⟨db, _, none⟩) hbl).trans hat.c0
              have e1 := (HBW.out.cell (p := ⟨db, _, none⟩) hbl).trans hat.c1
              have e2 := (HBW.out.cell (p := ⟨db, _, none⟩) hbl).trans hat.c2
              have e3 := (HBW.out.cell (p := ⟨db, _, none⟩) hbl).trans hat.c3
              have e4 := (HBW.out.cell (p := ⟨db, _, none⟩) hbl).trans hat.c4
              have e5 := (HBW.out.cell (p := ⟨db, _, none⟩) hbl).trans hat.c5
              have HLD := Lib.hid (hat.lines.lift HBW.out)
              have HAD := Lib.hid (hat.args.lift HBW.out)
              clear h1 h2 hat hfit hd
              by_cases hok : 0 ≤ d.act ∧ d.act ≤ 2 ∧ d.text.size ≤ 200 ∧ d.lines.length ≤ 50
              · obtain ⟨k0, k2, kt, kl⟩ := hok
                have k0' : ¬ d.act < 0 := by omega
                have k2' : ¬ (2 : Int) < d.act := by omega
                have kt' : ¬ (200 : Int) < d.text.size := by omega
                have kl' : ¬ (50 : Int) < d.lines.length := by omega
                have hal : Below wr.heap.size wr (wr.alloc (.cells #[.int .i64 d.act, .string d.name, .string d.text, .slice dl d.lines.length dc, .slice da d.args.length dac, .int .i64 d.num] 25)) := (Below.refl _ _).alloc (Nat.le_refl _) _
                have HDO := Lib.hid (show Calls Tryd.prog 9 #[.pointer (some ⟨b, 0, none⟩), .agg #[.int .i64 d.act, .string d.name, .string d.text, .slice dl d.lines.length dc, .slice da d.args.length dac, .int .i64 d.num]] (wr.alloc (.cells #[.int .i64 d.act, .string d.name, .string d.text, .slice dl d.lines.length dc, .slice da d.args.length dac, .int .i64 d.num] 25)) (DoPushP w1.heap.size S b [flC L p] (wr.alloc (.cells #[.int .i64 d.act, .string d.name, .string d.text, .slice dl d.lines.length dc, .slice da d.args.length dac, .int .i64 d.num] 25))) by
                  obtain ⟨v, hsv⟩ := HI.out
                  exact do_push (hsv.alloc _) (fun k hk => HSQ.out k (Nat.le_trans HO.out.1.size (Nat.le_trans hal.size hk))) (stays_file p) (show 1 < 50 by decide) d.act ⟨k0, k2⟩ d.name d.text (by omega) dl dc d.lines (HLD.out.lift hal) HFIT.out.fit da dac d.args (HAD.out.lift hal) HFIT.out.args d.num)
                have HOA := Lib.hid (show Below w1.heap.size w3 (wr.alloc (.cells #[.int .i64 d.act, .string d.name, .string d.text, .slice dl d.lines.length dc, .slice da d.args.length dac, .int .i64 d.num] 25)) ∧ Off S w3 (wr.alloc (.cells #[.int .i64 d.act, .string d.name, .string d.text, .slice dl d.lines.length dc, .slice da d.args.length dac, .int .i64 d.num] 25)) from ⟨HO.out.1.trans (Below.mono hal (Nat.le_trans (Nat.le_trans HW12.out HW23.out) HO.out.1.size)), Off.trans HO.out.2 HO.out.1.size (off_below hal)⟩)
                clear hal HI HLD HAD HFIT
                go_wp2_with fail
                refine (HDO.out).mono ?_
                rintro e w5 ⟨z, v5, F5, rfl, hs5, hb5, ho5, hz5⟩
                have HO5 := Lib.hid (show Below w1.heap.size w3 w5 ∧ Off S w3 w5 from ⟨HOA.out.1.trans hb5, Off.trans HOA.out.2 HOA.out.1.size ho5⟩)
                have HS5 := Lib.hid hs5
                clear hb5 ho5 hs5 HDO HOA HO HBW e0 e1 e2 e3 e4 e5
                rcases hz5 with ⟨rfl, g, rfl, hg0⟩ | ⟨rfl, rfl⟩
                · have HG := Lib.hid hg0
                  clear hg0
                  go_wp2_with fail
                  have HW6 := Lib.hid (on_alloc HO5.out HBS.out (.cells #[.string ⟨#[]⟩, .bool false, .int .i64 0, .int .i64 0, .slice none 0 0] 37))
                  have HS6 := Lib.hid (show (∃ v, SkAt w1.heap.size S b v [flC L p] (w5.alloc (.cells #[.string ⟨#[]⟩, .bool false, .int .i64 0, .int .i64 0, .slice none 0 0] 37))) ∨ (p < L.length ∧ ∃ v g, SkAt w1.heap.size S b v [flC L p, g] (w5.alloc (.cells #[.string ⟨#[]⟩, .bool false, .int .i64 0, .int .i64 0, .slice none 0 0] 37))) from .inr ⟨hpl, v5, g, HS5.out.alloc _⟩)
                  clear HO5 HS5 HG
                  obtain ⟨wo, hwo⟩ : ∃ wo, wo = wr := ⟨_, rfl⟩
                  subst hwo
                  go_wp2_with fail
                  go_loopw [8] (fun a wx => ∃ p' : Nat, p' ≤ L.length ∧ a = .int .i64 p' ∧ Hid ((∃ v, SkAt w1.heap.size S b v [flC L p'] wx) ∨ (p' < L.length ∧ ∃ v g, SkAt w1.heap.size S b v [flC L p', g] wx)) ∧ Hid (Below w1.heap.size w3 wx ∧ Off S w3 wx)) (fun _ wx => leftOf b wx)
                  case atStart => exact ⟨p, hp, rfl, HS6, HW6⟩
                  case round =>
                    obtain ⟨p', hp', rfl, HI6, HO6⟩ := hrel
                    clear HS6 HW6
                    rcases HI6.out with ⟨v6, hs6⟩ | ⟨hpl', v6, g6, hs6⟩
                    · have HD6 := Lib.hid (depth1 hs6)
                      have HS7 := Lib.hid (show ∃ v, SkAt w1.heap.size S b v [flC L p'] wr from ⟨v6, hs6⟩)
                      clear hs6 HI6
                      go_wp2_with fail
                      refine (HD6.out).mono ?_
                      rintro e w7 ⟨rfl, rfl⟩
                      go_wp2_with fail
                      go_roundw
                      case rel => exact ⟨p', j + 1, hp', by omega, rfl, by go_num, HS7, HO6⟩
                      case measure => simp only [intOf]; omega
                    · have HD6 := Lib.hid (depth2 hs6)
                      have HM := Lib.hid (left_two hs6)
                      by_cases hgl : g6.next < g6.lines.length
                      · have HN6 := Lib.hid (two_next hs6 hgl)
                        have HGL := Lib.hid hgl
                        clear hs6 HI6 hgl
                        go_wp2_with fail
                        refine (HD6.out).mono ?_
                        rintro e w7 ⟨rfl, rfl⟩
                        go_wp2_with fail
                        refine (HD6.out).mono ?_
                        rintro e w7 ⟨rfl, rfl⟩
                        go_wp2_with fail
                        refine (HN6.out).mono ?_
                        rintro e w8 ⟨s7, m7, u7, d7, y1, n7, y2, rfl, ⟨v7, hs7⟩, hb7, ho7⟩
                        have HO7 := Lib.hid (on_alloc (on_more HO6.out hb7 ho7) HBS.out (.cells #[.string s7, .bool m7, .int .i64 u7, .int .i64 d7, .slice y1 n7 y2] 37))
                        have HS7 := Lib.hid (hs7.alloc (.cells #[.string s7, .bool m7, .int .i64 u7, .int .i64 d7, .slice y1 n7 y2] 37))
                        have HD7 := Lib.hid (depth2 HS7.out)
                        clear hs7 hb7 ho7 HN6 HO6
                        go_wp2_with fail
                        refine (HD7.out).mono ?_
                        rintro e w9 ⟨rfl, rfl⟩
                        go_wp2_with fail
                        go_roundw
                        case rel => exact ⟨p', hp', rfl, .inr ⟨hpl', v7, _, HS7.out⟩, HO7⟩
                        case measure =>
                          have h1 := left_two HS7.out
                          have h2 := HM.out
                          have h3 := HGL.out
                          simp only [FrC.at] at h1
                          omega
                      · have HN6 := Lib.hid (two_file hs6 hpl' hgl)
                        have hpz' : (p' : Int) < L.length := by omega
                        have hpn' : (0 : Int) ≤ p' := by omega
                        obtain ⟨lao, lcap, le, _, _, lb, loff, g1, g2⟩ := HLN.out
                        cases le
                        obtain ⟨rfl, hlb⟩ := g1 (by omega)
                        have c0 := g2 p' hpl'
                        obtain ⟨x, hx⟩ : ∃ x, L[p'] = x := ⟨_, rfl⟩
                        rw [hx] at HN6 c0
                        have HC0 := Lib.hid (fun (W : World) (h : Off S w3 W) => (show W.cell? ⟨lb, loff + p', none⟩ = some (.string x) by simpa [World.cell?, h lb hlb.2 (HNF.out lb hlb)] using c0))
                        clear g1 g2 c0 hx hs6 HI6 hgl
                        go_wp2_with fail
                        refine (HD6.out).mono ?_
                        rintro e w7 ⟨rfl, rfl⟩
                        go_wp2_with fail
                        refine (HD6.out).mono ?_
                        rintro e w7 ⟨rfl, rfl⟩
                        go_wp2_with fail
                        refine (HN6.out).mono ?_
                        rintro e w8 ⟨y1, y2, rfl, ⟨v7, hs7⟩, hb7, ho7⟩
                        have HO7 := Lib.hid (on_alloc (on_more HO6.out hb7 ho7) HBS.out (.cells #[.string x, .bool false, .int .i64 0, .int .i64 0, .slice y1 0 y2] 37))
                        have HS7 := Lib.hid (hs7.alloc (.cells #[.string x, .bool false, .int .i64 0, .int .i64 0, .slice y1 0 y2] 37))
                        have HD7 := Lib.hid (depth1 HS7.out)
                        clear hs7 hb7 ho7 HN6 HO6
                        go_wp2_with fail
                        refine (HD7.out).mono ?_
                        rintro e w9 ⟨rfl, rfl⟩
                        have c0 := HC0.out _ HO7.out.2
                        go_wp2_with fail
                        go_quiet (fail)
                        have hb8 := below_drewN' (Below.refl (w8.alloc (.cells #[.string x, .bool false, .int .i64 0, .int .i64 0, .slice y1 0 y2] 37)).heap.size (w8.alloc (.cells #[.string x, .bool false, .int .i64 0, .int .i64 0, .slice y1 0 y2] 37))) nq
                        have HO8 := Lib.hid (on_below HO7.out HBS.out hb8)
                        have HS8 := Lib.hid (HS7.out.below hb8)
                        clear hb8 HO7 HS7 c0 HC0 HD7
                        go_wp2_with fail
                        go_roundw
                        case rel => exact ⟨p' + 1, hpl', by go_num, .inl ⟨v7, HS8.out⟩, HO8⟩
                        case measure =>
                          have h1 := left_one HS8.out
                          have h2 := HM.out
                          omega
                · go_wp2_with fail
                  go_roundw
                  case rel => exact ⟨p, j + 1, hp, by omega, rfl, by go_num, ⟨v5, HS5.out.alloc _⟩, on_alloc HO5.out HBS.out _⟩
                  case measure => simp only [intOf]; omega
              · have HIA := Lib.hid (show ∃ v, SkAt w1.heap.size S b v [flC L p] (wr.alloc (.cells #[.int .i64 d.act, .string d.name, .string d.text, .slice dl d.lines.length dc, .slice da d.args.length dac, .int .i64 d.num] 25)) by obtain ⟨v, h⟩ := HI.out; exact ⟨v, h.alloc _⟩)
                have HOA := Lib.hid (on_alloc HO.out HBS.out (.cells #[.int .i64 d.act, .string d.name, .string d.text, .slice dl d.lines.length dc, .slice da d.args.length dac, .int .i64 d.num] 25))
                clear HI HLD HAD HFIT HO
                have hno : d.act < 0 ∨ ¬ d.act < 0 ∧ (2 < d.act ∨ ¬ 2 < d.act ∧ ((200 : Int) < d.text.size ∨ ¬ (200 : Int) < d.text.size ∧ (50 : Int) < d.lines.length)) := by omega
                clear hok
                rcases hno with k0 | ⟨k0, k2 | ⟨k2, kt | ⟨kt, kl⟩⟩⟩
                all_goals
                  go_wp2_with fail
                  go_roundw
                  case rel => exact ⟨p, j + 1, hp, by omega, rfl, by go_num, HIA, HOA⟩
                  case measure => simp only [intOf]; omega
            · have hpz : ¬ (p : Int) < L.length := by omega
              have hjz : (j : Int) < D.length := by omega
              obtain ⟨wo, hwo⟩ : ∃ wo, wo = wr := ⟨_, rfl⟩
              subst hwo
              go_wp2_with fail
              go_loopw [8] (fun a wx => ∃ p' : Nat, p' ≤ L.length ∧ a = .int .i64 p' ∧ Hid (∃ v, SkAt w1.heap.size S b v [flC L p'] wx) ∧ Hid (Below w1.heap.size w3 wx ∧ Off S w3 wx)) (fun a _ => L.length - (intOf a).toNat)
              case atStart => exact ⟨p, hp, rfl, HI, HO⟩
              case round =>
                obtain ⟨p', hp', rfl, HI6, HO6⟩ := hrel
                clear HI HO
                by_cases hpl' : p' < L.length
                · have HN6 := Lib.hid (show Calls Tryd.prog 19 #[.pointer (some ⟨b, 0, none⟩)] wr (FNextP w1.heap.size S b L[p'] [flC L (p' + 1)] wr) by obtain ⟨v, h⟩ := HI6.out; exact file_next h hpl')
                  have hpz' : (p' : Int) < L.length := by omega
                  have hpn' : (0 : Int) ≤ p' := by omega
                  obtain ⟨lao, lcap, le, _, _, lb, loff, g1, g2⟩ := HLN.out
                  cases le
                  obtain ⟨rfl, hlb⟩ := g1 (by omega)
                  have c0 := g2 p' hpl'
                  obtain ⟨x, hx⟩ : ∃ x, L[p'] = x := ⟨_, rfl⟩
                  rw [hx] at HN6 c0
                  have HC0 := Lib.hid (fun (W : World) (h : Off S w3 W) => (show W.cell? ⟨lb, loff + p', none⟩ = some (.string x) by simpa [World.cell?, h lb hlb.2 (HNF.out lb hlb)] using c0))
                  clear g1 g2 c0 hx HI6
                  go_wp2_with fail
                  refine (HN6.out).mono ?_
                  rintro e w7 ⟨y1, y2, rfl, ⟨v7, hs7⟩, hb7, ho7⟩
                  have HO7 := Lib.hid (on_alloc (on_more HO6.out hb7 ho7) HBS.out (.cells #[.string x, .bool false, .int .i64 0, .int .i64 0, .slice y1 0 y2] 37))
                  have HS7 := Lib.hid (hs7.alloc (.cells #[.string x, .bool false, .int .i64 0, .int .i64 0, .slice y1 0 y2] 37))
                  have c0 := HC0.out _ HO7.out.2
                  clear hs7 hb7 ho7 HN6 HO6 HC0
                  go_wp2_with fail
                  go_quiet (fail)
                  have hb8 := below_drewN' (Below.refl (w7.alloc (.cells #[.string x, .bool false, .int .i64 0, .int .i64 0, .slice y1 0 y2] 37)).heap.size (w7.alloc (.cells #[.string x, .bool false, .int .i64 0, .int .i64 0, .slice y1 0 y2] 37))) nq
                  have HO8 := Lib.hid (on_below HO7.out HBS.out hb8)
                  have HS8 := Lib.hid (show ∃ v, SkAt w1.heap.size S b v [flC L (p' + 1)] _ from ⟨v7, HS7.out.below hb8⟩)
                  clear hb8 HO7 HS7 c0
                  go_wp2_with fail
                  go_roundw
                  case rel => exact ⟨p' + 1, hpl', by go_num, HS8, HO8⟩
                  case measure => simp only [intOf]; omega
                · obtain rfl : p' = L.length := by omega
                  have HN6 := Lib.hid (show Calls Tryd.prog 19 #[.pointer (some ⟨b, 0, none⟩)] wr (NoneP w1.heap.size S b [] wr) by obtain ⟨v, h⟩ := HI6.out; exact file_done h)
                  unfold NoneP at HN6
                  clear HI6
                  go_wp2_with fail
                  refine (HN6.out).mono ?_
                  rintro e w7 ⟨rfl, _, hb7, ho7⟩
                  have HO7 := Lib.hid (on_alloc (on_more HO6.out hb7 ho7) HBS.out (.cells #[.string ⟨#[]⟩, .bool false, .int .i64 0, .int .i64 0, .slice none 0 0] 37))
                  clear hb7 ho7 HN6 HO6
                  go_wp2_with fail
                  refine (HSN.out _).mono ?_
                  rintro e w8 ⟨rfl, hb8⟩
                  go_wp2_with fail
                  go_ret
                  have h1 := HB3.out.trans HO7.out.1
                  exact ⟨rfl, HB1.out.trans (Below.mono (h1.trans (Below.mono hb8 h1.size)) HB1.out.size)⟩
          · have hjz : ¬ (j : Int) < D.length := by omega
            obtain ⟨wo, hwo⟩ : ∃ wo, wo = wr := ⟨_, rfl⟩
            subst hwo
            go_wp2_with fail
            go_loopw [8] (fun a wx => ∃ p' : Nat, p' ≤ L.length ∧ a = .int .i64 p' ∧ Hid (∃ v, SkAt w1.heap.size S b v [flC L p'] wx) ∧ Hid (Below w1.heap.size w3 wx ∧ Off S w3 wx)) (fun a _ => L.length - (intOf a).toNat)
            case atStart => exact ⟨p, hp, rfl, HI, HO⟩
            case round =>
              obtain ⟨p', hp', rfl, HI6, HO6⟩ := hrel
              clear HI HO
              by_cases hpl' : p' < L.length
              · have HN6 := Lib.hid (show Calls Tryd.prog 19 #[.pointer (some ⟨b, 0, none⟩)] wr (FNextP w1.heap.size S b L[p'] [flC L (p' + 1)] wr) by obtain ⟨v, h⟩ := HI6.out; exact file_next h hpl')
                have hpz' : (p' : Int) < L.length := by omega
                have hpn' : (0 : Int) ≤ p' := by omega
                obtain ⟨lao, lcap, le, _, _, lb, loff, g1, g2⟩ := HLN.out
                cases le
                obtain ⟨rfl, hlb⟩ := g1 (by omega)
                have c0 := g2 p' hpl'
                obtain ⟨x, hx⟩ : ∃ x, L[p'] = x := ⟨_, rfl⟩
                rw [hx] at HN6 c0
                have HC0 := Lib.hid (fun (W : World) (h : Off S w3 W) => (show W.cell? ⟨lb, loff + p', none⟩ = some (.string x) by simpa [World.cell?, h lb hlb.2 (HNF.out lb hlb)] using c0))
                clear g1 g2 c0 hx HI6
                go_wp2_with fail
                refine (HN6.out).mono ?_
                rintro e w7 ⟨y1, y2, rfl, ⟨v7, hs7⟩, hb7, ho7⟩
                have HO7 := Lib.hid (on_alloc (on_more HO6.out hb7 ho7) HBS.out (.cells #[.string x, .bool false, .int .i64 0, .int .i64 0, .slice y1 0 y2] 37))
                have HS7 := Lib.hid (hs7.alloc (.cells #[.string x, .bool false, .int .i64 0, .int .i64 0, .slice y1 0 y2] 37))
                have c0 := HC0.out _ HO7.out.2
                clear hs7 hb7 ho7 HN6 HO6 HC0
                go_wp2_with fail
                go_quiet (fail)
                have hb8 := below_drewN' (Below.refl (w7.alloc (.cells #[.string x, .bool false, .int .i64 0, .int .i64 0, .slice y1 0 y2] 37)).heap.size (w7.alloc (.cells #[.string x, .bool false, .int .i64 0, .int .i64 0, .slice y1 0 y2] 37))) nq
                have HO8 := Lib.hid (on_below HO7.out HBS.out hb8)
                have HS8 := Lib.hid (show ∃ v, SkAt w1.heap.size S b v [flC L (p' + 1)] _ from ⟨v7, HS7.out.below hb8⟩)
                clear hb8 HO7 HS7 c0
                go_wp2_with fail
                go_roundw
                case rel => exact ⟨p' + 1, hpl', by go_num, HS8, HO8⟩
                case measure => simp only [intOf]; omega
              · obtain rfl : p' = L.length := by omega
                have HN6 := Lib.hid (show Calls Tryd.prog 19 #[.pointer (some ⟨b, 0, none⟩)] wr (NoneP w1.heap.size S b [] wr) by obtain ⟨v, h⟩ := HI6.out; exact file_done h)
                unfold NoneP at HN6
                clear HI6
                go_wp2_with fail
                refine (HN6.out).mono ?_
                rintro e w7 ⟨rfl, _, hb7, ho7⟩
                have HO7 := Lib.hid (on_alloc (on_more HO6.out hb7 ho7) HBS.out (.cells #[.string ⟨#[]⟩, .bool false, .int .i64 0, .int .i64 0, .slice none 0 0] 37))
                clear hb7 ho7 HN6 HO6
                go_wp2_with fail
                refine (HSN.out _).mono ?_
                rintro e w8 ⟨rfl, hb8⟩
                go_wp2_with fail
                go_ret
                have h1 := HB3.out.trans HO7.out.1
                exact ⟨rfl, HB1.out.trans (Below.mono (h1.trans (Below.mono hb8 h1.size)) HB1.out.size)⟩
  · have hz3 : (3000 : Int) < t.size := by omega
    go_enter Tryd.func6, Tryd.ntmps6
    go_wp2_with fail
    refine (soSane_any _).mono ?_
    rintro e w5 ⟨rfl, hb5⟩
    go_wp2_with fail
    go_ret
    exact ⟨rfl, hb5⟩
end Go.Proofs.YtkocgedliakclaaDoor
