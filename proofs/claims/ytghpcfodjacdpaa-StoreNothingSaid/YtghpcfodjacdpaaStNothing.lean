/- StoreNothing's walk. -/
import Derived.Test.YtghpcfodjacdpaaStBig
import Derived.Test.YtghpcfodjacdpaaStPart
import Derived.Test.YtghpcfodjacdpaaRegionAid
namespace Go.Proofs.Ytghpcfodjacdpaa
open Go.RowKit Go.PlainAid Go.Maps Go.Shelf

theorem umod9 (a : Int) : ∃ n : Int, wrap64 ((IntKind.u64.wrap a).tmod 9) = n ∧ 0 ≤ n ∧ n ≤ 8 := by
  have hu : 0 ≤ IntKind.u64.wrap a := by rw [IntKind.wrap_u64]; omega
  have e : (IntKind.u64.wrap a).tmod 9 = IntKind.u64.wrap a % 9 := Int.tmod_eq_emod_of_nonneg hu
  have l0 := Int.emod_nonneg (IntKind.u64.wrap a) (show (9 : Int) ≠ 0 from by omega)
  have l1 := Int.emod_lt_of_pos (IntKind.u64.wrap a) (show (0 : Int) < 9 from by omega)
  refine ⟨IntKind.u64.wrap a % 9, ?_, by omega, by omega⟩
  rw [e, IntWalk.wrap64_in _ (by omega)]

theorem cell_of {w : World} {b k : Nat} {c : Array Value} {t : TypeId} {f : Nat × Nat} {v : Value} (h : w.heap[b]? = some (.cells c t f)) (hk : c[k]? = some v) : w.cell? ⟨b, k, none⟩ = some v := by
  unfold World.cell?
  rw [h]
  simpa using hk
abbrev deed2 (w : World) (d : DeedV) : World := (w.alloc (deedO d)).alloc (deedO d)
/-- What lies there while the law asks a store that is none: the deed, the two stores, the deed's lines. -/
structure NothAt (db sb lb : Nat) (d : DeedV) (X : Nat → LineV) (w : World) : Prop where
  deed : DeedAt db 0 d w
  l0 : w.cell? ⟨lb, 0, none⟩ = some (.pointer none)
  l1 : w.cell? ⟨lb, 1, none⟩ = some (.pointer (some ⟨sb, 0, none⟩))
  st : w.cell? ⟨sb, 0, none⟩ = some (.map none)
  dlt : db < w.heap.size
  slt : sb < w.heap.size
  llt : lb < w.heap.size
  lines : LinesAt d.la d.ln X w
theorem NothAt.below {db sb lb : Nat} {d : DeedV} {X : Nat → LineV} {w w' : World} (h : NothAt db sb lb d X w) (hb : Below w.heap.size w w') : NothAt db sb lb d X w' :=
  ⟨h.deed.below hb h.dlt, by rw [hb.cell (p := ⟨lb, _, none⟩) h.llt]; exact h.l0, by rw [hb.cell (p := ⟨lb, _, none⟩) h.llt]; exact h.l1, by rw [hb.cell (p := ⟨sb, _, none⟩) h.slt]; exact h.st,
   Nat.lt_of_lt_of_le h.dlt hb.size, Nat.lt_of_lt_of_le h.slt hb.size, Nat.lt_of_lt_of_le h.llt hb.size, h.lines.below hb⟩
/-- It lies there, and all that was there before is as it was. -/
structure SS (w0 : World) (db sb lb : Nat) (d : DeedV) (X : Nat → LineV) (w : World) : Prop where
  at_ : NothAt db sb lb d X w
  kept : Below w0.heap.size w0 w
theorem SS.below {w0 : World} {db sb lb : Nat} {d : DeedV} {X : Nat → LineV} {w w' : World} (h : SS w0 db sb lb d X w) (hb : Below w.heap.size w w') : SS w0 db sb lb d X w' := ⟨h.at_.below hb, h.kept.trans (hb.mono h.kept.size)⟩
theorem SS.drew {w0 : World} {db sb lb : Nat} {d : DeedV} {X : Nat → LineV} {w : World} (h : SS w0 db sb lb d X w) : SS w0 db sb lb d X w.drew := h.below (below_drewN (Below.refl _ _) 1)

section
variable {w0 : World} {db sb lb : Nat} {d : DeedV} {X : Nat → LineV} {v : Value}
/-- The two receivers. -/
def RecV (sb : Nat) (v : Value) : Prop := v = .pointer none ∨ v = .pointer (some ⟨sb, 0, none⟩)
theorem none_of {W : World} (hv : RecV sb v) (h : SS w0 db sb lb d X W) : NoneAt v W := by
  rcases hv with rfl | rfl
  · exact .inl rfl
  · exact .inr ⟨sb, rfl, h.at_.slt, h.at_.st⟩
theorem ss_says {W : World} {f : FuncId} {args : Array Value} {r : Value} (h : SS w0 db sb lb d X W) (hc : Calls Try.prog f args W (Says r W)) : Calls Try.prog f args W fun e w' => e = .returned r ∧ SS w0 db sb lb d X w' :=
  hc.mono fun _ _ ⟨h1, h2⟩ => ⟨h1, h2 ▸ h⟩
theorem ss_makes {W : World} {f : FuncId} {args : Array Value} {r : Value} (h : SS w0 db sb lb d X W) (hc : Calls Try.prog f args W (Makes r W)) : Calls Try.prog f args W fun e w' => e = .returned r ∧ SS w0 db sb lb d X w' :=
  hc.mono fun _ _ ⟨h1, h2⟩ => ⟨h1, h.below h2⟩
end

set_option maxRecDepth 100000 in
set_option maxHeartbeats 4000000 in
theorem nothing_any (d : DeedV) (hd : DeedOk d) (X : Nat → LineV) (w : World) (hL : LinesAt d.la d.ln X w) : Calls Try.prog 6 #[deedV d] w (Makes (.bool true) w) := by
  have hb2 : Below w.heap.size w (deed2 w d) := two_allocs _ _ _
  have hblk : (deed2 w d).heap[w.heap.size + 1]? = some (deedO d) := heap_alloc2_new _ _ _
  have hds : DeedsAt (some ⟨w.heap.size + 1, 0, none⟩) 1 (fun _ => d) (fun _ => X) (deed2 w d) :=
    ⟨w.heap.size + 1, 0, fun _ => ⟨rfl, by simp⟩, fun i hi => ⟨hd, by
      obtain rfl : i = 0 := by omega
      constructor <;> exact cell_of hblk rfl, hL.below hb2⟩⟩
  have HBG := Lib.hid (big_any (some ⟨w.heap.size + 1, 0, none⟩) 1 1 (fun _ => d) (fun _ => X) _ (by unfold maxLen; omega) hds)
  have HB2 := Lib.hid hb2
  have HL := Lib.hid hL
  have HDO := Lib.hid hd
  obtain ⟨act, eact, a0, a8⟩ := umod9 d.act
  clear hds hb2 hL hd hblk
  obtain ⟨act0, name, other, text, la, ln, lc, a, b⟩ := d
  simp only [deed2, deedO] at HBG HB2 HL eact ⊢
  go_enter Try.func6, Try.ntmps6
  go_wp2_with fail
  refine (HBG.out).mono ?_
  rintro e w2 ⟨c, rfl, hb3⟩
  cases c with
  | true =>
    go_wp2_with fail
    refine (sane_any _).mono ?_
    rintro e w3 ⟨rfl, hb4⟩
    go_wp2_with fail
    go_ret
    exact ⟨rfl, (HB2.out.trans (hb3.mono HB2.out.size)).trans (hb4.mono (HB2.out.trans (hb3.mono HB2.out.size)).size)⟩
  | false =>
    have hbx : w2.heap[w.heap.size]? = some (.cells #[.int .i64 act0, .string name, .string other, .string text, .slice la ln lc, .int .i64 a, .int .i64 b] 42 (0, 0)) := by
      rw [hb3.block w.heap.size (by simp; omega), ((Below.refl (w.alloc (.cells #[.int .i64 act0, .string name, .string other, .string text, .slice la ln lc, .int .i64 a, .int .i64 b] 42)).heap.size (w.alloc (.cells #[.int .i64 act0, .string name, .string other, .string text, .slice la ln lc, .int .i64 a, .int .i64 b] 42))).alloc (Nat.le_refl _) _).block w.heap.size (by simp)]
      exact heap_alloc_new _ _
    have k0 : w2.cell? ⟨w.heap.size, 0, none⟩ = some (.int .i64 act0) := cell_of hbx rfl
    have k1 : w2.cell? ⟨w.heap.size, 1, none⟩ = some (.string name) := cell_of hbx rfl
    have kf : w2.frozen? ⟨w.heap.size, 0, none⟩ = false := by simp [World.frozen?, hbx]
    have h1 : (w2.setCell ⟨w.heap.size, 0, none⟩ (.int .i64 act)).heap[w.heap.size]? = some (.cells #[.int .i64 act, .string name, .string other, .string text, .slice la ln lc, .int .i64 a, .int .i64 b] 42 (0, 0)) := heap_set_at hbx 0 _
    have hw2 : Below w.heap.size w w2 := HB2.out.trans (hb3.mono HB2.out.size)
    have hst : SS w w.heap.size w2.heap.size (w2.heap.size + 1) ⟨act, name, other, text, la, ln, lc, a, b⟩ X (((w2.setCell ⟨w.heap.size, 0, none⟩ (.int .i64 act)).alloc (.cells #[.map none] 50)).alloc (.cells #[.pointer none, .pointer (some ⟨w2.heap.size, 0, none⟩)] 26)) := by
      have hlt : w.heap.size < w2.heap.size := Nat.lt_of_lt_of_le (by simp; omega) hb3.size
      have ha : Below w2.heap.size (w2.setCell ⟨w.heap.size, 0, none⟩ (.int .i64 act)) (((w2.setCell ⟨w.heap.size, 0, none⟩ (.int .i64 act)).alloc (.cells #[.map none] 50)).alloc (.cells #[.pointer none, .pointer (some ⟨w2.heap.size, 0, none⟩)] 26)) := ((Below.refl _ _).alloc (by simp) _).alloc (by simp) _
      have hk : Below w.heap.size w (w2.setCell ⟨w.heap.size, 0, none⟩ (.int .i64 act)) := hw2.setCell (p := ⟨w.heap.size, 0, none⟩) (Nat.le_refl _) _
      have hk2 := hk.trans (ha.mono (Nat.le_of_lt hlt))
      have hd : (((w2.setCell ⟨w.heap.size, 0, none⟩ (.int .i64 act)).alloc (.cells #[.map none] 50)).alloc (.cells #[.pointer none, .pointer (some ⟨w2.heap.size, 0, none⟩)] 26)).heap[w.heap.size]? = some (.cells #[.int .i64 act, .string name, .string other, .string text, .slice la ln lc, .int .i64 a, .int .i64 b] 42 (0, 0)) := by
        rw [ha.block _ hlt]; exact h1
      have hsz : (w2.setCell ⟨w.heap.size, 0, none⟩ (.int .i64 act)).heap.size = w2.heap.size := by simp
      have hl := heap_alloc2_new (w2.setCell ⟨w.heap.size, 0, none⟩ (.int .i64 act)) (.cells #[.map none] 50) (.cells #[.pointer none, .pointer (some ⟨w2.heap.size, 0, none⟩)] 26)
      rw [hsz] at hl
      have hs : (((w2.setCell ⟨w.heap.size, 0, none⟩ (.int .i64 act)).alloc (.cells #[.map none] 50)).alloc (.cells #[.pointer none, .pointer (some ⟨w2.heap.size, 0, none⟩)] 26)).heap[w2.heap.size]? = some (.cells #[.map none] 50 (0, 0)) := by
        rw [((Below.refl ((w2.setCell ⟨w.heap.size, 0, none⟩ (.int .i64 act)).alloc (.cells #[.map none] 50)).heap.size ((w2.setCell ⟨w.heap.size, 0, none⟩ (.int .i64 act)).alloc (.cells #[.map none] 50))).alloc (Nat.le_refl _) _).block _ (by simp)]
        have := heap_alloc_new (w2.setCell ⟨w.heap.size, 0, none⟩ (.int .i64 act)) (.cells #[.map none] 50)
        rw [hsz] at this
        exact this
      refine ⟨⟨⟨cell_of hd rfl, cell_of hd rfl, cell_of hd rfl, cell_of hd rfl, cell_of hd rfl, cell_of hd rfl, cell_of hd rfl⟩, cell_of hl rfl, cell_of hl rfl, cell_of hs rfl, by simp; omega, by simp; omega, by simp, HL.out.below hk2⟩, hk2⟩
    have hrl0 := Lib.hid hst
    have HD2 : Hid (DeedOk ⟨act, name, other, text, la, ln, lc, a, b⟩) := ⟨HDO.out.name, HDO.out.text, HDO.out.ln⟩
    clear hst h1 hw2 HL HDO HB2 HBG
    go_wp2_with fail
    simp only [eact]
    clear eact hbx k0 k1 kf
    obtain ⟨sb, hsb⟩ : ∃ sb, w2.heap.size = sb := ⟨_, rfl⟩
    obtain ⟨lb, hlb⟩ : ∃ lb, w2.heap.size + 1 = lb := ⟨_, rfl⟩
    rw [hlb, hsb] at hrl0
    simp only [hlb]
    simp only [hsb]
    clear hlb hsb hb3
    go_loopw [5] (fun i wr => ∃ z : Int, i = .int .i64 z ∧ (z = 0 ∨ z = 1 ∨ z = 2) ∧ Hid (SS w w.heap.size sb lb ⟨act, name, other, text, la, ln, lc, a, b⟩ X wr)) (fun i _ => 2 - (intOf i).toNat)
    case atStart => exact ⟨0, rfl, .inl rfl, hrl0⟩
    case round =>
      obtain ⟨z, rfl, hz, hrl⟩ := hrel
      clear hrl0
      rcases hz with rfl | rfl | rfl
      · have HTE : Hid (∀ W, SS w w.heap.size sb lb ⟨act, name, other, text, la, ln, lc, a, b⟩ X W → Calls Try.prog 13 #[.pointer none, .string name] W fun e w' => e = .returned (.tuple #[.string ⟨#[]⟩, .int .i64 1]) ∧ SS w w.heap.size sb lb ⟨act, name, other, text, la, ln, lc, a, b⟩ X w') := fun W h => ss_says h (none_text (none_of (.inl rfl) h) name)
        have HLI : Hid (∀ W, SS w w.heap.size sb lb ⟨act, name, other, text, la, ln, lc, a, b⟩ X W → Calls Try.prog 17 #[.pointer none, .string name] W fun e w' => e = .returned (.tuple #[.slice none 0 0, .int .i64 1]) ∧ SS w w.heap.size sb lb ⟨act, name, other, text, la, ln, lc, a, b⟩ X w') := fun W h => ss_says h (none_lines (none_of (.inl rfl) h) name)
        have HLE : Hid (∀ W, SS w w.heap.size sb lb ⟨act, name, other, text, la, ln, lc, a, b⟩ X W → Calls Try.prog 25 #[.pointer none, .string name] W fun e w' => e = .returned (.tuple #[.int .i64 0, .int .i64 1]) ∧ SS w w.heap.size sb lb ⟨act, name, other, text, la, ln, lc, a, b⟩ X w') := fun W h => ss_says h (none_length (none_of (.inl rfl) h) name)
        have HDO : Hid (∀ W, SS w w.heap.size sb lb ⟨act, name, other, text, la, ln, lc, a, b⟩ X W → Calls Try.prog 21 #[.pointer none, deedV ⟨act, name, other, text, la, ln, lc, a, b⟩] W fun e w' => e = .returned (.int .i64 1) ∧ SS w w.heap.size sb lb ⟨act, name, other, text, la, ln, lc, a, b⟩ X w') := fun W h => ss_makes h (do_none (none_of (.inl rfl) h) ⟨act, name, other, text, la, ln, lc, a, b⟩ HD2.out X h.at_.lines ⟨a0, a8⟩)
        have HKI : Hid (∀ W, SS w w.heap.size sb lb ⟨act, name, other, text, la, ln, lc, a, b⟩ X W → Calls Try.prog 22 #[.pointer none, .string name] W fun e w' => e = .returned (.int .i64 0) ∧ SS w w.heap.size sb lb ⟨act, name, other, text, la, ln, lc, a, b⟩ X w') := fun W h => ss_makes h (none_kind (none_of (.inl rfl) h) name HD2.out.name)
        have HNA : Hid (∀ W, SS w w.heap.size sb lb ⟨act, name, other, text, la, ln, lc, a, b⟩ X W → Calls Try.prog 26 #[.pointer none] W fun e w' => e = .returned (.slice none 0 0) ∧ SS w w.heap.size sb lb ⟨act, name, other, text, la, ln, lc, a, b⟩ X w') := fun W h => ss_makes h (none_names (none_of (.inl rfl) h))
        have HCO : Hid (∀ W, SS w w.heap.size sb lb ⟨act, name, other, text, la, ln, lc, a, b⟩ X W → Calls Try.prog 27 #[.pointer none] W fun e w' => e = .returned (.pointer none) ∧ SS w w.heap.size sb lb ⟨act, name, other, text, la, ln, lc, a, b⟩ X w') := fun W h => ss_says h (none_copy (none_of (.inl rfl) h))
        go_wp2_with fail
        refine wp_region_held_drew (S := SS w w.heap.size sb lb ⟨act, name, other, text, la, ln, lc, a, b⟩ X) (by kernel_rfl) hrl.out.drew (fun hH => ?_)
        clear hrl
        simp only [List.size_toArray, List.length_cons, List.length_nil, Nat.reduceAdd, Array.replicate_succ, Array.replicate_zero, List.push_toArray]
        refine take_at (i := 0) (v := .slice (some ⟨lb, 0, none⟩) 2 2) rfl rfl (by kernel_rfl) (by kernel_rfl) (by kernel_rfl) (fun _ _ _ h => h) (.inl ⟨by rfl, fun _ _ => by go_simp⟩) hH ?_
        simp only [List.setIfInBounds_toArray, List.set_cons_zero, List.set_cons_succ]
        refine take_at (i := 1) (v := .int .i64 0) rfl rfl (by kernel_rfl) (by kernel_rfl) (by kernel_rfl) (fun _ _ _ h => h) (.inl ⟨by rfl, fun _ _ => by go_simp⟩) hH ?_
        simp only [List.setIfInBounds_toArray, List.set_cons_zero, List.set_cons_succ]
        refine take_at (i := 2) (v := .pointer (some ⟨lb, 0, none⟩)) rfl rfl (by kernel_rfl) (by kernel_rfl) (by kernel_rfl) (fun _ _ _ h => h) (.inl ⟨by rfl, fun _ _ => by go_simp⟩) hH ?_
        simp only [List.setIfInBounds_toArray, List.set_cons_zero, List.set_cons_succ]
        refine take_at (i := 3) (v := .pointer none) rfl rfl (by kernel_rfl) (by kernel_rfl) (by kernel_rfl) (fun _ _ _ h => h) (.inl ⟨by rfl, fun _ hw => by have h := hw.at_.l0; go_simp⟩) hH ?_
        simp only [List.setIfInBounds_toArray, List.set_cons_zero, List.set_cons_succ]
        refine take_at (i := 4) (v := .pointer (some ⟨w.heap.size, 1, none⟩)) rfl rfl (by kernel_rfl) (by kernel_rfl) (by kernel_rfl) (fun _ _ _ h => h) (.inl ⟨by rfl, fun _ _ => by go_simp⟩) hH ?_
        simp only [List.setIfInBounds_toArray, List.set_cons_zero, List.set_cons_succ]
        refine take_at (i := 5) (v := .string name) rfl rfl (by kernel_rfl) (by kernel_rfl) (by kernel_rfl) (fun _ _ _ h => h) (.inl ⟨by rfl, fun _ hw => by have h := hw.at_.deed.c1; go_simp⟩) hH ?_
        simp only [List.setIfInBounds_toArray, List.set_cons_zero, List.set_cons_succ]
        refine call_at (i := 6) rfl (by kernel_rfl) (by rfl) (fun K hK => ?_)
        go_simp
        refine (HTE.out _ hH).mono ?_
        rintro e w4 ⟨rfl, hH4⟩
        clear hH
        go_wp2_with fail
        refine hK.out _ _ hH4 (fun hH => ?_)
        clear hK K hH4
        simp only [List.setIfInBounds_toArray]
        refine take_at (i := 7) (v := .tuple #[.string ⟨#[]⟩, .int .i64 1]) rfl rfl (by kernel_rfl) (by kernel_rfl) (by kernel_rfl) (fun _ _ _ h => h) (.inl ⟨by rfl, fun _ _ => by go_simp⟩) hH ?_
        simp only [List.setIfInBounds_toArray, List.set_cons_zero, List.set_cons_succ]
        refine take_at (i := 8) (v := .string ⟨#[]⟩) rfl rfl (by kernel_rfl) (by kernel_rfl) (by kernel_rfl) (fun _ _ _ h => h) (.inl ⟨by rfl, fun _ _ => by go_simp⟩) hH ?_
        simp only [List.setIfInBounds_toArray, List.set_cons_zero, List.set_cons_succ]
        refine take_at (i := 9) (v := .int .i64 1) rfl rfl (by kernel_rfl) (by kernel_rfl) (by kernel_rfl) (fun _ _ _ h => h) (.inl ⟨by rfl, fun _ _ => by go_simp⟩) hH ?_
        simp only [List.setIfInBounds_toArray, List.set_cons_zero, List.set_cons_succ]
        refine take_at (i := 10) (v := .string ⟨#[]⟩) rfl rfl (by kernel_rfl) (by kernel_rfl) (by kernel_rfl) (fun _ _ _ h => h) (.inl ⟨by rfl, fun _ _ => by go_simp⟩) hH ?_
        simp only [List.setIfInBounds_toArray, List.set_cons_zero, List.set_cons_succ]
        refine take_at (i := 11) (v := .int .i64 1) rfl rfl (by kernel_rfl) (by kernel_rfl) (by kernel_rfl) (fun _ _ _ h => h) (.inl ⟨by rfl, fun _ _ => by go_simp⟩) hH ?_
        simp only [List.setIfInBounds_toArray, List.set_cons_zero, List.set_cons_succ]
        refine wpAnyH_done (by kernel_rfl) ?_ _
        have hrl := Lib.hid hH
        clear hH
        go_wp2_with fail
        refine wp_region_held_drew (S := SS w w.heap.size sb lb ⟨act, name, other, text, la, ln, lc, a, b⟩ X) (by kernel_rfl) hrl.out.drew (fun hH => ?_)
        clear hrl
        simp only [List.size_toArray, List.length_cons, List.length_nil, Nat.reduceAdd, Array.replicate_succ, Array.replicate_zero, List.push_toArray]
        refine take_at (i := 0) (v := .slice (some ⟨lb, 0, none⟩) 2 2) rfl rfl (by kernel_rfl) (by kernel_rfl) (by kernel_rfl) (fun _ _ _ h => h) (.inl ⟨by rfl, fun _ _ => by go_simp⟩) hH ?_
        simp only [List.setIfInBounds_toArray, List.set_cons_zero, List.set_cons_succ]
        refine take_at (i := 1) (v := .int .i64 0) rfl rfl (by kernel_rfl) (by kernel_rfl) (by kernel_rfl) (fun _ _ _ h => h) (.inl ⟨by rfl, fun _ _ => by go_simp⟩) hH ?_
        simp only [List.setIfInBounds_toArray, List.set_cons_zero, List.set_cons_succ]
        refine take_at (i := 2) (v := .pointer (some ⟨lb, 0, none⟩)) rfl rfl (by kernel_rfl) (by kernel_rfl) (by kernel_rfl) (fun _ _ _ h => h) (.inl ⟨by rfl, fun _ _ => by go_simp⟩) hH ?_
        simp only [List.setIfInBounds_toArray, List.set_cons_zero, List.set_cons_succ]
        refine take_at (i := 3) (v := .pointer none) rfl rfl (by kernel_rfl) (by kernel_rfl) (by kernel_rfl) (fun _ _ _ h => h) (.inl ⟨by rfl, fun _ hw => by have h := hw.at_.l0; go_simp⟩) hH ?_
        simp only [List.setIfInBounds_toArray, List.set_cons_zero, List.set_cons_succ]
        refine take_at (i := 4) (v := .pointer (some ⟨w.heap.size, 1, none⟩)) rfl rfl (by kernel_rfl) (by kernel_rfl) (by kernel_rfl) (fun _ _ _ h => h) (.inl ⟨by rfl, fun _ _ => by go_simp⟩) hH ?_
        simp only [List.setIfInBounds_toArray, List.set_cons_zero, List.set_cons_succ]
        refine take_at (i := 5) (v := .string name) rfl rfl (by kernel_rfl) (by kernel_rfl) (by kernel_rfl) (fun _ _ _ h => h) (.inl ⟨by rfl, fun _ hw => by have h := hw.at_.deed.c1; go_simp⟩) hH ?_
        simp only [List.setIfInBounds_toArray, List.set_cons_zero, List.set_cons_succ]
        refine call_at (i := 6) rfl (by kernel_rfl) (by rfl) (fun K hK => ?_)
        go_simp
        refine (HLI.out _ hH).mono ?_
        rintro e w4 ⟨rfl, hH4⟩
        clear hH
        go_wp2_with fail
        refine hK.out _ _ hH4 (fun hH => ?_)
        clear hK K hH4
        simp only [List.setIfInBounds_toArray]
        refine take_at (i := 7) (v := .tuple #[.slice none 0 0, .int .i64 1]) rfl rfl (by kernel_rfl) (by kernel_rfl) (by kernel_rfl) (fun _ _ _ h => h) (.inl ⟨by rfl, fun _ _ => by go_simp⟩) hH ?_
        simp only [List.setIfInBounds_toArray, List.set_cons_zero, List.set_cons_succ]
        refine take_at (i := 8) (v := .slice none 0 0) rfl rfl (by kernel_rfl) (by kernel_rfl) (by kernel_rfl) (fun _ _ _ h => h) (.inl ⟨by rfl, fun _ _ => by go_simp⟩) hH ?_
        simp only [List.setIfInBounds_toArray, List.set_cons_zero, List.set_cons_succ]
        refine take_at (i := 9) (v := .int .i64 1) rfl rfl (by kernel_rfl) (by kernel_rfl) (by kernel_rfl) (fun _ _ _ h => h) (.inl ⟨by rfl, fun _ _ => by go_simp⟩) hH ?_
        simp only [List.setIfInBounds_toArray, List.set_cons_zero, List.set_cons_succ]
        refine take_at (i := 10) (v := .slice none 0 0) rfl rfl (by kernel_rfl) (by kernel_rfl) (by kernel_rfl) (fun _ _ _ h => h) (.inl ⟨by rfl, fun _ _ => by go_simp⟩) hH ?_
        simp only [List.setIfInBounds_toArray, List.set_cons_zero, List.set_cons_succ]
        refine take_at (i := 11) (v := .int .i64 1) rfl rfl (by kernel_rfl) (by kernel_rfl) (by kernel_rfl) (fun _ _ _ h => h) (.inl ⟨by rfl, fun _ _ => by go_simp⟩) hH ?_
        simp only [List.setIfInBounds_toArray, List.set_cons_zero, List.set_cons_succ]
        refine wpAnyH_done (by kernel_rfl) ?_ _
        have hrl := Lib.hid hH
        clear hH
        go_wp2_with fail
        refine wp_region_held_drew (S := SS w w.heap.size sb lb ⟨act, name, other, text, la, ln, lc, a, b⟩ X) (by kernel_rfl) hrl.out.drew (fun hH => ?_)
        clear hrl
        simp only [List.size_toArray, List.length_cons, List.length_nil, Nat.reduceAdd, Array.replicate_succ, Array.replicate_zero, List.push_toArray]
        refine take_at (i := 0) (v := .slice (some ⟨lb, 0, none⟩) 2 2) rfl rfl (by kernel_rfl) (by kernel_rfl) (by kernel_rfl) (fun _ _ _ h => h) (.inl ⟨by rfl, fun _ _ => by go_simp⟩) hH ?_
        simp only [List.setIfInBounds_toArray, List.set_cons_zero, List.set_cons_succ]
        refine take_at (i := 1) (v := .int .i64 0) rfl rfl (by kernel_rfl) (by kernel_rfl) (by kernel_rfl) (fun _ _ _ h => h) (.inl ⟨by rfl, fun _ _ => by go_simp⟩) hH ?_
        simp only [List.setIfInBounds_toArray, List.set_cons_zero, List.set_cons_succ]
        refine take_at (i := 2) (v := .pointer (some ⟨lb, 0, none⟩)) rfl rfl (by kernel_rfl) (by kernel_rfl) (by kernel_rfl) (fun _ _ _ h => h) (.inl ⟨by rfl, fun _ _ => by go_simp⟩) hH ?_
        simp only [List.setIfInBounds_toArray, List.set_cons_zero, List.set_cons_succ]
        refine take_at (i := 3) (v := .pointer none) rfl rfl (by kernel_rfl) (by kernel_rfl) (by kernel_rfl) (fun _ _ _ h => h) (.inl ⟨by rfl, fun _ hw => by have h := hw.at_.l0; go_simp⟩) hH ?_
        simp only [List.setIfInBounds_toArray, List.set_cons_zero, List.set_cons_succ]
        refine take_at (i := 4) (v := .pointer (some ⟨w.heap.size, 1, none⟩)) rfl rfl (by kernel_rfl) (by kernel_rfl) (by kernel_rfl) (fun _ _ _ h => h) (.inl ⟨by rfl, fun _ _ => by go_simp⟩) hH ?_
        simp only [List.setIfInBounds_toArray, List.set_cons_zero, List.set_cons_succ]
        refine take_at (i := 5) (v := .string name) rfl rfl (by kernel_rfl) (by kernel_rfl) (by kernel_rfl) (fun _ _ _ h => h) (.inl ⟨by rfl, fun _ hw => by have h := hw.at_.deed.c1; go_simp⟩) hH ?_
        simp only [List.setIfInBounds_toArray, List.set_cons_zero, List.set_cons_succ]
        refine call_at (i := 6) rfl (by kernel_rfl) (by rfl) (fun K hK => ?_)
        go_simp
        refine (HLE.out _ hH).mono ?_
        rintro e w4 ⟨rfl, hH4⟩
        clear hH
        go_wp2_with fail
        refine hK.out _ _ hH4 (fun hH => ?_)
        clear hK K hH4
        simp only [List.setIfInBounds_toArray]
        refine take_at (i := 7) (v := .tuple #[.int .i64 0, .int .i64 1]) rfl rfl (by kernel_rfl) (by kernel_rfl) (by kernel_rfl) (fun _ _ _ h => h) (.inl ⟨by rfl, fun _ _ => by go_simp⟩) hH ?_
        simp only [List.setIfInBounds_toArray, List.set_cons_zero, List.set_cons_succ]
        refine take_at (i := 8) (v := .int .i64 0) rfl rfl (by kernel_rfl) (by kernel_rfl) (by kernel_rfl) (fun _ _ _ h => h) (.inl ⟨by rfl, fun _ _ => by go_simp⟩) hH ?_
        simp only [List.setIfInBounds_toArray, List.set_cons_zero, List.set_cons_succ]
        refine take_at (i := 9) (v := .int .i64 1) rfl rfl (by kernel_rfl) (by kernel_rfl) (by kernel_rfl) (fun _ _ _ h => h) (.inl ⟨by rfl, fun _ _ => by go_simp⟩) hH ?_
        simp only [List.setIfInBounds_toArray, List.set_cons_zero, List.set_cons_succ]
        refine take_at (i := 10) (v := .int .i64 0) rfl rfl (by kernel_rfl) (by kernel_rfl) (by kernel_rfl) (fun _ _ _ h => h) (.inl ⟨by rfl, fun _ _ => by go_simp⟩) hH ?_
        simp only [List.setIfInBounds_toArray, List.set_cons_zero, List.set_cons_succ]
        refine take_at (i := 11) (v := .int .i64 1) rfl rfl (by kernel_rfl) (by kernel_rfl) (by kernel_rfl) (fun _ _ _ h => h) (.inl ⟨by rfl, fun _ _ => by go_simp⟩) hH ?_
        simp only [List.setIfInBounds_toArray, List.set_cons_zero, List.set_cons_succ]
        refine wpAnyH_done (by kernel_rfl) ?_ _
        have hrl := Lib.hid hH
        clear hH
        go_wp2_with fail
        refine wp_region_held_drew (S := SS w w.heap.size sb lb ⟨act, name, other, text, la, ln, lc, a, b⟩ X) (by kernel_rfl) hrl.out.drew (fun hH => ?_)
        clear hrl
        simp only [List.size_toArray, List.length_cons, List.length_nil, Nat.reduceAdd, Array.replicate_succ, Array.replicate_zero, List.push_toArray]
        refine take_at (i := 0) (v := .slice (some ⟨lb, 0, none⟩) 2 2) rfl rfl (by kernel_rfl) (by kernel_rfl) (by kernel_rfl) (fun _ _ _ h => h) (.inl ⟨by rfl, fun _ _ => by go_simp⟩) hH ?_
        simp only [List.setIfInBounds_toArray, List.set_cons_zero, List.set_cons_succ]
        refine take_at (i := 1) (v := .int .i64 0) rfl rfl (by kernel_rfl) (by kernel_rfl) (by kernel_rfl) (fun _ _ _ h => h) (.inl ⟨by rfl, fun _ _ => by go_simp⟩) hH ?_
        simp only [List.setIfInBounds_toArray, List.set_cons_zero, List.set_cons_succ]
        refine take_at (i := 2) (v := .pointer (some ⟨lb, 0, none⟩)) rfl rfl (by kernel_rfl) (by kernel_rfl) (by kernel_rfl) (fun _ _ _ h => h) (.inl ⟨by rfl, fun _ _ => by go_simp⟩) hH ?_
        simp only [List.setIfInBounds_toArray, List.set_cons_zero, List.set_cons_succ]
        refine take_at (i := 3) (v := .pointer none) rfl rfl (by kernel_rfl) (by kernel_rfl) (by kernel_rfl) (fun _ _ _ h => h) (.inl ⟨by rfl, fun _ hw => by have h := hw.at_.l0; go_simp⟩) hH ?_
        simp only [List.setIfInBounds_toArray, List.set_cons_zero, List.set_cons_succ]
        refine take_at (i := 4) (v := deedV ⟨act, name, other, text, la, ln, lc, a, b⟩) rfl rfl (by kernel_rfl) (by kernel_rfl) (by kernel_rfl) (fun _ _ _ h => h) (.inl ⟨by rfl, fun _ hw => by obtain ⟨c0, c1, c2, c3, c4, c5, c6⟩ := hw.at_.deed; go_simp⟩) hH ?_
        simp only [List.setIfInBounds_toArray, List.set_cons_zero, List.set_cons_succ]
        refine call_at (i := 5) rfl (by kernel_rfl) (by rfl) (fun K hK => ?_)
        go_simp
        refine (HDO.out _ hH).mono ?_
        rintro e w4 ⟨rfl, hH4⟩
        clear hH
        go_wp2_with fail
        refine hK.out _ _ hH4 (fun hH => ?_)
        clear hK K hH4
        simp only [List.setIfInBounds_toArray]
        refine take_at (i := 6) (v := .bool false) rfl rfl (by kernel_rfl) (by kernel_rfl) (by kernel_rfl) (fun _ _ _ h => h) (.inl ⟨by rfl, fun _ _ => by go_simp⟩) hH ?_
        simp only [List.setIfInBounds_toArray, List.set_cons_zero, List.set_cons_succ]
        refine take_at (i := 7) (v := .bool false) rfl rfl (by kernel_rfl) (by kernel_rfl) (by kernel_rfl) (fun _ _ _ h => h) (.inl ⟨by rfl, fun _ _ => by go_simp⟩) hH ?_
        simp only [List.setIfInBounds_toArray, List.set_cons_zero, List.set_cons_succ]
        refine take_at (i := 8) (v := .int .i64 1) rfl rfl (by kernel_rfl) (by kernel_rfl) (by kernel_rfl) (fun _ _ _ h => h) (.inl ⟨by rfl, fun _ _ => by go_simp⟩) hH ?_
        simp only [List.setIfInBounds_toArray, List.set_cons_zero, List.set_cons_succ]
        refine take_at (i := 9) (v := .bool false) rfl rfl (by kernel_rfl) (by kernel_rfl) (by kernel_rfl) (fun _ _ _ h => h) (.inl ⟨by rfl, fun _ _ => by go_simp⟩) hH ?_
        simp only [List.setIfInBounds_toArray, List.set_cons_zero, List.set_cons_succ]
        refine take_at (i := 10) (v := .bool false) rfl rfl (by kernel_rfl) (by kernel_rfl) (by kernel_rfl) (fun _ _ _ h => h) (.inl ⟨by rfl, fun _ _ => by go_simp⟩) hH ?_
        simp only [List.setIfInBounds_toArray, List.set_cons_zero, List.set_cons_succ]
        refine take_at (i := 11) (v := .bool false) rfl rfl (by kernel_rfl) (by kernel_rfl) (by kernel_rfl) (fun _ _ _ h => h) (.inl ⟨by rfl, fun _ _ => by go_simp⟩) hH ?_
        simp only [List.setIfInBounds_toArray, List.set_cons_zero, List.set_cons_succ]
        refine take_at (i := 12) (v := .int .i64 1) rfl rfl (by kernel_rfl) (by kernel_rfl) (by kernel_rfl) (fun _ _ _ h => h) (.inl ⟨by rfl, fun _ _ => by go_simp⟩) hH ?_
        simp only [List.setIfInBounds_toArray, List.set_cons_zero, List.set_cons_succ]
        refine take_at (i := 13) (v := .bool false) rfl rfl (by kernel_rfl) (by kernel_rfl) (by kernel_rfl) (fun _ _ _ h => h) (.inl ⟨by rfl, fun _ _ => by go_simp⟩) hH ?_
        simp only [List.setIfInBounds_toArray, List.set_cons_zero, List.set_cons_succ]
        refine take_at (i := 14) (v := .bool false) rfl rfl (by kernel_rfl) (by kernel_rfl) (by kernel_rfl) (fun _ _ _ h => h) (.inl ⟨by rfl, fun _ _ => by go_simp⟩) hH ?_
        simp only [List.setIfInBounds_toArray, List.set_cons_zero, List.set_cons_succ]
        refine take_at (i := 15) (v := .bool false) rfl rfl (by kernel_rfl) (by kernel_rfl) (by kernel_rfl) (fun _ _ _ h => h) (.inl ⟨by rfl, fun _ _ => by go_simp⟩) hH ?_
        simp only [List.setIfInBounds_toArray, List.set_cons_zero, List.set_cons_succ]
        refine take_at (i := 16) (v := .int .i64 1) rfl rfl (by kernel_rfl) (by kernel_rfl) (by kernel_rfl) (fun _ _ _ h => h) (.inl ⟨by rfl, fun _ _ => by go_simp⟩) hH ?_
        simp only [List.setIfInBounds_toArray, List.set_cons_zero, List.set_cons_succ]
        refine take_at (i := 17) (v := .bool false) rfl rfl (by kernel_rfl) (by kernel_rfl) (by kernel_rfl) (fun _ _ _ h => h) (.inl ⟨by rfl, fun _ _ => by go_simp⟩) hH ?_
        simp only [List.setIfInBounds_toArray, List.set_cons_zero, List.set_cons_succ]
        refine take_at (i := 18) (v := .bool false) rfl rfl (by kernel_rfl) (by kernel_rfl) (by kernel_rfl) (fun _ _ _ h => h) (.inl ⟨by rfl, fun _ _ => by go_simp⟩) hH ?_
        simp only [List.setIfInBounds_toArray, List.set_cons_zero, List.set_cons_succ]
        refine take_at (i := 19) (v := .bool false) rfl rfl (by kernel_rfl) (by kernel_rfl) (by kernel_rfl) (fun _ _ _ h => h) (.inl ⟨by rfl, fun _ _ => by go_simp⟩) hH ?_
        simp only [List.setIfInBounds_toArray, List.set_cons_zero, List.set_cons_succ]
        refine take_at (i := 20) (v := .slice (some ⟨lb, 0, none⟩) 2 2) rfl rfl (by kernel_rfl) (by kernel_rfl) (by kernel_rfl) (fun _ _ _ h => h) (.inl ⟨by rfl, fun _ _ => by go_simp⟩) hH ?_
        simp only [List.setIfInBounds_toArray, List.set_cons_zero, List.set_cons_succ]
        refine take_at (i := 21) (v := .int .i64 0) rfl rfl (by kernel_rfl) (by kernel_rfl) (by kernel_rfl) (fun _ _ _ h => h) (.inl ⟨by rfl, fun _ _ => by go_simp⟩) hH ?_
        simp only [List.setIfInBounds_toArray, List.set_cons_zero, List.set_cons_succ]
        refine take_at (i := 22) (v := .pointer (some ⟨lb, 0, none⟩)) rfl rfl (by kernel_rfl) (by kernel_rfl) (by kernel_rfl) (fun _ _ _ h => h) (.inl ⟨by rfl, fun _ _ => by go_simp⟩) hH ?_
        simp only [List.setIfInBounds_toArray, List.set_cons_zero, List.set_cons_succ]
        refine take_at (i := 23) (v := .pointer none) rfl rfl (by kernel_rfl) (by kernel_rfl) (by kernel_rfl) (fun _ _ _ h => h) (.inl ⟨by rfl, fun _ hw => by have h := hw.at_.l0; go_simp⟩) hH ?_
        simp only [List.setIfInBounds_toArray, List.set_cons_zero, List.set_cons_succ]
        refine take_at (i := 24) (v := .pointer (some ⟨w.heap.size, 1, none⟩)) rfl rfl (by kernel_rfl) (by kernel_rfl) (by kernel_rfl) (fun _ _ _ h => h) (.inl ⟨by rfl, fun _ _ => by go_simp⟩) hH ?_
        simp only [List.setIfInBounds_toArray, List.set_cons_zero, List.set_cons_succ]
        refine take_at (i := 25) (v := .string name) rfl rfl (by kernel_rfl) (by kernel_rfl) (by kernel_rfl) (fun _ _ _ h => h) (.inl ⟨by rfl, fun _ hw => by have h := hw.at_.deed.c1; go_simp⟩) hH ?_
        simp only [List.setIfInBounds_toArray, List.set_cons_zero, List.set_cons_succ]
        refine call_at (i := 26) rfl (by kernel_rfl) (by rfl) (fun K hK => ?_)
        go_simp
        refine (HKI.out _ hH).mono ?_
        rintro e w4 ⟨rfl, hH4⟩
        clear hH
        go_wp2_with fail
        refine hK.out _ _ hH4 (fun hH => ?_)
        clear hK K hH4
        simp only [List.setIfInBounds_toArray]
        refine take_at (i := 27) (v := .bool false) rfl rfl (by kernel_rfl) (by kernel_rfl) (by kernel_rfl) (fun _ _ _ h => h) (.inl ⟨by rfl, fun _ _ => by go_simp⟩) hH ?_
        simp only [List.setIfInBounds_toArray, List.set_cons_zero, List.set_cons_succ]
        refine take_at (i := 28) (v := .bool false) rfl rfl (by kernel_rfl) (by kernel_rfl) (by kernel_rfl) (fun _ _ _ h => h) (.inl ⟨by rfl, fun _ _ => by go_simp⟩) hH ?_
        simp only [List.setIfInBounds_toArray, List.set_cons_zero, List.set_cons_succ]
        refine take_at (i := 29) (v := .bool false) rfl rfl (by kernel_rfl) (by kernel_rfl) (by kernel_rfl) (fun _ _ _ h => h) (.inl ⟨by rfl, fun _ _ => by go_simp⟩) hH ?_
        simp only [List.setIfInBounds_toArray, List.set_cons_zero, List.set_cons_succ]
        refine take_at (i := 30) (v := .slice (some ⟨lb, 0, none⟩) 2 2) rfl rfl (by kernel_rfl) (by kernel_rfl) (by kernel_rfl) (fun _ _ _ h => h) (.inl ⟨by rfl, fun _ _ => by go_simp⟩) hH ?_
        simp only [List.setIfInBounds_toArray, List.set_cons_zero, List.set_cons_succ]
        refine take_at (i := 31) (v := .int .i64 0) rfl rfl (by kernel_rfl) (by kernel_rfl) (by kernel_rfl) (fun _ _ _ h => h) (.inl ⟨by rfl, fun _ _ => by go_simp⟩) hH ?_
        simp only [List.setIfInBounds_toArray, List.set_cons_zero, List.set_cons_succ]
        refine take_at (i := 32) (v := .pointer (some ⟨lb, 0, none⟩)) rfl rfl (by kernel_rfl) (by kernel_rfl) (by kernel_rfl) (fun _ _ _ h => h) (.inl ⟨by rfl, fun _ _ => by go_simp⟩) hH ?_
        simp only [List.setIfInBounds_toArray, List.set_cons_zero, List.set_cons_succ]
        refine take_at (i := 33) (v := .pointer none) rfl rfl (by kernel_rfl) (by kernel_rfl) (by kernel_rfl) (fun _ _ _ h => h) (.inl ⟨by rfl, fun _ hw => by have h := hw.at_.l0; go_simp⟩) hH ?_
        simp only [List.setIfInBounds_toArray, List.set_cons_zero, List.set_cons_succ]
        refine call_at (i := 34) rfl (by kernel_rfl) (by rfl) (fun K hK => ?_)
        go_simp
        refine (HNA.out _ hH).mono ?_
        rintro e w4 ⟨rfl, hH4⟩
        clear hH
        go_wp2_with fail
        refine hK.out _ _ hH4 (fun hH => ?_)
        clear hK K hH4
        simp only [List.setIfInBounds_toArray]
        refine take_at (i := 35) (v := .int .i64 0) rfl rfl (by kernel_rfl) (by kernel_rfl) (by kernel_rfl) (fun _ _ _ h => h) (.inl ⟨by rfl, fun _ _ => by go_simp⟩) hH ?_
        simp only [List.setIfInBounds_toArray, List.set_cons_zero, List.set_cons_succ]
        refine take_at (i := 36) (v := .bool false) rfl rfl (by kernel_rfl) (by kernel_rfl) (by kernel_rfl) (fun _ _ _ h => h) (.inl ⟨by rfl, fun _ _ => by go_simp⟩) hH ?_
        simp only [List.setIfInBounds_toArray, List.set_cons_zero, List.set_cons_succ]
        refine take_at (i := 37) (v := .bool false) rfl rfl (by kernel_rfl) (by kernel_rfl) (by kernel_rfl) (fun _ _ _ h => h) (.inl ⟨by rfl, fun _ _ => by go_simp⟩) hH ?_
        simp only [List.setIfInBounds_toArray, List.set_cons_zero, List.set_cons_succ]
        refine take_at (i := 38) (v := .bool false) rfl rfl (by kernel_rfl) (by kernel_rfl) (by kernel_rfl) (fun _ _ _ h => h) (.inl ⟨by rfl, fun _ _ => by go_simp⟩) hH ?_
        simp only [List.setIfInBounds_toArray, List.set_cons_zero, List.set_cons_succ]
        refine take_at (i := 39) (v := .slice (some ⟨lb, 0, none⟩) 2 2) rfl rfl (by kernel_rfl) (by kernel_rfl) (by kernel_rfl) (fun _ _ _ h => h) (.inl ⟨by rfl, fun _ _ => by go_simp⟩) hH ?_
        simp only [List.setIfInBounds_toArray, List.set_cons_zero, List.set_cons_succ]
        refine take_at (i := 40) (v := .int .i64 0) rfl rfl (by kernel_rfl) (by kernel_rfl) (by kernel_rfl) (fun _ _ _ h => h) (.inl ⟨by rfl, fun _ _ => by go_simp⟩) hH ?_
        simp only [List.setIfInBounds_toArray, List.set_cons_zero, List.set_cons_succ]
        refine take_at (i := 41) (v := .pointer (some ⟨lb, 0, none⟩)) rfl rfl (by kernel_rfl) (by kernel_rfl) (by kernel_rfl) (fun _ _ _ h => h) (.inl ⟨by rfl, fun _ _ => by go_simp⟩) hH ?_
        simp only [List.setIfInBounds_toArray, List.set_cons_zero, List.set_cons_succ]
        refine take_at (i := 42) (v := .pointer none) rfl rfl (by kernel_rfl) (by kernel_rfl) (by kernel_rfl) (fun _ _ _ h => h) (.inl ⟨by rfl, fun _ hw => by have h := hw.at_.l0; go_simp⟩) hH ?_
        simp only [List.setIfInBounds_toArray, List.set_cons_zero, List.set_cons_succ]
        refine call_at (i := 43) rfl (by kernel_rfl) (by rfl) (fun K hK => ?_)
        go_simp
        refine (HCO.out _ hH).mono ?_
        rintro e w4 ⟨rfl, hH4⟩
        clear hH
        go_wp2_with fail
        refine hK.out _ _ hH4 (fun hH => ?_)
        clear hK K hH4
        simp only [List.setIfInBounds_toArray]
        refine take_at (i := 44) (v := .bool false) rfl rfl (by kernel_rfl) (by kernel_rfl) (by kernel_rfl) (fun _ _ _ h => h) (.inl ⟨by rfl, fun _ _ => by go_simp⟩) hH ?_
        simp only [List.setIfInBounds_toArray, List.set_cons_zero, List.set_cons_succ]
        refine take_at (i := 45) (v := .bool false) rfl rfl (by kernel_rfl) (by kernel_rfl) (by kernel_rfl) (fun _ _ _ h => h) (.inl ⟨by rfl, fun _ _ => by go_simp⟩) hH ?_
        simp only [List.setIfInBounds_toArray, List.set_cons_zero, List.set_cons_succ]
        refine wpAnyH_done (by kernel_rfl) ?_ _
        have hrl := Lib.hid hH
        clear hH
        go_wp2_with fail
        go_roundw
        case rel => exact ⟨1, rfl, by omega, hrl⟩
        case measure => simp [intOf]
      · have HTE : Hid (∀ W, SS w w.heap.size sb lb ⟨act, name, other, text, la, ln, lc, a, b⟩ X W → Calls Try.prog 13 #[.pointer (some ⟨sb, 0, none⟩), .string name] W fun e w' => e = .returned (.tuple #[.string ⟨#[]⟩, .int .i64 1]) ∧ SS w w.heap.size sb lb ⟨act, name, other, text, la, ln, lc, a, b⟩ X w') := fun W h => ss_says h (none_text (none_of (.inr rfl) h) name)
        have HLI : Hid (∀ W, SS w w.heap.size sb lb ⟨act, name, other, text, la, ln, lc, a, b⟩ X W → Calls Try.prog 17 #[.pointer (some ⟨sb, 0, none⟩), .string name] W fun e w' => e = .returned (.tuple #[.slice none 0 0, .int .i64 1]) ∧ SS w w.heap.size sb lb ⟨act, name, other, text, la, ln, lc, a, b⟩ X w') := fun W h => ss_says h (none_lines (none_of (.inr rfl) h) name)
        have HLE : Hid (∀ W, SS w w.heap.size sb lb ⟨act, name, other, text, la, ln, lc, a, b⟩ X W → Calls Try.prog 25 #[.pointer (some ⟨sb, 0, none⟩), .string name] W fun e w' => e = .returned (.tuple #[.int .i64 0, .int .i64 1]) ∧ SS w w.heap.size sb lb ⟨act, name, other, text, la, ln, lc, a, b⟩ X w') := fun W h => ss_says h (none_length (none_of (.inr rfl) h) name)
        have HDO : Hid (∀ W, SS w w.heap.size sb lb ⟨act, name, other, text, la, ln, lc, a, b⟩ X W → Calls Try.prog 21 #[.pointer (some ⟨sb, 0, none⟩), deedV ⟨act, name, other, text, la, ln, lc, a, b⟩] W fun e w' => e = .returned (.int .i64 1) ∧ SS w w.heap.size sb lb ⟨act, name, other, text, la, ln, lc, a, b⟩ X w') := fun W h => ss_makes h (do_none (none_of (.inr rfl) h) ⟨act, name, other, text, la, ln, lc, a, b⟩ HD2.out X h.at_.lines ⟨a0, a8⟩)
        have HKI : Hid (∀ W, SS w w.heap.size sb lb ⟨act, name, other, text, la, ln, lc, a, b⟩ X W → Calls Try.prog 22 #[.pointer (some ⟨sb, 0, none⟩), .string name] W fun e w' => e = .returned (.int .i64 0) ∧ SS w w.heap.size sb lb ⟨act, name, other, text, la, ln, lc, a, b⟩ X w') := fun W h => ss_makes h (none_kind (none_of (.inr rfl) h) name HD2.out.name)
        have HNA : Hid (∀ W, SS w w.heap.size sb lb ⟨act, name, other, text, la, ln, lc, a, b⟩ X W → Calls Try.prog 26 #[.pointer (some ⟨sb, 0, none⟩)] W fun e w' => e = .returned (.slice none 0 0) ∧ SS w w.heap.size sb lb ⟨act, name, other, text, la, ln, lc, a, b⟩ X w') := fun W h => ss_makes h (none_names (none_of (.inr rfl) h))
        have HCO : Hid (∀ W, SS w w.heap.size sb lb ⟨act, name, other, text, la, ln, lc, a, b⟩ X W → Calls Try.prog 27 #[.pointer (some ⟨sb, 0, none⟩)] W fun e w' => e = .returned (.pointer none) ∧ SS w w.heap.size sb lb ⟨act, name, other, text, la, ln, lc, a, b⟩ X w') := fun W h => ss_says h (none_copy (none_of (.inr rfl) h))
        go_wp2_with fail
        refine wp_region_held_drew (S := SS w w.heap.size sb lb ⟨act, name, other, text, la, ln, lc, a, b⟩ X) (by kernel_rfl) hrl.out.drew (fun hH => ?_)
        clear hrl
        simp only [List.size_toArray, List.length_cons, List.length_nil, Nat.reduceAdd, Array.replicate_succ, Array.replicate_zero, List.push_toArray]
        refine take_at (i := 0) (v := .slice (some ⟨lb, 0, none⟩) 2 2) rfl rfl (by kernel_rfl) (by kernel_rfl) (by kernel_rfl) (fun _ _ _ h => h) (.inl ⟨by rfl, fun _ _ => by go_simp⟩) hH ?_
        simp only [List.setIfInBounds_toArray, List.set_cons_zero, List.set_cons_succ]
        refine take_at (i := 1) (v := .int .i64 1) rfl rfl (by kernel_rfl) (by kernel_rfl) (by kernel_rfl) (fun _ _ _ h => h) (.inl ⟨by rfl, fun _ _ => by go_simp⟩) hH ?_
        simp only [List.setIfInBounds_toArray, List.set_cons_zero, List.set_cons_succ]
        refine take_at (i := 2) (v := .pointer (some ⟨lb, 1, none⟩)) rfl rfl (by kernel_rfl) (by kernel_rfl) (by kernel_rfl) (fun _ _ _ h => h) (.inl ⟨by rfl, fun _ _ => by go_simp⟩) hH ?_
        simp only [List.setIfInBounds_toArray, List.set_cons_zero, List.set_cons_succ]
        refine take_at (i := 3) (v := .pointer (some ⟨sb, 0, none⟩)) rfl rfl (by kernel_rfl) (by kernel_rfl) (by kernel_rfl) (fun _ _ _ h => h) (.inl ⟨by rfl, fun _ hw => by have h := hw.at_.l1; go_simp⟩) hH ?_
        simp only [List.setIfInBounds_toArray, List.set_cons_zero, List.set_cons_succ]
        refine take_at (i := 4) (v := .pointer (some ⟨w.heap.size, 1, none⟩)) rfl rfl (by kernel_rfl) (by kernel_rfl) (by kernel_rfl) (fun _ _ _ h => h) (.inl ⟨by rfl, fun _ _ => by go_simp⟩) hH ?_
        simp only [List.setIfInBounds_toArray, List.set_cons_zero, List.set_cons_succ]
        refine take_at (i := 5) (v := .string name) rfl rfl (by kernel_rfl) (by kernel_rfl) (by kernel_rfl) (fun _ _ _ h => h) (.inl ⟨by rfl, fun _ hw => by have h := hw.at_.deed.c1; go_simp⟩) hH ?_
        simp only [List.setIfInBounds_toArray, List.set_cons_zero, List.set_cons_succ]
        refine call_at (i := 6) rfl (by kernel_rfl) (by rfl) (fun K hK => ?_)
        go_simp
        refine (HTE.out _ hH).mono ?_
        rintro e w4 ⟨rfl, hH4⟩
        clear hH
        go_wp2_with fail
        refine hK.out _ _ hH4 (fun hH => ?_)
        clear hK K hH4
        simp only [List.setIfInBounds_toArray]
        refine take_at (i := 7) (v := .tuple #[.string ⟨#[]⟩, .int .i64 1]) rfl rfl (by kernel_rfl) (by kernel_rfl) (by kernel_rfl) (fun _ _ _ h => h) (.inl ⟨by rfl, fun _ _ => by go_simp⟩) hH ?_
        simp only [List.setIfInBounds_toArray, List.set_cons_zero, List.set_cons_succ]
        refine take_at (i := 8) (v := .string ⟨#[]⟩) rfl rfl (by kernel_rfl) (by kernel_rfl) (by kernel_rfl) (fun _ _ _ h => h) (.inl ⟨by rfl, fun _ _ => by go_simp⟩) hH ?_
        simp only [List.setIfInBounds_toArray, List.set_cons_zero, List.set_cons_succ]
        refine take_at (i := 9) (v := .int .i64 1) rfl rfl (by kernel_rfl) (by kernel_rfl) (by kernel_rfl) (fun _ _ _ h => h) (.inl ⟨by rfl, fun _ _ => by go_simp⟩) hH ?_
        simp only [List.setIfInBounds_toArray, List.set_cons_zero, List.set_cons_succ]
        refine take_at (i := 10) (v := .string ⟨#[]⟩) rfl rfl (by kernel_rfl) (by kernel_rfl) (by kernel_rfl) (fun _ _ _ h => h) (.inl ⟨by rfl, fun _ _ => by go_simp⟩) hH ?_
        simp only [List.setIfInBounds_toArray, List.set_cons_zero, List.set_cons_succ]
        refine take_at (i := 11) (v := .int .i64 1) rfl rfl (by kernel_rfl) (by kernel_rfl) (by kernel_rfl) (fun _ _ _ h => h) (.inl ⟨by rfl, fun _ _ => by go_simp⟩) hH ?_
        simp only [List.setIfInBounds_toArray, List.set_cons_zero, List.set_cons_succ]
        refine wpAnyH_done (by kernel_rfl) ?_ _
        have hrl := Lib.hid hH
        clear hH
        go_wp2_with fail
        refine wp_region_held_drew (S := SS w w.heap.size sb lb ⟨act, name, other, text, la, ln, lc, a, b⟩ X) (by kernel_rfl) hrl.out.drew (fun hH => ?_)
        clear hrl
        simp only [List.size_toArray, List.length_cons, List.length_nil, Nat.reduceAdd, Array.replicate_succ, Array.replicate_zero, List.push_toArray]
        refine take_at (i := 0) (v := .slice (some ⟨lb, 0, none⟩) 2 2) rfl rfl (by kernel_rfl) (by kernel_rfl) (by kernel_rfl) (fun _ _ _ h => h) (.inl ⟨by rfl, fun _ _ => by go_simp⟩) hH ?_
        simp only [List.setIfInBounds_toArray, List.set_cons_zero, List.set_cons_succ]
        refine take_at (i := 1) (v := .int .i64 1) rfl rfl (by kernel_rfl) (by kernel_rfl) (by kernel_rfl) (fun _ _ _ h => h) (.inl ⟨by rfl, fun _ _ => by go_simp⟩) hH ?_
        simp only [List.setIfInBounds_toArray, List.set_cons_zero, List.set_cons_succ]
        refine take_at (i := 2) (v := .pointer (some ⟨lb, 1, none⟩)) rfl rfl (by kernel_rfl) (by kernel_rfl) (by kernel_rfl) (fun _ _ _ h => h) (.inl ⟨by rfl, fun _ _ => by go_simp⟩) hH ?_
        simp only [List.setIfInBounds_toArray, List.set_cons_zero, List.set_cons_succ]
        refine take_at (i := 3) (v := .pointer (some ⟨sb, 0, none⟩)) rfl rfl (by kernel_rfl) (by kernel_rfl) (by kernel_rfl) (fun _ _ _ h => h) (.inl ⟨by rfl, fun _ hw => by have h := hw.at_.l1; go_simp⟩) hH ?_
        simp only [List.setIfInBounds_toArray, List.set_cons_zero, List.set_cons_succ]
        refine take_at (i := 4) (v := .pointer (some ⟨w.heap.size, 1, none⟩)) rfl rfl (by kernel_rfl) (by kernel_rfl) (by kernel_rfl) (fun _ _ _ h => h) (.inl ⟨by rfl, fun _ _ => by go_simp⟩) hH ?_
        simp only [List.setIfInBounds_toArray, List.set_cons_zero, List.set_cons_succ]
        refine take_at (i := 5) (v := .string name) rfl rfl (by kernel_rfl) (by kernel_rfl) (by kernel_rfl) (fun _ _ _ h => h) (.inl ⟨by rfl, fun _ hw => by have h := hw.at_.deed.c1; go_simp⟩) hH ?_
        simp only [List.setIfInBounds_toArray, List.set_cons_zero, List.set_cons_succ]
        refine call_at (i := 6) rfl (by kernel_rfl) (by rfl) (fun K hK => ?_)
        go_simp
        refine (HLI.out _ hH).mono ?_
        rintro e w4 ⟨rfl, hH4⟩
        clear hH
        go_wp2_with fail
        refine hK.out _ _ hH4 (fun hH => ?_)
        clear hK K hH4
        simp only [List.setIfInBounds_toArray]
        refine take_at (i := 7) (v := .tuple #[.slice none 0 0, .int .i64 1]) rfl rfl (by kernel_rfl) (by kernel_rfl) (by kernel_rfl) (fun _ _ _ h => h) (.inl ⟨by rfl, fun _ _ => by go_simp⟩) hH ?_
        simp only [List.setIfInBounds_toArray, List.set_cons_zero, List.set_cons_succ]
        refine take_at (i := 8) (v := .slice none 0 0) rfl rfl (by kernel_rfl) (by kernel_rfl) (by kernel_rfl) (fun _ _ _ h => h) (.inl ⟨by rfl, fun _ _ => by go_simp⟩) hH ?_
        simp only [List.setIfInBounds_toArray, List.set_cons_zero, List.set_cons_succ]
        refine take_at (i := 9) (v := .int .i64 1) rfl rfl (by kernel_rfl) (by kernel_rfl) (by kernel_rfl) (fun _ _ _ h => h) (.inl ⟨by rfl, fun _ _ => by go_simp⟩) hH ?_
        simp only [List.setIfInBounds_toArray, List.set_cons_zero, List.set_cons_succ]
        refine take_at (i := 10) (v := .slice none 0 0) rfl rfl (by kernel_rfl) (by kernel_rfl) (by kernel_rfl) (fun _ _ _ h => h) (.inl ⟨by rfl, fun _ _ => by go_simp⟩) hH ?_
        simp only [List.setIfInBounds_toArray, List.set_cons_zero, List.set_cons_succ]
        refine take_at (i := 11) (v := .int .i64 1) rfl rfl (by kernel_rfl) (by kernel_rfl) (by kernel_rfl) (fun _ _ _ h => h) (.inl ⟨by rfl, fun _ _ => by go_simp⟩) hH ?_
        simp only [List.setIfInBounds_toArray, List.set_cons_zero, List.set_cons_succ]
        refine wpAnyH_done (by kernel_rfl) ?_ _
        have hrl := Lib.hid hH
        clear hH
        go_wp2_with fail
        refine wp_region_held_drew (S := SS w w.heap.size sb lb ⟨act, name, other, text, la, ln, lc, a, b⟩ X) (by kernel_rfl) hrl.out.drew (fun hH => ?_)
        clear hrl
        simp only [List.size_toArray, List.length_cons, List.length_nil, Nat.reduceAdd, Array.replicate_succ, Array.replicate_zero, List.push_toArray]
        refine take_at (i := 0) (v := .slice (some ⟨lb, 0, none⟩) 2 2) rfl rfl (by kernel_rfl) (by kernel_rfl) (by kernel_rfl) (fun _ _ _ h => h) (.inl ⟨by rfl, fun _ _ => by go_simp⟩) hH ?_
        simp only [List.setIfInBounds_toArray, List.set_cons_zero, List.set_cons_succ]
        refine take_at (i := 1) (v := .int .i64 1) rfl rfl (by kernel_rfl) (by kernel_rfl) (by kernel_rfl) (fun _ _ _ h => h) (.inl ⟨by rfl, fun _ _ => by go_simp⟩) hH ?_
        simp only [List.setIfInBounds_toArray, List.set_cons_zero, List.set_cons_succ]
        refine take_at (i := 2) (v := .pointer (some ⟨lb, 1, none⟩)) rfl rfl (by kernel_rfl) (by kernel_rfl) (by kernel_rfl) (fun _ _ _ h => h) (.inl ⟨by rfl, fun _ _ => by go_simp⟩) hH ?_
        simp only [List.setIfInBounds_toArray, List.set_cons_zero, List.set_cons_succ]
        refine take_at (i := 3) (v := .pointer (some ⟨sb, 0, none⟩)) rfl rfl (by kernel_rfl) (by kernel_rfl) (by kernel_rfl) (fun _ _ _ h => h) (.inl ⟨by rfl, fun _ hw => by have h := hw.at_.l1; go_simp⟩) hH ?_
        simp only [List.setIfInBounds_toArray, List.set_cons_zero, List.set_cons_succ]
        refine take_at (i := 4) (v := .pointer (some ⟨w.heap.size, 1, none⟩)) rfl rfl (by kernel_rfl) (by kernel_rfl) (by kernel_rfl) (fun _ _ _ h => h) (.inl ⟨by rfl, fun _ _ => by go_simp⟩) hH ?_
        simp only [List.setIfInBounds_toArray, List.set_cons_zero, List.set_cons_succ]
        refine take_at (i := 5) (v := .string name) rfl rfl (by kernel_rfl) (by kernel_rfl) (by kernel_rfl) (fun _ _ _ h => h) (.inl ⟨by rfl, fun _ hw => by have h := hw.at_.deed.c1; go_simp⟩) hH ?_
        simp only [List.setIfInBounds_toArray, List.set_cons_zero, List.set_cons_succ]
        refine call_at (i := 6) rfl (by kernel_rfl) (by rfl) (fun K hK => ?_)
        go_simp
        refine (HLE.out _ hH).mono ?_
        rintro e w4 ⟨rfl, hH4⟩
        clear hH
        go_wp2_with fail
        refine hK.out _ _ hH4 (fun hH => ?_)
        clear hK K hH4
        simp only [List.setIfInBounds_toArray]
        refine take_at (i := 7) (v := .tuple #[.int .i64 0, .int .i64 1]) rfl rfl (by kernel_rfl) (by kernel_rfl) (by kernel_rfl) (fun _ _ _ h => h) (.inl ⟨by rfl, fun _ _ => by go_simp⟩) hH ?_
        simp only [List.setIfInBounds_toArray, List.set_cons_zero, List.set_cons_succ]
        refine take_at (i := 8) (v := .int .i64 0) rfl rfl (by kernel_rfl) (by kernel_rfl) (by kernel_rfl) (fun _ _ _ h => h) (.inl ⟨by rfl, fun _ _ => by go_simp⟩) hH ?_
        simp only [List.setIfInBounds_toArray, List.set_cons_zero, List.set_cons_succ]
        refine take_at (i := 9) (v := .int .i64 1) rfl rfl (by kernel_rfl) (by kernel_rfl) (by kernel_rfl) (fun _ _ _ h => h) (.inl ⟨by rfl, fun _ _ => by go_simp⟩) hH ?_
        simp only [List.setIfInBounds_toArray, List.set_cons_zero, List.set_cons_succ]
        refine take_at (i := 10) (v := .int .i64 0) rfl rfl (by kernel_rfl) (by kernel_rfl) (by kernel_rfl) (fun _ _ _ h => h) (.inl ⟨by rfl, fun _ _ => by go_simp⟩) hH ?_
        simp only [List.setIfInBounds_toArray, List.set_cons_zero, List.set_cons_succ]
        refine take_at (i := 11) (v := .int .i64 1) rfl rfl (by kernel_rfl) (by kernel_rfl) (by kernel_rfl) (fun _ _ _ h => h) (.inl ⟨by rfl, fun _ _ => by go_simp⟩) hH ?_
        simp only [List.setIfInBounds_toArray, List.set_cons_zero, List.set_cons_succ]
        refine wpAnyH_done (by kernel_rfl) ?_ _
        have hrl := Lib.hid hH
        clear hH
        go_wp2_with fail
        refine wp_region_held_drew (S := SS w w.heap.size sb lb ⟨act, name, other, text, la, ln, lc, a, b⟩ X) (by kernel_rfl) hrl.out.drew (fun hH => ?_)
        clear hrl
        simp only [List.size_toArray, List.length_cons, List.length_nil, Nat.reduceAdd, Array.replicate_succ, Array.replicate_zero, List.push_toArray]
        refine take_at (i := 0) (v := .slice (some ⟨lb, 0, none⟩) 2 2) rfl rfl (by kernel_rfl) (by kernel_rfl) (by kernel_rfl) (fun _ _ _ h => h) (.inl ⟨by rfl, fun _ _ => by go_simp⟩) hH ?_
        simp only [List.setIfInBounds_toArray, List.set_cons_zero, List.set_cons_succ]
        refine take_at (i := 1) (v := .int .i64 1) rfl rfl (by kernel_rfl) (by kernel_rfl) (by kernel_rfl) (fun _ _ _ h => h) (.inl ⟨by rfl, fun _ _ => by go_simp⟩) hH ?_
        simp only [List.setIfInBounds_toArray, List.set_cons_zero, List.set_cons_succ]
        refine take_at (i := 2) (v := .pointer (some ⟨lb, 1, none⟩)) rfl rfl (by kernel_rfl) (by kernel_rfl) (by kernel_rfl) (fun _ _ _ h => h) (.inl ⟨by rfl, fun _ _ => by go_simp⟩) hH ?_
        simp only [List.setIfInBounds_toArray, List.set_cons_zero, List.set_cons_succ]
        refine take_at (i := 3) (v := .pointer (some ⟨sb, 0, none⟩)) rfl rfl (by kernel_rfl) (by kernel_rfl) (by kernel_rfl) (fun _ _ _ h => h) (.inl ⟨by rfl, fun _ hw => by have h := hw.at_.l1; go_simp⟩) hH ?_
        simp only [List.setIfInBounds_toArray, List.set_cons_zero, List.set_cons_succ]
        refine take_at (i := 4) (v := deedV ⟨act, name, other, text, la, ln, lc, a, b⟩) rfl rfl (by kernel_rfl) (by kernel_rfl) (by kernel_rfl) (fun _ _ _ h => h) (.inl ⟨by rfl, fun _ hw => by obtain ⟨c0, c1, c2, c3, c4, c5, c6⟩ := hw.at_.deed; go_simp⟩) hH ?_
        simp only [List.setIfInBounds_toArray, List.set_cons_zero, List.set_cons_succ]
        refine call_at (i := 5) rfl (by kernel_rfl) (by rfl) (fun K hK => ?_)
        go_simp
        refine (HDO.out _ hH).mono ?_
        rintro e w4 ⟨rfl, hH4⟩
        clear hH
        go_wp2_with fail
        refine hK.out _ _ hH4 (fun hH => ?_)
        clear hK K hH4
        simp only [List.setIfInBounds_toArray]
        refine take_at (i := 6) (v := .bool false) rfl rfl (by kernel_rfl) (by kernel_rfl) (by kernel_rfl) (fun _ _ _ h => h) (.inl ⟨by rfl, fun _ _ => by go_simp⟩) hH ?_
        simp only [List.setIfInBounds_toArray, List.set_cons_zero, List.set_cons_succ]
        refine take_at (i := 7) (v := .bool false) rfl rfl (by kernel_rfl) (by kernel_rfl) (by kernel_rfl) (fun _ _ _ h => h) (.inl ⟨by rfl, fun _ _ => by go_simp⟩) hH ?_
        simp only [List.setIfInBounds_toArray, List.set_cons_zero, List.set_cons_succ]
        refine take_at (i := 8) (v := .int .i64 1) rfl rfl (by kernel_rfl) (by kernel_rfl) (by kernel_rfl) (fun _ _ _ h => h) (.inl ⟨by rfl, fun _ _ => by go_simp⟩) hH ?_
        simp only [List.setIfInBounds_toArray, List.set_cons_zero, List.set_cons_succ]
        refine take_at (i := 9) (v := .bool false) rfl rfl (by kernel_rfl) (by kernel_rfl) (by kernel_rfl) (fun _ _ _ h => h) (.inl ⟨by rfl, fun _ _ => by go_simp⟩) hH ?_
        simp only [List.setIfInBounds_toArray, List.set_cons_zero, List.set_cons_succ]
        refine take_at (i := 10) (v := .bool false) rfl rfl (by kernel_rfl) (by kernel_rfl) (by kernel_rfl) (fun _ _ _ h => h) (.inl ⟨by rfl, fun _ _ => by go_simp⟩) hH ?_
        simp only [List.setIfInBounds_toArray, List.set_cons_zero, List.set_cons_succ]
        refine take_at (i := 11) (v := .bool false) rfl rfl (by kernel_rfl) (by kernel_rfl) (by kernel_rfl) (fun _ _ _ h => h) (.inl ⟨by rfl, fun _ _ => by go_simp⟩) hH ?_
        simp only [List.setIfInBounds_toArray, List.set_cons_zero, List.set_cons_succ]
        refine take_at (i := 12) (v := .int .i64 1) rfl rfl (by kernel_rfl) (by kernel_rfl) (by kernel_rfl) (fun _ _ _ h => h) (.inl ⟨by rfl, fun _ _ => by go_simp⟩) hH ?_
        simp only [List.setIfInBounds_toArray, List.set_cons_zero, List.set_cons_succ]
        refine take_at (i := 13) (v := .bool false) rfl rfl (by kernel_rfl) (by kernel_rfl) (by kernel_rfl) (fun _ _ _ h => h) (.inl ⟨by rfl, fun _ _ => by go_simp⟩) hH ?_
        simp only [List.setIfInBounds_toArray, List.set_cons_zero, List.set_cons_succ]
        refine take_at (i := 14) (v := .bool false) rfl rfl (by kernel_rfl) (by kernel_rfl) (by kernel_rfl) (fun _ _ _ h => h) (.inl ⟨by rfl, fun _ _ => by go_simp⟩) hH ?_
        simp only [List.setIfInBounds_toArray, List.set_cons_zero, List.set_cons_succ]
        refine take_at (i := 15) (v := .bool false) rfl rfl (by kernel_rfl) (by kernel_rfl) (by kernel_rfl) (fun _ _ _ h => h) (.inl ⟨by rfl, fun _ _ => by go_simp⟩) hH ?_
        simp only [List.setIfInBounds_toArray, List.set_cons_zero, List.set_cons_succ]
        refine take_at (i := 16) (v := .int .i64 1) rfl rfl (by kernel_rfl) (by kernel_rfl) (by kernel_rfl) (fun _ _ _ h => h) (.inl ⟨by rfl, fun _ _ => by go_simp⟩) hH ?_
        simp only [List.setIfInBounds_toArray, List.set_cons_zero, List.set_cons_succ]
        refine take_at (i := 17) (v := .bool false) rfl rfl (by kernel_rfl) (by kernel_rfl) (by kernel_rfl) (fun _ _ _ h => h) (.inl ⟨by rfl, fun _ _ => by go_simp⟩) hH ?_
        simp only [List.setIfInBounds_toArray, List.set_cons_zero, List.set_cons_succ]
        refine take_at (i := 18) (v := .bool false) rfl rfl (by kernel_rfl) (by kernel_rfl) (by kernel_rfl) (fun _ _ _ h => h) (.inl ⟨by rfl, fun _ _ => by go_simp⟩) hH ?_
        simp only [List.setIfInBounds_toArray, List.set_cons_zero, List.set_cons_succ]
        refine take_at (i := 19) (v := .bool false) rfl rfl (by kernel_rfl) (by kernel_rfl) (by kernel_rfl) (fun _ _ _ h => h) (.inl ⟨by rfl, fun _ _ => by go_simp⟩) hH ?_
        simp only [List.setIfInBounds_toArray, List.set_cons_zero, List.set_cons_succ]
        refine take_at (i := 20) (v := .slice (some ⟨lb, 0, none⟩) 2 2) rfl rfl (by kernel_rfl) (by kernel_rfl) (by kernel_rfl) (fun _ _ _ h => h) (.inl ⟨by rfl, fun _ _ => by go_simp⟩) hH ?_
        simp only [List.setIfInBounds_toArray, List.set_cons_zero, List.set_cons_succ]
        refine take_at (i := 21) (v := .int .i64 1) rfl rfl (by kernel_rfl) (by kernel_rfl) (by kernel_rfl) (fun _ _ _ h => h) (.inl ⟨by rfl, fun _ _ => by go_simp⟩) hH ?_
        simp only [List.setIfInBounds_toArray, List.set_cons_zero, List.set_cons_succ]
        refine take_at (i := 22) (v := .pointer (some ⟨lb, 1, none⟩)) rfl rfl (by kernel_rfl) (by kernel_rfl) (by kernel_rfl) (fun _ _ _ h => h) (.inl ⟨by rfl, fun _ _ => by go_simp⟩) hH ?_
        simp only [List.setIfInBounds_toArray, List.set_cons_zero, List.set_cons_succ]
        refine take_at (i := 23) (v := .pointer (some ⟨sb, 0, none⟩)) rfl rfl (by kernel_rfl) (by kernel_rfl) (by kernel_rfl) (fun _ _ _ h => h) (.inl ⟨by rfl, fun _ hw => by have h := hw.at_.l1; go_simp⟩) hH ?_
        simp only [List.setIfInBounds_toArray, List.set_cons_zero, List.set_cons_succ]
        refine take_at (i := 24) (v := .pointer (some ⟨w.heap.size, 1, none⟩)) rfl rfl (by kernel_rfl) (by kernel_rfl) (by kernel_rfl) (fun _ _ _ h => h) (.inl ⟨by rfl, fun _ _ => by go_simp⟩) hH ?_
        simp only [List.setIfInBounds_toArray, List.set_cons_zero, List.set_cons_succ]
        refine take_at (i := 25) (v := .string name) rfl rfl (by kernel_rfl) (by kernel_rfl) (by kernel_rfl) (fun _ _ _ h => h) (.inl ⟨by rfl, fun _ hw => by have h := hw.at_.deed.c1; go_simp⟩) hH ?_
        simp only [List.setIfInBounds_toArray, List.set_cons_zero, List.set_cons_succ]
        refine call_at (i := 26) rfl (by kernel_rfl) (by rfl) (fun K hK => ?_)
        go_simp
        refine (HKI.out _ hH).mono ?_
        rintro e w4 ⟨rfl, hH4⟩
        clear hH
        go_wp2_with fail
        refine hK.out _ _ hH4 (fun hH => ?_)
        clear hK K hH4
        simp only [List.setIfInBounds_toArray]
        refine take_at (i := 27) (v := .bool false) rfl rfl (by kernel_rfl) (by kernel_rfl) (by kernel_rfl) (fun _ _ _ h => h) (.inl ⟨by rfl, fun _ _ => by go_simp⟩) hH ?_
        simp only [List.setIfInBounds_toArray, List.set_cons_zero, List.set_cons_succ]
        refine take_at (i := 28) (v := .bool false) rfl rfl (by kernel_rfl) (by kernel_rfl) (by kernel_rfl) (fun _ _ _ h => h) (.inl ⟨by rfl, fun _ _ => by go_simp⟩) hH ?_
        simp only [List.setIfInBounds_toArray, List.set_cons_zero, List.set_cons_succ]
        refine take_at (i := 29) (v := .bool false) rfl rfl (by kernel_rfl) (by kernel_rfl) (by kernel_rfl) (fun _ _ _ h => h) (.inl ⟨by rfl, fun _ _ => by go_simp⟩) hH ?_
        simp only [List.setIfInBounds_toArray, List.set_cons_zero, List.set_cons_succ]
        refine take_at (i := 30) (v := .slice (some ⟨lb, 0, none⟩) 2 2) rfl rfl (by kernel_rfl) (by kernel_rfl) (by kernel_rfl) (fun _ _ _ h => h) (.inl ⟨by rfl, fun _ _ => by go_simp⟩) hH ?_
        simp only [List.setIfInBounds_toArray, List.set_cons_zero, List.set_cons_succ]
        refine take_at (i := 31) (v := .int .i64 1) rfl rfl (by kernel_rfl) (by kernel_rfl) (by kernel_rfl) (fun _ _ _ h => h) (.inl ⟨by rfl, fun _ _ => by go_simp⟩) hH ?_
        simp only [List.setIfInBounds_toArray, List.set_cons_zero, List.set_cons_succ]
        refine take_at (i := 32) (v := .pointer (some ⟨lb, 1, none⟩)) rfl rfl (by kernel_rfl) (by kernel_rfl) (by kernel_rfl) (fun _ _ _ h => h) (.inl ⟨by rfl, fun _ _ => by go_simp⟩) hH ?_
        simp only [List.setIfInBounds_toArray, List.set_cons_zero, List.set_cons_succ]
        refine take_at (i := 33) (v := .pointer (some ⟨sb, 0, none⟩)) rfl rfl (by kernel_rfl) (by kernel_rfl) (by kernel_rfl) (fun _ _ _ h => h) (.inl ⟨by rfl, fun _ hw => by have h := hw.at_.l1; go_simp⟩) hH ?_
        simp only [List.setIfInBounds_toArray, List.set_cons_zero, List.set_cons_succ]
        refine call_at (i := 34) rfl (by kernel_rfl) (by rfl) (fun K hK => ?_)
        go_simp
        refine (HNA.out _ hH).mono ?_
        rintro e w4 ⟨rfl, hH4⟩
        clear hH
        go_wp2_with fail
        refine hK.out _ _ hH4 (fun hH => ?_)
        clear hK K hH4
        simp only [List.setIfInBounds_toArray]
        refine take_at (i := 35) (v := .int .i64 0) rfl rfl (by kernel_rfl) (by kernel_rfl) (by kernel_rfl) (fun _ _ _ h => h) (.inl ⟨by rfl, fun _ _ => by go_simp⟩) hH ?_
        simp only [List.setIfInBounds_toArray, List.set_cons_zero, List.set_cons_succ]
        refine take_at (i := 36) (v := .bool false) rfl rfl (by kernel_rfl) (by kernel_rfl) (by kernel_rfl) (fun _ _ _ h => h) (.inl ⟨by rfl, fun _ _ => by go_simp⟩) hH ?_
        simp only [List.setIfInBounds_toArray, List.set_cons_zero, List.set_cons_succ]
        refine take_at (i := 37) (v := .bool false) rfl rfl (by kernel_rfl) (by kernel_rfl) (by kernel_rfl) (fun _ _ _ h => h) (.inl ⟨by rfl, fun _ _ => by go_simp⟩) hH ?_
        simp only [List.setIfInBounds_toArray, List.set_cons_zero, List.set_cons_succ]
        refine take_at (i := 38) (v := .bool false) rfl rfl (by kernel_rfl) (by kernel_rfl) (by kernel_rfl) (fun _ _ _ h => h) (.inl ⟨by rfl, fun _ _ => by go_simp⟩) hH ?_
        simp only [List.setIfInBounds_toArray, List.set_cons_zero, List.set_cons_succ]
        refine take_at (i := 39) (v := .slice (some ⟨lb, 0, none⟩) 2 2) rfl rfl (by kernel_rfl) (by kernel_rfl) (by kernel_rfl) (fun _ _ _ h => h) (.inl ⟨by rfl, fun _ _ => by go_simp⟩) hH ?_
        simp only [List.setIfInBounds_toArray, List.set_cons_zero, List.set_cons_succ]
        refine take_at (i := 40) (v := .int .i64 1) rfl rfl (by kernel_rfl) (by kernel_rfl) (by kernel_rfl) (fun _ _ _ h => h) (.inl ⟨by rfl, fun _ _ => by go_simp⟩) hH ?_
        simp only [List.setIfInBounds_toArray, List.set_cons_zero, List.set_cons_succ]
        refine take_at (i := 41) (v := .pointer (some ⟨lb, 1, none⟩)) rfl rfl (by kernel_rfl) (by kernel_rfl) (by kernel_rfl) (fun _ _ _ h => h) (.inl ⟨by rfl, fun _ _ => by go_simp⟩) hH ?_
        simp only [List.setIfInBounds_toArray, List.set_cons_zero, List.set_cons_succ]
        refine take_at (i := 42) (v := .pointer (some ⟨sb, 0, none⟩)) rfl rfl (by kernel_rfl) (by kernel_rfl) (by kernel_rfl) (fun _ _ _ h => h) (.inl ⟨by rfl, fun _ hw => by have h := hw.at_.l1; go_simp⟩) hH ?_
        simp only [List.setIfInBounds_toArray, List.set_cons_zero, List.set_cons_succ]
        refine call_at (i := 43) rfl (by kernel_rfl) (by rfl) (fun K hK => ?_)
        go_simp
        refine (HCO.out _ hH).mono ?_
        rintro e w4 ⟨rfl, hH4⟩
        clear hH
        go_wp2_with fail
        refine hK.out _ _ hH4 (fun hH => ?_)
        clear hK K hH4
        simp only [List.setIfInBounds_toArray]
        refine take_at (i := 44) (v := .bool false) rfl rfl (by kernel_rfl) (by kernel_rfl) (by kernel_rfl) (fun _ _ _ h => h) (.inl ⟨by rfl, fun _ _ => by go_simp⟩) hH ?_
        simp only [List.setIfInBounds_toArray, List.set_cons_zero, List.set_cons_succ]
        refine take_at (i := 45) (v := .bool false) rfl rfl (by kernel_rfl) (by kernel_rfl) (by kernel_rfl) (fun _ _ _ h => h) (.inl ⟨by rfl, fun _ _ => by go_simp⟩) hH ?_
        simp only [List.setIfInBounds_toArray, List.set_cons_zero, List.set_cons_succ]
        refine wpAnyH_done (by kernel_rfl) ?_ _
        have hrl := Lib.hid hH
        clear hH
        go_wp2_with fail
        go_roundw
        case rel => exact ⟨2, rfl, by omega, hrl⟩
        case measure => simp [intOf]
      · go_wp2_with fail
        refine (sane_any _).mono ?_
        rintro e w5 ⟨rfl, hb5⟩
        go_wp2_with fail
        go_ret
        exact ⟨rfl, hrl.out.kept.trans (hb5.mono hrl.out.kept.size)⟩
end Go.Proofs.Ytghpcfodjacdpaa
