/- The document's book: Names. -/
import Derived.Test.YtopgbbkndkincaaGreatDoorRdPut
namespace Go.Proofs.YtopgbbkndkincaaGreatDoor
open Go.RowKit Go.PlainAid

theorem str_info : (Tryz.prog.info? 9).map (fun i => (i.zero, i.size, i.bytes)) = some (some (.string ⟨#[]⟩), 1, 16) := by kernel_rfl
def namesOf (l : List Row) : List Value := l.map fun r => .string r.name
/-- A row of texts of its own that holds the names. -/
def NamesP (l : List Row) (w : World) (e : Ending) (w' : World) : Prop := ∃ v, e = .returned v ∧ w'.ownsRow w.heap.size 9 1 v l.length (namesOf l) ∧ Below w.heap.size w w'
theorem one_new (w : World) (s : ByteArray) : ∀ j u, [Value.string s][j]? = some u → (w.alloc (.cells #[.string s] 9)).cell? ((⟨w.heap.size, 0, none⟩ : Addr).add j) = some u := by
  intro j u hu
  have hj : j = 0 := by
    have := (List.getElem?_eq_some_iff.1 hu).1
    simpa using this
  subst hj
  rw [Go.WideShapes.add_plain]
  unfold World.cell?
  rw [heap_alloc_new]
  simpa using hu
theorem below_of_own1 {A : Nat} {w1 w2 w3 : World} {v : Value} {o : Obj} (h : Below A w1 w2) (hl : ∀ k, v.ownBlock = some k → A ≤ k) (hA : A ≤ w2.heap.size) (hg : (w2.alloc o).grownBy w3 v.ownBlock) : Below A w1 w3 :=
  h.trans ⟨hg.os, hg.tape, hg.output, Nat.le_trans (by simp) hg.size, fun k hk => by
    rw [hg.block k (by simp; omega) (fun e => by have := hl k e.symm; omega)]
    exact ((Below.refl _ _).alloc (Nat.le_refl _) _).block k (by omega)⟩
section
variable {B b : Nat} {v : Value} {l : List Row} {w w' : World}
theorem names_snoc {l : List Row} {k : Nat} {r : Row} (h : l[k]? = some r) : namesOf (l.take k) ++ [.string r.name] = namesOf (l.take (k + 1)) := by
  have hk := (List.getElem?_eq_some_iff.1 h).1
  rw [List.take_succ_eq_append_getElem hk]
  simp only [namesOf, List.map_append, List.map_cons, List.map_nil]
  rw [(List.getElem?_eq_some_iff.1 h).2]
set_option maxRecDepth 100000 in
set_option maxHeartbeats 2000000 in
theorem rnames_nil (h : RefAt B b (.slice none 0 0) [] w) : Calls Tryz.prog 26 #[.pointer (some ⟨b, 0, none⟩)] w (NamesP [] w) := by
  have hc := h.cell
  have HO : Hid (w.ownsRow w.heap.size 9 1 (.slice none 0 0) 0 []) := World.ownsRow_nil _ _ _ _
  clear h
  go_enter Tryz.func26, Tryz.ntmps26
  go_wp2_with fail
  go_loop [3, 4] (fun u i => u = .slice none 0 0 ∧ i = .int .i64 0) (fun _ _ => 0)
  case atStart => exact ⟨rfl, rfl⟩
  case round =>
    obtain ⟨rfl, rfl⟩ := hrel
    go_wp2_with fail
    go_ret
    exact ⟨_, rfl, HO.out, Below.refl _ _⟩
set_option maxRecDepth 100000 in
set_option maxHeartbeats 2000000 in
theorem rnames_row {g cap : Nat} (h : RefAt B b (.slice (some ⟨g, 0, none⟩) l.length cap) l w) : Calls Tryz.prog 26 #[.pointer (some ⟨b, 0, none⟩)] w (NamesP l w) := by
  have hfew := h.few
  have HH := Lib.hid h
  obtain ⟨i0, hi, hz0, hz1, hz2⟩ := info_parts str_info
  have HI := Lib.hid (And.intro hi (And.intro hz0 (And.intro hz1 hz2)))
  clear h hi hz0 hz1 hz2
  go_enter Tryz.func26, Tryz.ntmps26
  go_wp2_with fail
  go_loopw [3, 4] (fun u i wr => ∃ k : Nat, k ≤ l.length ∧ i = .int .i64 k ∧ Hid (wr.ownsRow w.heap.size 9 1 u k (namesOf (l.take k))) ∧ Hid (Below w.heap.size w wr)) (fun _ i _ => l.length - (intOf i).toNat)
  case atStart => exact ⟨0, by omega, rfl, World.ownsRow_nil _ _ _ _, Below.refl _ _⟩
  case round =>
    obtain ⟨k, hk, rfl, ho, hb⟩ := hrel
    have h2 := HH.out.below hb.out
    have hc := h2.cell
    by_cases hlt : k < l.length
    · obtain ⟨r, hr⟩ : ∃ r, l[k]? = some r := ⟨_, List.getElem?_eq_getElem hlt⟩
      obtain ⟨c0, _⟩ := h2.cells hr
      have HN := Lib.hid (names_snoc hr)
      have hkz : (k : Int) < l.length := by omega
      have hk0 : (0 : Int) ≤ k := by omega
      clear h2 hr
      go_wp2_with (at_builtin; refine wpList_append_own _ rfl (.tmp 14) (.tmp 23) 52 rfl w.heap.size 9 i0 (.string ⟨#[]⟩) 1 16 Tryz.underlying52 HI.out.1 HI.out.2.1 HI.out.2.2.1 HI.out.2.2.2 rfl (by decide) _ _ _ rfl (ho.out.alloc _) ⟨_, 0, none⟩ 1 1 [.string r.name] rfl rfl (one_new _ _) (by simp [Value.oneCell']) (by unfold maxLen; omega) (by omega) (by have := hb.out.size; simp; omega) ?_; intro u2 w2 own2 hg2 _; have O2 := Lib.hid own2; have B2 := Lib.hid (below_of_own1 hb.out (fun k e => (ho.out.lt k e).1) hb.out.size hg2); clear own2 hg2 c0 hc)
      go_roundw
      case rel => exact ⟨k + 1, by omega, by go_num, by rw [← HN.out]; exact O2.out, B2⟩
      case measure => simp only [intOf]; omega
    · obtain rfl : k = l.length := by omega
      clear h2
      go_wp2_with fail
      go_ret
      exact ⟨_, rfl, by have := ho.out; rwa [List.take_length] at this, hb.out⟩
theorem rnames_any (h : RefAt B b v l w) : Calls Tryz.prog 26 #[.pointer (some ⟨b, 0, none⟩)] w (NamesP l w) := by
  rcases h.ways with ⟨rfl, rfl⟩ | ⟨g, cap, rfl, _⟩
  · exact rnames_nil h
  · exact rnames_row h
end
end Go.Proofs.YtopgbbkndkincaaGreatDoor
