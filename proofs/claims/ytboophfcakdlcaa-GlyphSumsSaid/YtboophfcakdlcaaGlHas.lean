/- Has a font a glyph. -/
import Derived.Test.YtboophfcakdlcaaFtValid
import Derived.Test.YtboophfcakdlcaaGlLay
import Derived.Deep.DeepCutAuto
namespace Go.Proofs.Ytboophfcakdlcaa
open Go.RowKit Go.PlainAid Go.Shelf

theorem enters_h1 (args : Array Value) (w : World) : (callFunc 114 args).run Try.prog w = .ok (.enter 114 args) w := by kernel_rfl
theorem make_func (fn : Fn) (first cap : Array Value) (w : World) : (Instr.makeFunc fn first cap).run Try.prog w = .ok (.func fn first cap) w := rfl
theorem has1_any (p : Nat) (nm : List UInt8) (g : Gl) (W : World) (hl : p < W.heap.size) (hp : W.cell? ⟨p, 0, none⟩ = some (.string (mk8 nm))) : Calls Try.prog 114 #[.agg #[.string (mk8 g.nm), .int .i64 g.wd], .pointer (some ⟨p, 0, none⟩)] W (Makes (.bool (g.nm == nm)) W) := by
  have e1 : ((mk8 g.nm).toList == (mk8 nm).toList) = (g.nm == nm) := by rw [mk8_list, mk8_list]
  obtain ⟨b, hb⟩ : ∃ b, (g.nm == nm) = b := ⟨_, rfl⟩
  obtain ⟨s, hs⟩ : ∃ s, mk8 g.nm = s := ⟨_, rfl⟩
  obtain ⟨t, ht⟩ : ∃ t, mk8 nm = t := ⟨_, rfl⟩
  obtain ⟨m, hm⟩ : ∃ m, g.wd = m := ⟨_, rfl⟩
  rw [hs, ht, hb] at e1
  rw [ht] at hp
  rw [hs, hm, hb]
  clear hb hs ht hm
  have hc := (((Below.refl W.heap.size W).alloc (Nat.le_refl _) (.cells #[.string s, .int .i64 m] 44)).cell (p := ⟨p, 0, none⟩) hl).trans hp
  go_enter Try.func114, Try.ntmps114
  go_wp2_with fail
  go_ret
  exact ⟨rfl, (Below.refl _ _).alloc (Nat.le_refl _) _⟩
theorem idx0_any (ao : Option Addr) (c : Nat) (fv : Value) (w : World) : Calls Try.prog 121 #[.slice ao 0 c, fv] w (Says (.int .i64 (-1)) w) := by
  go_enter Try.func121, Try.ntmps121
  go_wp2_with fail
  go_loop [8] (fun i => i = .int .i64 0) (fun _ => 0)
  case atStart => rfl
  case round =>
    subst hrel
    go_wp2_with fail
    go_ret
    exact ⟨rfl, rfl⟩
theorem cont0_any (ao : Option Addr) (c : Nat) (fv : Value) (w : World) : Calls Try.prog 113 #[.slice ao 0 c, fv] w (Says (.bool false) w) := by
  have HI := Lib.hid (idx0_any ao c fv w)
  go_enter Try.func113, Try.ntmps113
  go_wp2_with fail
  refine HI.out.mono ?_
  rintro e w1 ⟨rfl, rfl⟩
  go_wp2_with fail
  go_ret
  exact ⟨rfl, rfl⟩
theorem cont_any (p : Nat) (nm : List UInt8) (ao : Option Addr) (gs : List Gl) (c : Nat) (w : World) (h : RowK encG 2 ao gs w) (hl : p < w.heap.size) (hp : w.cell? ⟨p, 0, none⟩ = some (.string (mk8 nm))) (hn : gs.length ≤ 1000000000000000000) :
    Calls Try.prog 113 #[.slice ao gs.length c, .func (.func 114) #[] #[.pointer (some ⟨p, 0, none⟩)]] w (Makes (.bool (hasB gs nm)) w) := by
  obtain ⟨b, off, h1, h2⟩ := h
  by_cases h0 : 0 < gs.length
  · obtain ⟨rfl, hb⟩ := h1 h0
    have h := AnyQ.slices_ContainsFunc Try.hasGL 2 Try.isAgg44 Try.sizeOf44 encG encG_len (fun g => g.nm == nm) 114 #[.pointer (some ⟨p, 0, none⟩)] enters_h1 b off gs.length c gs w
      (fun W x hb' => (has1_any p nm x W (Nat.lt_of_lt_of_le hl hb'.size) ((hb'.cell (p := ⟨p, 0, none⟩) hl).trans hp)).mono fun e w' ⟨h1, h2⟩ => ⟨h1, hb'.trans (h2.mono hb'.size)⟩) (Nat.le_refl _) (by omega) hb h2
    rw [List.take_length] at h
    exact h
  · obtain rfl := List.eq_nil_of_length_eq_zero (Nat.eq_zero_of_not_pos h0)
    exact (cont0_any ao c _ w).mono fun e w' ⟨h1, h2⟩ => ⟨h1, by rw [← h2]; exact Below.refl _ _⟩
set_option maxRecDepth 100000 in
set_option maxHeartbeats 2000000 in
theorem has_any (x : FA) (nm : List UInt8) (w : World) (h : x.ok w) (hn : x.F.gs.length ≤ 1000000000000000000) : Calls Try.prog 99 #[fontVal x, .string (mk8 nm)] w (Makes (.bool (hasB x.F.gs nm)) w) := by
  have hmf := make_func
  have HC : Hid (∀ (w' : World) (p : Nat), Below w.heap.size w w' → p < w'.heap.size → w'.cell? ⟨p, 0, none⟩ = some (.string (mk8 nm)) → Calls Try.prog 113 #[.slice x.ag x.F.gs.length x.cg, .func (.func 114) #[] #[.pointer (some ⟨p, 0, none⟩)]] w' (Makes (.bool (hasB x.F.gs nm)) w')) :=
    fun w' p hb hl hp => cont_any p nm x.ag x.F.gs x.cg w' (h.gs.below hb) hl hp hn
  clear h hn
  obtain ⟨⟨fn, fs, fz, gs, ls, ks⟩, ag, al, ak, cg, cl, ck⟩ := x
  simp only at HC ⊢
  obtain ⟨B, hB⟩ : ∃ B, hasB gs nm = B := ⟨_, rfl⟩
  obtain ⟨t, ht⟩ : ∃ t, mk8 nm = t := ⟨_, rfl⟩
  simp only [hB, ht] at HC ⊢
  show Calls _ _ #[.agg #[.string (mk8 fn), .bool fs, .int .i64 fz, .slice ag gs.length cg, .slice al ls.length cl, .slice ak ks.length ck], .string t] w _
  generalize mk8 fn = m1
  clear hB ht
  go_enter Try.func99, Try.ntmps99
  go_upto_region 1 with fail
  generalize hw1 : w.alloc _ = w1
  have hb1 : Below w.heap.size w w1 := by rw [← hw1]; exact (Below.refl _ _).alloc (Nat.le_refl _) _
  have t1 : w1.heap[w.heap.size]? = some (.cells #[.string m1, .bool fs, .int .i64 fz, .slice ag gs.length cg, .slice al ls.length cl, .slice ak ks.length ck] 37 (0, 0)) := by rw [← hw1]; exact heap_alloc_new w _
  have hs1 : w1.heap.size = w.heap.size + 1 := by rw [← hw1]; simp
  generalize hw2 : w1.alloc _ = w2
  have hb2 : Below w1.heap.size w1 w2 := by rw [← hw2]; exact (Below.refl _ _).alloc (Nat.le_refl _) _
  have t2 : w2.heap[w1.heap.size]? = some (.cells #[.string t] 9 (0, 0)) := by rw [← hw2]; exact heap_alloc_new w1 _
  have HB := Lib.hid (hb1.trans (hb2.mono hb1.size))
  have c3 : w2.cell? ⟨w.heap.size, 3, none⟩ = some (.slice ag gs.length cg) := (hb2.cell (p := ⟨w.heap.size, 3, none⟩) (by show w.heap.size < _; omega)).trans (cell_of t1 rfl)
  rw [hs1] at t2
  have HC2 := Lib.hid (HC.out w2 (w.heap.size + 1) HB.out (Array.getElem?_eq_some_iff.1 t2).1 (cell_of (j := 0) t2 rfl))
  try simp only [hs1]
  clear hw1 hw2 hb1 hb2 t1 t2 hs1 HC
  go_wp2_with fail
  refine HC2.out.mono ?_
  rintro e w3 ⟨rfl, hb3⟩
  have HB3 := Lib.hid (HB.out.trans (hb3.mono HB.out.size))
  clear hb3
  go_wp2_with fail
  go_ret
  exact ⟨rfl, HB3.out⟩
end Go.Proofs.Ytboophfcakdlcaa
