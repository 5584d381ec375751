/- The document's standard fonts, plain: what is put one after the other is the program's list. -/
import Derived.Test.YtboophfcakdlcaaFrPut
import Derived.Test.YtboophfcakdlcaaFrWid
namespace Go.Proofs.Ytboophfcakdlcaa
open Go.RowKit Go.PlainAid Go.Shelf

instance : DecidableEq Gl := fun a b => decidable_of_iff (a.nm = b.nm ∧ a.wd = b.wd) ⟨fun h => by cases a; cases b; simp only at h; rw [h.1, h.2], fun h => by rw [h]; exact ⟨rfl, rfl⟩⟩
/-- Glyphs put one after the other. -/
def accL (base : List Gl) (f : Nat → Gl) : Nat → List Gl
  | 0 => base
  | k + 1 => putG (accL base f k) (f k)
theorem accL_len (base : List Gl) (f : Nat → Gl) : ∀ k, (accL base f k).length = base.length + k
  | 0 => rfl
  | k + 1 => by
    show (putG _ _).length = _
    rw [putG_len, accL_len base f k]
    omega
def bC (k : Nat) : UInt8 := (33 + k).toUInt8
def fG (wd : UInt8 → Int) (k : Nat) : Gl := ⟨[bC k], wd (bC k)⟩
abbrev xR : UInt8 → Int := romanW
abbrev xI (c : UInt8) : Int := max (romanW c - 20) 0
abbrev xB (c : UInt8) : Int := romanW c + 50
abbrev xM (_ : UInt8) : Int := 600
def jN : List (List UInt8) := [[102, 105], [102, 108], [102, 102]]
def fJ (d : Int) (k : Nat) : Gl := ⟨jN[k]!, d⟩
def fS (k : Nat) : Gl := SL[k]!
theorem eq_R : accL (accL [] (fG xR) 94) (fJ 550) 3 = GR := by decide +kernel
theorem eq_I : accL [] (fG xI) 94 = GI := by decide +kernel
theorem eq_B : accL (accL [] (fG xB) 94) (fJ 600) 3 = GB := by decide +kernel
theorem eq_M : accL [] (fG xM) 94 = GM := by decide +kernel
theorem eq_S : accL [] fS 35 = GS := by decide +kernel
theorem bC_nat {k : Nat} (h : k < 94) : ((bC k).toNat : Int) = (k : Int) + 33 := by
  unfold bC
  rw [show (33 + k).toUInt8.toNat = 33 + k from by simp; omega]
  omega
theorem one_str (k : Nat) (hk : k < 94) (W : World) :
    (convert 81 9 (.slice (some ⟨W.heap.size, 0, none⟩) 1 1)).run Try.prog (W.alloc (.cells #[.int .u8 ((k : Int) + 33)] 5)) = .ok (.string (mk8 [bC k])) (W.alloc (.cells #[.int .u8 ((k : Int) + 33)] 5)) := by
  rw [← bC_nat hk]
  refine run_convert_bytes_back (P := Try.prog) _ 81 9 5 ⟨W.heap.size, 0, none⟩ 1 [bC k] Try.underlying81 Try.underlying5 Try.underlying9 ?_
  intro j hj
  obtain rfl : j = 0 := by simp at hj; omega
  simp [go_sem, Addr.add]
set_option maxRecDepth 100000 in
set_option maxHeartbeats 4000000 in
theorem rsymbols_any (w : World) : Calls Try.prog 38 #[] w (fun e w' => e = .returned (.slice (some ⟨w.heap.size, 0, none⟩) 35 35) ∧ RowK encG 2 (some ⟨w.heap.size, 0, none⟩) SL w' ∧ w.heap.size < w'.heap.size ∧ Below w.heap.size w w') := by
  go_enter Try.func38, Try.ntmps38
  go_wp2_with fail
  go_ret
  exact ⟨rfl, by refine rowK_block (enc := encG) (k := 2) (fun _ => rfl) (heap_alloc_new w _) ?_; rfl, by simp, (Below.refl _ _).alloc (Nat.le_refl _) _⟩
end Go.Proofs.Ytboophfcakdlcaa
