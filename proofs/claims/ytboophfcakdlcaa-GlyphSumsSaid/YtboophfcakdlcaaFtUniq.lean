/- The standard fonts, plain; what is sorted is one list. -/
import Derived.Test.YtboophfcakdlcaaFtLigs
namespace Go.Proofs.Ytboophfcakdlcaa
open Go.RowKit Go.PlainAid Go.Shelf

abbrev ltG (x y : Gl) : Prop := ltL x.nm y.nm = true
def insG (g : Gl) : List Gl → List Gl
  | [] => [g]
  | h :: t => if ltL g.nm h.nm then g :: h :: t else h :: insG g t
def srtG (xs : List Gl) : List Gl := xs.foldr insG []
theorem insG_perm (g : Gl) : ∀ l, (insG g l).Perm (g :: l) := by
  intro l
  induction l with
  | nil => exact .refl _
  | cons h t ih =>
    unfold insG
    split
    · exact .refl _
    · exact (ih.cons h).trans (.swap g h t)
theorem srtG_perm : ∀ xs, (srtG xs).Perm xs := by
  intro xs
  induction xs with
  | nil => exact .refl _
  | cons h t ih => exact (insG_perm h _).trans (ih.cons h)
theorem strict_unique : ∀ {ys zs : List Gl}, ys.Pairwise ltG → zs.Pairwise ltG → ys.Perm zs → ys = zs := by
  intro ys
  induction ys with
  | nil => intro zs _ _ h; exact (List.nil_perm.1 h).symm
  | cons y ys ih =>
    intro zs hy hz h
    cases zs with
    | nil => exact absurd h.length_eq (by simp)
    | cons z zs =>
      have e : y = z := by
        have h1 : y ∈ z :: zs := h.subset List.mem_cons_self
        have h2 : z ∈ y :: ys := h.symm.subset List.mem_cons_self
        rcases List.mem_cons.1 h1 with h1 | h1
        · exact h1
        · rcases List.mem_cons.1 h2 with h2 | h2
          · exact h2.symm
          · have a := (List.pairwise_cons.1 hz).1 y h1
            have b := (List.pairwise_cons.1 hy).1 z h2
            have := ltL_asymm a
            rw [b] at this
            cases this
      subst e
      rw [ih (List.pairwise_cons.1 hy).2 (List.pairwise_cons.1 hz).2 (List.perm_cons y |>.1 h)]
/-- What the sort leaves, where the names differ. -/
theorem sorted_is {xs ys : List Gl} (h : Sorted xs ys) (hp : (srtG xs).Pairwise ltG) : ys = srtG xs := by
  have hpz : ys.Perm (srtG xs) := h.perm.trans (srtG_perm xs).symm
  have hne : ys.Pairwise fun a b => a.nm ≠ b.nm := by
    refine (List.Perm.pairwise_iff (fun {a b} h => Ne.symm h) hpz).2 (hp.imp fun {a b} hab e => ?_)
    rw [ltG, e, ltL_irr] at hab
    cases hab
  refine strict_unique ?_ hp hpz
  rw [List.pairwise_iff_getElem] at hne ⊢
  intro i j hi hj hij
  have h1 := hne i j hi hj hij
  have h2 := h.sort i j hij hj
  rw [getElem!_pos ys i hi, getElem!_pos ys j hj] at h2
  show ltL ys[i].nm ys[j].nm = true
  cases h3 : ltL ys[i].nm ys[j].nm with
  | true => rfl
  | false => exact absurd (ltL_eq_of h3 h2) h1

/-- The glyphs of S, as they are listed. -/
def SL : List Gl := [⟨[98, 117], 460⟩, ⟨[101, 109], 1000⟩, ⟨[101, 110], 500⟩, ⟨[104, 121], 350⟩, ⟨[115, 113], 600⟩,
  ⟨[109, 117], 600⟩, ⟨[100, 105], 600⟩, ⟨[112, 108], 600⟩, ⟨[109, 105], 600⟩, ⟨[101, 113], 600⟩,
  ⟨[60, 61], 600⟩, ⟨[62, 61], 600⟩, ⟨[33, 61], 600⟩, ⟨[45, 62], 1000⟩, ⟨[60, 45], 1000⟩,
  ⟨[115, 114], 500⟩, ⟨[105, 115], 400⟩, ⟨[115, 117], 700⟩, ⟨[112, 100], 700⟩, ⟨[105, 102], 700⟩,
  ⟨[42, 97], 550⟩, ⟨[42, 98], 550⟩, ⟨[42, 103], 500⟩, ⟨[42, 100], 500⟩, ⟨[42, 112], 600⟩, ⟨[42, 108], 550⟩, ⟨[42, 115], 600⟩, ⟨[42, 119], 700⟩,
  ⟨[99, 111], 800⟩, ⟨[100, 103], 500⟩, ⟨[115, 99], 500⟩, ⟨[114, 104], 1000⟩, ⟨[98, 114], 10⟩, ⟨[117, 108], 500⟩, ⟨[114, 117], 500⟩]
abbrev wR (c : UInt8) : Int := max 0 (romanW c + 0)
abbrev wI (c : UInt8) : Int := max 0 (romanW c + -20)
abbrev wB (c : UInt8) : Int := max 0 (romanW c + 50)
def GR : List Gl := srtG (bytesG wR 94 ++ ligG 550 3)
def GB : List Gl := srtG (bytesG wB 94 ++ ligG 600 3)
def GI : List Gl := bytesG wI 94
def GM : List Gl := bytesG (fun _ => 600) 94
def GS : List Gl := srtG SL
theorem up_R : (srtG (bytesG wR 94 ++ ligG 550 3)).Pairwise ltG := by decide +kernel
theorem up_B : (srtG (bytesG wB 94 ++ ligG 600 3)).Pairwise ltG := by decide +kernel
theorem up_S : (srtG SL).Pairwise ltG := by decide +kernel
def FR : FontL := ⟨[82], false, 250, GR, RL, RK⟩
def FI : FontL := ⟨[73], false, 250, GI, [], []⟩
def FB : FontL := ⟨[66], false, 250, GB, RL, []⟩
def FM : FontL := ⟨[77], false, 600, GM, [], []⟩
def FS : FontL := ⟨[83], true, 250, GS, [], []⟩
theorem valid_R : validB FR = true := by decide +kernel
theorem valid_I : validB FI = true := by decide +kernel
theorem valid_B : validB FB = true := by decide +kernel
theorem valid_M : validB FM = true := by decide +kernel
theorem valid_S : validB FS = true := by decide +kernel

set_option maxRecDepth 100000 in
set_option maxHeartbeats 4000000 in
theorem symbols_any (w : World) : Calls Try.prog 35 #[] w (fun e w' => ∃ ao cap, e = .returned (.slice ao GS.length cap) ∧ RowK encG 2 ao GS w' ∧ Below w.heap.size w w') := by
  have hce := enters_byName
  go_enter Try.func35, Try.ntmps35
  go_upto_region 2 with fail
  generalize hw2 : w.alloc _ = w2
  have hb2 : Below w.heap.size w w2 := by rw [← hw2]; exact (Below.refl _ _).alloc (Nat.le_refl _) _
  have ho : OwnG w.heap.size (.slice (some ⟨w.heap.size, 0, none⟩) 35 35) SL w2 := by
    rw [← hw2]
    exact ⟨rfl, .inr ⟨w.heap.size, 35, _, rfl, Nat.le_refl _, heap_alloc_new w _, Nat.le_refl _, by decide, rfl, rfl⟩⟩
  have HS := Lib.hid (sort_any w.heap.size _ SL w2 ho (by decide) (by decide))
  have HB := Lib.hid hb2
  clear hw2 hb2 ho
  go_wp2_with fail
  refine HS.out.mono ?_
  rintro e w3 ⟨rfl, ao, cap, ys, hv, hsr, hrow, hb3⟩
  have hy : ys = GS := sorted_is hsr up_S
  subst hy
  have HR := Lib.hid hrow
  have HB3 := Lib.hid (HB.out.trans hb3)
  have hv2 : Hid (Value.slice (some ⟨w.heap.size, 0, none⟩) 35 35 = .slice ao GS.length cap) := hv
  clear hsr hrow hb3 hv HS
  go_wp2_with fail
  go_ret
  exact ⟨ao, cap, by rw [← hv2.out]; rfl, HR.out, HB3.out⟩
end Go.Proofs.Ytboophfcakdlcaa
