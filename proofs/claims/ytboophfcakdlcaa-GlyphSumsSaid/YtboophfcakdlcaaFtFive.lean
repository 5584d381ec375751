/- The standard fonts. -/
import Derived.Test.YtboophfcakdlcaaFtUniq
import Derived.Deep.DeepCutAuto
namespace Go.Proofs.Ytboophfcakdlcaa
open Go.RowKit Go.PlainAid Go.Shelf

/-- A font's lists in memory. -/
structure FontV (F : FontL) (ag al ak : Option Addr) (w : World) : Prop where
  gs : RowK encG 2 ag F.gs w
  ls : RowK encLg 3 al F.ls w
  ks : RowK encKn 3 ak F.ks w
theorem FontV.below {F : FontL} {ag al ak : Option Addr} {w w' : World} (h : FontV F ag al ak w) (hb : Below w.heap.size w w') : FontV F ag al ak w' := ⟨h.gs.below hb, h.ls.below hb, h.ks.below hb⟩
abbrev fontCells (F : FontL) (ag al ak : Option Addr) (cg cl ck : Nat) : List Value := [.string (mk8 F.name), .bool F.special, .int .i64 F.space, .slice ag F.gs.length cg, .slice al F.ls.length cl, .slice ak F.ks.length ck]
/-- A font with its places. -/
structure FA where
  F : FontL
  ag : Option Addr
  al : Option Addr
  ak : Option Addr
  cg : Nat
  cl : Nat
  ck : Nat
instance : Inhabited FA := ⟨⟨⟨[], false, 0, [], [], []⟩, none, none, none, 0, 0, 0⟩⟩
abbrev encF (x : FA) : List Value := fontCells x.F x.ag x.al x.ak x.cg x.cl x.ck
abbrev FA.ok (x : FA) (w : World) : Prop := FontV x.F x.ag x.al x.ak w
/-- What Standard gives. -/
def StdP (W : World) (e : Ending) (w : World) : Prop := ∃ (g : Nat) (l : List FA), e = .returned (.slice (some ⟨g, 0, none⟩) 5 5) ∧ l.map FA.F = [FR, FI, FB, FM, FS] ∧ RowK encF 6 (some ⟨g, 0, none⟩) l w ∧ (∀ x ∈ l, x.ok w) ∧ Below W.heap.size W w

set_option maxRecDepth 100000 in
set_option maxHeartbeats 4000000 in
theorem standard_any (W : World) : Calls Try.prog 9 #[] W (StdP W) := by
  have hes := enters_s1
  go_enter Try.func9, Try.ntmps9
  go_wp2_with fail
  refine (romanGlyphs_any 0 (by decide) W).mono ?_
  rintro e w1 ⟨v1, rfl, ho1, hb1⟩
  have HW := Lib.hid (withLigs_any W.heap.size v1 (bytesG wR 94) 550 w1 ho1 (by decide) (by decide) hb1.size)
  have HB1 := Lib.hid hb1
  clear ho1 hb1
  go_wp2_with fail
  refine HW.out.mono ?_
  rintro e w2 ⟨a1, c1, y1, rfl, hs1, hr1, hb2⟩
  obtain rfl : y1 = GR := sorted_is hs1 up_R
  have HB2 := Lib.hid (HB1.out.trans hb2)
  have HR2 := Lib.hid hr1
  clear HW HB1 hs1 hr1 hb2
  go_wp2_with fail
  refine (romanLigs_any w2).mono ?_
  rintro e w3 ⟨rfl, hl3, hb3⟩
  have HL3 := Lib.hid hl3
  have HR3 := Lib.hid (HR2.out.below hb3)
  have HB3 := Lib.hid (HB2.out.trans (hb3.mono HB2.out.size))
  obtain ⟨p2, hp2⟩ : ∃ p, w2.heap.size = p := ⟨_, rfl⟩
  rw [hp2] at HL3
  rw [hp2]
  clear hl3 hb3 HB2 HR2 hp2
  go_wp2_with fail
  refine (romanKerns_any w3).mono ?_
  rintro e w4 ⟨rfl, hk4, hb4⟩
  have HK4 := Lib.hid hk4
  have HL4 := Lib.hid (HL3.out.below hb4)
  have HR4 := Lib.hid (HR3.out.below hb4)
  have HB4 := Lib.hid (HB3.out.trans (hb4.mono HB3.out.size))
  obtain ⟨p3, hp3⟩ : ∃ p, w3.heap.size = p := ⟨_, rfl⟩
  rw [hp3] at HK4
  rw [hp3]
  clear hk4 hb4 HB3 HR3 HL3 hp3
  have HF4 : Hid (FontV FR a1 (some ⟨p2, 0, none⟩) (some ⟨p3, 0, none⟩) w4) := ⟨HR4.out, HL4.out, HK4.out⟩
  clear HR4 HL4 HK4
  go_wp2_with fail
  refine (romanGlyphs_any (-20) (by decide) w4).mono ?_
  rintro e w5 ⟨v5, rfl, ho5, hb5⟩
  obtain ⟨a5, c5, rfl, hr5⟩ := own_row encG_len (by decide) ho5
  have HF5 := Lib.hid (HF4.out.below hb5)
  have HB5 := Lib.hid (HB4.out.trans (hb5.mono HB4.out.size))
  have HI5 : Hid (FontV FI a5 none none w5) := ⟨hr5, RowK.nil, RowK.nil⟩
  clear ho5 hr5 hb5 HF4 HB4
  go_wp2_with fail
  refine (romanGlyphs_any 50 (by decide) w5).mono ?_
  rintro e w6 ⟨v6, rfl, ho6, hb6⟩
  have HW := Lib.hid (withLigs_any w5.heap.size v6 (bytesG wB 94) 600 w6 ho6 (by decide) (by decide) hb6.size)
  have HB6 := Lib.hid hb6
  clear ho6 hb6
  go_wp2_with fail
  refine HW.out.mono ?_
  rintro e w7 ⟨a7, c7, y7, rfl, hs7, hr7, hb7⟩
  obtain rfl : y7 = GB := sorted_is hs7 up_B
  have hb67 := HB6.out.trans hb7
  have HR7 := Lib.hid hr7
  have HF7 := Lib.hid (HF5.out.below hb67)
  have HI7 := Lib.hid (HI5.out.below hb67)
  have HB7 := Lib.hid (HB5.out.trans (hb67.mono HB5.out.size))
  clear HW HB6 hs7 hr7 hb7 hb67 HF5 HI5 HB5
  go_wp2_with fail
  refine (romanLigs_any w7).mono ?_
  rintro e w8 ⟨rfl, hl8, hb8⟩
  have HB8' : Hid (FontV FB a7 (some ⟨w7.heap.size, 0, none⟩) none w8) := ⟨HR7.out.below hb8, hl8, RowK.nil⟩
  have HF8 := Lib.hid (HF7.out.below hb8)
  have HI8 := Lib.hid (HI7.out.below hb8)
  have HB8 := Lib.hid (HB7.out.trans (hb8.mono HB7.out.size))
  obtain ⟨p7, hp7⟩ : ∃ p, w7.heap.size = p := ⟨_, rfl⟩
  rw [hp7] at HB8'
  rw [hp7]
  clear hl8 hb8 HB7 HR7 HF7 HI7 hp7
  go_wp2_with fail
  refine (bytesOf_any 34 #[] (fun _ => 600) w8 enters_s1 (fun c W' _ => by simpa using s1_any c W')).mono ?_
  rintro e w9 ⟨v9, rfl, ho9, hb9⟩
  obtain ⟨a9, c9, rfl, hr9⟩ := own_row encG_len (by decide) ho9
  have HF9 := Lib.hid (HF8.out.below hb9)
  have HI9 := Lib.hid (HI8.out.below hb9)
  have HB9' := Lib.hid (HB8'.out.below hb9)
  have HM9 : Hid (FontV FM a9 none none w9) := ⟨hr9, RowK.nil, RowK.nil⟩
  have HB9 := Lib.hid (HB8.out.trans (hb9.mono HB8.out.size))
  clear ho9 hr9 hb9 HF8 HI8 HB8' HB8
  go_wp2_with fail
  refine (symbols_any w9).mono ?_
  rintro e w10 ⟨a10, c10, rfl, hr10, hb10⟩
  have HF10 := Lib.hid (HF9.out.below hb10)
  have HI10 := Lib.hid (HI9.out.below hb10)
  have HB10' := Lib.hid (HB9'.out.below hb10)
  have HM10 := Lib.hid (HM9.out.below hb10)
  have HS10 : Hid (FontV FS a10 none none w10) := ⟨hr10, RowK.nil, RowK.nil⟩
  have HB10 := Lib.hid (HB9.out.trans (hb10.mono HB9.out.size))
  clear hr10 hb10 HF9 HI9 HB9' HM9 HB9
  go_wp2_with fail
  go_ret
  have hb11 := fun o => (Below.refl w10.heap.size w10).alloc (Nat.le_refl _) o
  refine ⟨w10.heap.size, [⟨FR, a1, some ⟨p2, 0, none⟩, some ⟨p3, 0, none⟩, c1, 3, 5⟩, ⟨FI, a5, none, none, c5, 0, 0⟩, ⟨FB, a7, some ⟨p7, 0, none⟩, none, c7, 3, 0⟩, ⟨FM, a9, none, none, c9, 0, 0⟩, ⟨FS, a10, none, none, c10, 0, 0⟩], rfl, rfl, ?_, ?_, HB10.out.trans ((hb11 _).mono HB10.out.size)⟩
  · refine rowK_block (enc := encF) (k := 6) (fun _ => rfl) (heap_alloc_new w10 _) ?_
    rfl
  · intro x hx
    rcases List.mem_cons.1 hx with rfl | hx
    · exact HF10.out.below (hb11 _)
    rcases List.mem_cons.1 hx with rfl | hx
    · exact HI10.out.below (hb11 _)
    rcases List.mem_cons.1 hx with rfl | hx
    · exact HB10'.out.below (hb11 _)
    rcases List.mem_cons.1 hx with rfl | hx
    · exact HM10.out.below (hb11 _)
    rcases List.mem_cons.1 hx with rfl | hx
    · exact HS10.out.below (hb11 _)
    · cases hx
end Go.Proofs.Ytboophfcakdlcaa
