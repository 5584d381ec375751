/- Glyphs of one byte, made by a closure that gives widths. -/
import Derived.Test.YtboophfcakdlcaaFtOwn
import Derived.Deep.RegionWith
import Derived.Deep.DeepCutAuto
namespace Go.Proofs.Ytboophfcakdlcaa
open Go.RowKit Go.PlainAid Go.Shelf

theorem enters_r1 (args : Array Value) (w : World) : (callFunc 63 args).run Try.prog w = .ok (.enter 63 args) w := by kernel_rfl
theorem enters_s1 (args : Array Value) (w : World) : (callFunc 34 args).run Try.prog w = .ok (.enter 34 args) w := by kernel_rfl
theorem romanW_range (c : UInt8) : 250 ≤ romanW c ∧ romanW c ≤ 900 := by
  unfold romanW
  cases thinS.contains c <;> cases slimS.contains c <;> cases (c == 109 || c == 119) <;> cases wideS.contains c <;> cases (decide (65 ≤ c.toNat) && decide (c.toNat ≤ 90)) <;> decide

set_option maxRecDepth 100000 in
set_option maxHeartbeats 2000000 in
theorem r1_any (p : Nat) (d : Int) (hd : -1000 ≤ d ∧ d ≤ 1000) (c : UInt8) (w : World) (hp : w.cell? ⟨p, 0, none⟩ = some (.int .i64 d)) : Calls Try.prog 63 #[.int .u8 c.toNat, .pointer (some ⟨p, 0, none⟩)] w (Makes (.int .i64 (max 0 (romanW c + d))) w) := by
  have HW := Lib.hid (fun w => romanWidth_any c w)
  have hr := romanW_range c
  obtain ⟨z, hz⟩ : ∃ z, romanW c = z := ⟨_, rfl⟩
  obtain ⟨k, hk⟩ : ∃ k : Int, (c.toNat : Int) = k := ⟨_, rfl⟩
  rw [hz] at hr ⊢
  simp only [hz, hk] at HW
  rw [hk]
  clear hz hk
  have hwr : IntKind.i64.wrap (z + d) = z + d := by simp [IntKind.wrap, IntKind.bits, IntKind.signed]; omega
  go_enter Try.func63, Try.ntmps63
  go_wp2_with fail
  go_region_with (go_at_call 64; refine (HW.out _).mono ?_; rintro e w1 ⟨rfl, rfl⟩)
  all_goals
    go_wp2_with fail
    go_ret
    exact ⟨rfl, (Below.refl _ _).drew⟩
theorem s1_any (c : UInt8) (w : World) : Calls Try.prog 34 #[.int .u8 c.toNat] w (Makes (.int .i64 600) w) := by
  go_enter Try.func34, Try.ntmps34
  go_wp2_with fail
  go_ret
  exact ⟨rfl, Below.refl _ _⟩
/-- The glyphs of the first n bytes from 33 on. -/
def bytesG (wd : UInt8 → Int) (n : Nat) : List Gl := (List.range n).map fun i => ⟨[(33 + i).toUInt8], wd (33 + i).toUInt8⟩
theorem bytesG_len (wd : UInt8 → Int) (n : Nat) : (bytesG wd n).length = n := by simp [bytesG]
theorem bytesG_succ (wd : UInt8 → Int) (n : Nat) : bytesG wd (n + 1) = bytesG wd n ++ [⟨[(33 + n).toUInt8], wd (33 + n).toUInt8⟩] := by simp [bytesG, List.range_succ]

theorem one_rune (k : Nat) (hk : k < 94) : Utf8.encode ((k : Int) + 33) = mk8 [(33 + k).toUInt8] := by
  have h : ((k : Int) + 33) = ((33 + k : Nat) : Int) := by omega
  rw [h]
  have : ∀ n : Nat, n < 94 → Utf8.encode ((33 + n : Nat) : Int) = mk8 [(33 + n).toUInt8] := by decide +kernel
  exact this k hk
set_option maxRecDepth 100000 in
set_option maxHeartbeats 4000000 in
theorem bytesOf_any (g : FuncId) (lb : Array Value) (wd : UInt8 → Int) (w : World) (hcf : ∀ args w', (callFunc g args).run Try.prog w' = .ok (.enter g args) w')
    (hp : ∀ c W, Below w.heap.size w W → Calls Try.prog g (#[.int .u8 c.toNat] ++ lb) W (Makes (.int .i64 (wd c)) W)) :
    Calls Try.prog 33 #[.func (.func g) #[] lb] w (fun e w' => ∃ v, e = .returned v ∧ OwnG w.heap.size v (bytesG wd 94) w' ∧ Below w.heap.size w w') := by
  have HP := Lib.hid hp
  clear hp
  go_enter Try.func33, Try.ntmps33
  go_wp2_with fail
  go_loopw [3, 4] (fun v i wr => ∃ k : Nat, k ≤ 94 ∧ i = .int .u8 ((k : Int) + 33) ∧ Hid (OwnG w.heap.size v (bytesG wd k) wr) ∧ Hid (Below w.heap.size w wr)) (fun _ i _ => 127 - (intOf i).toNat)
  case atStart => exact ⟨0, by omega, rfl, World.ownsRow_nil _ _ _ _, Below.refl _ _⟩
  case round =>
    obtain ⟨k, hk, rfl, ho, hbl⟩ := hrel
    by_cases hlt : k < 94
    · have hz1 : (k : Int) + 33 ≤ 126 := by omega
      have HC := Lib.hid (HP.out (33 + k).toUInt8 wr hbl.out)
      have hcz : ((33 + k).toUInt8.toNat : Int) = (k : Int) + 33 := by
        rw [show (33 + k).toUInt8.toNat = 33 + k from by simp; omega]
        omega
      rw [hcz] at HC
      have HU := Lib.hid (one_rune k hlt)
      go_wp2_with fail
      refine HC.out.mono ?_
      rintro e w1 ⟨rfl, hb1⟩
      have HO1 := Lib.hid (owns_below ho.out hb1)
      have HB1 := Lib.hid (hbl.out.trans (hb1.mono hbl.out.size))
      have HN : Hid (∀ v' w', OwnG w.heap.size v' (bytesG wd k ++ [⟨[(33 + k).toUInt8], wd (33 + k).toUInt8⟩]) w' → OwnG w.heap.size v' (bytesG wd (k + 1)) w') := fun v' w' h => by rw [bytesG_succ]; exact h
      have hlen := bytesG_len wd k
      have hsz := HB1.out.size
      simp only [HU.out]
      obtain ⟨m, hm⟩ : ∃ m, wd (33 + k).toUInt8 = m := ⟨_, rfl⟩
      obtain ⟨nm, hnm⟩ : ∃ nm, [(33 + k).toUInt8] = nm := ⟨_, rfl⟩
      rw [hm, hnm] at HN
      simp only [hm, hnm]
      clear hb1 ho hbl HC HP hcz HU hm hnm
      go_wp2_with (at_builtin; refine wpList_glyph rfl (.tmp 9) (.tmp 17) rfl (s := nm) (m := m) rfl ⟨w1.heap.size, 0, none⟩ rfl (cell_of (heap_alloc_new w1 _) rfl) (cell_of (heap_alloc_new w1 _) rfl) (HO1.out.alloc _) (by omega) (by simp; omega) ?_; intro v' w' h1 h2; have HA := Lib.hid (HN.out v' w' h1); have HB2 := Lib.hid (HB1.out.trans (((Below.refl w.heap.size w1).alloc HB1.out.size _).trans h2)); clear h1 h2)
      go_roundw
      case rel => exact ⟨k + 1, by omega, by go_num, HA, HB2⟩
      case measure => simp [intOf]; omega
    · obtain rfl : k = 94 := by omega
      have hz1 : ¬ ((94 : Nat) : Int) + 33 ≤ 126 := by omega
      go_wp2_with fail
      go_ret
      exact ⟨_, rfl, ho.out, hbl.out⟩
end Go.Proofs.Ytboophfcakdlcaa
