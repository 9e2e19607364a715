/-
  codicillaw02.JsonTells: its walk where too much is given.
-/
import Derived.Test.YtjffiignedbndaaGreatDoorCJsonCopW
import Derived.Test.YtjffiignedbndaaGreatDoorCJsonRInt
import Derived.Test.YtjffiignedbndaaGreatDoorCJsonRGet
import Derived.Test.YtjffiignedbndaaGreatDoorN7
set_option linter.unusedSimpArgs false
set_option linter.unusedVariables false
set_option linter.unusedVariables false
namespace Go.Proofs.YtjffiignedbndaaGreatDoor
open Go.RowKit
set_option maxRecDepth 10000000 in
set_option maxHeartbeats 8000000 in
theorem tells_heavy (a b : JV) (key : ByteArray) (c0 c1 c2 c3 d0 d1 d2 d3 : Value) (w : World) (hV : IsV w 0 a c0 c1 c2 c3) (hB : bndV a) (hV' : IsV w 0 b d0 d1 d2 d3) (hB' : bndV b) (hkey : key.size ≤ maxLen) (hvars : Vars w)
    (hh : heavyB a = true ∨ (heavyB a = false ∧ heavyB b = true) ∨ (heavyB a = false ∧ heavyB b = false ∧ 4096 < key.size)) :
    Calls Tryz.prog 5 #[.agg #[c0, c1, c2, c3], .agg #[d0, d1, d2, d3], .string key] w fun e w' => e = .returned (.bool true) ∧ Below w.heap.size w w' := by
  have hV2 := hV
  have hV3 := hV'
  obtain ⟨k0, t0, ka, kl, kc, la, ll, lc, rfl, rfl, rfl, rfl⟩ := hV.shape
  obtain ⟨k1, t1, qa, ql, qc, ra, rl, rc, rfl, rfl, rfl, rfl⟩ := hV'.shape
  have cH := fun (w2 : World) (hb : Below w.heap.size w w2) => heavy_any a _ _ _ _ w2 (IsV.stays (Below.stays hb 0) (Nat.le_refl 0) _ _ _ _ _ hV2) hB
  have cH' := fun (w2 : World) (hb : Below w.heap.size w w2) => heavy_any b _ _ _ _ w2 (IsV.stays (Below.stays hb 0) (Nat.le_refl 0) _ _ _ _ _ hV3) hB'
  have cA := fun (w2 : World) (hb : Below w.heap.size w w2) => alive_any w2 (hvars.below hb)
  have hb0 : Below w.heap.size w ((w.alloc (.cells #[.int .u8 (k0 : Nat), .string t0, .slice ka kl kc, .slice la ll lc] 26)).alloc (.cells #[.int .u8 (k1 : Nat), .string t1, .slice qa ql qc, .slice ra rl rc] 26)) := ((Below.refl _ _).alloc (Nat.le_refl _) _).alloc (by simp) _
  have hbx1 := (Lib.alloc_old (w.alloc (.cells #[.int .u8 (k0 : Nat), .string t0, .slice ka kl kc, .slice la ll lc] 26)) (.cells #[.int .u8 (k1 : Nat), .string t1, .slice qa ql qc, .slice ra rl rc] 26) w.heap.size (by simp)).trans (heap_alloc_new w (.cells #[.int .u8 (k0 : Nat), .string t0, .slice ka kl kc, .slice la ll lc] 26))
  have hbx2 := heap_alloc_new (w.alloc (.cells #[.int .u8 (k0 : Nat), .string t0, .slice ka kl kc, .slice la ll lc] 26)) (.cells #[.int .u8 (k1 : Nat), .string t1, .slice qa ql qc, .slice ra rl rc] 26)
  rw [show (w.alloc (.cells #[.int .u8 (k0 : Nat), .string t0, .slice ka kl kc, .slice la ll lc] 26)).heap.size = w.heap.size + 1 by simp] at hbx2
  have hbr2 : RB ((w.alloc (.cells #[.int .u8 (k0 : Nat), .string t0, .slice ka kl kc, .slice la ll lc] 26)).alloc (.cells #[.int .u8 (k1 : Nat), .string t1, .slice qa ql qc, .slice ra rl rc] 26)) (w.heap.size + 1) (.int .u8 (k1 : Nat)) (.string t1) (.slice qa ql qc) (.slice ra rl rc) := hbx2
  have hs0 : ((w.alloc (.cells #[.int .u8 (k0 : Nat), .string t0, .slice ka kl kc, .slice la ll lc] 26)).alloc (.cells #[.int .u8 (k1 : Nat), .string t1, .slice qa ql qc, .slice ra rl rc] 26)).heap.size = w.heap.size + 2 := by simp
  clear hV hV' hV2 hV3
  rcases hh with h1 | ⟨h1, h2⟩ | ⟨h1, h2, h3⟩
  · rw [h1] at cH
    go_enter Tryz.func5, Tryz.ntmps5
    go_wp2_with (first
      | (go_at_call 14; refine (cH _ hb0).mono ?_; rintro e w1 ⟨rfl, hb1⟩; have hb01 := hb0.trans (hb1.mono hb0.size))
      | (go_at_call 10; refine (cA _ hb01).mono ?_; rintro e w2 ⟨rfl, hb2⟩))
    go_ret
    exact ⟨rfl, hb01.trans (hb2.mono hb01.size)⟩
  all_goals
    rw [h1] at cH
    rw [h2] at cH'
    go_enter Tryz.func5, Tryz.ntmps5
    try have hk2 : (4096 : Int) < (key.size : Int) := by omega
    go_wp2_with (first
      | (go_at_call 14; with_reducible refine (cH _ hb0).mono ?_; rintro e w1 ⟨rfl, hb1⟩; have hb01 := hb0.trans (hb1.mono hb0.size); obtain ⟨y0, y1, y2, y3⟩ := RB.cells (hbr2.below hb1))
      | (go_at_call 14; with_reducible refine (cH' _ hb01).mono ?_; rintro e w3 ⟨rfl, hb3⟩; have hb03 := hb01.trans (hb3.mono hb01.size))
      | (go_at_call 10; refine (cA _ hb03).mono ?_; rintro e w2 ⟨rfl, hb2⟩))
    go_ret
    exact ⟨rfl, hb03.trans (hb2.mono hb03.size)⟩
end Go.Proofs.YtjffiignedbndaaGreatDoor
