/-
  CONTRACT of codicilref02's Reader: word.
-/
import Derived.Test.YtakdhfjlhkejdaaGreatDoorCJsonRd4
import Derived.IntWalk
set_option linter.unusedSimpArgs false
set_option linter.unusedVariables false
set_option linter.unusedVariables false
set_option linter.unusedSimpArgs false
namespace Go.Proofs.YtakdhfjlhkejdaaGreatDoor
open Go.RowKit
/-- what word comes to -/
def WordEnd (rb : Nat) (s : ByteArray) (a v m : Nat) (r : Option Nat) (e : Ending) (w' : World) : Prop :=
  match r with
  | some k => e = .returned (.int .u8 (k : Nat)) ∧ RS w' rb s (a + m) v 0 0
  | none => e = .returned (.int .u8 0) ∧ RS w' rb s a v a 20
def namesK : List (List UInt8) := [[110, 117, 108, 108], [102, 97, 108, 115, 101], [116, 114, 117, 101]]
theorem tl_const {W : ByteArray} {l : List UInt8} (h : W.data.toList = l) : W.toList = l := by rw [ByteArray.toList_eq]; exact h
set_option maxRecDepth 10000000 in
set_option maxHeartbeats 8000000 in
theorem rWord_any (rb : Nat) (s : ByteArray) (a v : Nat) (w : World) (h : RS w rb s a v 0 0) (hs : s.size ≤ 1000000000) (ha : a ≤ s.size) :
    Calls Tryz.prog 69 #[.pointer (some ⟨rb, 0, none⟩)] w fun e w' => WordEnd rb s a v (spanL pLetter (s.data.toList.drop a)) (wordK ((s.data.toList.drop a).take (spanL pLetter (s.data.toList.drop a)))) e w' ∧ GB rb w w' := by
  have hs' : s.size ≤ maxLen := by unfold maxLen; omega
  obtain ⟨c0, c1, c2, c3, c4⟩ := h.cells
  have cR := fun w => run_let (s.extract a s.size) w (from_size hs')
  rw [from_data] at cR
  have hsp := spanL_le pLetter (s.data.toList.drop a)
  rw [List.length_drop, ← Lib.size_eq] at hsp
  have hW : (s.data.toList.drop a).take (spanL pLetter (s.data.toList.drop a)) = (s.extract a (a + spanL pLetter (s.data.toList.drop a))).data.toList := by
    rw [Lib.extract_data, Nat.add_sub_cancel_left]
  rw [hW]
  clear hW
  generalize spanL pLetter (s.data.toList.drop a) = m at *
  obtain ⟨W, hW⟩ : ∃ W, W = s.extract a (a + m) := ⟨_, rfl⟩
  rw [← hW]
  have ham : (a : Int) + (m : Int) ≤ (s.size : Int) := by omega
  have haI : (a : Int) ≤ 1000000000 := by omega
  have hmI2 : (m : Int) ≤ 1000000000 := by omega
  have ham2 : a + m ≤ s.size := by omega
  have hmI : (a : Int) ≤ (a : Int) + (m : Int) := by omega
  obtain ⟨X, hX⟩ : ∃ X, X = wordK W.data.toList := ⟨_, rfl⟩
  rw [← hX]
  have hsl : ∀ w : World, (Instr.slice 9 (.string s) (some (.int .i64 (a : Nat))) (some (.int .i64 ((a : Int) + (m : Int)))) none).run Tryz.prog w = .ok (.string W) w := fun w => by
    have h := run_slice_string w 9 s .i64 .i64 (a : Int) ((a : Int) + (m : Int)) Tryz.underlying9 (by omega) (by omega) (by omega)
    rw [show ((a : Int) + (m : Int)).toNat = a + m by omega, Int.toNat_natCast, ← hW] at h
    exact h
  have hwr : IntKind.i64.wrap ((a : Int) + (m : Int)) = (a : Int) + (m : Int) := IntWalk.i64_in _ (by omega)
  have HX := Lib.hid hX
  have HW := Lib.hid hW
  clear hX hW
  have cF := fun (w2 : World) (h2 : RS w2 rb s a v 0 0) => rFail_any rb s a v 0 a 20 w2 h2
  have g0 := GB.refl rb w
  go_enter Tryz.func69, Tryz.ntmps69
  go_wp2_with fail
  go_region_with (go_at_call 68; refine (cR _).mono ?_; rintro e w1 ⟨rfl, rfl⟩)
  all_goals go_wp2_with fail
  all_goals go_quiet (fail)
  all_goals go_wp2_with fail
  all_goals go_loopw [6] (fun vi wr => ∃ i : Nat, vi = .int .i64 (i : Nat) ∧ i ≤ 3 ∧ (∀ j, j < i → W.toList ≠ namesK.getD j []) ∧ RS wr rb s a v 0 0 ∧ GB rb w wr ∧ wr.heap[w.heap.size]? = some (.cells #[.string ⟨#[110, 117, 108, 108]⟩, .string ⟨#[102, 97, 108, 115, 101]⟩, .string ⟨#[116, 114, 117, 101]⟩] 9 (0, 0))) (fun vi _ => 3 - (intOf vi).toNat)
  all_goals try (case atStart => exact ⟨0, rfl, by omega, fun j hj => absurd hj (Nat.not_lt_zero j), (h.drewN _).alloc _, (g0.drewN _).alloc _, heap_alloc_new _ _⟩)
  all_goals
    obtain ⟨i, rfl, hi, hne, hR, hG, hN⟩ := hrel
    have HNE := Lib.hid hne
    clear hne c0 c1 c2 c3 c4
    obtain ⟨c0, c1, c2, c3, c4⟩ := hR.cells
    have f1 := hR.frozen 1
    have y0 := Lib.cell_of_heap hN 0
    have y1 := Lib.cell_of_heap hN 1
    have y2 := Lib.cell_of_heap hN 2
    have hcs : i = 0 ∨ i = 1 ∨ i = 2 ∨ i = 3 := by omega
    rcases hcs with rfl | rfl | rfl | rfl
    · by_cases hw : W.toList = [110, 117, 108, 108]
      · have HE : Hid (X = some 1) := Lib.hid (by rw [HX.out, ← ByteArray.toList_eq, hw]; rfl)
        have e1 : (W.toList == [110, 117, 108, 108]) = true := by simp [hw]
        go_wp2_with fail
        go_ret
        exact ⟨by rw [HE.out]; exact ⟨rfl, hR.s1 (a + m)⟩, hG.set 1 _⟩
      · have e1 : (W.toList == [110, 117, 108, 108]) = false := beq_false_of_ne hw
        have HN2 : Hid (∀ j, j < 1 → W.toList ≠ namesK.getD j []) := Lib.hid (fun j hj => by
          rcases Nat.lt_or_ge j 0 with h | h
          · exact HNE.out j h
          · have : j = 0 := by omega
            subst this
            exact hw)
        clear hw
        go_wp2_with fail
        go_roundw
        case rel => exact ⟨1, rfl, by omega, HN2.out, hR, hG, hN⟩
        case measure => simp [intOf]
    · by_cases hw : W.toList = [102, 97, 108, 115, 101]
      · have HE : Hid (X = some 2) := Lib.hid (by rw [HX.out, ← ByteArray.toList_eq, hw]; rfl)
        have e1 : (W.toList == [102, 97, 108, 115, 101]) = true := by simp [hw]
        go_wp2_with fail
        go_ret
        exact ⟨by rw [HE.out]; exact ⟨rfl, hR.s1 (a + m)⟩, hG.set 1 _⟩
      · have e1 : (W.toList == [102, 97, 108, 115, 101]) = false := beq_false_of_ne hw
        have HN2 : Hid (∀ j, j < 2 → W.toList ≠ namesK.getD j []) := Lib.hid (fun j hj => by
          rcases Nat.lt_or_ge j 1 with h | h
          · exact HNE.out j h
          · have : j = 1 := by omega
            subst this
            exact hw)
        clear hw
        go_wp2_with fail
        go_roundw
        case rel => exact ⟨2, rfl, by omega, HN2.out, hR, hG, hN⟩
        case measure => simp [intOf]
    · by_cases hw : W.toList = [116, 114, 117, 101]
      · have HE : Hid (X = some 3) := Lib.hid (by rw [HX.out, ← ByteArray.toList_eq, hw]; rfl)
        have e1 : (W.toList == [116, 114, 117, 101]) = true := by simp [hw]
        go_wp2_with fail
        go_ret
        exact ⟨by rw [HE.out]; exact ⟨rfl, hR.s1 (a + m)⟩, hG.set 1 _⟩
      · have e1 : (W.toList == [116, 114, 117, 101]) = false := beq_false_of_ne hw
        have HN2 : Hid (∀ j, j < 3 → W.toList ≠ namesK.getD j []) := Lib.hid (fun j hj => by
          rcases Nat.lt_or_ge j 2 with h | h
          · exact HNE.out j h
          · have : j = 2 := by omega
            subst this
            exact hw)
        clear hw
        go_wp2_with fail
        go_roundw
        case rel => exact ⟨3, rfl, by omega, HN2.out, hR, hG, hN⟩
        case measure => simp [intOf]
    · have HE : Hid (X = none) := Lib.hid (by
        rw [HX.out, ← ByteArray.toList_eq]
        unfold wordK
        rw [if_neg (show ¬ W.toList = [110, 117, 108, 108] from HNE.out 0 (by omega)), if_neg (show ¬ W.toList = [102, 97, 108, 115, 101] from HNE.out 1 (by omega)), if_neg (show ¬ W.toList = [116, 114, 117, 101] from HNE.out 2 (by omega))])
      go_wp2_with (go_at_call 37; refine (cF _ hR).mono ?_; rintro e w2 ⟨rfl, h2, g2⟩)
      go_ret
      exact ⟨by rw [HE.out]; exact ⟨rfl, h2⟩, hG.trans g2⟩
end Go.Proofs.YtakdhfjlhkejdaaGreatDoor
