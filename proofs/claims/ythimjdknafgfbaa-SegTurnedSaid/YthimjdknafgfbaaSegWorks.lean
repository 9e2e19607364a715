/-
  CONTRACT of the laws' known case works (codicillaw07). No conditions.
-/
import Derived.Test.YthimjdknafgfbaaSegSize
set_option linter.unusedVariables false
namespace Go.Proofs.Ythimjdknafgfbaa
open Go.RowKit

theorem sumA : withSum [97] = [97, 67, 190, 183, 232] := by decide +kernel
theorem works_scan : scanL (frameL [97] ++ (frameL [98, 99] ++ (frameL [97]).take 5)) = ([[97], [98, 99]], 27, 70) := by
  have hr : readL ((frameL [97]).take 5) = ([], 0, 70) := read_cut (by decide) (by decide)
  have hne : (frameL [97]).take 5 ≠ [] := by
    intro e
    have := congrArg List.length e
    rw [List.length_take, frameL_len] at this
    simp at this
  rw [scan_frame (by decide), scan_frame (by decide), scan_bad hne (by rw [hr]; decide), hr]
  rfl
set_option maxRecDepth 10000000 in
set_option maxHeartbeats 2000000 in
theorem works_any (w : World) : Calls Try.prog 7 #[] w fun e w' => e = .returned (.bool true) ∧ Below w.heap.size w w' := by
  have cA := fun w => frame_any ⟨#[97]⟩ w (by decide)
  have cB := fun w => frame_any ⟨#[98, 99]⟩ w (by decide)
  obtain ⟨fa, hfa⟩ : ∃ fa, fa = bOf (frameL [97]) := ⟨_, rfl⟩
  obtain ⟨fb, hfb⟩ : ∃ fb, fb = bOf (frameL [98, 99]) := ⟨_, rfl⟩
  have la : fa.data.toList = frameL [97] := by rw [hfa, bOf_list]
  have lb : fb.data.toList = frameL [98, 99] := by rw [hfb, bOf_list]
  have sa : (fa.size : Int) = 13 := by rw [hfa, bOf_size, frameL_len]; rfl
  have sb : fb.size = 14 := by rw [hfb, bOf_size, frameL_len]; rfl
  have cA : ∀ w, Calls Try.prog 8 #[.string ⟨#[97]⟩] w fun e w' => e = .returned (.tuple #[.string fa, .int .i64 0]) ∧ Below w.heap.size w w' := by rw [hfa]; exact cA
  have cB : ∀ w, Calls Try.prog 8 #[.string ⟨#[98, 99]⟩] w fun e w' => e = .returned (.tuple #[.string fb, .int .i64 0]) ∧ Below w.heap.size w w' := by rw [hfb]; exact cB
  have hlx : (fa ++ fb ++ fa.extract 0 5).data.toList = frameL [97] ++ (frameL [98, 99] ++ (frameL [97]).take 5) := by
    rw [ByteArray.data_append, Array.toList_append, ByteArray.data_append, Array.toList_append, ext_list, la, lb, List.append_assoc]
    rfl
  have cS := fun w => scan_any (fa ++ fb ++ fa.extract 0 5) w (by rw [ByteArray.size_append, ByteArray.size_append, sb, ext_size _ _ _ (by omega)]; omega)
  rw [hlx, works_scan] at cS
  have hsv : ∀ v, scanV (frameL [97] ++ (frameL [98, 99] ++ (frameL [97]).take 5)) v = .returned (.tuple #[v, .int .i64 ((27 : Nat) : Int), .int .i64 70]) := fun v => scanV_of works_scan
  simp only [hsv] at cS
  have cR := fun w => read_any fb w (by omega)
  have hrv : readV fb.data.toList = .returned (.tuple #[.string (bOf [98, 99]), .int .i64 ((14 : Nat) : Int), .int .i64 0]) := by
    rw [lb]
    have := read_frame (t := [98, 99]) (by decide) []
    rw [List.append_nil] at this
    exact readV_of this
  rw [hrv] at cR
  have hq : (fa.extract 8 fa.size).toList = [97, 67, 190, 183, 232] := by
    rw [show fa.size = 13 by omega, Lib.toList_data, ext_list, la]
    have := frame_drop8 [97] []
    rw [List.append_nil, List.append_nil, sumA] at this
    rw [this]
    rfl
  have hbc : (bOf [98, 99]).toList = [98, 99] := by rw [Lib.toList_data]; rfl
  have e1 : ¬ 9223372036854775807 < fa.size + fb.size := by omega
  have e2 : ¬ 9223372036854775807 < (fa ++ fb).size + (fa.extract 0 5).size := by rw [ByteArray.size_append, ext_size _ _ _ (by omega)]; omega
  have acc : Below w.heap.size w w := Below.refl _ _
  clear hfa hfb la lb hlx hsv hrv
  go_enter Try.func7, Try.ntmps7
  go_wp2_with (first
    | (go_at_call_of 8 (Value.string ⟨#[97]⟩); refine (cA _).mono ?_; rintro e w1 ⟨rfl, hb⟩; have acc := acc.trans (hb.mono acc.size); clear hb)
    | (go_at_call_of 8 (Value.string ⟨#[98, 99]⟩); refine (cB _).mono ?_; rintro e w1 ⟨rfl, hb⟩; have acc := acc.trans (hb.mono acc.size); clear hb)
    | (go_at_call 12; refine (cS _).mono ?_; rintro e w1 ⟨v, rfl, hO, hb⟩; have acc := acc.trans (hb.mono acc.size); clear hb; obtain ⟨av, cv, rfl, hform⟩ := hO.form; obtain ⟨b1, rfl, hb1, hc1⟩ := hform 1 (by decide); have hc1 := hc1.trans rfl)
    | (go_at_call 10; refine (cR _).mono ?_; rintro e w2 ⟨rfl, hb⟩; have hc2 := (hb.cell (p := ⟨b1, 1, none⟩) hb1).trans hc1; have acc := acc.trans (hb.mono acc.size); clear hb))
  go_ret
  exact ⟨rfl, acc⟩
end Go.Proofs.Ythimjdknafgfbaa
