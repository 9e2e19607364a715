/-
  CONTRACTS of sha's constants, initial, written.
-/
import Derived.Test.YtadeiljhniffjaaShaApp
namespace Go.Proofs.Ytadeiljhniffjaa
open Go.RowKit
theorem ret_str {a b : ByteArray} (h : a = b) : Ending.returned (.string a) = .returned (.string b) := by rw [h]

set_option maxRecDepth 10000000 in
theorem initial_any (w : World) :
    Calls Try.prog 15 #[] w fun r w' => r = .returned (.agg (hL.map (Value.int .u32)).toArray) ∧ Below w.heap.size w w' := by
  have A0 : AR .u32 33 (w.alloc (.cells ((List.replicate 8 0).map (Value.int .u32)).toArray 33)) w.heap.size (List.replicate 8 0) := heap_alloc_new w _
  have A9 := A0.row hL
  go_enter Try.func15, Try.ntmps15
  go_wp2_with (first | (refine wpList_build rfl 33 _ rfl (by kernel_rfl) ?_) | (refine wpList_store_row rfl 33 (.tmp 0) _ rfl w.heap.size (hL.map (Value.int .u32)).toArray rfl (by kernel_rfl) 33 _ A0 Try.size8 rfl (AR.all _ _) ?_))
  refine bodyPost_ret (v := .agg (hL.map (Value.int .u32)).toArray) ?_ rfl ⟨rfl, below_row ((Below.refl _ _).alloc (Nat.le_refl _) _) (Nat.le_refl _) _⟩
  exact results_cell_row rfl _ _ w.heap.size 33 _ (0, 0) _ rfl A9 Try.underlying33 rfl Try.size8

set_option maxRecDepth 10000000 in
theorem constants_any (w : World) :
    Calls Try.prog 13 #[] w fun r w' => r = .returned (.agg (kL.map (Value.int .u32)).toArray) ∧ Below w.heap.size w w' := by
  have A0 : AR .u32 31 (w.alloc (.cells ((List.replicate 64 0).map (Value.int .u32)).toArray 31)) w.heap.size (List.replicate 64 0) := heap_alloc_new w _
  have A9 := A0.row kL
  go_enter Try.func13, Try.ntmps13
  go_wp2_with (first | (refine wpList_build rfl 31 _ rfl (by kernel_rfl) ?_) | (refine wpList_store_row rfl 31 (.tmp 0) _ rfl w.heap.size (kL.map (Value.int .u32)).toArray rfl (by kernel_rfl) 31 _ A0 Try.size64 rfl (AR.all _ _) ?_))
  refine bodyPost_ret (v := .agg (kL.map (Value.int .u32)).toArray) ?_ rfl ⟨rfl, below_row ((Below.refl _ _).alloc (Nat.le_refl _) _) (Nat.le_refl _) _⟩
  exact results_cell_row rfl _ _ w.heap.size 31 _ (0, 0) _ rfl A9 Try.underlying31 rfl Try.size64

set_option maxHeartbeats 1000000 in
set_option maxRecDepth 10000000 in
theorem written_any (H : List Int) (w : World) (lH : H.length = 8) :
    Calls Try.prog 17 #[.agg (H.map (Value.int .u32)).toArray] w fun r w' => r = .returned (.string (strOfNums (outN H))) ∧ Below w.heap.size w w' := by
  have LH := Lib.hid lH
  clear lH
  have hmk : ∀ w, (Instr.makeSlice 25 (.int .i64 0) (.int .i64 32)).run Try.prog w = .ok (.slice (some ⟨w.heap.size, 0, none⟩) 0 32) (w.alloc (.cells (List.replicate 32 (Value.int .u8 0)).toArray 5)) := fun _ => by kernel_rfl
  have A0 : AR .u32 33 (w.alloc (.cells (H.map (Value.int .u32)).toArray 33)) w.heap.size H := heap_alloc_new w _
  have A1 := A0.alloc (.cells (List.replicate 32 (Value.int .u8 0)).toArray 5)
  have hsz := Try.size8.trans (congrArg some (AR.size .u32 H LH.out).symm)
  go_enter Try.func17, Try.ntmps17
  go_wp2_with (first | (refine wpList_load_row rfl 33 (.tmp 1) rfl w.heap.size rfl 33 _ (0, 0) _ A1 Try.underlying33 rfl hsz ?_))
  go_loopw [3, 8] (fun v i wr => ∃ (j : Nat), i = .int .i64 j ∧ j ≤ 8 ∧ OW 5 .u8 wr w.heap.size v (outN (H.take j)) ∧ Below w.heap.size w wr) (fun _ i _ => 8 - (intOf i).toNat)
  case atStart => exact ⟨0, rfl, by omega, ⟨rfl, .inr ⟨w.heap.size + 1, 32, _, rfl, Nat.le_succ _, heap_alloc2_new _ _ _, by simp [outN], by decide, by simp, by simp [outN]⟩⟩, ((Below.refl _ _).alloc (Nat.le_refl _) _).alloc (by simp) _⟩
  case round =>
    clear A0 A1 hsz hmk
    obtain ⟨j, rfl, hj, hO, hB⟩ := hrel
    by_cases hlt : j < 8
    · have hix := fun (wy : World) => run_index_row 33 30 8 .u32 H j wy Try.underlying33 Try.underlying30 (by kernel_rfl) LH.out hlt
      have EE := fun (x : Int) => Lib.hid (@outN_on H j x (by rw [LH.out]; exact hlt))
      obtain ⟨x, hx⟩ : ∃ x, x = H.getD j 0 := ⟨_, rfl⟩
      rw [← hx] at hix
      have E1 := Lib.hid ((EE x).out hx)
      have hle : (outN (H.take j)).length ≤ 32 := by rw [outN_len, List.length_take]; omega
      generalize outN (H.take j) = xs at hO E1 hle
      clear hx EE
      go_wp2_with (at_builtin; refine wp_app el8 rfl (.tmp 11) (.tmp 23) rfl rfl hO (by4 x) 4 rfl rfl (by omega) (by decide) hB.size ?_; intro v' w1 hO1 hb1)
      go_roundw
      case rel => exact ⟨j + 1, by go_num, by omega, by rw [← E1.out]; exact hO1, hB.trans hb1⟩
      case measure => simp [intOf]; omega
    · have h8 : j = 8 := by omega
      have hcv := conv_own hO
      rw [h8, List.take_of_length_le (by rw [LH.out]; omega)] at hcv
      clear h8
      go_wp2
      go_ret
      exact ⟨rfl, hB⟩
end Go.Proofs.Ytadeiljhniffjaa
