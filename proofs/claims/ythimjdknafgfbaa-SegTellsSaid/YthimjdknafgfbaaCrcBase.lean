/-
  CONTRACTS of package crc's small functions. No conditions.
-/
import Derived.Test.YthimjdknafgfbaaArr
import Derived.Test.YthimjdknafgfbaaCrcMath
namespace Go.Proofs.Ythimjdknafgfbaa
open Go.RowKit

theorem ret_int {k : IntKind} {a b : Int} (h : a = b) : Ending.returned (.int k a) = .returned (.int k b) := by rw [h]
theorem vI_shr1 (x : B32) : vI x / (2 : Int) = vI (x >>> 1) := by rw [vI_shr]; rfl
theorem vI_poly : vI polyB = 3988292384 := by decide
theorem shI_eq (x : B32) : bits .xor .u32 (vI x / (2 : Int)) (3988292384 * bits .and .u32 (vI x) 1 % 4294967296) = vI (shB x) := by
  rw [shB_mul, ← vI_one, vI_and, and_one, ← vI_poly, ← vI_mul, vI_shr1, vI_xor]
theorem shifted_any (x : B32) (w : World) :
    Calls Try.prog 33 #[.int .u32 (vI x)] w fun e w' => e = .returned (.int .u32 (vI (shB x))) ∧ w = w' := by
  have E := Lib.hid (shI_eq x)
  obtain ⟨h0, h1⟩ := vI_rng x
  generalize vI x = v at *
  go_enter Try.func33, Try.ntmps33
  go_wp2
  go_ret
  exact ⟨ret_int E.out, rfl⟩

/-- the table of half bytes -/
def movI (i : Nat) : Int := vI (shN 4 (BitVec.ofNat 32 i))
def movL (n : Nat) : List Int := (List.range n).map movI ++ List.replicate (16 - n) 0
theorem movL_len {n : Nat} (h : n ≤ 16) : (movL n).length = 16 := by unfold movL; simp; omega
theorem movL_on {n : Nat} (h : n < 16) : (movL n).set n (movI n) = movL (n + 1) := by
  unfold movL
  rw [List.set_append_right _ _ (by simp), List.range_succ, List.map_append, List.append_assoc]
  congr 1
  rw [List.length_map, List.length_range, Nat.sub_self, show 16 - n = (16 - (n + 1)) + 1 by omega, List.replicate_succ, List.set_cons_zero]
  rfl
theorem movL_get {i : Nat} (h : i < 16) : (movL 16).getD i 0 = movI i := by
  unfold movL
  simp [List.getD, h]
theorem Try.size16 : (Try.prog.info? 55).map (·.size) = some 16 := by kernel_rfl
theorem halfMoves_any (w : World) :
    Calls Try.prog 32 #[] w fun e w' => e = .returned (.agg ((movL 16).map (Value.int .u32)).toArray) ∧ Below w.heap.size w w' := by
  go_enter Try.func32, Try.ntmps32
  go_wp2
  go_loopw [4] (fun v wr => ∃ (n : Nat), v = .int .i64 n ∧ n ≤ 16 ∧ AR .u32 55 wr (w.heap.size + 1) (movL n) ∧ Below (w.heap.size + 1) (w.alloc (.cells ((List.replicate 16 0).map (Value.int .u32)).toArray 55)) wr) (fun v _ => 16 - (intOf v).toNat)
  case atStart => exact ⟨0, rfl, by omega, heap_alloc2_new _ _ _, (Below.refl _ _).alloc (by simp) _⟩
  case round =>
    obtain ⟨n, rfl, hn, hA, hB⟩ := hrel
    by_cases h : n < 16
    · have hf := hA.free n
      obtain ⟨x, hx⟩ : ∃ x : B32, vI x = (n : Int) ∧ x = BitVec.ofNat 32 n := ⟨_, by unfold vI; rw [BitVec.toNat_ofNat]; omega, rfl⟩
      obtain ⟨hx, hx2⟩ := hx
      have X := Lib.hid hx
      have X2 := Lib.hid hx2
      have hlen := movL_len hn
      have hd : decide ((n : Int) < 16) = true := by simp; omega
      have hc := hA.cell (j := n) (by omega)
      clear hx hx2
      go_wp2
      go_loop [3, 9] (fun vr v => ∃ k : Nat, v = .int .i64 k ∧ k ≤ 4 ∧ vr = .int .u32 (vI (shN k x))) (fun _ v => 4 - (intOf v).toNat)
      case atStart => exact ⟨0, rfl, by omega, by show _ = Value.int .u32 (vI x); rw [X.out]⟩
      case round =>
        obtain ⟨k, rfl, hk, rfl⟩ := hrel
        by_cases hk4 : k < 4
        · go_wp2_with (go_at_call 33; refine (shifted_any _ _).mono ?_; rintro e w' ⟨rfl, rfl⟩)
          go_round
          case rel => exact ⟨k + 1, by go_num, by omega, rfl⟩
          case measure => simp [intOf]; omega
        · obtain rfl : k = 4 := by omega
          go_wp2
          go_roundw
          case rel =>
            refine ⟨n + 1, by go_num, by omega, ?_, ?_⟩
            · rw [← movL_on h]
              unfold movI
              rw [← X2.out]
              exact hA.set n _
            · exact (hB.setCell (p := ⟨w.heap.size + 1, n, none⟩) (Nat.le_refl _) _)
          case measure => simp [intOf]; omega
    · obtain rfl : n = 16 := by omega
      have hlen := Lib.hid (movL_len (Nat.le_refl 16))
      have hres : AR .u32 55 wr w.heap.size (List.replicate 16 0) := (hB.block _ (by omega)).trans (heap_alloc_new w _)
      have A9 := hres.row (movL 16)
      have B9 : Below w.heap.size w (wr.setRow w.heap.size ((movL 16).map (Value.int .u32)).toArray) := below_row (((Below.refl _ _).alloc (Nat.le_refl _) _).trans (hB.mono (Nat.le_succ _))) (Nat.le_refl _) _
      go_wp2_with (first | (refine wpList_load_row rfl 55 _ rfl (w.heap.size + 1) rfl 55 _ (0, 0) _ hA Try.underlying55 rfl (Try.size16.trans (congrArg some (AR.size _ _ hlen.out).symm)) ?_) | (refine wpList_store_row rfl 55 _ _ rfl w.heap.size _ rfl rfl 55 _ hres (Try.size16.trans (congrArg some (AR.size _ _ hlen.out).symm)) (by simp [hlen.out]) (AR.all _ _) ?_))
      refine bodyPost_ret (v := .agg ((movL 16).map (Value.int .u32)).toArray) ?_ rfl ⟨rfl, B9⟩
      exact results_cell_row rfl _ _ w.heap.size 55 _ (0, 0) _ rfl A9 Try.underlying55 rfl (Try.size16.trans (congrArg some (AR.size _ _ hlen.out).symm))
end Go.Proofs.Ythimjdknafgfbaa
