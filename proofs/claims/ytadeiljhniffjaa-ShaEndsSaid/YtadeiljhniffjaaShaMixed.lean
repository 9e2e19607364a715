/-
  CONTRACT of sha.mixed.
-/
import Derived.Test.YtadeiljhniffjaaShaRow
namespace Go.Proofs.Ytadeiljhniffjaa
open Go.RowKit

theorem box1m (w : World) (x y : Value) (t : TypeId) : ((w.alloc (.cells #[x] t)).alloc (.cells #[y] t)).cell? ⟨w.heap.size, 0, none⟩ = some x := by
  rw [cell_of_row _ _ 0 _ t (0, 0) (heap_alloc2_old w _ _)]
  rfl
theorem box2m (w : World) (x y : Value) (t : TypeId) : ((w.alloc (.cells #[x] t)).alloc (.cells #[y] t)).cell? ⟨w.heap.size + 1, 0, none⟩ = some y := by
  rw [cell_of_row _ _ 0 _ t (0, 0) (heap_alloc2_new w _ _)]
  rfl
set_option maxRecDepth 10000000 in
set_option maxHeartbeats 2000000 in
theorem mixed_any (a b c d e f g h : Int) (W K : List Int) (bw bk : Nat) (w : World) (hW : AR .u32 31 w bw W) (hK : AR .u32 31 w bk K) (lW : W.length = 64) (lK : K.length = 64) :
    Calls Try.prog 22 #[.agg #[.int .u32 a, .int .u32 b, .int .u32 c, .int .u32 d, .int .u32 e, .int .u32 f, .int .u32 g, .int .u32 h], .pointer (some ⟨bw, 0, none⟩), .pointer (some ⟨bk, 0, none⟩)] w
      fun r w' => r = .returned (.agg ((mixN K W 64 [a, b, c, d, e, f, g, h]).map (Value.int .u32)).toArray) ∧ Below w.heap.size w w' := by
  obtain ⟨H, hH⟩ : ∃ H, H = [a, b, c, d, e, f, g, h] := ⟨_, rfl⟩
  rw [← hH]
  have HH := Lib.hid hH
  clear hH
  go_enter Try.func22, Try.ntmps22
  go_wp2
  go_quiet (fail)
  go_wp2
  go_loopw [7, 8, 9, 10, 11, 12, 13, 14, 36] (fun va vb vc vd ve vf vg vh v wr => ∃ (t : Nat) (a b c d e f g h : Int), v = .int .i64 t ∧ t ≤ 64 ∧ [a, b, c, d, e, f, g, h] = mixN K W t H ∧ va = .int .u32 a ∧ vb = .int .u32 b ∧ vc = .int .u32 c ∧ vd = .int .u32 d ∧ ve = .int .u32 e ∧ vf = .int .u32 f ∧ vg = .int .u32 g ∧ vh = .int .u32 h ∧
      AR .u32 33 wr (w.heap.size + 1) (List.replicate 8 0) ∧ Below w.heap.size w wr) (fun _ _ _ _ _ _ _ _ v _ => 64 - (intOf v).toNat)
  case atStart => exact ⟨0, a, b, c, d, e, f, g, h, rfl, by omega, HH.out.symm, rfl, rfl, rfl, rfl, rfl, rfl, rfl, rfl, heap_alloc2_new _ _ _, below_drewN (((Below.refl _ _).alloc (Nat.le_refl _) _).alloc (by simp) _) _⟩
  case round =>
    obtain ⟨t, a, b, c, d, e, f, g, h, rfl, ht, hM, rfl, rfl, rfl, rfl, rfl, rfl, rfl, rfl, hR, hB⟩ := hrel
    have HM := Lib.hid hM
    clear hM
    by_cases hlt : t < 64
    · have hcW := (hW.below hB hW.lt).cell (j := t) (by omega)
      have hcK := (hK.below hB hK.lt).cell (j := t) (by omega)
      obtain ⟨x, hx⟩ : ∃ x, x = W.getD t 0 := ⟨_, rfl⟩
      obtain ⟨k, hk⟩ : ∃ x, x = K.getD t 0 := ⟨_, rfl⟩
      rw [← hx] at hcW
      rw [← hk] at hcK
      have hcW2 := (cell_of_below ((((Below.refl wr.heap.size wr).alloc (Nat.le_refl _) (.cells #[.int .u32 a] 30)).alloc (by simp) (.cells #[.int .u32 e] 30))) hcW)
      have hcK2 := (cell_of_below ((((Below.refl wr.heap.size wr).alloc (Nat.le_refl _) (.cells #[.int .u32 a] 30)).alloc (by simp) (.cells #[.int .u32 e] 30))) hcK)
      have X := Lib.hid hx
      have Y := Lib.hid hk
      clear hx hk
      have hb1 := box1m wr (.int .u32 a) (.int .u32 e) 30
      have hb2 := box2m wr (.int .u32 a) (.int .u32 e) 30
      go_wp2_with (first | (go_at_call 27; refine (turned_any _ _).mono ?_; rintro e w' ⟨rfl, rfl⟩))
      go_quiet ((go_at_call 32; exact spin_quiet e _ _ _ _ hb2 (by decide) (by decide)))
      go_wp2_with (go_at_call 32; refine (spin_at a _ _ _ _ hb1 ?_ (by decide) (by decide)).mono ?_; rfl; rintro e w' ⟨rfl, rfl⟩)
      go_roundw
      case rel =>
        refine ⟨t + 1, _, a, b, c, _, e, f, g, by go_num, by omega, ?_, rfl, rfl, rfl, rfl, rfl, rfl, rfl, rfl, ?_, ?_⟩
        · rw [mixN, ← HM.out, ← X.out, ← Y.out]
          rfl
        · exact (hR.alloc _).alloc _
        · exact below_drewN ((hB.alloc hB.size _).alloc (by have := hB.size; simp; omega) _) _
      case measure => simp [intOf]; omega
    · have h64 : t = 64 := by omega
      rw [h64] at HM
      clear h64
      have A9 := hR.row [a, b, c, d, e, f, g, h]
      have B9 : Below w.heap.size w (wr.setRow (w.heap.size + 1) ([a, b, c, d, e, f, g, h].map (Value.int .u32)).toArray) := below_row hB (Nat.le_succ _) _
      go_wp2_with (refine wpList_store_row rfl 33 _ _ rfl (w.heap.size + 1) ([a, b, c, d, e, f, g, h].map (Value.int .u32)).toArray rfl rfl 33 _ hR Try.size8 (by simp) (AR.all _ _) ?_)
      refine bodyPost_ret (v := .agg ([a, b, c, d, e, f, g, h].map (Value.int .u32)).toArray) ?_ rfl ⟨by rw [HM.out], B9⟩
      exact results_cell_row rfl _ _ (w.heap.size + 1) 33 _ (0, 0) _ rfl A9 Try.underlying33 rfl Try.size8
end Go.Proofs.Ytadeiljhniffjaa
