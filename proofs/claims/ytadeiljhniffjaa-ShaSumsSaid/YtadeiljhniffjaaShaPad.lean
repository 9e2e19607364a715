/-
  CONTRACT of sha.padding.
-/
import Derived.Test.YtadeiljhniffjaaShaSmall
namespace Go.Proofs.Ytadeiljhniffjaa
open Go.RowKit
theorem made_own {w : World} {B g n : Nat} (h : w.ownsRow B 5 1 (.slice (some ⟨g, 0, none⟩) n n) n (madeCells (Value.int .u8 0).cells (n * 1)).toList) :
    OW 5 .u8 w B (.slice (some ⟨g, 0, none⟩) (List.replicate n (0 : Int)).length n) (List.replicate n 0) := by
  unfold OW
  rw [List.length_replicate, List.map_replicate]
  rw [Nat.mul_one] at h
  have e : (madeCells (Value.int .u8 0).cells n).toList = List.replicate n (Value.int .u8 0) := toList_madeCells_one _ n
  rw [e] at h
  exact h
set_option maxHeartbeats 1000000 in
set_option maxRecDepth 10000000 in
theorem padding_any (n : Nat) (w : World) (hn : n ≤ maxLen) :
    Calls Try.prog 16 #[.int .i64 n] w fun r w' => r = .returned (.string (strOfNums (padI n))) ∧ Below w.heap.size w w' := by
  unfold maxLen at hn
  obtain ⟨i0, hi, hz0, hz1, hz2⟩ := info_parts el8.hi
  obtain ⟨Z, hZ⟩ : ∃ Z, Z = szP n := ⟨_, rfl⟩
  have hr := szP_rng n
  have hz9 : 9 ≤ Z := by omega
  have hz72 : Z ≤ 72 := by omega
  by_cases hs : 64 - n % 64 < 9
  · have hc : 64 - (n : Int) % 64 + 64 = (Z : Int) := by unfold szP at hZ; rw [if_pos hs] at hZ; omega
    have HZ := Lib.hid hZ
    have hs' : 64 - (n : Int) % 64 < 9 := by omega
    clear hr hZ hs
    go_enter Try.func16, Try.ntmps16
    go_wp2_with (first | (refine wpList_make_full _ rfl (.tmp 16) (.tmp 16) 25 rfl w.heap.size 5 i0 (.int .u8 0) 1 el8.ht hi hz0 hz1 .i64 .i64 _ _ Z rfl rfl rfl rfl (by rw [hz2]; omega) (by unfold maxLen; omega) (Nat.le_refl _) ?_; intro w1 hO hg; have hO := made_own hO; have hx0 := hO.cell (j := 0) (by simp; omega); have hf0 := hO.free 0; have hO := hO.set 0 128; have hb := (((Below.refl w.heap.size w).grown hg (Nat.le_refl _) (fun k hk => by cases hk))).setCell (p := ⟨w.heap.size, 0, none⟩) (Nat.le_refl _) (.int .u8 128); clear hg))
    clear hx0 hf0 hs' hc
    go_loopw [23] (fun v wr => ∃ (j : Nat) (L : List Int), v = .int .i64 j ∧ j ≤ 8 ∧ PadAt n L j ∧ OW 5 .u8 wr w.heap.size (.slice (some ⟨w.heap.size, 0, none⟩) L.length Z) L ∧ Below w.heap.size w wr) (fun v _ => 8 - (intOf v).toNat)
    case atStart => exact ⟨0, _, rfl, by omega, by rw [HZ.out]; exact PadAt.start n, hO, hb⟩
    case round =>
      clear hO hb
      obtain ⟨j, L, rfl, hj, hP, hO, hB⟩ := hrel
      have hL : L.length = Z := hP.len.trans HZ.out.symm
      by_cases hlt : j < 8
      · have hc0 := hO.cell (j := Z - 1 - j) (by omega)
        have hf0 := hO.free (Z - 1 - j)
        have PP := Lib.hid (hP.on hlt)
        clear hP hL
        go_wp2
        go_roundw
        case rel =>
          have P' := PP.out
          rw [← HZ.out] at P'
          exact ⟨j + 1, _, by go_num, by omega, P', hO.set (Z - 1 - j) _, hB.setCell (p := ⟨w.heap.size, Z - 1 - j, none⟩) (Nat.le_refl _) _⟩
        case measure => simp [intOf]; omega
      · have h8 : j = 8 := by omega
        have hcv := conv_own hO
        rw [h8] at hP
        have hF := hP.done
        rw [hL, hF] at hcv
        clear hP hF h8
        go_wp2
        go_ret
        exact ⟨rfl, hB⟩
  · have hc : 64 - (n : Int) % 64 = (Z : Int) := by unfold szP at hZ; rw [if_neg hs] at hZ; omega
    have HZ := Lib.hid hZ
    clear hr hZ hs
    go_enter Try.func16, Try.ntmps16
    go_wp2_with (first | (refine wpList_make_full _ rfl (.tmp 16) (.tmp 16) 25 rfl w.heap.size 5 i0 (.int .u8 0) 1 el8.ht hi hz0 hz1 .i64 .i64 _ _ Z rfl rfl rfl rfl (by rw [hz2]; omega) (by unfold maxLen; omega) (Nat.le_refl _) ?_; intro w1 hO hg; have hO := made_own hO; have hx0 := hO.cell (j := 0) (by simp; omega); have hf0 := hO.free 0; have hO := hO.set 0 128; have hb := (((Below.refl w.heap.size w).grown hg (Nat.le_refl _) (fun k hk => by cases hk))).setCell (p := ⟨w.heap.size, 0, none⟩) (Nat.le_refl _) (.int .u8 128); clear hg))
    clear hx0 hf0 hc
    go_loopw [23] (fun v wr => ∃ (j : Nat) (L : List Int), v = .int .i64 j ∧ j ≤ 8 ∧ PadAt n L j ∧ OW 5 .u8 wr w.heap.size (.slice (some ⟨w.heap.size, 0, none⟩) L.length Z) L ∧ Below w.heap.size w wr) (fun v _ => 8 - (intOf v).toNat)
    case atStart => exact ⟨0, _, rfl, by omega, by rw [HZ.out]; exact PadAt.start n, hO, hb⟩
    case round =>
      clear hO hb
      obtain ⟨j, L, rfl, hj, hP, hO, hB⟩ := hrel
      have hL : L.length = Z := hP.len.trans HZ.out.symm
      by_cases hlt : j < 8
      · have hc0 := hO.cell (j := Z - 1 - j) (by omega)
        have hf0 := hO.free (Z - 1 - j)
        have PP := Lib.hid (hP.on hlt)
        clear hP hL
        go_wp2
        go_roundw
        case rel =>
          have P' := PP.out
          rw [← HZ.out] at P'
          exact ⟨j + 1, _, by go_num, by omega, P', hO.set (Z - 1 - j) _, hB.setCell (p := ⟨w.heap.size, Z - 1 - j, none⟩) (Nat.le_refl _) _⟩
        case measure => simp [intOf]; omega
      · have h8 : j = 8 := by omega
        have hcv := conv_own hO
        rw [h8] at hP
        have hF := hP.done
        rw [hL, hF] at hcv
        clear hP hF h8
        go_wp2
        go_ret
        exact ⟨rfl, hB⟩
end Go.Proofs.Ytadeiljhniffjaa
