/-
  CONTRACTS of sha.Hex and of the document's Hex.
-/
import Derived.Test.YtadeiljhniffjaaShaSmall
import Derived.Test.YtadeiljhniffjaaShaHexM
import Derived.StillTailTactics
namespace Go.Proofs.Ytadeiljhniffjaa
open Go.RowKit
def digS : ByteArray := ⟨#[48, 49, 50, 51, 52, 53, 54, 55, 56, 57, 97, 98, 99, 100, 101, 102]⟩
theorem run_index_str (s : ByteArray) (i : Nat) (k : IntKind) (hi : i < s.size) (w : World) :
    (Instr.index 9 (.string s) (.int k i)).run Try.prog w = .ok (.int .u8 (byI s i)) w := by
  have e : byI s i = ((s[i]'hi).toNat : Int) := by
    unfold byI
    rw [List.getD_eq_getElem?_getD, List.getElem?_eq_getElem (by rw [← Lib.size_eq]; exact hi)]
    rfl
  rw [e]
  have h0 : (0 : Int) ≤ (i : Int) := by omega
  simp [Instr.index, run_underlying Try.underlying9, asIntOf, hi, go_sem]
theorem run_dig (d : Int) (h0 : 0 ≤ d) (h1 : d < 16) (w : World) :
    (Instr.index 9 (.string ⟨#[48, 49, 50, 51, 52, 53, 54, 55, 56, 57, 97, 98, 99, 100, 101, 102]⟩) (.int .u8 d)).run Try.prog w = .ok (.int .u8 (dgI d)) w := by
  obtain ⟨n, rfl⟩ := Int.eq_ofNat_of_zero_le h0
  rw [run_index_str ⟨#[48, 49, 50, 51, 52, 53, 54, 55, 56, 57, 97, 98, 99, 100, 101, 102]⟩ n .u8 (by show n < 16; omega)]
  have hn : n < 16 := by omega
  have e : ∀ m : Fin 16, byI ⟨#[48, 49, 50, 51, 52, 53, 54, 55, 56, 57, 97, 98, 99, 100, 101, 102]⟩ m.val = dgI (m.val : Nat) := by decide +kernel
  have := e ⟨n, hn⟩
  simp only at this
  rw [this]
theorem byI_rng (s : ByteArray) (k : Nat) : 0 ≤ byI s k ∧ byI s k < 256 := by
  unfold byI
  have := (s.data.toList.getD k 0).toNat_lt
  omega
theorem nI_at {s : ByteArray} {i : Nat} (h : i < s.size) : (nI s.data.toList).take i ++ [byI s i] = (nI s.data.toList).take (i + 1) := by
  have e : (nI s.data.toList)[i]? = some (byI s i) := by
    unfold nI byI
    rw [List.getElem?_map, List.getElem?_eq_getElem (by rw [← Lib.size_eq]; exact h), List.getD_eq_getElem?_getD, List.getElem?_eq_getElem (by rw [← Lib.size_eq]; exact h)]
    rfl
  rw [List.take_add_one, e]
  rfl

-- BEGIN
set_option linter.unusedSimpArgs false in
set_option maxHeartbeats 1000000 in
set_option maxRecDepth 10000000 in
theorem hex_any (s : ByteArray) (w : World) (hs : s.size ≤ 70368744177663) :
    Calls Try.prog 11 #[.string s] w fun r w' => r = .returned (.string (strOfNums (hexN (nI s.data.toList)))) ∧ Below w.heap.size w w' := by
  obtain ⟨i0, hi, hz0, hz1, hz2⟩ := info_parts el8.hi
  go_enter Try.func11, Try.ntmps11
  go_wp2_with (first | (refine wpList_make_own _ rfl (.const (.int .i64 0)) (.tmp 7) 25 rfl w.heap.size 5 i0 (.int .u8 0) 1 el8.ht hi hz0 hz1 .i64 .i64 _ (2 * s.size) rfl rfl (by omega) (by rw [hz2]; omega) (by unfold maxLen; omega) (Nat.le_refl _) ?_; intro w1 hO hg; have hb := ((Below.refl w.heap.size w).grown hg (Nat.le_refl _) (fun k hk => by cases hk)); clear hg))
  go_loopw [3, 11] (fun v i wr => ∃ (j : Nat), i = .int .i64 j ∧ j ≤ s.size ∧ OW 5 .u8 wr w.heap.size v (hexN ((nI s.data.toList).take j)) ∧ Below w.heap.size w wr) (fun _ i _ => s.size - (intOf i).toNat)
  case atStart => exact ⟨0, rfl, by omega, hO, hb⟩
  case round =>
    clear hO hb
    obtain ⟨j, rfl, hj, hO, hB⟩ := hrel
    by_cases hlt : j < s.size
    · have hx := fun w => run_index_str s j .i64 hlt w
      have hr := byI_rng s j
      have EE := Lib.hid (nI_at hlt)
      obtain ⟨x, ex⟩ : ∃ x, x = byI s j := ⟨_, rfl⟩
      rw [← ex] at hx hr EE
      obtain ⟨x0, x9⟩ := hr
      have hd1 := fun w => run_dig (x / 16) (by omega) (by omega) w
      have hd2 := fun w => run_dig (x % 16) (by omega) (by omega) w
      have hand : bits .and .u8 x 15 = x % 16 := u8_and15 _ x0 x9
      have hle : (hexN ((nI s.data.toList).take j)).length = 2 * j := by rw [hexN_len, List.length_take]; unfold nI; rw [List.length_map, ← Lib.size_eq]; omega
      clear ex
      go_wp2
      refine wp_region_any (by kernel_rfl) ?_
      change wpAny _ _ _ _ 14 _ _ (World.drew _)
      generalize hWd : World.drew wr = wd
      have hOd := hO.drew
      have hBd := hB.drew
      rw [hWd] at hOd hBd
      clear hWd hO hB
      refine wpAny_take (i := 0) (v := ?_) rfl (by kernel_rfl) (by kernel_rfl) (by kernel_rfl) (fun _ _ _ h => h) (Or.inl ⟨by rfl, ?_⟩) ?_
      rotate_left
      · intro wq
        go_simp
        try with_reducible rfl
      simp only [Act.put, List.setIfInBounds_toArray, List.set_cons_zero, List.set_cons_succ]
      refine wpAny_take (i := 1) (v := ?_) rfl (by kernel_rfl) (by kernel_rfl) (by kernel_rfl) (fun _ _ _ h => h) (Or.inl ⟨by rfl, ?_⟩) ?_
      rotate_left
      · intro wq
        go_simp
        try with_reducible rfl
      simp only [Act.put, List.setIfInBounds_toArray, List.set_cons_zero, List.set_cons_succ]
      refine wpAny_take (i := 2) (v := ?_) rfl (by kernel_rfl) (by kernel_rfl) (by kernel_rfl) (fun _ _ _ h => h) (Or.inl ⟨by rfl, ?_⟩) ?_
      rotate_left
      · intro wq
        go_simp
        try with_reducible rfl
      simp only [Act.put, List.setIfInBounds_toArray, List.set_cons_zero, List.set_cons_succ]
      refine wpAny_take (i := 3) (v := ?_) rfl (by kernel_rfl) (by kernel_rfl) (by kernel_rfl) (fun _ _ _ h => h) (Or.inl ⟨by rfl, ?_⟩) ?_
      rotate_left
      · intro wq
        go_simp
        try with_reducible rfl
      simp only [Act.put, List.setIfInBounds_toArray, List.set_cons_zero, List.set_cons_succ]
      refine wpAny_take (i := 4) (v := ?_) rfl (by kernel_rfl) (by kernel_rfl) (by kernel_rfl) (fun _ _ _ h => h) (Or.inl ⟨by rfl, ?_⟩) ?_
      rotate_left
      · intro wq
        go_simp
        try with_reducible rfl
      simp only [Act.put, List.setIfInBounds_toArray, List.set_cons_zero, List.set_cons_succ]
      refine wpAny_take (i := 5) (v := ?_) rfl (by kernel_rfl) (by kernel_rfl) (by kernel_rfl) (fun _ _ _ h => h) (Or.inl ⟨by rfl, ?_⟩) ?_
      rotate_left
      · intro wq
        go_simp
        try with_reducible rfl
      simp only [Act.put, List.setIfInBounds_toArray, List.set_cons_zero, List.set_cons_succ]
      refine wpAny_take (i := 6) (v := ?_) rfl (by kernel_rfl) (by kernel_rfl) (by kernel_rfl) (fun _ _ _ h => h) (Or.inl ⟨by rfl, ?_⟩) ?_
      rotate_left
      · intro wq
        go_simp
        try with_reducible rfl
      simp only [Act.put, List.setIfInBounds_toArray, List.set_cons_zero, List.set_cons_succ]
      refine wpAny_take (i := 7) (v := ?_) rfl (by kernel_rfl) (by kernel_rfl) (by kernel_rfl) (fun _ _ _ h => h) (Or.inl ⟨by rfl, ?_⟩) ?_
      rotate_left
      · intro wq
        go_simp
        try with_reducible rfl
      simp only [Act.put, List.setIfInBounds_toArray, List.set_cons_zero, List.set_cons_succ]
      refine wpAny_take (i := 8) (v := ?_) rfl (by kernel_rfl) (by kernel_rfl) (by kernel_rfl) (fun _ _ _ h => h) (Or.inl ⟨by rfl, ?_⟩) ?_
      rotate_left
      · intro wq
        go_simp
        try with_reducible rfl
      simp only [Act.put, List.setIfInBounds_toArray, List.set_cons_zero, List.set_cons_succ]
      refine wpAny_take (i := 9) (v := ?_) rfl (by kernel_rfl) (by kernel_rfl) (by kernel_rfl) (fun _ _ _ h => h) (Or.inl ⟨by rfl, ?_⟩) ?_
      rotate_left
      · intro wq
        go_simp
        try with_reducible rfl
      simp only [Act.put, List.setIfInBounds_toArray, List.set_cons_zero, List.set_cons_succ]
      refine wpAny_take (i := 10) (v := ?_) rfl (by kernel_rfl) (by kernel_rfl) (by kernel_rfl) (fun _ _ _ h => h) (Or.inl ⟨by rfl, ?_⟩) ?_
      rotate_left
      · intro wq
        go_simp
        try with_reducible rfl
      simp only [Act.put, List.setIfInBounds_toArray, List.set_cons_zero, List.set_cons_succ]
      refine any_one (i := 11) (by kernel_rfl) rfl (fun K hK => ?_)
      go_simp
      refine hK _ _ ?_
      clear hK K
      refine any_one (i := 12) (by kernel_rfl) rfl (fun K hK => ?_)
      rw [if_pos (by rfl)]
      refine op_app el8 (.tmp 14) (.tmp 25) rfl rfl hOd [dgI (x / 16), dgI (x % 16)] 2 rfl rfl (by omega) (by decide) hBd.size ?_
      intro v' w' hO' hB'
      refine hK _ _ ?_
      clear hK K
      refine any_one (i := 13) (by kernel_rfl) rfl (fun K hK => ?_)
      go_simp
      refine hK _ _ ?_
      clear hK K
      refine wpAny_done (by kernel_rfl) ?_ _
      go_wp2
      go_roundw
      case rel => exact ⟨j + 1, by go_num, by omega, by rw [← EE.out, hexN_app]; exact hO', hBd.trans hB'⟩
      case measure => simp [intOf]; omega
    · have h8 : j = s.size := by omega
      have hcv := conv_own hO
      rw [h8, List.take_of_length_le (by unfold nI; rw [List.length_map, ← Lib.size_eq]; omega)] at hcv
      clear h8
      go_wp2
      go_ret
      exact ⟨rfl, hB⟩
set_option linter.unusedSimpArgs false in
set_option maxHeartbeats 1000000 in
set_option maxRecDepth 10000000 in
theorem refHex_any (s : ByteArray) (w : World) (hs : s.size ≤ 70368744177663) :
    Calls Try.prog 12 #[.string s] w fun r w' => r = .returned (.string (strOfNums (hexN (nI s.data.toList)))) ∧ Below w.heap.size w w' := by
  obtain ⟨i0, hi, hz0, hz1, hz2⟩ := info_parts el8.hi
  go_enter Try.func12, Try.ntmps12
  go_wp2
  have hO : OW 5 .u8 w w.heap.size (.slice none 0 0) [] := OW.nil _ _ _ _
  have hb := Below.refl w.heap.size w
  go_loopw [3, 4] (fun v i wr => ∃ (j : Nat), i = .int .i64 j ∧ j ≤ s.size ∧ OW 5 .u8 wr w.heap.size v (hexN ((nI s.data.toList).take j)) ∧ Below w.heap.size w wr) (fun _ i _ => s.size - (intOf i).toNat)
  case atStart => exact ⟨0, rfl, by omega, hO, hb⟩
  case round =>
    clear hO hb
    obtain ⟨j, rfl, hj, hO, hB⟩ := hrel
    by_cases hlt : j < s.size
    · have hx := fun w => run_index_str s j .i64 hlt w
      have hr := byI_rng s j
      have EE := Lib.hid (nI_at hlt)
      obtain ⟨x, ex⟩ : ∃ x, x = byI s j := ⟨_, rfl⟩
      rw [← ex] at hx hr EE
      obtain ⟨x0, x9⟩ := hr
      have hd1 := fun w => run_dig (x / 16) (by omega) (by omega) w
      have hd2 := fun w => run_dig (x % 16) (by omega) (by omega) w
      have hand : bits .and .u8 x 15 = x % 16 := u8_and15 _ x0 x9
      have hle : (hexN ((nI s.data.toList).take j)).length = 2 * j := by rw [hexN_len, List.length_take]; unfold nI; rw [List.length_map, ← Lib.size_eq]; omega
      clear ex
      go_wp2
      refine wp_region_any (by kernel_rfl) ?_
      change wpAny _ _ _ _ 14 _ _ (World.drew _)
      generalize hWd : World.drew wr = wd
      have hOd := hO.drew
      have hBd := hB.drew
      rw [hWd] at hOd hBd
      clear hWd hO hB
      refine wpAny_take (i := 0) (v := ?_) rfl (by kernel_rfl) (by kernel_rfl) (by kernel_rfl) (fun _ _ _ h => h) (Or.inl ⟨by rfl, ?_⟩) ?_
      rotate_left
      · intro wq
        go_simp
        try with_reducible rfl
      simp only [Act.put, List.setIfInBounds_toArray, List.set_cons_zero, List.set_cons_succ]
      refine wpAny_take (i := 1) (v := ?_) rfl (by kernel_rfl) (by kernel_rfl) (by kernel_rfl) (fun _ _ _ h => h) (Or.inl ⟨by rfl, ?_⟩) ?_
      rotate_left
      · intro wq
        go_simp
        try with_reducible rfl
      simp only [Act.put, List.setIfInBounds_toArray, List.set_cons_zero, List.set_cons_succ]
      refine wpAny_take (i := 2) (v := ?_) rfl (by kernel_rfl) (by kernel_rfl) (by kernel_rfl) (fun _ _ _ h => h) (Or.inl ⟨by rfl, ?_⟩) ?_
      rotate_left
      · intro wq
        go_simp
        try with_reducible rfl
      simp only [Act.put, List.setIfInBounds_toArray, List.set_cons_zero, List.set_cons_succ]
      refine wpAny_take (i := 3) (v := ?_) rfl (by kernel_rfl) (by kernel_rfl) (by kernel_rfl) (fun _ _ _ h => h) (Or.inl ⟨by rfl, ?_⟩) ?_
      rotate_left
      · intro wq
        go_simp
        try with_reducible rfl
      simp only [Act.put, List.setIfInBounds_toArray, List.set_cons_zero, List.set_cons_succ]
      refine wpAny_take (i := 4) (v := ?_) rfl (by kernel_rfl) (by kernel_rfl) (by kernel_rfl) (fun _ _ _ h => h) (Or.inl ⟨by rfl, ?_⟩) ?_
      rotate_left
      · intro wq
        go_simp
        try with_reducible rfl
      simp only [Act.put, List.setIfInBounds_toArray, List.set_cons_zero, List.set_cons_succ]
      refine wpAny_take (i := 5) (v := ?_) rfl (by kernel_rfl) (by kernel_rfl) (by kernel_rfl) (fun _ _ _ h => h) (Or.inl ⟨by rfl, ?_⟩) ?_
      rotate_left
      · intro wq
        go_simp
        try with_reducible rfl
      simp only [Act.put, List.setIfInBounds_toArray, List.set_cons_zero, List.set_cons_succ]
      refine wpAny_take (i := 6) (v := ?_) rfl (by kernel_rfl) (by kernel_rfl) (by kernel_rfl) (fun _ _ _ h => h) (Or.inl ⟨by rfl, ?_⟩) ?_
      rotate_left
      · intro wq
        go_simp
        try with_reducible rfl
      simp only [Act.put, List.setIfInBounds_toArray, List.set_cons_zero, List.set_cons_succ]
      refine wpAny_take (i := 7) (v := ?_) rfl (by kernel_rfl) (by kernel_rfl) (by kernel_rfl) (fun _ _ _ h => h) (Or.inl ⟨by rfl, ?_⟩) ?_
      rotate_left
      · intro wq
        go_simp
        try with_reducible rfl
      simp only [Act.put, List.setIfInBounds_toArray, List.set_cons_zero, List.set_cons_succ]
      refine wpAny_take (i := 8) (v := ?_) rfl (by kernel_rfl) (by kernel_rfl) (by kernel_rfl) (fun _ _ _ h => h) (Or.inl ⟨by rfl, ?_⟩) ?_
      rotate_left
      · intro wq
        go_simp
        try with_reducible rfl
      simp only [Act.put, List.setIfInBounds_toArray, List.set_cons_zero, List.set_cons_succ]
      refine wpAny_take (i := 9) (v := ?_) rfl (by kernel_rfl) (by kernel_rfl) (by kernel_rfl) (fun _ _ _ h => h) (Or.inl ⟨by rfl, ?_⟩) ?_
      rotate_left
      · intro wq
        go_simp
        try with_reducible rfl
      simp only [Act.put, List.setIfInBounds_toArray, List.set_cons_zero, List.set_cons_succ]
      refine wpAny_take (i := 10) (v := ?_) rfl (by kernel_rfl) (by kernel_rfl) (by kernel_rfl) (fun _ _ _ h => h) (Or.inl ⟨by rfl, ?_⟩) ?_
      rotate_left
      · intro wq
        go_simp
        try with_reducible rfl
      simp only [Act.put, List.setIfInBounds_toArray, List.set_cons_zero, List.set_cons_succ]
      refine any_one (i := 11) (by kernel_rfl) rfl (fun K hK => ?_)
      go_simp
      refine hK _ _ ?_
      clear hK K
      refine any_one (i := 12) (by kernel_rfl) rfl (fun K hK => ?_)
      rw [if_pos (by rfl)]
      refine op_app el8 (.tmp 11) (.tmp 22) rfl rfl hOd [dgI (x / 16), dgI (x % 16)] 2 rfl rfl (by omega) (by decide) hBd.size ?_
      intro v' w' hO' hB'
      refine hK _ _ ?_
      clear hK K
      refine any_one (i := 13) (by kernel_rfl) rfl (fun K hK => ?_)
      go_simp
      refine hK _ _ ?_
      clear hK K
      refine wpAny_done (by kernel_rfl) ?_ _
      go_wp2
      go_roundw
      case rel => exact ⟨j + 1, by go_num, by omega, by rw [← EE.out, hexN_app]; exact hO', hBd.trans hB'⟩
      case measure => simp [intOf]; omega
    · have h8 : j = s.size := by omega
      have hcv := conv_own hO
      rw [h8, List.take_of_length_le (by unfold nI; rw [List.length_map, ← Lib.size_eq]; omega)] at hcv
      clear h8
      go_wp2
      go_ret
      exact ⟨rfl, hB⟩
end Go.Proofs.Ytadeiljhniffjaa
