/-
  CONTRACT of sha.Sum.
-/
import Derived.Test.YtadeiljhniffjaaShaTaken
import Derived.Test.YtadeiljhniffjaaShaPad
namespace Go.Proofs.Ytadeiljhniffjaa
open Go.RowKit
theorem lenH : hL.length = 8 := rfl
theorem lenK : kL.length = 64 := rfl
theorem pre_size (s : ByteArray) : (s.extract 0 (s.size - s.size % 64)).size = 64 * (s.size / 64) := by
  rw [Lib.size_eq, Lib.extract_data, List.length_take, List.length_drop, ← Lib.size_eq]
  omega
theorem post_size (s : ByteArray) : (s.extract (s.size - s.size % 64) s.size ++ strOfNums (padI s.size)).size = 64 * ((s.size % 64 + szP s.size) / 64) := by
  have h := szP_rng s.size
  rw [ByteArray.size_append, strOfNums_size, padI_len, Lib.size_eq, from_dataS, List.length_drop, ← Lib.size_eq]
  omega
set_option linter.unusedSimpArgs false in
set_option maxHeartbeats 8000000 in
set_option maxRecDepth 10000000 in
theorem sum_any (s : ByteArray) (w : World) (hs : s.size ≤ 9223372036854775000) :
    Calls Try.prog 7 #[.string s] w fun r w' => r = .returned (.string (sumP s)) ∧ Below w.heap.size w w' := by
  obtain ⟨m, hm⟩ : ∃ m, m = s.size - s.size % 64 := ⟨_, rfl⟩
  have hm' : (s.size : Int) - (s.size : Int) % 64 = (m : Int) := by omega
  have hmle : m ≤ s.size := by omega
  obtain ⟨s1, hs1⟩ : ∃ x, x = s.extract 0 m := ⟨_, rfl⟩
  have z1 : s1.size = 64 * (s.size / 64) := by rw [hs1, hm]; exact pre_size s
  have hmax : s1.size ≤ maxLen := by unfold maxLen; omega
  have ht1 := fun bk w h => taken_any hL kL s1 (s.size / 64) bk w lenH h lenK z1 hmax
  have e1 : foldS kL (s.size / 64) hL s1 = preF s := by rw [hs1, hm]; rfl
  rw [e1] at ht1
  have lP : (preF s).length = 8 := foldS_len _ _ _ _ lenH
  have HM := Lib.hid hm
  have S1 := Lib.hid hs1
  have Z1 := Lib.hid z1
  clear hm z1 hs1 hmax e1
  have hsz := Try.size64.trans (congrArg some (AR.size .u32 kL lenK).symm)
  have hc0 := constants_any w
  go_enter Try.func7, Try.ntmps7
  go_wp2_with (first | (go_at_call 13; refine hc0.mono ?_; rintro r w1 ⟨rfl, hb1⟩; have K0 : AR .u32 31 (w1.alloc (.cells ((List.replicate 64 0).map (Value.int .u32)).toArray 31)) w1.heap.size (List.replicate 64 0) := heap_alloc_new w1 _) | (refine wpList_store_row rfl 31 (.tmp 3) _ rfl w1.heap.size (kL.map (Value.int .u32)).toArray rfl rfl 31 _ K0 hsz rfl (AR.all _ _) ?_))
  generalize hW0 : (w1.alloc _).setRow w1.heap.size (kL.map (Value.int .u32)).toArray = W0
  have K1 : AR .u32 31 W0 w1.heap.size kL := by rw [← hW0]; exact AR.row K0 kL
  have B1 : Below w.heap.size w W0 := by rw [← hW0]; exact below_row (hb1.alloc hb1.size _) hb1.size _
  clear hW0 K0
  have hszP := Try.size8.trans (congrArg some (AR.size .u32 (preF s) lP).symm)
  have hold1 : (((List.replicate 8 (0 : Int)).map (Value.int .u32)).toArray).size = (((preF s).map (Value.int .u32)).toArray).size := by rw [AR.size _ _ lP]; rfl
  obtain ⟨s2, hs2⟩ : ∃ x, x = s.extract m s.size ++ strOfNums (padI s.size) := ⟨_, rfl⟩
  have z2 : s2.size = 64 * ((s.size % 64 + szP s.size) / 64) := by rw [hs2, HM.out]; exact post_size s
  have hr := szP_rng s.size
  have ht2 := fun bk w h => taken_any (preF s) kL s2 ((s.size % 64 + szP s.size) / 64) bk w lP h lenK z2 (by unfold maxLen; omega)
  have e2 : foldS kL ((s.size % 64 + szP s.size) / 64) (preF s) s2 = postF s := by rw [hs2, HM.out]; rfl
  rw [e2] at ht2
  have lQ : (postF s).length = 8 := foldS_len _ _ _ _ lP
  have hszQ := Try.size8.trans (congrArg some (AR.size .u32 (postF s) lQ).symm)
  have hold2 : (((preF s).map (Value.int .u32)).toArray).size = (((postF s).map (Value.int .u32)).toArray).size := by rw [AR.size _ _ lP, AR.size _ _ lQ]
  have hadd : ¬ (9223372036854775807 < s.size - m + (strOfNums (padI s.size)).size) := by rw [strOfNums_size, padI_len]; omega
  have S2 := Lib.hid hs2
  clear hs2 z2 hr e2
  -- BEGIN
  refine wp_region_any (by kernel_rfl) ?_
  change wpAny _ _ _ _ 7 _ _ (World.drew _)
  generalize hWd : World.drew W0 = Wd
  have Kd : AR .u32 31 Wd w1.heap.size kL := by rw [← hWd]; exact K1
  have Bd : Below w.heap.size w Wd := by rw [← hWd]; exact B1.drew
  clear hWd
  refine wpAny_take (i := 1) (v := ?_) rfl (by kernel_rfl) (by kernel_rfl) (by kernel_rfl) (fun _ _ _ h => h) (Or.inl ⟨by rfl, ?_⟩) ?_
  rotate_left
  · intro wq
    go_simp
    try with_reducible rfl
  simp only [Act.put, List.setIfInBounds_toArray, List.set_cons_zero, List.set_cons_succ]
  refine wpAny_take (i := 2) (v := ?_) rfl (by kernel_rfl) (by kernel_rfl) (by kernel_rfl) (fun _ _ _ h => h) (Or.inl ⟨by rfl, ?_⟩) ?_
  rotate_left
  · intro wq
    go_simp
    try with_reducible rfl
  simp only [Act.put, List.setIfInBounds_toArray, List.set_cons_zero, List.set_cons_succ]
  refine wpAny_take (i := 3) (v := ?_) rfl (by kernel_rfl) (by kernel_rfl) (by kernel_rfl) (fun _ _ _ h => h) (Or.inl ⟨by rfl, ?_⟩) ?_
  rotate_left
  · intro wq
    go_simp
    try with_reducible rfl
  simp only [Act.put, List.setIfInBounds_toArray, List.set_cons_zero, List.set_cons_succ]
  rw [show s.extract 0 m = s1 from S1.out.symm]
  refine any_two (i := 0) (j := 5) (by kernel_rfl) rfl rfl (fun K hK => ?_) (fun K hK => ?_)
  ·
    go_simp
    refine (initial_any _).mono ?_
    rintro e wx1 ⟨rfl, hb1⟩
    have K1 := AR.below Kd hb1 Kd.lt
    have B1 := Bd.trans (Below.mono hb1 Bd.size)
    simp only
    refine hK _ _ ?_
    clear hK K
    refine any_two (i := 4) (j := 5) (by kernel_rfl) rfl rfl (fun K hK => ?_) (fun K hK => ?_)
    ·
      go_simp
      refine (ht1 _ _ K1).mono ?_
      rintro e wx2 ⟨rfl, hb2⟩
      have K2 := AR.below K1 hb2 K1.lt
      have B2 := B1.trans (Below.mono hb2 B1.size)
      simp only
      refine hK _ _ ?_
      clear hK K
      refine any_one (i := 5) (by kernel_rfl) rfl (fun K hK => ?_)
      go_simp
      have Z3 : AR .u32 33 ((wx2).alloc (.cells ((List.replicate 8 (0 : Int)).map (Value.int .u32)).toArray 33)) (wx2).heap.size (List.replicate 8 0) := heap_alloc_new _ _
      have K3 := K2.alloc (.cells ((List.replicate 8 (0 : Int)).map (Value.int .u32)).toArray 33)
      have B3 := B2.alloc B2.size (.cells ((List.replicate 8 (0 : Int)).map (Value.int .u32)).toArray 33)
      have G3 : w1.heap.size ≠ (wx2).heap.size := by have := K2.lt; simp at this ⊢; omega
      have L3 : w.heap.size ≤ (wx2).heap.size := B2.size
      refine hK _ _ ?_
      clear hK K
      refine any_one (i := 6) (by kernel_rfl) rfl (fun K hK => ?_)
      rw [if_pos (by rfl)]
      refine wp_store_row 33 (.tmp 5) (.tmp 17) rfl (wx2).heap.size ((preF s).map (Value.int .u32)).toArray rfl rfl 33 _ Z3 hszP hold1 (AR.all _ _) ?_
      have Z4 := AR.row Z3 (preF s)
      have K4 := AR.rowOther K3 G3 ((preF s).map (Value.int .u32)).toArray
      have B4 := below_row B3 L3 ((preF s).map (Value.int .u32)).toArray
      refine hK _ _ ?_
      clear hK K
      refine wpAny_done (by kernel_rfl) ?_ _
      simp only [Act.put, List.setIfInBounds_toArray, List.set_cons_zero, List.set_cons_succ]
      go_wp2_with fail
      refine wp_region_any (by kernel_rfl) ?_
      change wpAny _ _ _ _ 10 _ _ (World.drew _)
      generalize hWd : World.drew _ = We5
      have K5 : AR .u32 31 We5 w1.heap.size kL := by rw [← hWd]; exact K4
      have Z5 : AR .u32 33 We5 (wx2).heap.size (preF s) := by rw [← hWd]; exact Z4
      have B5 : Below w.heap.size w We5 := by rw [← hWd]; exact B4.drew
      clear hWd
      refine wpAny_take (i := 1) (v := ?_) rfl (by kernel_rfl) (by kernel_rfl) (by kernel_rfl) (fun _ _ _ h => h) (Or.inl ⟨by rfl, ?_⟩) ?_
      rotate_left
      · intro wq
        go_simp
        try with_reducible rfl
      simp only [Act.put, List.setIfInBounds_toArray, List.set_cons_zero, List.set_cons_succ]
      refine wpAny_take (i := 2) (v := ?_) rfl (by kernel_rfl) (by kernel_rfl) (by kernel_rfl) (fun _ _ _ h => h) (Or.inl ⟨by rfl, ?_⟩) ?_
      rotate_left
      · intro wq
        go_simp
        try with_reducible rfl
      simp only [Act.put, List.setIfInBounds_toArray, List.set_cons_zero, List.set_cons_succ]
      refine wpAny_take (i := 3) (v := ?_) rfl (by kernel_rfl) (by kernel_rfl) (by kernel_rfl) (fun _ _ _ h => h) (Or.inl ⟨by rfl, ?_⟩) ?_
      rotate_left
      · intro wq
        go_simp
        try with_reducible rfl
      simp only [Act.put, List.setIfInBounds_toArray, List.set_cons_zero, List.set_cons_succ]
      refine wpAny_take (i := 4) (v := ?_) rfl (by kernel_rfl) (by kernel_rfl) (by kernel_rfl) (fun _ _ _ h => h) (Or.inl ⟨by rfl, ?_⟩) ?_
      rotate_left
      · intro wq
        go_simp
        try with_reducible rfl
      simp only [Act.put, List.setIfInBounds_toArray, List.set_cons_zero, List.set_cons_succ]
      refine wpAny_take (i := 5) (v := ?_) rfl (by kernel_rfl) (by kernel_rfl) (by kernel_rfl) (fun _ _ _ h => h) (Or.inl ⟨by rfl, ?_⟩) ?_
      rotate_left
      · intro wq
        go_simp
        try with_reducible rfl
      simp only [Act.put, List.setIfInBounds_toArray, List.set_cons_zero, List.set_cons_succ]
      refine any_two (i := 0) (j := 6) (by kernel_rfl) rfl rfl (fun K hK => ?_) (fun K hK => ?_)
      ·
        rw [if_pos (by rfl)]
        refine wp_load_row 33 (.tmp 5) rfl (wx2).heap.size rfl 33 _ (0, 0) _ Z5 Try.underlying33 rfl hszP ?_
        refine hK _ _ ?_
        clear hK K
        simp only [Act.put, List.setIfInBounds_toArray, List.set_cons_zero, List.set_cons_succ]
        refine any_one (i := 6) (by kernel_rfl) rfl (fun K hK => ?_)
        go_simp
        refine (padding_any s.size _ (by unfold maxLen; omega)).mono ?_
        rintro e wx7 ⟨rfl, hb7⟩
        have K7 := AR.below K5 hb7 K5.lt
        have B7 := B5.trans (Below.mono hb7 B5.size)
        have Z7 := AR.below Z5 hb7 Z5.lt
        simp only
        refine hK _ _ ?_
        clear hK K
        refine any_one (i := 7) (by kernel_rfl) rfl (fun K hK => ?_)
        go_simp
        rw [show s.extract m s.size ++ strOfNums (padI s.size) = s2 from S2.out.symm]
        refine hK _ _ ?_
        clear hK K
        refine any_one (i := 8) (by kernel_rfl) rfl (fun K hK => ?_)
        go_simp
        refine (ht2 _ _ K7).mono ?_
        rintro e wx9 ⟨rfl, hb9⟩
        have K9 := AR.below K7 hb9 K7.lt
        have B9 := B7.trans (Below.mono hb9 B7.size)
        have Z9 := AR.below Z7 hb9 Z7.lt
        simp only
        refine hK _ _ ?_
        clear hK K
        refine any_one (i := 9) (by kernel_rfl) rfl (fun K hK => ?_)
        rw [if_pos (by rfl)]
        refine wp_store_row 33 (.tmp 5) (.tmp 26) rfl (wx2).heap.size ((postF s).map (Value.int .u32)).toArray rfl rfl 33 _ Z9 hszQ hold2 (AR.all _ _) ?_
        have Z10 := AR.row Z9 (postF s)
        have K10 := AR.rowOther K9 G3 ((postF s).map (Value.int .u32)).toArray
        have B10 := below_row B9 L3 ((postF s).map (Value.int .u32)).toArray
        refine hK _ _ ?_
        clear hK K
        refine wpAny_done (by kernel_rfl) ?_ _
        simp only [Act.put, List.setIfInBounds_toArray, List.set_cons_zero, List.set_cons_succ]
        go_wp2_with (first | (refine wpList_load_row rfl 33 (.tmp 5) rfl (wx2).heap.size rfl 33 _ (0, 0) _ Z10 Try.underlying33 rfl hszQ ?_) | (go_at_call 17; refine (written_any _ _ lQ).mono ?_; rintro e wz ⟨rfl, hbz⟩; have BZ := B10.trans (Below.mono hbz B10.size)))
        go_ret
        exact ⟨rfl, BZ⟩
      ·
        go_simp
        refine (padding_any s.size _ (by unfold maxLen; omega)).mono ?_
        rintro e wx11 ⟨rfl, hb11⟩
        have K11 := AR.below K5 hb11 K5.lt
        have B11 := B5.trans (Below.mono hb11 B5.size)
        have Z11 := AR.below Z5 hb11 Z5.lt
        simp only
        refine hK _ _ ?_
        clear hK K
        refine any_two (i := 0) (j := 7) (by kernel_rfl) rfl rfl (fun K hK => ?_) (fun K hK => ?_)
        ·
          rw [if_pos (by rfl)]
          refine wp_load_row 33 (.tmp 5) rfl (wx2).heap.size rfl 33 _ (0, 0) _ Z11 Try.underlying33 rfl hszP ?_
          refine hK _ _ ?_
          clear hK K
          simp only [Act.put, List.setIfInBounds_toArray, List.set_cons_zero, List.set_cons_succ]
          refine any_one (i := 7) (by kernel_rfl) rfl (fun K hK => ?_)
          go_simp
          rw [show s.extract m s.size ++ strOfNums (padI s.size) = s2 from S2.out.symm]
          refine hK _ _ ?_
          clear hK K
          refine any_one (i := 8) (by kernel_rfl) rfl (fun K hK => ?_)
          go_simp
          refine (ht2 _ _ K11).mono ?_
          rintro e wx14 ⟨rfl, hb14⟩
          have K14 := AR.below K11 hb14 K11.lt
          have B14 := B11.trans (Below.mono hb14 B11.size)
          have Z14 := AR.below Z11 hb14 Z11.lt
          simp only
          refine hK _ _ ?_
          clear hK K
          refine any_one (i := 9) (by kernel_rfl) rfl (fun K hK => ?_)
          rw [if_pos (by rfl)]
          refine wp_store_row 33 (.tmp 5) (.tmp 26) rfl (wx2).heap.size ((postF s).map (Value.int .u32)).toArray rfl rfl 33 _ Z14 hszQ hold2 (AR.all _ _) ?_
          have Z15 := AR.row Z14 (postF s)
          have K15 := AR.rowOther K14 G3 ((postF s).map (Value.int .u32)).toArray
          have B15 := below_row B14 L3 ((postF s).map (Value.int .u32)).toArray
          refine hK _ _ ?_
          clear hK K
          refine wpAny_done (by kernel_rfl) ?_ _
          simp only [Act.put, List.setIfInBounds_toArray, List.set_cons_zero, List.set_cons_succ]
          go_wp2_with (first | (refine wpList_load_row rfl 33 (.tmp 5) rfl (wx2).heap.size rfl 33 _ (0, 0) _ Z15 Try.underlying33 rfl hszQ ?_) | (go_at_call 17; refine (written_any _ _ lQ).mono ?_; rintro e wz ⟨rfl, hbz⟩; have BZ := B15.trans (Below.mono hbz B15.size)))
          go_ret
          exact ⟨rfl, BZ⟩
        ·
          go_simp
          rw [show s.extract m s.size ++ strOfNums (padI s.size) = s2 from S2.out.symm]
          refine hK _ _ ?_
          clear hK K
          refine any_one (i := 0) (by kernel_rfl) rfl (fun K hK => ?_)
          rw [if_pos (by rfl)]
          refine wp_load_row 33 (.tmp 5) rfl (wx2).heap.size rfl 33 _ (0, 0) _ Z11 Try.underlying33 rfl hszP ?_
          refine hK _ _ ?_
          clear hK K
          simp only [Act.put, List.setIfInBounds_toArray, List.set_cons_zero, List.set_cons_succ]
          refine any_one (i := 8) (by kernel_rfl) rfl (fun K hK => ?_)
          go_simp
          refine (ht2 _ _ K11).mono ?_
          rintro e wx18 ⟨rfl, hb18⟩
          have K18 := AR.below K11 hb18 K11.lt
          have B18 := B11.trans (Below.mono hb18 B11.size)
          have Z18 := AR.below Z11 hb18 Z11.lt
          simp only
          refine hK _ _ ?_
          clear hK K
          refine any_one (i := 9) (by kernel_rfl) rfl (fun K hK => ?_)
          rw [if_pos (by rfl)]
          refine wp_store_row 33 (.tmp 5) (.tmp 26) rfl (wx2).heap.size ((postF s).map (Value.int .u32)).toArray rfl rfl 33 _ Z18 hszQ hold2 (AR.all _ _) ?_
          have Z19 := AR.row Z18 (postF s)
          have K19 := AR.rowOther K18 G3 ((postF s).map (Value.int .u32)).toArray
          have B19 := below_row B18 L3 ((postF s).map (Value.int .u32)).toArray
          refine hK _ _ ?_
          clear hK K
          refine wpAny_done (by kernel_rfl) ?_ _
          simp only [Act.put, List.setIfInBounds_toArray, List.set_cons_zero, List.set_cons_succ]
          go_wp2_with (first | (refine wpList_load_row rfl 33 (.tmp 5) rfl (wx2).heap.size rfl 33 _ (0, 0) _ Z19 Try.underlying33 rfl hszQ ?_) | (go_at_call 17; refine (written_any _ _ lQ).mono ?_; rintro e wz ⟨rfl, hbz⟩; have BZ := B19.trans (Below.mono hbz B19.size)))
          go_ret
          exact ⟨rfl, BZ⟩
    ·
      go_simp
      have Z20 : AR .u32 33 ((wx1).alloc (.cells ((List.replicate 8 (0 : Int)).map (Value.int .u32)).toArray 33)) (wx1).heap.size (List.replicate 8 0) := heap_alloc_new _ _
      have K20 := K1.alloc (.cells ((List.replicate 8 (0 : Int)).map (Value.int .u32)).toArray 33)
      have B20 := B1.alloc B1.size (.cells ((List.replicate 8 (0 : Int)).map (Value.int .u32)).toArray 33)
      have G20 : w1.heap.size ≠ (wx1).heap.size := by have := K1.lt; simp at this ⊢; omega
      have L20 : w.heap.size ≤ (wx1).heap.size := B1.size
      refine hK _ _ ?_
      clear hK K
      refine any_one (i := 4) (by kernel_rfl) rfl (fun K hK => ?_)
      go_simp
      refine (ht1 _ _ K20).mono ?_
      rintro e wx21 ⟨rfl, hb21⟩
      have K21 := AR.below K20 hb21 K20.lt
      have B21 := B20.trans (Below.mono hb21 B20.size)
      have Z21 := AR.below Z20 hb21 Z20.lt
      simp only
      refine hK _ _ ?_
      clear hK K
      refine any_one (i := 6) (by kernel_rfl) rfl (fun K hK => ?_)
      rw [if_pos (by rfl)]
      refine wp_store_row 33 (.tmp 5) (.tmp 17) rfl (wx1).heap.size ((preF s).map (Value.int .u32)).toArray rfl rfl 33 _ Z21 hszP hold1 (AR.all _ _) ?_
      have Z22 := AR.row Z21 (preF s)
      have K22 := AR.rowOther K21 G20 ((preF s).map (Value.int .u32)).toArray
      have B22 := below_row B21 L20 ((preF s).map (Value.int .u32)).toArray
      refine hK _ _ ?_
      clear hK K
      refine wpAny_done (by kernel_rfl) ?_ _
      simp only [Act.put, List.setIfInBounds_toArray, List.set_cons_zero, List.set_cons_succ]
      go_wp2_with fail
      refine wp_region_any (by kernel_rfl) ?_
      change wpAny _ _ _ _ 10 _ _ (World.drew _)
      generalize hWd : World.drew _ = We23
      have K23 : AR .u32 31 We23 w1.heap.size kL := by rw [← hWd]; exact K22
      have Z23 : AR .u32 33 We23 (wx1).heap.size (preF s) := by rw [← hWd]; exact Z22
      have B23 : Below w.heap.size w We23 := by rw [← hWd]; exact B22.drew
      clear hWd
      refine wpAny_take (i := 1) (v := ?_) rfl (by kernel_rfl) (by kernel_rfl) (by kernel_rfl) (fun _ _ _ h => h) (Or.inl ⟨by rfl, ?_⟩) ?_
      rotate_left
      · intro wq
        go_simp
        try with_reducible rfl
      simp only [Act.put, List.setIfInBounds_toArray, List.set_cons_zero, List.set_cons_succ]
      refine wpAny_take (i := 2) (v := ?_) rfl (by kernel_rfl) (by kernel_rfl) (by kernel_rfl) (fun _ _ _ h => h) (Or.inl ⟨by rfl, ?_⟩) ?_
      rotate_left
      · intro wq
        go_simp
        try with_reducible rfl
      simp only [Act.put, List.setIfInBounds_toArray, List.set_cons_zero, List.set_cons_succ]
      refine wpAny_take (i := 3) (v := ?_) rfl (by kernel_rfl) (by kernel_rfl) (by kernel_rfl) (fun _ _ _ h => h) (Or.inl ⟨by rfl, ?_⟩) ?_
      rotate_left
      · intro wq
        go_simp
        try with_reducible rfl
      simp only [Act.put, List.setIfInBounds_toArray, List.set_cons_zero, List.set_cons_succ]
      refine wpAny_take (i := 4) (v := ?_) rfl (by kernel_rfl) (by kernel_rfl) (by kernel_rfl) (fun _ _ _ h => h) (Or.inl ⟨by rfl, ?_⟩) ?_
      rotate_left
      · intro wq
        go_simp
        try with_reducible rfl
      simp only [Act.put, List.setIfInBounds_toArray, List.set_cons_zero, List.set_cons_succ]
      refine wpAny_take (i := 5) (v := ?_) rfl (by kernel_rfl) (by kernel_rfl) (by kernel_rfl) (fun _ _ _ h => h) (Or.inl ⟨by rfl, ?_⟩) ?_
      rotate_left
      · intro wq
        go_simp
        try with_reducible rfl
      simp only [Act.put, List.setIfInBounds_toArray, List.set_cons_zero, List.set_cons_succ]
      refine any_two (i := 0) (j := 6) (by kernel_rfl) rfl rfl (fun K hK => ?_) (fun K hK => ?_)
      ·
        rw [if_pos (by rfl)]
        refine wp_load_row 33 (.tmp 5) rfl (wx1).heap.size rfl 33 _ (0, 0) _ Z23 Try.underlying33 rfl hszP ?_
        refine hK _ _ ?_
        clear hK K
        simp only [Act.put, List.setIfInBounds_toArray, List.set_cons_zero, List.set_cons_succ]
        refine any_one (i := 6) (by kernel_rfl) rfl (fun K hK => ?_)
        go_simp
        refine (padding_any s.size _ (by unfold maxLen; omega)).mono ?_
        rintro e wx25 ⟨rfl, hb25⟩
        have K25 := AR.below K23 hb25 K23.lt
        have B25 := B23.trans (Below.mono hb25 B23.size)
        have Z25 := AR.below Z23 hb25 Z23.lt
        simp only
        refine hK _ _ ?_
        clear hK K
        refine any_one (i := 7) (by kernel_rfl) rfl (fun K hK => ?_)
        go_simp
        rw [show s.extract m s.size ++ strOfNums (padI s.size) = s2 from S2.out.symm]
        refine hK _ _ ?_
        clear hK K
        refine any_one (i := 8) (by kernel_rfl) rfl (fun K hK => ?_)
        go_simp
        refine (ht2 _ _ K25).mono ?_
        rintro e wx27 ⟨rfl, hb27⟩
        have K27 := AR.below K25 hb27 K25.lt
        have B27 := B25.trans (Below.mono hb27 B25.size)
        have Z27 := AR.below Z25 hb27 Z25.lt
        simp only
        refine hK _ _ ?_
        clear hK K
        refine any_one (i := 9) (by kernel_rfl) rfl (fun K hK => ?_)
        rw [if_pos (by rfl)]
        refine wp_store_row 33 (.tmp 5) (.tmp 26) rfl (wx1).heap.size ((postF s).map (Value.int .u32)).toArray rfl rfl 33 _ Z27 hszQ hold2 (AR.all _ _) ?_
        have Z28 := AR.row Z27 (postF s)
        have K28 := AR.rowOther K27 G20 ((postF s).map (Value.int .u32)).toArray
        have B28 := below_row B27 L20 ((postF s).map (Value.int .u32)).toArray
        refine hK _ _ ?_
        clear hK K
        refine wpAny_done (by kernel_rfl) ?_ _
        simp only [Act.put, List.setIfInBounds_toArray, List.set_cons_zero, List.set_cons_succ]
        go_wp2_with (first | (refine wpList_load_row rfl 33 (.tmp 5) rfl (wx1).heap.size rfl 33 _ (0, 0) _ Z28 Try.underlying33 rfl hszQ ?_) | (go_at_call 17; refine (written_any _ _ lQ).mono ?_; rintro e wz ⟨rfl, hbz⟩; have BZ := B28.trans (Below.mono hbz B28.size)))
        go_ret
        exact ⟨rfl, BZ⟩
      ·
        go_simp
        refine (padding_any s.size _ (by unfold maxLen; omega)).mono ?_
        rintro e wx29 ⟨rfl, hb29⟩
        have K29 := AR.below K23 hb29 K23.lt
        have B29 := B23.trans (Below.mono hb29 B23.size)
        have Z29 := AR.below Z23 hb29 Z23.lt
        simp only
        refine hK _ _ ?_
        clear hK K
        refine any_two (i := 0) (j := 7) (by kernel_rfl) rfl rfl (fun K hK => ?_) (fun K hK => ?_)
        ·
          rw [if_pos (by rfl)]
          refine wp_load_row 33 (.tmp 5) rfl (wx1).heap.size rfl 33 _ (0, 0) _ Z29 Try.underlying33 rfl hszP ?_
          refine hK _ _ ?_
          clear hK K
          simp only [Act.put, List.setIfInBounds_toArray, List.set_cons_zero, List.set_cons_succ]
          refine any_one (i := 7) (by kernel_rfl) rfl (fun K hK => ?_)
          go_simp
          rw [show s.extract m s.size ++ strOfNums (padI s.size) = s2 from S2.out.symm]
          refine hK _ _ ?_
          clear hK K
          refine any_one (i := 8) (by kernel_rfl) rfl (fun K hK => ?_)
          go_simp
          refine (ht2 _ _ K29).mono ?_
          rintro e wx32 ⟨rfl, hb32⟩
          have K32 := AR.below K29 hb32 K29.lt
          have B32 := B29.trans (Below.mono hb32 B29.size)
          have Z32 := AR.below Z29 hb32 Z29.lt
          simp only
          refine hK _ _ ?_
          clear hK K
          refine any_one (i := 9) (by kernel_rfl) rfl (fun K hK => ?_)
          rw [if_pos (by rfl)]
          refine wp_store_row 33 (.tmp 5) (.tmp 26) rfl (wx1).heap.size ((postF s).map (Value.int .u32)).toArray rfl rfl 33 _ Z32 hszQ hold2 (AR.all _ _) ?_
          have Z33 := AR.row Z32 (postF s)
          have K33 := AR.rowOther K32 G20 ((postF s).map (Value.int .u32)).toArray
          have B33 := below_row B32 L20 ((postF s).map (Value.int .u32)).toArray
          refine hK _ _ ?_
          clear hK K
          refine wpAny_done (by kernel_rfl) ?_ _
          simp only [Act.put, List.setIfInBounds_toArray, List.set_cons_zero, List.set_cons_succ]
          go_wp2_with (first | (refine wpList_load_row rfl 33 (.tmp 5) rfl (wx1).heap.size rfl 33 _ (0, 0) _ Z33 Try.underlying33 rfl hszQ ?_) | (go_at_call 17; refine (written_any _ _ lQ).mono ?_; rintro e wz ⟨rfl, hbz⟩; have BZ := B33.trans (Below.mono hbz B33.size)))
          go_ret
          exact ⟨rfl, BZ⟩
        ·
          go_simp
          rw [show s.extract m s.size ++ strOfNums (padI s.size) = s2 from S2.out.symm]
          refine hK _ _ ?_
          clear hK K
          refine any_one (i := 0) (by kernel_rfl) rfl (fun K hK => ?_)
          rw [if_pos (by rfl)]
          refine wp_load_row 33 (.tmp 5) rfl (wx1).heap.size rfl 33 _ (0, 0) _ Z29 Try.underlying33 rfl hszP ?_
          refine hK _ _ ?_
          clear hK K
          simp only [Act.put, List.setIfInBounds_toArray, List.set_cons_zero, List.set_cons_succ]
          refine any_one (i := 8) (by kernel_rfl) rfl (fun K hK => ?_)
          go_simp
          refine (ht2 _ _ K29).mono ?_
          rintro e wx36 ⟨rfl, hb36⟩
          have K36 := AR.below K29 hb36 K29.lt
          have B36 := B29.trans (Below.mono hb36 B29.size)
          have Z36 := AR.below Z29 hb36 Z29.lt
          simp only
          refine hK _ _ ?_
          clear hK K
          refine any_one (i := 9) (by kernel_rfl) rfl (fun K hK => ?_)
          rw [if_pos (by rfl)]
          refine wp_store_row 33 (.tmp 5) (.tmp 26) rfl (wx1).heap.size ((postF s).map (Value.int .u32)).toArray rfl rfl 33 _ Z36 hszQ hold2 (AR.all _ _) ?_
          have Z37 := AR.row Z36 (postF s)
          have K37 := AR.rowOther K36 G20 ((postF s).map (Value.int .u32)).toArray
          have B37 := below_row B36 L20 ((postF s).map (Value.int .u32)).toArray
          refine hK _ _ ?_
          clear hK K
          refine wpAny_done (by kernel_rfl) ?_ _
          simp only [Act.put, List.setIfInBounds_toArray, List.set_cons_zero, List.set_cons_succ]
          go_wp2_with (first | (refine wpList_load_row rfl 33 (.tmp 5) rfl (wx1).heap.size rfl 33 _ (0, 0) _ Z37 Try.underlying33 rfl hszQ ?_) | (go_at_call 17; refine (written_any _ _ lQ).mono ?_; rintro e wz ⟨rfl, hbz⟩; have BZ := B37.trans (Below.mono hbz B37.size)))
          go_ret
          exact ⟨rfl, BZ⟩
  ·
    go_simp
    have Z38 : AR .u32 33 ((Wd).alloc (.cells ((List.replicate 8 (0 : Int)).map (Value.int .u32)).toArray 33)) (Wd).heap.size (List.replicate 8 0) := heap_alloc_new _ _
    have K38 := Kd.alloc (.cells ((List.replicate 8 (0 : Int)).map (Value.int .u32)).toArray 33)
    have B38 := Bd.alloc Bd.size (.cells ((List.replicate 8 (0 : Int)).map (Value.int .u32)).toArray 33)
    have G38 : w1.heap.size ≠ (Wd).heap.size := by have := Kd.lt; simp at this ⊢; omega
    have L38 : w.heap.size ≤ (Wd).heap.size := Bd.size
    refine hK _ _ ?_
    clear hK K
    refine any_one (i := 0) (by kernel_rfl) rfl (fun K hK => ?_)
    go_simp
    refine (initial_any _).mono ?_
    rintro e wx39 ⟨rfl, hb39⟩
    have K39 := AR.below K38 hb39 K38.lt
    have B39 := B38.trans (Below.mono hb39 B38.size)
    have Z39 := AR.below Z38 hb39 Z38.lt
    simp only
    refine hK _ _ ?_
    clear hK K
    refine any_one (i := 4) (by kernel_rfl) rfl (fun K hK => ?_)
    go_simp
    refine (ht1 _ _ K39).mono ?_
    rintro e wx40 ⟨rfl, hb40⟩
    have K40 := AR.below K39 hb40 K39.lt
    have B40 := B39.trans (Below.mono hb40 B39.size)
    have Z40 := AR.below Z39 hb40 Z39.lt
    simp only
    refine hK _ _ ?_
    clear hK K
    refine any_one (i := 6) (by kernel_rfl) rfl (fun K hK => ?_)
    rw [if_pos (by rfl)]
    refine wp_store_row 33 (.tmp 5) (.tmp 17) rfl (Wd).heap.size ((preF s).map (Value.int .u32)).toArray rfl rfl 33 _ Z40 hszP hold1 (AR.all _ _) ?_
    have Z41 := AR.row Z40 (preF s)
    have K41 := AR.rowOther K40 G38 ((preF s).map (Value.int .u32)).toArray
    have B41 := below_row B40 L38 ((preF s).map (Value.int .u32)).toArray
    refine hK _ _ ?_
    clear hK K
    refine wpAny_done (by kernel_rfl) ?_ _
    simp only [Act.put, List.setIfInBounds_toArray, List.set_cons_zero, List.set_cons_succ]
    go_wp2_with fail
    refine wp_region_any (by kernel_rfl) ?_
    change wpAny _ _ _ _ 10 _ _ (World.drew _)
    generalize hWd : World.drew _ = We42
    have K42 : AR .u32 31 We42 w1.heap.size kL := by rw [← hWd]; exact K41
    have Z42 : AR .u32 33 We42 (Wd).heap.size (preF s) := by rw [← hWd]; exact Z41
    have B42 : Below w.heap.size w We42 := by rw [← hWd]; exact B41.drew
    clear hWd
    refine wpAny_take (i := 1) (v := ?_) rfl (by kernel_rfl) (by kernel_rfl) (by kernel_rfl) (fun _ _ _ h => h) (Or.inl ⟨by rfl, ?_⟩) ?_
    rotate_left
    · intro wq
      go_simp
      try with_reducible rfl
    simp only [Act.put, List.setIfInBounds_toArray, List.set_cons_zero, List.set_cons_succ]
    refine wpAny_take (i := 2) (v := ?_) rfl (by kernel_rfl) (by kernel_rfl) (by kernel_rfl) (fun _ _ _ h => h) (Or.inl ⟨by rfl, ?_⟩) ?_
    rotate_left
    · intro wq
      go_simp
      try with_reducible rfl
    simp only [Act.put, List.setIfInBounds_toArray, List.set_cons_zero, List.set_cons_succ]
    refine wpAny_take (i := 3) (v := ?_) rfl (by kernel_rfl) (by kernel_rfl) (by kernel_rfl) (fun _ _ _ h => h) (Or.inl ⟨by rfl, ?_⟩) ?_
    rotate_left
    · intro wq
      go_simp
      try with_reducible rfl
    simp only [Act.put, List.setIfInBounds_toArray, List.set_cons_zero, List.set_cons_succ]
    refine wpAny_take (i := 4) (v := ?_) rfl (by kernel_rfl) (by kernel_rfl) (by kernel_rfl) (fun _ _ _ h => h) (Or.inl ⟨by rfl, ?_⟩) ?_
    rotate_left
    · intro wq
      go_simp
      try with_reducible rfl
    simp only [Act.put, List.setIfInBounds_toArray, List.set_cons_zero, List.set_cons_succ]
    refine wpAny_take (i := 5) (v := ?_) rfl (by kernel_rfl) (by kernel_rfl) (by kernel_rfl) (fun _ _ _ h => h) (Or.inl ⟨by rfl, ?_⟩) ?_
    rotate_left
    · intro wq
      go_simp
      try with_reducible rfl
    simp only [Act.put, List.setIfInBounds_toArray, List.set_cons_zero, List.set_cons_succ]
    refine any_two (i := 0) (j := 6) (by kernel_rfl) rfl rfl (fun K hK => ?_) (fun K hK => ?_)
    ·
      rw [if_pos (by rfl)]
      refine wp_load_row 33 (.tmp 5) rfl (Wd).heap.size rfl 33 _ (0, 0) _ Z42 Try.underlying33 rfl hszP ?_
      refine hK _ _ ?_
      clear hK K
      simp only [Act.put, List.setIfInBounds_toArray, List.set_cons_zero, List.set_cons_succ]
      refine any_one (i := 6) (by kernel_rfl) rfl (fun K hK => ?_)
      go_simp
      refine (padding_any s.size _ (by unfold maxLen; omega)).mono ?_
      rintro e wx44 ⟨rfl, hb44⟩
      have K44 := AR.below K42 hb44 K42.lt
      have B44 := B42.trans (Below.mono hb44 B42.size)
      have Z44 := AR.below Z42 hb44 Z42.lt
      simp only
      refine hK _ _ ?_
      clear hK K
      refine any_one (i := 7) (by kernel_rfl) rfl (fun K hK => ?_)
      go_simp
      rw [show s.extract m s.size ++ strOfNums (padI s.size) = s2 from S2.out.symm]
      refine hK _ _ ?_
      clear hK K
      refine any_one (i := 8) (by kernel_rfl) rfl (fun K hK => ?_)
      go_simp
      refine (ht2 _ _ K44).mono ?_
      rintro e wx46 ⟨rfl, hb46⟩
      have K46 := AR.below K44 hb46 K44.lt
      have B46 := B44.trans (Below.mono hb46 B44.size)
      have Z46 := AR.below Z44 hb46 Z44.lt
      simp only
      refine hK _ _ ?_
      clear hK K
      refine any_one (i := 9) (by kernel_rfl) rfl (fun K hK => ?_)
      rw [if_pos (by rfl)]
      refine wp_store_row 33 (.tmp 5) (.tmp 26) rfl (Wd).heap.size ((postF s).map (Value.int .u32)).toArray rfl rfl 33 _ Z46 hszQ hold2 (AR.all _ _) ?_
      have Z47 := AR.row Z46 (postF s)
      have K47 := AR.rowOther K46 G38 ((postF s).map (Value.int .u32)).toArray
      have B47 := below_row B46 L38 ((postF s).map (Value.int .u32)).toArray
      refine hK _ _ ?_
      clear hK K
      refine wpAny_done (by kernel_rfl) ?_ _
      simp only [Act.put, List.setIfInBounds_toArray, List.set_cons_zero, List.set_cons_succ]
      go_wp2_with (first | (refine wpList_load_row rfl 33 (.tmp 5) rfl (Wd).heap.size rfl 33 _ (0, 0) _ Z47 Try.underlying33 rfl hszQ ?_) | (go_at_call 17; refine (written_any _ _ lQ).mono ?_; rintro e wz ⟨rfl, hbz⟩; have BZ := B47.trans (Below.mono hbz B47.size)))
      go_ret
      exact ⟨rfl, BZ⟩
    ·
      go_simp
      refine (padding_any s.size _ (by unfold maxLen; omega)).mono ?_
      rintro e wx48 ⟨rfl, hb48⟩
      have K48 := AR.below K42 hb48 K42.lt
      have B48 := B42.trans (Below.mono hb48 B42.size)
      have Z48 := AR.below Z42 hb48 Z42.lt
      simp only
      refine hK _ _ ?_
      clear hK K
      refine any_two (i := 0) (j := 7) (by kernel_rfl) rfl rfl (fun K hK => ?_) (fun K hK => ?_)
      ·
        rw [if_pos (by rfl)]
        refine wp_load_row 33 (.tmp 5) rfl (Wd).heap.size rfl 33 _ (0, 0) _ Z48 Try.underlying33 rfl hszP ?_
        refine hK _ _ ?_
        clear hK K
        simp only [Act.put, List.setIfInBounds_toArray, List.set_cons_zero, List.set_cons_succ]
        refine any_one (i := 7) (by kernel_rfl) rfl (fun K hK => ?_)
        go_simp
        rw [show s.extract m s.size ++ strOfNums (padI s.size) = s2 from S2.out.symm]
        refine hK _ _ ?_
        clear hK K
        refine any_one (i := 8) (by kernel_rfl) rfl (fun K hK => ?_)
        go_simp
        refine (ht2 _ _ K48).mono ?_
        rintro e wx51 ⟨rfl, hb51⟩
        have K51 := AR.below K48 hb51 K48.lt
        have B51 := B48.trans (Below.mono hb51 B48.size)
        have Z51 := AR.below Z48 hb51 Z48.lt
        simp only
        refine hK _ _ ?_
        clear hK K
        refine any_one (i := 9) (by kernel_rfl) rfl (fun K hK => ?_)
        rw [if_pos (by rfl)]
        refine wp_store_row 33 (.tmp 5) (.tmp 26) rfl (Wd).heap.size ((postF s).map (Value.int .u32)).toArray rfl rfl 33 _ Z51 hszQ hold2 (AR.all _ _) ?_
        have Z52 := AR.row Z51 (postF s)
        have K52 := AR.rowOther K51 G38 ((postF s).map (Value.int .u32)).toArray
        have B52 := below_row B51 L38 ((postF s).map (Value.int .u32)).toArray
        refine hK _ _ ?_
        clear hK K
        refine wpAny_done (by kernel_rfl) ?_ _
        simp only [Act.put, List.setIfInBounds_toArray, List.set_cons_zero, List.set_cons_succ]
        go_wp2_with (first | (refine wpList_load_row rfl 33 (.tmp 5) rfl (Wd).heap.size rfl 33 _ (0, 0) _ Z52 Try.underlying33 rfl hszQ ?_) | (go_at_call 17; refine (written_any _ _ lQ).mono ?_; rintro e wz ⟨rfl, hbz⟩; have BZ := B52.trans (Below.mono hbz B52.size)))
        go_ret
        exact ⟨rfl, BZ⟩
      ·
        go_simp
        rw [show s.extract m s.size ++ strOfNums (padI s.size) = s2 from S2.out.symm]
        refine hK _ _ ?_
        clear hK K
        refine any_one (i := 0) (by kernel_rfl) rfl (fun K hK => ?_)
        rw [if_pos (by rfl)]
        refine wp_load_row 33 (.tmp 5) rfl (Wd).heap.size rfl 33 _ (0, 0) _ Z48 Try.underlying33 rfl hszP ?_
        refine hK _ _ ?_
        clear hK K
        simp only [Act.put, List.setIfInBounds_toArray, List.set_cons_zero, List.set_cons_succ]
        refine any_one (i := 8) (by kernel_rfl) rfl (fun K hK => ?_)
        go_simp
        refine (ht2 _ _ K48).mono ?_
        rintro e wx55 ⟨rfl, hb55⟩
        have K55 := AR.below K48 hb55 K48.lt
        have B55 := B48.trans (Below.mono hb55 B48.size)
        have Z55 := AR.below Z48 hb55 Z48.lt
        simp only
        refine hK _ _ ?_
        clear hK K
        refine any_one (i := 9) (by kernel_rfl) rfl (fun K hK => ?_)
        rw [if_pos (by rfl)]
        refine wp_store_row 33 (.tmp 5) (.tmp 26) rfl (Wd).heap.size ((postF s).map (Value.int .u32)).toArray rfl rfl 33 _ Z55 hszQ hold2 (AR.all _ _) ?_
        have Z56 := AR.row Z55 (postF s)
        have K56 := AR.rowOther K55 G38 ((postF s).map (Value.int .u32)).toArray
        have B56 := below_row B55 L38 ((postF s).map (Value.int .u32)).toArray
        refine hK _ _ ?_
        clear hK K
        refine wpAny_done (by kernel_rfl) ?_ _
        simp only [Act.put, List.setIfInBounds_toArray, List.set_cons_zero, List.set_cons_succ]
        go_wp2_with (first | (refine wpList_load_row rfl 33 (.tmp 5) rfl (Wd).heap.size rfl 33 _ (0, 0) _ Z56 Try.underlying33 rfl hszQ ?_) | (go_at_call 17; refine (written_any _ _ lQ).mono ?_; rintro e wz ⟨rfl, hbz⟩; have BZ := B56.trans (Below.mono hbz B56.size)))
        go_ret
        exact ⟨rfl, BZ⟩
end Go.Proofs.Ytadeiljhniffjaa
