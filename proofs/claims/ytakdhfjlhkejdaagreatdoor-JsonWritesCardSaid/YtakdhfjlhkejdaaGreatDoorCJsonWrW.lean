/-
  codicillaw02.JsonWrites: its walk.
-/
import Derived.Test.YtakdhfjlhkejdaaGreatDoorCJsonRWr4
import Derived.Test.YtakdhfjlhkejdaaGreatDoorCJsonCopW
import Derived.Test.YtakdhfjlhkejdaaGreatDoorN7
import Derived.Deep.DeepCutAuto
set_option linter.unusedSimpArgs false
set_option linter.unusedVariables false
set_option linter.unusedVariables false
namespace Go.Proofs.YtakdhfjlhkejdaaGreatDoor
open Go.RowKit
set_option maxRecDepth 10000000 in
set_option maxHeartbeats 8000000 in
theorem writes_heavy (v : JV) (s : ByteArray) (c0 c1 c2 c3 : Value) (w : World) (hV : IsV w 0 v c0 c1 c2 c3) (hB : bndV v) (hvars : Vars w)
    (hh : heavyB v = true ∨ (heavyB v = false ∧ 4096 < s.size)) :
    Calls Tryz.prog 4 #[.agg #[c0, c1, c2, c3], .string s] w fun e w' => e = .returned (.bool true) ∧ Below w.heap.size w w' := by
  have hV2 := hV
  obtain ⟨k0, t0, ka, kl, kc, la, ll, lc, rfl, rfl, rfl, rfl⟩ := hV.shape
  have hbel : ∀ A : Obj, Below w.heap.size w (w.alloc A) := fun A => (Below.refl w.heap.size w).alloc (Nat.le_refl _) A
  have cH := fun (w2 : World) (hb : Below w.heap.size w w2) => heavy_any v _ _ _ _ w2 (IsV.stays (Below.stays hb 0) (Nat.le_refl 0) _ _ _ _ _ hV2) hB
  have cA := fun (w2 : World) (hb : Below w.heap.size w w2) => alive_any w2 (hvars.below hb)
  clear hV hV2
  rcases hh with h1 | ⟨h1, h2⟩
  all_goals
    rw [h1] at cH
    go_enter Tryz.func4, Tryz.ntmps4
    try have hk2 : (4096 : Int) < (s.size : Int) := by omega
    go_wp2_with (first
      | (go_at_call 14; refine (cH _ (hbel _)).mono ?_; rintro e w1 ⟨rfl, hb1⟩)
      | (go_at_call 10; have hb2 := (hbel _).trans (hb1.mono (by simp)); refine (cA _ hb2).mono ?_; rintro e w2 ⟨rfl, hb3⟩))
    go_ret
    exact ⟨rfl, hb2.trans (hb3.mono hb2.size)⟩
set_option maxRecDepth 10000000 in
set_option maxHeartbeats 8000000 in
theorem writes_light (v : JV) (s : ByteArray) (c0 c1 c2 c3 : Value) (w : World) (hV : IsV w 0 v c0 c1 c2 c3) (hB : bndV v) (hvars : Vars w) (hh : heavyB v = false) (hs : s.size ≤ 4096) :
    Calls Tryz.prog 4 #[.agg #[c0, c1, c2, c3], .string s] w fun e w' => e = .returned (.bool true) ∧ Below w.heap.size w w' := by
  have hV2 := hV
  obtain ⟨k0, t0, ka, kl, kc, la, ll, lc, rfl, rfl, rfl, rfl⟩ := hV.shape
  have hbel : ∀ A : Obj, Below w.heap.size w (w.alloc A) := fun A => (Below.refl w.heap.size w).alloc (Nat.le_refl _) A
  have cH := fun (w2 : World) (hb : Below w.heap.size w w2) => heavy_any v _ _ _ _ w2 (IsV.stays (Below.stays hb 0) (Nat.le_refl 0) _ _ _ _ _ hV2) hB
  rw [hh] at cH
  obtain ⟨l1, l2, l3⟩ := light hh
  have hV0 := fun (w2 : World) (hb : Below w.heap.size w w2) => IsV.stays (Below.stays hb 0) (Nat.le_refl 0) _ _ _ _ _ hV2
  have cA := fun (w2 : World) (hb : Below w.heap.size w w2) => alive_any w2 (hvars.below hb)
  have cP := fun (w2 : World) (hb : Below w.heap.size w w2) => print_any v _ _ _ _ w2 (hV0 w2 hb) (by omega) (by omega) (by omega)
  have cP' := fun (w2 : World) (hb : Below w.heap.size w w2) => refPrint_any v _ _ _ _ w2 (hV0 w2 hb) hB (by omega) (by omega) (by omega)
  have cM := fun (w2 : World) (hb : Below w.heap.size w w2) => may_any v _ _ _ _ w2 (hV0 w2 hb) (by omega) (by omega) (by omega)
  have cM' := fun (w2 : World) (hb : Below w.heap.size w w2) => refMay_any v _ _ _ _ w2 (hV0 w2 hb) hB (by omega) (by omega) (by omega)
  rw [ref_pr] at cM'
  have cQ := fun w => quoteTop_any s w (by unfold maxLen; omega)
  have cQ' := fun w => refQuote_any s w (by omega)
  have hsI : (s.size : Int) ≤ 4096 := by omega
  clear hV hh hV0 hV2 hB hvars
  generalize prS v = P at *
  generalize prE v = pe at *
  generalize quotS s = Q at *
  generalize quotE s = qe at *
  go_enter Tryz.func4, Tryz.ntmps4
  go_upto_region 3 with (go_at_call 14; refine (cH _ (hbel _)).mono ?_; rintro e w1 ⟨rfl, hb1⟩)
  have hx1 : RB w1 w.heap.size (.int .u8 (k0 : Nat)) (.string t0) (.slice ka kl kc) (.slice la ll lc) := (hb1.block w.heap.size (by simp)).trans (heap_alloc_new w (.cells #[.int .u8 (k0 : Nat), .string t0, .slice ka kl kc, .slice la ll lc] 26))
  have hb01 := (hbel (.cells #[.int .u8 (k0 : Nat), .string t0, .slice ka kl kc, .slice la ll lc] 26)).trans (hb1.mono (by simp))
  clear hb1 hbel cH
  obtain ⟨x0, x1, x2, x3⟩ := RB.cells hx1
  have hcc := cP w1 hb01
  clear cP
  go_upto_region 4 with (go_at_call 15; refine hcc.mono ?_; rintro e w2 ⟨rfl, hb2⟩)
  have hx2 := hx1.below hb2
  have hb02 := hb01.trans (hb2.mono hb01.size)
  clear hcc x0 x1 x2 x3 hb01 hb2 hx1
  obtain ⟨x0, x1, x2, x3⟩ := RB.cells hx2
  have hcc := cP' w2 hb02
  clear cP'
  go_upto_region 5 with (go_at_call 16; refine hcc.mono ?_; rintro e w3 ⟨rfl, hb3⟩)
  have hx3 := hx2.below hb3
  have hb03 := hb02.trans (hb3.mono hb02.size)
  clear hcc x0 x1 x2 x3 hb02 hb3 hx2
  go_upto_region 6 with (go_at_call 17; refine (cQ _).mono ?_; rintro e w4 ⟨rfl, hb4⟩)
  have hx4 := hx3.below hb4
  have hb04 := hb03.trans (hb4.mono hb03.size)
  clear cQ hb03 hb4 hx3
  go_upto_region 7 with (go_at_call 18; refine (cQ' _).mono ?_; rintro e w5 ⟨rfl, hb5⟩)
  have hx5 := hx4.below hb5
  have hb05 := hb04.trans (hb5.mono hb04.size)
  clear cQ' hb04 hb5 hx4
  obtain ⟨p0, p1, p2, p3⟩ := RB.cells hx5
  have e1 : (P.toList == P.toList) = true := by simp
  have e2 : (Q.toList == Q.toList) = true := by simp
  have e3 : (pe == pe) = true := by simp
  have e4 : (qe == qe) = true := by simp
  -- BEGIN
  have sM := fun (w2 : World) (hb : Below w5.heap.size w5 w2) => cM w2 (hb05.trans (hb.mono hb05.size))
  have sM' := fun (w2 : World) (hb : Below w5.heap.size w5 w2) => cM' w2 (hb05.trans (hb.mono hb05.size))
  have cE := fun (w2 : World) (hb : Below w5.heap.size w5 w2) => cA w2 (hb05.trans (hb.mono hb05.size))
  have hS0 : Below w5.heap.size w5 w5.drew := (Below.refl _ _).drew
  clear cM cM' cA
  refine wp_region_any (by kernel_rfl) ?_
  change wpAny _ _ _ _ 29 _ _ (World.drew _)
  refine HT.take_at (i := 0) (v := ?_) rfl rfl (by kernel_rfl) (by kernel_rfl) (by kernel_rfl) (fun _ _ _ h => h) (Or.inl ⟨by rfl, ?_⟩) ?_
  rotate_left
  · intro wq
    go_simp
    try with_reducible rfl
  simp only [Act.put, List.setIfInBounds_toArray, List.set_cons_zero, List.set_cons_succ]
  refine HT.take_at (i := 1) (v := ?_) rfl rfl (by kernel_rfl) (by kernel_rfl) (by kernel_rfl) (fun _ _ _ h => h) (Or.inl ⟨by rfl, ?_⟩) ?_
  rotate_left
  · intro wq
    go_simp
    try with_reducible rfl
  simp only [Act.put, List.setIfInBounds_toArray, List.set_cons_zero, List.set_cons_succ]
  refine HT.take_at (i := 2) (v := ?_) rfl rfl (by kernel_rfl) (by kernel_rfl) (by kernel_rfl) (fun _ _ _ h => h) (Or.inl ⟨by rfl, ?_⟩) ?_
  rotate_left
  · intro wq
    go_simp
    try with_reducible rfl
  simp only [Act.put, List.setIfInBounds_toArray, List.set_cons_zero, List.set_cons_succ]
  refine HT.take_at (i := 3) (v := ?_) rfl rfl (by kernel_rfl) (by kernel_rfl) (by kernel_rfl) (fun _ _ _ h => h) (Or.inl ⟨by rfl, ?_⟩) ?_
  rotate_left
  · intro wq
    go_simp
    try with_reducible rfl
  simp only [Act.put, List.setIfInBounds_toArray, List.set_cons_zero, List.set_cons_succ]
  refine HT.take_at (i := 4) (v := ?_) rfl rfl (by kernel_rfl) (by kernel_rfl) (by kernel_rfl) (fun _ _ _ h => h) (Or.inl ⟨by rfl, ?_⟩) ?_
  rotate_left
  · intro wq
    go_simp
    try with_reducible rfl
  simp only [Act.put, List.setIfInBounds_toArray, List.set_cons_zero, List.set_cons_succ]
  refine HT.take_at (i := 5) (v := ?_) rfl rfl (by kernel_rfl) (by kernel_rfl) (by kernel_rfl) (fun _ _ _ h => h) (Or.inl ⟨by rfl, ?_⟩) ?_
  rotate_left
  · intro wq
    go_simp
    try with_reducible rfl
  simp only [Act.put, List.setIfInBounds_toArray, List.set_cons_zero, List.set_cons_succ]
  refine HT.take_at (i := 6) (v := ?_) rfl rfl (by kernel_rfl) (by kernel_rfl) (by kernel_rfl) (fun _ _ _ h => h) (Or.inl ⟨by rfl, ?_⟩) ?_
  rotate_left
  · intro wq
    go_simp
    try with_reducible rfl
  simp only [Act.put, List.setIfInBounds_toArray, List.set_cons_zero, List.set_cons_succ]
  refine HT.take_at (i := 7) (v := ?_) rfl rfl (by kernel_rfl) (by kernel_rfl) (by kernel_rfl) (fun _ _ _ h => h) (Or.inl ⟨by rfl, ?_⟩) ?_
  rotate_left
  · intro wq
    go_simp
    try with_reducible rfl
  simp only [Act.put, List.setIfInBounds_toArray, List.set_cons_zero, List.set_cons_succ]
  refine HT.take_at (i := 8) (v := ?_) rfl rfl (by kernel_rfl) (by kernel_rfl) (by kernel_rfl) (fun _ _ _ h => h) (Or.inl ⟨by rfl, ?_⟩) ?_
  rotate_left
  · intro wq
    go_simp
    try with_reducible rfl
  simp only [Act.put, List.setIfInBounds_toArray, List.set_cons_zero, List.set_cons_succ]
  refine HT.wpAny_of_G (k := 13) (S := fun w' => Below w5.heap.size w5 w') _ _ _ _ ?_
  refine HT.takeG_at (i := 9) (v := ?_) rfl rfl (by kernel_rfl) (by kernel_rfl) (by kernel_rfl) (by kernel_rfl) (by kernel_rfl) (by kernel_rfl) (fun _ _ _ h => h) hS0 (Or.inl ⟨by rfl, ?_⟩) ?_
  rotate_left
  · intro wq hwq
    have z0 := cell_on hwq p0
    have z1 := cell_on hwq p1
    have z2 := cell_on hwq p2
    have z3 := cell_on hwq p3
    go_simp
    try with_reducible rfl
  simp only [Act.put, List.setIfInBounds_toArray, List.set_cons_zero, List.set_cons_succ]
  refine HT.takeG_at (i := 11) (v := ?_) rfl rfl (by kernel_rfl) (by kernel_rfl) (by kernel_rfl) (by kernel_rfl) (by kernel_rfl) (by kernel_rfl) (fun _ _ _ h => h) hS0 (Or.inl ⟨by rfl, ?_⟩) ?_
  rotate_left
  · intro wq hwq
    have z0 := cell_on hwq p0
    have z1 := cell_on hwq p1
    have z2 := cell_on hwq p2
    have z3 := cell_on hwq p3
    go_simp
    try with_reducible rfl
  simp only [Act.put, List.setIfInBounds_toArray, List.set_cons_zero, List.set_cons_succ]
  refine HT.wpAnyG_one (i := 10) (by kernel_rfl) rfl (fun KK hKK => ?_)
  go_simp
  refine (sM _ hS0).mono ?_
  rintro e wa ⟨rfl, hba⟩
  have hSa := hS0.trans (hba.mono hS0.size)
  simp only
  refine hKK _ _ hSa ?_
  clear hKK KK
  refine HT.wpAnyG_one (i := 12) (by kernel_rfl) rfl (fun KK hKK => ?_)
  go_simp
  refine (sM' _ hSa).mono ?_
  rintro e wb ⟨rfl, hbb⟩
  have hSb := hSa.trans (hbb.mono hSa.size)
  simp only
  refine hKK _ _ hSb ?_
  clear hKK KK
  refine HT.wpAnyG_turn (k := 13) (by kernel_rfl) rfl (fun KK hKK => ?_)
  go_simp
  refine hKK _ _ ?_
  clear hKK KK
  refine HT.take_at (i := 14) (v := ?_) rfl rfl (by kernel_rfl) (by kernel_rfl) (by kernel_rfl) (fun _ _ _ h => h) (Or.inl ⟨by rfl, ?_⟩) ?_
  rotate_left
  · intro wq
    go_simp
    try with_reducible rfl
  simp only [Act.put, List.setIfInBounds_toArray, List.set_cons_zero, List.set_cons_succ]
  refine HT.take_at (i := 15) (v := ?_) rfl rfl (by kernel_rfl) (by kernel_rfl) (by kernel_rfl) (fun _ _ _ h => h) (Or.inl ⟨by rfl, ?_⟩) ?_
  rotate_left
  · intro wq
    go_simp
    try with_reducible rfl
  simp only [Act.put, List.setIfInBounds_toArray, List.set_cons_zero, List.set_cons_succ]
  refine HT.take_at (i := 16) (v := ?_) rfl rfl (by kernel_rfl) (by kernel_rfl) (by kernel_rfl) (fun _ _ _ h => h) (Or.inl ⟨by rfl, ?_⟩) ?_
  rotate_left
  · intro wq
    go_simp
    try with_reducible rfl
  simp only [Act.put, List.setIfInBounds_toArray, List.set_cons_zero, List.set_cons_succ]
  refine HT.take_at (i := 17) (v := ?_) rfl rfl (by kernel_rfl) (by kernel_rfl) (by kernel_rfl) (fun _ _ _ h => h) (Or.inl ⟨by rfl, ?_⟩) ?_
  rotate_left
  · intro wq
    go_simp
    try with_reducible rfl
  simp only [Act.put, List.setIfInBounds_toArray, List.set_cons_zero, List.set_cons_succ]
  refine HT.take_at (i := 18) (v := ?_) rfl rfl (by kernel_rfl) (by kernel_rfl) (by kernel_rfl) (fun _ _ _ h => h) (Or.inl ⟨by rfl, ?_⟩) ?_
  rotate_left
  · intro wq
    go_simp
    try with_reducible rfl
  simp only [Act.put, List.setIfInBounds_toArray, List.set_cons_zero, List.set_cons_succ]
  refine HT.take_at (i := 19) (v := ?_) rfl rfl (by kernel_rfl) (by kernel_rfl) (by kernel_rfl) (fun _ _ _ h => h) (Or.inl ⟨by rfl, ?_⟩) ?_
  rotate_left
  · intro wq
    go_simp
    try with_reducible rfl
  simp only [Act.put, List.setIfInBounds_toArray, List.set_cons_zero, List.set_cons_succ]
  refine HT.take_at (i := 20) (v := ?_) rfl rfl (by kernel_rfl) (by kernel_rfl) (by kernel_rfl) (fun _ _ _ h => h) (Or.inl ⟨by rfl, ?_⟩) ?_
  rotate_left
  · intro wq
    go_simp
    try with_reducible rfl
  simp only [Act.put, List.setIfInBounds_toArray, List.set_cons_zero, List.set_cons_succ]
  refine HT.take_at (i := 21) (v := ?_) rfl rfl (by kernel_rfl) (by kernel_rfl) (by kernel_rfl) (fun _ _ _ h => h) (Or.inl ⟨by rfl, ?_⟩) ?_
  rotate_left
  · intro wq
    go_simp
    try with_reducible rfl
  simp only [Act.put, List.setIfInBounds_toArray, List.set_cons_zero, List.set_cons_succ]
  refine HT.take_at (i := 22) (v := ?_) rfl rfl (by kernel_rfl) (by kernel_rfl) (by kernel_rfl) (fun _ _ _ h => h) (Or.inl ⟨by rfl, ?_⟩) ?_
  rotate_left
  · intro wq
    go_simp
    try with_reducible rfl
  simp only [Act.put, List.setIfInBounds_toArray, List.set_cons_zero, List.set_cons_succ]
  refine HT.take_at (i := 23) (v := ?_) rfl rfl (by kernel_rfl) (by kernel_rfl) (by kernel_rfl) (fun _ _ _ h => h) (Or.inl ⟨by rfl, ?_⟩) ?_
  rotate_left
  · intro wq
    go_simp
    try with_reducible rfl
  simp only [Act.put, List.setIfInBounds_toArray, List.set_cons_zero, List.set_cons_succ]
  refine HT.take_at (i := 24) (v := ?_) rfl rfl (by kernel_rfl) (by kernel_rfl) (by kernel_rfl) (fun _ _ _ h => h) (Or.inl ⟨by rfl, ?_⟩) ?_
  rotate_left
  · intro wq
    go_simp
    try with_reducible rfl
  simp only [Act.put, List.setIfInBounds_toArray, List.set_cons_zero, List.set_cons_succ]
  refine HT.take_at (i := 25) (v := ?_) rfl rfl (by kernel_rfl) (by kernel_rfl) (by kernel_rfl) (fun _ _ _ h => h) (Or.inl ⟨by rfl, ?_⟩) ?_
  rotate_left
  · intro wq
    go_simp
    try with_reducible rfl
  simp only [Act.put, List.setIfInBounds_toArray, List.set_cons_zero, List.set_cons_succ]
  refine HT.wpAny_one (i := 26) (by kernel_rfl) rfl (fun KK hKK => ?_)
  go_simp
  refine (cE _ hSb).mono ?_
  rintro e we ⟨rfl, hbe⟩
  have hSe := hSb.trans (hbe.mono hSb.size)
  simp only
  refine hKK _ _ ?_
  clear hKK KK
  refine HT.take_at (i := 27) (v := ?_) rfl rfl (by kernel_rfl) (by kernel_rfl) (by kernel_rfl) (fun _ _ _ h => h) (Or.inl ⟨by rfl, ?_⟩) ?_
  rotate_left
  · intro wq
    go_simp
    try with_reducible rfl
  simp only [Act.put, List.setIfInBounds_toArray, List.set_cons_zero, List.set_cons_succ]
  refine HT.take_at (i := 28) (v := ?_) rfl rfl (by kernel_rfl) (by kernel_rfl) (by kernel_rfl) (fun _ _ _ h => h) (Or.inl ⟨by rfl, ?_⟩) ?_
  rotate_left
  · intro wq
    go_simp
    try with_reducible rfl
  simp only [Act.put, List.setIfInBounds_toArray, List.set_cons_zero, List.set_cons_succ]
  refine wpAny_done (by kernel_rfl) ?_ _
  go_wp2
  go_ret
  exact ⟨rfl, hb05.trans (hSe.mono hb05.size)⟩
end Go.Proofs.YtakdhfjlhkejdaaGreatDoor
