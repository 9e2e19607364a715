/-
  For every text and every two cuts codicillaw04.CrcJoin returns true: sums of pieces make the sum of the whole. No conditions.
-/
import Derived.Test.YtgpoighenlfbjaaCrcJn
import Derived.Test.YtgpoighenlfbjaaCrcWorks
import Derived.Deep.DeepCutAuto
import Derived.ProofKit
import Derived.OpenShut
import Derived.ShutString
import Derived.SizedLaws
namespace Go.Proofs.Ytgpoighenlfbjaa.crcJoin
open Go.ChangeShapes Go.WideShapes Go.ChangeAt Go.RowKit
open Go.ChangeMaps (open_string shut_string)
set_option linter.unusedVariables false

theorem ext_le (s : ByteArray) (a b : Nat) : (s.extract a b).size ≤ s.size := by
  rw [ByteArray.size_extract]
  omega
theorem pieces (s : ByteArray) (i k : Nat) (hik : i ≤ k) (hks : k ≤ s.size) {P R T : List UInt8} (hP : (s.extract 0 i).data.toList = P) (hR : (s.extract i k).data.toList = R) (hT : (s.extract k s.size).data.toList = T) :
    s.data.toList = P ++ R ++ T ∧ R.length = k - i ∧ T.length = s.size - k := by
  subst hP hR hT
  have hl : s.data.toList.length = s.size := (Lib.size_eq s).symm
  simp only [Lib.extract_data]
  generalize s.data.toList = l at hl ⊢
  refine ⟨?_, ?_, ?_⟩
  · rw [List.drop_zero, Nat.sub_zero, List.take_of_length_le (i := s.size - k) (by simp; omega)]
    have e : List.take i l ++ List.take (k - i) (List.drop i l) = List.take k l := by
      rw [← List.take_add, show i + (k - i) = k by omega]
    rw [e, List.take_append_drop]
  · simp
    omega
  · simp
    omega
set_option linter.unusedSimpArgs false in
set_option maxHeartbeats 8000000 in
set_option maxRecDepth 10000000 in
theorem walk (a0 : ByteArray) (a1 a2 : Int) (w0 : a0.size ≤ maxLen) (w1 : (Lit.int .u16 a1).wf = true) (w2 : (Lit.int .u16 a2).wf = true) (z0 : a0.size ≤ reachBytes) (w : World) :
    Calls Try.prog 4 #[.string a0, .int .u16 a1, .int .u16 a2] w fun e w' => e = .returned (.bool true) ∧ Below w.heap.size w w' := by
  unfold reachBytes at z0
  have acc : Below w.heap.size w w := Below.refl _ _
  by_cases hbig : 16384 < a0.size
  · have hb2 : (16384 : Int) < (a0.size : Int) := by omega
    clear w0 w1 w2
    go_enter Try.func4, Try.ntmps4
    go_wp2_with (go_at_call 6; refine (works_any _).mono ?_; rintro e w' ⟨rfl, hb⟩; have acc := acc.trans (hb.mono acc.size); clear hb)
    go_ret
    exact ⟨rfl, acc⟩
  · obtain ⟨b0, b9⟩ := bounds_u16 w1
    obtain ⟨c0, c9⟩ := bounds_u16 w2
    obtain ⟨x, rfl⟩ := Int.eq_ofNat_of_zero_le b0
    obtain ⟨y, rfl⟩ := Int.eq_ofNat_of_zero_le c0
    have hx : 0 < a0.size + 1 := by omega
    have m1 := Nat.mod_lt x hx
    have m2 := Nat.mod_lt y hx
    have e1 : (wrap64 (x : Int)).tmod ((a0.size : Int) + 1) = ((x % (a0.size + 1) : Nat) : Int) := by
      rw [show wrap64 (x : Int) = x by unfold wrap64; omega, show ((a0.size : Int) + 1) = ((a0.size + 1 : Nat) : Int) by omega]
      rfl
    have e2 : (wrap64 (y : Int)).tmod ((a0.size : Int) + 1) = ((y % (a0.size + 1) : Nat) : Int) := by
      rw [show wrap64 (y : Int) = y by unfold wrap64; omega, show ((a0.size : Int) + 1) = ((a0.size + 1 : Nat) : Int) by omega]
      rfl
    have hsmall : (a0.size : Int) ≤ 16384 := by omega
    have hsz : a0.size ≤ 16384 := by omega
    clear w1 w2 b0 b9 c0 c9 w0 z0 hbig
    generalize x % (a0.size + 1) = x' at *
    generalize y % (a0.size + 1) = y' at *
    obtain ⟨i, hi⟩ : ∃ i, i = min x' y' := ⟨_, rfl⟩
    obtain ⟨k, hk⟩ : ∃ i, i = max x' y' := ⟨_, rfl⟩
    have e3 : min (x' : Int) (y' : Int) = (i : Int) := by omega
    have e4 : max (x' : Int) (y' : Int) = (k : Int) := by omega
    have hik : i ≤ k := by omega
    have hks : k ≤ a0.size := by omega
    clear hi hk m1 m2 hx
    have hz : (0 : Int) < (a0.size : Int) + 1 := by omega
    have hz2 : ((a0.size : Int) + 1 = 0) = False := by simp; omega
    go_enter Try.func4, Try.ntmps4
    go_wp2
    go_quiet (fail)
    clear hz hz2
    go_wp2
    clear e3 e4 e1 e2
    have zx := fun a b => ext_le a0 a b
    have m16 : 16384 ≤ maxLen := by unfold maxLen; omega
    have cX := fun w => of_any (a0.extract 0 i) w (Nat.le_trans (zx 0 i) (Nat.le_trans hsz m16))
    have cY := fun w => of_any (a0.extract i k) w (Nat.le_trans (zx i k) (Nat.le_trans hsz m16))
    have cZ := fun w => of_any (a0.extract k a0.size) w (Nat.le_trans (zx k a0.size) (Nat.le_trans hsz m16))
    have acc : Below w.heap.size w (w.drewN nq) := below_drewN (Below.refl _ _) nq
    generalize w.drewN nq = wd at acc ⊢
    clear zx m16
    have cW := fun w => of_any a0 w (Nat.le_trans hsz (by unfold maxLen; omega))
    obtain ⟨P, hP⟩ : ∃ l, (a0.extract 0 i).data.toList = l := ⟨_, rfl⟩
    obtain ⟨R, hR⟩ : ∃ l, (a0.extract i k).data.toList = l := ⟨_, rfl⟩
    obtain ⟨T, hT⟩ : ∃ l, (a0.extract k a0.size).data.toList = l := ⟨_, rfl⟩
    obtain ⟨p1, p2, p3⟩ := pieces a0 i k hik hks hP hR hT
    have cM1 := fun w => more_any (moreB 0#32 P) (a0.extract i k) w (Nat.le_trans (ext_le a0 i k) (Nat.le_trans hsz (by unfold maxLen; omega)))
    have cM2 := fun w => more_any (moreB 0#32 (P ++ R)) (a0.extract k a0.size) w (Nat.le_trans (ext_le a0 k a0.size) (Nat.le_trans hsz (by unfold maxLen; omega)))
    have cJ1 := fun w => join_any (moreB 0#32 P) (moreB 0#32 R) R.length (by omega) w
    have cJ2 := fun w => join_any (moreB 0#32 (P ++ R)) (moreB 0#32 T) T.length (by omega) w
    have cJ3 := fun w => join_any (moreB 0#32 R) (moreB 0#32 T) T.length (by omega) w
    have cJ4 := fun w => join_any (moreB 0#32 P) (moreB 0#32 (R ++ T)) (R ++ T).length (by rw [List.length_append]; omega) w
    have s1 : IntKind.i64.wrap ((k : Int) - (i : Int)) = (R.length : Int) := by rw [IntWalk.i64_in _ (by omega)]; omega
    have s2 : IntKind.i64.wrap ((a0.size : Int) - (k : Int)) = (T.length : Int) := by rw [IntWalk.i64_in _ (by omega)]; omega
    have s3 : IntKind.i64.wrap ((a0.size : Int) - (i : Int)) = ((R ++ T).length : Int) := by rw [IntWalk.i64_in _ (by omega), List.length_append]; omega
    simp only [hP, hR, hT, p1, moreB_app, joinB_app, List.append_assoc] at cX cY cZ cW cM1 cM2 cJ1 cJ2 cJ3 cJ4
    generalize vI (moreB 0#32 P) = X at *
    generalize vI (moreB 0#32 R) = Y at *
    generalize vI (moreB 0#32 T) = Z at *
    generalize vI (moreB 0#32 (P ++ R)) = M at *
    generalize vI (moreB 0#32 (R ++ T)) = V at *
    generalize vI (moreB 0#32 (P ++ (R ++ T))) = W at *
    generalize R.length = n1 at *
    generalize T.length = n2 at *
    generalize (R ++ T).length = n3 at *
    clear p1 p2 p3 hP hR hT
    go_cut [9, 10, 11] (fun s9 s10 s11 wx => s9 = .int .u32 X ∧ s10 = .int .u32 Y ∧ s11 = .int .u32 Z ∧ Below w.heap.size w wx)
    case first =>
      clear cM1 cM2 cJ1 cJ2 cJ3 cJ4 s1 s2 s3 cW
      have acc := acc.drew
      go_region_with (first | (go_at_call_of 7 (Value.string (a0.extract 0 i)); ((with_reducible refine (cX _).mono ?_)); rintro e w' ⟨rfl, hb⟩; have acc := acc.trans (hb.mono acc.size); clear hb) | (go_at_call_of 7 (Value.string (a0.extract i k)); ((with_reducible refine (cY _).mono ?_)); rintro e w' ⟨rfl, hb⟩; have acc := acc.trans (hb.mono acc.size); clear hb) | (go_at_call_of 7 (Value.string (a0.extract k a0.size)); ((with_reducible refine (cZ _).mono ?_)); rintro e w' ⟨rfl, hb⟩; have acc := acc.trans (hb.mono acc.size); clear hb))
      all_goals (go_wp2_with fail; go_meet; exact ⟨rfl, rfl, rfl, acc⟩)
    case rest =>
      obtain ⟨rfl, rfl, rfl, acc⟩ := hcut
      clear cX cY cZ
      go_wp2_with (first | (go_at_call 7; ((with_reducible refine (cW _).mono ?_)); rintro e w' ⟨rfl, hb⟩; have acc := acc.trans (hb.mono acc.size); clear hb))
      have acc := acc.drew
      -- BEGIN
      refine wp_region_any (by kernel_rfl) ?_
      change wpAny _ _ _ _ 49 #[false, false, false, false, false, false, false, false, false, false, false, false, false, false, false, false, false, false, false, false, false, false, false, false, false, false, false, false, false, false, false, false, false, false, false, false, false, false, false, false, false, false, false, false, false, false, false, false, false] _ (World.drew _)
      refine take_at (i := 0) (v := ?_) rfl rfl (by kernel_rfl) (by kernel_rfl) (by kernel_rfl) (fun _ _ _ h => h) (Or.inl ⟨by rfl, ?_⟩) ?_
      rotate_left
      · intro wq
        go_simp
        try with_reducible rfl
      simp only [Act.put, List.setIfInBounds_toArray, List.set_cons_zero, List.set_cons_succ]
      refine take_at (i := 1) (v := ?_) rfl rfl (by kernel_rfl) (by kernel_rfl) (by kernel_rfl) (fun _ _ _ h => h) (Or.inl ⟨by rfl, ?_⟩) ?_
      rotate_left
      · intro wq
        go_simp
        try with_reducible rfl
      simp only [Act.put, List.setIfInBounds_toArray, List.set_cons_zero, List.set_cons_succ]
      refine take_at (i := 2) (v := ?_) rfl rfl (by kernel_rfl) (by kernel_rfl) (by kernel_rfl) (fun _ _ _ h => h) (Or.inl ⟨by rfl, ?_⟩) ?_
      rotate_left
      · intro wq
        go_simp
        try with_reducible rfl
      simp only [Act.put, List.setIfInBounds_toArray, List.set_cons_zero, List.set_cons_succ]
      refine take_at (i := 3) (v := ?_) rfl rfl (by kernel_rfl) (by kernel_rfl) (by kernel_rfl) (fun _ _ _ h => h) (Or.inl ⟨by rfl, ?_⟩) ?_
      rotate_left
      · intro wq
        go_simp
        try with_reducible rfl
      simp only [Act.put, List.setIfInBounds_toArray, List.set_cons_zero, List.set_cons_succ]
      refine take_at (i := 4) (v := ?_) rfl rfl (by kernel_rfl) (by kernel_rfl) (by kernel_rfl) (fun _ _ _ h => h) (Or.inl ⟨by rfl, ?_⟩) ?_
      rotate_left
      · intro wq
        go_simp
        try with_reducible rfl
      simp only [Act.put, List.setIfInBounds_toArray, List.set_cons_zero, List.set_cons_succ]
      refine take_at (i := 6) (v := ?_) rfl rfl (by kernel_rfl) (by kernel_rfl) (by kernel_rfl) (fun _ _ _ h => h) (Or.inl ⟨by rfl, ?_⟩) ?_
      rotate_left
      · intro wq
        go_simp
        try with_reducible rfl
      simp only [Act.put, List.setIfInBounds_toArray, List.set_cons_zero, List.set_cons_succ]
      refine take_at (i := 7) (v := ?_) rfl rfl (by kernel_rfl) (by kernel_rfl) (by kernel_rfl) (fun _ _ _ h => h) (Or.inl ⟨by rfl, ?_⟩) ?_
      rotate_left
      · intro wq
        go_simp
        try with_reducible rfl
      simp only [Act.put, List.setIfInBounds_toArray, List.set_cons_zero, List.set_cons_succ]
      refine take_at (i := 8) (v := ?_) rfl rfl (by kernel_rfl) (by kernel_rfl) (by kernel_rfl) (fun _ _ _ h => h) (Or.inl ⟨by rfl, ?_⟩) ?_
      rotate_left
      · intro wq
        go_simp
        try with_reducible rfl
      simp only [Act.put, List.setIfInBounds_toArray, List.set_cons_zero, List.set_cons_succ]
      refine take_at (i := 10) (v := ?_) rfl rfl (by kernel_rfl) (by kernel_rfl) (by kernel_rfl) (fun _ _ _ h => h) (Or.inl ⟨by rfl, ?_⟩) ?_
      rotate_left
      · intro wq
        go_simp
        try with_reducible rfl
      simp only [Act.put, List.setIfInBounds_toArray, List.set_cons_zero, List.set_cons_succ]
      refine any_one (i := 5) (by kernel_rfl) rfl (fun K hK => ?_)
      go_simp
      refine (cM1 _).mono ?_
      rintro e wn ⟨rfl, hb⟩
      have acc := acc.trans (hb.mono acc.size)
      clear hb
      simp only
      refine hK _ _ ?_
      clear hK K
      refine any_one (i := 9) (by kernel_rfl) rfl (fun K hK => ?_)
      go_simp
      refine (cM2 _).mono ?_
      rintro e wn ⟨rfl, hb⟩
      have acc := acc.trans (hb.mono acc.size)
      clear hb
      simp only
      refine hK _ _ ?_
      clear hK K
      refine take_at (i := 11) (v := ?_) rfl rfl (by kernel_rfl) (by kernel_rfl) (by kernel_rfl) (fun _ _ _ h => h) (Or.inl ⟨by rfl, ?_⟩) ?_
      rotate_left
      · intro wq
        go_simp
        try with_reducible rfl
      simp only [Act.put, List.setIfInBounds_toArray, List.set_cons_zero, List.set_cons_succ]
      refine take_at (i := 12) (v := ?_) rfl rfl (by kernel_rfl) (by kernel_rfl) (by kernel_rfl) (fun _ _ _ h => h) (Or.inl ⟨by rfl, ?_⟩) ?_
      rotate_left
      · intro wq
        go_simp
        try with_reducible rfl
      simp only [Act.put, List.setIfInBounds_toArray, List.set_cons_zero, List.set_cons_succ]
      refine take_at (i := 13) (v := ?_) rfl rfl (by kernel_rfl) (by kernel_rfl) (by kernel_rfl) (fun _ _ _ h => h) (Or.inl ⟨by rfl, ?_⟩) ?_
      rotate_left
      · intro wq
        go_simp
        try with_reducible rfl
      simp only [Act.put, List.setIfInBounds_toArray, List.set_cons_zero, List.set_cons_succ]
      refine take_at (i := 14) (v := ?_) rfl rfl (by kernel_rfl) (by kernel_rfl) (by kernel_rfl) (fun _ _ _ h => h) (Or.inl ⟨by rfl, ?_⟩) ?_
      rotate_left
      · intro wq
        go_simp
        try with_reducible rfl
      simp only [Act.put, List.setIfInBounds_toArray, List.set_cons_zero, List.set_cons_succ]
      refine take_at (i := 15) (v := ?_) rfl rfl (by kernel_rfl) (by kernel_rfl) (by kernel_rfl) (fun _ _ _ h => h) (Or.inl ⟨by rfl, ?_⟩) ?_
      rotate_left
      · intro wq
        go_simp
        try with_reducible rfl
      simp only [Act.put, List.setIfInBounds_toArray, List.set_cons_zero, List.set_cons_succ]
      refine take_at (i := 16) (v := ?_) rfl rfl (by kernel_rfl) (by kernel_rfl) (by kernel_rfl) (fun _ _ _ h => h) (Or.inl ⟨by rfl, ?_⟩) ?_
      rotate_left
      · intro wq
        go_simp
        try with_reducible rfl
      simp only [Act.put, List.setIfInBounds_toArray, List.set_cons_zero, List.set_cons_succ]
      refine take_at (i := 17) (v := ?_) rfl rfl (by kernel_rfl) (by kernel_rfl) (by kernel_rfl) (fun _ _ _ h => h) (Or.inl ⟨by rfl, ?_⟩) ?_
      rotate_left
      · intro wq
        go_simp
        try with_reducible rfl
      simp only [Act.put, List.setIfInBounds_toArray, List.set_cons_zero, List.set_cons_succ]
      refine take_at (i := 19) (v := ?_) rfl rfl (by kernel_rfl) (by kernel_rfl) (by kernel_rfl) (fun _ _ _ h => h) (Or.inl ⟨by rfl, ?_⟩) ?_
      rotate_left
      · intro wq
        go_simp
        try with_reducible rfl
      simp only [Act.put, List.setIfInBounds_toArray, List.set_cons_zero, List.set_cons_succ]
      refine take_at (i := 20) (v := ?_) rfl rfl (by kernel_rfl) (by kernel_rfl) (by kernel_rfl) (fun _ _ _ h => h) (Or.inl ⟨by rfl, ?_⟩) ?_
      rotate_left
      · intro wq
        go_simp
        try with_reducible rfl
      simp only [Act.put, List.setIfInBounds_toArray, List.set_cons_zero, List.set_cons_succ]
      refine take_at (i := 21) (v := ?_) rfl rfl (by kernel_rfl) (by kernel_rfl) (by kernel_rfl) (fun _ _ _ h => h) (Or.inl ⟨by rfl, ?_⟩) ?_
      rotate_left
      · intro wq
        go_simp
        try with_reducible rfl
      simp only [Act.put, List.setIfInBounds_toArray, List.set_cons_zero, List.set_cons_succ]
      refine take_at (i := 22) (v := ?_) rfl rfl (by kernel_rfl) (by kernel_rfl) (by kernel_rfl) (fun _ _ _ h => h) (Or.inl ⟨by rfl, ?_⟩) ?_
      rotate_left
      · intro wq
        go_simp
        try with_reducible rfl
      simp only [Act.put, List.setIfInBounds_toArray, List.set_cons_zero, List.set_cons_succ]
      refine take_at (i := 23) (v := ?_) rfl rfl (by kernel_rfl) (by kernel_rfl) (by kernel_rfl) (fun _ _ _ h => h) (Or.inl ⟨by rfl, ?_⟩) ?_
      rotate_left
      · intro wq
        go_simp
        try with_reducible rfl
      simp only [Act.put, List.setIfInBounds_toArray, List.set_cons_zero, List.set_cons_succ]
      refine take_at (i := 25) (v := ?_) rfl rfl (by kernel_rfl) (by kernel_rfl) (by kernel_rfl) (fun _ _ _ h => h) (Or.inl ⟨by rfl, ?_⟩) ?_
      rotate_left
      · intro wq
        go_simp
        try with_reducible rfl
      simp only [Act.put, List.setIfInBounds_toArray, List.set_cons_zero, List.set_cons_succ]
      refine any_one (i := 18) (by kernel_rfl) rfl (fun K hK => ?_)
      go_simp
      refine (cJ1 _).mono ?_
      rintro e wn ⟨rfl, rfl⟩
      simp only
      refine hK _ _ ?_
      clear hK K
      refine any_one (i := 24) (by kernel_rfl) rfl (fun K hK => ?_)
      go_simp
      refine (cJ2 _).mono ?_
      rintro e wn ⟨rfl, rfl⟩
      simp only
      refine hK _ _ ?_
      clear hK K
      refine take_at (i := 26) (v := ?_) rfl rfl (by kernel_rfl) (by kernel_rfl) (by kernel_rfl) (fun _ _ _ h => h) (Or.inl ⟨by rfl, ?_⟩) ?_
      rotate_left
      · intro wq
        go_simp
        try with_reducible rfl
      simp only [Act.put, List.setIfInBounds_toArray, List.set_cons_zero, List.set_cons_succ]
      refine take_at (i := 27) (v := ?_) rfl rfl (by kernel_rfl) (by kernel_rfl) (by kernel_rfl) (fun _ _ _ h => h) (Or.inl ⟨by rfl, ?_⟩) ?_
      rotate_left
      · intro wq
        go_simp
        try with_reducible rfl
      simp only [Act.put, List.setIfInBounds_toArray, List.set_cons_zero, List.set_cons_succ]
      refine take_at (i := 28) (v := ?_) rfl rfl (by kernel_rfl) (by kernel_rfl) (by kernel_rfl) (fun _ _ _ h => h) (Or.inl ⟨by rfl, ?_⟩) ?_
      rotate_left
      · intro wq
        go_simp
        try with_reducible rfl
      simp only [Act.put, List.setIfInBounds_toArray, List.set_cons_zero, List.set_cons_succ]
      refine take_at (i := 29) (v := ?_) rfl rfl (by kernel_rfl) (by kernel_rfl) (by kernel_rfl) (fun _ _ _ h => h) (Or.inl ⟨by rfl, ?_⟩) ?_
      rotate_left
      · intro wq
        go_simp
        try with_reducible rfl
      simp only [Act.put, List.setIfInBounds_toArray, List.set_cons_zero, List.set_cons_succ]
      refine take_at (i := 30) (v := ?_) rfl rfl (by kernel_rfl) (by kernel_rfl) (by kernel_rfl) (fun _ _ _ h => h) (Or.inl ⟨by rfl, ?_⟩) ?_
      rotate_left
      · intro wq
        go_simp
        try with_reducible rfl
      simp only [Act.put, List.setIfInBounds_toArray, List.set_cons_zero, List.set_cons_succ]
      refine take_at (i := 31) (v := ?_) rfl rfl (by kernel_rfl) (by kernel_rfl) (by kernel_rfl) (fun _ _ _ h => h) (Or.inl ⟨by rfl, ?_⟩) ?_
      rotate_left
      · intro wq
        go_simp
        try with_reducible rfl
      simp only [Act.put, List.setIfInBounds_toArray, List.set_cons_zero, List.set_cons_succ]
      refine take_at (i := 32) (v := ?_) rfl rfl (by kernel_rfl) (by kernel_rfl) (by kernel_rfl) (fun _ _ _ h => h) (Or.inl ⟨by rfl, ?_⟩) ?_
      rotate_left
      · intro wq
        go_simp
        try with_reducible rfl
      simp only [Act.put, List.setIfInBounds_toArray, List.set_cons_zero, List.set_cons_succ]
      refine take_at (i := 33) (v := ?_) rfl rfl (by kernel_rfl) (by kernel_rfl) (by kernel_rfl) (fun _ _ _ h => h) (Or.inl ⟨by rfl, ?_⟩) ?_
      rotate_left
      · intro wq
        go_simp
        try with_reducible rfl
      simp only [Act.put, List.setIfInBounds_toArray, List.set_cons_zero, List.set_cons_succ]
      refine take_at (i := 34) (v := ?_) rfl rfl (by kernel_rfl) (by kernel_rfl) (by kernel_rfl) (fun _ _ _ h => h) (Or.inl ⟨by rfl, ?_⟩) ?_
      rotate_left
      · intro wq
        go_simp
        try with_reducible rfl
      simp only [Act.put, List.setIfInBounds_toArray, List.set_cons_zero, List.set_cons_succ]
      refine take_at (i := 35) (v := ?_) rfl rfl (by kernel_rfl) (by kernel_rfl) (by kernel_rfl) (fun _ _ _ h => h) (Or.inl ⟨by rfl, ?_⟩) ?_
      rotate_left
      · intro wq
        go_simp
        try with_reducible rfl
      simp only [Act.put, List.setIfInBounds_toArray, List.set_cons_zero, List.set_cons_succ]
      refine take_at (i := 37) (v := ?_) rfl rfl (by kernel_rfl) (by kernel_rfl) (by kernel_rfl) (fun _ _ _ h => h) (Or.inl ⟨by rfl, ?_⟩) ?_
      rotate_left
      · intro wq
        go_simp
        try with_reducible rfl
      simp only [Act.put, List.setIfInBounds_toArray, List.set_cons_zero, List.set_cons_succ]
      refine take_at (i := 38) (v := ?_) rfl rfl (by kernel_rfl) (by kernel_rfl) (by kernel_rfl) (fun _ _ _ h => h) (Or.inl ⟨by rfl, ?_⟩) ?_
      rotate_left
      · intro wq
        go_simp
        try with_reducible rfl
      simp only [Act.put, List.setIfInBounds_toArray, List.set_cons_zero, List.set_cons_succ]
      refine take_at (i := 39) (v := ?_) rfl rfl (by kernel_rfl) (by kernel_rfl) (by kernel_rfl) (fun _ _ _ h => h) (Or.inl ⟨by rfl, ?_⟩) ?_
      rotate_left
      · intro wq
        go_simp
        try with_reducible rfl
      simp only [Act.put, List.setIfInBounds_toArray, List.set_cons_zero, List.set_cons_succ]
      refine take_at (i := 40) (v := ?_) rfl rfl (by kernel_rfl) (by kernel_rfl) (by kernel_rfl) (fun _ _ _ h => h) (Or.inl ⟨by rfl, ?_⟩) ?_
      rotate_left
      · intro wq
        go_simp
        try with_reducible rfl
      simp only [Act.put, List.setIfInBounds_toArray, List.set_cons_zero, List.set_cons_succ]
      refine take_at (i := 42) (v := ?_) rfl rfl (by kernel_rfl) (by kernel_rfl) (by kernel_rfl) (fun _ _ _ h => h) (Or.inl ⟨by rfl, ?_⟩) ?_
      rotate_left
      · intro wq
        go_simp
        try with_reducible rfl
      simp only [Act.put, List.setIfInBounds_toArray, List.set_cons_zero, List.set_cons_succ]
      refine any_one (i := 36) (by kernel_rfl) rfl (fun K hK => ?_)
      go_simp
      refine (cJ3 _).mono ?_
      rintro e wn ⟨rfl, rfl⟩
      simp only
      refine hK _ _ ?_
      clear hK K
      refine any_one (i := 41) (by kernel_rfl) rfl (fun K hK => ?_)
      go_simp
      refine (cJ4 _).mono ?_
      rintro e wn ⟨rfl, rfl⟩
      simp only
      refine hK _ _ ?_
      clear hK K
      refine take_at (i := 43) (v := ?_) rfl rfl (by kernel_rfl) (by kernel_rfl) (by kernel_rfl) (fun _ _ _ h => h) (Or.inl ⟨by rfl, ?_⟩) ?_
      rotate_left
      · intro wq
        go_simp
        try with_reducible rfl
      simp only [Act.put, List.setIfInBounds_toArray, List.set_cons_zero, List.set_cons_succ]
      refine take_at (i := 44) (v := ?_) rfl rfl (by kernel_rfl) (by kernel_rfl) (by kernel_rfl) (fun _ _ _ h => h) (Or.inl ⟨by rfl, ?_⟩) ?_
      rotate_left
      · intro wq
        go_simp
        try with_reducible rfl
      simp only [Act.put, List.setIfInBounds_toArray, List.set_cons_zero, List.set_cons_succ]
      refine take_at (i := 45) (v := ?_) rfl rfl (by kernel_rfl) (by kernel_rfl) (by kernel_rfl) (fun _ _ _ h => h) (Or.inl ⟨by rfl, ?_⟩) ?_
      rotate_left
      · intro wq
        go_simp
        try with_reducible rfl
      simp only [Act.put, List.setIfInBounds_toArray, List.set_cons_zero, List.set_cons_succ]
      refine any_one (i := 46) (by kernel_rfl) rfl (fun K hK => ?_)
      go_simp
      refine (works_any _).mono ?_
      rintro e wn ⟨rfl, hb⟩
      have acc := acc.trans (hb.mono acc.size)
      clear hb
      simp only
      refine hK _ _ ?_
      clear hK K
      refine take_at (i := 47) (v := ?_) rfl rfl (by kernel_rfl) (by kernel_rfl) (by kernel_rfl) (fun _ _ _ h => h) (Or.inl ⟨by rfl, ?_⟩) ?_
      rotate_left
      · intro wq
        go_simp
        try with_reducible rfl
      simp only [Act.put, List.setIfInBounds_toArray, List.set_cons_zero, List.set_cons_succ]
      refine take_at (i := 48) (v := ?_) rfl rfl (by kernel_rfl) (by kernel_rfl) (by kernel_rfl) (fun _ _ _ h => h) (Or.inl ⟨by rfl, ?_⟩) ?_
      rotate_left
      · intro wq
        go_simp
        try with_reducible rfl
      simp only [Act.put, List.setIfInBounds_toArray, List.set_cons_zero, List.set_cons_succ]
      refine wpAny_done (by kernel_rfl) ?_ _
      -- END
      go_wp2
      go_ret
      exact ⟨rfl, acc⟩

/-! ### From the walk to the statement -/
theorem own : ownKnob Try.prog.godebug = none := by kernel_rfl
set_option maxRecDepth 100000 in
theorem lifted (os : Os) (started : os.Started) (H : Type) (enc : TypeId × Value → H) :
    ReturnsInHanded {} Try.checked os 4 .any (Rows.crcJoinSpec.pre6 enc Try.prog Try.f4 Rows.crcJoinRow.domain false) (Rows.crcJoinSpec.post enc Try.prog Try.f4 false true false false) := by
  refine returnsInHanded_of_change_sized (C := Try.checked) own started (by kernel_rfl) Try.func4
    (ChangeSpec.witness6 (enc := enc) (C := Try.checked) false ⟨#[], #[.string ByteArray.empty, .int .u16 0, .int .u16 0], []⟩ 8 (by kernel_rfl) (by kernel_rfl) (by kernel_rfl) (by kernel_rfl)) ?_
  intro W base args ds gs before hval0 hW hcnd hsz0 _
  have hval : ∀ (j : Nat) t v, Try.f4.params[j]? = some t → args[j]? = some v → Value.okWide Try.prog W .any base t v := hval0
  have hsz : (DataW.weightsEach Try.prog (Try.f4.params.toList ++ Rows.crcJoinSpec.plain.varTypes Try.prog) (ds ++ gs)).all (· ≤ reachBytes) = true := hsz0
  have hW' := hW
  obtain ⟨p, q, hA0, hV, rfl, hfz, hnd⟩ := hW
  have hA : DataW.TrodAll enc Try.prog W 0 (fun _ => true) true Try.f4.params.toList args.toList ds p := hA0
  rw [Try.params4] at hA hval hsz
  obtain ⟨v0, vs0, d0, ds0, p0, q0, hargs, rfl, rfl, h0, r0⟩ := trodAll_cons hA
  obtain ⟨v1, vs1, d1, ds1, p1, q1, rfl, rfl, rfl, h1, r1⟩ := trodAll_cons r0
  obtain ⟨v2, vs2, d2, ds2, p2, q2, rfl, rfl, rfl, h2, r2⟩ := trodAll_cons r1
  obtain ⟨rfl, rfl, rfl⟩ := trodAll_nil r2
  obtain rfl : args = #[v0, v1, v2] := by cases args; simp_all
  obtain ⟨rfl, rfl⟩ := trodVars_none hV
  obtain ⟨a0, rfl, rfl, rfl, w0⟩ := open_string Try.underlying9 (hval 0 9 v0 rfl rfl) h0
  obtain ⟨a1, rfl, rfl, rfl, w1⟩ := open_int Try.underlying28 (hval 1 28 v1 rfl rfl) h1
  obtain ⟨a2, rfl, rfl, rfl, w2⟩ := open_int Try.underlying28 (hval 2 28 v2 rfl rfl) h2
  have z0 : a0.size ≤ reachBytes := by
    rw [Lib.size_eq]
    exact sized_string hsz (j := 0) (t := 9) rfl rfl
  clear hA0 hval0 hsz0
  refine (walk a0 a1 a2 w0 w1 w2 z0 W).mono fun e W' ⟨he, bel⟩ => ?_
  subst he
  exact ⟨_, rfl, _, _, _, [], _, [], hW', trodAll_mk1 (shut_bool Try.underlying4 _), (trodAll_cons_mk (shut_string Try.underlying9 w0) (trodAll_cons_mk (shut_int Try.underlying28 w1) (trodAll_cons_mk (shut_int Try.underlying28 w2) trodAll_mk0))), rfl, bel.frame _, fun h => by cases h⟩

theorem over : Rows.crcJoinRow.holds Try.pinned (OpenSpec.ofChange Rows.crcJoinSpec) :=
  OpenClaim.holds_of_wide 4 Try.f4 rfl rfl rfl rfl rfl rfl rfl ⟨rfl, rfl, rfl, rfl, rfl⟩ rfl rfl rfl rfl rfl (by kernel_rfl) Try.func4 (by kernel_rfl)
    (of_decide_eq_true (by kernel_rfl)) (by unfold Func.isWrapper; first | (rw [if_pos (by decide +kernel)]; kernel_rfl) | (rw [if_neg (by decide +kernel)]; exact ⟨rfl, rfl⟩))
    (fun os started H enc _ => lifted os started H enc)

/-- THE STATEMENT -/
theorem proved : Rows.CrcJoinSaid := over

end Go.Proofs.Ytgpoighenlfbjaa.crcJoin
