/-
  CONTRACT of the document's block.
-/
import Derived.Test.YtadeiljhniffjaaShaHexP
import Derived.Test.YtadeiljhniffjaaShaHeld
import Derived.Test.YtadeiljhniffjaaShaPrimes
namespace Go.Proofs.Ytadeiljhniffjaa
open Go.RowKit
set_option linter.unusedVariables false

/-- t words of a block -/
def wl (b : ByteArray) (t : Nat) : List Int := if t ≤ 16 then w16 b t else wordsN (t - 16) (w16 b 16)
theorem w16_len (b : ByteArray) (t : Nat) : (w16 b t).length = t := by simp [w16]
theorem wl_len (b : ByteArray) (t : Nat) : (wl b t).length = t := by
  unfold wl
  split
  · exact w16_len b t
  · rw [wordsN_len, w16_len]; omega
theorem wl_lo (b : ByteArray) {t : Nat} (h : t < 16) : wl b t ++ [beI b t] = wl b (t + 1) := by
  unfold wl
  rw [if_pos (by omega), if_pos (by omega), w16_on]
theorem wl_hi (b : ByteArray) {t : Nat} (h : ¬ t < 16) : wl b t ++ [nextW (wl b t)] = wl b (t + 1) := by
  have e : wl b t = wordsN (t - 16) (w16 b 16) := by
    unfold wl
    split
    · have : t = 16 := by omega
      subst this
      rfl
    · rfl
  have e2 : wl b (t + 1) = wordsN (t - 16 + 1) (w16 b 16) := by
    unfold wl
    rw [if_neg (by omega), show t + 1 - 16 = t - 16 + 1 by omega]
  rw [e, e2]
  rfl
def be4w (a b c d : Int) : Int := bits .or .u32 (bits .or .u32 (bits .or .u32 (IntKind.u32.wrap (IntKind.u32.wrap a * 16777216)) (IntKind.u32.wrap (IntKind.u32.wrap b * 65536))) (IntKind.u32.wrap (IntKind.u32.wrap c * 256))) (IntKind.u32.wrap d)
theorem turn_quiet (x n : Int) (w : World) (m : Nat) (h0 : 0 ≤ n) (h1 : n < 32) :
    Calls Try.prog 25 #[.int .u32 x, .int .u64 n] (w.drewN m) fun e w' => e = .returned (.int .u32 (rotI x n)) ∧ ∃ m', w' = w.drewN m' :=
  (turn_any x n (w.drewN m) h0 h1).mono fun _ _ ⟨he, hw⟩ => ⟨he, m, hw.symm⟩
theorem addL_comm (A B : List Int) : addL A B = addL B A := by
  unfold addL
  rw [List.zipWith_comm]
  congr 1
  funext a b
  omega
theorem be4w_eq (a b c d : Int) : be4w a b c d = be4 a b c d := by unfold be4w be4; simp only [IntKind.wrap_u32]
def nextWw (x y p q : Int) : Int := IntKind.u32.wrap (IntKind.u32.wrap (IntKind.u32.wrap (s1I y + p) + s0I x) + q)
theorem nextWw_eq (x y p q : Int) : nextWw x y p q = (s1I y + p + s0I x + q) % 4294967296 := by
  unfold nextWw
  simp only [IntKind.wrap_u32]
  omega
theorem wl_all (b : ByteArray) : wl b 64 = wordsN 48 (w16 b 16) := rfl

set_option linter.unusedSimpArgs false in
set_option maxHeartbeats 4000000 in
set_option maxRecDepth 10000000 in
theorem blk_any (H K : List Int) (b : ByteArray) (gh ch gk ck Bh Bk : Nat) (w : World) (hb : b.size = 64) (lH : H.length = 8) (lK : K.length = 64)
    (hH : OW 30 .u32 w Bh (.slice (some ⟨gh, 0, none⟩) 8 ch) H) (hK : OW 30 .u32 w Bk (.slice (some ⟨gk, 0, none⟩) 64 ck) K) :
    Calls Try.prog 19 #[.slice (some ⟨gh, 0, none⟩) 8 ch, .slice (some ⟨gk, 0, none⟩) 64 ck, .string b] w
      fun r w' => ∃ v, r = .returned v ∧ OW 30 .u32 w' w.heap.size v (blockF K H (w16 b 16)) ∧ Below w.heap.size w w' := by
  have LH := Lib.hid lH
  have LK := Lib.hid lK
  clear lH lK
  go_enter Try.func19, Try.ntmps19
  go_wp2
  go_loopw [7, 8] (fun v vt wr => ∃ t : Nat, vt = .int .i64 t ∧ t ≤ 64 ∧ OW 30 .u32 wr w.heap.size v (wl b t) ∧ Below w.heap.size w wr) (fun _ vt _ => 64 - (intOf vt).toNat)
  case atStart => exact ⟨0, rfl, by omega, OW.nil _ _ _ _, Below.refl _ _⟩
  case round =>
    obtain ⟨t, rfl, ht, hO, hB⟩ := hrel
    have hl := wl_len b t
    by_cases hlt : t < 64
    · by_cases h16 : t < 16
      -- BEGIN
      · -- t < 16
        have x0 := fun w => run_index_str b (4 * t) .i64 (by omega) w
        have x1 := fun w => run_index_str b (4 * t + 1) .i64 (by omega) w
        have x2 := fun w => run_index_str b (4 * t + 2) .i64 (by omega) w
        have x3 := fun w => run_index_str b (4 * t + 3) .i64 (by omega) w
        rw [show ((4 * t : Nat) : Int) = 4 * (t : Int) by omega] at x0
        rw [show ((4 * t + 1 : Nat) : Int) = 4 * (t : Int) + 1 by omega] at x1
        rw [show ((4 * t + 2 : Nat) : Int) = 4 * (t : Int) + 2 by omega] at x2
        rw [show ((4 * t + 3 : Nat) : Int) = 4 * (t : Int) + 3 by omega] at x3
        have v0 : IntKind.i64.wrap (4 * (t : Int)) = 4 * (t : Int) := by rw [IntKind.wrap_i64]; omega
        have v1 : IntKind.i64.wrap (4 * (t : Int) + 1) = 4 * (t : Int) + 1 := by rw [IntKind.wrap_i64]; omega
        have v2 : IntKind.i64.wrap (4 * (t : Int) + 2) = 4 * (t : Int) + 2 := by rw [IntKind.wrap_i64]; omega
        have v3 : IntKind.i64.wrap (4 * (t : Int) + 3) = 4 * (t : Int) + 3 := by rw [IntKind.wrap_i64]; omega
        have EE := Lib.hid (wl_lo b h16)
        have BE : be4 (byI b (4 * t)) (byI b (4 * t + 1)) (byI b (4 * t + 2)) (byI b (4 * t + 3)) = beI b t := rfl
        have BH := Lib.hid BE
        clear BE
        generalize byI b (4 * t) = c0 at x0 BH
        generalize byI b (4 * t + 1) = c1 at x1 BH
        generalize byI b (4 * t + 2) = c2 at x2 BH
        generalize byI b (4 * t + 3) = c3 at x3 BH
        go_wp2
        refine wp_region_any (by kernel_rfl) ?_
        change wpAny _ _ _ _ 33 #[false, false, false, false, false, false, false, false, false, false, false, false, false, false, false, false, false, false, false, false, false, false, false, false, false, false, false, false, false, false, false, false, false] _ (World.drew _)
        generalize hWd : World.drew wr = wd
        have hOd := hO.drew
        have hBd := hB.drew
        rw [hWd] at hOd hBd
        clear hWd
        refine take_at (i := 0) (v := ?_) rfl rfl (by kernel_rfl) (by kernel_rfl) (by kernel_rfl) (fun _ _ _ h => h) (Or.inl ⟨by rfl, ?_⟩) ?_
        rotate_left
        · intro wq
          go_simp
          try with_reducible rfl
        simp only [Act.put, List.setIfInBounds_toArray, List.set_cons_zero, List.set_cons_succ]
        refine take_at (i := 1) (v := ?_) rfl rfl (by kernel_rfl) (by kernel_rfl) (by kernel_rfl) (fun _ _ _ h => h) (Or.inl ⟨by rfl, ?_⟩) ?_
        rotate_left
        · intro wq
          go_simp
          try with_reducible rfl
        simp only [Act.put, List.setIfInBounds_toArray, List.set_cons_zero, List.set_cons_succ]
        refine take_at (i := 2) (v := ?_) rfl rfl (by kernel_rfl) (by kernel_rfl) (by kernel_rfl) (fun _ _ _ h => h) (Or.inl ⟨by rfl, ?_⟩) ?_
        rotate_left
        · intro wq
          go_simp
          try with_reducible rfl
        simp only [Act.put, List.setIfInBounds_toArray, List.set_cons_zero, List.set_cons_succ]
        refine take_at (i := 3) (v := ?_) rfl rfl (by kernel_rfl) (by kernel_rfl) (by kernel_rfl) (fun _ _ _ h => h) (Or.inl ⟨by rfl, ?_⟩) ?_
        rotate_left
        · intro wq
          go_simp
          try with_reducible rfl
        simp only [Act.put, List.setIfInBounds_toArray, List.set_cons_zero, List.set_cons_succ]
        refine take_at (i := 4) (v := ?_) rfl rfl (by kernel_rfl) (by kernel_rfl) (by kernel_rfl) (fun _ _ _ h => h) (Or.inl ⟨by rfl, ?_⟩) ?_
        rotate_left
        · intro wq
          go_simp
          try with_reducible rfl
        simp only [Act.put, List.setIfInBounds_toArray, List.set_cons_zero, List.set_cons_succ]
        refine take_at (i := 5) (v := ?_) rfl rfl (by kernel_rfl) (by kernel_rfl) (by kernel_rfl) (fun _ _ _ h => h) (Or.inl ⟨by rfl, ?_⟩) ?_
        rotate_left
        · intro wq
          go_simp
          try with_reducible rfl
        simp only [Act.put, List.setIfInBounds_toArray, List.set_cons_zero, List.set_cons_succ]
        refine take_at (i := 6) (v := ?_) rfl rfl (by kernel_rfl) (by kernel_rfl) (by kernel_rfl) (fun _ _ _ h => h) (Or.inl ⟨by rfl, ?_⟩) ?_
        rotate_left
        · intro wq
          go_simp
          try with_reducible rfl
        simp only [Act.put, List.setIfInBounds_toArray, List.set_cons_zero, List.set_cons_succ]
        refine take_at (i := 7) (v := ?_) rfl rfl (by kernel_rfl) (by kernel_rfl) (by kernel_rfl) (fun _ _ _ h => h) (Or.inl ⟨by rfl, ?_⟩) ?_
        rotate_left
        · intro wq
          go_simp
          try with_reducible rfl
        simp only [Act.put, List.setIfInBounds_toArray, List.set_cons_zero, List.set_cons_succ]
        refine take_at (i := 8) (v := ?_) rfl rfl (by kernel_rfl) (by kernel_rfl) (by kernel_rfl) (fun _ _ _ h => h) (Or.inl ⟨by rfl, ?_⟩) ?_
        rotate_left
        · intro wq
          go_simp
          try with_reducible rfl
        simp only [Act.put, List.setIfInBounds_toArray, List.set_cons_zero, List.set_cons_succ]
        refine take_at (i := 9) (v := ?_) rfl rfl (by kernel_rfl) (by kernel_rfl) (by kernel_rfl) (fun _ _ _ h => h) (Or.inl ⟨by rfl, ?_⟩) ?_
        rotate_left
        · intro wq
          go_simp
          try with_reducible rfl
        simp only [Act.put, List.setIfInBounds_toArray, List.set_cons_zero, List.set_cons_succ]
        refine take_at (i := 10) (v := ?_) rfl rfl (by kernel_rfl) (by kernel_rfl) (by kernel_rfl) (fun _ _ _ h => h) (Or.inl ⟨by rfl, ?_⟩) ?_
        rotate_left
        · intro wq
          go_simp
          try with_reducible rfl
        simp only [Act.put, List.setIfInBounds_toArray, List.set_cons_zero, List.set_cons_succ]
        refine take_at (i := 11) (v := ?_) rfl rfl (by kernel_rfl) (by kernel_rfl) (by kernel_rfl) (fun _ _ _ h => h) (Or.inl ⟨by rfl, ?_⟩) ?_
        rotate_left
        · intro wq
          go_simp
          try with_reducible rfl
        simp only [Act.put, List.setIfInBounds_toArray, List.set_cons_zero, List.set_cons_succ]
        refine take_at (i := 12) (v := ?_) rfl rfl (by kernel_rfl) (by kernel_rfl) (by kernel_rfl) (fun _ _ _ h => h) (Or.inl ⟨by rfl, ?_⟩) ?_
        rotate_left
        · intro wq
          go_simp
          try with_reducible rfl
        simp only [Act.put, List.setIfInBounds_toArray, List.set_cons_zero, List.set_cons_succ]
        refine take_at (i := 13) (v := ?_) rfl rfl (by kernel_rfl) (by kernel_rfl) (by kernel_rfl) (fun _ _ _ h => h) (Or.inl ⟨by rfl, ?_⟩) ?_
        rotate_left
        · intro wq
          go_simp
          try with_reducible rfl
        simp only [Act.put, List.setIfInBounds_toArray, List.set_cons_zero, List.set_cons_succ]
        refine take_at (i := 14) (v := ?_) rfl rfl (by kernel_rfl) (by kernel_rfl) (by kernel_rfl) (fun _ _ _ h => h) (Or.inl ⟨by rfl, ?_⟩) ?_
        rotate_left
        · intro wq
          go_simp
          try with_reducible rfl
        simp only [Act.put, List.setIfInBounds_toArray, List.set_cons_zero, List.set_cons_succ]
        refine take_at (i := 15) (v := ?_) rfl rfl (by kernel_rfl) (by kernel_rfl) (by kernel_rfl) (fun _ _ _ h => h) (Or.inl ⟨by rfl, ?_⟩) ?_
        rotate_left
        · intro wq
          go_simp
          try with_reducible rfl
        simp only [Act.put, List.setIfInBounds_toArray, List.set_cons_zero, List.set_cons_succ]
        refine take_at (i := 16) (v := ?_) rfl rfl (by kernel_rfl) (by kernel_rfl) (by kernel_rfl) (fun _ _ _ h => h) (Or.inl ⟨by rfl, ?_⟩) ?_
        rotate_left
        · intro wq
          go_simp
          try with_reducible rfl
        simp only [Act.put, List.setIfInBounds_toArray, List.set_cons_zero, List.set_cons_succ]
        refine take_at (i := 17) (v := ?_) rfl rfl (by kernel_rfl) (by kernel_rfl) (by kernel_rfl) (fun _ _ _ h => h) (Or.inl ⟨by rfl, ?_⟩) ?_
        rotate_left
        · intro wq
          go_simp
          try with_reducible rfl
        simp only [Act.put, List.setIfInBounds_toArray, List.set_cons_zero, List.set_cons_succ]
        refine take_at (i := 18) (v := ?_) rfl rfl (by kernel_rfl) (by kernel_rfl) (by kernel_rfl) (fun _ _ _ h => h) (Or.inl ⟨by rfl, ?_⟩) ?_
        rotate_left
        · intro wq
          go_simp
          try with_reducible rfl
        simp only [Act.put, List.setIfInBounds_toArray, List.set_cons_zero, List.set_cons_succ]
        refine take_at (i := 19) (v := ?_) rfl rfl (by kernel_rfl) (by kernel_rfl) (by kernel_rfl) (fun _ _ _ h => h) (Or.inl ⟨by rfl, ?_⟩) ?_
        rotate_left
        · intro wq
          go_simp
          try with_reducible rfl
        simp only [Act.put, List.setIfInBounds_toArray, List.set_cons_zero, List.set_cons_succ]
        refine take_at (i := 20) (v := ?_) rfl rfl (by kernel_rfl) (by kernel_rfl) (by kernel_rfl) (fun _ _ _ h => h) (Or.inl ⟨by rfl, ?_⟩) ?_
        rotate_left
        · intro wq
          go_simp
          try with_reducible rfl
        simp only [Act.put, List.setIfInBounds_toArray, List.set_cons_zero, List.set_cons_succ]
        refine take_at (i := 21) (v := ?_) rfl rfl (by kernel_rfl) (by kernel_rfl) (by kernel_rfl) (fun _ _ _ h => h) (Or.inl ⟨by rfl, ?_⟩) ?_
        rotate_left
        · intro wq
          go_simp
          try with_reducible rfl
        simp only [Act.put, List.setIfInBounds_toArray, List.set_cons_zero, List.set_cons_succ]
        refine take_at (i := 22) (v := ?_) rfl rfl (by kernel_rfl) (by kernel_rfl) (by kernel_rfl) (fun _ _ _ h => h) (Or.inl ⟨by rfl, ?_⟩) ?_
        rotate_left
        · intro wq
          go_simp
          try with_reducible rfl
        simp only [Act.put, List.setIfInBounds_toArray, List.set_cons_zero, List.set_cons_succ]
        refine take_at (i := 23) (v := ?_) rfl rfl (by kernel_rfl) (by kernel_rfl) (by kernel_rfl) (fun _ _ _ h => h) (Or.inl ⟨by rfl, ?_⟩) ?_
        rotate_left
        · intro wq
          go_simp
          try with_reducible rfl
        simp only [Act.put, List.setIfInBounds_toArray, List.set_cons_zero, List.set_cons_succ]
        refine take_at (i := 24) (v := ?_) rfl rfl (by kernel_rfl) (by kernel_rfl) (by kernel_rfl) (fun _ _ _ h => h) (Or.inl ⟨by rfl, ?_⟩) ?_
        rotate_left
        · intro wq
          go_simp
          try with_reducible rfl
        simp only [Act.put, List.setIfInBounds_toArray, List.set_cons_zero, List.set_cons_succ]
        refine take_at (i := 25) (v := ?_) rfl rfl (by kernel_rfl) (by kernel_rfl) (by kernel_rfl) (fun _ _ _ h => h) (Or.inl ⟨by rfl, ?_⟩) ?_
        rotate_left
        · intro wq
          go_simp
          try with_reducible rfl
        simp only [Act.put, List.setIfInBounds_toArray, List.set_cons_zero, List.set_cons_succ]
        refine take_at (i := 26) (v := ?_) rfl rfl (by kernel_rfl) (by kernel_rfl) (by kernel_rfl) (fun _ _ _ h => h) (Or.inl ⟨by rfl, ?_⟩) ?_
        rotate_left
        · intro wq
          go_simp
          try with_reducible rfl
        simp only [Act.put, List.setIfInBounds_toArray, List.set_cons_zero, List.set_cons_succ]
        refine take_at (i := 27) (v := ?_) rfl rfl (by kernel_rfl) (by kernel_rfl) (by kernel_rfl) (fun _ _ _ h => h) (Or.inl ⟨by rfl, ?_⟩) ?_
        rotate_left
        · intro wq
          go_simp
          try with_reducible rfl
        simp only [Act.put, List.setIfInBounds_toArray, List.set_cons_zero, List.set_cons_succ]
        refine take_at (i := 28) (v := ?_) rfl rfl (by kernel_rfl) (by kernel_rfl) (by kernel_rfl) (fun _ _ _ h => h) (Or.inl ⟨by rfl, ?_⟩) ?_
        rotate_left
        · intro wq
          go_simp
          try with_reducible rfl
        simp only [Act.put, List.setIfInBounds_toArray, List.set_cons_zero, List.set_cons_succ]
        refine take_at (i := 29) (v := ?_) rfl rfl (by kernel_rfl) (by kernel_rfl) (by kernel_rfl) (fun _ _ _ h => h) (Or.inl ⟨by rfl, ?_⟩) ?_
        rotate_left
        · intro wq
          go_simp
          try with_reducible rfl
        simp only [Act.put, List.setIfInBounds_toArray, List.set_cons_zero, List.set_cons_succ]
        refine any_one (i := 30) (by kernel_rfl) rfl (fun K hK => ?_)
        go_simp
        refine hK _ _ ?_
        clear hK K
        refine any_one (i := 31) (by kernel_rfl) rfl (fun K hK => ?_)
        rw [if_pos (by rfl)]
        refine op_app el32 (.tmp 24) (.tmp 54) rfl rfl hOd [be4w c0 c1 c2 c3] 1 rfl rfl (by omega) (by decide) hBd.size ?_
        intro v' w' hO' hB'
        refine hK _ _ ?_
        clear hK K
        refine any_one (i := 32) (by kernel_rfl) rfl (fun K hK => ?_)
        go_simp
        refine hK _ _ ?_
        clear hK K
        refine wpAny_done (by kernel_rfl) ?_ _
        go_wp2
        go_roundw
        case rel => exact ⟨t + 1, by go_num, by omega, by rw [← EE.out, ← BH.out, ← be4w_eq]; exact hO', hBd.trans hB'⟩
        case measure => simp [intOf]; omega
      · -- 16 ≤ t
        have hne : wl b t ≠ [] := by intro e; rw [e] at hl; simp at hl; omega
        obtain ⟨g, cap, rfl, hg1, hg2, _⟩ := hO.shape hne
        rw [hl]
        have c15 := hO.cell (j := t - 15) (by omega)
        have c2 := hO.cell (j := t - 2) (by omega)
        obtain ⟨n7, hn7⟩ : ∃ n : Nat, n = t - 7 := ⟨_, rfl⟩
        obtain ⟨n16, hn16⟩ : ∃ n : Nat, n = t - 16 := ⟨_, rfl⟩
        have z7 : IntKind.i64.wrap ((t : Int) - 7) = (n7 : Int) := by rw [IntKind.wrap_i64]; omega
        have z16 : IntKind.i64.wrap ((t : Int) - 16) = (n16 : Int) := by rw [IntKind.wrap_i64]; omega
        have l7 : n7 < t := by omega
        have l16 : n16 < t := by omega
        have c7 := hO.cell (j := n7) (by omega)
        have c16 := hO.cell (j := n16) (by omega)
        have EE := Lib.hid (wl_hi b h16)
        have NW : nextW (wl b t) = (s1I ((wl b t).getD (t - 2) 0) + (wl b t).getD n7 0 + s0I ((wl b t).getD (t - 15) 0) + (wl b t).getD n16 0) % 4294967296 := by
          unfold nextW
          rw [hl, hn7, hn16]
        have NH := Lib.hid NW
        clear NW hne
        generalize (wl b t).getD (t - 15) 0 = x at c15 NH
        generalize (wl b t).getD (t - 2) 0 = y at c2 NH
        generalize (wl b t).getD n7 0 = p at c7 NH
        generalize (wl b t).getD n16 0 = q at c16 NH
        have hOs := hO
        rw [hl] at hOs
        have i7 : (n7 : Int) < (t : Int) := by omega
        have i16 : (n16 : Int) < (t : Int) := by omega
        have j7 : (0 : Int) ≤ (n7 : Int) := by omega
        have j16 : (0 : Int) ≤ (n16 : Int) := by omega
        have k16 : (16 : Int) ≤ (t : Int) := by omega
        clear hn7 hn16
        go_wp2
        refine wp_region_any (by kernel_rfl) ?_
        change wpAny _ _ _ _ 33 #[false, false, false, false, false, false, false, false, false, false, false, false, false, false, false, false, false, false, false, false, false, false, false, false, false, false, false, false, false, false, false, false, false] _ (World.drew _)
        have hS0 : wr.drew.cell? ⟨g, n7, none⟩ = some (.int .u32 p) ∧ wr.drew.cell? ⟨g, n16, none⟩ = some (.int .u32 q) := ⟨c7, c16⟩
        have hOd := hOs.drew
        have hBd := hB.drew
        generalize World.drew wr = wd at hS0 hOd hBd ⊢
        clear c7 c16 c15 c2
        refine wpAny_of_G (k := 31) (S := fun w' => w'.cell? ⟨g, n7, none⟩ = some (.int .u32 p) ∧ w'.cell? ⟨g, n16, none⟩ = some (.int .u32 q)) _ _ _ _ ?_
        refine takeG_at (i := 0) (v := ?_) rfl rfl (by kernel_rfl) (by kernel_rfl) (by kernel_rfl) (by kernel_rfl) (by kernel_rfl) (by kernel_rfl) (fun _ _ _ h => h) hS0 (Or.inl ⟨by rfl, ?_⟩) ?_
        rotate_left
        · intro wq hwq
          obtain ⟨hs0, hs1⟩ := hwq
          go_simp
          try with_reducible rfl
        simp only [Act.put, List.setIfInBounds_toArray, List.set_cons_zero, List.set_cons_succ]
        refine takeG_at (i := 1) (v := ?_) rfl rfl (by kernel_rfl) (by kernel_rfl) (by kernel_rfl) (by kernel_rfl) (by kernel_rfl) (by kernel_rfl) (fun _ _ _ h => h) hS0 (Or.inl ⟨by rfl, ?_⟩) ?_
        rotate_left
        · intro wq hwq
          obtain ⟨hs0, hs1⟩ := hwq
          go_simp
          try with_reducible rfl
        simp only [Act.put, List.setIfInBounds_toArray, List.set_cons_zero, List.set_cons_succ]
        refine takeG_at (i := 3) (v := ?_) rfl rfl (by kernel_rfl) (by kernel_rfl) (by kernel_rfl) (by kernel_rfl) (by kernel_rfl) (by kernel_rfl) (fun _ _ _ h => h) hS0 (Or.inl ⟨by rfl, ?_⟩) ?_
        rotate_left
        · intro wq hwq
          obtain ⟨hs0, hs1⟩ := hwq
          go_simp
          try with_reducible rfl
        simp only [Act.put, List.setIfInBounds_toArray, List.set_cons_zero, List.set_cons_succ]
        refine takeG_at (i := 6) (v := ?_) rfl rfl (by kernel_rfl) (by kernel_rfl) (by kernel_rfl) (by kernel_rfl) (by kernel_rfl) (by kernel_rfl) (fun _ _ _ h => h) hS0 (Or.inl ⟨by rfl, ?_⟩) ?_
        rotate_left
        · intro wq hwq
          obtain ⟨hs0, hs1⟩ := hwq
          go_simp
          try with_reducible rfl
        simp only [Act.put, List.setIfInBounds_toArray, List.set_cons_zero, List.set_cons_succ]
        refine takeG_at (i := 7) (v := ?_) rfl rfl (by kernel_rfl) (by kernel_rfl) (by kernel_rfl) (by kernel_rfl) (by kernel_rfl) (by kernel_rfl) (fun _ _ _ h => h) hS0 (Or.inl ⟨by rfl, ?_⟩) ?_
        rotate_left
        · intro wq hwq
          obtain ⟨hs0, hs1⟩ := hwq
          go_simp
          try with_reducible rfl
        simp only [Act.put, List.setIfInBounds_toArray, List.set_cons_zero, List.set_cons_succ]
        refine takeG_at (i := 9) (v := ?_) rfl rfl (by kernel_rfl) (by kernel_rfl) (by kernel_rfl) (by kernel_rfl) (by kernel_rfl) (by kernel_rfl) (fun _ _ _ h => h) hS0 (Or.inl ⟨by rfl, ?_⟩) ?_
        rotate_left
        · intro wq hwq
          obtain ⟨hs0, hs1⟩ := hwq
          go_simp
          try with_reducible rfl
        simp only [Act.put, List.setIfInBounds_toArray, List.set_cons_zero, List.set_cons_succ]
        refine takeG_at (i := 10) (v := ?_) rfl rfl (by kernel_rfl) (by kernel_rfl) (by kernel_rfl) (by kernel_rfl) (by kernel_rfl) (by kernel_rfl) (fun _ _ _ h => h) hS0 (Or.inl ⟨by rfl, ?_⟩) ?_
        rotate_left
        · intro wq hwq
          obtain ⟨hs0, hs1⟩ := hwq
          go_simp
          try with_reducible rfl
        simp only [Act.put, List.setIfInBounds_toArray, List.set_cons_zero, List.set_cons_succ]
        refine takeG_at (i := 11) (v := ?_) rfl rfl (by kernel_rfl) (by kernel_rfl) (by kernel_rfl) (by kernel_rfl) (by kernel_rfl) (by kernel_rfl) (fun _ _ _ h => h) hS0 (Or.inl ⟨by rfl, ?_⟩) ?_
        rotate_left
        · intro wq hwq
          obtain ⟨hs0, hs1⟩ := hwq
          go_simp
          try with_reducible rfl
        simp only [Act.put, List.setIfInBounds_toArray, List.set_cons_zero, List.set_cons_succ]
        refine takeG_at (i := 12) (v := ?_) rfl rfl (by kernel_rfl) (by kernel_rfl) (by kernel_rfl) (by kernel_rfl) (by kernel_rfl) (by kernel_rfl) (fun _ _ _ h => h) hS0 (Or.inl ⟨by rfl, ?_⟩) ?_
        rotate_left
        · intro wq hwq
          obtain ⟨hs0, hs1⟩ := hwq
          go_simp
          try with_reducible rfl
        simp only [Act.put, List.setIfInBounds_toArray, List.set_cons_zero, List.set_cons_succ]
        refine takeG_at (i := 13) (v := ?_) rfl rfl (by kernel_rfl) (by kernel_rfl) (by kernel_rfl) (by kernel_rfl) (by kernel_rfl) (by kernel_rfl) (fun _ _ _ h => h) hS0 (Or.inl ⟨by rfl, ?_⟩) ?_
        rotate_left
        · intro wq hwq
          obtain ⟨hs0, hs1⟩ := hwq
          go_simp
          try with_reducible rfl
        simp only [Act.put, List.setIfInBounds_toArray, List.set_cons_zero, List.set_cons_succ]
        refine takeG_at (i := 15) (v := ?_) rfl rfl (by kernel_rfl) (by kernel_rfl) (by kernel_rfl) (by kernel_rfl) (by kernel_rfl) (by kernel_rfl) (fun _ _ _ h => h) hS0 (Or.inl ⟨by rfl, ?_⟩) ?_
        rotate_left
        · intro wq hwq
          obtain ⟨hs0, hs1⟩ := hwq
          go_simp
          try with_reducible rfl
        simp only [Act.put, List.setIfInBounds_toArray, List.set_cons_zero, List.set_cons_succ]
        refine takeG_at (i := 17) (v := ?_) rfl rfl (by kernel_rfl) (by kernel_rfl) (by kernel_rfl) (by kernel_rfl) (by kernel_rfl) (by kernel_rfl) (fun _ _ _ h => h) hS0 (Or.inl ⟨by rfl, ?_⟩) ?_
        rotate_left
        · intro wq hwq
          obtain ⟨hs0, hs1⟩ := hwq
          go_simp
          try with_reducible rfl
        simp only [Act.put, List.setIfInBounds_toArray, List.set_cons_zero, List.set_cons_succ]
        refine takeG_at (i := 20) (v := ?_) rfl rfl (by kernel_rfl) (by kernel_rfl) (by kernel_rfl) (by kernel_rfl) (by kernel_rfl) (by kernel_rfl) (fun _ _ _ h => h) hS0 (Or.inl ⟨by rfl, ?_⟩) ?_
        rotate_left
        · intro wq hwq
          obtain ⟨hs0, hs1⟩ := hwq
          go_simp
          try with_reducible rfl
        simp only [Act.put, List.setIfInBounds_toArray, List.set_cons_zero, List.set_cons_succ]
        refine takeG_at (i := 21) (v := ?_) rfl rfl (by kernel_rfl) (by kernel_rfl) (by kernel_rfl) (by kernel_rfl) (by kernel_rfl) (by kernel_rfl) (fun _ _ _ h => h) hS0 (Or.inl ⟨by rfl, ?_⟩) ?_
        rotate_left
        · intro wq hwq
          obtain ⟨hs0, hs1⟩ := hwq
          go_simp
          try with_reducible rfl
        simp only [Act.put, List.setIfInBounds_toArray, List.set_cons_zero, List.set_cons_succ]
        refine takeG_at (i := 24) (v := ?_) rfl rfl (by kernel_rfl) (by kernel_rfl) (by kernel_rfl) (by kernel_rfl) (by kernel_rfl) (by kernel_rfl) (fun _ _ _ h => h) hS0 (Or.inl ⟨by rfl, ?_⟩) ?_
        rotate_left
        · intro wq hwq
          obtain ⟨hs0, hs1⟩ := hwq
          go_simp
          try with_reducible rfl
        simp only [Act.put, List.setIfInBounds_toArray, List.set_cons_zero, List.set_cons_succ]
        refine takeG_at (i := 25) (v := ?_) rfl rfl (by kernel_rfl) (by kernel_rfl) (by kernel_rfl) (by kernel_rfl) (by kernel_rfl) (by kernel_rfl) (fun _ _ _ h => h) hS0 (Or.inl ⟨by rfl, ?_⟩) ?_
        rotate_left
        · intro wq hwq
          obtain ⟨hs0, hs1⟩ := hwq
          go_simp
          try with_reducible rfl
        simp only [Act.put, List.setIfInBounds_toArray, List.set_cons_zero, List.set_cons_succ]
        refine takeG_at (i := 26) (v := ?_) rfl rfl (by kernel_rfl) (by kernel_rfl) (by kernel_rfl) (by kernel_rfl) (by kernel_rfl) (by kernel_rfl) (fun _ _ _ h => h) hS0 (Or.inl ⟨by rfl, ?_⟩) ?_
        rotate_left
        · intro wq hwq
          obtain ⟨hs0, hs1⟩ := hwq
          go_simp
          try with_reducible rfl
        simp only [Act.put, List.setIfInBounds_toArray, List.set_cons_zero, List.set_cons_succ]
        refine takeG_at (i := 27) (v := ?_) rfl rfl (by kernel_rfl) (by kernel_rfl) (by kernel_rfl) (by kernel_rfl) (by kernel_rfl) (by kernel_rfl) (fun _ _ _ h => h) hS0 (Or.inl ⟨by rfl, ?_⟩) ?_
        rotate_left
        · intro wq hwq
          obtain ⟨hs0, hs1⟩ := hwq
          go_simp
          try with_reducible rfl
        simp only [Act.put, List.setIfInBounds_toArray, List.set_cons_zero, List.set_cons_succ]
        refine takeG_at (i := 28) (v := ?_) rfl rfl (by kernel_rfl) (by kernel_rfl) (by kernel_rfl) (by kernel_rfl) (by kernel_rfl) (by kernel_rfl) (fun _ _ _ h => h) hS0 (Or.inl ⟨by rfl, ?_⟩) ?_
        rotate_left
        · intro wq hwq
          obtain ⟨hs0, hs1⟩ := hwq
          go_simp
          try with_reducible rfl
        simp only [Act.put, List.setIfInBounds_toArray, List.set_cons_zero, List.set_cons_succ]
        refine wpAnyG_one (i := 2) (by kernel_rfl) rfl (fun K hK => ?_)
        go_simp
        refine (turn_any y 17 _ (by decide) (by decide)).mono ?_
        rintro e w' ⟨rfl, rfl⟩
        simp only
        refine hK _ _ hS0 ?_
        clear hK K
        refine wpAnyG_one (i := 4) (by kernel_rfl) rfl (fun K hK => ?_)
        go_simp
        refine (turn_any y 19 _ (by decide) (by decide)).mono ?_
        rintro e w' ⟨rfl, rfl⟩
        simp only
        refine hK _ _ hS0 ?_
        clear hK K
        refine takeG_at (i := 5) (v := ?_) rfl rfl (by kernel_rfl) (by kernel_rfl) (by kernel_rfl) (by kernel_rfl) (by kernel_rfl) (by kernel_rfl) (fun _ _ _ h => h) hS0 (Or.inl ⟨by rfl, ?_⟩) ?_
        rotate_left
        · intro wq hwq
          obtain ⟨hs0, hs1⟩ := hwq
          go_simp
          try with_reducible rfl
        simp only [Act.put, List.setIfInBounds_toArray, List.set_cons_zero, List.set_cons_succ]
        refine takeG_at (i := 8) (v := ?_) rfl rfl (by kernel_rfl) (by kernel_rfl) (by kernel_rfl) (by kernel_rfl) (by kernel_rfl) (by kernel_rfl) (fun _ _ _ h => h) hS0 (Or.inl ⟨by rfl, ?_⟩) ?_
        rotate_left
        · intro wq hwq
          obtain ⟨hs0, hs1⟩ := hwq
          go_simp
          try with_reducible rfl
        simp only [Act.put, List.setIfInBounds_toArray, List.set_cons_zero, List.set_cons_succ]
        refine takeG_at (i := 14) (v := ?_) rfl rfl (by kernel_rfl) (by kernel_rfl) (by kernel_rfl) (by kernel_rfl) (by kernel_rfl) (by kernel_rfl) (fun _ _ _ h => h) hS0 (Or.inl ⟨by rfl, ?_⟩) ?_
        rotate_left
        · intro wq hwq
          obtain ⟨hs0, hs1⟩ := hwq
          go_simp
          try with_reducible rfl
        simp only [Act.put, List.setIfInBounds_toArray, List.set_cons_zero, List.set_cons_succ]
        refine wpAnyG_one (i := 16) (by kernel_rfl) rfl (fun K hK => ?_)
        go_simp
        refine (turn_any x 7 _ (by decide) (by decide)).mono ?_
        rintro e w' ⟨rfl, rfl⟩
        simp only
        refine hK _ _ hS0 ?_
        clear hK K
        refine wpAnyG_one (i := 18) (by kernel_rfl) rfl (fun K hK => ?_)
        go_simp
        refine (turn_any x 18 _ (by decide) (by decide)).mono ?_
        rintro e w' ⟨rfl, rfl⟩
        simp only
        refine hK _ _ hS0 ?_
        clear hK K
        refine takeG_at (i := 19) (v := ?_) rfl rfl (by kernel_rfl) (by kernel_rfl) (by kernel_rfl) (by kernel_rfl) (by kernel_rfl) (by kernel_rfl) (fun _ _ _ h => h) hS0 (Or.inl ⟨by rfl, ?_⟩) ?_
        rotate_left
        · intro wq hwq
          obtain ⟨hs0, hs1⟩ := hwq
          go_simp
          try with_reducible rfl
        simp only [Act.put, List.setIfInBounds_toArray, List.set_cons_zero, List.set_cons_succ]
        refine takeG_at (i := 22) (v := ?_) rfl rfl (by kernel_rfl) (by kernel_rfl) (by kernel_rfl) (by kernel_rfl) (by kernel_rfl) (by kernel_rfl) (fun _ _ _ h => h) hS0 (Or.inl ⟨by rfl, ?_⟩) ?_
        rotate_left
        · intro wq hwq
          obtain ⟨hs0, hs1⟩ := hwq
          go_simp
          try with_reducible rfl
        simp only [Act.put, List.setIfInBounds_toArray, List.set_cons_zero, List.set_cons_succ]
        refine takeG_at (i := 23) (v := ?_) rfl rfl (by kernel_rfl) (by kernel_rfl) (by kernel_rfl) (by kernel_rfl) (by kernel_rfl) (by kernel_rfl) (fun _ _ _ h => h) hS0 (Or.inl ⟨by rfl, ?_⟩) ?_
        rotate_left
        · intro wq hwq
          obtain ⟨hs0, hs1⟩ := hwq
          go_simp
          try with_reducible rfl
        simp only [Act.put, List.setIfInBounds_toArray, List.set_cons_zero, List.set_cons_succ]
        refine takeG_at (i := 29) (v := ?_) rfl rfl (by kernel_rfl) (by kernel_rfl) (by kernel_rfl) (by kernel_rfl) (by kernel_rfl) (by kernel_rfl) (fun _ _ _ h => h) hS0 (Or.inl ⟨by rfl, ?_⟩) ?_
        rotate_left
        · intro wq hwq
          obtain ⟨hs0, hs1⟩ := hwq
          go_simp
          try with_reducible rfl
        simp only [Act.put, List.setIfInBounds_toArray, List.set_cons_zero, List.set_cons_succ]
        refine wpAnyG_one (i := 30) (by kernel_rfl) rfl (fun K hK => ?_)
        go_simp
        refine hK _ _ ⟨(World.cell?_alloc_lt _ _ _ (World.block_lt_of_cell? _ _ hS0.1)).trans hS0.1, (World.cell?_alloc_lt _ _ _ (World.block_lt_of_cell? _ _ hS0.2)).trans hS0.2⟩ ?_
        clear hK K
        refine wpAnyG_turn (k := 31) (by kernel_rfl) rfl (fun K hK => ?_)
        rw [if_pos (by rfl)]
        refine op_app el32 (.tmp 66) (.tmp 96) rfl rfl hOd [nextWw x y p q] 1 rfl rfl (by omega) (by decide) hBd.size ?_
        intro v' w' hO' hB'
        refine hK _ _ ?_
        clear hK K
        refine wpAny_one (i := 32) (by kernel_rfl) rfl (fun K hK => ?_)
        go_simp
        refine hK _ _ ?_
        clear hK K
        refine wpAny_done (by kernel_rfl) ?_ _
        go_wp2
        go_roundw
        case rel => exact ⟨t + 1, by go_num, by omega, by rw [← EE.out, NH.out, ← nextWw_eq]; exact hO', hBd.trans hB'⟩
        case measure => simp [intOf]; omega
    · have h64 : t = 64 := by omega
      rw [h64, wl_all] at hO
      clear h64 hl
      have lW : (wordsN 48 (w16 b 16)).length = 64 := by rw [wordsN_len, w16_len]
      obtain ⟨WL, hWL⟩ : ∃ WL, WL = wordsN 48 (w16 b 16) := ⟨_, rfl⟩
      rw [← hWL] at hO lW
      obtain ⟨gw, cw, rfl, hgw1, hgw2, _⟩ := hO.shape (by intro e; rw [e] at lW; simp at lW)
      rw [lW] at hO ⊢
      have hBF : blockF K H (w16 b 16) = addL (mixN K WL 64 H) H := by unfold blockF; rw [← hWL, addL_comm]
      have BF := Lib.hid hBF
      have LW := Lib.hid lW
      clear hWL hBF lW
      have hE0 : OW 30 .u32 (wr.alloc (.cells #[] 30)) wr.heap.size (.slice (some ⟨wr.heap.size, 0, none⟩) 0 0) [] := OW.lit wr 30 .u32 [] (Nat.le_refl _) (by unfold maxLen; simp)
      have hB0 := hB.alloc hB.size (.cells #[] 30)
      have hA0 : Below wr.heap.size wr (wr.alloc (.cells #[] 30)) := (Below.refl _ _).alloc (Nat.le_refl _) _
      have hH0 := hH.below hB0 hH.lt
      have hbs := hB.size
      have hws : wr.heap.size ≤ (wr.alloc (.cells #[] 30)).heap.size := hA0.size
      go_wp2_with (at_builtin; refine wp_from el32 rfl (.tmp 98) (.tmp 99) rfl rfl hE0 H rfl hH0 (by decide) (by decide) hws ?_; intro v1 w1 hV1 hb1)
      have hB1 := hB.trans ((hA0.trans hb1).mono hbs)
      have hW1 := hO.below (hA0.trans hb1) (fun g hg => by injection hg with hg; rw [← hg]; exact hgw2)
      obtain ⟨gv, cv, rfl, hgv1, hgv2, _⟩ := hV1.shape (by intro e; have := congrArg List.length e; rw [List.nil_append, LH.out] at this; simp at this)
      rw [List.nil_append, LH.out] at hV1 ⊢
      have hV2 := hV1.mono hbs
      clear hE0 hB0 hA0 hH0 hws hV1 hb1 hO hgv1 hgv2
      go_loopw [11, 12] (fun vv vt wx => ∃ (t gv cv : Nat) (V : List Int), vt = .int .i64 t ∧ t ≤ 64 ∧ vv = .slice (some ⟨gv, 0, none⟩) 8 cv ∧ V = mixN K WL t H ∧ OW 30 .u32 wx w.heap.size (.slice (some ⟨gv, 0, none⟩) 8 cv) V ∧ OW 30 .u32 wx w.heap.size (.slice (some ⟨gw, 0, none⟩) 64 cw) WL ∧ Below w.heap.size w wx) (fun _ vt _ => 64 - (intOf vt).toNat)
      case atStart => exact ⟨0, gv, cv, H, rfl, by omega, rfl, rfl, hV2, hW1, hB1⟩
      case round =>
        clear hV2 hW1 hB1 hB
        obtain ⟨t, gv, cv, V, rfl, ht, rfl, hV, hO, hW, hB⟩ := hrel
        have lV : V.length = 8 := by rw [hV]; exact mixN_len t LH.out
        have VV := Lib.hid hV
        have LV := Lib.hid lV
        clear hV
        by_cases hlt : t < 64
        · obtain ⟨a, bb, c, d, e, f, g, z8, rfl⟩ := eight lV
          clear lV
          have e0 := hO.cellN (j := 0) (by simp)
          have e1 := hO.cellN (j := 1) (by simp)
          have e2 := hO.cellN (j := 2) (by simp)
          have e3 := hO.cellN (j := 3) (by simp)
          have e4 := hO.cellN (j := 4) (by simp)
          have e5 := hO.cellN (j := 5) (by simp)
          have e6 := hO.cellN (j := 6) (by simp)
          have e7 := hO.cellN (j := 7) (by simp)
          simp only [List.getD_cons_zero, List.getD_cons_succ] at e0 e1 e2 e3 e4 e5 e6 e7
          have cw0 := hW.cellN (j := t) (by rw [LW.out]; exact hlt)
          have hKx := hK.below hB hK.lt
          have ck0 := hKx.cellN (j := t) (by rw [LK.out]; exact hlt)
          obtain ⟨x, hx⟩ : ∃ x, x = WL.getD t 0 := ⟨_, rfl⟩
          obtain ⟨k, hk⟩ : ∃ x, x = K.getD t 0 := ⟨_, rfl⟩
          rw [← hx] at cw0
          rw [← hk] at ck0
          have X := Lib.hid hx
          have Y := Lib.hid hk
          clear hx hk hKx
          have ti : (t : Int) < 64 := by omega
          go_wp2
          go_quiet ((go_at_call 25; exact turn_quiet e _ _ _ (by decide) (by decide)))
          go_wp2
          have hOn : ∀ n, OW 30 .u32 (World.drewN wr n) w.heap.size (.slice (some ⟨gv, 0, none⟩) 8 cv) [a, bb, c, d, e, f, g, z8] := fun _ => hO
          have hWn : ∀ n, OW 30 .u32 (World.drewN wr n) w.heap.size (.slice (some ⟨gw, 0, none⟩) 64 cw) WL := fun _ => hW
          have hBn : ∀ n, Below w.heap.size w (World.drewN wr n) := fun n => below_drewN hB n
          clear e0 e1 e2 e3 e4 e5 e6 e7 cw0 ck0 hO hW hB
          generalize hwq : World.drewN wr nq = wq
          have hO := hOn nq
          have hW := hWn nq
          have hB := hBn nq
          rw [hwq] at hO hW hB
          clear hOn hWn hBn hwq
          have e1 := hO.cellN (j := 1) (by simp)
          have e2 := hO.cellN (j := 2) (by simp)
          have e3 := hO.cellN (j := 3) (by simp)
          have e5 := hO.cellN (j := 5) (by simp)
          have e6 := hO.cellN (j := 6) (by simp)
          simp only [List.getD_cons_zero, List.getD_cons_succ] at e1 e2 e3 e5 e6
          go_quiet ((go_at_call 25; exact turn_quiet a _ _ _ (by decide) (by decide)))
          go_wp2
          obtain ⟨t1, ht1⟩ : ∃ t1, t1 = t1F e f g z8 k x := ⟨_, rfl⟩
          obtain ⟨t2, ht2⟩ : ∃ t2, t2 = t2F a bb c := ⟨_, rfl⟩
          rw [show (z8 + bits .xor .u32 (bits .xor .u32 (rotI e 6) (rotI e 11)) (rotI e 25) + bits .xor .u32 (bits .and .u32 e f) (bits .and .u32 (bits .xor .u32 IntKind.u32.max e) g) + k + x) % 4294967296 = t1 from ht1.symm,
            show (bits .xor .u32 (bits .xor .u32 (rotI a 2) (rotI a 13)) (rotI a 22) + bits .xor .u32 (bits .xor .u32 (bits .and .u32 a bb) (bits .and .u32 a c)) (bits .and .u32 bb c)) % 4294967296 = t2 from ht2.symm]
          have T1 := Lib.hid ht1
          have T2 := Lib.hid ht2
          refine wp_region_any (by kernel_rfl) ?_
          change wpAny _ _ _ _ 24 #[false, false, false, false, false, false, false, false, false, false, false, false, false, false, false, false, false, false, false, false, false, false, false, false] _ (World.drew _)
          have hS0 : (World.drew (World.drewN wq nq)).cell? ⟨gv, 1, none⟩ = some (.int .u32 bb) ∧ (World.drew (World.drewN wq nq)).cell? ⟨gv, 2, none⟩ = some (.int .u32 c) ∧ (World.drew (World.drewN wq nq)).cell? ⟨gv, 3, none⟩ = some (.int .u32 d) ∧ (World.drew (World.drewN wq nq)).cell? ⟨gv, 5, none⟩ = some (.int .u32 f) ∧ (World.drew (World.drewN wq nq)).cell? ⟨gv, 6, none⟩ = some (.int .u32 g) := ⟨e1, e2, e3, e5, e6⟩
          have hWd : OW 30 .u32 (World.drew (World.drewN wq nq)) w.heap.size (.slice (some ⟨gw, 0, none⟩) 64 cw) WL := hW
          have hBd : Below w.heap.size w (World.drew (World.drewN wq nq)) := (below_drewN hB nq).drew
          clear ht1 ht2 e1 e2 e3 e5 e6 hO hW hB
          generalize World.drew (World.drewN wq nq) = wd at hS0 hWd hBd ⊢
          refine wpAny_of_G (k := 22) (S := fun w' => w'.cell? ⟨gv, 1, none⟩ = some (.int .u32 bb) ∧ w'.cell? ⟨gv, 2, none⟩ = some (.int .u32 c) ∧ w'.cell? ⟨gv, 3, none⟩ = some (.int .u32 d) ∧ w'.cell? ⟨gv, 5, none⟩ = some (.int .u32 f) ∧ w'.cell? ⟨gv, 6, none⟩ = some (.int .u32 g)) _ _ _ _ ?_
          refine takeG_at (i := 0) (v := ?_) rfl rfl (by kernel_rfl) (by kernel_rfl) (by kernel_rfl) (by kernel_rfl) (by kernel_rfl) (by kernel_rfl) (fun _ _ _ h => h) hS0 (Or.inl ⟨by rfl, ?_⟩) ?_
          rotate_left
          · intro wq hwq
            obtain ⟨hs0, hs1, hs2, hs3, hs4⟩ := hwq
            go_simp
            try with_reducible rfl
          simp only [Act.put, List.setIfInBounds_toArray, List.set_cons_zero, List.set_cons_succ]
          refine takeG_at (i := 1) (v := ?_) rfl rfl (by kernel_rfl) (by kernel_rfl) (by kernel_rfl) (by kernel_rfl) (by kernel_rfl) (by kernel_rfl) (fun _ _ _ h => h) hS0 (Or.inl ⟨by rfl, ?_⟩) ?_
          rotate_left
          · intro wq hwq
            obtain ⟨hs0, hs1, hs2, hs3, hs4⟩ := hwq
            go_simp
            try with_reducible rfl
          simp only [Act.put, List.setIfInBounds_toArray, List.set_cons_zero, List.set_cons_succ]
          refine takeG_at (i := 2) (v := ?_) rfl rfl (by kernel_rfl) (by kernel_rfl) (by kernel_rfl) (by kernel_rfl) (by kernel_rfl) (by kernel_rfl) (fun _ _ _ h => h) hS0 (Or.inl ⟨by rfl, ?_⟩) ?_
          rotate_left
          · intro wq hwq
            obtain ⟨hs0, hs1, hs2, hs3, hs4⟩ := hwq
            go_simp
            try with_reducible rfl
          simp only [Act.put, List.setIfInBounds_toArray, List.set_cons_zero, List.set_cons_succ]
          refine takeG_at (i := 3) (v := ?_) rfl rfl (by kernel_rfl) (by kernel_rfl) (by kernel_rfl) (by kernel_rfl) (by kernel_rfl) (by kernel_rfl) (fun _ _ _ h => h) hS0 (Or.inl ⟨by rfl, ?_⟩) ?_
          rotate_left
          · intro wq hwq
            obtain ⟨hs0, hs1, hs2, hs3, hs4⟩ := hwq
            go_simp
            try with_reducible rfl
          simp only [Act.put, List.setIfInBounds_toArray, List.set_cons_zero, List.set_cons_succ]
          refine takeG_at (i := 4) (v := ?_) rfl rfl (by kernel_rfl) (by kernel_rfl) (by kernel_rfl) (by kernel_rfl) (by kernel_rfl) (by kernel_rfl) (fun _ _ _ h => h) hS0 (Or.inl ⟨by rfl, ?_⟩) ?_
          rotate_left
          · intro wq hwq
            obtain ⟨hs0, hs1, hs2, hs3, hs4⟩ := hwq
            go_simp
            try with_reducible rfl
          simp only [Act.put, List.setIfInBounds_toArray, List.set_cons_zero, List.set_cons_succ]
          refine takeG_at (i := 5) (v := ?_) rfl rfl (by kernel_rfl) (by kernel_rfl) (by kernel_rfl) (by kernel_rfl) (by kernel_rfl) (by kernel_rfl) (fun _ _ _ h => h) hS0 (Or.inl ⟨by rfl, ?_⟩) ?_
          rotate_left
          · intro wq hwq
            obtain ⟨hs0, hs1, hs2, hs3, hs4⟩ := hwq
            go_simp
            try with_reducible rfl
          simp only [Act.put, List.setIfInBounds_toArray, List.set_cons_zero, List.set_cons_succ]
          refine takeG_at (i := 6) (v := ?_) rfl rfl (by kernel_rfl) (by kernel_rfl) (by kernel_rfl) (by kernel_rfl) (by kernel_rfl) (by kernel_rfl) (fun _ _ _ h => h) hS0 (Or.inl ⟨by rfl, ?_⟩) ?_
          rotate_left
          · intro wq hwq
            obtain ⟨hs0, hs1, hs2, hs3, hs4⟩ := hwq
            go_simp
            try with_reducible rfl
          simp only [Act.put, List.setIfInBounds_toArray, List.set_cons_zero, List.set_cons_succ]
          refine takeG_at (i := 7) (v := ?_) rfl rfl (by kernel_rfl) (by kernel_rfl) (by kernel_rfl) (by kernel_rfl) (by kernel_rfl) (by kernel_rfl) (fun _ _ _ h => h) hS0 (Or.inl ⟨by rfl, ?_⟩) ?_
          rotate_left
          · intro wq hwq
            obtain ⟨hs0, hs1, hs2, hs3, hs4⟩ := hwq
            go_simp
            try with_reducible rfl
          simp only [Act.put, List.setIfInBounds_toArray, List.set_cons_zero, List.set_cons_succ]
          refine takeG_at (i := 8) (v := ?_) rfl rfl (by kernel_rfl) (by kernel_rfl) (by kernel_rfl) (by kernel_rfl) (by kernel_rfl) (by kernel_rfl) (fun _ _ _ h => h) hS0 (Or.inl ⟨by rfl, ?_⟩) ?_
          rotate_left
          · intro wq hwq
            obtain ⟨hs0, hs1, hs2, hs3, hs4⟩ := hwq
            go_simp
            try with_reducible rfl
          simp only [Act.put, List.setIfInBounds_toArray, List.set_cons_zero, List.set_cons_succ]
          refine takeG_at (i := 9) (v := ?_) rfl rfl (by kernel_rfl) (by kernel_rfl) (by kernel_rfl) (by kernel_rfl) (by kernel_rfl) (by kernel_rfl) (fun _ _ _ h => h) hS0 (Or.inl ⟨by rfl, ?_⟩) ?_
          rotate_left
          · intro wq hwq
            obtain ⟨hs0, hs1, hs2, hs3, hs4⟩ := hwq
            go_simp
            try with_reducible rfl
          simp only [Act.put, List.setIfInBounds_toArray, List.set_cons_zero, List.set_cons_succ]
          refine takeG_at (i := 10) (v := ?_) rfl rfl (by kernel_rfl) (by kernel_rfl) (by kernel_rfl) (by kernel_rfl) (by kernel_rfl) (by kernel_rfl) (fun _ _ _ h => h) hS0 (Or.inl ⟨by rfl, ?_⟩) ?_
          rotate_left
          · intro wq hwq
            obtain ⟨hs0, hs1, hs2, hs3, hs4⟩ := hwq
            go_simp
            try with_reducible rfl
          simp only [Act.put, List.setIfInBounds_toArray, List.set_cons_zero, List.set_cons_succ]
          refine takeG_at (i := 11) (v := ?_) rfl rfl (by kernel_rfl) (by kernel_rfl) (by kernel_rfl) (by kernel_rfl) (by kernel_rfl) (by kernel_rfl) (fun _ _ _ h => h) hS0 (Or.inl ⟨by rfl, ?_⟩) ?_
          rotate_left
          · intro wq hwq
            obtain ⟨hs0, hs1, hs2, hs3, hs4⟩ := hwq
            go_simp
            try with_reducible rfl
          simp only [Act.put, List.setIfInBounds_toArray, List.set_cons_zero, List.set_cons_succ]
          refine takeG_at (i := 12) (v := ?_) rfl rfl (by kernel_rfl) (by kernel_rfl) (by kernel_rfl) (by kernel_rfl) (by kernel_rfl) (by kernel_rfl) (fun _ _ _ h => h) hS0 (Or.inl ⟨by rfl, ?_⟩) ?_
          rotate_left
          · intro wq hwq
            obtain ⟨hs0, hs1, hs2, hs3, hs4⟩ := hwq
            go_simp
            try with_reducible rfl
          simp only [Act.put, List.setIfInBounds_toArray, List.set_cons_zero, List.set_cons_succ]
          refine takeG_at (i := 13) (v := ?_) rfl rfl (by kernel_rfl) (by kernel_rfl) (by kernel_rfl) (by kernel_rfl) (by kernel_rfl) (by kernel_rfl) (fun _ _ _ h => h) hS0 (Or.inl ⟨by rfl, ?_⟩) ?_
          rotate_left
          · intro wq hwq
            obtain ⟨hs0, hs1, hs2, hs3, hs4⟩ := hwq
            go_simp
            try with_reducible rfl
          simp only [Act.put, List.setIfInBounds_toArray, List.set_cons_zero, List.set_cons_succ]
          refine takeG_at (i := 14) (v := ?_) rfl rfl (by kernel_rfl) (by kernel_rfl) (by kernel_rfl) (by kernel_rfl) (by kernel_rfl) (by kernel_rfl) (fun _ _ _ h => h) hS0 (Or.inl ⟨by rfl, ?_⟩) ?_
          rotate_left
          · intro wq hwq
            obtain ⟨hs0, hs1, hs2, hs3, hs4⟩ := hwq
            go_simp
            try with_reducible rfl
          simp only [Act.put, List.setIfInBounds_toArray, List.set_cons_zero, List.set_cons_succ]
          refine takeG_at (i := 15) (v := ?_) rfl rfl (by kernel_rfl) (by kernel_rfl) (by kernel_rfl) (by kernel_rfl) (by kernel_rfl) (by kernel_rfl) (fun _ _ _ h => h) hS0 (Or.inl ⟨by rfl, ?_⟩) ?_
          rotate_left
          · intro wq hwq
            obtain ⟨hs0, hs1, hs2, hs3, hs4⟩ := hwq
            go_simp
            try with_reducible rfl
          simp only [Act.put, List.setIfInBounds_toArray, List.set_cons_zero, List.set_cons_succ]
          refine takeG_at (i := 16) (v := ?_) rfl rfl (by kernel_rfl) (by kernel_rfl) (by kernel_rfl) (by kernel_rfl) (by kernel_rfl) (by kernel_rfl) (fun _ _ _ h => h) hS0 (Or.inl ⟨by rfl, ?_⟩) ?_
          rotate_left
          · intro wq hwq
            obtain ⟨hs0, hs1, hs2, hs3, hs4⟩ := hwq
            go_simp
            try with_reducible rfl
          simp only [Act.put, List.setIfInBounds_toArray, List.set_cons_zero, List.set_cons_succ]
          refine takeG_at (i := 17) (v := ?_) rfl rfl (by kernel_rfl) (by kernel_rfl) (by kernel_rfl) (by kernel_rfl) (by kernel_rfl) (by kernel_rfl) (fun _ _ _ h => h) hS0 (Or.inl ⟨by rfl, ?_⟩) ?_
          rotate_left
          · intro wq hwq
            obtain ⟨hs0, hs1, hs2, hs3, hs4⟩ := hwq
            go_simp
            try with_reducible rfl
          simp only [Act.put, List.setIfInBounds_toArray, List.set_cons_zero, List.set_cons_succ]
          refine takeG_at (i := 18) (v := ?_) rfl rfl (by kernel_rfl) (by kernel_rfl) (by kernel_rfl) (by kernel_rfl) (by kernel_rfl) (by kernel_rfl) (fun _ _ _ h => h) hS0 (Or.inl ⟨by rfl, ?_⟩) ?_
          rotate_left
          · intro wq hwq
            obtain ⟨hs0, hs1, hs2, hs3, hs4⟩ := hwq
            go_simp
            try with_reducible rfl
          simp only [Act.put, List.setIfInBounds_toArray, List.set_cons_zero, List.set_cons_succ]
          refine takeG_at (i := 19) (v := ?_) rfl rfl (by kernel_rfl) (by kernel_rfl) (by kernel_rfl) (by kernel_rfl) (by kernel_rfl) (by kernel_rfl) (fun _ _ _ h => h) hS0 (Or.inl ⟨by rfl, ?_⟩) ?_
          rotate_left
          · intro wq hwq
            obtain ⟨hs0, hs1, hs2, hs3, hs4⟩ := hwq
            go_simp
            try with_reducible rfl
          simp only [Act.put, List.setIfInBounds_toArray, List.set_cons_zero, List.set_cons_succ]
          refine takeG_at (i := 20) (v := ?_) rfl rfl (by kernel_rfl) (by kernel_rfl) (by kernel_rfl) (by kernel_rfl) (by kernel_rfl) (by kernel_rfl) (fun _ _ _ h => h) hS0 (Or.inl ⟨by rfl, ?_⟩) ?_
          rotate_left
          · intro wq hwq
            obtain ⟨hs0, hs1, hs2, hs3, hs4⟩ := hwq
            go_simp
            try with_reducible rfl
          simp only [Act.put, List.setIfInBounds_toArray, List.set_cons_zero, List.set_cons_succ]
          refine takeG_at (i := 21) (v := ?_) rfl rfl (by kernel_rfl) (by kernel_rfl) (by kernel_rfl) (by kernel_rfl) (by kernel_rfl) (by kernel_rfl) (fun _ _ _ h => h) hS0 (Or.inl ⟨by rfl, ?_⟩) ?_
          rotate_left
          · intro wq hwq
            obtain ⟨hs0, hs1, hs2, hs3, hs4⟩ := hwq
            go_simp
            try with_reducible rfl
          simp only [Act.put, List.setIfInBounds_toArray, List.set_cons_zero, List.set_cons_succ]
          refine wpAnyG_turn (k := 22) (by kernel_rfl) rfl (fun K hK => ?_)
          go_simp
          refine hK _ _ ?_
          clear hK K
          refine wpAny_one (i := 23) (by kernel_rfl) rfl (fun K hK => ?_)
          go_simp
          refine hK _ _ ?_
          clear hK K
          refine wpAny_done (by kernel_rfl) ?_ _
          go_wp2
          go_roundw
          case rel =>
            refine ⟨t + 1, wd.heap.size, 8, [IntKind.u32.wrap (t1 + t2), a, bb, c, IntKind.u32.wrap (d + t1), e, f, g], by go_num, by omega, rfl, ?_, ?_, hWd.alloc _, hBd.alloc hBd.size _⟩
            · rw [mixN, ← VV.out, ← X.out, ← Y.out, IntKind.wrap_u32, IntKind.wrap_u32, T1.out, T2.out]
              rfl
            · exact OW.lit wd 30 .u32 [IntKind.u32.wrap (t1 + t2), a, bb, c, IntKind.u32.wrap (d + t1), e, f, g] hBd.size (by unfold maxLen; simp)
          case measure => simp [intOf]; omega
        · have h64 : t = 64 := by omega
          rw [h64] at VV
          clear h64 lV hW
          have hgv := hO.base
          go_wp2
          go_loopw [17] (fun vi wx => ∃ i : Nat, vi = .int .i64 i ∧ i ≤ 8 ∧ OW 30 .u32 wx w.heap.size (.slice (some ⟨gv, 0, none⟩) 8 cv) (addAt V H i) ∧ Below w.heap.size w wx) (fun vi _ => 8 - (intOf vi).toNat)
          case atStart => exact ⟨0, rfl, by omega, by rw [addAt_zero]; exact hO, hB⟩
          case round =>
            clear hO hB
            obtain ⟨i, rfl, hi, hO, hB⟩ := hrel
            by_cases hlt : i < 8
            · have hH2 := hH.below hB hH.lt
              have c1 := hO.cellN (j := i) (by rw [addAt_len LV.out LH.out (by omega)]; exact hlt)
              rw [addAt_get LV.out LH.out hlt] at c1
              have f1 := hO.freeN i
              have c2 := hH2.cellN (j := i) (by rw [LH.out]; exact hlt)
              have EE := Lib.hid (addAt_on LV.out LH.out hlt)
              have hset := hO.setN i
              generalize V.getD i 0 = x at c1 EE
              generalize H.getD i 0 = y at c2 EE
              have hii : (i : Int) < 8 := by omega
              clear hH2
              go_wp2
              go_region
              go_wp2
              go_roundw
              case rel => exact ⟨i + 1, by go_num, by omega, by rw [← EE.out]; exact (hset _).drew, (hB.setCell (p := ⟨gv, i, none⟩) hgv _).drew⟩
              case measure => simp [intOf]; omega
            · have h8 : i = 8 := by omega
              rw [h8, addAt_all LV.out LH.out, VV.out, ← BF.out] at hO
              clear h8
              go_wp2
              go_ret
              exact ⟨_, rfl, hO, hB⟩
end Go.Proofs.Ytadeiljhniffjaa
