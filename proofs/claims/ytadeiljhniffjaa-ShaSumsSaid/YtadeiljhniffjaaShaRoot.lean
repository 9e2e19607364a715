/-
  CONTRACTS of the document's power, Root and Numbers.
-/
import Derived.Test.YtadeiljhniffjaaShaPow
import Derived.Test.YtadeiljhniffjaaShaHeld
namespace Go.Proofs.Ytadeiljhniffjaa
open Go.RowKit
set_option linter.unusedVariables false

theorem goal2 {p : Nat} (hp : p < 400) : w3 (goalF p 2) = [0, (p : Int), 0] := by
  have e : goalF p 2 = p * 18446744073709551616 := rfl
  rw [e, w3_eq, wd0, wd1, wd2]
  have h0 : p * 18446744073709551616 % 18446744073709551616 = 0 := by omega
  have h1 : p * 18446744073709551616 / 18446744073709551616 % 18446744073709551616 = p := by omega
  have h2 : p * 18446744073709551616 / 340282366920938463463374607431768211456 = 0 := by omega
  rw [h0, h1, h2]
  rfl
theorem goal3 {p : Nat} (hp : p < 400) : w3 (goalF p 3) = [0, (p : Int) * 4294967296, 0] := by
  have e : goalF p 3 = p * 79228162514264337593543950336 := rfl
  rw [e, w3_eq, wd0, wd1, wd2]
  have h0 : p * 79228162514264337593543950336 % 18446744073709551616 = 0 := by omega
  have h1 : p * 79228162514264337593543950336 / 18446744073709551616 % 18446744073709551616 = p * 4294967296 := by omega
  have h2 : p * 79228162514264337593543950336 / 340282366920938463463374607431768211456 = 0 := by omega
  rw [h0, h1, h2]
  have h3 : ((p * 4294967296 : Nat) : Int) = (p : Int) * 4294967296 := by omega
  rw [h3]
  rfl
theorem goal_lt {p n : Nat} (hp : p < 400) : goalF p n < 6277101735386680763835789423207666416102355444464034512896 := by
  unfold goalF
  split <;> omega

set_option linter.unusedSimpArgs false in
set_option maxHeartbeats 2000000 in
set_option maxRecDepth 10000000 in
theorem root_any (p n : Nat) (w : World) (hp : p < 400) (hn : n = 2 ∨ n = 3) :
    Calls Try.prog 24 #[.int .u64 p, .int .i64 n] w fun r w' => r = .returned (.int .u32 (rootU n p)) ∧ Below w.heap.size w w' := by
  obtain ⟨G, hG⟩ : ∃ G, G = goalF p n := ⟨_, rfl⟩
  have hGl : G < 6277101735386680763835789423207666416102355444464034512896 := by rw [hG]; exact goal_lt hp
  have hR : rootU n p = ((rootF G n 36 : Nat) : Int) % 4294967296 := by rw [hG]; rfl
  rw [hR]
  clear hR
  obtain ⟨g1, hg1⟩ : ∃ g1 : Int, w3 G = [0, g1, 0] := by
    rcases hn with rfl | rfl
    · exact ⟨_, by rw [hG]; exact goal2 hp⟩
    · exact ⟨_, by rw [hG]; exact goal3 hp⟩
  have GW := Lib.hid hg1
  have hsz : ∀ L : List Int, L.length = 3 → (Try.prog.info? 54).map (·.size) = some ((L.map (Value.int .u64)).toArray).size := fun L hL => Try.size3.trans (congrArg some (AR.size .u64 L hL).symm)
  have hold : ∀ (K L : List Int), K.length = 3 → L.length = 3 → ((K.map (Value.int .u64)).toArray).size = ((L.map (Value.int .u64)).toArray).size := fun K L hK hL => by rw [AR.size _ _ hK, AR.size _ _ hL]
  have Z1 : AR .u64 54 (w.alloc (.cells ((List.replicate 3 0).map (Value.int .u64)).toArray 54)) w.heap.size (List.replicate 3 0) := AR.new1 w (List.replicate 3 0)
  have hn1 : 1 ≤ n := by omega
  have hn3 : n ≤ 3 := by omega
  have stepW : ∀ k < 36, rootF G n k ||| 2 ^ (35 - k) < 68719476736 := by
    intro k hk
    have h1 := rootF_lt G n k
    have h2 := Nat.or_lt_two_pow (n := 36) (by omega : rootF G n k < 2 ^ 36) (Nat.pow_lt_pow_right (by decide) (by omega) : 2 ^ (35 - k) < 2 ^ 36)
    omega
  have HS := Lib.hid stepW
  clear stepW hg1
  have main : ∀ (P0 : World) (A : Act) (hA : AR .u64 54 P0 w.heap.size (w3 G)) (hB : Below w.heap.size w P0), True := fun _ _ _ _ => trivial
  clear main
  rcases hn with rfl | rfl
  · have hg : [(0 : Int), (p : Int), 0] = w3 G := by rw [hG]; exact (goal2 hp).symm
    have HG := Lib.hid hg
    clear hG hg
    go_enter Try.func24, Try.ntmps24
    go_wp2_with (refine wpList_store_row rfl 54 (.tmp 5) _ rfl w.heap.size (([(0 : Int), (p : Int), 0]).map (Value.int .u64)).toArray rfl rfl 54 _ Z1 (hsz _ rfl) (hold _ _ rfl rfl) (AR.all _ _) ?_)
    have A0 := Z1.row [(0 : Int), (p : Int), 0]
    have B0 := below_row ((Below.refl w.heap.size w).alloc (Nat.le_refl _) (.cells ((List.replicate 3 0).map (Value.int .u64)).toArray 54)) (Nat.le_refl _) ([(0 : Int), (p : Int), 0].map (Value.int .u64)).toArray
    go_loopw [6, 7] (fun vx vb wr => ∃ k : Nat, vb = .int .i64 (35 - (k : Int)) ∧ k ≤ 36 ∧ vx = .int .u64 (rootF G 2 k : Nat) ∧ AR .u64 54 wr w.heap.size (w3 G) ∧ Below w.heap.size w wr) (fun _ vb _ => (intOf vb + 1).toNat)
    case atStart => exact ⟨0, rfl, by omega, rfl, by rw [← HG.out]; exact A0, B0⟩
    case round =>
      clear A0 B0 Z1
      obtain ⟨k, rfl, hk, rfl, hA, hB⟩ := hrel
      by_cases hlt : k < 36
      · have hsh : (35 - (k : Int)).toNat = 35 - k := by omega
        have hxl := HS.out k hlt
        have hrl := rootF_lt G 2 k
        have hpow : (2 : Nat) ^ (35 - k) < 68719476736 := by
          have : (2 : Nat) ^ (35 - k) < 2 ^ 36 := Nat.pow_lt_pow_right (by decide) (by omega)
          omega
        have hw2 : IntKind.u64.wrap ((2 : Int) ^ (35 - k)) = ((2 ^ (35 - k) : Nat) : Int) := by
          have e : ((2 : Int) ^ (35 - k)) = ((2 ^ (35 - k) : Nat) : Int) := by simp
          rw [e, wrap64u]
          generalize (2 : Nat) ^ (35 - k) = z at hpow ⊢
          omega
        have hy : bits .or .u64 ((rootF G 2 k : Nat) : Int) (IntKind.u64.wrap ((2 : Int) ^ (35 - k))) = ((rootF G 2 k ||| 2 ^ (35 - k) : Nat) : Int) := by
          rw [hw2, or_nat (by omega) (by omega)]
        have hstep : rootF G 2 (k + 1) = if (rootF G 2 k ||| 2 ^ (35 - k)) ^ 2 ≤ G then rootF G 2 k ||| 2 ^ (35 - k) else rootF G 2 k := rfl
        clear hw2 hpow hrl
        generalize rootF G 2 k ||| 2 ^ (35 - k) = y at hxl hy hstep
        have ST := Lib.hid hstep
        clear hstep
        generalize rootF G 2 k = x at hy ST ⊢
        have cp := fun w => power_any y 2 w hxl (by decide) (by decide)
        have hyn := pow_lt36 (i := 2) hxl (by decide)
        have ca := fun w => above_any (y ^ 2) G w (by omega) hGl
        rw [GW.out] at ca
        simp only [List.map_cons, List.map_nil] at ca
        generalize hYN : y ^ 2 = yn at cp ca hyn
        have YN := Lib.hid hYN
        clear hYN hxl hyn
        obtain ⟨bb, hbb⟩ : ∃ bb, bb = decide (G < yn) := ⟨_, rfl⟩
        rw [← hbb] at ca
        have BB := Lib.hid hbb
        clear hbb
        have c0 := hA.cell (j := 0) (by rw [w3_len]; decide)
        have c1 := hA.cell (j := 1) (by rw [w3_len]; decide)
        have c2 := hA.cell (j := 2) (by rw [w3_len]; decide)
        rw [GW.out] at c0 c1 c2
        simp only [List.getD_cons_zero, List.getD_cons_succ] at c0 c1 c2
        go_wp2
        refine wp_region_any (by kernel_rfl) ?_
        change wpAny _ _ _ _ 6 _ _ (World.drew _)
        have hS0 : wr.drew.cell? ⟨w.heap.size, 0, none⟩ = some (.int .u64 0) ∧ wr.drew.cell? ⟨w.heap.size, 1, none⟩ = some (.int .u64 g1) ∧ wr.drew.cell? ⟨w.heap.size, 2, none⟩ = some (.int .u64 0) := ⟨c0, c1, c2⟩
        have hAd := hA.drew
        have hBd := hB.drew
        generalize World.drew wr = wd at hS0 hAd hBd ⊢
        clear c0 c1 c2
        refine wpAny_of_G (k := 4) (S := fun w' => w'.cell? ⟨w.heap.size, 0, none⟩ = some (.int .u64 0) ∧ w'.cell? ⟨w.heap.size, 1, none⟩ = some (.int .u64 g1) ∧ w'.cell? ⟨w.heap.size, 2, none⟩ = some (.int .u64 0)) _ _ _ _ ?_
        refine wpAnyG_take (i := 0) (v := ?_) rfl (by kernel_rfl) (by kernel_rfl) (by kernel_rfl) (by kernel_rfl) (by kernel_rfl) (by kernel_rfl) (fun _ _ _ h => h) hS0 (Or.inl ⟨by rfl, ?_⟩) ?_
        rotate_left
        · intro wq hwq
          obtain ⟨hs0, hs1, hs2⟩ := hwq
          go_simp
          try with_reducible rfl
        simp only [Act.put, List.setIfInBounds_toArray, List.set_cons_zero, List.set_cons_succ]
        refine wpAnyG_take (i := 1) (v := ?_) rfl (by kernel_rfl) (by kernel_rfl) (by kernel_rfl) (by kernel_rfl) (by kernel_rfl) (by kernel_rfl) (fun _ _ _ h => h) hS0 (Or.inl ⟨by rfl, ?_⟩) ?_
        rotate_left
        · intro wq hwq
          obtain ⟨hs0, hs1, hs2⟩ := hwq
          go_simp
          try with_reducible rfl
        simp only [Act.put, List.setIfInBounds_toArray, List.set_cons_zero, List.set_cons_succ]
        refine wpAnyG_take (i := 3) (v := ?_) rfl (by kernel_rfl) (by kernel_rfl) (by kernel_rfl) (by kernel_rfl) (by kernel_rfl) (by kernel_rfl) (fun _ _ _ h => h) hS0 (Or.inl ⟨by rfl, ?_⟩) ?_
        rotate_left
        · intro wq hwq
          obtain ⟨hs0, hs1, hs2⟩ := hwq
          go_simp
          try with_reducible rfl
        simp only [Act.put, List.setIfInBounds_toArray, List.set_cons_zero, List.set_cons_succ]
        refine wpAnyG_one (i := 2) (by kernel_rfl) rfl (fun K hK => ?_)
        go_simp
        refine (cp _).mono ?_
        rintro e w1 ⟨rfl, hb1⟩
        have hA1 := hAd.below hb1 hAd.lt
        have hB1 := hBd.trans (hb1.mono hBd.size)
        have hS1 : w1.cell? ⟨w.heap.size, 0, none⟩ = some (.int .u64 0) ∧ w1.cell? ⟨w.heap.size, 1, none⟩ = some (.int .u64 g1) ∧ w1.cell? ⟨w.heap.size, 2, none⟩ = some (.int .u64 0) := ⟨cell_of_below hb1 hS0.1, cell_of_below hb1 hS0.2.1, cell_of_below hb1 hS0.2.2⟩
        simp only
        refine hK _ _ hS1 ?_
        clear hK K
        refine wpAnyG_turn (k := 4) (by kernel_rfl) rfl (fun K hK => ?_)
        go_simp
        refine (ca _).mono ?_
        rintro e w2 ⟨rfl, hb2⟩
        have hA2 := hA1.below hb2 hA1.lt
        have hB2 := hB1.trans (hb2.mono hB1.size)
        simp only
        refine hK _ _ ?_
        clear hK K
        refine wpAny_one (i := 5) (by kernel_rfl) rfl (fun K hK => ?_)
        go_simp
        refine hK _ _ ?_
        clear hK K
        refine wpAny_done (by kernel_rfl) ?_ _
        cases bb with
        | true =>
          have hcmp : G < yn := of_decide_eq_true BB.out.symm
          have E := Lib.hid (show rootF G 2 (k + 1) = x by rw [ST.out, YN.out, if_neg (by omega)])
          clear hcmp
          go_wp2
          go_roundw
          case rel => exact ⟨k + 1, by congr 1; omega, by omega, by rw [E.out], hA2, hB2⟩
          case measure => simp [intOf]; omega
        | false =>
          have hcmp : ¬ G < yn := of_decide_eq_false BB.out.symm
          have E := Lib.hid (show rootF G 2 (k + 1) = y by rw [ST.out, YN.out, if_pos (by omega)])
          clear hcmp
          go_wp2
          go_roundw
          case rel => exact ⟨k + 1, by congr 1; omega, by omega, by rw [E.out], hA2, hB2⟩
          case measure => simp [intOf]; omega
      · have hk6 : k = 36 := by omega
        subst hk6
        rw [show (35 - ((36 : Nat) : Int)) = -1 from rfl]
        go_wp2
        go_ret
        exact ⟨rfl, hB⟩
  · have hg : [(0 : Int), (p : Int) * 4294967296, 0] = w3 G := by rw [hG]; exact (goal3 hp).symm
    have HG := Lib.hid hg
    clear hG hg
    have hpd : (p : Int) / 4294967296 = 0 := by omega
    have A1 := Z1.row [(0 : Int), (p : Int), 0]
    have A0 := A1.row [(0 : Int), (p : Int) * 4294967296, 0]
    have B0 := below_row (below_row ((Below.refl w.heap.size w).alloc (Nat.le_refl _) (.cells ((List.replicate 3 0).map (Value.int .u64)).toArray 54)) (Nat.le_refl _) ([(0 : Int), (p : Int), 0].map (Value.int .u64)).toArray) (Nat.le_refl _) ([(0 : Int), (p : Int) * 4294967296, 0].map (Value.int .u64)).toArray
    go_enter Try.func24, Try.ntmps24
    go_wp2_with (first | (refine wpList_store_row rfl 54 (.tmp 5) (.tmp 10) rfl w.heap.size (([(0 : Int), (p : Int), 0]).map (Value.int .u64)).toArray rfl rfl 54 _ Z1 (hsz _ rfl) (hold _ _ rfl rfl) (AR.all _ _) ?_) | (refine wpList_store_row rfl 54 (.tmp 5) (.tmp 17) rfl w.heap.size (([(0 : Int), (p : Int) * 4294967296, 0]).map (Value.int .u64)).toArray rfl rfl 54 _ A1 (hsz _ rfl) (hold _ _ rfl rfl) (AR.all _ _) ?_))
    clear A1
    go_loopw [6, 7] (fun vx vb wr => ∃ k : Nat, vb = .int .i64 (35 - (k : Int)) ∧ k ≤ 36 ∧ vx = .int .u64 (rootF G 3 k : Nat) ∧ AR .u64 54 wr w.heap.size (w3 G) ∧ Below w.heap.size w wr) (fun _ vb _ => (intOf vb + 1).toNat)
    case atStart => exact ⟨0, rfl, by omega, rfl, by rw [← HG.out]; exact A0, B0⟩
    case round =>
      clear A0 B0 Z1
      obtain ⟨k, rfl, hk, rfl, hA, hB⟩ := hrel
      by_cases hlt : k < 36
      · have hsh : (35 - (k : Int)).toNat = 35 - k := by omega
        have hxl := HS.out k hlt
        have hrl := rootF_lt G 3 k
        have hpow : (2 : Nat) ^ (35 - k) < 68719476736 := by
          have : (2 : Nat) ^ (35 - k) < 2 ^ 36 := Nat.pow_lt_pow_right (by decide) (by omega)
          omega
        have hw2 : IntKind.u64.wrap ((2 : Int) ^ (35 - k)) = ((2 ^ (35 - k) : Nat) : Int) := by
          have e : ((2 : Int) ^ (35 - k)) = ((2 ^ (35 - k) : Nat) : Int) := by simp
          rw [e, wrap64u]
          generalize (2 : Nat) ^ (35 - k) = z at hpow ⊢
          omega
        have hy : bits .or .u64 ((rootF G 3 k : Nat) : Int) (IntKind.u64.wrap ((2 : Int) ^ (35 - k))) = ((rootF G 3 k ||| 2 ^ (35 - k) : Nat) : Int) := by
          rw [hw2, or_nat (by omega) (by omega)]
        have hstep : rootF G 3 (k + 1) = if (rootF G 3 k ||| 2 ^ (35 - k)) ^ 3 ≤ G then rootF G 3 k ||| 2 ^ (35 - k) else rootF G 3 k := rfl
        clear hw2 hpow hrl
        generalize rootF G 3 k ||| 2 ^ (35 - k) = y at hxl hy hstep
        have ST := Lib.hid hstep
        clear hstep
        generalize rootF G 3 k = x at hy ST ⊢
        have cp := fun w => power_any y 3 w hxl (by decide) (by decide)
        have hyn := pow_lt36 (i := 3) hxl (by decide)
        have ca := fun w => above_any (y ^ 3) G w (by omega) hGl
        rw [GW.out] at ca
        simp only [List.map_cons, List.map_nil] at ca
        generalize hYN : y ^ 3 = yn at cp ca hyn
        have YN := Lib.hid hYN
        clear hYN hxl hyn
        obtain ⟨bb, hbb⟩ : ∃ bb, bb = decide (G < yn) := ⟨_, rfl⟩
        rw [← hbb] at ca
        have BB := Lib.hid hbb
        clear hbb
        have c0 := hA.cell (j := 0) (by rw [w3_len]; decide)
        have c1 := hA.cell (j := 1) (by rw [w3_len]; decide)
        have c2 := hA.cell (j := 2) (by rw [w3_len]; decide)
        rw [GW.out] at c0 c1 c2
        simp only [List.getD_cons_zero, List.getD_cons_succ] at c0 c1 c2
        go_wp2
        refine wp_region_any (by kernel_rfl) ?_
        change wpAny _ _ _ _ 6 _ _ (World.drew _)
        have hS0 : wr.drew.cell? ⟨w.heap.size, 0, none⟩ = some (.int .u64 0) ∧ wr.drew.cell? ⟨w.heap.size, 1, none⟩ = some (.int .u64 g1) ∧ wr.drew.cell? ⟨w.heap.size, 2, none⟩ = some (.int .u64 0) := ⟨c0, c1, c2⟩
        have hAd := hA.drew
        have hBd := hB.drew
        generalize World.drew wr = wd at hS0 hAd hBd ⊢
        clear c0 c1 c2
        refine wpAny_of_G (k := 4) (S := fun w' => w'.cell? ⟨w.heap.size, 0, none⟩ = some (.int .u64 0) ∧ w'.cell? ⟨w.heap.size, 1, none⟩ = some (.int .u64 g1) ∧ w'.cell? ⟨w.heap.size, 2, none⟩ = some (.int .u64 0)) _ _ _ _ ?_
        refine wpAnyG_take (i := 0) (v := ?_) rfl (by kernel_rfl) (by kernel_rfl) (by kernel_rfl) (by kernel_rfl) (by kernel_rfl) (by kernel_rfl) (fun _ _ _ h => h) hS0 (Or.inl ⟨by rfl, ?_⟩) ?_
        rotate_left
        · intro wq hwq
          obtain ⟨hs0, hs1, hs2⟩ := hwq
          go_simp
          try with_reducible rfl
        simp only [Act.put, List.setIfInBounds_toArray, List.set_cons_zero, List.set_cons_succ]
        refine wpAnyG_take (i := 1) (v := ?_) rfl (by kernel_rfl) (by kernel_rfl) (by kernel_rfl) (by kernel_rfl) (by kernel_rfl) (by kernel_rfl) (fun _ _ _ h => h) hS0 (Or.inl ⟨by rfl, ?_⟩) ?_
        rotate_left
        · intro wq hwq
          obtain ⟨hs0, hs1, hs2⟩ := hwq
          go_simp
          try with_reducible rfl
        simp only [Act.put, List.setIfInBounds_toArray, List.set_cons_zero, List.set_cons_succ]
        refine wpAnyG_take (i := 3) (v := ?_) rfl (by kernel_rfl) (by kernel_rfl) (by kernel_rfl) (by kernel_rfl) (by kernel_rfl) (by kernel_rfl) (fun _ _ _ h => h) hS0 (Or.inl ⟨by rfl, ?_⟩) ?_
        rotate_left
        · intro wq hwq
          obtain ⟨hs0, hs1, hs2⟩ := hwq
          go_simp
          try with_reducible rfl
        simp only [Act.put, List.setIfInBounds_toArray, List.set_cons_zero, List.set_cons_succ]
        refine wpAnyG_one (i := 2) (by kernel_rfl) rfl (fun K hK => ?_)
        go_simp
        refine (cp _).mono ?_
        rintro e w1 ⟨rfl, hb1⟩
        have hA1 := hAd.below hb1 hAd.lt
        have hB1 := hBd.trans (hb1.mono hBd.size)
        have hS1 : w1.cell? ⟨w.heap.size, 0, none⟩ = some (.int .u64 0) ∧ w1.cell? ⟨w.heap.size, 1, none⟩ = some (.int .u64 g1) ∧ w1.cell? ⟨w.heap.size, 2, none⟩ = some (.int .u64 0) := ⟨cell_of_below hb1 hS0.1, cell_of_below hb1 hS0.2.1, cell_of_below hb1 hS0.2.2⟩
        simp only
        refine hK _ _ hS1 ?_
        clear hK K
        refine wpAnyG_turn (k := 4) (by kernel_rfl) rfl (fun K hK => ?_)
        go_simp
        refine (ca _).mono ?_
        rintro e w2 ⟨rfl, hb2⟩
        have hA2 := hA1.below hb2 hA1.lt
        have hB2 := hB1.trans (hb2.mono hB1.size)
        simp only
        refine hK _ _ ?_
        clear hK K
        refine wpAny_one (i := 5) (by kernel_rfl) rfl (fun K hK => ?_)
        go_simp
        refine hK _ _ ?_
        clear hK K
        refine wpAny_done (by kernel_rfl) ?_ _
        cases bb with
        | true =>
          have hcmp : G < yn := of_decide_eq_true BB.out.symm
          have E := Lib.hid (show rootF G 3 (k + 1) = x by rw [ST.out, YN.out, if_neg (by omega)])
          clear hcmp
          go_wp2
          go_roundw
          case rel => exact ⟨k + 1, by congr 1; omega, by omega, by rw [E.out], hA2, hB2⟩
          case measure => simp [intOf]; omega
        | false =>
          have hcmp : ¬ G < yn := of_decide_eq_false BB.out.symm
          have E := Lib.hid (show rootF G 3 (k + 1) = y by rw [ST.out, YN.out, if_pos (by omega)])
          clear hcmp
          go_wp2
          go_roundw
          case rel => exact ⟨k + 1, by congr 1; omega, by omega, by rw [E.out], hA2, hB2⟩
          case measure => simp [intOf]; omega
      · have hk6 : k = 36 := by omega
        subst hk6
        rw [show (35 - ((36 : Nat) : Int)) = -1 from rfl]
        go_wp2
        go_ret
        exact ⟨rfl, hB⟩

theorem firstP_lt {k : Nat} (x : Nat) (h : x ∈ firstP k) : x < 400 := by
  have h1 := List.mem_of_mem_take h
  unfold primesTo at h1
  have := (List.mem_filter.1 h1).1
  exact List.mem_range.1 this
theorem firstP_len {k : Nat} (hk : k ≤ 64) : (firstP k).length = k := by
  have h1 : 64 ≤ (primesTo 400).length := by
    have := primesTo_pre (n := 312) (by omega)
    rw [len312] at this
    have h2 := congrArg List.length this
    unfold firstP at h2
    rw [List.length_take, len312] at h2
    omega
  unfold firstP
  rw [List.length_take]
  omega
theorem nums_on {k n i p : Nat} (hi : i < (firstP k).length) (hp : (firstP k).getD i 0 = p) : ((firstP k).take i).map (rootU n) ++ [rootU n p] = ((firstP k).take (i + 1)).map (rootU n) := by
  have e : (firstP k)[i]? = some p := by
    rw [← hp]
    simp [List.getD, List.getElem?_eq_getElem hi]
  rw [List.take_add_one, List.map_append, e]
  rfl
theorem nat2_get {l : List Nat} {i : Nat} (hi : i < l.length) : (nat2 l).getD i 0 = ((l.getD i 0 : Nat) : Int) := by
  unfold nat2
  simp [List.getD, List.getElem?_eq_getElem hi]

set_option maxHeartbeats 1000000 in
set_option maxRecDepth 10000000 in
theorem numbers_any (k n : Nat) (w : World) (hk : k ≤ 64) (hk0 : 0 < k) (hn : n = 2 ∨ n = 3) :
    Calls Try.prog 18 #[.int .i64 k, .int .i64 n] w fun r w' => ∃ v, r = .returned v ∧ OW 30 .u32 w' w.heap.size v (numsF k n) ∧ Below w.heap.size w w' := by
  have hlp := firstP_len hk
  have hpr := primes_any k w hk
  have LP := Lib.hid hlp
  clear hlp
  go_enter Try.func18, Try.ntmps18
  go_wp2_with (first | (go_at_call 23; refine hpr.mono ?_; rintro r w1 ⟨v, rfl, hO, hB⟩))
  obtain ⟨g, cap, rfl, hg1, hg2, _⟩ := hO.shape (by intro e; have := congrArg List.length e; simp [nat2, LP.out] at this; omega)
  have hlen : (nat2 (firstP k)).length = k := by simp [nat2, LP.out]
  rw [hlen]
  clear hlen
  go_loopw [6, 7] (fun v vi wr => ∃ i : Nat, vi = .int .i64 i ∧ i ≤ k ∧ OW 30 .u32 wr w1.heap.size v (((firstP k).take i).map (rootU n)) ∧ Below w1.heap.size w1 wr) (fun _ vi _ => k - (intOf vi).toNat)
  case atStart => exact ⟨0, rfl, by omega, OW.nil _ _ _ _, Below.refl _ _⟩
  case round =>
    obtain ⟨i, rfl, hi, hW, hb1⟩ := hrel
    have hO1 := hO.keep hb1
    by_cases hlt : i < k
    · have hc := hO1.cell (j := i) (by simp [nat2, LP.out]; exact hlt)
      rw [nat2_get (by rw [LP.out]; exact hlt)] at hc
      obtain ⟨p, hp⟩ : ∃ p, p = (firstP k).getD i 0 := ⟨_, rfl⟩
      rw [← hp] at hc
      have hlt400 : p < 400 := by
        refine firstP_lt (k := k) p ?_
        rw [hp, List.getD_eq_getElem?_getD, List.getElem?_eq_getElem (by rw [LP.out]; exact hlt)]
        exact List.getElem_mem _
      have EE := Lib.hid (nums_on (n := n) (by rw [LP.out]; exact hlt) hp.symm)
      have hr := fun w => root_any p n w hlt400 hn
      have hle : (((firstP k).take i).map (rootU n)).length = i := by rw [List.length_map, List.length_take, LP.out]; omega
      have hltI : (i : Int) < (k : Int) := by omega
      clear hp hn
      generalize ((firstP k).take i).map (rootU n) = xs at hW hle EE
      generalize rootU n p = x at hr EE
      go_wp2_with (first | (go_at_call 24; refine (hr _).mono ?_; rintro r w2 ⟨rfl, hb2⟩; have hW2 := hW.keep hb2; have hb3 := hb1.trans (hb2.mono hb1.size)) | (at_builtin; refine wp_app el32 rfl (.tmp 15) (.tmp 22) rfl rfl hW2 [x] 1 rfl rfl (by omega) (by decide) hb3.size ?_; intro v' w3 hW3 hb4))
      go_roundw
      case rel => exact ⟨i + 1, by go_num, by omega, by rw [← EE.out]; exact hW3, hb3.trans hb4⟩
      case measure => simp [intOf]; omega
    · have hik : i = k := by omega
      rw [hik, List.take_of_length_le (by rw [LP.out]; omega)] at hW
      clear hik
      go_wp2
      go_ret
      exact ⟨_, rfl, ⟨hW.1, hW.2.imp id (fun ⟨g', cap', cur, h1, h2, h3⟩ => ⟨g', cap', cur, h1, Nat.le_trans hB.size h2, h3⟩)⟩, hB.trans (hb1.mono hB.size)⟩
end Go.Proofs.Ytadeiljhniffjaa
