/-
  CONTRACT of the document's power.
-/
import Derived.Test.YtadeiljhniffjaaShaWide
import Derived.Test.YtadeiljhniffjaaShaPrimes
namespace Go.Proofs.Ytadeiljhniffjaa
open Go.RowKit
set_option linter.unusedVariables false

set_option maxHeartbeats 2000000 in
set_option maxRecDepth 10000000 in
theorem power_any (x n : Nat) (w : World) (hx : x < 68719476736) (hn1 : 1 ≤ n) (hn : n ≤ 3) :
    Calls Try.prog 30 #[.int .u64 x, .int .i64 n] w fun r w' => r = .returned (.agg ((w3 (x ^ n)).map (.int .u64)).toArray) ∧ Below w.heap.size w w' := by
  obtain ⟨FIN, hFIN⟩ : ∃ L, L = w3 (x ^ n) := ⟨_, rfl⟩
  rw [← hFIN]
  have lL : FIN.length = 3 := by rw [hFIN]; rfl
  have FF := Lib.hid hFIN
  clear hFIN
  obtain ⟨m, hm⟩ : ∃ m, m = x % 4294967296 := ⟨_, rfl⟩
  obtain ⟨q, hq⟩ : ∃ q, q = x / 4294967296 := ⟨_, rfl⟩
  have hand : bits .and .u64 (x : Int) 4294967295 = (m : Int) := by rw [and_low (by omega) (by omega)]; omega
  have hdiv : (x : Int) / 4294967296 = (q : Int) := by omega
  have hml : m < 4294967296 := by omega
  have hql : q < 4294967296 := by omega
  have HM := Lib.hid hm
  have HQ := Lib.hid hq
  have HX := Lib.hid hx
  clear hm hq hx
  have hsz : ∀ L : List Int, L.length = 3 → (Try.prog.info? 54).map (·.size) = some ((L.map (Value.int .u64)).toArray).size := fun L hL => Try.size3.trans (congrArg some (AR.size .u64 L hL).symm)
  have hold : ∀ (K L : List Int), K.length = 3 → L.length = 3 → ((K.map (Value.int .u64)).toArray).size = ((L.map (Value.int .u64)).toArray).size := fun K L hK hL => by rw [AR.size _ _ hK, AR.size _ _ hL]
  have Z1 : AR .u64 54 ((w.alloc (.cells ((List.replicate 3 0).map (Value.int .u64)).toArray 54)).alloc (.cells ((List.replicate 3 0).map (Value.int .u64)).toArray 54)) (w.heap.size + 1) (List.replicate 3 0) := AR.new2 w _ (List.replicate 3 0)
  go_enter Try.func30, Try.ntmps30
  go_wp2_with (refine wpList_store_row rfl 54 (.tmp 5) _ rfl (w.heap.size + 1) (([(x : Int), 0, 0]).map (Value.int .u64)).toArray rfl rfl 54 _ Z1 (hsz _ rfl) (hold _ _ rfl rfl) (AR.all _ _) ?_)
  go_loopw [6] (fun v wr => ∃ i : Nat, v = .int .i64 i ∧ 1 ≤ i ∧ i ≤ n ∧ AR .u64 54 wr (w.heap.size + 1) (w3 (x ^ i)) ∧ AR .u64 54 wr w.heap.size (List.replicate 3 0) ∧ Below w.heap.size w wr) (fun v _ => n - (intOf v).toNat)
  case atStart =>
    have e : w3 (x ^ 1) = [(x : Int), 0, 0] := by
      have := HX.out
      rw [Nat.pow_one, w3_eq]
      have h0 : wd x 0 = x := by rw [wd0]; omega
      have h1 : wd x 1 = 0 := by rw [wd1]; omega
      have h2 : wd x 2 = 0 := by rw [wd2]; omega
      rw [h0, h1, h2]
      rfl
    refine ⟨1, rfl, by omega, hn1, by rw [e]; exact Z1.row [(x : Int), 0, 0], ?_, ?_⟩
    · exact AR.rowOther (AR.alloc (AR.new1 w (List.replicate 3 0)) _) (by show w.heap.size ≠ w.heap.size + 1; omega) _
    · exact below_row (((Below.refl _ _).alloc (Nat.le_refl _) _).alloc (by simp) _) (Nat.le_succ _) _
  case round =>
    clear Z1
    obtain ⟨i, rfl, hi1, hi, P, R, B⟩ := hrel
    by_cases hlt : i < n
    · have hp := pow_lt36 (i := i) HX.out (by omega)
      have hpm : x ^ i * m ≤ 324518553658426726783156020576257 * 4294967296 := Nat.mul_le_mul (by omega) (by omega)
      have hpq : x ^ i * q ≤ 324518553658426726783156020576257 * 4294967296 := Nat.mul_le_mul (by omega) (by omega)
      have hsp := pow_split x i
      rw [← HM.out, ← HQ.out] at hsp
      have SP := Lib.hid hsp
      clear hsp
      have tA := fun w => times_any (x ^ i) m w hml (by omega) (by omega)
      have tB := fun w => times_any (x ^ i) q w hql (by omega) (by omega)
      obtain ⟨C, hC⟩ : ∃ C, C = x ^ i * m := ⟨_, rfl⟩
      obtain ⟨D, hD⟩ : ∃ D, D = x ^ i * q := ⟨_, rfl⟩
      rw [← hC] at tA hpm SP
      rw [← hD] at tB hpq SP
      have hCD : C + D * 4294967296 = x ^ (i + 1) := SP.out
      have hsh := shl_words (B := D) (by omega)
      have aC := fun w => add_any C (D * 4294967296) w (by omega)
      rw [w3_eq (D * 4294967296)] at aC
      have EW := Lib.hid (congrArg w3 hCD)
      clear hC hD hCD SP hp hpm hpq
      generalize wd (D * 4294967296) 0 = s0 at hsh aC
      generalize wd (D * 4294967296) 1 = s1 at hsh aC
      generalize wd (D * 4294967296) 2 = s2 at hsh aC
      simp only [List.map_cons, List.map_nil] at aC
      have eD := Lib.hid (w3_eq D)
      generalize wd D 0 = d0 at hsh eD
      generalize wd D 1 = d1 at hsh eD
      generalize wd D 2 = d2 at hsh eD
      obtain ⟨f0, f1, f2⟩ := hsh
      generalize hXI : w3 (x ^ i) = XI at P tA tB
      have lXI : XI.length = 3 := by rw [← hXI]; rfl
      clear hXI
      have lC := w3_len C
      have lD := w3_len D
      generalize hCL : w3 C = CL at tA aC lC
      generalize w3 D = DL at tB eD lD
      clear hCL
      have E0 := Lib.hid (show DL.getD 0 0 = (d0 : Int) by rw [eD.out]; rfl)
      have E1 := Lib.hid (show DL.getD 1 0 = (d1 : Int) by rw [eD.out]; rfl)
      have E2 := Lib.hid (show DL.getD 2 0 = (d2 : Int) by rw [eD.out]; rfl)
      have go_z : (List.replicate 3 (0 : Int)).length = 3 := rfl
      have hb0 : (w.heap.size + 1) ≠ w.heap.size := by omega
      go_wp2_with (first
        | (go_at_call_of 33 (Value.int .u64 (m : Int)); refine (tA _).mono ?_; rintro r w1 ⟨rfl, hb1⟩; have Z7 : AR .u64 54 (w1.alloc (.cells #[Value.int .u64 0, Value.int .u64 0, Value.int .u64 0] 54)) w1.heap.size (List.replicate 3 0) := heap_alloc_new w1 _; have N7 : w.heap.size + 1 < w1.heap.size := (P.below hb1 P.lt).lt; have P := (P.below hb1 P.lt).alloc (.cells #[Value.int .u64 0, Value.int .u64 0, Value.int .u64 0] 54); have R := (R.below hb1 R.lt).alloc (.cells #[Value.int .u64 0, Value.int .u64 0, Value.int .u64 0] 54); have B0 := B.trans (hb1.mono B.size); have B := B0.alloc B0.size (.cells #[Value.int .u64 0, Value.int .u64 0, Value.int .u64 0] 54); have G7 := B0.size; clear hb1)
        | (refine wpList_load_row rfl 54 (.tmp 5) rfl (w.heap.size + 1) rfl 54 _ (0, 0) _ P Try.underlying54 rfl (hsz _ lXI) ?_)
        | (refine wpList_store_row rfl 54 (.tmp 7) _ rfl w1.heap.size (CL.map (Value.int .u64)).toArray rfl rfl 54 _ Z7 (hsz _ lC) (hold _ _ go_z lC) (AR.all _ _) ?_; have Z7 := Z7.row CL; have P := P.rowOther (g' := w1.heap.size) (by omega) (CL.map (Value.int .u64)).toArray; have R := R.rowOther (g' := w1.heap.size) (by omega) (CL.map (Value.int .u64)).toArray; have B := below_row B G7 (CL.map (Value.int .u64)).toArray)
        | (go_at_call_of 33 (Value.int .u64 (q : Int)); refine (tB _).mono ?_; rintro r w2 ⟨rfl, hb1⟩; have Z8 : AR .u64 54 (w2.alloc (.cells #[Value.int .u64 0, Value.int .u64 0, Value.int .u64 0] 54)) w2.heap.size (List.replicate 3 0) := heap_alloc_new w2 _; have N8 : w1.heap.size < w2.heap.size := (Z7.below hb1 Z7.lt).lt; have Z7 := (Z7.below hb1 Z7.lt).alloc (.cells #[Value.int .u64 0, Value.int .u64 0, Value.int .u64 0] 54); have P := (P.below hb1 P.lt).alloc (.cells #[Value.int .u64 0, Value.int .u64 0, Value.int .u64 0] 54); have R := (R.below hb1 R.lt).alloc (.cells #[Value.int .u64 0, Value.int .u64 0, Value.int .u64 0] 54); have B0 := B.trans (hb1.mono B.size); have B := B0.alloc B0.size (.cells #[Value.int .u64 0, Value.int .u64 0, Value.int .u64 0] 54); have G8 := B0.size; clear hb1)
        | (refine wpList_store_row rfl 54 (.tmp 8) _ rfl w2.heap.size (DL.map (Value.int .u64)).toArray rfl rfl 54 _ Z8 (hsz _ lD) (hold _ _ go_z lD) (AR.all _ _) ?_; have Z8 := Z8.row DL; have Z7 := Z7.rowOther (g' := w2.heap.size) (by omega) (DL.map (Value.int .u64)).toArray; have P := P.rowOther (g' := w2.heap.size) (by omega) (DL.map (Value.int .u64)).toArray; have R := R.rowOther (g' := w2.heap.size) (by omega) (DL.map (Value.int .u64)).toArray; have B := below_row B G8 (DL.map (Value.int .u64)).toArray; have k0 := Z8.cell (j := 0) (by omega); have k1 := Z8.cell (j := 1) (by omega); have k2 := Z8.cell (j := 2) (by omega); rw [E0.out] at k0; rw [E1.out] at k1; rw [E2.out] at k2)
        | (refine wpList_load_row rfl 54 (.tmp 7) rfl w1.heap.size rfl 54 _ (0, 0) _ Z7 Try.underlying54 rfl (hsz _ lC) ?_)
        | (go_at_call 34; refine (aC _).mono ?_; rintro r w3' ⟨rfl, hb1⟩; have P := P.below hb1 P.lt; have R := R.below hb1 R.lt; have B := B.trans (hb1.mono B.size); clear hb1)
        | (refine wpList_store_row rfl 54 (.tmp 5) _ rfl (w.heap.size + 1) ((w3 (C + D * 4294967296)).map (Value.int .u64)).toArray rfl rfl 54 _ P (hsz _ (w3_len _)) (hold _ _ lXI (w3_len _)) (AR.all _ _) ?_; have P := P.row (w3 (C + D * 4294967296)); have R := R.rowOther (g' := w.heap.size + 1) (by omega) ((w3 (C + D * 4294967296)).map (Value.int .u64)).toArray; have B := below_row B (Nat.le_succ _) ((w3 (C + D * 4294967296)).map (Value.int .u64)).toArray))
      go_roundw
      case rel => exact ⟨i + 1, by go_num, by omega, by omega, by rw [← EW.out]; exact P, R, B⟩
      case measure => simp [intOf]; omega
    · have hin : i = n := by omega
      rw [hin, ← FF.out] at P
      clear hin
      have A9 := R.row FIN
      have B9 := below_row B (Nat.le_refl _) (FIN.map (Value.int .u64)).toArray
      go_wp2_with (first | (refine wpList_load_row rfl 54 (.tmp 5) rfl (w.heap.size + 1) rfl 54 _ (0, 0) _ P Try.underlying54 rfl (hsz _ lL) ?_) | (refine wpList_store_row rfl 54 (.tmp 4) _ rfl w.heap.size (FIN.map (Value.int .u64)).toArray rfl rfl 54 _ R (hsz _ lL) (hold _ _ rfl lL) (AR.all _ _) ?_))
      refine bodyPost_ret (v := .agg (FIN.map (Value.int .u64)).toArray) ?_ rfl ⟨rfl, B9⟩
      exact results_cell_row rfl _ _ w.heap.size 54 _ (0, 0) _ rfl A9 Try.underlying54 rfl (hsz _ lL)
end Go.Proofs.Ytadeiljhniffjaa
