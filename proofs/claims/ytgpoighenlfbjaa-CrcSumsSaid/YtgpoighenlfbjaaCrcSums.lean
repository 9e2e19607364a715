/-
  For every two texts, every sum and every number codicillaw04.CrcSums returns true: crc.Of, crc.More and crc.Join answer as the document's own functions do. No conditions.
-/
import Derived.Test.YtgpoighenlfbjaaCrcRef
import Derived.Test.YtgpoighenlfbjaaCrcWorks
import Derived.ProofKit
import Derived.OpenShut
import Derived.ShutString
import Derived.SizedLaws
namespace Go.Proofs.Ytgpoighenlfbjaa.crcSums
open Go.ChangeShapes Go.WideShapes Go.ChangeAt Go.RowKit
open Go.ChangeMaps (open_string shut_string)
set_option linter.unusedVariables false

set_option linter.unusedSimpArgs false in
set_option maxHeartbeats 2000000 in
theorem walk (a0 a1 : ByteArray) (a2 a3 : Int) (w0 : a0.size ≤ maxLen) (w1 : a1.size ≤ maxLen) (w2 : (Lit.int .u32 a2).wf = true) (w3 : (Lit.int .i64 a3).wf = true) (z0 : a0.size ≤ reachBytes) (z1 : a1.size ≤ reachBytes) (w : World) :
    Calls Try.prog 3 #[.string a0, .string a1, .int .u32 a2, .int .i64 a3] w fun e w' => e = .returned (.bool true) ∧ Below w.heap.size w w' := by
  unfold reachBytes at z0 z1
  have acc : Below w.heap.size w w := Below.refl _ _
  by_cases hbig : 16384 < a0.size + a1.size
  · have hb2 : (16384 : Int) < (a0.size : Int) + (a1.size : Int) := by omega
    clear w0 w1 w2 w3
    go_enter Try.func3, Try.ntmps3
    go_wp2_with (go_at_call 6; refine (works_any _).mono ?_; rintro e w' ⟨rfl, hb⟩; have acc := acc.trans (hb.mono acc.size); clear hb)
    go_ret
    exact ⟨rfl, acc⟩
  · obtain ⟨b0, b9⟩ := bounds_u32 w2
    obtain ⟨sum, hsum⟩ : ∃ s : B32, vI s = a2 := ⟨BitVec.ofNat 32 a2.toNat, by unfold vI; rw [BitVec.toNat_ofNat]; omega⟩
    subst hsum
    have cO0 := fun w => of_any a0 w w0
    have cO1 := fun w => of_any a1 w w1
    have rO0 := fun w => refOf_any a0 w w0
    have rO1 := fun w => refOf_any a1 w w1
    have cM := fun w => more_any sum a1 w w1
    have rM := fun w => refMore_any sum a1 w w1
    unfold maxLen at w0 w1
    obtain ⟨r3, r4⟩ := bounds_i64 w3
    clear w2 w3 b0 b9
    have hs : (a0.size : Int) + (a1.size : Int) ≤ 16384 := by omega
    generalize moreB 0#32 a0.data.toList = h0 at *
    generalize moreB 0#32 a1.data.toList = h1 at *
    generalize moreB sum a1.data.toList = h2 at *
    by_cases hout : a3 < 0 ∨ 1048576 < a3
    · have cJ := fun w => join_out (vI sum) (vI h1) a3 hout w
      have rJ := fun w => refJoin_out (vI sum) (vI h1) a3 hout w
      generalize vI h0 = v0 at *
      generalize vI h1 = v1 at *
      generalize vI h2 = v2 at *
      generalize vI sum = vs at *
      rcases hout with hout | hout
      all_goals
        go_enter Try.func3, Try.ntmps3
        go_wp2_with (first | (go_at_call_of 7 (Value.string a0); refine (cO0 _).mono ?_; rintro e w' ⟨rfl, hb⟩; have acc := acc.trans (hb.mono acc.size); clear hb) | (go_at_call_of 7 (Value.string a1); refine (cO1 _).mono ?_; rintro e w' ⟨rfl, hb⟩; have acc := acc.trans (hb.mono acc.size); clear hb) | (go_at_call 9; refine (cM _).mono ?_; rintro e w' ⟨rfl, hb⟩; have acc := acc.trans (hb.mono acc.size); clear hb) | (go_at_call 11; refine (cJ _).mono ?_; rintro e w' ⟨rfl, rfl⟩) | (go_at_call_of 8 (Value.string a0); refine (rO0 _).mono ?_; rintro e w' ⟨rfl, rfl⟩) | (go_at_call_of 8 (Value.string a1); refine (rO1 _).mono ?_; rintro e w' ⟨rfl, rfl⟩) | (go_at_call 10; refine (rM _).mono ?_; rintro e w' ⟨rfl, rfl⟩) | (go_at_call 12; refine (rJ _).mono ?_; rintro e w' ⟨rfl, rfl⟩) | (go_at_call 6; refine (works_any _).mono ?_; rintro e w' ⟨rfl, hb⟩; have acc := acc.trans (hb.mono acc.size); clear hb))
        go_ret
        exact ⟨rfl, acc⟩
    · obtain ⟨n, rfl⟩ := Int.eq_ofNat_of_zero_le (show 0 ≤ a3 by omega)
      by_cases hmid : 4096 < n
      · have hand : bits .and .i64 (n : Int) 4095 = ((n % 4096 : Nat) : Int) := by
          have := bits_mask .i64 63 (by decide) (fun n h0 h1 => by rw [IntKind.wrap_i64]; omega) 12 (by decide) (n : Int) (by omega) (by omega)
          rw [show ((2 : Int) ^ 12 - 1) = 4095 by decide] at this
          rw [this]
          omega
        have cJ := fun w => join_any sum h1 (n % 4096) (by omega) w
        have rJ := fun w => refJoin_any sum h1 (n % 4096) (by omega) w
        generalize n % 4096 = m at *
        generalize joinB sum h1 m = j at *
        generalize vI h0 = v0 at *
        generalize vI h1 = v1 at *
        generalize vI h2 = v2 at *
        generalize vI j = v3 at *
        generalize vI sum = vs at *
        have hmid2 : (4096 : Int) < (n : Int) := by omega
        have hmid3 : (n : Int) ≤ 1048576 := by omega
        go_enter Try.func3, Try.ntmps3
        go_wp2_with (first | (go_at_call_of 7 (Value.string a0); refine (cO0 _).mono ?_; rintro e w' ⟨rfl, hb⟩; have acc := acc.trans (hb.mono acc.size); clear hb) | (go_at_call_of 7 (Value.string a1); refine (cO1 _).mono ?_; rintro e w' ⟨rfl, hb⟩; have acc := acc.trans (hb.mono acc.size); clear hb) | (go_at_call 9; refine (cM _).mono ?_; rintro e w' ⟨rfl, hb⟩; have acc := acc.trans (hb.mono acc.size); clear hb) | (go_at_call 11; refine (cJ _).mono ?_; rintro e w' ⟨rfl, rfl⟩) | (go_at_call_of 8 (Value.string a0); refine (rO0 _).mono ?_; rintro e w' ⟨rfl, rfl⟩) | (go_at_call_of 8 (Value.string a1); refine (rO1 _).mono ?_; rintro e w' ⟨rfl, rfl⟩) | (go_at_call 10; refine (rM _).mono ?_; rintro e w' ⟨rfl, rfl⟩) | (go_at_call 12; refine (rJ _).mono ?_; rintro e w' ⟨rfl, rfl⟩) | (go_at_call 6; refine (works_any _).mono ?_; rintro e w' ⟨rfl, hb⟩; have acc := acc.trans (hb.mono acc.size); clear hb))
        go_ret
        exact ⟨rfl, acc⟩
      · have cJ := fun w => join_any sum h1 n (by omega) w
        have rJ := fun w => refJoin_any sum h1 n (by omega) w
        generalize joinB sum h1 n = j at *
        generalize vI h0 = v0 at *
        generalize vI h1 = v1 at *
        generalize vI h2 = v2 at *
        generalize vI j = v3 at *
        generalize vI sum = vs at *
        have hmid2 : (n : Int) ≤ 4096 := by omega
        go_enter Try.func3, Try.ntmps3
        go_wp2_with (first | (go_at_call_of 7 (Value.string a0); refine (cO0 _).mono ?_; rintro e w' ⟨rfl, hb⟩; have acc := acc.trans (hb.mono acc.size); clear hb) | (go_at_call_of 7 (Value.string a1); refine (cO1 _).mono ?_; rintro e w' ⟨rfl, hb⟩; have acc := acc.trans (hb.mono acc.size); clear hb) | (go_at_call 9; refine (cM _).mono ?_; rintro e w' ⟨rfl, hb⟩; have acc := acc.trans (hb.mono acc.size); clear hb) | (go_at_call 11; refine (cJ _).mono ?_; rintro e w' ⟨rfl, rfl⟩) | (go_at_call_of 8 (Value.string a0); refine (rO0 _).mono ?_; rintro e w' ⟨rfl, rfl⟩) | (go_at_call_of 8 (Value.string a1); refine (rO1 _).mono ?_; rintro e w' ⟨rfl, rfl⟩) | (go_at_call 10; refine (rM _).mono ?_; rintro e w' ⟨rfl, rfl⟩) | (go_at_call 12; refine (rJ _).mono ?_; rintro e w' ⟨rfl, rfl⟩) | (go_at_call 6; refine (works_any _).mono ?_; rintro e w' ⟨rfl, hb⟩; have acc := acc.trans (hb.mono acc.size); clear hb))
        go_ret
        exact ⟨rfl, acc⟩

/-! ### From the walk to the statement -/
theorem own : ownKnob Try.prog.godebug = none := by kernel_rfl
set_option maxRecDepth 100000 in
theorem lifted (os : Os) (started : os.Started) (H : Type) (enc : TypeId × Value → H) :
    ReturnsInHanded {} Try.checked os 3 .any (Rows.crcSumsSpec.pre6 enc Try.prog Try.f3 Rows.crcSumsRow.domain false) (Rows.crcSumsSpec.post enc Try.prog Try.f3 false true false false) := by
  refine returnsInHanded_of_change_sized (C := Try.checked) own started (by kernel_rfl) Try.func3
    (ChangeSpec.witness6 (enc := enc) (C := Try.checked) false ⟨#[], #[.string ByteArray.empty, .string ByteArray.empty, .int .u32 0, .int .i64 0], []⟩ 8 (by kernel_rfl) (by kernel_rfl) (by kernel_rfl) (by kernel_rfl)) ?_
  intro W base args ds gs before hval0 hW hcnd hsz0 _
  have hval : ∀ (j : Nat) t v, Try.f3.params[j]? = some t → args[j]? = some v → Value.okWide Try.prog W .any base t v := hval0
  have hsz : (DataW.weightsEach Try.prog (Try.f3.params.toList ++ Rows.crcSumsSpec.plain.varTypes Try.prog) (ds ++ gs)).all (· ≤ reachBytes) = true := hsz0
  have hW' := hW
  obtain ⟨p, q, hA0, hV, rfl, hfz, hnd⟩ := hW
  have hA : DataW.TrodAll enc Try.prog W 0 (fun _ => true) true Try.f3.params.toList args.toList ds p := hA0
  rw [Try.params3] at hA hval hsz
  obtain ⟨v0, vs0, d0, ds0, p0, q0, hargs, rfl, rfl, h0, r0⟩ := trodAll_cons hA
  obtain ⟨v1, vs1, d1, ds1, p1, q1, rfl, rfl, rfl, h1, r1⟩ := trodAll_cons r0
  obtain ⟨v2, vs2, d2, ds2, p2, q2, rfl, rfl, rfl, h2, r2⟩ := trodAll_cons r1
  obtain ⟨v3, vs3, d3, ds3, p3, q3, rfl, rfl, rfl, h3, r3⟩ := trodAll_cons r2
  obtain ⟨rfl, rfl, rfl⟩ := trodAll_nil r3
  obtain rfl : args = #[v0, v1, v2, v3] := by cases args; simp_all
  obtain ⟨rfl, rfl⟩ := trodVars_none hV
  obtain ⟨a0, rfl, rfl, rfl, w0⟩ := open_string Try.underlying9 (hval 0 9 v0 rfl rfl) h0
  obtain ⟨a1, rfl, rfl, rfl, w1⟩ := open_string Try.underlying9 (hval 1 9 v1 rfl rfl) h1
  obtain ⟨a2, rfl, rfl, rfl, w2⟩ := open_int Try.underlying22 (hval 2 22 v2 rfl rfl) h2
  obtain ⟨a3, rfl, rfl, rfl, w3⟩ := open_int Try.underlying3 (hval 3 3 v3 rfl rfl) h3
  have z0 : a0.size ≤ reachBytes := by
    rw [Lib.size_eq]
    exact sized_string hsz (j := 0) (t := 9) rfl rfl
  have z1 : a1.size ≤ reachBytes := by
    rw [Lib.size_eq]
    exact sized_string hsz (j := 1) (t := 9) rfl rfl
  clear hA0 hval0 hsz0
  refine (walk a0 a1 a2 a3 w0 w1 w2 w3 z0 z1 W).mono fun e W' ⟨he, bel⟩ => ?_
  subst he
  exact ⟨_, rfl, _, _, _, [], _, [], hW', trodAll_mk1 (shut_bool Try.underlying4 _), (trodAll_cons_mk (shut_string Try.underlying9 w0) (trodAll_cons_mk (shut_string Try.underlying9 w1) (trodAll_cons_mk (shut_int Try.underlying22 w2) (trodAll_cons_mk (shut_int Try.underlying3 w3) trodAll_mk0)))), rfl, bel.frame _, fun h => by cases h⟩

theorem over : Rows.crcSumsRow.holds Try.pinned (OpenSpec.ofChange Rows.crcSumsSpec) :=
  OpenClaim.holds_of_wide 3 Try.f3 rfl rfl rfl rfl rfl rfl rfl ⟨rfl, rfl, rfl, rfl, rfl⟩ rfl rfl rfl rfl rfl (by kernel_rfl) Try.func3 (by kernel_rfl)
    (of_decide_eq_true (by kernel_rfl)) (by unfold Func.isWrapper; first | (rw [if_pos (by decide +kernel)]; kernel_rfl) | (rw [if_neg (by decide +kernel)]; exact ⟨rfl, rfl⟩))
    (fun os started H enc _ => lifted os started H enc)

/-- THE STATEMENT -/
theorem proved : Rows.CrcSumsSaid := over

end Go.Proofs.Ytgpoighenlfbjaa.crcSums
