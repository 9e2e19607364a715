/-
  For every two texts codicillaw01.RunesJoins returns true: two texts that are valid are valid together, with as many code points, and a text is not valid just where Bad tells. No conditions.
-/
import Derived.Test.YtbjlckaedfnggaaRunesAlive
import Derived.ProofKit
import Derived.OpenShut
import Derived.ShutString
import Derived.SizedLaws
namespace Go.Proofs.Ytbjlckaedfnggaa.runesJoins
open Go.ChangeShapes Go.WideShapes Go.ChangeAt Go.RowKit
open Go.ChangeMaps (open_string shut_string)
set_option linter.unusedVariables false

theorem app_data (s t : ByteArray) : (s ++ t).data.toList = s.data.toList ++ t.data.toList := by simp
theorem valid_iff {s : ByteArray} : validB s = true ↔ lenF s.data.toList = s.data.toList.length := by
  unfold validB
  rw [Lib.size_eq, beq_iff_eq]
theorem valid_app {s t : ByteArray} (h : validB s = true) : validB (s ++ t) = validB t := by
  have j := (join s.data.toList t.data.toList (valid_iff.1 h)).1
  rw [Bool.eq_iff_iff, valid_iff, valid_iff, app_data, j, List.length_append]
  omega
theorem count_app {s t : ByteArray} (h : validB s = true) (k : validB t = true) : countI (s ++ t) = countI s + countI t := by
  have j := join s.data.toList t.data.toList (valid_iff.1 h)
  have h3 := valid_iff.1 h
  have k3 := valid_iff.1 k
  have e1 : countI s = cntF s.data.toList := if_pos (by rw [Lib.size_eq]; exact h3)
  have e2 : countI t = cntF t.data.toList := if_pos (by rw [Lib.size_eq]; exact k3)
  have e3 : countI (s ++ t) = cntF (s ++ t).data.toList := if_pos (by rw [Lib.size_eq, app_data, j.1, k3, List.length_append])
  rw [e1, e2, e3, app_data, j.2]
  omega
theorem count_rng (s : ByteArray) : -1 ≤ countI s ∧ countI s ≤ s.size := by
  have := cntF_le s.data.toList
  rw [← Lib.size_eq] at this
  unfold countI
  split <;> omega
theorem bad_yes {s : ByteArray} (h : validB s = true) : badI s = -1 := by
  unfold badI
  rw [if_pos (by rw [Lib.size_eq]; exact valid_iff.1 h)]
theorem bad_no {s : ByteArray} (h : validB s = false) : ∃ k : Nat, badI s = k ∧ k < s.size ∧ k = lenF s.data.toList := by
  have hn : ¬ lenF s.data.toList = s.size := by
    intro e
    rw [valid_iff.2 (by rw [← Lib.size_eq]; exact e)] at h
    cases h
  have := lenF_le' s
  unfold badI
  rw [if_neg hn]
  exact ⟨_, rfl, by omega, rfl⟩
theorem cut_valid {s : ByteArray} {k : Nat} (h : k = lenF s.data.toList) : validB (s.extract 0 k) = true := by
  subst h
  have c := cut s.data.toList
  rw [valid_iff, Lib.extract_from_zero, c.1, c.2]
theorem cut_first {s : ByteArray} {k : Nat} (h : k = lenF s.data.toList) : firstB (s.extract k s.size) = false := by
  subst h
  refine (first_none ?_).2.2
  rw [from_data]
  exact pt_behind _
theorem size_app (s t : ByteArray) : (s ++ t).size = s.size + t.size := by simp

theorem walk (a0 : ByteArray) (a1 : ByteArray) (w0 : a0.size ≤ maxLen) (w1 : a1.size ≤ maxLen) (z0 : a0.size ≤ reachBytes) (z1 : a1.size ≤ reachBytes) (w : World) :
    Calls Try.prog 6 #[.string a0, .string a1] w fun e w' => e = .returned (.bool true) ∧ Below w.heap.size w w' := by
  unfold reachBytes at z0 z1
  unfold maxLen at w0 w1
  by_cases hbig : 4096 < a0.size + a1.size
  · have hb' : (4096 : Int) < (a0.size : Int) + a1.size := by omega
    go_enter Try.func6, Try.ntmps6
    go_wp2_with fail
    refine (alive_any _).mono ?_
    rintro e w1 ⟨rfl, hb1⟩
    go_wp2_with fail
    go_ret
    exact ⟨rfl, hb1⟩
  · have hb' : (a0.size : Int) + a1.size ≤ 4096 := by omega
    have hs : a0.size ≤ maxLen := by unfold maxLen; omega
    have ht : a1.size ≤ maxLen := by unfold maxLen; omega
    have hst : (a0 ++ a1).size ≤ maxLen := by rw [size_app]; unfold maxLen; omega
    have acc : Below w.heap.size w w := Below.refl _ _
    cases hv : validB a0 with
    | true =>
      have e1 : validB (a0 ++ a1) = validB a1 := valid_app hv
      have e2 := bad_yes hv
      cases hv1 : validB a1 with
      | true =>
        have e3 := count_app hv hv1
        rw [hv1] at e1
        obtain ⟨c1, c2⟩ := count_rng a0
        obtain ⟨c3, c4⟩ := count_rng a1
        have c5 : countI a0 + countI a1 ≤ 8192 := by omega
        have c6 : -2 ≤ countI a0 + countI a1 := by omega
        go_enter Try.func6, Try.ntmps6
        go_wp2_with (first
          | (go_at_call 10; refine (valid_any _ _ (by assumption)).mono ?_; rintro e w' ⟨rfl, hb⟩; have acc := acc.trans (hb.mono acc.size); clear hb)
          | (go_at_call 14; refine (count_any _ _ (by assumption)).mono ?_; rintro e w' ⟨rfl, hb⟩; have acc := acc.trans (hb.mono acc.size); clear hb)
          | (go_at_call 12; refine (bad_any _ _ (by assumption)).mono ?_; rintro e w' ⟨rfl, hb⟩; have acc := acc.trans (hb.mono acc.size); clear hb)
          | (go_at_call 8; refine (first_any _ _ (by assumption)).mono ?_; rintro e w' ⟨rfl, hb⟩; have acc := acc.trans (hb.mono acc.size); clear hb)
          | (go_at_call 7; refine (alive_any _).mono ?_; rintro e w' ⟨rfl, hb⟩; have acc := acc.trans (hb.mono acc.size); clear hb))
        go_ret
        exact ⟨rfl, acc⟩
      | false =>
        rw [hv1] at e1
        go_enter Try.func6, Try.ntmps6
        go_wp2_with (first
          | (go_at_call 10; refine (valid_any _ _ (by assumption)).mono ?_; rintro e w' ⟨rfl, hb⟩; have acc := acc.trans (hb.mono acc.size); clear hb)
          | (go_at_call 14; refine (count_any _ _ (by assumption)).mono ?_; rintro e w' ⟨rfl, hb⟩; have acc := acc.trans (hb.mono acc.size); clear hb)
          | (go_at_call 12; refine (bad_any _ _ (by assumption)).mono ?_; rintro e w' ⟨rfl, hb⟩; have acc := acc.trans (hb.mono acc.size); clear hb)
          | (go_at_call 8; refine (first_any _ _ (by assumption)).mono ?_; rintro e w' ⟨rfl, hb⟩; have acc := acc.trans (hb.mono acc.size); clear hb)
          | (go_at_call 7; refine (alive_any _).mono ?_; rintro e w' ⟨rfl, hb⟩; have acc := acc.trans (hb.mono acc.size); clear hb))
        go_ret
        exact ⟨rfl, acc⟩
    | false =>
      obtain ⟨k, e2, hk, hkl⟩ := bad_no hv
      have e3 := cut_valid hkl
      have e4 := cut_first hkl
      have hk1 : (a0.extract 0 k).size ≤ maxLen := by rw [Lib.size_eq, Lib.extract_from_zero, List.length_take]; unfold maxLen; omega
      have hk2 : (a0.extract k a0.size).size ≤ maxLen := from_size hs
      have hk3 : (k : Int) < a0.size := by omega
      clear hkl
      go_enter Try.func6, Try.ntmps6
      go_wp2_with (first
        | (go_at_call 10; refine (valid_any _ _ (by assumption)).mono ?_; rintro e w' ⟨rfl, hb⟩; have acc := acc.trans (hb.mono acc.size); clear hb)
        | (go_at_call 14; refine (count_any _ _ (by assumption)).mono ?_; rintro e w' ⟨rfl, hb⟩; have acc := acc.trans (hb.mono acc.size); clear hb)
        | (go_at_call 12; refine (bad_any _ _ (by assumption)).mono ?_; rintro e w' ⟨rfl, hb⟩; have acc := acc.trans (hb.mono acc.size); clear hb)
        | (go_at_call 8; refine (first_any _ _ (by assumption)).mono ?_; rintro e w' ⟨rfl, hb⟩; have acc := acc.trans (hb.mono acc.size); clear hb)
        | (go_at_call 7; refine (alive_any _).mono ?_; rintro e w' ⟨rfl, hb⟩; have acc := acc.trans (hb.mono acc.size); clear hb))
      go_ret
      exact ⟨rfl, acc⟩

/-! ### From the walk to the statement -/
theorem own : ownKnob Try.prog.godebug = none := by kernel_rfl
set_option maxRecDepth 100000 in
theorem lifted (os : Os) (started : os.Started) (H : Type) (enc : TypeId × Value → H) :
    ReturnsInHanded {} Try.checked os 6 .any (Rows.runesJoinsSpec.pre6 enc Try.prog Try.f6 Rows.runesJoinsRow.domain false) (Rows.runesJoinsSpec.post enc Try.prog Try.f6 false true false false) := by
  refine returnsInHanded_of_change_sized (C := Try.checked) own started (by kernel_rfl) Try.func6
    (ChangeSpec.witness6 (enc := enc) (C := Try.checked) false ⟨#[], #[.string ByteArray.empty, .string ByteArray.empty], []⟩ 8 (by kernel_rfl) (by kernel_rfl) (by kernel_rfl) (by kernel_rfl)) ?_
  intro W base args ds gs before hval0 hW hcnd hsz0 _
  have hval : ∀ (j : Nat) t v, Try.f6.params[j]? = some t → args[j]? = some v → Value.okWide Try.prog W .any base t v := hval0
  have hsz : (DataW.weightsEach Try.prog (Try.f6.params.toList ++ Rows.runesJoinsSpec.plain.varTypes Try.prog) (ds ++ gs)).all (· ≤ reachBytes) = true := hsz0
  have hW' := hW
  obtain ⟨p, q, hA0, hV, rfl, hfz, hnd⟩ := hW
  have hA : DataW.TrodAll enc Try.prog W 0 (fun _ => true) true Try.f6.params.toList args.toList ds p := hA0
  rw [Try.params6] at hA hval hsz
  obtain ⟨v0, vs0, d0, ds0, p0, q0, hargs, rfl, rfl, h0, r0⟩ := trodAll_cons hA
  obtain ⟨v1, vs1, d1, ds1, p1, q1, rfl, rfl, rfl, h1, r1⟩ := trodAll_cons r0
  obtain ⟨rfl, rfl, rfl⟩ := trodAll_nil r1
  obtain rfl : args = #[v0, v1] := by cases args; simp_all
  obtain ⟨rfl, rfl⟩ := trodVars_none hV
  obtain ⟨a0, rfl, rfl, rfl, w0⟩ := open_string Try.underlying9 (hval 0 9 v0 rfl rfl) h0
  obtain ⟨a1, rfl, rfl, rfl, w1⟩ := open_string Try.underlying9 (hval 1 9 v1 rfl rfl) h1
  have z0 : a0.size ≤ reachBytes := by
    rw [Lib.size_eq]
    exact sized_string hsz (j := 0) (t := 9) rfl rfl
  have z1 : a1.size ≤ reachBytes := by
    rw [Lib.size_eq]
    exact sized_string hsz (j := 1) (t := 9) rfl rfl
  clear hA0 hval0 hsz0
  refine (walk a0 a1 w0 w1 z0 z1 W).mono fun e W' ⟨he, bel⟩ => ?_
  subst he
  exact ⟨_, rfl, _, _, _, [], _, [], hW', trodAll_mk1 (shut_bool Try.underlying4 _), (trodAll_cons_mk (shut_string Try.underlying9 w0) (trodAll_cons_mk (shut_string Try.underlying9 w1) trodAll_mk0)), rfl, bel.frame _, fun h => by cases h⟩

theorem over : Rows.runesJoinsRow.holds Try.pinned (OpenSpec.ofChange Rows.runesJoinsSpec) :=
  OpenClaim.holds_of_wide 6 Try.f6 rfl rfl rfl rfl rfl rfl rfl ⟨rfl, rfl, rfl, rfl, rfl⟩ rfl rfl rfl rfl rfl (by kernel_rfl) Try.func6 (by kernel_rfl)
    (of_decide_eq_true (by kernel_rfl)) (by unfold Func.isWrapper; first | (rw [if_pos (by decide +kernel)]; kernel_rfl) | (rw [if_neg (by decide +kernel)]; exact ⟨rfl, rfl⟩))
    (fun os started H enc _ => lifted os started H enc)

/-- THE STATEMENT -/
theorem proved : Rows.RunesJoinsSaid := over
end Go.Proofs.Ytbjlckaedfnggaa.runesJoins
