/-
  For every text codicillaw01.RunesReads returns true: Valid, Bad, First and Count answer as the document's own functions do. No conditions.
-/
import Derived.Test.YtbjlckaedfnggaaRunesFirst
import Derived.Test.YtbjlckaedfnggaaRunesAlive
import Derived.ProofKit
import Derived.OpenShut
import Derived.ShutString
import Derived.SizedLaws
namespace Go.Proofs.Ytbjlckaedfnggaa.runesReads
open Go.ChangeShapes Go.WideShapes Go.ChangeAt Go.RowKit
open Go.ChangeMaps (open_string shut_string)
set_option linter.unusedVariables false

/-- one step of the document's loops -/
theorem step_no {s : ByteArray} {pos b : Nat} (hc : pos + lenL b (s.data.toList.drop pos) = lenF s.data.toList) (h : firstB (s.extract pos s.size) = false) :
    pos = lenF s.data.toList ∧ ptL (s.data.toList.drop pos) = none := by
  have hn : ptL (s.data.toList.drop pos) = none := by
    cases hp : ptL (s.data.toList.drop pos) with
    | none => rfl
    | some c =>
      rw [(first_some (s := s.extract pos s.size) (by rw [from_data]; exact hp)).2.2] at h
      cases h
  rw [lenL_none hn] at hc
  exact ⟨hc, hn⟩
theorem step_yes {s : ByteArray} {pos b : Nat} (hb : s.size ≤ pos + b) (hp : pos < s.size) (hc : pos + lenL b (s.data.toList.drop pos) = lenF s.data.toList) (h : firstB (s.extract pos s.size) = true) :
    ∃ n b' : Nat, firstN (s.extract pos s.size) = n ∧ 1 ≤ n ∧ pos + n ≤ s.size ∧ pos + n + lenL b' (s.data.toList.drop (pos + n)) = lenF s.data.toList ∧ s.size ≤ pos + n + b' ∧
      (∀ acc : Nat, acc + cntL b (s.data.toList.drop pos) = cntF s.data.toList → acc + 1 + cntL b' (s.data.toList.drop (pos + n)) = cntF s.data.toList) := by
  cases hpt : ptL (s.data.toList.drop pos) with
  | none =>
    rw [(first_none (s := s.extract pos s.size) (by rw [from_data]; exact hpt)).2.2] at h
    cases h
  | some c =>
    have hf := (first_some (s := s.extract pos s.size) (by rw [from_data]; exact hpt)).2.1
    have hd := pt_drop hpt
    rw [List.length_drop, ← Lib.size_eq] at hd
    obtain ⟨b, rfl⟩ : ∃ b', b = b' + 1 := ⟨b - 1, by omega⟩
    refine ⟨_, b, hf, by omega, by omega, ?_, by omega, ?_⟩
    · simp only [lenL, hpt] at hc
      rw [List.drop_drop] at hc
      omega
    · intro acc hn
      simp only [cntL, hpt] at hn
      rw [List.drop_drop] at hn
      omega
theorem bad_not {s : ByteArray} {pos : Nat} (hp : pos < s.size) (h : pos = lenF s.data.toList) : (pos : Int) = badI s := by
  unfold badI
  rw [if_neg (by omega)]
  omega
theorem count_not {s : ByteArray} {pos : Nat} (hp : pos < s.size) (h : pos = lenF s.data.toList) : (-1 : Int) = countI s := by
  unfold countI
  rw [if_neg (by omega)]

set_option maxHeartbeats 1000000 in
theorem refBad_any (s : ByteArray) (w : World) (hs : s.size ≤ maxLen) :
    Calls Try.prog 13 #[.string s] w fun e w' => e = .returned (.int .i64 (badI s)) ∧ Below w.heap.size w w' := by
  have hs' := hs
  unfold maxLen at hs'
  go_enter Try.func13, Try.ntmps13
  go_wp2
  go_loopw [3] (fun at_ wr => ∃ pos b : Nat, at_ = .int .i64 pos ∧ pos ≤ s.size ∧ pos + lenL b (s.data.toList.drop pos) = lenF s.data.toList ∧ s.size ≤ pos + b ∧ Below w.heap.size w wr) (fun at_ _ => s.size - (intOf at_).toNat)
  case atStart => exact ⟨0, s.size, rfl, by omega, by rw [Nat.zero_add, List.drop_zero, Lib.size_eq]; rfl, by omega, Below.refl _ _⟩
  case round =>
    obtain ⟨pos, b, rfl, hp0, hc, hb, acc⟩ := hrel
    by_cases hp : pos < s.size
    · cases hB : firstB (s.extract pos s.size) with
      | false =>
        have Hc := Lib.hid (step_no hc hB).1
        clear hc
        go_wp2_with (go_at_call 9; refine (refFirst_any _ _ (from_size hs)).mono ?_; rintro e w' ⟨rfl, hb1⟩; have acc := acc.trans (hb1.mono acc.size); clear hb1)
        go_ret
        exact ⟨ret_int (bad_not hp Hc.out), acc⟩
      | true =>
        obtain ⟨n, b', hn, n1, n2, h1, h2, _⟩ := step_yes hb hp hc hB
        have Hc := Lib.hid h1
        clear hc h1
        go_wp2_with (go_at_call 9; refine (refFirst_any _ _ (from_size hs)).mono ?_; rintro e w' ⟨rfl, hb1⟩; have acc := acc.trans (hb1.mono acc.size); clear hb1)
        go_roundw
        case rel => exact ⟨pos + n, b', by go_num, n2, Hc.out, h2, acc⟩
        case measure => simp [intOf]; omega
    · have Hc := Lib.hid hc
      clear hc
      go_wp2
      go_ret
      exact ⟨ret_int (bad_end hp Hc.out), acc⟩

theorem refValid_any (s : ByteArray) (w : World) (hs : s.size ≤ maxLen) :
    Calls Try.prog 11 #[.string s] w fun e w' => e = .returned (.bool (validB s)) ∧ Below w.heap.size w w' := by
  go_enter Try.func11, Try.ntmps11
  go_wp2_with (go_at_call 13; refine (refBad_any _ _ hs).mono ?_; rintro e w' ⟨rfl, hb⟩)
  go_ret
  exact ⟨ret_bool (bad_valid s), hb⟩

set_option maxHeartbeats 1000000 in
theorem refCount_any (s : ByteArray) (w : World) (hs : s.size ≤ maxLen) :
    Calls Try.prog 15 #[.string s] w fun e w' => e = .returned (.int .i64 (countI s)) ∧ Below w.heap.size w w' := by
  have hs' := hs
  unfold maxLen at hs'
  go_enter Try.func15, Try.ntmps15
  go_wp2
  go_loopw [3, 4] (fun k at_ wr => ∃ pos b n : Nat, at_ = .int .i64 pos ∧ k = .int .i64 n ∧ pos ≤ s.size ∧ n ≤ pos ∧ pos + lenL b (s.data.toList.drop pos) = lenF s.data.toList ∧ n + cntL b (s.data.toList.drop pos) = cntF s.data.toList ∧ s.size ≤ pos + b ∧ Below w.heap.size w wr) (fun _ at_ _ => s.size - (intOf at_).toNat)
  case atStart => exact ⟨0, s.size, 0, rfl, rfl, by omega, by omega, by rw [Nat.zero_add, List.drop_zero, Lib.size_eq]; rfl, by rw [Nat.zero_add, List.drop_zero, Lib.size_eq]; rfl, by omega, Below.refl _ _⟩
  case round =>
    obtain ⟨pos, b, k, rfl, rfl, hp0, hk, hc, hcn, hb, acc⟩ := hrel
    have Hcn := Lib.hid hcn
    clear hcn
    by_cases hp : pos < s.size
    · cases hB : firstB (s.extract pos s.size) with
      | false =>
        have Hc := Lib.hid (step_no hc hB).1
        clear hc
        go_wp2_with (go_at_call 9; refine (refFirst_any _ _ (from_size hs)).mono ?_; rintro e w' ⟨rfl, hb1⟩; have acc := acc.trans (hb1.mono acc.size); clear hb1)
        go_ret
        exact ⟨ret_int (count_not hp Hc.out), acc⟩
      | true =>
        obtain ⟨n, b', hn, n1, n2, h1, h2, h3⟩ := step_yes hb hp hc hB
        have Hc := Lib.hid h1
        have Hn := Lib.hid (h3 _ Hcn.out)
        clear hc h1 h3
        go_wp2_with (go_at_call 9; refine (refFirst_any _ _ (from_size hs)).mono ?_; rintro e w' ⟨rfl, hb1⟩; have acc := acc.trans (hb1.mono acc.size); clear hb1)
        go_roundw
        case rel => exact ⟨pos + n, b', k + 1, by go_num, by go_num, n2, by omega, Hc.out, Hn.out, h2, acc⟩
        case measure => simp [intOf]; omega
    · have Hc := Lib.hid hc
      clear hc
      go_wp2
      go_ret
      exact ⟨ret_int (cnt_end hp Hc.out Hcn.out), acc⟩

theorem walk (a0 : ByteArray) (w0 : a0.size ≤ maxLen) (z0 : a0.size ≤ reachBytes) (w : World) :
    Calls Try.prog 3 #[.string a0] w fun e w' => e = .returned (.bool true) ∧ Below w.heap.size w w' := by
  have acc : Below w.heap.size w w := Below.refl _ _
  by_cases hbig : (4096 : Int) < a0.size
  · go_enter Try.func3, Try.ntmps3
    go_wp2_with (go_at_call 7; refine (alive_any _).mono ?_; rintro e w' ⟨rfl, hb⟩; have acc := acc.trans (hb.mono acc.size); clear hb)
    go_ret
    exact ⟨rfl, acc⟩
  · have q1 : (firstR a0 == firstR a0) = true := beq_self_eq_true _
    go_enter Try.func3, Try.ntmps3
    go_wp2_with (first
      | (go_at_call 10; refine (valid_any _ _ (by assumption)).mono ?_; rintro e w' ⟨rfl, hb⟩; have acc := acc.trans (hb.mono acc.size); clear hb)
      | (go_at_call 14; refine (count_any _ _ (by assumption)).mono ?_; rintro e w' ⟨rfl, hb⟩; have acc := acc.trans (hb.mono acc.size); clear hb)
      | (go_at_call 12; refine (bad_any _ _ (by assumption)).mono ?_; rintro e w' ⟨rfl, hb⟩; have acc := acc.trans (hb.mono acc.size); clear hb)
      | (go_at_call 8; refine (first_any _ _ (by assumption)).mono ?_; rintro e w' ⟨rfl, hb⟩; have acc := acc.trans (hb.mono acc.size); clear hb)
      | (go_at_call 11; refine (refValid_any _ _ (by assumption)).mono ?_; rintro e w' ⟨rfl, hb⟩; have acc := acc.trans (hb.mono acc.size); clear hb)
      | (go_at_call 15; refine (refCount_any _ _ (by assumption)).mono ?_; rintro e w' ⟨rfl, hb⟩; have acc := acc.trans (hb.mono acc.size); clear hb)
      | (go_at_call 13; refine (refBad_any _ _ (by assumption)).mono ?_; rintro e w' ⟨rfl, hb⟩; have acc := acc.trans (hb.mono acc.size); clear hb)
      | (go_at_call 9; refine (refFirst_any _ _ (by assumption)).mono ?_; rintro e w' ⟨rfl, hb⟩; have acc := acc.trans (hb.mono acc.size); clear hb)
      | (go_at_call 7; refine (alive_any _).mono ?_; rintro e w' ⟨rfl, hb⟩; have acc := acc.trans (hb.mono acc.size); clear hb))
    go_ret
    exact ⟨rfl, acc⟩

/-! ### From the walk to the statement -/
theorem own : ownKnob Try.prog.godebug = none := by kernel_rfl
set_option maxRecDepth 100000 in
theorem lifted (os : Os) (started : os.Started) (H : Type) (enc : TypeId × Value → H) :
    ReturnsInHanded {} Try.checked os 3 .any (Rows.runesReadsSpec.pre6 enc Try.prog Try.f3 Rows.runesReadsRow.domain false) (Rows.runesReadsSpec.post enc Try.prog Try.f3 false true false false) := by
  refine returnsInHanded_of_change_sized (C := Try.checked) own started (by kernel_rfl) Try.func3
    (ChangeSpec.witness6 (enc := enc) (C := Try.checked) false ⟨#[], #[.string ByteArray.empty], []⟩ 8 (by kernel_rfl) (by kernel_rfl) (by kernel_rfl) (by kernel_rfl)) ?_
  intro W base args ds gs before hval0 hW hcnd hsz0 _
  have hval : ∀ (j : Nat) t v, Try.f3.params[j]? = some t → args[j]? = some v → Value.okWide Try.prog W .any base t v := hval0
  have hsz : (DataW.weightsEach Try.prog (Try.f3.params.toList ++ Rows.runesReadsSpec.plain.varTypes Try.prog) (ds ++ gs)).all (· ≤ reachBytes) = true := hsz0
  have hW' := hW
  obtain ⟨p, q, hA0, hV, rfl, hfz, hnd⟩ := hW
  have hA : DataW.TrodAll enc Try.prog W 0 (fun _ => true) true Try.f3.params.toList args.toList ds p := hA0
  rw [Try.params3] at hA hval hsz
  obtain ⟨v0, vs0, d0, ds0, p0, q0, hargs, rfl, rfl, h0, r0⟩ := trodAll_cons hA
  obtain ⟨rfl, rfl, rfl⟩ := trodAll_nil r0
  obtain rfl : args = #[v0] := by cases args; simp_all
  obtain ⟨rfl, rfl⟩ := trodVars_none hV
  obtain ⟨a0, rfl, rfl, rfl, w0⟩ := open_string Try.underlying9 (hval 0 9 v0 rfl rfl) h0
  have z0 : a0.size ≤ reachBytes := by
    rw [Lib.size_eq]
    exact sized_string hsz (j := 0) (t := 9) rfl rfl
  clear hA0 hval0 hsz0
  refine (walk a0 w0 z0 W).mono fun e W' ⟨he, bel⟩ => ?_
  subst he
  exact ⟨_, rfl, _, _, _, [], _, [], hW', trodAll_mk1 (shut_bool Try.underlying4 _), (trodAll_cons_mk (shut_string Try.underlying9 w0) trodAll_mk0), rfl, bel.frame _, fun h => by cases h⟩

theorem over : Rows.runesReadsRow.holds Try.pinned (OpenSpec.ofChange Rows.runesReadsSpec) :=
  OpenClaim.holds_of_wide 3 Try.f3 rfl rfl rfl rfl rfl rfl rfl ⟨rfl, rfl, rfl, rfl, rfl⟩ rfl rfl rfl rfl rfl (by kernel_rfl) Try.func3 (by kernel_rfl)
    (of_decide_eq_true (by kernel_rfl)) (by unfold Func.isWrapper; first | (rw [if_pos (by decide +kernel)]; kernel_rfl) | (rw [if_neg (by decide +kernel)]; exact ⟨rfl, rfl⟩))
    (fun os started H enc _ => lifted os started H enc)

/-- THE STATEMENT -/
theorem proved : Rows.RunesReadsSaid := over
end Go.Proofs.Ytbjlckaedfnggaa.runesReads
