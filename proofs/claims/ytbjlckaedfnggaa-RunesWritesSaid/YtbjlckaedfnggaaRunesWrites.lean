/-
  For every two numbers and every text codicillaw01.RunesWrites returns true: Bytes, Pair, Halves and Hex answer as the document's own functions do. No conditions.
-/
import Derived.Test.YtbjlckaedfnggaaRunesRef
import Derived.Test.YtbjlckaedfnggaaRunesAlive
import Derived.ProofKit
import Derived.OpenShut
import Derived.ShutString
import Derived.SizedLaws
namespace Go.Proofs.Ytbjlckaedfnggaa.runesWrites
open Go.ChangeShapes Go.WideShapes Go.ChangeAt Go.RowKit
open Go.ChangeMaps (open_string shut_string)
set_option linter.unusedVariables false

theorem refPair_any (a b : Int) (w : World) :
    Calls Try.prog 17 #[.int .i32 a, .int .i32 b] w fun e w' => e = .returned (.tuple #[.int .i32 (pairR a b), .bool (pairB a b)]) ∧ w = w' := by
  have no : pairB a b = false → Ending.returned (.tuple #[.int .i32 0, .bool false]) = .returned (.tuple #[.int .i32 (pairR a b), .bool (pairB a b)]) := ret_pair_no
  have hp : pairB a b = decide ((55296 ≤ a ∧ a < 56320) ∧ 56320 ≤ b ∧ b ≤ 57343) := by
    unfold pairB highB lowB
    rw [Bool.eq_iff_iff, Bool.and_eq_true, decide_eq_true_iff, decide_eq_true_iff, decide_eq_true_iff]
  have Hp := Lib.hid hp
  have No := Lib.hid no
  clear hp no
  by_cases h1 : 55296 ≤ a
  · by_cases h2 : a ≤ 56319
    · by_cases h3 : 56320 ≤ b
      · by_cases h4 : b ≤ 57343
        · go_enter Try.func17, Try.ntmps17
          go_wp2
          go_ret2
          have hy : pairB a b = true := by rw [Hp.out]; exact decide_eq_true (by omega)
          have hr : pairR a b = 65536 + 1024 * (a - 55296) + b - 56320 := by unfold pairR; rw [if_pos hy]; omega
          refine ⟨?_, rfl⟩
          rw [hy, hr]
          rfl
        · go_enter Try.func17, Try.ntmps17
          go_wp2
          go_ret2
          exact ⟨No.out (by rw [Hp.out]; exact decide_eq_false (by omega)), rfl⟩
      · go_enter Try.func17, Try.ntmps17
        go_wp2
        go_ret2
        exact ⟨No.out (by rw [Hp.out]; exact decide_eq_false (by omega)), rfl⟩
    · go_enter Try.func17, Try.ntmps17
      go_wp2
      go_ret2
      exact ⟨No.out (by rw [Hp.out]; exact decide_eq_false (by omega)), rfl⟩
  · go_enter Try.func17, Try.ntmps17
    go_wp2
    go_ret2
    exact ⟨No.out (by rw [Hp.out]; exact decide_eq_false (by omega)), rfl⟩

theorem refHalves_any (r : Int) (w : World) :
    Calls Try.prog 19 #[.int .i32 r] w fun e w' => e = .returned (.tuple #[.int .i32 (halfH r), .int .i32 (halfL r), .bool (halfB r)]) ∧ w = w' := by
  by_cases h1 : 65536 ≤ r
  · by_cases h2 : r ≤ 1114111
    · go_enter Try.func19, Try.ntmps19
      go_wp2
      go_ret3
      exact ⟨ret_half_yes (decide_eq_true ⟨h1, h2⟩), rfl⟩
    · go_enter Try.func19, Try.ntmps19
      go_wp2
      go_ret3
      exact ⟨ret_half_no (decide_eq_false (by omega)), rfl⟩
  · have h2 : r ≤ 1114111 := by omega
    go_enter Try.func19, Try.ntmps19
    go_wp2
    go_ret3
    exact ⟨ret_half_no (decide_eq_false (by omega)), rfl⟩

def digI (c : Int) : Int := (digV c).getD (-1)
theorem ret_digI {c d : Int} (h : digV c = some d) : Ending.returned (.int .i32 d) = .returned (.int .i32 (digI c)) := by
  unfold digI
  rw [h]
  rfl
theorem ret_digI_no {c : Int} (h : digV c = none) : Ending.returned (.int .i32 (-1)) = .returned (.int .i32 (digI c)) := by
  unfold digI
  rw [h]
  rfl
theorem refDigit_any (c : Int) (w : World) (b0 : 0 ≤ c) (b1 : c < 256) :
    Calls Try.prog 28 #[.int .u8 c] w fun e w' => e = .returned (.int .i32 (digI c)) ∧ w = w' := by
  by_cases h1 : 48 ≤ c
  · by_cases h2 : c ≤ 57
    · go_enter Try.func28, Try.ntmps28
      go_wp2
      go_ret
      exact ⟨ret_digI (by unfold digV; rw [if_pos ⟨h1, h2⟩]), rfl⟩
    · by_cases h3 : 97 ≤ c
      · by_cases h4 : c ≤ 102
        · go_enter Try.func28, Try.ntmps28
          go_wp2
          go_ret
          exact ⟨ret_digI (by unfold digV; rw [if_neg (by omega), if_pos ⟨h3, h4⟩]), rfl⟩
        · have h6 : ¬ c ≤ 70 := by omega
          have h5 : 65 ≤ c := by omega
          go_enter Try.func28, Try.ntmps28
          go_wp2
          go_ret
          exact ⟨ret_digI_no (by unfold digV; rw [if_neg (by omega), if_neg (by omega), if_neg (by omega)]), rfl⟩
      · by_cases h5 : 65 ≤ c
        · by_cases h6 : c ≤ 70
          · go_enter Try.func28, Try.ntmps28
            go_wp2
            go_ret
            exact ⟨ret_digI (by unfold digV; rw [if_neg (by omega), if_neg (by omega), if_pos ⟨h5, h6⟩]), rfl⟩
          · go_enter Try.func28, Try.ntmps28
            go_wp2
            go_ret
            exact ⟨ret_digI_no (by unfold digV; rw [if_neg (by omega), if_neg (by omega), if_neg (by omega)]), rfl⟩
        · go_enter Try.func28, Try.ntmps28
          go_wp2
          go_ret
          exact ⟨ret_digI_no (by unfold digV; rw [if_neg (by omega), if_neg (by omega), if_neg (by omega)]), rfl⟩
  · have h3 : ¬ 97 ≤ c := by omega
    have h5 : ¬ 65 ≤ c := by omega
    go_enter Try.func28, Try.ntmps28
    go_wp2
    go_ret
    exact ⟨ret_digI_no (by unfold digV; rw [if_neg (by omega), if_neg (by omega), if_neg (by omega)]), rfl⟩

theorem hexO_eq {s : ByteArray} (h : 4 ≤ s.size) : hexO s = hexF 0 (s.data.toList.take 4) := by
  unfold hexO
  rw [if_neg (by omega)]
theorem hex_at {s : ByteArray} {i : Nat} (h4 : 4 ≤ s.size) (hi : i < 4) (acc : Int) : ∃ hs : i < s.size, (∀ d, digV ((s[i]'hs).toNat : Nat) = some d → hexF acc ((s.data.toList.take 4).drop i) = hexF (acc * 16 + d) ((s.data.toList.take 4).drop (i + 1))) ∧
    (digV ((s[i]'hs).toNat : Nat) = none → hexF acc ((s.data.toList.take 4).drop i) = none) := by
  have hs : i < s.size := by omega
  have hc : (s.data.toList.take 4).drop i = s[i] :: (s.data.toList.take 4).drop (i + 1) := by
    rw [List.drop_eq_getElem_cons (by rw [List.length_take, ← Lib.size_eq]; omega)]
    rw [List.getElem_take]
    rfl
  refine ⟨hs, ?_, ?_⟩
  · intro d hd
    rw [hc]
    simp only [hexF, hd]
  · intro hd
    rw [hc]
    simp only [hexF, hd]

set_option maxHeartbeats 1000000 in
theorem refHex_any (s : ByteArray) (w : World) (hs : s.size ≤ maxLen) :
    Calls Try.prog 21 #[.string s] w fun e w' => e = .returned (.tuple #[.int .i32 (hexR s), .bool (hexB s)]) ∧ w = w' := by
  unfold maxLen at hs
  by_cases h4 : (s.size : Int) < 4
  · go_enter Try.func21, Try.ntmps21
    go_wp2
    go_ret2
    exact ⟨ret_hex_no (hex_short (by omega)), rfl⟩
  · have h4' : 4 ≤ s.size := by omega
    have Hx := Lib.hid (hexO_eq h4')
    go_enter Try.func21, Try.ntmps21
    go_wp2
    go_loop [4, 5] (fun r i => ∃ (k : Nat) (acc : Int), i = .int .i64 k ∧ r = .int .i32 acc ∧ k ≤ 4 ∧ 0 ≤ acc ∧ acc < hexTop k ∧ hexF acc ((s.data.toList.take 4).drop k) = hexO s) (fun _ i => 4 - (intOf i).toNat)
    case atStart => exact ⟨0, 0, rfl, rfl, by omega, by omega, by simp [hexTop], by rw [Hx.out]; rfl⟩
    case round =>
      obtain ⟨k, acc, rfl, rfl, k4, ha0, ha, hf⟩ := hrel
      by_cases hk : k < 4
      · obtain ⟨hks, hst1, hst2⟩ := hex_at h4' hk acc
        have bk := by_get hks
        rw [bk] at hst1 hst2
        have Bk := byI_bd s k
        cases hd : digV (byI s k) with
        | none =>
          have hI : digI (byI s k) = -1 := by unfold digI; rw [hd]; rfl
          rw [hst2 hd] at hf
          have Hf := Lib.hid hf
          clear hf hd hst1 hst2
          go_wp2_with (go_at_call 28; refine (refDigit_any _ _ Bk.1 Bk.2).mono ?_; rintro e w' ⟨rfl, rfl⟩)
          go_ret2
          exact ⟨ret_hex_no Hf.out.symm, rfl⟩
        | some d =>
          have hI : digI (byI s k) = d := by unfold digI; rw [hd]; rfl
          have hd0 := (digV_range hd).1
          have hd1 := (digV_range hd).2.1
          obtain ⟨ht1, ht2⟩ := hexTop_on hk ha0 ha hd0 hd1
          rw [hst1 d hd] at hf
          have Hf := Lib.hid hf
          clear hf hd hst1 hst2 ha
          go_wp2_with (go_at_call 28; refine (refDigit_any _ _ Bk.1 Bk.2).mono ?_; rintro e w' ⟨rfl, rfl⟩)
          go_round
          case rel => exact ⟨k + 1, acc * 16 + d, by go_num, by rw [Int.mul_comm], by omega, by omega, ht2, Hf.out⟩
          case measure => simp [intOf]; omega
      · obtain rfl : k = 4 := by omega
        have Hf := Lib.hid hf
        clear hf
        go_wp2
        go_ret2
        refine ⟨ret_hex ?_, rfl⟩
        rw [← Hf.out, List.drop_eq_nil_of_le (by rw [List.length_take]; omega)]
        rfl

theorem walk (a0 : Int) (a1 : Int) (a2 : ByteArray) (w0 : (Lit.int .i32 a0).wf = true) (w1 : (Lit.int .i32 a1).wf = true) (w2 : a2.size ≤ maxLen) (z2 : a2.size ≤ reachBytes) (w : World) :
    Calls Try.prog 4 #[.int .i32 a0, .int .i32 a1, .string a2] w fun e w' => e = .returned (.bool true) ∧ Below w.heap.size w w' := by
  have acc : Below w.heap.size w w := Below.refl _ _
  by_cases hbig : (4096 : Int) < a2.size
  · go_enter Try.func4, Try.ntmps4
    go_wp2_with (go_at_call 7; refine (alive_any _).mono ?_; rintro e w' ⟨rfl, hb⟩; have acc := acc.trans (hb.mono acc.size); clear hb)
    go_ret
    exact ⟨rfl, acc⟩
  · go_enter Try.func4, Try.ntmps4
    go_wp2_with (first
      | (go_at_call 16; refine (pair_any _ _ _).mono ?_; rintro e w' ⟨rfl, rfl⟩)
      | (go_at_call 17; refine (refPair_any _ _ _).mono ?_; rintro e w' ⟨rfl, rfl⟩)
      | (go_at_call 18; refine (halves_any _ _).mono ?_; rintro e w' ⟨rfl, rfl⟩)
      | (go_at_call 19; refine (refHalves_any _ _).mono ?_; rintro e w' ⟨rfl, rfl⟩)
      | (go_at_call 20; refine (hex_any _ _ (by assumption)).mono ?_; rintro e w' ⟨rfl, hb⟩; have acc := acc.trans (hb.mono acc.size); clear hb)
      | (go_at_call 21; refine (refHex_any _ _ (by assumption)).mono ?_; rintro e w' ⟨rfl, rfl⟩)
      | (go_at_call 22; refine (bytes_any _ _).mono ?_; rintro e w' ⟨rfl, rfl⟩)
      | (go_at_call 23; refine (refBytes_any _ _).mono ?_; rintro e w' ⟨rfl, hb⟩; have acc := acc.trans (hb.mono acc.size); clear hb)
      | (go_at_call 7; refine (alive_any _).mono ?_; rintro e w' ⟨rfl, hb⟩; have acc := acc.trans (hb.mono acc.size); clear hb))
    go_ret
    exact ⟨rfl, acc⟩

/-! ### From the walk to the statement -/
theorem own : ownKnob Try.prog.godebug = none := by kernel_rfl
set_option maxRecDepth 100000 in
theorem lifted (os : Os) (started : os.Started) (H : Type) (enc : TypeId × Value → H) :
    ReturnsInHanded {} Try.checked os 4 .any (Rows.runesWritesSpec.pre6 enc Try.prog Try.f4 Rows.runesWritesRow.domain false) (Rows.runesWritesSpec.post enc Try.prog Try.f4 false true false false) := by
  refine returnsInHanded_of_change_sized (C := Try.checked) own started (by kernel_rfl) Try.func4
    (ChangeSpec.witness6 (enc := enc) (C := Try.checked) false ⟨#[], #[.int .i32 0, .int .i32 0, .string ByteArray.empty], []⟩ 8 (by kernel_rfl) (by kernel_rfl) (by kernel_rfl) (by kernel_rfl)) ?_
  intro W base args ds gs before hval0 hW hcnd hsz0 _
  have hval : ∀ (j : Nat) t v, Try.f4.params[j]? = some t → args[j]? = some v → Value.okWide Try.prog W .any base t v := hval0
  have hsz : (DataW.weightsEach Try.prog (Try.f4.params.toList ++ Rows.runesWritesSpec.plain.varTypes Try.prog) (ds ++ gs)).all (· ≤ reachBytes) = true := hsz0
  have hW' := hW
  obtain ⟨p, q, hA0, hV, rfl, hfz, hnd⟩ := hW
  have hA : DataW.TrodAll enc Try.prog W 0 (fun _ => true) true Try.f4.params.toList args.toList ds p := hA0
  rw [Try.params4] at hA hval hsz
  obtain ⟨v0, vs0, d0, ds0, p0, q0, hargs, rfl, rfl, h0, r0⟩ := trodAll_cons hA
  obtain ⟨v1, vs1, d1, ds1, p1, q1, rfl, rfl, rfl, h1, r1⟩ := trodAll_cons r0
  obtain ⟨v2, vs2, d2, ds2, p2, q2, rfl, rfl, rfl, h2, r2⟩ := trodAll_cons r1
  obtain ⟨rfl, rfl, rfl⟩ := trodAll_nil r2
  obtain rfl : args = #[v0, v1, v2] := by cases args; simp_all
  obtain ⟨rfl, rfl⟩ := trodVars_none hV
  obtain ⟨a0, rfl, rfl, rfl, w0⟩ := open_int Try.underlying21 (hval 0 21 v0 rfl rfl) h0
  obtain ⟨a1, rfl, rfl, rfl, w1⟩ := open_int Try.underlying21 (hval 1 21 v1 rfl rfl) h1
  obtain ⟨a2, rfl, rfl, rfl, w2⟩ := open_string Try.underlying9 (hval 2 9 v2 rfl rfl) h2
  have z2 : a2.size ≤ reachBytes := by
    rw [Lib.size_eq]
    exact sized_string hsz (j := 2) (t := 9) rfl rfl
  clear hA0 hval0 hsz0
  refine (walk a0 a1 a2 w0 w1 w2 z2 W).mono fun e W' ⟨he, bel⟩ => ?_
  subst he
  exact ⟨_, rfl, _, _, _, [], _, [], hW', trodAll_mk1 (shut_bool Try.underlying4 _), (trodAll_cons_mk (shut_int Try.underlying21 w0) (trodAll_cons_mk (shut_int Try.underlying21 w1) (trodAll_cons_mk (shut_string Try.underlying9 w2) trodAll_mk0))), rfl, bel.frame _, fun h => by cases h⟩

theorem over : Rows.runesWritesRow.holds Try.pinned (OpenSpec.ofChange Rows.runesWritesSpec) :=
  OpenClaim.holds_of_wide 4 Try.f4 rfl rfl rfl rfl rfl rfl rfl ⟨rfl, rfl, rfl, rfl, rfl⟩ rfl rfl rfl rfl rfl (by kernel_rfl) Try.func4 (by kernel_rfl)
    (of_decide_eq_true (by kernel_rfl)) (by unfold Func.isWrapper; first | (rw [if_pos (by decide +kernel)]; kernel_rfl) | (rw [if_neg (by decide +kernel)]; exact ⟨rfl, rfl⟩))
    (fun os started H enc _ => lifted os started H enc)

/-- THE STATEMENT -/
theorem proved : Rows.RunesWritesSaid := over
end Go.Proofs.Ytbjlckaedfnggaa.runesWrites
