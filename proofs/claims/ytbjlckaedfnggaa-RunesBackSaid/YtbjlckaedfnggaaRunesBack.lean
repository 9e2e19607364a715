/-
  For every two numbers codicillaw01.RunesBack returns true: code points and their bytes are each other's, no bytes of one stand within those of another one, and halves are those that they are together. No conditions.
-/
import Derived.Test.YtbjlckaedfnggaaRunesAlive
import Derived.ProofKit
import Derived.OpenShut
import Derived.ShutString
import Derived.SizedLaws
namespace Go.Proofs.Ytbjlckaedfnggaa.runesBack
open Go.ChangeShapes Go.WideShapes Go.ChangeAt Go.RowKit
open Go.ChangeMaps (open_string shut_string)
set_option linter.unusedVariables false

theorem app_data (s t : ByteArray) : (s ++ t).data.toList = s.data.toList ++ t.data.toList := by simp
theorem size_app (s t : ByteArray) : (s ++ t).size = s.size + t.size := by simp
theorem valid_iff {s : ByteArray} : validB s = true ↔ lenF s.data.toList = s.data.toList.length := by
  unfold validB
  rw [Lib.size_eq, beq_iff_eq]

theorem drop_nil_ne (k : Nat) {b : UInt8} {t : List UInt8} : ¬ List.drop k ([] : List UInt8) = b :: t := by
  rw [List.drop_nil]
  intro e
  cases e
theorem enc_tail (c : Nat) (hv : validRune c = true) : (∀ b t, encL c = b :: t → b.toNat < 128 ∨ 192 ≤ b.toNat) ∧ ∀ k, 0 < k → ∀ b t, (encL c).drop k = b :: t → 128 ≤ b.toNat ∧ b.toNat < 192 := by
  have hb := vr_lt hv
  have n1 := ofNat_toNat' (128 + c % 64) (by omega)
  have n2 := ofNat_toNat' (128 + c / 64 % 64) (by omega)
  have n3 := ofNat_toNat' (128 + c / 4096 % 64) (by omega)
  by_cases h1 : c < 128
  · rw [enc1 c h1]
    have n0 := ofNat_toNat' c (by omega)
    constructor
    · intro b t e
      injection e with e _
      rw [← e]; omega
    · intro k hk b t e
      rcases k with _ | k
      · omega
      · exact absurd e (drop_nil_ne k)
  · by_cases h2 : c < 2048
    · rw [enc2 c (by omega) h2]
      have n0 := ofNat_toNat' (192 + c / 64) (by omega)
      constructor
      · intro b t e
        injection e with e _
        rw [← e]; omega
      · intro k hk b t e
        rcases k with _ | _ | k
        · omega
        · injection e with e _
          rw [← e]; omega
        · exact absurd e (drop_nil_ne k)
    · by_cases h3 : c < 65536
      · rw [enc3 c (by omega) h3 hv]
        have n0 := ofNat_toNat' (224 + c / 4096) (by omega)
        constructor
        · intro b t e
          injection e with e _
          rw [← e]; omega
        · intro k hk b t e
          rcases k with _ | _ | _ | k
          · omega
          · injection e with e _
            rw [← e]; omega
          · injection e with e _
            rw [← e]; omega
          · exact absurd e (drop_nil_ne k)
      · rw [enc4 c (by omega) hv]
        have n0 := ofNat_toNat' (240 + c / 262144) (by omega)
        constructor
        · intro b t e
          injection e with e _
          rw [← e]; omega
        · intro k hk b t e
          rcases k with _ | _ | _ | _ | k
          · omega
          · injection e with e _
            rw [← e]; omega
          · injection e with e _
            rw [← e]; omega
          · injection e with e _
            rw [← e]; omega
          · exact absurd e (drop_nil_ne k)

theorem inside_none (c : Nat) (hv : validRune c = true) (k : Nat) (h0 : 0 < k) (hk : k < (encL c).length) (t : List UInt8) : ptL ((encL c).drop k ++ t) = none := by
  cases hp : ptL ((encL c).drop k ++ t) with
  | none => rfl
  | some d =>
    exfalso
    obtain ⟨hd, u, e⟩ := pt_some hp
    have hl := enc_pos d hd
    rcases e1 : (encL c).drop k with _ | ⟨b, v⟩
    · have := congrArg List.length e1
      rw [List.length_drop] at this
      simp only [List.length_nil] at this
      omega
    · have hb := (enc_tail c hv).2 k h0 b v e1
      rcases e2 : encL d with _ | ⟨b', v'⟩
      · rw [e2] at hl
        simp only [List.length_nil] at hl
        omega
      · have hb' := (enc_tail d hd).1 b' v' e2
        rw [e1, e2] at e
        injection e with e _
        rw [e] at hb
        omega
theorem front_none (c : Nat) (hv : validRune c = true) (k : Nat) (hk : k < (encL c).length) : ptL ((encL c).take k) = none := by
  cases hp : ptL ((encL c).take k) with
  | none => rfl
  | some d =>
    exfalso
    obtain ⟨hd, u, e⟩ := pt_some hp
    have h1 : encL c = encL d ++ (u ++ (encL c).drop k) := by
      rw [← List.append_assoc, ← e, List.take_append_drop]
    have h2 := dec_enc c hv []
    rw [List.append_nil, h1, dec_enc d hd] at h2
    injection h2 with h3 _
    subst h3
    have := congrArg List.length e
    rw [List.length_take, List.length_append] at this
    omega

theorem bytes_enc {c : Nat} (h : pointB c = true) : (bytesS c).data.toList = encL c := by
  have e := bytesS_yes h
  have e2 : (Utf8.encode (c : Int)).data.toList = encL c := by rw [encL]
  rw [← e2, e]
theorem rune_ge {a : Int} (h : validRune a = true) : 0 ≤ a := by
  unfold validRune at h
  have := of_decide_eq_true h
  omega
theorem point_nat {a : Int} (h : pointB a = true) : ∃ c : Nat, a = c ∧ validRune c = true ∧ (bytesS a).data.toList = encL c := by
  have hv : validRune a = true := by unfold pointB at h; exact h
  obtain ⟨c, rfl⟩ := Int.eq_ofNat_of_zero_le (rune_ge hv)
  exact ⟨c, rfl, hv, bytes_enc h⟩

/-- what a code point's bytes are, whatever stands behind them -/
theorem point_facts {a : Int} (h : pointB a = true) : 1 ≤ (bytesS a).size ∧ (bytesS a).size ≤ 4 ∧
    (∀ t : ByteArray, firstR (bytesS a ++ t) = a ∧ firstN (bytesS a ++ t) = (bytesS a).size ∧ firstB (bytesS a ++ t) = true) ∧
    (∀ t : ByteArray, validB t = true → validB (bytesS a ++ t) = true) ∧
    (∀ (t : ByteArray) (k : Nat), 0 < k → k < (bytesS a).size → firstB ((bytesS a).extract k (bytesS a).size ++ t) = false ∧ validB ((bytesS a).extract 0 k) = false) := by
  obtain ⟨c, rfl, hv, e⟩ := point_nat h
  have hl := enc_pos c hv
  have hz : (bytesS c).size = (encL c).length := by rw [Lib.size_eq, e]
  refine ⟨by omega, by omega, ?_, ?_, ?_⟩
  · intro t
    have := first_some (s := bytesS c ++ t) (c := c) (by rw [app_data, e]; exact pt_enc c hv _)
    rw [hz]
    exact this
  · intro t ht
    have hp : ptL (bytesS c ++ t).data.toList = some c := by rw [app_data, e]; exact pt_enc c hv _
    rw [valid_iff, (lenF_some hp).1, app_data, e, List.drop_left, valid_iff.1 ht, List.length_append]
  · intro t k h0 hk
    constructor
    · refine (first_none ?_).2.2
      rw [app_data, from_data, e]
      exact inside_none c hv k h0 (by omega) _
    · have hn : lenF ((bytesS c).extract 0 k).data.toList = 0 := by
        rw [Lib.extract_from_zero, e]
        exact (lenF_none (front_none c hv k (by omega))).1
      unfold validB
      rw [hn, Lib.size_eq, Lib.extract_from_zero, e, List.length_take, beq_eq_false_iff_ne]
      omega
theorem app_nil (s : ByteArray) : s ++ ⟨#[]⟩ = s := by
  apply ByteArray.ext
  apply Array.ext'
  rw [app_data]
  simp
theorem valid_bytes (b : Int) : validB (bytesS b) = true := by
  cases h : pointB b with
  | true =>
    have := (point_facts h).2.2.2.1 ⟨#[]⟩ (by kernel_rfl)
    rwa [app_nil] at this
  | false =>
    rw [← bytesS_no h]
    kernel_rfl
theorem bytes_small (b : Int) : (bytesS b).size ≤ 4 := by
  cases h : pointB b with
  | true => exact (point_facts h).2.1
  | false =>
    rw [← bytesS_no h]
    exact Nat.zero_le 4
theorem ne_yes {s : ByteArray} (h : 1 ≤ s.size) : s.toList.isEmpty = false ∧ (s.toList == []) = false := by
  rw [Lib.toList_data]
  rw [Lib.size_eq] at h
  rcases e : s.data.toList with _ | ⟨b, t⟩
  · rw [e] at h
    simp only [List.length_nil] at h
    omega
  · exact ⟨rfl, rfl⟩

theorem half_facts {a : Int} (h : halfB a = true) : pairR (halfH a) (halfL a) = a ∧ pairB (halfH a) (halfL a) = true ∧ bytesS (halfH a) = ⟨#[]⟩ ∧ bytesS (halfL a) = ⟨#[]⟩ ∧ pointB a = true := by
  have hr := of_decide_eq_true h
  have e1 : halfH a = 55296 + (a - 65536) / 1024 := if_pos h
  have e2 : halfL a = 56320 + (a - 65536) % 1024 := if_pos h
  have hp : pairB (halfH a) (halfL a) = true := by
    unfold pairB highB lowB
    rw [Bool.and_eq_true]
    exact ⟨decide_eq_true (by omega), decide_eq_true (by omega)⟩
  refine ⟨?_, hp, ?_, ?_, ?_⟩
  · unfold pairR
    rw [if_pos hp]
    omega
  · refine (bytesS_no ?_).symm
    unfold pointB validRune
    exact decide_eq_false (by omega)
  · refine (bytesS_no ?_).symm
    unfold pointB validRune
    exact decide_eq_false (by omega)
  · unfold pointB validRune
    exact decide_eq_true (by omega)
theorem pair_facts {a b : Int} (h : pairB a b = true) : halfH (pairR a b) = a ∧ halfL (pairR a b) = b ∧ halfB (pairR a b) = true ∧ (bytesS (pairR a b)).size = 4 ∧ pointB a = false ∧ halfB a = false := by
  have h' := h
  unfold pairB highB lowB at h'
  rw [Bool.and_eq_true] at h'
  have ha := of_decide_eq_true h'.1
  have hb := of_decide_eq_true h'.2
  have er : pairR a b = 65536 + (a - 55296) * 1024 + (b - 56320) := if_pos h
  have hh : halfB (pairR a b) = true := decide_eq_true (by omega)
  have e1 : halfH (pairR a b) = 55296 + (pairR a b - 65536) / 1024 := if_pos hh
  have e2 : halfL (pairR a b) = 56320 + (pairR a b - 65536) % 1024 := if_pos hh
  have hpt := (half_facts hh).2.2.2.2
  obtain ⟨c, hc, hv, e⟩ := point_nat hpt
  refine ⟨by omega, by omega, hh, ?_, ?_, ?_⟩
  · rw [Lib.size_eq, e, enc_len c hv, if_neg (by omega), if_neg (by omega), if_neg (by omega)]
  · unfold pointB validRune
    exact decide_eq_false (by omega)
  · exact decide_eq_false (by omega)

set_option maxHeartbeats 1000000 in
/-- the way of a pair of halves -/
theorem walk_pair (a b : Int) (h : pairB a b = true) (w : World) :
    Calls Try.prog 5 #[.int .i32 a, .int .i32 b] w fun e w' => e = .returned (.bool true) ∧ Below w.heap.size w w' := by
  obtain ⟨f1, f2, f3, f4, f5, f6⟩ := pair_facts h
  have f7 : bytesS a = ⟨#[]⟩ := (bytesS_no f5).symm
  have acc : Below w.heap.size w w := Below.refl _ _
  go_enter Try.func5, Try.ntmps5
  go_wp2_with (first
    | (go_at_call 22; refine (bytes_any _ _).mono ?_; rintro e w' ⟨rfl, rfl⟩)
    | (go_at_call 18; refine (halves_any _ _).mono ?_; rintro e w' ⟨rfl, rfl⟩)
    | (go_at_call 16; refine (pair_any _ _ _).mono ?_; rintro e w' ⟨rfl, rfl⟩)
    | (go_at_call 7; refine (alive_any _).mono ?_; rintro e w' ⟨rfl, hb⟩; have acc := acc.trans (hb.mono acc.size); clear hb))
  go_ret
  exact ⟨rfl, acc⟩

set_option maxHeartbeats 1000000 in
/-- neither a code point, nor a pair -/
theorem walk_none (a b : Int) (h : pairB a b = false) (hp : pointB a = false) (hh : halfB a = false) (w : World) :
    Calls Try.prog 5 #[.int .i32 a, .int .i32 b] w fun e w' => e = .returned (.bool true) ∧ Below w.heap.size w w' := by
  have f7 : bytesS a = ⟨#[]⟩ := (bytesS_no hp).symm
  have acc : Below w.heap.size w w := Below.refl _ _
  go_enter Try.func5, Try.ntmps5
  go_wp2_with (first
    | (go_at_call 22; refine (bytes_any _ _).mono ?_; rintro e w' ⟨rfl, rfl⟩)
    | (go_at_call 18; refine (halves_any _ _).mono ?_; rintro e w' ⟨rfl, rfl⟩)
    | (go_at_call 16; refine (pair_any _ _ _).mono ?_; rintro e w' ⟨rfl, rfl⟩)
    | (go_at_call 7; refine (alive_any _).mono ?_; rintro e w' ⟨rfl, hb⟩; have acc := acc.trans (hb.mono acc.size); clear hb))
  go_ret
  exact ⟨rfl, acc⟩

set_option maxHeartbeats 4000000 in
/-- a code point -/
theorem walk_point (a b : Int) (h : pairB a b = false) (hp : pointB a = true) (w : World) :
    Calls Try.prog 5 #[.int .i32 a, .int .i32 b] w fun e w' => e = .returned (.bool true) ∧ Below w.heap.size w w' := by
  obtain ⟨h1, h4, f1, f2, f3⟩ := point_facts hp
  obtain ⟨g1, g2, g3⟩ := f1 (bytesS b)
  have g4 := f2 _ (valid_bytes b)
  have hb4 := bytes_small b
  obtain ⟨n1, n2⟩ := ne_yes h1
  have hs : (bytesS a ++ bytesS b).size ≤ maxLen := by rw [size_app]; unfold maxLen; omega
  have F3 := Lib.hid f3
  clear f1 f2 f3
  have acc : Below w.heap.size w w := Below.refl _ _
  go_enter Try.func5, Try.ntmps5
  go_wp2_with (first
    | (go_at_call 22; refine (bytes_any _ _).mono ?_; rintro e w' ⟨rfl, rfl⟩)
    | (go_at_call 8; refine (first_any _ _ (by assumption)).mono ?_; rintro e w' ⟨rfl, hb⟩; have acc := acc.trans (hb.mono acc.size); clear hb)
    | (go_at_call 10; refine (valid_any _ _ (by assumption)).mono ?_; rintro e w' ⟨rfl, hb⟩; have acc := acc.trans (hb.mono acc.size); clear hb))
  have accH := Lib.hid acc
  rename_i w1
  clear acc
  go_loopw [10] (fun i wr => ∃ k : Nat, i = .int .i64 k ∧ 1 ≤ k ∧ k ≤ (bytesS a).size ∧ Below w.heap.size w wr) (fun i _ => (bytesS a).size - (intOf i).toNat)
  case atStart => exact ⟨1, rfl, by omega, by omega, accH.out⟩
  case round =>
    obtain ⟨k, rfl, k1, k2, acc⟩ := hrel
    by_cases hk : k < (bytesS a).size
    · obtain ⟨e1, e2⟩ := F3.out (bytesS b) k k1 hk
      have hs1 : ((bytesS a).extract k (bytesS a).size ++ bytesS b).size ≤ maxLen := by
        rw [size_app, Lib.size_eq, from_data, List.length_drop, ← Lib.size_eq]; unfold maxLen; omega
      have hs2 : ((bytesS a).extract 0 k).size ≤ maxLen := by
        rw [Lib.size_eq, Lib.extract_from_zero, List.length_take, ← Lib.size_eq]; unfold maxLen; omega
      have hs3 : ((bytesS a).extract k (bytesS a).size).size ≤ 4 := by
        rw [Lib.size_eq, from_data, List.length_drop, ← Lib.size_eq]; omega
      go_wp2_with (first
        | (go_at_call 8; refine (first_any _ _ (by assumption)).mono ?_; rintro e w' ⟨rfl, hb⟩; have acc := acc.trans (hb.mono acc.size); clear hb)
        | (go_at_call 10; refine (valid_any _ _ (by assumption)).mono ?_; rintro e w' ⟨rfl, hb⟩; have acc := acc.trans (hb.mono acc.size); clear hb))
      go_roundw
      case rel => exact ⟨k + 1, by go_num, by omega, by omega, acc⟩
      case measure => simp [intOf]; omega
    · clear F3
      cases hh : halfB a with
      | true =>
        obtain ⟨q1, q2, q3, q4, q5⟩ := half_facts hh
        go_wp2_with (first
          | (go_at_call 22; refine (bytes_any _ _).mono ?_; rintro e w' ⟨rfl, rfl⟩)
          | (go_at_call 18; refine (halves_any _ _).mono ?_; rintro e w' ⟨rfl, rfl⟩)
          | (go_at_call 16; refine (pair_any _ _ _).mono ?_; rintro e w' ⟨rfl, rfl⟩)
          | (go_at_call 7; refine (alive_any _).mono ?_; rintro e w' ⟨rfl, hb⟩; have acc := acc.trans (hb.mono acc.size); clear hb))
        go_ret
        exact ⟨rfl, acc⟩
      | false =>
        go_wp2_with (first
          | (go_at_call 22; refine (bytes_any _ _).mono ?_; rintro e w' ⟨rfl, rfl⟩)
          | (go_at_call 18; refine (halves_any _ _).mono ?_; rintro e w' ⟨rfl, rfl⟩)
          | (go_at_call 16; refine (pair_any _ _ _).mono ?_; rintro e w' ⟨rfl, rfl⟩)
          | (go_at_call 7; refine (alive_any _).mono ?_; rintro e w' ⟨rfl, hb⟩; have acc := acc.trans (hb.mono acc.size); clear hb))
        go_ret
        exact ⟨rfl, acc⟩

theorem walk (a0 : Int) (a1 : Int) (w0 : (Lit.int .i32 a0).wf = true) (w1 : (Lit.int .i32 a1).wf = true) (w : World) :
    Calls Try.prog 5 #[.int .i32 a0, .int .i32 a1] w fun e w' => e = .returned (.bool true) ∧ Below w.heap.size w w' := by
  cases h : pairB a0 a1 with
  | true => exact walk_pair a0 a1 h w
  | false =>
    cases hp : pointB a0 with
    | true => exact walk_point a0 a1 h hp w
    | false =>
      refine walk_none a0 a1 h hp ?_ w
      cases hh : halfB a0 with
      | false => rfl
      | true =>
        rw [(half_facts hh).2.2.2.2] at hp
        cases hp

/-! ### From the walk to the statement -/
theorem own : ownKnob Try.prog.godebug = none := by kernel_rfl
set_option maxRecDepth 100000 in
theorem lifted (os : Os) (started : os.Started) (H : Type) (enc : TypeId × Value → H) :
    ReturnsInHanded {} Try.checked os 5 .any (Rows.runesBackSpec.pre6 enc Try.prog Try.f5 Rows.runesBackRow.domain false) (Rows.runesBackSpec.post enc Try.prog Try.f5 false true false false) := by
  refine returnsInHanded_of_change_sized (C := Try.checked) own started (by kernel_rfl) Try.func5
    (ChangeSpec.witness6 (enc := enc) (C := Try.checked) false ⟨#[], #[.int .i32 0, .int .i32 0], []⟩ 8 (by kernel_rfl) (by kernel_rfl) (by kernel_rfl) (by kernel_rfl)) ?_
  intro W base args ds gs before hval0 hW hcnd hsz0 _
  have hval : ∀ (j : Nat) t v, Try.f5.params[j]? = some t → args[j]? = some v → Value.okWide Try.prog W .any base t v := hval0
  have hsz : (DataW.weightsEach Try.prog (Try.f5.params.toList ++ Rows.runesBackSpec.plain.varTypes Try.prog) (ds ++ gs)).all (· ≤ reachBytes) = true := hsz0
  have hW' := hW
  obtain ⟨p, q, hA0, hV, rfl, hfz, hnd⟩ := hW
  have hA : DataW.TrodAll enc Try.prog W 0 (fun _ => true) true Try.f5.params.toList args.toList ds p := hA0
  rw [Try.params5] at hA hval hsz
  obtain ⟨v0, vs0, d0, ds0, p0, q0, hargs, rfl, rfl, h0, r0⟩ := trodAll_cons hA
  obtain ⟨v1, vs1, d1, ds1, p1, q1, rfl, rfl, rfl, h1, r1⟩ := trodAll_cons r0
  obtain ⟨rfl, rfl, rfl⟩ := trodAll_nil r1
  obtain rfl : args = #[v0, v1] := by cases args; simp_all
  obtain ⟨rfl, rfl⟩ := trodVars_none hV
  obtain ⟨a0, rfl, rfl, rfl, w0⟩ := open_int Try.underlying21 (hval 0 21 v0 rfl rfl) h0
  obtain ⟨a1, rfl, rfl, rfl, w1⟩ := open_int Try.underlying21 (hval 1 21 v1 rfl rfl) h1
  clear hA0 hval0 hsz0
  refine (walk a0 a1 w0 w1  W).mono fun e W' ⟨he, bel⟩ => ?_
  subst he
  exact ⟨_, rfl, _, _, _, [], _, [], hW', trodAll_mk1 (shut_bool Try.underlying4 _), (trodAll_cons_mk (shut_int Try.underlying21 w0) (trodAll_cons_mk (shut_int Try.underlying21 w1) trodAll_mk0)), rfl, bel.frame _, fun h => by cases h⟩

theorem over : Rows.runesBackRow.holds Try.pinned (OpenSpec.ofChange Rows.runesBackSpec) :=
  OpenClaim.holds_of_wide 5 Try.f5 rfl rfl rfl rfl rfl rfl rfl ⟨rfl, rfl, rfl, rfl, rfl⟩ rfl rfl rfl rfl rfl (by kernel_rfl) Try.func5 (by kernel_rfl)
    (of_decide_eq_true (by kernel_rfl)) (by unfold Func.isWrapper; first | (rw [if_pos (by decide +kernel)]; kernel_rfl) | (rw [if_neg (by decide +kernel)]; exact ⟨rfl, rfl⟩))
    (fun os started H enc _ => lifted os started H enc)

/-- THE STATEMENT -/
theorem proved : Rows.RunesBackSaid := over
end Go.Proofs.Ytbjlckaedfnggaa.runesBack
