/-
  For every two texts codicillaw03.ShaHex returns true: the digits of bytes and the bytes of digits are the document's, and each is the other one's. No conditions.
-/
import Derived.Test.YtadeiljhniffjaaRows
import Derived.Test.YtadeiljhniffjaaShaAlive
import Derived.ProofKit
import Derived.OpenShut
import Derived.ShutString
import Derived.SizedLaws
namespace Go.Proofs.Ytadeiljhniffjaa.shaHex
open Go.ChangeShapes Go.WideShapes Go.ChangeAt Go.RowKit
open Go.ChangeMaps (open_string shut_string)
set_option linter.unusedVariables false

theorem nums_back {l : List Int} (h : ∀ b ∈ l, 0 ≤ b ∧ b < 256) : nI (strOfNums l).data.toList = l := by
  unfold nI
  rw [strOfNums_data, List.map_map]
  have : ∀ b ∈ l, ((fun b : UInt8 => (b.toNat : Int)) ∘ fun n : Int => UInt8.ofNat n.toNat) b = b := by
    intro b hb
    have := h b hb
    simp
    omega
  rw [List.map_congr_left this, List.map_id'']
  intro x; rfl
theorem back_nums (s : ByteArray) : strOfNums (nI s.data.toList) = s := by
  apply ByteArray.ext
  apply Array.toList_inj.1
  unfold nI
  rw [strOfNums_data, List.map_map]
  have : ∀ b ∈ s.data.toList, ((fun n : Int => UInt8.ofNat n.toNat) ∘ fun b : UInt8 => (b.toNat : Int)) b = b := by
    intro b _
    simp
  rw [List.map_congr_left this, List.map_id'']
  intro x; rfl
theorem nI_rng (s : ByteArray) : ∀ b ∈ nI s.data.toList, 0 ≤ b ∧ b < 256 := by
  intro b hb
  unfold nI at hb
  obtain ⟨u, _, rfl⟩ := List.mem_map.1 hb
  have := u.toNat_lt
  omega
theorem hexN_rng : ∀ (l : List Int), (∀ b ∈ l, 0 ≤ b ∧ b < 256) → ∀ b ∈ hexN l, 0 ≤ b ∧ b < 256
  | [], _, b, hb => by cases hb
  | x :: t, h, b, hb => by
    have hx := h x (List.mem_cons_self ..)
    have h1 := dgI_rng (d := x / 16) (by omega) (by omega)
    have h2 := dgI_rng (d := x % 16) (by omega) (by omega)
    rw [hexN] at hb
    rcases List.mem_cons.1 hb with rfl | hb
    · omega
    · rcases List.mem_cons.1 hb with rfl | hb
      · omega
      · exact hexN_rng t (fun y hy => h y (List.mem_cons_of_mem _ hy)) b hb
theorem un_of_hex (s : ByteArray) : unS (strOfNums (hexN (nI s.data.toList))) = some (nI s.data.toList) := by
  unfold unS
  rw [nums_back (hexN_rng _ (nI_rng s)), un_hex _ (nI_rng s)]
theorem unR_hex (s : ByteArray) : unR (strOfNums (hexN (nI s.data.toList))) = s := by
  unfold unR
  rw [un_of_hex]
  exact back_nums s
theorem unB_hex (s : ByteArray) : unB (strOfNums (hexN (nI s.data.toList))) = true := by
  unfold unB
  rw [un_of_hex]
  rfl
theorem hex_of_un {h : ByteArray} {r : List Int} (e : unS h = some r) : strOfNums (hexN (nI (unR h).data.toList)) = h := by
  unfold unR
  rw [e]
  have e' : unN (nI h.data.toList) = some r := e
  rw [nums_back (un_rng _ r e'), hex_un _ r e', back_nums]
theorem hexS_size (s : ByteArray) : (strOfNums (hexN (nI s.data.toList))).size = 2 * s.size := by
  rw [strOfNums_size, hexN_len, nI_len]
theorem unR_size (h : ByteArray) : (unR h).size ≤ h.size := by
  unfold unR
  cases e : unS h with
  | none => exact Nat.zero_le _
  | some r =>
    have e' : unN (nI h.data.toList) = some r := e
    have h1 := congrArg List.length (hex_un _ r e')
    rw [hexN_len, nI_len] at h1
    simp only [strOfNums_size]
    omega

set_option maxHeartbeats 1000000 in
theorem walk (a0 : ByteArray) (a1 : ByteArray) (w0 : a0.size ≤ maxLen) (w1 : a1.size ≤ maxLen) (z0 : a0.size ≤ reachBytes) (z1 : a1.size ≤ reachBytes) (w : World) :
    Calls Try.prog 5 #[.string a0, .string a1] w fun e w' => e = .returned (.bool true) ∧ Below w.heap.size w w' := by
  unfold reachBytes at z0 z1
  unfold maxLen at w0 w1
  have acc : Below w.heap.size w w := Below.refl _ _
  by_cases h0 : 4096 < a0.size
  · have h0' : (4096 : Int) < (a0.size : Int) := by omega
    go_enter Try.func5, Try.ntmps5
    go_wp2_with (go_at_call 6; refine (alive_any _).mono ?_; rintro e w' ⟨rfl, hb⟩; have acc := acc.trans (hb.mono acc.size); clear hb)
    go_ret
    exact ⟨rfl, acc⟩
  · have h0' : (a0.size : Int) ≤ 4096 := by omega
    by_cases h1 : 4096 < a1.size
    · have h1' : (4096 : Int) < (a1.size : Int) := by omega
      go_enter Try.func5, Try.ntmps5
      go_wp2_with (go_at_call 6; refine (alive_any _).mono ?_; rintro e w' ⟨rfl, hb⟩; have acc := acc.trans (hb.mono acc.size); clear hb)
      go_ret
      exact ⟨rfl, acc⟩
    · have h1' : (a1.size : Int) ≤ 4096 := by omega
      have cB := fun w => unhex_any a1 w (by omega)
      have cR := fun w => refUnhex_any a1 w (by omega)
      have cH := fun w => hex_any a0 w (by omega)
      have cG := fun w => refHex_any a0 w (by omega)
      have cT := fun w => unhex_any (strOfNums (hexN (nI a0.data.toList))) w (by rw [hexS_size]; omega)
      rw [unR_hex, unB_hex] at cT
      generalize strOfNums (hexN (nI a0.data.toList)) = x0 at cH cG cT
      have hu := unR_size a1
      have cU := fun w => hex_any (unR a1) w (by omega)
      have hne : ∀ x : ByteArray, (x.toList == x.toList) = true := fun x => by simp
      cases hS : unS a1 with
      | none =>
        have hB : unB a1 = false := by unfold unB; rw [hS]; rfl
        rw [hB] at cB cR
        clear cU hS hB
        generalize unR a1 = y at cB cR hu
        go_enter Try.func5, Try.ntmps5
        go_wp2_with (first
          | (go_at_call_of 9 (Value.string a1); refine (cB _).mono ?_; rintro e w' ⟨rfl, hb⟩; have acc := acc.trans (hb.mono acc.size); clear hb)
          | (go_at_call 10; refine (cR _).mono ?_; rintro e w' ⟨rfl, hb⟩; have acc := acc.trans (hb.mono acc.size); clear hb)
          | (go_at_call_of 11 (Value.string a0); refine (cH _).mono ?_; rintro e w' ⟨rfl, hb⟩; have acc := acc.trans (hb.mono acc.size); clear hb)
          | (go_at_call 12; refine (cG _).mono ?_; rintro e w' ⟨rfl, hb⟩; have acc := acc.trans (hb.mono acc.size); clear hb)
          | (go_at_call_of 9 (Value.string x0); refine (cT _).mono ?_; rintro e w' ⟨rfl, hb⟩; have acc := acc.trans (hb.mono acc.size); clear hb)
          | (go_at_call 6; refine (alive_any _).mono ?_; rintro e w' ⟨rfl, hb⟩; have acc := acc.trans (hb.mono acc.size); clear hb))
        go_ret
        exact ⟨rfl, acc⟩
      | some r =>
        have hB : unB a1 = true := by unfold unB; rw [hS]; rfl
        rw [hB] at cB cR
        rw [hex_of_un hS] at cU
        clear hS hB
        generalize unR a1 = y at cB cR cU hu
        go_enter Try.func5, Try.ntmps5
        go_wp2_with (first
          | (go_at_call_of 9 (Value.string a1); refine (cB _).mono ?_; rintro e w' ⟨rfl, hb⟩; have acc := acc.trans (hb.mono acc.size); clear hb)
          | (go_at_call 10; refine (cR _).mono ?_; rintro e w' ⟨rfl, hb⟩; have acc := acc.trans (hb.mono acc.size); clear hb)
          | (go_at_call_of 11 (Value.string y); refine (cU _).mono ?_; rintro e w' ⟨rfl, hb⟩; have acc := acc.trans (hb.mono acc.size); clear hb)
          | (go_at_call_of 11 (Value.string a0); refine (cH _).mono ?_; rintro e w' ⟨rfl, hb⟩; have acc := acc.trans (hb.mono acc.size); clear hb)
          | (go_at_call 12; refine (cG _).mono ?_; rintro e w' ⟨rfl, hb⟩; have acc := acc.trans (hb.mono acc.size); clear hb)
          | (go_at_call_of 9 (Value.string x0); refine (cT _).mono ?_; rintro e w' ⟨rfl, hb⟩; have acc := acc.trans (hb.mono acc.size); clear hb)
          | (go_at_call 6; refine (alive_any _).mono ?_; rintro e w' ⟨rfl, hb⟩; have acc := acc.trans (hb.mono acc.size); clear hb))
        go_ret
        exact ⟨rfl, acc⟩

/-! ### From the walk to the statement -/
theorem own : ownKnob Try.prog.godebug = none := by kernel_rfl
set_option maxRecDepth 100000 in
theorem lifted (os : Os) (started : os.Started) (H : Type) (enc : TypeId × Value → H) :
    ReturnsInHanded {} Try.checked os 5 .any (Rows.shaHexSpec.pre6 enc Try.prog Try.f5 Rows.shaHexRow.domain false) (Rows.shaHexSpec.post enc Try.prog Try.f5 false true false false) := by
  refine returnsInHanded_of_change_sized (C := Try.checked) own started (by kernel_rfl) Try.func5
    (ChangeSpec.witness6 (enc := enc) (C := Try.checked) false ⟨#[], #[.string ByteArray.empty, .string ByteArray.empty], []⟩ 8 (by kernel_rfl) (by kernel_rfl) (by kernel_rfl) (by kernel_rfl)) ?_
  intro W base args ds gs before hval0 hW hcnd hsz0 _
  have hval : ∀ (j : Nat) t v, Try.f5.params[j]? = some t → args[j]? = some v → Value.okWide Try.prog W .any base t v := hval0
  have hsz : (DataW.weightsEach Try.prog (Try.f5.params.toList ++ Rows.shaHexSpec.plain.varTypes Try.prog) (ds ++ gs)).all (· ≤ reachBytes) = true := hsz0
  have hW' := hW
  obtain ⟨p, q, hA0, hV, rfl, hfz, hnd⟩ := hW
  have hA : DataW.TrodAll enc Try.prog W 0 (fun _ => true) true Try.f5.params.toList args.toList ds p := hA0
  rw [Try.params5] at hA hval hsz
  obtain ⟨v0, vs0, d0, ds0, p0, q0, hargs, rfl, rfl, h0, r0⟩ := trodAll_cons hA
  obtain ⟨v1, vs1, d1, ds1, p1, q1, rfl, rfl, rfl, h1, r1⟩ := trodAll_cons r0
  obtain ⟨rfl, rfl, rfl⟩ := trodAll_nil r1
  obtain rfl : args = #[v0, v1] := by cases args; simp_all
  obtain ⟨rfl, rfl⟩ := trodVars_none hV
  obtain ⟨a0, rfl, rfl, rfl, w0⟩ := open_string Try.underlying9 (hval 0 9 v0 rfl rfl) h0
  obtain ⟨a1, rfl, rfl, rfl, w1⟩ := open_string Try.underlying9 (hval 1 9 v1 rfl rfl) h1
  have z0 : a0.size ≤ reachBytes := by
    rw [Lib.size_eq]
    exact sized_string hsz (j := 0) (t := 9) rfl rfl
  have z1 : a1.size ≤ reachBytes := by
    rw [Lib.size_eq]
    exact sized_string hsz (j := 1) (t := 9) rfl rfl
  clear hA0 hval0 hsz0
  refine (walk a0 a1 w0 w1 z0 z1 W).mono fun e W' ⟨he, bel⟩ => ?_
  subst he
  exact ⟨_, rfl, _, _, _, [], _, [], hW', trodAll_mk1 (shut_bool Try.underlying4 _), (trodAll_cons_mk (shut_string Try.underlying9 w0) (trodAll_cons_mk (shut_string Try.underlying9 w1) trodAll_mk0)), rfl, bel.frame _, fun h => by cases h⟩

theorem over : Rows.shaHexRow.holds Try.pinned (OpenSpec.ofChange Rows.shaHexSpec) :=
  OpenClaim.holds_of_wide 5 Try.f5 rfl rfl rfl rfl rfl rfl rfl ⟨rfl, rfl, rfl, rfl, rfl⟩ rfl rfl rfl rfl rfl (by kernel_rfl) Try.func5 (by kernel_rfl)
    (of_decide_eq_true (by kernel_rfl)) (by unfold Func.isWrapper; first | (rw [if_pos (by decide +kernel)]; kernel_rfl) | (rw [if_neg (by decide +kernel)]; exact ⟨rfl, rfl⟩))
    (fun os started H enc _ => lifted os started H enc)

/-- THE STATEMENT -/
theorem proved : Rows.ShaHexSaid := over
