/-
  For every text and all bytes codicillaw07.SegTells returns true: a text's frame is the document's, and what package seg reads and scans of any bytes is what the document's own answers read and scan. No conditions.
-/
import Derived.Test.YthimjdknafgfbaaSegOpen
import Derived.ProofKit
import Derived.OpenShut
import Derived.ShutString
import Derived.SizedLaws
namespace Go.Proofs.Ythimjdknafgfbaa.segTells
open Go.ChangeShapes Go.WideShapes Go.ChangeAt Go.RowKit
open Go.ChangeMaps (open_string shut_string)
set_option linter.unusedVariables false

set_option linter.unusedSimpArgs false in
set_option maxHeartbeats 4000000 in
set_option maxRecDepth 10000000 in
theorem walk (a0 a1 : ByteArray) (w0 : a0.size ≤ maxLen) (w1 : a1.size ≤ maxLen) (z0 : a0.size ≤ reachBytes) (z1 : a1.size ≤ reachBytes) (w : World) :
    Calls Try.prog 3 #[.string a0, .string a1] w fun e w' => e = .returned (.bool true) ∧ Below w.heap.size w w' := by
  have hwks := works_any
  unfold reachBytes at z0 z1
  have acc : Below w.heap.size w w := Below.refl _ _
  by_cases hbig : 32768 < a0.size
  · have hb2 : (32768 : Int) < (a0.size : Int) := by omega
    clear w0 w1
    go_enter Try.func3, Try.ntmps3
    go_wp2_with (go_at_call 7; refine (hwks _).mono ?_; rintro e w' ⟨rfl, hb⟩; have acc := acc.trans (hb.mono acc.size); clear hb)
    go_ret
    exact ⟨rfl, acc⟩
  have hs0 : (a0.size : Int) ≤ 32768 := by omega
  by_cases hbig1 : 32768 < a1.size
  · have hb2 : (32768 : Int) < (a1.size : Int) := by omega
    clear w0 w1
    go_enter Try.func3, Try.ntmps3
    go_wp2_with (go_at_call 7; refine (hwks _).mono ?_; rintro e w' ⟨rfl, hb⟩; have acc := acc.trans (hb.mono acc.size); clear hb)
    go_ret
    exact ⟨rfl, acc⟩
  have hs1 : (a1.size : Int) ≤ 32768 := by omega
  have cR := fun w => read_any a1 w (by omega)
  have cQ := fun w => refRead_any a1 w (by omega)
  have cS := fun w => scan_any a1 w (by omega)
  have cT := fun w => refScan_any a1 w (by omega)
  have hcnt : (scanL a1.data.toList).1.length ≤ 1000000000 := by
    have := scan_cnt _ a1.data.toList (Nat.le_refl _)
    rw [← Lib.size_eq] at this
    omega
  unfold readV at cR cQ
  unfold scanV at cS cT
  generalize readL a1.data.toList = r at *
  generalize scanL a1.data.toList = q at *
  obtain ⟨rt, rn, re⟩ := r
  obtain ⟨L, qn, qe⟩ := q
  simp only at cR cQ cS cT hcnt
  generalize bOf rt = rt at *
  have HC := Lib.hid hcnt
  clear w0 w1 hcnt hbig hbig1
  by_cases hlong : 16384 < a0.size
  · have hl2 : (16384 : Int) < (a0.size : Int) := by omega
    have cF := fun w => frame_long a0 w hlong (by omega)
    clear hlong
    go_enter Try.func3, Try.ntmps3
    go_wp2_with (first
      | (go_at_call 8; refine (cF _).mono ?_; rintro e w' ⟨rfl, rfl⟩)
      | (go_at_call 10; refine (cR _).mono ?_; rintro e w' ⟨rfl, hb⟩; have acc := acc.trans (hb.mono acc.size); clear hb)
      | (go_at_call 11; refine (cQ _).mono ?_; rintro e w' ⟨rfl, hb⟩; have acc := acc.trans (hb.mono acc.size); clear hb)
      | (go_at_call 12; refine (cS _).mono ?_; rintro e w' ⟨v1, rfl, hO, hb⟩; have acc := acc.trans (hb.mono acc.size); have hI1 := hO.isT; clear hb hO)
      | (go_at_call 13; refine (cT _).mono ?_; rintro e w' ⟨v2, rfl, hO, hb⟩; have acc := acc.trans (hb.mono acc.size); have hJ1 := hI1.keep hb; have hI2 := hO.isT; clear hb hO)
      | (go_at_call 14; refine (same_any _ _ _ _ _ hJ1 hI2 HC.out).mono ?_; rintro e w' ⟨rfl, hb⟩; have acc := acc.trans (hb.mono acc.size); clear hb)
      | (go_at_call 7; refine (hwks _).mono ?_; rintro e w' ⟨rfl, hb⟩; have acc := acc.trans (hb.mono acc.size); clear hb))
    go_ret
    exact ⟨rfl, acc⟩
  · have hl2 : (a0.size : Int) ≤ 16384 := by omega
    have cF := fun w => frame_any a0 w (by omega)
    have cG := fun w => refFrame_any a0 w (by omega)
    clear hlong
    generalize bOf (frameL a0.data.toList) = fr at *
    go_enter Try.func3, Try.ntmps3
    go_wp2_with (first
      | (go_at_call 8; refine (cF _).mono ?_; rintro e w' ⟨rfl, hb⟩; have acc := acc.trans (hb.mono acc.size); clear hb)
      | (go_at_call 9; refine (cG _).mono ?_; rintro e w' ⟨rfl, hb⟩; have acc := acc.trans (hb.mono acc.size); clear hb)
      | (go_at_call 10; refine (cR _).mono ?_; rintro e w' ⟨rfl, hb⟩; have acc := acc.trans (hb.mono acc.size); clear hb)
      | (go_at_call 11; refine (cQ _).mono ?_; rintro e w' ⟨rfl, hb⟩; have acc := acc.trans (hb.mono acc.size); clear hb)
      | (go_at_call 12; refine (cS _).mono ?_; rintro e w' ⟨v1, rfl, hO, hb⟩; have acc := acc.trans (hb.mono acc.size); have hI1 := hO.isT; clear hb hO)
      | (go_at_call 13; refine (cT _).mono ?_; rintro e w' ⟨v2, rfl, hO, hb⟩; have acc := acc.trans (hb.mono acc.size); have hJ1 := hI1.keep hb; have hI2 := hO.isT; clear hb hO)
      | (go_at_call 14; refine (same_any _ _ _ _ _ hJ1 hI2 HC.out).mono ?_; rintro e w' ⟨rfl, hb⟩; have acc := acc.trans (hb.mono acc.size); clear hb)
      | (go_at_call 7; refine (hwks _).mono ?_; rintro e w' ⟨rfl, hb⟩; have acc := acc.trans (hb.mono acc.size); clear hb))
    go_ret
    exact ⟨rfl, acc⟩

/-! ### From the walk to the statement -/
theorem own : ownKnob Try.prog.godebug = none := by kernel_rfl
set_option maxRecDepth 100000 in
theorem lifted (os : Os) (started : os.Started) (H : Type) (enc : TypeId × Value → H) :
    ReturnsInHanded {} Try.checked os 3 .any (Rows.segTellsSpec.pre6 enc Try.prog Try.f3 Rows.segTellsRow.domain false) (Rows.segTellsSpec.post enc Try.prog Try.f3 false true false false) := by
  refine returnsInHanded_of_change_sized (C := Try.checked) own started (by kernel_rfl) Try.func3
    (ChangeSpec.witness6 (enc := enc) (C := Try.checked) false ⟨#[], #[.string ByteArray.empty, .string ByteArray.empty], []⟩ 8 (by kernel_rfl) (by kernel_rfl) (by kernel_rfl) (by kernel_rfl)) ?_
  intro W base args ds gs before hval0 hW hcnd hsz0 _
  have hval : ∀ (j : Nat) t v, Try.f3.params[j]? = some t → args[j]? = some v → Value.okWide Try.prog W .any base t v := hval0
  have hsz : (DataW.weightsEach Try.prog (Try.f3.params.toList ++ Rows.segTellsSpec.plain.varTypes Try.prog) (ds ++ gs)).all (· ≤ reachBytes) = true := hsz0
  have hW' := hW
  obtain ⟨p, q, hA0, hV, rfl, hfz, hnd⟩ := hW
  have hA : DataW.TrodAll enc Try.prog W 0 (fun _ => true) true Try.f3.params.toList args.toList ds p := hA0
  rw [Try.params3] at hA hval hsz
  obtain ⟨v0, vs0, d0, ds0, p0, q0, hargs, rfl, rfl, h0, r0⟩ := trodAll_cons hA
  obtain ⟨v1, vs1, d1, ds1, p1, q1, rfl, rfl, rfl, h1, r1⟩ := trodAll_cons r0
  obtain ⟨rfl, rfl, rfl⟩ := trodAll_nil r1
  obtain rfl : args = #[v0, v1] := by cases args; simp_all
  obtain ⟨rfl, rfl⟩ := trodVars_none hV
  obtain ⟨a0, rfl, rfl, rfl, w0⟩ := open_string Try.underlying9 (hval 0 9 v0 rfl rfl) h0
  obtain ⟨a1, rfl, rfl, rfl, w1⟩ := open_string Try.underlying9 (hval 1 9 v1 rfl rfl) h1
  have z0 : a0.size ≤ reachBytes := by
    rw [Lib.size_eq]
    exact sized_string hsz (j := 0) (t := 9) rfl rfl
  have z1 : a1.size ≤ reachBytes := by
    rw [Lib.size_eq]
    exact sized_string hsz (j := 1) (t := 9) rfl rfl
  clear hA0 hval0 hsz0
  refine (walk a0 a1 w0 w1 z0 z1 W).mono fun e W' ⟨he, bel⟩ => ?_
  subst he
  exact ⟨_, rfl, _, _, _, [], _, [], hW', trodAll_mk1 (shut_bool Try.underlying4 _), (trodAll_cons_mk (shut_string Try.underlying9 w0) (trodAll_cons_mk (shut_string Try.underlying9 w1) trodAll_mk0)), rfl, bel.frame _, fun h => by cases h⟩

theorem over : Rows.segTellsRow.holds Try.pinned (OpenSpec.ofChange Rows.segTellsSpec) :=
  OpenClaim.holds_of_wide 3 Try.f3 rfl rfl rfl rfl rfl rfl rfl ⟨rfl, rfl, rfl, rfl, rfl⟩ rfl rfl rfl rfl rfl (by kernel_rfl) Try.func3 (by kernel_rfl)
    (of_decide_eq_true (by kernel_rfl)) (by unfold Func.isWrapper; first | (rw [if_pos (by decide +kernel)]; kernel_rfl) | (rw [if_neg (by decide +kernel)]; exact ⟨rfl, rfl⟩))
    (fun os started H enc _ => lifted os started H enc)

/-- THE STATEMENT -/
theorem proved : Rows.SegTellsSaid := over

end Go.Proofs.Ythimjdknafgfbaa.segTells
