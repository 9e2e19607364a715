/-
  For all texts and every place codicillaw07.SegCut returns true: of frames that were cut off anywhere just the whole ones are read, and the rest is told as torn. No conditions.
-/
import Derived.Test.YthimjdknafgfbaaSegOpen
namespace Go.Proofs.Ythimjdknafgfbaa.segCut
open Go.ChangeShapes Go.WideShapes Go.ChangeAt Go.RowKit
open Go.ChangeMaps (open_string shut_string)
set_option linter.unusedVariables false

set_option linter.unusedSimpArgs false in
set_option maxHeartbeats 8000000 in
set_option maxRecDepth 10000000 in
theorem walk (L : List (List UInt8)) (a1 : Int) {v : Value} (w1 : (Lit.int .u16 a1).wf = true) {w : World} (hT : IsT w L v) (hn : L.length ≤ 1000000000000000) (hm : ∀ t ∈ L, t.length ≤ 140737488355328) (w' : World) (hw : w = w') :
    Calls Try.prog 4 #[v, .int .u16 a1] w fun e w' => e = .returned (.bool true) ∧ Below w.heap.size w w' := by
  clear hw w'
  have hwks := works_any
  have acc : Below w.heap.size w w := Below.refl _ _
  have cZ := size_any L v w hT hn hm
  by_cases hbig : 8192 < sizeT L
  · have hb2 : (8192 : Int) < (sizeT L : Int) := by omega
    generalize sizeT L = z at *
    clear w1 hm
    go_enter Try.func4, Try.ntmps4
    go_wp2_with (first
      | (go_at_call 15; refine cZ.mono ?_; rintro e w' ⟨rfl, rfl⟩)
      | (go_at_call 7; refine (hwks _).mono ?_; rintro e w' ⟨rfl, hb⟩; have acc := acc.trans (hb.mono acc.size); clear hb))
    go_ret
    exact ⟨rfl, acc⟩
  have hb3 : (sizeT L : Int) ≤ 8192 := by omega
  have hsml := sizeT_small (L := L) (by omega)
  generalize sizeT L = z at *
  have cF := frames_any L v w hT hsml.1 hsml.2
  have hfl := small_frames hsml
  obtain ⟨c0, c9⟩ := bounds_u16 w1
  obtain ⟨y, rfl⟩ := Int.eq_ofNat_of_zero_le c0
  obtain ⟨fr, hfr⟩ : ∃ fr, fr = bOf (framesL L) := ⟨_, rfl⟩
  have hfs : fr.size = (framesL L).length := by rw [hfr, bOf_size]
  obtain ⟨N, hN⟩ : ∃ N, N = y % (fr.size + 1) := ⟨_, rfl⟩
  have hNF : N ≤ fr.size := by have := Nat.mod_lt y (show 0 < fr.size + 1 by omega); omega
  have e1 : (y : Int) % ((fr.size : Int) + 1) = (N : Int) := by rw [hN, Int.natCast_emod]; rfl
  have e2 : ((fr.size : Int) + 1 == 0) = false := beq_false_of_ne (by omega)
  have hlx : (fr.extract 0 N).data.toList = (framesL L).take N := by rw [ext_list, hfr, bOf_list]; rfl
  have cX := fun w => scan_any (fr.extract 0 N) w (by rw [ext_size _ _ _ hNF]; omega)
  rw [hlx] at cX
  rw [← hfr] at cF
  have hsc := scan_cut L (small_each hsml.2) N (by rw [← hfs]; exact hNF)
  rw [← hfs] at hsc
  unfold scanV at cX
  generalize scanL ((framesL L).take N) = q at *
  obtain ⟨X, g, e⟩ := q
  simp only at cX hsc
  obtain ⟨h1, h2, h3, h4, h5, h6, h7⟩ := hsc
  have hL100 := hsml.1
  have hF10 : fr.size ≤ 10000 := by omega
  clear hfl hfr hfs hN hlx hbig hsml w1
  obtain ⟨av, cv, rfl, hcv, hTc⟩ := id hT
  have HSM : ∀ (w1 : World) v1, IsT w1 X v1 → IsT w1 L (.slice av L.length cv) → Calls Try.prog 14 #[v1, .slice av X.length cv] w1 fun e w' => e = .returned (.bool true) ∧ Below w1.heap.size w1 w' := by
    intro w1 v1 i1 i2
    have i3 := i2.take (k := X.length) h1
    rw [← h2] at i3
    refine (same_any X X v1 _ w1 i1 i3 (by omega)).mono ?_
    rintro e' w' ⟨rfl, hb⟩
    exact ⟨by simp, hb⟩
  have HSMS := Lib.hid HSM
  have hsl := fun w => run_slHi (a := av) (n := L.length) (c := cv) X.length (by omega) w
  have i1 : (X.length : Int) ≤ (L.length : Int) := by omega
  have i3 : (g : Int) ≤ (N : Int) := by omega
  have iNF : (N : Int) ≤ (fr.size : Int) := by omega
  have hNF2 : ¬ fr.size < N := by omega
  have H2 := Lib.hid h2
  have HM := Lib.hid hm
  clear h2 HSM hm
  by_cases hlt : X.length < L.length
  · have ilt : (X.length : Int) < (L.length : Int) := by omega
    have h6' := h6 hlt
    have hNlt : (N : Int) < (fr.size : Int) := by
      have : N ≠ fr.size := fun e => by have := h7 e; omega
      omega
    obtain ⟨b1, o1, rfl, hb1, hc1⟩ := hTc X.length hlt
    have hxs := bOf_size (L.getD X.length [])
    have i6 : ¬ (12 : Int) + ((bOf (L.getD X.length [])).size : Int) ≤ (N : Int) - (g : Int) := by rw [hxs]; omega
    have i6s : (bOf (L.getD X.length [])).size ≤ 140737488355328 := by
      rw [hxs]
      have hmem : L.getD X.length [] ∈ L := by
        rw [List.getD_eq_getElem?_getD, List.getElem?_eq_getElem hlt]
        exact List.getElem_mem hlt
      exact Nat.le_trans (by have := HM.out _ hmem; exact this) (Nat.le_refl _)
    have x0 : (0 : Int) ≤ (X.length : Int) := by omega
    generalize bOf (L.getD X.length []) = xt at *
    clear h6 h7 hTc h6' hlt hxs
    rcases h5 with rfl | rfl
    · have hg : g = N := h4.1 rfl
      subst hg
      clear h4
      go_enter Try.func4, Try.ntmps4
      go_wp2_with (first
        | (go_at_call 15; refine cZ.mono ?_; rintro e w' ⟨rfl, rfl⟩)
        | (go_at_call 16; refine cF.mono ?_; rintro e w' ⟨rfl, hb⟩; have acc := acc.trans (hb.mono acc.size); have hT1 := hT.keep hb; clear hb)
        | (go_at_call 12; refine (cX _).mono ?_; rintro e w' ⟨v1, rfl, hO, hb⟩; have acc := acc.trans (hb.mono acc.size); have hT2 := hT1.keep hb; have hX1 := hO.isT; clear hb hO; obtain ⟨ax, cx, rfl, hcx, hXc⟩ := id hX1; clear hXc)
        | (go_at_call 14; refine (HSMS.out _ _ hX1 hT2).mono ?_; rintro e w' ⟨rfl, hb⟩; have acc := acc.trans (hb.mono acc.size); have hc2 := (acc.cell (p := ⟨b1, o1 + X.length, none⟩) hb1).trans hc1; clear hb)
        | (go_at_call 7; refine (hwks _).mono ?_; rintro e w' ⟨rfl, hb⟩; have acc := acc.trans (hb.mono acc.size); clear hb))
      go_ret
      exact ⟨rfl, acc⟩
    · have hg : ¬ (g : Int) = (N : Int) := fun e => by have := h4.2 (by omega); omega
      have hg2 : ((g : Int) == (N : Int)) = false := beq_false_of_ne hg
      clear h4
      go_enter Try.func4, Try.ntmps4
      go_wp2_with (first
        | (go_at_call 15; refine cZ.mono ?_; rintro e w' ⟨rfl, rfl⟩)
        | (go_at_call 16; refine cF.mono ?_; rintro e w' ⟨rfl, hb⟩; have acc := acc.trans (hb.mono acc.size); have hT1 := hT.keep hb; clear hb)
        | (go_at_call 12; refine (cX _).mono ?_; rintro e w' ⟨v1, rfl, hO, hb⟩; have acc := acc.trans (hb.mono acc.size); have hT2 := hT1.keep hb; have hX1 := hO.isT; clear hb hO; obtain ⟨ax, cx, rfl, hcx, hXc⟩ := id hX1; clear hXc)
        | (go_at_call 14; refine (HSMS.out _ _ hX1 hT2).mono ?_; rintro e w' ⟨rfl, hb⟩; have acc := acc.trans (hb.mono acc.size); have hc2 := (acc.cell (p := ⟨b1, o1 + X.length, none⟩) hb1).trans hc1; clear hb)
        | (go_at_call 7; refine (hwks _).mono ?_; rintro e w' ⟨rfl, hb⟩; have acc := acc.trans (hb.mono acc.size); clear hb))
      go_ret
      exact ⟨rfl, acc⟩
  · have hel : X.length = L.length := by omega
    have ige : ¬ (X.length : Int) < (L.length : Int) := by omega
    have igt : ¬ (L.length : Int) < (X.length : Int) := by omega
    have ieq : ((X.length : Int) == (L.length : Int)) = true := by rw [hel]; exact beq_self_eq_true _
    clear h6 h7 hTc hlt hel h1
    rcases h5 with rfl | rfl
    · have hg : g = N := h4.1 rfl
      subst hg
      clear h4
      by_cases hNlt : (g : Int) < (fr.size : Int)
      all_goals go_enter Try.func4, Try.ntmps4
      all_goals go_wp2_with (first
        | (go_at_call 15; refine cZ.mono ?_; rintro e w' ⟨rfl, rfl⟩)
        | (go_at_call 16; refine cF.mono ?_; rintro e w' ⟨rfl, hb⟩; have acc := acc.trans (hb.mono acc.size); have hT1 := hT.keep hb; clear hb)
        | (go_at_call 12; refine (cX _).mono ?_; rintro e w' ⟨v1, rfl, hO, hb⟩; have acc := acc.trans (hb.mono acc.size); have hT2 := hT1.keep hb; have hX1 := hO.isT; clear hb hO; obtain ⟨ax, cx, rfl, hcx, hXc⟩ := id hX1; clear hXc)
        | (go_at_call 14; refine (HSMS.out _ _ hX1 hT2).mono ?_; rintro e w' ⟨rfl, hb⟩; have acc := acc.trans (hb.mono acc.size); clear hb)
        | (go_at_call 7; refine (hwks _).mono ?_; rintro e w' ⟨rfl, hb⟩; have acc := acc.trans (hb.mono acc.size); clear hb))
      all_goals trace_state
      all_goals go_ret
      all_goals exact ⟨rfl, acc⟩
    · have hg : ¬ (g : Int) = (N : Int) := fun e => by have := h4.2 (by omega); omega
      have hg2 : ((g : Int) == (N : Int)) = false := beq_false_of_ne hg
      clear h4
      by_cases hNlt : (N : Int) < (fr.size : Int)
      all_goals go_enter Try.func4, Try.ntmps4
      all_goals go_wp2_with (first
        | (go_at_call 15; refine cZ.mono ?_; rintro e w' ⟨rfl, rfl⟩)
        | (go_at_call 16; refine cF.mono ?_; rintro e w' ⟨rfl, hb⟩; have acc := acc.trans (hb.mono acc.size); have hT1 := hT.keep hb; clear hb)
        | (go_at_call 12; refine (cX _).mono ?_; rintro e w' ⟨v1, rfl, hO, hb⟩; have acc := acc.trans (hb.mono acc.size); have hT2 := hT1.keep hb; have hX1 := hO.isT; clear hb hO; obtain ⟨ax, cx, rfl, hcx, hXc⟩ := id hX1; clear hXc)
        | (go_at_call 14; refine (HSMS.out _ _ hX1 hT2).mono ?_; rintro e w' ⟨rfl, hb⟩; have acc := acc.trans (hb.mono acc.size); clear hb)
        | (go_at_call 7; refine (hwks _).mono ?_; rintro e w' ⟨rfl, hb⟩; have acc := acc.trans (hb.mono acc.size); clear hb))
      all_goals go_ret
      all_goals exact ⟨rfl, acc⟩

/-! ### From the walk to the statement -/
theorem own : ownKnob Try.prog.godebug = none := by kernel_rfl
set_option maxRecDepth 100000 in
theorem lifted (os : Os) (started : os.Started) (H : Type) (enc : TypeId × Value → H) :
    ReturnsInHanded {} Try.checked os 4 .any (Rows.segCutSpec.pre6 enc Try.prog Try.f4 Rows.segCutRow.domain false) (Rows.segCutSpec.post enc Try.prog Try.f4 false true false false) := by
  refine returnsInHanded_of_change_sized (C := Try.checked) own started (by kernel_rfl) Try.func4
    (ChangeSpec.witness6 (enc := enc) (C := Try.checked) false ⟨#[], #[.slice none 0 0, .int .u16 0], []⟩ 8 (by kernel_rfl) (by kernel_rfl) (by kernel_rfl) (by kernel_rfl)) ?_
  intro W base args ds gs before hval0 hW hcnd hsz0 _
  have hval : ∀ (j : Nat) t v, Try.f4.params[j]? = some t → args[j]? = some v → Value.okWide Try.prog W .any base t v := hval0
  have hsz : (DataW.weightsEach Try.prog (Try.f4.params.toList ++ Rows.segCutSpec.plain.varTypes Try.prog) (ds ++ gs)).all (· ≤ reachBytes) = true := hsz0
  have hW' := hW
  obtain ⟨p, q, hA0, hV, rfl, hfz, hnd⟩ := hW
  have hA : DataW.TrodAll enc Try.prog W 0 (fun _ => true) true Try.f4.params.toList args.toList ds p := hA0
  rw [Try.params4] at hA hval hsz
  obtain ⟨v0, vs0, d0, ds0, p0, q0, hargs, rfl, rfl, h0, r0⟩ := trodAll_cons hA
  obtain ⟨v1, vs1, d1, ds1, p1, q1, rfl, rfl, rfl, h1, r1⟩ := trodAll_cons r0
  obtain ⟨rfl, rfl, rfl⟩ := trodAll_nil r1
  obtain rfl : args = #[v0, v1] := by cases args; simp_all
  obtain ⟨rfl, rfl⟩ := trodVars_none hV
  have h0k := h0
  have hlt0 : ∀ x ∈ p0, x.block < W.heap.size := fun x hx => hW'.lt x (by simp [hx])
  obtain ⟨ba0, bn0, bc0, rfl⟩ := okWide_slice Try.underlying29 (hval 0 29 v0 rfl rfl)
  obtain ⟨fuel0, hf0⟩ := h0
  obtain ⟨a0, hT0, n0, m0⟩ := open_texts (c := bc0) hf0 (fun n hn => by have := List.all_eq_true.1 hsz n (DataW.weights_mem_each (j := 0) (t := 29) rfl rfl n hn); simpa using this)
  obtain ⟨a1, rfl, rfl, rfl, w1⟩ := open_int Try.underlying34 (hval 1 34 v1 rfl rfl) h1
  clear hA0 hval0 hsz0
  refine (walk a0 a1 w1 hT0 n0 m0 W rfl).mono fun e W' ⟨he, bel⟩ => ?_
  subst he
  exact ⟨_, rfl, _, _, _, [], _, [], hW', trodAll_mk1 (shut_bool Try.underlying4 _), (trodAll_cons_mk (Below.trod (show laidOutB Try.prog = true by kernel_rfl) (by kernel_rfl) (of_decide_eq_true (by kernel_rfl)) h0k bel hlt0) (trodAll_cons_mk (shut_int Try.underlying34 w1) trodAll_mk0)), rfl, bel.frame _, fun h => by cases h⟩

theorem over : Rows.segCutRow.holds Try.pinned (OpenSpec.ofChange Rows.segCutSpec) :=
  OpenClaim.holds_of_wide 4 Try.f4 rfl rfl rfl rfl rfl rfl rfl ⟨rfl, rfl, rfl, rfl, rfl⟩ rfl rfl rfl rfl rfl (by kernel_rfl) Try.func4 (by kernel_rfl)
    (of_decide_eq_true (by kernel_rfl)) (by unfold Func.isWrapper; first | (rw [if_pos (by decide +kernel)]; kernel_rfl) | (rw [if_neg (by decide +kernel)]; exact ⟨rfl, rfl⟩))
    (fun os started H enc _ => lifted os started H enc)

/-- THE STATEMENT -/
theorem proved : Rows.SegCutSaid := over

end Go.Proofs.Ythimjdknafgfbaa.segCut
