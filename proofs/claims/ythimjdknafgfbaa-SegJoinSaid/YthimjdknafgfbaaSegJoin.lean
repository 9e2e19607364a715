/-
  For all texts and all bytes codicillaw07.SegJoin returns true: frames that stand behind others are read behind them. No conditions.
-/
import Derived.Test.YthimjdknafgfbaaSegOpen
namespace Go.Proofs.Ythimjdknafgfbaa.segJoin
open Go.ChangeShapes Go.WideShapes Go.ChangeAt Go.RowKit
open Go.ChangeMaps (open_string shut_string)
set_option linter.unusedVariables false

set_option linter.unusedSimpArgs false in
set_option maxHeartbeats 4000000 in
set_option maxRecDepth 10000000 in
theorem walk (L : List (List UInt8)) (a1 : ByteArray) {v : Value} (w1 : a1.size ≤ maxLen) (z1 : a1.size ≤ reachBytes) {w : World} (hT : IsT w L v) (hn : L.length ≤ 1000000000000000) (hm : ∀ t ∈ L, t.length ≤ 140737488355328) (w' : World) (hw : w = w') :
    Calls Try.prog 6 #[v, .string a1] w fun e w' => e = .returned (.bool true) ∧ Below w.heap.size w w' := by
  clear hw w'
  have hwks := works_any
  unfold reachBytes at z1
  have acc : Below w.heap.size w w := Below.refl _ _
  have cZ := size_any L v w hT hn hm
  by_cases hbig : 8192 < sizeT L
  · have hb2 : (8192 : Int) < (sizeT L : Int) := by omega
    generalize sizeT L = z at *
    clear w1 hm
    go_enter Try.func6, Try.ntmps6
    go_wp2_with (first
      | (go_at_call 15; refine cZ.mono ?_; rintro e w' ⟨rfl, rfl⟩)
      | (go_at_call 7; refine (hwks _).mono ?_; rintro e w' ⟨rfl, hb⟩; have acc := acc.trans (hb.mono acc.size); clear hb))
    go_ret
    exact ⟨rfl, acc⟩
  have hb3 : (sizeT L : Int) ≤ 8192 := by omega
  have hsml := sizeT_small (L := L) (by omega)
  generalize sizeT L = z at *
  by_cases hbig1 : 16384 < a1.size
  · have hb2 : (16384 : Int) < (a1.size : Int) := by omega
    clear w1 hm hsml
    go_enter Try.func6, Try.ntmps6
    go_wp2_with (first
      | (go_at_call 15; refine cZ.mono ?_; rintro e w' ⟨rfl, rfl⟩)
      | (go_at_call 7; refine (hwks _).mono ?_; rintro e w' ⟨rfl, hb⟩; have acc := acc.trans (hb.mono acc.size); clear hb))
    go_ret
    exact ⟨rfl, acc⟩
  have hs1 : (a1.size : Int) ≤ 16384 := by omega
  have cF := frames_any L v w hT hsml.1 hsml.2
  have hfl := small_frames hsml
  have hsc := scan_frames L (small_each hsml.2) a1.data.toList
  obtain ⟨fr, hfr⟩ : ∃ fr, fr = bOf (framesL L) := ⟨_, rfl⟩
  have hfs : fr.size = (framesL L).length := by rw [hfr, bOf_size]
  have hfx : (fr ++ a1).data.toList = framesL L ++ a1.data.toList := by rw [ByteArray.data_append, Array.toList_append, hfr, bOf_list]
  rw [← hfr] at cF
  have cX := fun w => scan_any (fr ++ a1) w (by rw [ByteArray.size_append]; omega)
  have cY := fun w => scan_any a1 w (by omega)
  unfold scanV at cX cY
  rw [hfx, hsc] at cX
  have hcnt := scan_cnt _ a1.data.toList (Nat.le_refl _)
  rw [← Lib.size_eq] at hcnt
  have hgd := scan_good _ a1.data.toList (Nat.le_refl _)
  rw [← Lib.size_eq] at hgd
  generalize scanL a1.data.toList = q at *
  obtain ⟨Q, qn, qe⟩ := q
  simp only at cX cY hcnt hgd
  have h63 : ¬ 9223372036854775807 < fr.size + a1.size := by omega
  rw [← hfs] at cX
  have hL100 := hsml.1
  have hQ : Q.length ≤ 2000 := by omega
  have hfm : fr.size ≤ 10000 := by omega
  have hTL : (L ++ Q).take L.length = L := List.take_left
  have hDL : (L ++ Q).drop L.length = Q := List.drop_left
  have hLQ : (L ++ Q).length = L.length + Q.length := List.length_append
  have HT := Lib.hid hTL
  have HD := Lib.hid hDL
  have HQ := Lib.hid hLQ
  obtain ⟨av, cv, rfl, hcv, hTc⟩ := id hT
  clear hTc
  clear w1 hm hsml hfl hsc hfr hfs hfx hcnt hbig hbig1 hTL hDL hLQ
  go_enter Try.func6, Try.ntmps6
  go_upto_region 8 with (first
    | (go_at_call 15; refine cZ.mono ?_; rintro e w' ⟨rfl, rfl⟩)
    | (go_at_call 16; refine cF.mono ?_; rintro e w' ⟨rfl, hb⟩; have acc := acc.trans (hb.mono acc.size); have hT1 := hT.keep hb; clear hb)
    | (go_at_call_of 12 (Value.string (fr ++ a1)); refine (cX _).mono ?_; rintro e w' ⟨v1, rfl, hO, hb⟩; have acc := acc.trans (hb.mono acc.size); have hT2 := hT1.keep hb; have hX1 := hO.isT; clear hb hO)
    | (go_at_call_of 12 (Value.string a1); refine (cY _).mono ?_; rintro e w' ⟨v2, rfl, hO, hb⟩; have acc := acc.trans (hb.mono acc.size); have hT3 := hT2.keep hb; have hX2 := hX1.keep hb; have hY2 := hO.isT; clear hb hO))
  obtain ⟨ax, cx, rfl, hcx, hXc⟩ := id hX2
  clear hXc
  obtain ⟨ay, cy, rfl, hcy, hYc⟩ := id hY2
  clear hYc
  rw [HQ.out] at hX2 hcx ⊢
  have e1 := fun w => run_slHi (a := ax) (n := L.length + Q.length) (c := cx) L.length (by omega) w
  have e2 := fun w => run_slLo (a := ax) (n := L.length + Q.length) (c := cx) L.length (by omega) hcx w
  have hX3 := hX2.take (k := L.length) (by omega)
  have hX4 := hX2.drop (k := L.length) (by omega)
  rw [HT.out] at hX3
  rw [HD.out] at hX4
  generalize (if cx = L.length then ax else ax.map (·.add (L.length * 1))) = ax2 at *
  generalize L.length + Q.length - L.length = nq at *
  trace_state
  go_wp2_with (first
    | (go_at_call_of 14 (Value.slice ax L.length cx); refine (same_any _ _ _ _ _ hX3 hT3 (by omega)).mono ?_; rintro e w' ⟨rfl, hb⟩; have acc := acc.trans (hb.mono acc.size); have hX5 := hX4.keep hb; have hY3 := hY2.keep hb; clear hb)
    | (go_at_call 14; refine (same_any _ _ _ _ _ hX5 hY3 (by omega)).mono ?_; rintro e w' ⟨rfl, hb⟩; have acc := acc.trans (hb.mono acc.size); clear hb)
    | (go_at_call 7; refine (hwks _).mono ?_; rintro e w' ⟨rfl, hb⟩; have acc := acc.trans (hb.mono acc.size); clear hb))
  go_ret
  exact ⟨rfl, acc⟩

/-! ### From the walk to the statement -/
theorem own : ownKnob Try.prog.godebug = none := by kernel_rfl
set_option maxRecDepth 100000 in
theorem lifted (os : Os) (started : os.Started) (H : Type) (enc : TypeId × Value → H) :
    ReturnsInHanded {} Try.checked os 6 .any (Rows.segJoinSpec.pre6 enc Try.prog Try.f6 Rows.segJoinRow.domain false) (Rows.segJoinSpec.post enc Try.prog Try.f6 false true false false) := by
  refine returnsInHanded_of_change_sized (C := Try.checked) own started (by kernel_rfl) Try.func6
    (ChangeSpec.witness6 (enc := enc) (C := Try.checked) false ⟨#[], #[.slice none 0 0, .string ByteArray.empty], []⟩ 8 (by kernel_rfl) (by kernel_rfl) (by kernel_rfl) (by kernel_rfl)) ?_
  intro W base args ds gs before hval0 hW hcnd hsz0 _
  have hval : ∀ (j : Nat) t v, Try.f6.params[j]? = some t → args[j]? = some v → Value.okWide Try.prog W .any base t v := hval0
  have hsz : (DataW.weightsEach Try.prog (Try.f6.params.toList ++ Rows.segJoinSpec.plain.varTypes Try.prog) (ds ++ gs)).all (· ≤ reachBytes) = true := hsz0
  have hW' := hW
  obtain ⟨p, q, hA0, hV, rfl, hfz, hnd⟩ := hW
  have hA : DataW.TrodAll enc Try.prog W 0 (fun _ => true) true Try.f6.params.toList args.toList ds p := hA0
  rw [Try.params6] at hA hval hsz
  obtain ⟨v0, vs0, d0, ds0, p0, q0, hargs, rfl, rfl, h0, r0⟩ := trodAll_cons hA
  obtain ⟨v1, vs1, d1, ds1, p1, q1, rfl, rfl, rfl, h1, r1⟩ := trodAll_cons r0
  obtain ⟨rfl, rfl, rfl⟩ := trodAll_nil r1
  obtain rfl : args = #[v0, v1] := by cases args; simp_all
  obtain ⟨rfl, rfl⟩ := trodVars_none hV
  have h0k := h0
  have hlt0 : ∀ x ∈ p0, x.block < W.heap.size := fun x hx => hW'.lt x (by simp [hx])
  obtain ⟨ba0, bn0, bc0, rfl⟩ := okWide_slice Try.underlying29 (hval 0 29 v0 rfl rfl)
  obtain ⟨fuel0, hf0⟩ := h0
  obtain ⟨a0, hT0, n0, m0⟩ := open_texts (c := bc0) hf0 (fun n hn => by have := List.all_eq_true.1 hsz n (DataW.weights_mem_each (j := 0) (t := 29) rfl rfl n hn); simpa using this)
  obtain ⟨a1, rfl, rfl, rfl, w1⟩ := open_string Try.underlying9 (hval 1 9 v1 rfl rfl) h1
  have z1 : a1.size ≤ reachBytes := by
    rw [Lib.size_eq]
    exact sized_string hsz (j := 1) (t := 9) rfl rfl
  clear hA0 hval0 hsz0
  refine (walk a0 a1 w1 z1 hT0 n0 m0 W rfl).mono fun e W' ⟨he, bel⟩ => ?_
  subst he
  exact ⟨_, rfl, _, _, _, [], _, [], hW', trodAll_mk1 (shut_bool Try.underlying4 _), (trodAll_cons_mk (Below.trod (show laidOutB Try.prog = true by kernel_rfl) (by kernel_rfl) (of_decide_eq_true (by kernel_rfl)) h0k bel hlt0) (trodAll_cons_mk (shut_string Try.underlying9 w1) trodAll_mk0)), rfl, bel.frame _, fun h => by cases h⟩

theorem over : Rows.segJoinRow.holds Try.pinned (OpenSpec.ofChange Rows.segJoinSpec) :=
  OpenClaim.holds_of_wide 6 Try.f6 rfl rfl rfl rfl rfl rfl rfl ⟨rfl, rfl, rfl, rfl, rfl⟩ rfl rfl rfl rfl rfl (by kernel_rfl) Try.func6 (by kernel_rfl)
    (of_decide_eq_true (by kernel_rfl)) (by unfold Func.isWrapper; first | (rw [if_pos (by decide +kernel)]; kernel_rfl) | (rw [if_neg (by decide +kernel)]; exact ⟨rfl, rfl⟩))
    (fun os started H enc _ => lifted os started H enc)

/-- THE STATEMENT -/
theorem proved : Rows.SegJoinSaid := over

end Go.Proofs.Ythimjdknafgfbaa.segJoin
