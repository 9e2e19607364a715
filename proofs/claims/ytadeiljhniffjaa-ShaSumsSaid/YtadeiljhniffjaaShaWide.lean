/-
  CONTRACTS of the document's numbers of three words: times, add, above.
-/
import Derived.Test.YtadeiljhniffjaaShaRow
import Derived.Test.YtadeiljhniffjaaShaWideM
namespace Go.Proofs.Ytadeiljhniffjaa
open Go.RowKit
set_option linter.unusedVariables false
theorem Try.size3 : (Try.prog.info? 54).map (·.size) = some 3 := by kernel_rfl

theorem AR.new1 {k : IntKind} {ty : TypeId} (w : World) (L : List Int) : AR k ty (w.alloc (.cells (L.map (Value.int k)).toArray ty)) w.heap.size L := heap_alloc_new _ _
theorem AR.new2 {k : IntKind} {ty : TypeId} (w : World) (A : Obj) (L : List Int) : AR k ty ((w.alloc A).alloc (.cells (L.map (Value.int k)).toArray ty)) (w.heap.size + 1) L := heap_alloc2_new _ _ _
theorem AR.new3 {k : IntKind} {ty : TypeId} (w : World) (A B : Obj) (L : List Int) : AR k ty (((w.alloc A).alloc B).alloc (.cells (L.map (Value.int k)).toArray ty)) (w.heap.size + 2) L := by
  have h := AR.new2 (k := k) (ty := ty) (w.alloc A) B L
  have e : (w.alloc A).heap.size = w.heap.size + 1 := by show (w.heap.push A).size = _; simp
  rw [e] at h
  exact h
theorem AR.new4 {k : IntKind} {ty : TypeId} (w : World) (A B C : Obj) (L : List Int) : AR k ty ((((w.alloc A).alloc B).alloc C).alloc (.cells (L.map (Value.int k)).toArray ty)) (w.heap.size + 3) L := by
  have h := AR.new3 (k := k) (ty := ty) (w.alloc A) B C L
  have e : (w.alloc A).heap.size = w.heap.size + 1 := by show (w.heap.push A).size = _; simp
  rw [e] at h
  exact h
set_option maxHeartbeats 1000000 in
set_option maxRecDepth 10000000 in
theorem times_any (N b : Nat) (w : World) (hb : b < 4294967296) (hN : N < 6277101735386680763835789423207666416102355444464034512896) (hNb : N * b < 6277101735386680763835789423207666416102355444464034512896) :
    Calls Try.prog 33 #[.agg ((w3 N).map (.int .u64)).toArray, .int .u64 b] w fun r w' => r = .returned (.agg ((w3 (N * b)).map (.int .u64)).toArray) ∧ Below w.heap.size w w' := by
  obtain ⟨X, hX⟩ : ∃ X, X = w3 N := ⟨_, rfl⟩
  rw [← hX]
  have lX : X.length = 3 := by rw [hX]; rfl
  have XX := Lib.hid hX
  clear hX
  go_enter Try.func33, Try.ntmps33
  go_wp2
  go_loopw [6, 7] (fun vc vi wr => ∃ (i : Nat) (L : List Int), vi = .int .i64 i ∧ i ≤ 3 ∧ L.length = 3 ∧ L.take i = (w3 (N * b)).take i ∧ (i < 3 → vc = .int .u64 (cT N b i : Nat)) ∧ (∃ z : Int, vc = .int .u64 z) ∧
      AR .u64 54 wr w.heap.size X ∧ AR .u64 54 wr (w.heap.size + 1) (List.replicate 3 0) ∧ AR .u64 54 wr (w.heap.size + 2) L ∧ Below w.heap.size w wr) (fun _ vi _ => 3 - (intOf vi).toNat)
  case atStart =>
    refine ⟨0, List.replicate 3 0, rfl, by omega, rfl, rfl, fun _ => rfl, ⟨0, rfl⟩, ?_, ?_, ?_, ?_⟩
    · exact AR.alloc (AR.alloc (heap_alloc_new w _) _) _
    · exact AR.alloc (AR.new2 w _ (List.replicate 3 0)) _
    · exact AR.new3 w _ _ (List.replicate 3 0)
    · exact (((Below.refl _ _).alloc (Nat.le_refl _) _).alloc (by simp) _).alloc (by simp; omega) _
  case round =>
    obtain ⟨i, L, rfl, hi, hL, hT, hc, ⟨z, rfl⟩, hA, hR, hO, hB⟩ := hrel
    by_cases hlt : i < 3
    · have hz := hc hlt
      injection hz with _ hz
      subst hz
      have hx := hA.cell (j := i) (by omega)
      have ho := hO.cell (j := i) (by omega)
      have hof := hO.free i
      have hw := times_word hlt hb hNb
      have hxl := wd_lt (i := i) hN
      have hcl := cT_lt (N := N) (i := i) hb
      rw [XX.out, w3_get N i hlt] at hx
      have hwl := w3_get (N * b) i hlt
      have TT := Lib.hid hT
      have WW := Lib.hid hw
      have WL := Lib.hid hwl
      clear hc hT hw hwl
      generalize wd N i = x at hx hxl WW
      generalize hcc : cT N b i = c at hcl WW
      have TV := Lib.hid (times_val hxl hb hcl)
      clear hxl hcl
      go_wp2
      go_roundw
      case rel =>
        refine ⟨i + 1, L.set i ((((x * b + c) % 18446744073709551616 : Nat) : Int)), by go_num, by omega, by simpa using hL, ?_, ?_, ⟨_, rfl⟩, ?_, ?_, ?_, ?_⟩
        · rw [take_set_on (by omega), TT.out, ← WW.out.1, ← WL.out, List.take_add_one]
          congr 1
          simp [List.getD, List.getElem?_eq_getElem (show i < (w3 (N * b)).length by rw [w3_len]; omega)]
        · intro h3
          by_cases h2 : i < 2
          · rw [TV.out.2, ← WW.out.2 h2]
          · omega
        · exact hA.other (by show w.heap.size ≠ w.heap.size + 2; omega) _
        · exact hR.other (by show w.heap.size + 1 ≠ w.heap.size + 2; omega) _
        · rw [TV.out.1]; exact hO.set i _
        · exact hB.setCell (p := ⟨w.heap.size + 2, i, none⟩) (by simp) _
      case measure => simp [intOf]; omega
    · have hi3 : i = 3 := by omega
      have hT3 : L = w3 (N * b) := by
        rw [hi3, List.take_of_length_le (by omega)] at hT
        rw [hT]; rfl
      have TT := Lib.hid hT3
      have A9 := hR.row L
      have B9 := below_row hB (Nat.le_succ w.heap.size) (L.map (Value.int .u64)).toArray
      have hsz := Try.size3.trans (congrArg some (AR.size .u64 L hL).symm)
      have hold : (((List.replicate 3 (0 : Int)).map (Value.int .u64)).toArray).size = ((L.map (Value.int .u64)).toArray).size := by rw [AR.size _ _ hL]; rfl
      clear hc hT hi3 hT3
      go_wp2_with (first | (refine wpList_load_row rfl 54 (.tmp 5) rfl (w.heap.size + 2) rfl 54 _ (0, 0) _ hO Try.underlying54 rfl hsz ?_) | (refine wpList_store_row rfl 54 (.tmp 4) _ rfl (w.heap.size + 1) (L.map (Value.int .u64)).toArray rfl rfl 54 _ hR hsz hold (AR.all _ _) ?_))
      refine bodyPost_ret (v := .agg (L.map (Value.int .u64)).toArray) ?_ rfl ⟨by rw [TT.out], B9⟩
      exact results_cell_row rfl _ _ (w.heap.size + 1) 54 _ (0, 0) _ rfl A9 Try.underlying54 rfl hsz

theorem below4 (w : World) (A B C D : Obj) : Below w.heap.size w ((((w.alloc A).alloc B).alloc C).alloc D) :=
  ((((Below.refl _ _).alloc (Nat.le_refl _) _).alloc (by simp) _).alloc (by simp; omega) _).alloc (by simp; omega) _

set_option maxHeartbeats 1000000 in
set_option maxRecDepth 10000000 in
theorem add_any (N M : Nat) (w : World) (hNM : N + M < 6277101735386680763835789423207666416102355444464034512896) :
    Calls Try.prog 34 #[.agg ((w3 N).map (.int .u64)).toArray, .agg ((w3 M).map (.int .u64)).toArray] w fun r w' => r = .returned (.agg ((w3 (N + M)).map (.int .u64)).toArray) ∧ Below w.heap.size w w' := by
  obtain ⟨X, hX⟩ : ∃ X, X = w3 N := ⟨_, rfl⟩
  rw [← hX]
  have lX : X.length = 3 := by rw [hX]; rfl
  have XX := Lib.hid hX
  obtain ⟨Y, hY⟩ : ∃ Y, Y = w3 M := ⟨_, rfl⟩
  rw [← hY]
  have lY : Y.length = 3 := by rw [hY]; rfl
  have YY := Lib.hid hY
  clear hX hY
  go_enter Try.func34, Try.ntmps34
  go_wp2
  go_loopw [6, 7] (fun vc vi wr => ∃ (i : Nat) (L : List Int), vi = .int .i64 i ∧ i ≤ 3 ∧ L.length = 3 ∧ L.take i = (w3 (N + M)).take i ∧ (i < 3 → vc = .int .u64 (cA N M i : Nat)) ∧ (∃ z : Int, vc = .int .u64 z) ∧
      AR .u64 54 wr w.heap.size X ∧ AR .u64 54 wr (w.heap.size + 1) Y ∧ AR .u64 54 wr (w.heap.size + 2) (List.replicate 3 0) ∧ AR .u64 54 wr (w.heap.size + 3) L ∧ Below w.heap.size w wr) (fun _ vi _ => 3 - (intOf vi).toNat)
  case atStart =>
    refine ⟨0, List.replicate 3 0, rfl, by omega, rfl, rfl, fun _ => rfl, ⟨0, rfl⟩, ?_, ?_, ?_, ?_, below4 _ _ _ _ _⟩
    · exact AR.alloc (AR.alloc (AR.alloc (heap_alloc_new w _) _) _) _
    · exact AR.alloc (AR.alloc (AR.new2 w _ Y) _) _
    · exact AR.alloc (AR.new3 w _ _ (List.replicate 3 0)) _
    · exact AR.new4 w _ _ _ (List.replicate 3 0)
  case round =>
    obtain ⟨i, L, rfl, hi, hL, hT, hc, ⟨z, rfl⟩, hA, hA2, hR, hO, hB⟩ := hrel
    by_cases hlt : i < 3
    · have hz := hc hlt
      injection hz with _ hz
      subst hz
      have hx := hA.cell (j := i) (by omega)
      have hy := hA2.cell (j := i) (by omega)
      have ho := hO.cell (j := i) (by omega)
      have hof := hO.free i
      have hw := add_word hlt hNM
      have hxl := wd_lt (i := i) (show N < _ by omega)
      have hyl := wd_lt (i := i) (show M < _ by omega)
      have hcl := cA_le N M i
      rw [XX.out, w3_get N i hlt] at hx
      rw [YY.out, w3_get M i hlt] at hy
      have hwl := w3_get (N + M) i hlt
      have TT := Lib.hid hT
      have WW := Lib.hid hw
      have WL := Lib.hid hwl
      clear hc hT hw hwl
      generalize wd N i = x at hx hxl WW
      generalize wd M i = y at hy hyl WW
      generalize hcc : cA N M i = c at hcl WW
      obtain ⟨s, hs⟩ : ∃ s, s = (x + y) % 18446744073709551616 := ⟨_, rfl⟩
      obtain ⟨t, ht⟩ : ∃ t, t = (s + c) % 18446744073709551616 := ⟨_, rfl⟩
      have e1 : IntKind.u64.wrap ((x : Int) + (y : Int)) = (s : Int) := by rw [wrap64u]; omega
      have e2 : IntKind.u64.wrap ((s : Int) + (c : Int)) = (t : Int) := by rw [wrap64u]; omega
      have wt : t = (x + y + c) % 18446744073709551616 := by omega
      have cc : (x + y + c) / 18446744073709551616 = if s < x ∨ t < s then 1 else 0 := by rw [ht, hs, ← add_carry hxl hyl hcl]
      have WT := Lib.hid wt
      have CC := Lib.hid cc
      clear wt cc hs ht hxl hyl hcl
      by_cases q1 : s < x
      · have q1i : (s : Int) < (x : Int) := by omega
        have CV : (x + y + c) / 18446744073709551616 = 1 := by rw [CC.out, if_pos (.inl q1)]
        have CH := Lib.hid CV
        clear CV q1
        go_wp2
        go_region
        go_wp2
        go_roundw
        case rel =>
          refine ⟨i + 1, L.set i (t : Int), by go_num, by omega, by simpa using hL, ?_, ?_, ⟨_, rfl⟩, ?_, ?_, ?_, ?_, ?_⟩
          · rw [take_set_on (by omega), TT.out, WT.out, ← WW.out.1, ← WL.out, List.take_add_one]
            congr 1
            simp [List.getD, List.getElem?_eq_getElem (show i < (w3 (N + M)).length by rw [w3_len]; omega)]
          · intro h3
            rw [WW.out.2 (by omega), CH.out]
            rfl
          · exact (hA.other (by show w.heap.size ≠ w.heap.size + 3; omega) _).drew
          · exact (hA2.other (by show w.heap.size + 1 ≠ w.heap.size + 3; omega) _).drew
          · exact (hR.other (by show w.heap.size + 2 ≠ w.heap.size + 3; omega) _).drew
          · exact (hO.set i _).drew
          · exact (hB.setCell (p := ⟨w.heap.size + 3, i, none⟩) (by simp) _).drew
        case measure => simp [intOf]; omega
      · have q1i : ¬ (s : Int) < (x : Int) := by omega
        by_cases q2 : t < s
        · have q2i : (t : Int) < (s : Int) := by omega
          have CV : (x + y + c) / 18446744073709551616 = 1 := by rw [CC.out, if_pos (.inr q2)]
          have CH := Lib.hid CV
          clear CV q2 q1
          go_wp2
          go_region
          go_wp2
          go_roundw
          case rel =>
            refine ⟨i + 1, L.set i (t : Int), by go_num, by omega, by simpa using hL, ?_, ?_, ⟨_, rfl⟩, ?_, ?_, ?_, ?_, ?_⟩
            · rw [take_set_on (by omega), TT.out, WT.out, ← WW.out.1, ← WL.out, List.take_add_one]
              congr 1
              simp [List.getD, List.getElem?_eq_getElem (show i < (w3 (N + M)).length by rw [w3_len]; omega)]
            · intro h3
              rw [WW.out.2 (by omega), CH.out]
              rfl
            · exact (hA.other (by show w.heap.size ≠ w.heap.size + 3; omega) _).drew
            · exact (hA2.other (by show w.heap.size + 1 ≠ w.heap.size + 3; omega) _).drew
            · exact (hR.other (by show w.heap.size + 2 ≠ w.heap.size + 3; omega) _).drew
            · exact (hO.set i _).drew
            · exact (hB.setCell (p := ⟨w.heap.size + 3, i, none⟩) (by simp) _).drew
          case measure => simp [intOf]; omega

        · have q2i : ¬ (t : Int) < (s : Int) := by omega
          have CV : (x + y + c) / 18446744073709551616 = 0 := by rw [CC.out, if_neg (by rintro (h | h) <;> omega)]
          have CH := Lib.hid CV
          clear CV q2 q1
          go_wp2
          go_region
          go_wp2
          go_roundw
          case rel =>
            refine ⟨i + 1, L.set i (t : Int), by go_num, by omega, by simpa using hL, ?_, ?_, ⟨_, rfl⟩, ?_, ?_, ?_, ?_, ?_⟩
            · rw [take_set_on (by omega), TT.out, WT.out, ← WW.out.1, ← WL.out, List.take_add_one]
              congr 1
              simp [List.getD, List.getElem?_eq_getElem (show i < (w3 (N + M)).length by rw [w3_len]; omega)]
            · intro h3
              rw [WW.out.2 (by omega), CH.out]
              rfl
            · exact (hA.other (by show w.heap.size ≠ w.heap.size + 3; omega) _).drew
            · exact (hA2.other (by show w.heap.size + 1 ≠ w.heap.size + 3; omega) _).drew
            · exact (hR.other (by show w.heap.size + 2 ≠ w.heap.size + 3; omega) _).drew
            · exact (hO.set i _).drew
            · exact (hB.setCell (p := ⟨w.heap.size + 3, i, none⟩) (by simp) _).drew
          case measure => simp [intOf]; omega

    · have hi3 : i = 3 := by omega
      have hT3 : L = w3 (N + M) := by
        rw [hi3, List.take_of_length_le (by omega)] at hT
        rw [hT]; rfl
      have TT := Lib.hid hT3
      have A9 := hR.row L
      have B9 := below_row hB (show w.heap.size ≤ w.heap.size + 2 by omega) (L.map (Value.int .u64)).toArray
      have hsz := Try.size3.trans (congrArg some (AR.size .u64 L hL).symm)
      have hold : (((List.replicate 3 (0 : Int)).map (Value.int .u64)).toArray).size = ((L.map (Value.int .u64)).toArray).size := by rw [AR.size _ _ hL]; rfl
      clear hc hT hi3 hT3
      go_wp2_with (first | (refine wpList_load_row rfl 54 (.tmp 5) rfl (w.heap.size + 3) rfl 54 _ (0, 0) _ hO Try.underlying54 rfl hsz ?_) | (refine wpList_store_row rfl 54 (.tmp 4) _ rfl (w.heap.size + 2) (L.map (Value.int .u64)).toArray rfl rfl 54 _ hR hsz hold (AR.all _ _) ?_))
      refine bodyPost_ret (v := .agg (L.map (Value.int .u64)).toArray) ?_ rfl ⟨by rw [TT.out], B9⟩
      exact results_cell_row rfl _ _ (w.heap.size + 2) 54 _ (0, 0) _ rfl A9 Try.underlying54 rfl hsz

set_option maxHeartbeats 1000000 in
set_option maxRecDepth 10000000 in
theorem above_any (N M : Nat) (w : World) (hN : N < 6277101735386680763835789423207666416102355444464034512896) (hM : M < 6277101735386680763835789423207666416102355444464034512896) :
    Calls Try.prog 29 #[.agg ((w3 N).map (.int .u64)).toArray, .agg ((w3 M).map (.int .u64)).toArray] w fun r w' => r = .returned (.bool (decide (M < N))) ∧ Below w.heap.size w w' := by
  obtain ⟨X, hX⟩ : ∃ X, X = w3 N := ⟨_, rfl⟩
  rw [← hX]
  have lX : X.length = 3 := by rw [hX]; rfl
  have XX := Lib.hid hX
  obtain ⟨Y, hY⟩ : ∃ Y, Y = w3 M := ⟨_, rfl⟩
  rw [← hY]
  have lY : Y.length = 3 := by rw [hY]; rfl
  have YY := Lib.hid hY
  clear hX hY
  go_enter Try.func29, Try.ntmps29
  go_wp2
  go_loopw [5] (fun vi wr => ∃ i : Nat, vi = .int .i64 ((i : Int) - 1) ∧ i ≤ 3 ∧ (∀ j, i ≤ j → j < 3 → wd N j = wd M j) ∧
      AR .u64 54 wr w.heap.size X ∧ AR .u64 54 wr (w.heap.size + 1) Y ∧ Below w.heap.size w wr) (fun vi _ => (intOf vi + 1).toNat)
  case atStart =>
    exact ⟨3, rfl, by omega, fun j h1 h2 => by omega, AR.alloc (heap_alloc_new w _) _, AR.new2 w _ Y, ((Below.refl _ _).alloc (Nat.le_refl _) _).alloc (by simp) _⟩
  case round =>
    obtain ⟨i, rfl, hi, he, hA, hA2, hB⟩ := hrel
    rcases i with _ | i
    · have E := Lib.hid (same_words (N := N) (M := M) (fun j hj => he j (by omega) hj))
      clear he
      rw [show ((0 : Nat) : Int) - 1 = -1 from rfl]
      go_wp2
      go_ret
      exact ⟨by rw [E.out]; rfl, hB⟩
    · have hx := hA.cell (j := i) (by omega)
      have hy := hA2.cell (j := i) (by omega)
      rw [XX.out, w3_get N i (by omega)] at hx
      rw [YY.out, w3_get M i (by omega)] at hy
      have hii : (((i + 1 : Nat) : Int) - 1) = (i : Int) := by omega
      rw [hii]
      clear hii
      by_cases hq : wd N i = wd M i
      · have HE := Lib.hid he
        have HQ := Lib.hid hq
        rw [← hq] at hy
        clear he hq
        generalize wd N i = x at hx hy
        go_wp2
        go_region
        all_goals go_wp2
        all_goals go_roundw
        case rel => exact ⟨i, rfl, by omega, fun j h1 h2 => by
          rcases Nat.lt_or_ge i j with h | h
          · exact HE.out j (by omega) h2
          · rw [show j = i by omega]; exact HQ.out, hA, hA2, hB.drew⟩
        case measure => simp [intOf]
      · have E := Lib.hid (above_word (i := i) (by omega) hN hM (fun j h1 h2 => he j (by omega) h2) hq)
        clear he
        generalize wd N i = x at hx hq E
        generalize wd M i = y at hy hq E
        have hq' : ((x : Int) != (y : Int)) = true := by rw [bne_iff_ne]; omega
        clear hq
        go_wp2
        go_region
        all_goals go_wp2
        all_goals (try go_region)
        all_goals (try go_wp2)
        all_goals go_ret
        all_goals exact ⟨by rw [E.out]; rfl, hB.drew.drew⟩
end Go.Proofs.Ytadeiljhniffjaa
