/-
  CONTRACT of sha.taken.
-/
import Derived.Test.YtadeiljhniffjaaShaWords
import Derived.Test.YtadeiljhniffjaaShaMixed
namespace Go.Proofs.Ytadeiljhniffjaa
open Go.RowKit

theorem empty_of {s : ByteArray} (h : s.size = 0) : s.toList.isEmpty = true := by
  rw [Lib.toList_data, List.isEmpty_iff]
  exact List.eq_nil_of_length_eq_zero (by rw [← Lib.size_eq]; exact h)
theorem empty_not {s : ByteArray} (h : s.size ≠ 0) : s.toList.isEmpty = false := by
  rw [Lib.toList_data]
  cases e : s.data.toList with
  | nil => rw [Lib.size_eq, e] at h; simp at h
  | cons a t => rfl
theorem from_dataS (s : ByteArray) (pos : Nat) : (s.extract pos s.size).data.toList = s.data.toList.drop pos := by
  rw [Lib.extract_data, List.take_of_length_le (by rw [List.length_drop, ← Lib.size_eq]; omega)]
theorem mixed_row (H W K : List Int) (lH : H.length = 8) (bw bk : Nat) (w : World) (hW : AR .u32 31 w bw W) (hK : AR .u32 31 w bk K) (lW : W.length = 64) (lK : K.length = 64) :
    Calls Try.prog 22 #[.agg (H.map (Value.int .u32)).toArray, .pointer (some ⟨bw, 0, none⟩), .pointer (some ⟨bk, 0, none⟩)] w
      fun r w' => r = .returned (.agg ((mixN K W 64 H).map (Value.int .u32)).toArray) ∧ Below w.heap.size w w' := by
  obtain ⟨a, b, c, d, e, f, g, i, rfl⟩ := eight lH
  exact mixed_any a b c d e f g i W K bw bk w hW hK lW lK
set_option maxRecDepth 10000000 in
set_option maxHeartbeats 2000000 in
theorem taken_any (H K : List Int) (s : ByteArray) (n bk : Nat) (w : World) (lH : H.length = 8) (hK : AR .u32 31 w bk K) (lK : K.length = 64) (hs : s.size = 64 * n) (hm : s.size ≤ maxLen) :
    Calls Try.prog 14 #[.agg (H.map (Value.int .u32)).toArray, .string s, .pointer (some ⟨bk, 0, none⟩)] w
      fun r w' => r = .returned (.agg ((foldS K n H s).map (Value.int .u32)).toArray) ∧ Below w.heap.size w w' := by
  unfold maxLen at hm
  obtain ⟨F, hF⟩ : ∃ F, F = foldS K n H s := ⟨_, rfl⟩
  rw [← hF]
  have HF := Lib.hid hF
  clear hF
  have LH := Lib.hid lH
  clear lH
  have LK := Lib.hid lK
  clear lK
  go_enter Try.func14, Try.ntmps14
  go_wp2
  go_loopw [1] (fun v wr => ∃ (n' : Nat) (H' : List Int) (s' : ByteArray), v = .string s' ∧ s'.size = 64 * n' ∧ s'.size ≤ s.size ∧ F = foldS K n' H' s' ∧ H'.length = 8 ∧ AR .u32 33 wr w.heap.size H' ∧ AR .u32 33 wr (w.heap.size + 1) (List.replicate 8 0) ∧ Below w.heap.size w wr) (fun v _ => strSz v)
  case atStart =>
    exact ⟨n, _, s, rfl, hs, Nat.le_refl _, HF.out, LH.out, heap_alloc2_old _ _ _, heap_alloc2_new _ _ _, ((Below.refl _ _).alloc (Nat.le_refl _) _).alloc (by simp) _⟩
  case round =>
    clear hs HF LH
    obtain ⟨n', H', s', rfl, hs, hle, hF, lH, hA, hR, hB⟩ := hrel
    have HF := Lib.hid hF
    have LH := Lib.hid lH
    have HS := Lib.hid hs
    clear hF lH
    by_cases hz : n' = 0
    · have hE := empty_of (s := s') (by omega)
      subst hz
      clear hs
      have A9 := hR.row H'
      have B9 : Below w.heap.size w (wr.setRow (w.heap.size + 1) (H'.map (Value.int .u32)).toArray) := below_row hB (Nat.le_succ _) _
      have hsz := Try.size8.trans (congrArg some (AR.size .u32 H' LH.out).symm)
      have hold : (((List.replicate 8 (0 : Int)).map (Value.int .u32)).toArray).size = ((H'.map (Value.int .u32)).toArray).size := by rw [AR.size _ _ LH.out]; rfl
      go_wp2_with (first | (refine wpList_load_row rfl 33 (.tmp 3) rfl w.heap.size rfl 33 _ (0, 0) _ hA Try.underlying33 rfl hsz ?_) | (refine wpList_store_row rfl 33 (.tmp 6) _ rfl (w.heap.size + 1) (H'.map (Value.int .u32)).toArray rfl rfl 33 _ hR hsz hold (AR.all _ _) ?_))
      refine bodyPost_ret (v := .agg (H'.map (Value.int .u32)).toArray) ?_ rfl ⟨by rw [HF.out]; rfl, B9⟩
      exact results_cell_row rfl _ _ (w.heap.size + 1) 33 _ (0, 0) _ rfl A9 Try.underlying33 rfl hsz
    · have hE := empty_not (s := s') (by omega)
      have h64 : 64 ≤ s'.size := by omega
      clear hs
      obtain ⟨ws, hws⟩ : ∃ ws, ws = wordsN 48 (w16 s' 16) := ⟨_, rfl⟩
      have lws : ws.length = 64 := by rw [hws, wordsN_len]; simp [w16]
      have hwa := words_any s' wr h64 (by unfold maxLen; omega)
      rw [← hws] at hwa
      obtain ⟨M, hM⟩ : ∃ M, M = mixN K ws 64 H' := ⟨_, rfl⟩
      have lM : M.length = 8 := by rw [hM]; exact mixN_len 64 LH.out
      have hma := fun (b : Nat) (w : World) h1 h2 => mixed_row H' ws K LH.out b bk w h1 h2 lws LK.out
      rw [← hM] at hma
      have hsz := Try.size8.trans (congrArg some (AR.size .u32 H' LH.out).symm)
      have hsw := Try.size64.trans (congrArg some (AR.size .u32 ws lws).symm)
      have hold : (((List.replicate 64 (0 : Int)).map (Value.int .u32)).toArray).size = ((ws.map (Value.int .u32)).toArray).size := by rw [AR.size _ _ lws]; rfl
      have LM := Lib.hid lM
      have WS := Lib.hid hws
      have EM := Lib.hid hM
      clear lM hws hM lws
      go_wp2_with (first | (go_at_call 21; refine hwa.mono ?_; rintro r w1 ⟨rfl, hb1⟩; have Z1 := heap_alloc_new w1 (.cells (((List.replicate 64 (0 : Int)).map (Value.int .u32)).toArray) 31); have B1 := (hB.trans (hb1.mono hB.size)); have B2 := (B1.alloc B1.size (.cells (((List.replicate 64 (0 : Int)).map (Value.int .u32)).toArray) 31)); have B3 := below_row B2 B1.size (ws.map (Value.int .u32)).toArray; have A1 := ((hA.below hb1 hA.lt).alloc (.cells (((List.replicate 64 (0 : Int)).map (Value.int .u32)).toArray) 31)).rowOther (g' := w1.heap.size) (by have := (hA.below hb1 hA.lt).lt; omega) (ws.map (Value.int .u32)).toArray) | (refine wpList_store_row rfl 31 (.tmp 7) _ rfl w1.heap.size (ws.map (Value.int .u32)).toArray rfl rfl 31 _ Z1 hsw hold (AR.all _ _) ?_) | (refine wpList_load_row rfl 33 (.tmp 3) rfl w.heap.size rfl 33 _ (0, 0) _ A1 Try.underlying33 rfl hsz ?_))
      refine (hma w1.heap.size _ (setRow_heap _ _ _ _ _ _ Z1) (hK.below B3 hK.lt)).mono ?_
      rintro r w3 ⟨rfl, hb3⟩
      have R1 := ((hR.below hb1 hR.lt).alloc (.cells (((List.replicate 64 (0 : Int)).map (Value.int .u32)).toArray) 31)).rowOther (g' := w1.heap.size) (by have := (hR.below hb1 hR.lt).lt; omega) (ws.map (Value.int .u32)).toArray
      have A3 := A1.below hb3 A1.lt
      have R3 := R1.below hb3 R1.lt
      have B4 := B3.trans (hb3.mono B3.size)
      clear hb1 Z1 B1 B2 B3 A1 R1 hb3 hma hwa hsw hold hA hR hB
      clear hsz
      go_wp2
      go_loopw [19] (fun v wx => ∃ (j : Nat), v = .int .i64 j ∧ j ≤ 8 ∧ AR .u32 33 wx w.heap.size (addAt H' M j) ∧ AR .u32 33 wx (w.heap.size + 1) (List.replicate 8 0) ∧ Below w.heap.size w wx) (fun v _ => 8 - (intOf v).toNat)
      case atStart => exact ⟨0, rfl, by omega, by rw [addAt_zero]; exact A3, R3, B4⟩
      case round =>
        clear A3 R3 B4
        obtain ⟨j, rfl, hj, A3, R3, B4⟩ := hrel
        by_cases hlt : j < 8
        · have hix := fun (wy : World) => run_index_row 33 30 8 .u32 M j wy Try.underlying33 Try.underlying30 (by kernel_rfl) LM.out hlt
          have hc := A3.cell (j := j) (by rw [addAt_len LH.out LM.out (by omega)]; exact hlt)
          rw [addAt_get LH.out LM.out hlt] at hc
          have hf := A3.free j
          have EE := Lib.hid (addAt_on LH.out LM.out hlt)
          generalize H'.getD j 0 = x at hc EE
          generalize M.getD j 0 = y at hix EE
          go_wp2
          go_roundw
          case rel => exact ⟨j + 1, by go_num, by omega, by rw [← EE.out]; exact A3.set j _, R3.other (by simp) _, B4.setCell (p := ⟨w.heap.size, j, none⟩) (Nat.le_refl _) _⟩
          case measure => simp [intOf]; omega
        · have h8 : j = 8 := by omega
          rw [h8, addAt_all LH.out LM.out] at A3
          clear h8
          go_wp2
          go_roundw
          case rel =>
            have hs := HS.out
            have hn : n' = (n' - 1) + 1 := by omega
            refine ⟨n' - 1, _, _, rfl, ?_, ?_, ?_, addL_len LH.out LM.out, A3, R3, B4⟩
            · rw [Lib.size_eq, from_dataS, List.length_drop, ← Lib.size_eq]; omega
            · rw [Lib.size_eq, from_dataS, List.length_drop, ← Lib.size_eq]; omega
            · rw [HF.out, hn, foldS, Nat.add_sub_cancel]
              unfold blockF
              rw [← WS.out, ← EM.out]
          case measure =>
            simp only [strSz]
            rw [Lib.size_eq, from_dataS, List.length_drop, ← Lib.size_eq]
            omega
end Go.Proofs.Ytadeiljhniffjaa
