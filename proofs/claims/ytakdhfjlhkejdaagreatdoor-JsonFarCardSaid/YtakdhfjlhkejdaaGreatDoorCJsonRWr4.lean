/-
  CONTRACTS of codicilref02's May, Print, Quote. (gen_rwr4.py writes it.)
-/
import Derived.Test.YtakdhfjlhkejdaaGreatDoorCJsonRWr3
set_option linter.unusedSimpArgs false
set_option linter.unusedVariables false
set_option linter.unusedVariables false
set_option linter.unusedSimpArgs false
namespace Go.Proofs.YtakdhfjlhkejdaaGreatDoor
open Go.RowKit
set_option maxRecDepth 10000000 in
set_option maxHeartbeats 8000000 in
theorem refMay_any (v : JV) (c0 c1 c2 c3 : Value) (w : World) (hv : IsV w 0 v c0 c1 c2 c3) (hB : bndV v) (hs : sizeV v ≤ 1000000000) (hk : keysV v ≤ 1000000000000) (hl : lettV v ≤ 1000000000) :
    Calls Tryz.prog 20 #[.agg #[c0, c1, c2, c3]] w fun e w' => e = .returned (.int .i64 (refE v)) ∧ Below w.heap.size w w' := by
  have hv2 := hv
  obtain ⟨k0, t0, ka, kl, kc, la, ll, lc, rfl, rfl, rfl, rfl⟩ := hv.shape
  have hV := fun (w2 : World) (hb : Below w.heap.size w w2) => IsV.stays (Below.stays hb 0) (Nat.le_refl 0) _ _ _ _ _ hv2
  have cF := fun (w2 : World) (hb : Below w.heap.size w w2) => refForm_any (sizeV v) v (Nat.le_refl _) _ _ _ _ w2 (hV w2 hb) hB (by omega) hk
  have cV := fun (w2 : World) (hb : Below w.heap.size w w2) => refValidV_any (sizeV v) v (Nat.le_refl _) _ _ _ _ w2 (hV w2 hb) hB (by omega) hk
  have cO := fun (w2 : World) (hb : Below w.heap.size w w2) => refOnce_any (sizeV v) v (Nat.le_refl _) _ _ _ _ w2 (hV w2 hb) (by omega) hk
  have cN := fun (w2 : World) (hb : Below w.heap.size w w2) => refNest_any (sizeV v) v (Nat.le_refl _) _ _ _ _ w2 (hV w2 hb) (by omega)
  have cC := fun (w2 : World) (hb : Below w.heap.size w w2) => refCount_any (sizeV v) v (Nat.le_refl _) _ _ _ _ w2 (hV w2 hb) (by omega)
  have cT := fun (w2 : World) (hb : Below w.heap.size w w2) (hf : formV v = true) => refText_any (sizeV v) v (Nat.le_refl _) _ _ _ _ w2 (hV w2 hb) hf hl hs
  have hnl := nestV_le v
  have htl := textV_len v
  have hb0 : Below w.heap.size w (w.alloc (.cells #[.int .u8 (k0 : Nat), .string t0, .slice ka kl kc, .slice la ll lc] 26)) := (Below.refl w.heap.size w).alloc (Nat.le_refl _) _
  have hx0 : RB (w.alloc (.cells #[.int .u8 (k0 : Nat), .string t0, .slice ka kl kc, .slice la ll lc] 26)) w.heap.size (.int .u8 (k0 : Nat)) (.string t0) (.slice ka kl kc) (.slice la ll lc) := RB.new w _ _ _ _
  clear hv hv2 hV
  cases hf : formV v
  · have E : Hid (refE v = 8) := Lib.hid (by unfold refE; rw [if_pos hf])
    rw [hf] at cF
    go_enter Tryz.func20, Tryz.ntmps20
    go_wp2_with (first
      | (go_at_call 47; refine (cF _ hb0).mono ?_; rintro e w1 ⟨rfl, h1⟩; have hb1 := hb0.trans (h1.mono hb0.size); have hx1 := hx0.below h1; obtain ⟨a10, a11, a12, a13⟩ := RB.cells hx1))
    go_ret
    exact ⟨ret_int E.out.symm, hb1⟩
  have HF := Lib.hid hf
  rw [hf] at cF
  cases hu : utfV v
  · have E : Hid (refE v = 24) := Lib.hid (by unfold refE; rw [if_neg (by rw [hf]; decide), if_pos hu])
    rw [hu] at cV
    clear hf hu
    go_enter Tryz.func20, Tryz.ntmps20
    go_wp2_with (first
      | (go_at_call 47; refine (cF _ hb0).mono ?_; rintro e w1 ⟨rfl, h1⟩; have hb1 := hb0.trans (h1.mono hb0.size); have hx1 := hx0.below h1; obtain ⟨a10, a11, a12, a13⟩ := RB.cells hx1)
      | (go_at_call 48; refine (cV _ hb1).mono ?_; rintro e w2 ⟨rfl, h2⟩; have hb2 := hb1.trans (h2.mono hb1.size); have hx2 := hx1.below h2; obtain ⟨a20, a21, a22, a23⟩ := RB.cells hx2))
    go_ret
    exact ⟨ret_int E.out.symm, hb2⟩
  rw [hu] at cV
  cases ht : twiceV v
  rotate_left
  · have E : Hid (refE v = 25) := Lib.hid (by unfold refE; rw [if_neg (by rw [hf]; decide), if_neg (by rw [hu]; decide), if_pos ht])
    rw [ht] at cO
    clear hf hu ht
    go_enter Tryz.func20, Tryz.ntmps20
    go_wp2_with (first
      | (go_at_call 47; refine (cF _ hb0).mono ?_; rintro e w1 ⟨rfl, h1⟩; have hb1 := hb0.trans (h1.mono hb0.size); have hx1 := hx0.below h1; obtain ⟨a10, a11, a12, a13⟩ := RB.cells hx1)
      | (go_at_call 48; refine (cV _ hb1).mono ?_; rintro e w2 ⟨rfl, h2⟩; have hb2 := hb1.trans (h2.mono hb1.size); have hx2 := hx1.below h2; obtain ⟨a20, a21, a22, a23⟩ := RB.cells hx2)
      | (go_at_call 49; refine (cO _ hb2).mono ?_; rintro e w3 ⟨rfl, h3⟩; have hb3 := hb2.trans (h3.mono hb2.size); have hx3 := hx2.below h3; obtain ⟨a30, a31, a32, a33⟩ := RB.cells hx3))
    go_ret
    exact ⟨ret_int E.out.symm, hb3⟩
  rw [ht] at cO
  by_cases hn : 48 < nestV v
  · have E : Hid (refE v = 26) := Lib.hid (by unfold refE; rw [if_neg (by rw [hf]; decide), if_neg (by rw [hu]; decide), if_neg (by rw [ht]; decide), if_pos hn])
    have hn2 : (48 : Int) < (nestV v : Int) := by omega
    generalize nestV v = nv at *
    clear hf hu ht
    go_enter Tryz.func20, Tryz.ntmps20
    go_wp2_with (first
      | (go_at_call 47; refine (cF _ hb0).mono ?_; rintro e w1 ⟨rfl, h1⟩; have hb1 := hb0.trans (h1.mono hb0.size); have hx1 := hx0.below h1; obtain ⟨a10, a11, a12, a13⟩ := RB.cells hx1)
      | (go_at_call 48; refine (cV _ hb1).mono ?_; rintro e w2 ⟨rfl, h2⟩; have hb2 := hb1.trans (h2.mono hb1.size); have hx2 := hx1.below h2; obtain ⟨a20, a21, a22, a23⟩ := RB.cells hx2)
      | (go_at_call 49; refine (cO _ hb2).mono ?_; rintro e w3 ⟨rfl, h3⟩; have hb3 := hb2.trans (h3.mono hb2.size); have hx3 := hx2.below h3; obtain ⟨a30, a31, a32, a33⟩ := RB.cells hx3)
      | (go_at_call 50; refine (cN _ hb3).mono ?_; rintro e w4 ⟨rfl, h4⟩; have hb4 := hb3.trans (h4.mono hb3.size); have hx4 := hx3.below h4; obtain ⟨a40, a41, a42, a43⟩ := RB.cells hx4))
    go_ret
    exact ⟨ret_int E.out.symm, hb4⟩
  by_cases hc : 4096 < sizeV v
  · have E : Hid (refE v = 27) := Lib.hid (by unfold refE; rw [if_neg (by rw [hf]; decide), if_neg (by rw [hu]; decide), if_neg (by rw [ht]; decide), if_neg hn, if_pos hc])
    have hn2 : ¬ ((48 : Int) < (nestV v : Int)) := by omega
    have hc2 : (4096 : Int) < (sizeV v : Int) := by omega
    generalize nestV v = nv at *
    generalize sizeV v = sv at *
    clear hf hu ht hn
    go_enter Tryz.func20, Tryz.ntmps20
    go_wp2_with (first
      | (go_at_call 47; refine (cF _ hb0).mono ?_; rintro e w1 ⟨rfl, h1⟩; have hb1 := hb0.trans (h1.mono hb0.size); have hx1 := hx0.below h1; obtain ⟨a10, a11, a12, a13⟩ := RB.cells hx1)
      | (go_at_call 48; refine (cV _ hb1).mono ?_; rintro e w2 ⟨rfl, h2⟩; have hb2 := hb1.trans (h2.mono hb1.size); have hx2 := hx1.below h2; obtain ⟨a20, a21, a22, a23⟩ := RB.cells hx2)
      | (go_at_call 49; refine (cO _ hb2).mono ?_; rintro e w3 ⟨rfl, h3⟩; have hb3 := hb2.trans (h3.mono hb2.size); have hx3 := hx2.below h3; obtain ⟨a30, a31, a32, a33⟩ := RB.cells hx3)
      | (go_at_call 50; refine (cN _ hb3).mono ?_; rintro e w4 ⟨rfl, h4⟩; have hb4 := hb3.trans (h4.mono hb3.size); have hx4 := hx3.below h4; obtain ⟨a40, a41, a42, a43⟩ := RB.cells hx4)
      | (go_at_call 51; refine (cC _ hb4).mono ?_; rintro e w5 ⟨rfl, h5⟩; have hb5 := hb4.trans (h5.mono hb4.size); have hx5 := hx4.below h5; obtain ⟨a50, a51, a52, a53⟩ := RB.cells hx5))
    go_ret
    exact ⟨ret_int E.out.symm, hb5⟩
  have hTz : (ByteArray.mk (textV v).toArray).size = (textV v).length := by rw [Lib.size_eq]
  by_cases hx : 65536 < (textV v).length
  · have E : Hid (refE v = 4) := Lib.hid (by unfold refE; rw [if_neg (by rw [hf]; decide), if_neg (by rw [hu]; decide), if_neg (by rw [ht]; decide), if_neg hn, if_neg hc, if_pos hx])
    have hn2 : ¬ ((48 : Int) < (nestV v : Int)) := by omega
    have hc2 : ¬ ((4096 : Int) < (sizeV v : Int)) := by omega
    have hx2 : (65536 : Int) < ((ByteArray.mk (textV v).toArray).size : Int) := by omega
    generalize ByteArray.mk (textV v).toArray = T at *
    generalize nestV v = nv at *
    generalize sizeV v = sv at *
    clear hf hu ht hn hc hx hTz htl
    go_enter Tryz.func20, Tryz.ntmps20
    go_wp2_with (first
      | (go_at_call 47; refine (cF _ hb0).mono ?_; rintro e w1 ⟨rfl, h1⟩; have hb1 := hb0.trans (h1.mono hb0.size); have hx1 := hx0.below h1; obtain ⟨a10, a11, a12, a13⟩ := RB.cells hx1)
      | (go_at_call 48; refine (cV _ hb1).mono ?_; rintro e w2 ⟨rfl, h2⟩; have hb2 := hb1.trans (h2.mono hb1.size); have hx2 := hx1.below h2; obtain ⟨a20, a21, a22, a23⟩ := RB.cells hx2)
      | (go_at_call 49; refine (cO _ hb2).mono ?_; rintro e w3 ⟨rfl, h3⟩; have hb3 := hb2.trans (h3.mono hb2.size); have hx3 := hx2.below h3; obtain ⟨a30, a31, a32, a33⟩ := RB.cells hx3)
      | (go_at_call 50; refine (cN _ hb3).mono ?_; rintro e w4 ⟨rfl, h4⟩; have hb4 := hb3.trans (h4.mono hb3.size); have hx4 := hx3.below h4; obtain ⟨a40, a41, a42, a43⟩ := RB.cells hx4)
      | (go_at_call 51; refine (cC _ hb4).mono ?_; rintro e w5 ⟨rfl, h5⟩; have hb5 := hb4.trans (h5.mono hb4.size); have hx5 := hx4.below h5; obtain ⟨a50, a51, a52, a53⟩ := RB.cells hx5)
      | (go_at_call 43; refine (cT _ hb5 HF.out).mono ?_; rintro e w6 ⟨rfl, h6⟩; have hb6 := hb5.trans (h6.mono hb5.size); have hx6 := hx5.below h6; obtain ⟨a60, a61, a62, a63⟩ := RB.cells hx6))
    go_ret
    exact ⟨ret_int E.out.symm, hb6⟩
  · have E : Hid (refE v = 0) := Lib.hid (by unfold refE; rw [if_neg (by rw [hf]; decide), if_neg (by rw [hu]; decide), if_neg (by rw [ht]; decide), if_neg hn, if_neg hc, if_neg hx])
    have hn2 : ¬ ((48 : Int) < (nestV v : Int)) := by omega
    have hc2 : ¬ ((4096 : Int) < (sizeV v : Int)) := by omega
    have hx2 : ¬ ((65536 : Int) < ((ByteArray.mk (textV v).toArray).size : Int)) := by omega
    generalize ByteArray.mk (textV v).toArray = T at *
    generalize nestV v = nv at *
    generalize sizeV v = sv at *
    clear hf hu ht hn hc hx hTz htl
    go_enter Tryz.func20, Tryz.ntmps20
    go_wp2_with (first
      | (go_at_call 47; refine (cF _ hb0).mono ?_; rintro e w1 ⟨rfl, h1⟩; have hb1 := hb0.trans (h1.mono hb0.size); have hx1 := hx0.below h1; obtain ⟨a10, a11, a12, a13⟩ := RB.cells hx1)
      | (go_at_call 48; refine (cV _ hb1).mono ?_; rintro e w2 ⟨rfl, h2⟩; have hb2 := hb1.trans (h2.mono hb1.size); have hx2 := hx1.below h2; obtain ⟨a20, a21, a22, a23⟩ := RB.cells hx2)
      | (go_at_call 49; refine (cO _ hb2).mono ?_; rintro e w3 ⟨rfl, h3⟩; have hb3 := hb2.trans (h3.mono hb2.size); have hx3 := hx2.below h3; obtain ⟨a30, a31, a32, a33⟩ := RB.cells hx3)
      | (go_at_call 50; refine (cN _ hb3).mono ?_; rintro e w4 ⟨rfl, h4⟩; have hb4 := hb3.trans (h4.mono hb3.size); have hx4 := hx3.below h4; obtain ⟨a40, a41, a42, a43⟩ := RB.cells hx4)
      | (go_at_call 51; refine (cC _ hb4).mono ?_; rintro e w5 ⟨rfl, h5⟩; have hb5 := hb4.trans (h5.mono hb4.size); have hx5 := hx4.below h5; obtain ⟨a50, a51, a52, a53⟩ := RB.cells hx5)
      | (go_at_call 43; refine (cT _ hb5 HF.out).mono ?_; rintro e w6 ⟨rfl, h6⟩; have hb6 := hb5.trans (h6.mono hb5.size); have hx6 := hx5.below h6; obtain ⟨a60, a61, a62, a63⟩ := RB.cells hx6))
    go_ret
    exact ⟨ret_int E.out.symm, hb6⟩
theorem pr_zero {v : JV} (h : prE v = 0) : checkE v = 0 := by
  unfold prE printE at h
  split at h
  · assumption
  · rename_i h0
    exact absurd h h0
set_option maxRecDepth 10000000 in
set_option maxHeartbeats 8000000 in
theorem refPrint_any (v : JV) (c0 c1 c2 c3 : Value) (w : World) (hv : IsV w 0 v c0 c1 c2 c3) (hB : bndV v) (hs : sizeV v ≤ 1000000000) (hk : keysV v ≤ 1000000000000) (hl : lettV v ≤ 1000000000) :
    Calls Tryz.prog 16 #[.agg #[c0, c1, c2, c3]] w fun e w' => e = .returned (.tuple #[.string (prS v), .int .i64 (prE v)]) ∧ Below w.heap.size w w' := by
  have hv2 := hv
  obtain ⟨k0, t0, ka, kl, kc, la, ll, lc, rfl, rfl, rfl, rfl⟩ := hv.shape
  have hV := fun (w2 : World) (hb : Below w.heap.size w w2) => IsV.stays (Below.stays hb 0) (Nat.le_refl 0) _ _ _ _ _ hv2
  have cM := fun (w2 : World) (hb : Below w.heap.size w w2) => refMay_any v _ _ _ _ w2 (hV w2 hb) hB hs hk hl
  rw [ref_pr] at cM
  have cT := fun (w2 : World) (hb : Below w.heap.size w w2) (hf : formV v = true) => refText_any (sizeV v) v (Nat.le_refl _) _ _ _ _ w2 (hV w2 hb) hf hl hs
  have hb0 : Below w.heap.size w (w.alloc (.cells #[.int .u8 (k0 : Nat), .string t0, .slice ka kl kc, .slice la ll lc] 26)) := (Below.refl w.heap.size w).alloc (Nat.le_refl _) _
  have hx0 : RB (w.alloc (.cells #[.int .u8 (k0 : Nat), .string t0, .slice ka kl kc, .slice la ll lc] 26)) w.heap.size (.int .u8 (k0 : Nat)) (.string t0) (.slice ka kl kc) (.slice la ll lc) := RB.new w _ _ _ _
  clear hv hv2 hV
  by_cases h0 : prE v = 0
  · have ES := Lib.hid (prS_yes h0)
    have HF := Lib.hid (checkE_ok (pr_zero h0)).1
    have EE := Lib.hid h0
    rw [h0] at cM
    generalize ByteArray.mk (textV v).toArray = T at *
    clear h0
    go_enter Tryz.func16, Tryz.ntmps16
    go_wp2_with (first
      | (go_at_call 20; refine (cM _ hb0).mono ?_; rintro e w1 ⟨rfl, h1⟩; have hb1 := hb0.trans (h1.mono hb0.size); have hx1 := hx0.below h1; obtain ⟨a0, a1, a2, a3⟩ := RB.cells hx1)
      | (go_at_call 43; refine (cT _ hb1 HF.out).mono ?_; rintro e w2 ⟨rfl, h2⟩))
    go_ret2
    exact ⟨ret_se ES.out.symm EE.out.symm, hb1.trans (h2.mono hb1.size)⟩
  · have ES := Lib.hid (prS_no h0)
    have hb : (prE v == 0) = false := beq_false_of_ne h0
    have hb2 : (prE v != 0) = true := by simp [bne, hb]
    generalize prE v = pe at *
    clear h0
    go_enter Tryz.func16, Tryz.ntmps16
    go_wp2_with (go_at_call 20; refine (cM _ hb0).mono ?_; rintro e w1 ⟨rfl, h1⟩; have hb1 := hb0.trans (h1.mono hb0.size))
    go_ret2
    exact ⟨ret_se ES.out.symm rfl, hb1⟩
set_option maxRecDepth 10000000 in
set_option maxHeartbeats 8000000 in
theorem refQuote_any (s : ByteArray) (w : World) (hs : s.size ≤ 1000000000000) :
    Calls Tryz.prog 18 #[.string s] w fun e w' => e = .returned (.tuple #[.string (quotS s), .int .i64 (quotE s)]) ∧ Below w.heap.size w w' := by
  have cV := fun w => refValid_any s w (by unfold maxLen; omega)
  have cQ := fun w => refQuoted_any s w hs
  have hb0 : Below w.heap.size w w := Below.refl _ _
  cases hv : validB s
  · have Hf := Lib.hid (quot_bad hv)
    rw [hv] at cV
    go_enter Tryz.func18, Tryz.ntmps18
    go_wp2_with (go_at_call 32; refine (cV _).mono ?_; rintro e w1 ⟨rfl, h1⟩)
    go_ret2
    exact ⟨ret_se Hf.out.1.symm Hf.out.2.symm, h1⟩
  · rw [hv] at cV
    have hg := quot_good hv
    by_cases hfit : (ByteArray.mk (quoL s.data.toList).toArray).size ≤ 65536
    · have Hf := Lib.hid hg
      have Hy := Lib.hid (fit_yes hfit)
      have hx2 : ¬ ((65536 : Int) < ((ByteArray.mk (quoL s.data.toList).toArray).size : Int)) := by omega
      clear hg hv
      generalize ByteArray.mk (quoL s.data.toList).toArray = Q at *
      go_enter Tryz.func18, Tryz.ntmps18
      go_wp2_with (first
        | (go_at_call 32; refine (cV _).mono ?_; rintro e w1 ⟨rfl, h1⟩)
        | (go_at_call 46; refine (cQ _).mono ?_; rintro e w2 ⟨rfl, h2⟩))
      go_ret2
      exact ⟨ret_se (by rw [Hf.out.1, Hy.out.1]) (by rw [Hf.out.2, Hy.out.2]), h1.trans (h2.mono h1.size)⟩
    · have Hf := Lib.hid hg
      have Hy := Lib.hid (fit_no hfit)
      have hx2 : (65536 : Int) < ((ByteArray.mk (quoL s.data.toList).toArray).size : Int) := by omega
      clear hg hv
      generalize ByteArray.mk (quoL s.data.toList).toArray = Q at *
      go_enter Tryz.func18, Tryz.ntmps18
      go_wp2_with (first
        | (go_at_call 32; refine (cV _).mono ?_; rintro e w1 ⟨rfl, h1⟩)
        | (go_at_call 46; refine (cQ _).mono ?_; rintro e w2 ⟨rfl, h2⟩))
      go_ret2
      exact ⟨ret_se (by rw [Hf.out.1, Hy.out.1]) (by rw [Hf.out.2, Hy.out.2]), h1.trans (h2.mono h1.size)⟩
end Go.Proofs.YtakdhfjlhkejdaaGreatDoor
