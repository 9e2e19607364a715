/-
  CONTRACT of the document's Sum.
-/
import Derived.Test.YtadeiljhniffjaaShaBlkA
import Derived.Test.YtadeiljhniffjaaShaRoot
import Derived.Test.YtadeiljhniffjaaShaOwn
import Derived.Test.YtadeiljhniffjaaShaSumM
import Derived.Test.YtadeiljhniffjaaShaSmall
namespace Go.Proofs.Ytadeiljhniffjaa
open Go.RowKit
set_option linter.unusedVariables false

theorem own_lt {g n cap B : Nat} (h : g < B) : ∀ g', (Value.slice (some ⟨g, 0, none⟩) n cap).ownBlock = some g' → g' < B := fun g' e => by
  injection e with e
  rw [← e]
  exact h
def by4w (x : Int) : List Int := [IntKind.u8.wrap (x / 16777216), IntKind.u8.wrap (x / 65536), IntKind.u8.wrap (x / 256), IntKind.u8.wrap x]
theorem by4w_eq (x : Int) : by4w x = by4 x := by unfold by4w by4; simp only [IntKind.wrap_u8]
/-- the bytes ahead of the length -/
def preI (s : ByteArray) (j : Nat) : List Int := nI s.data.toList ++ 128 :: List.replicate j 0
theorem preI_len (s : ByteArray) (j : Nat) : (preI s j).length = s.size + 1 + j := by
  unfold preI
  rw [List.length_append, List.length_cons, List.length_replicate, nI_len']
  omega
theorem preI_on (s : ByteArray) (j : Nat) : preI s j ++ [0] = preI s (j + 1) := by
  unfold preI
  rw [List.append_assoc, List.cons_append, List.replicate_succ']
theorem preI_msg (s : ByteArray) : preI s (szP s.size - 9) ++ lastB (bitsN s.size) 8 = msgI s := by
  unfold preI msgI padI
  rw [List.append_assoc]
theorem pad_stop {n j : Nat} (hj : j ≤ szP n - 9) (h : (n + 1 + j) % 64 = 56) : j = szP n - 9 := by
  have := szP_rng n
  omega
theorem pad_go {n j : Nat} (hj : j ≤ szP n - 9) (h : ¬ (n + 1 + j) % 64 = 56) : j < szP n - 9 := by
  have := szP_rng n
  omega

set_option linter.unusedSimpArgs false in
set_option maxHeartbeats 8000000 in
set_option maxRecDepth 10000000 in
theorem refSum_any (s : ByteArray) (w : World) (hs : s.size ≤ 1000000) :
    Calls Try.prog 8 #[.string s] w fun r w' => r = .returned (.string (sumP s)) ∧ Below w.heap.size w w' := by
  have hK := fun w => numbers_any 64 3 w (by decide) (by decide) (.inr rfl)
  have hH := fun w => numbers_any 8 2 w (by decide) (by decide) (.inl rfl)
  rw [nums64] at hK
  rw [nums8] at hH
  obtain ⟨FIN, hFIN⟩ : ∃ F, F = postF s := ⟨_, rfl⟩
  have hSP : sumP s = strOfNums (outN FIN) := by rw [hFIN]; rfl
  rw [hSP]
  have FF := Lib.hid (hFIN.trans (post_msg s))
  have hr := szP_rng s.size
  clear hFIN hSP
  have hbit : (s.size : Int) * 8 = bitsN s.size := by unfold bitsN; rw [wrap64u]; omega
  have BI := Lib.hid hbit
  clear hbit
  go_enter Try.func8, Try.ntmps8
  have lK : kL.length = 64 := rfl
  have lH : hL.length = 8 := rfl
  go_wp2_with (go_at_call_of 18 (Value.int .i64 64); refine (hK _).mono ?_; rintro r w1 ⟨vk, rfl, hk, hb1⟩)
  obtain ⟨gk, ck, rfl, hgk1, hgk2, _⟩ := hk.shape (by intro e; cases e)
  rw [lK] at hk ⊢
  go_wp2_with (go_at_call_of 18 (Value.int .i64 8); refine (hH _).mono ?_; rintro r w2 ⟨vh, rfl, hh, hb2⟩)
  obtain ⟨gh, ch, rfl, hgh1, hgh2, _⟩ := hh.shape (by intro e; cases e)
  rw [lH] at hh ⊢
  have hk2 := hk.keep hb2
  have hgk3 : gk < w2.heap.size := Nat.lt_of_lt_of_le hgk2 hb2.size
  have hB2 := hb1.trans (hb2.mono hb1.size)
  have hh2 := hh.mono hb1.size
  clear hk hh hb1 hb2 hK hH lK lH
  rw [BI.out]
  obtain ⟨cap, fz, hcv, hO⟩ := run_bytes s w2 (by unfold maxLen; omega)
  have hb3 : Below w2.heap.size w2 (w2.drew.alloc (.cells (bytesRow s cap) 5 fz)) := (Below.refl _ _).drew.alloc (Nat.le_refl _) _
  have hO : OC .u8 (w2.drew.alloc (.cells (bytesRow s cap) 5 fz)) w2.heap.size w2.heap.size cap (nI s.data.toList) := hO
  generalize hWd : w2.drew.alloc (.cells (bytesRow s cap) 5 fz) = w3 at hcv hO hb3
  have hs2 : s.size ≤ 1000000 := hs
  clear hWd
  rw [hcv]
  simp only [Result.andThen]
  rw [Oper.upon_value]
  go_wp2_with (at_builtin; refine wp_appN el8 rfl (.tmp 19) (.tmp 20) rfl rfl (nI_len' s) hO hb3.size [128] 1 rfl rfl (by decide) (by omega) (by decide) ?_; intro g1 cap1 w4 hO4 hb4)
  have hB4 := hb3.trans hb4
  obtain ⟨z, hz⟩ : ∃ z, z = szP s.size - 9 := ⟨_, rfl⟩
  have hzr : z ≤ 63 := by omega
  have ZZ := Lib.hid hz
  obtain ⟨M, hM⟩ : ∃ M, M = (s.size + szP s.size) / 64 := ⟨_, rfl⟩
  have hMM : s.size + 1 + z + 8 = 64 * M := by omega
  have MM := Lib.hid hMM
  have MD := Lib.hid hM
  clear hcv hO hb3 hb4 hr hM hMM hz
  go_loopw [6] (fun v wr => ∃ j g cap : Nat, v = .slice (some ⟨g, 0, none⟩) (s.size + 1 + j) cap ∧ j ≤ z ∧ OC .u8 wr w2.heap.size g cap (preI s j) ∧ Below w2.heap.size w2 wr) (fun v _ => s.size + 200 - slLen v)
  case atStart => exact ⟨0, g1, cap1, rfl, by omega, hO4, hB4⟩
  case round =>
    clear hO4 hB4
    obtain ⟨j, g, cap, rfl, hj, hO, hB⟩ := hrel
    by_cases hq : (s.size + 1 + j) % 64 = 56
    · have hjz : j = z := by rw [ZZ.out] at hj ⊢; exact pad_stop hj hq
      subst hjz
      have hqi : ((s.size : Int) + 1 + (j : Int)) % 64 = 56 := by omega
      have LBl : (lastB (bitsN s.size) 8).length = 8 := lastB_len _ 8
      clear hq
      go_wp2
      clear hqi
      go_loopw [6, 7] (fun v vi wr => ∃ k g cap : Nat, vi = .int .i64 (7 - (k : Int)) ∧ k ≤ 8 ∧ v = .slice (some ⟨g, 0, none⟩) (s.size + 1 + j + k) cap ∧ OC .u8 wr w2.heap.size g cap (preI s j ++ (lastB (bitsN s.size) 8).take k) ∧ Below w2.heap.size w2 wr) (fun _ vi _ => (intOf vi + 1).toNat)
      case atStart => exact ⟨0, g, cap, rfl, by omega, rfl, by rw [List.take_zero, List.append_nil]; exact hO, hB⟩
      case round =>
        clear hO hB
        obtain ⟨k, g, cap, rfl, hk, rfl, hO, hB⟩ := hrel
        by_cases hlt : k < 8
        · have hsh : (8 * (7 - (k : Int))).toNat = 8 * (7 - k) := by omega
          have hat := lastB_at (bitsN s.size) k hlt
          have htk : (lastB (bitsN s.size) 8).take k ++ [bitsN s.size / 2 ^ (8 * (7 - k)) % 256] = (lastB (bitsN s.size) 8).take (k + 1) := by rw [List.take_add_one, hat]; rfl
          have TK := Lib.hid htk
          have hln : (preI s j ++ (lastB (bitsN s.size) 8).take k).length = s.size + 1 + j + k := by rw [List.length_append, preI_len, List.length_take, LBl]; omega
          have LN := Lib.hid hln
          clear hat htk hln
          generalize bitsN s.size = bb at *
          go_wp2_with (at_builtin; refine wp_appN el8 rfl (.tmp 33) (.tmp 40) rfl rfl LN.out hO hB.size [bb / 2 ^ (8 * (7 - k)) % 256] 1 rfl rfl (by decide) (by omega) (by decide) ?_; intro g2 cap2 w5 hO5 hb5)
          go_roundw
          case rel => exact ⟨k + 1, g2, cap2, by congr 1; omega, by omega, rfl, by rw [← TK.out, ← List.append_assoc]; exact hO5, hB.trans hb5⟩
          case measure => simp [intOf]; omega
        · have hk8 : k = 8 := by omega
          rw [hk8, List.take_of_length_le (by omega), ZZ.out, preI_msg] at hO
          rw [hk8]
          rw [show (7 - ((8 : Nat) : Int)) = -1 from rfl]
          have hT : s.size + 1 + j + 8 = 64 * M := MM.out
          rw [hT]
          clear hk8 hT hk LBl
          have hlm : (msgI s).length = 64 * M := by rw [msgI_len, MD.out]; have := szP_rng s.size; omega
          have LM := Lib.hid hlm
          clear hlm
          have hk3 := hk2.below hB (own_lt hgk3)
          have hh3 := hh2.below hB (own_lt hgh2)
          have hB3 := hB2.trans (hB.mono hB2.size)
          have hO3 : OC .u8 wr w.heap.size g cap (msgI s) := ⟨Nat.le_trans hB2.size hO.base, hO.lt, hO.le, hO.max, hO.cells, hO.there⟩
          have hcapM : 64 * M ≤ cap := by have := hO.le; rw [LM.out] at this; exact this
          have hMb : M ≤ 20000 := by rw [MD.out]; have := szP_rng s.size; omega
          clear hO hB hk2 hh2 hB2
          go_wp2
          go_loopw [4, 8] (fun vh vi wx => ∃ (m gh ch : Nat) (H : List Int), vi = .int .i64 (64 * (m : Int)) ∧ m ≤ M ∧ vh = .slice (some ⟨gh, 0, none⟩) 8 ch ∧ H = foldF kL m hL (msgI s) ∧ OW 30 .u32 wx w.heap.size (.slice (some ⟨gh, 0, none⟩) 8 ch) H ∧ OW 30 .u32 wx w.heap.size (.slice (some ⟨gk, 0, none⟩) 64 ck) kL ∧ OC .u8 wx w.heap.size g cap (msgI s) ∧ Below w.heap.size w wx) (fun _ vi _ => 64 * M - (intOf vi).toNat)
          case atStart => exact ⟨0, gh, ch, hL, rfl, by omega, rfl, rfl, hh3, hk3, hO3, hB3⟩
          case round =>
            clear hh3 hk3 hO3 hB3
            obtain ⟨m, gx, cx, H, rfl, hm, rfl, hF, hh, hk, hO, hB⟩ := hrel
            have HF := Lib.hid hF
            have lH : H.length = 8 := by rw [hF]; exact foldF_len kL m hL _ rfl
            clear hF
            by_cases hlt : m < M
            · have hi1 : (64 * (m : Int)) < 64 * (M : Int) := by omega
              have hi2 : (64 * (m : Int)) + 64 ≤ 64 * (M : Int) := by omega
              have hi3 : 64 * m + 64 ≤ cap := by omega
              have hi4 : 64 * (m : Int) + 64 ≤ (cap : Int) := by omega
              have hi5 : ¬ cap = 64 * m := by omega
              obtain ⟨CH, hCH⟩ : ∃ C, C = ((msgI s).drop (64 * m)).take 64 := ⟨_, rfl⟩
              have lC : CH.length = 64 := by rw [hCH, List.length_take, List.length_drop, LM.out]; omega
              have hcv := run_convert_bytes_arg wr 25 5 Try.underlying25 Try.underlying5 g (64 * m) 64 (cap - 64 * m) CH lC (fun i hi => by
                rw [hO.cells (64 * m + i) (by rw [LM.out]; omega)]
                congr 2
                rw [hCH, List.getD_eq_getElem?_getD, List.getD_eq_getElem?_getD, List.getElem?_take_of_lt hi, List.getElem?_drop]) 9 Try.underlying9
              have hbk := blk_any H kL (strOfNums CH) gx cx gk ck w.heap.size w.heap.size wr (by rw [strOfNums_size]; exact lC) lH rfl hh hk
              have hst : blockF kL H (w16 (strOfNums CH) 16) = foldF kL (m + 1) hL (msgI s) := by rw [hCH, chunk_w, HF.out, foldF_on]
              rw [hst] at hbk
              have lN : (foldF kL (m + 1) hL (msgI s)).length = 8 := foldF_len kL (m + 1) hL _ rfl
              have LN := Lib.hid lN
              generalize hNX : foldF kL (m + 1) hL (msgI s) = NX at hbk LN
              have XN := Lib.hid hNX
              clear hst hCH lC lN hNX lH
              go_wp2_with (go_at_call 19; refine hbk.mono ?_; rintro r w5 ⟨v, rfl, hv, hb5⟩)
              obtain ⟨gn, cn, rfl, hgn1, hgn2, _⟩ := hv.shape (by intro e; have := LN.out; rw [e] at this; cases this)
              rw [LN.out] at hv ⊢
              go_roundw
              case rel => exact ⟨m + 1, gn, cn, NX, by congr 1 <;> omega, by omega, rfl, XN.out.symm, hv.mono hB.size, hk.keep hb5, hO.keep hb5, hB.trans (hb5.mono hB.size)⟩
              case measure => simp [intOf]; omega
            · have hmM : m = M := by omega
              have hHF : H = FIN := by rw [HF.out, FF.out, hmM, MD.out]
              subst hHF
              have LH := Lib.hid lH
              clear hmM hk hO lH HF
              go_wp2
              -- LOOP4
              generalize wr = W4 at hh hB ⊢
              go_loopw [9, 10] (fun v vi wx => ∃ i : Nat, vi = .int .i64 i ∧ i ≤ 8 ∧ OW 5 .u8 wx W4.heap.size v (outN (H.take i)) ∧ Below W4.heap.size W4 wx) (fun _ vi _ => 8 - (intOf vi).toNat)
              case atStart => exact ⟨0, rfl, by omega, OW.nil _ _ _ _, Below.refl _ _⟩
              case round =>
                obtain ⟨i, rfl, hi, hO, hb⟩ := hrel
                by_cases hlt : i < 8
                · have c0 := (hh.keep hb).cellN (j := i) (by rw [LH.out]; exact hlt)
                  obtain ⟨x, hx⟩ : ∃ x, x = H.getD i 0 := ⟨_, rfl⟩
                  rw [← hx] at c0
                  have EE := Lib.hid (outN_on (by rw [LH.out]; exact hlt) hx)
                  have hle : (outN (H.take i)).length ≤ 32 := by rw [outN_len, List.length_take]; omega
                  clear hx
                  generalize outN (H.take i) = xs at hO EE hle
                  have ii : (i : Int) < 8 := by omega
                  have i0 : (0 : Int) ≤ (i : Int) := by omega
                  go_wp2
                  refine wp_region_any (by kernel_rfl) ?_
                  change wpAny _ _ _ _ 27 #[false, false, false, false, false, false, false, false, false, false, false, false, false, false, false, false, false, false, false, false, false, false, false, false, false, false, false] _ (World.drew _)
                  have hS0 : wr.drew.cell? ⟨gx, i, none⟩ = some (.int .u32 x) := c0
                  have hOd := hO.drew
                  have hBd := hb.drew
                  clear c0 hO hb
                  generalize World.drew wr = wd at hS0 hOd hBd ⊢
                  refine wpAny_of_G (k := 25) (S := fun w' => w'.cell? ⟨gx, i, none⟩ = some (.int .u32 x)) _ _ _ _ ?_
                  refine takeG_at (i := 0) (v := ?_) rfl rfl (by kernel_rfl) (by kernel_rfl) (by kernel_rfl) (by kernel_rfl) (by kernel_rfl) (by kernel_rfl) (fun _ _ _ h => h) hS0 (Or.inl ⟨by rfl, ?_⟩) ?_
                  rotate_left
                  · intro wq hwq
                    obtain hs0 := hwq
                    go_simp
                    try with_reducible rfl
                  simp only [Act.put, List.setIfInBounds_toArray, List.set_cons_zero, List.set_cons_succ]
                  refine takeG_at (i := 1) (v := ?_) rfl rfl (by kernel_rfl) (by kernel_rfl) (by kernel_rfl) (by kernel_rfl) (by kernel_rfl) (by kernel_rfl) (fun _ _ _ h => h) hS0 (Or.inl ⟨by rfl, ?_⟩) ?_
                  rotate_left
                  · intro wq hwq
                    obtain hs0 := hwq
                    go_simp
                    try with_reducible rfl
                  simp only [Act.put, List.setIfInBounds_toArray, List.set_cons_zero, List.set_cons_succ]
                  refine takeG_at (i := 2) (v := ?_) rfl rfl (by kernel_rfl) (by kernel_rfl) (by kernel_rfl) (by kernel_rfl) (by kernel_rfl) (by kernel_rfl) (fun _ _ _ h => h) hS0 (Or.inl ⟨by rfl, ?_⟩) ?_
                  rotate_left
                  · intro wq hwq
                    obtain hs0 := hwq
                    go_simp
                    try with_reducible rfl
                  simp only [Act.put, List.setIfInBounds_toArray, List.set_cons_zero, List.set_cons_succ]
                  refine takeG_at (i := 3) (v := ?_) rfl rfl (by kernel_rfl) (by kernel_rfl) (by kernel_rfl) (by kernel_rfl) (by kernel_rfl) (by kernel_rfl) (fun _ _ _ h => h) hS0 (Or.inl ⟨by rfl, ?_⟩) ?_
                  rotate_left
                  · intro wq hwq
                    obtain hs0 := hwq
                    go_simp
                    try with_reducible rfl
                  simp only [Act.put, List.setIfInBounds_toArray, List.set_cons_zero, List.set_cons_succ]
                  refine takeG_at (i := 4) (v := ?_) rfl rfl (by kernel_rfl) (by kernel_rfl) (by kernel_rfl) (by kernel_rfl) (by kernel_rfl) (by kernel_rfl) (fun _ _ _ h => h) hS0 (Or.inl ⟨by rfl, ?_⟩) ?_
                  rotate_left
                  · intro wq hwq
                    obtain hs0 := hwq
                    go_simp
                    try with_reducible rfl
                  simp only [Act.put, List.setIfInBounds_toArray, List.set_cons_zero, List.set_cons_succ]
                  refine takeG_at (i := 5) (v := ?_) rfl rfl (by kernel_rfl) (by kernel_rfl) (by kernel_rfl) (by kernel_rfl) (by kernel_rfl) (by kernel_rfl) (fun _ _ _ h => h) hS0 (Or.inl ⟨by rfl, ?_⟩) ?_
                  rotate_left
                  · intro wq hwq
                    obtain hs0 := hwq
                    go_simp
                    try with_reducible rfl
                  simp only [Act.put, List.setIfInBounds_toArray, List.set_cons_zero, List.set_cons_succ]
                  refine takeG_at (i := 6) (v := ?_) rfl rfl (by kernel_rfl) (by kernel_rfl) (by kernel_rfl) (by kernel_rfl) (by kernel_rfl) (by kernel_rfl) (fun _ _ _ h => h) hS0 (Or.inl ⟨by rfl, ?_⟩) ?_
                  rotate_left
                  · intro wq hwq
                    obtain hs0 := hwq
                    go_simp
                    try with_reducible rfl
                  simp only [Act.put, List.setIfInBounds_toArray, List.set_cons_zero, List.set_cons_succ]
                  refine takeG_at (i := 7) (v := ?_) rfl rfl (by kernel_rfl) (by kernel_rfl) (by kernel_rfl) (by kernel_rfl) (by kernel_rfl) (by kernel_rfl) (fun _ _ _ h => h) hS0 (Or.inl ⟨by rfl, ?_⟩) ?_
                  rotate_left
                  · intro wq hwq
                    obtain hs0 := hwq
                    go_simp
                    try with_reducible rfl
                  simp only [Act.put, List.setIfInBounds_toArray, List.set_cons_zero, List.set_cons_succ]
                  refine takeG_at (i := 8) (v := ?_) rfl rfl (by kernel_rfl) (by kernel_rfl) (by kernel_rfl) (by kernel_rfl) (by kernel_rfl) (by kernel_rfl) (fun _ _ _ h => h) hS0 (Or.inl ⟨by rfl, ?_⟩) ?_
                  rotate_left
                  · intro wq hwq
                    obtain hs0 := hwq
                    go_simp
                    try with_reducible rfl
                  simp only [Act.put, List.setIfInBounds_toArray, List.set_cons_zero, List.set_cons_succ]
                  refine takeG_at (i := 9) (v := ?_) rfl rfl (by kernel_rfl) (by kernel_rfl) (by kernel_rfl) (by kernel_rfl) (by kernel_rfl) (by kernel_rfl) (fun _ _ _ h => h) hS0 (Or.inl ⟨by rfl, ?_⟩) ?_
                  rotate_left
                  · intro wq hwq
                    obtain hs0 := hwq
                    go_simp
                    try with_reducible rfl
                  simp only [Act.put, List.setIfInBounds_toArray, List.set_cons_zero, List.set_cons_succ]
                  refine takeG_at (i := 10) (v := ?_) rfl rfl (by kernel_rfl) (by kernel_rfl) (by kernel_rfl) (by kernel_rfl) (by kernel_rfl) (by kernel_rfl) (fun _ _ _ h => h) hS0 (Or.inl ⟨by rfl, ?_⟩) ?_
                  rotate_left
                  · intro wq hwq
                    obtain hs0 := hwq
                    go_simp
                    try with_reducible rfl
                  simp only [Act.put, List.setIfInBounds_toArray, List.set_cons_zero, List.set_cons_succ]
                  refine takeG_at (i := 11) (v := ?_) rfl rfl (by kernel_rfl) (by kernel_rfl) (by kernel_rfl) (by kernel_rfl) (by kernel_rfl) (by kernel_rfl) (fun _ _ _ h => h) hS0 (Or.inl ⟨by rfl, ?_⟩) ?_
                  rotate_left
                  · intro wq hwq
                    obtain hs0 := hwq
                    go_simp
                    try with_reducible rfl
                  simp only [Act.put, List.setIfInBounds_toArray, List.set_cons_zero, List.set_cons_succ]
                  refine takeG_at (i := 12) (v := ?_) rfl rfl (by kernel_rfl) (by kernel_rfl) (by kernel_rfl) (by kernel_rfl) (by kernel_rfl) (by kernel_rfl) (fun _ _ _ h => h) hS0 (Or.inl ⟨by rfl, ?_⟩) ?_
                  rotate_left
                  · intro wq hwq
                    obtain hs0 := hwq
                    go_simp
                    try with_reducible rfl
                  simp only [Act.put, List.setIfInBounds_toArray, List.set_cons_zero, List.set_cons_succ]
                  refine takeG_at (i := 13) (v := ?_) rfl rfl (by kernel_rfl) (by kernel_rfl) (by kernel_rfl) (by kernel_rfl) (by kernel_rfl) (by kernel_rfl) (fun _ _ _ h => h) hS0 (Or.inl ⟨by rfl, ?_⟩) ?_
                  rotate_left
                  · intro wq hwq
                    obtain hs0 := hwq
                    go_simp
                    try with_reducible rfl
                  simp only [Act.put, List.setIfInBounds_toArray, List.set_cons_zero, List.set_cons_succ]
                  refine takeG_at (i := 14) (v := ?_) rfl rfl (by kernel_rfl) (by kernel_rfl) (by kernel_rfl) (by kernel_rfl) (by kernel_rfl) (by kernel_rfl) (fun _ _ _ h => h) hS0 (Or.inl ⟨by rfl, ?_⟩) ?_
                  rotate_left
                  · intro wq hwq
                    obtain hs0 := hwq
                    go_simp
                    try with_reducible rfl
                  simp only [Act.put, List.setIfInBounds_toArray, List.set_cons_zero, List.set_cons_succ]
                  refine takeG_at (i := 15) (v := ?_) rfl rfl (by kernel_rfl) (by kernel_rfl) (by kernel_rfl) (by kernel_rfl) (by kernel_rfl) (by kernel_rfl) (fun _ _ _ h => h) hS0 (Or.inl ⟨by rfl, ?_⟩) ?_
                  rotate_left
                  · intro wq hwq
                    obtain hs0 := hwq
                    go_simp
                    try with_reducible rfl
                  simp only [Act.put, List.setIfInBounds_toArray, List.set_cons_zero, List.set_cons_succ]
                  refine takeG_at (i := 16) (v := ?_) rfl rfl (by kernel_rfl) (by kernel_rfl) (by kernel_rfl) (by kernel_rfl) (by kernel_rfl) (by kernel_rfl) (fun _ _ _ h => h) hS0 (Or.inl ⟨by rfl, ?_⟩) ?_
                  rotate_left
                  · intro wq hwq
                    obtain hs0 := hwq
                    go_simp
                    try with_reducible rfl
                  simp only [Act.put, List.setIfInBounds_toArray, List.set_cons_zero, List.set_cons_succ]
                  refine takeG_at (i := 17) (v := ?_) rfl rfl (by kernel_rfl) (by kernel_rfl) (by kernel_rfl) (by kernel_rfl) (by kernel_rfl) (by kernel_rfl) (fun _ _ _ h => h) hS0 (Or.inl ⟨by rfl, ?_⟩) ?_
                  rotate_left
                  · intro wq hwq
                    obtain hs0 := hwq
                    go_simp
                    try with_reducible rfl
                  simp only [Act.put, List.setIfInBounds_toArray, List.set_cons_zero, List.set_cons_succ]
                  refine takeG_at (i := 18) (v := ?_) rfl rfl (by kernel_rfl) (by kernel_rfl) (by kernel_rfl) (by kernel_rfl) (by kernel_rfl) (by kernel_rfl) (fun _ _ _ h => h) hS0 (Or.inl ⟨by rfl, ?_⟩) ?_
                  rotate_left
                  · intro wq hwq
                    obtain hs0 := hwq
                    go_simp
                    try with_reducible rfl
                  simp only [Act.put, List.setIfInBounds_toArray, List.set_cons_zero, List.set_cons_succ]
                  refine takeG_at (i := 19) (v := ?_) rfl rfl (by kernel_rfl) (by kernel_rfl) (by kernel_rfl) (by kernel_rfl) (by kernel_rfl) (by kernel_rfl) (fun _ _ _ h => h) hS0 (Or.inl ⟨by rfl, ?_⟩) ?_
                  rotate_left
                  · intro wq hwq
                    obtain hs0 := hwq
                    go_simp
                    try with_reducible rfl
                  simp only [Act.put, List.setIfInBounds_toArray, List.set_cons_zero, List.set_cons_succ]
                  refine takeG_at (i := 20) (v := ?_) rfl rfl (by kernel_rfl) (by kernel_rfl) (by kernel_rfl) (by kernel_rfl) (by kernel_rfl) (by kernel_rfl) (fun _ _ _ h => h) hS0 (Or.inl ⟨by rfl, ?_⟩) ?_
                  rotate_left
                  · intro wq hwq
                    obtain hs0 := hwq
                    go_simp
                    try with_reducible rfl
                  simp only [Act.put, List.setIfInBounds_toArray, List.set_cons_zero, List.set_cons_succ]
                  refine takeG_at (i := 21) (v := ?_) rfl rfl (by kernel_rfl) (by kernel_rfl) (by kernel_rfl) (by kernel_rfl) (by kernel_rfl) (by kernel_rfl) (fun _ _ _ h => h) hS0 (Or.inl ⟨by rfl, ?_⟩) ?_
                  rotate_left
                  · intro wq hwq
                    obtain hs0 := hwq
                    go_simp
                    try with_reducible rfl
                  simp only [Act.put, List.setIfInBounds_toArray, List.set_cons_zero, List.set_cons_succ]
                  refine takeG_at (i := 22) (v := ?_) rfl rfl (by kernel_rfl) (by kernel_rfl) (by kernel_rfl) (by kernel_rfl) (by kernel_rfl) (by kernel_rfl) (fun _ _ _ h => h) hS0 (Or.inl ⟨by rfl, ?_⟩) ?_
                  rotate_left
                  · intro wq hwq
                    obtain hs0 := hwq
                    go_simp
                    try with_reducible rfl
                  simp only [Act.put, List.setIfInBounds_toArray, List.set_cons_zero, List.set_cons_succ]
                  refine takeG_at (i := 23) (v := ?_) rfl rfl (by kernel_rfl) (by kernel_rfl) (by kernel_rfl) (by kernel_rfl) (by kernel_rfl) (by kernel_rfl) (fun _ _ _ h => h) hS0 (Or.inl ⟨by rfl, ?_⟩) ?_
                  rotate_left
                  · intro wq hwq
                    obtain hs0 := hwq
                    go_simp
                    try with_reducible rfl
                  simp only [Act.put, List.setIfInBounds_toArray, List.set_cons_zero, List.set_cons_succ]
                  refine wpAnyG_one (i := 24) (by kernel_rfl) rfl (fun K hK => ?_)
                  go_simp
                  refine hK _ _ ((World.cell?_alloc_lt _ _ _ (World.block_lt_of_cell? _ _ hS0)).trans hS0) ?_
                  clear hK K
                  refine wpAnyG_turn (k := 25) (by kernel_rfl) rfl (fun K hK => ?_)
                  rw [if_pos (by rfl)]
                  refine op_app el8 (.tmp 61) (.tmp 85) rfl rfl hOd (by4w x) 4 rfl rfl (by omega) (by decide) hBd.size ?_
                  intro v' w' hO' hB'
                  refine hK _ _ ?_
                  clear hK K
                  refine wpAny_one (i := 26) (by kernel_rfl) rfl (fun K hK => ?_)
                  go_simp
                  refine hK _ _ ?_
                  clear hK K
                  refine wpAny_done (by kernel_rfl) ?_ _
                  go_wp2
                  go_roundw
                  case rel => exact ⟨i + 1, by go_num, by omega, by rw [← EE.out, ← by4w_eq]; exact hO', hBd.trans hB'⟩
                  case measure => simp [intOf]; omega
                · have h8 : i = 8 := by omega
                  rw [h8, List.take_of_length_le (by rw [LH.out]; omega)] at hO
                  have hcv := conv_own hO
                  clear h8
                  go_wp2
                  go_ret
                  exact ⟨rfl, hB.trans (hb.mono hB.size)⟩
    · have hjz : j < z := by rw [ZZ.out] at hj ⊢; exact pad_go hj hq
      have hqi : ¬ ((s.size : Int) + 1 + (j : Int)) % 64 = 56 := by omega
      clear hq
      go_wp2_with (at_builtin; refine wp_appN el8 rfl (.tmp 26) (.tmp 27) rfl rfl (preI_len s j) hO hB.size [0] 1 rfl rfl (by decide) (by omega) (by decide) ?_; intro g2 cap2 w5 hO5 hb5)
      go_roundw
      case rel => exact ⟨j + 1, g2, cap2, rfl, by omega, by rw [← preI_on]; exact hO5, hB.trans hb5⟩
      case measure => simp only [slLen]; omega
end Go.Proofs.Ytadeiljhniffjaa
