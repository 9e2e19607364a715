/-
  codicillaw02.JsonCopies: its walk.
-/
import Derived.Test.YtakdhfjlhkejdaaGreatDoorCJsonSpoil2
import Derived.Test.YtakdhfjlhkejdaaGreatDoorCJsonRCopy
import Derived.Test.YtakdhfjlhkejdaaGreatDoorCJsonRSame
import Derived.Test.YtakdhfjlhkejdaaGreatDoorN7
set_option linter.unusedSimpArgs false
set_option linter.unusedVariables false
set_option linter.unusedVariables false
namespace Go.Proofs.YtakdhfjlhkejdaaGreatDoor
open Go.RowKit
mutual
theorem sv_of_plain {w : World} {lo : Nat} : ∀ (v : JV) (c0 c1 c2 c3 : Value), IsV (plainW w) lo v c0 c1 c2 c3 → SV w lo w.heap.size v c0 c1 c2 c3
  | .mk k t ks l, c0, c1, c2, c3, h => by
    simp only [IsV, SV] at h ⊢
    obtain ⟨rfl, rfl, ⟨ka, kp, rfl, hk⟩, a, cap, e3, h⟩ := h
    refine ⟨⟨_, rfl⟩, ⟨_, rfl⟩, ⟨ka, kp, rfl, ?_⟩, a, cap, e3, ?_⟩
    · rcases hk with rfl | ⟨b, off, e, hl, hk⟩
      · exact .inl rfl
      · rcases Nat.eq_zero_or_pos ks.length with h0 | h0
        · exact .inl h0
        · have := cell_lt (hideP_some (hk 0 h0)).2.2
          exact .inr ⟨b, off, e, hl, this, fun j hj => ⟨⟨_, (hideP_some (hk j hj)).2.2⟩, plain_frozen (hideP_some (hk j hj)).2.1 _⟩⟩
    · rcases h with h | ⟨b, off, e, hl, h⟩
      · exact .inl h
      · rcases List.eq_nil_or_concat l with h0 | ⟨_, _, _⟩
        · exact .inl h0
        · match l, h with
          | [], _ => exact .inl rfl
          | x :: r, h =>
            have hb : b < w.heap.size := by
              simp only [IsRow] at h
              obtain ⟨⟨_, _, _, _, g0, _⟩, _⟩ := h
              exact cell_lt (hideP_some g0).2.2
            exact .inr ⟨b, off, e, hl, hb, srow_of_plain (x :: r) b off h⟩
theorem srow_of_plain {w : World} {lo : Nat} : ∀ (l : List JV) (b off : Nat), IsRow (plainW w) lo l b off → SRow w lo w.heap.size l b off
  | [], _, _, _ => by simp only [SRow]
  | v :: t, b, off, h => by
    simp only [IsRow, SRow] at h ⊢
    obtain ⟨⟨c0, c1, c2, c3, g0, g1, g2, g3, hv⟩, ht⟩ := h
    exact ⟨⟨c0, c1, c2, c3, (hideP_some g0).2.2, (hideP_some g1).2.2, (hideP_some g2).2.2, (hideP_some g3).2.2, plain_frozen (hideP_some g0).2.1 _, sv_of_plain v c0 c1 c2 c3 hv⟩, srow_of_plain t b (off + 4) ht⟩
end
mutual
theorem sameV_refl : ∀ v : JV, sameV v v = true
  | .mk k t ks l => by
    rw [sameV_mk, sameL_refl l]
    simp [alikeB]
theorem sameL_refl : ∀ l : List JV, sameL l l = true
  | [] => by simp [sameL]
  | v :: t => by simp [sameL, sameV_refl v, sameL_refl t]
end
theorem TT.to_below {lo hi B : Nat} {a w w' : World} (h : TT lo hi w w') (hb : Below B a w) (hB : B ≤ lo) (hw : B ≤ w.heap.size) : Below B a w' :=
  ⟨h.os.trans hb.os, h.tape.trans hb.tape, h.output.trans hb.output, Nat.le_trans hb.size h.size, fun k hk => (h.out k (by omega) (.inl (by omega))).trans (hb.block k hk)⟩
theorem TT.stays {lo hi n : Nat} {w w' : World} (h : TT lo hi w w') (hn : hi ≤ n) : Stays n w w' := fun x c hl hc => (World.cell?_of_block (h.out x.block (cell_lt hc) (.inr (by omega)))).trans hc
set_option maxRecDepth 10000000 in
set_option maxHeartbeats 8000000 in
theorem copies_walk (v : JV) (c0 c1 c2 c3 : Value) (w : World) (hV : IsV w 0 v c0 c1 c2 c3) (hB : bndV v) (hvars : Vars w) :
    Calls Tryz.prog 6 #[.agg #[c0, c1, c2, c3]] w fun e w' => e = .returned (.bool true) ∧ Below w.heap.size w w' := by
  have hV2 := hV
  obtain ⟨k0, t0, ka, kl, kc, la, ll, lc, rfl, rfl, rfl, rfl⟩ := hV.shape
  have hbel : ∀ A : Obj, Below w.heap.size w (w.alloc A) := fun A => (Below.refl w.heap.size w).alloc (Nat.le_refl _) A
  have cH := fun (w2 : World) (hb : Below w.heap.size w w2) => heavy_any v _ _ _ _ w2 (IsV.stays (Below.stays hb 0) (Nat.le_refl 0) _ _ _ _ _ hV2) hB
  have cA := fun (w2 : World) (hb : Below w.heap.size w w2) => alive_any w2 (hvars.below hb)
  cases hh : heavyB v with
  | true =>
    rw [hh] at cH
    clear hV hV2
    go_enter Tryz.func6, Tryz.ntmps6
    go_wp2_with (first
      | (go_at_call 14; refine (cH _ (hbel _)).mono ?_; rintro e w1 ⟨rfl, hb1⟩)
      | (go_at_call 10; have hb2 := (hbel _).trans (hb1.mono (by simp)); refine (cA _ hb2).mono ?_; rintro e w2 ⟨rfl, hb3⟩))
    go_ret
    exact ⟨rfl, hb2.trans (hb3.mono hb2.size)⟩
  | false =>
    rw [hh] at cH
    obtain ⟨l1, l2, l3⟩ := light hh
    have cC := fun (w2 : World) (hb : Below w.heap.size w w2) => copyP_any v _ _ _ _ w2 (IsV.stays (Below.stays hb 0) (Nat.le_refl 0) _ _ _ _ _ hV2) (by omega) (by omega)
    have cR := fun (w2 : World) (hb : Below w.heap.size w w2) => refCopy_any (sizeV v) v (Nat.le_refl _) _ _ _ _ w2 (IsV.stays (Below.stays hb 0) (Nat.le_refl 0) _ _ _ _ _ hV2) (by omega) (by omega)
    have cS := fun (d0 d1 d2 d3 : Value) (w2 : World) (hb : Below w.heap.size w w2) (hd : IsV w2 0 v d0 d1 d2 d3) => refSame_any (sizeV v) v (Nat.le_refl _) v _ _ _ _ _ _ _ _ w2 hd (IsV.stays (Below.stays hb 0) (Nat.le_refl 0) _ _ _ _ _ hV2) hB hB
    simp only [sameV_refl] at cS
    have cP := fun (d0 d1 d2 d3 : Value) (w2 : World) (lo hi : Nat) (hs : SV w2 lo hi v d0 d1 d2 d3) (hw : hi ≤ w2.heap.size) => spoil_any (sizeV v) v (Nat.le_refl _) _ _ _ _ w2 lo hi hs hw (by omega) (by omega)
    clear hV hV2 hh
    go_enter Tryz.func6, Tryz.ntmps6
    go_upto_region 3 with (go_at_call 14; refine (cH _ (hbel _)).mono ?_; rintro e w1 ⟨rfl, hb1⟩)
    have hbx := (hb1.block w.heap.size (by simp)).trans (heap_alloc_new w (.cells #[.int .u8 (k0 : Nat), .string t0, .slice ka kl kc, .slice la ll lc] 26))
    have hb01 := (hbel (.cells #[.int .u8 (k0 : Nat), .string t0, .slice ka kl kc, .slice la ll lc] 26)).trans (hb1.mono (by simp))
    clear hb1 hbel cH
    obtain ⟨x0, x1, x2, x3⟩ := RB.cells hbx
    have hwl : w.heap.size < w1.heap.size := (Array.getElem?_eq_some_iff.1 hbx).1
    have hcc := cC w1 hb01
    clear cC
    go_upto_region 4 with (go_at_call 26; refine hcc.mono ?_; rintro e w2 ⟨d0, d1, d2, d3, rfl, hVa, hb2⟩; obtain ⟨k1, t1, qa, ql, qc, ra, rl, rc, rfl, rfl, rfl, rfl⟩ := hVa.shape)
    clear hcc x0 x1 x2 x3
    have hsv := sv_of_plain v _ _ _ _ hVa
    have hVa0 := IsV.stays (lo' := 0) (hideP_stays _) (Nat.zero_le _) _ _ _ _ _ hVa
    have hab := heap_alloc_new w2 (.cells #[.int .u8 (k1 : Nat), .string t1, .slice qa ql qc, .slice ra rl rc] 26)
    have h23 : Below w2.heap.size w2 (w2.alloc (.cells #[.int .u8 (k1 : Nat), .string t1, .slice qa ql qc, .slice ra rl rc] 26)) := (Below.refl _ _).alloc (Nat.le_refl _) _
    have hs23 : (w2.alloc (.cells #[.int .u8 (k1 : Nat), .string t1, .slice qa ql qc, .slice ra rl rc] 26)).heap.size = w2.heap.size + 1 := by simp
    have hs12 := hb2.size
    have hs01 := hb01.size
    have hsv3 := SV.kept (TT.below (lo := w1.heap.size) (hi := w2.heap.size) h23) v _ _ _ _ _ _ hsv (kin.refl _) (kin.refl _)
    have hV3 := IsV.stays (Below.stays h23 0) (Nat.le_refl 0) _ _ _ _ _ hVa0
    have hb03 : Below w.heap.size w (w2.alloc (.cells #[.int .u8 (k1 : Nat), .string t1, .slice qa ql qc, .slice ra rl rc] 26)) := (hb01.trans (hb2.mono hs01)).trans (h23.mono (by omega))
    have hbx3 := ((h23.block _ (by omega)).trans (hb2.block _ hwl)).trans hbx
    clear hVa hVa0 hsv h23
    generalize w2.alloc (.cells #[.int .u8 (k1 : Nat), .string t1, .slice qa ql qc, .slice ra rl rc] 26) = w3 at *
    generalize w2.heap.size = hi at *
    generalize w1.heap.size = lo at *
    obtain ⟨x0, x1, x2, x3⟩ := RB.cells hbx3
    obtain ⟨y0, y1, y2, y3⟩ := RB.cells hab
    have hcc := cS _ _ _ _ w3 hb03 hV3
    go_upto_region 6 with (go_at_call 13; refine hcc.mono ?_; rintro e w4 ⟨rfl, hb4⟩)
    clear hcc x0 x1 x2 x3 y0 y1 y2 y3
    have hs34 := hb4.size
    have hb04 := hb03.trans (hb4.mono hb03.size)
    have hbx4 := (hb4.block _ (by omega)).trans hbx3
    have hab4 := (hb4.block _ (by omega)).trans hab
    have hsv4 := SV.kept (TT.below (lo := lo) (hi := hi) hb4) v _ _ _ _ _ _ hsv3 (kin.refl _) (kin.refl _)
    clear hsv3 hV3 hbx3 hab
    obtain ⟨x0, x1, x2, x3⟩ := RB.cells hbx4
    have hcc := cR w4 hb04
    clear cR
    go_upto_region 7 with (go_at_call 27; refine hcc.mono ?_; rintro e w5 ⟨d0, d1, d2, d3, rfl, hVb, hb5⟩; obtain ⟨k2, t2, sa, sl, sc, ua, ul, uc, rfl, rfl, rfl, rfl⟩ := hVb.shape)
    clear hcc x0 x1 x2 x3
    have hs45 := hb5.size
    have hbb := heap_alloc_new w5 (.cells #[.int .u8 (k2 : Nat), .string t2, .slice sa sl sc, .slice ua ul uc] 26)
    have h56 : Below w5.heap.size w5 (w5.alloc (.cells #[.int .u8 (k2 : Nat), .string t2, .slice sa sl sc, .slice ua ul uc] 26)) := (Below.refl _ _).alloc (Nat.le_refl _) _
    have hs56 : (w5.alloc (.cells #[.int .u8 (k2 : Nat), .string t2, .slice sa sl sc, .slice ua ul uc] 26)).heap.size = w5.heap.size + 1 := by simp
    have h46 : Below w4.heap.size w4 (w5.alloc (.cells #[.int .u8 (k2 : Nat), .string t2, .slice sa sl sc, .slice ua ul uc] 26)) := hb5.trans (h56.mono hs45)
    have hV6 := IsV.stays (Below.stays h56 w4.heap.size) (Nat.le_refl _) _ _ _ _ _ hVb
    have hb06 : Below w.heap.size w (w5.alloc (.cells #[.int .u8 (k2 : Nat), .string t2, .slice sa sl sc, .slice ua ul uc] 26)) := hb04.trans (h46.mono hb04.size)
    have hsv6 := SV.kept (TT.below (lo := lo) (hi := hi) h46) v _ _ _ _ _ _ hsv4 (kin.refl _) (kin.refl _)
    have hbx6 := (h46.block _ (by omega)).trans hbx4
    have hab6 := (h46.block _ (by omega)).trans hab4
    clear hVb hsv4 hbx4 hab4 h56
    generalize w5.alloc (.cells #[.int .u8 (k2 : Nat), .string t2, .slice sa sl sc, .slice ua ul uc] 26) = w6 at *
    obtain ⟨y0, y1, y2, y3⟩ := RB.cells hab6
    have hcc := cP _ _ _ _ w6 lo hi hsv6 (by omega)
    clear cP
    go_upto_region 8 with (go_at_call 28; refine hcc.mono ?_; rintro e w7 ⟨rfl, hT⟩)
    clear hcc y0 y1 y2 y3
    have hs67 := hT.size
    have hb07 : Below w.heap.size w w7 := hT.to_below hb06 hs01 hb06.size
    have hbx7 := (hT.out _ (by omega) (.inl (by omega))).trans hbx6
    have hbb7 := (hT.out _ (by omega) (.inr (by omega))).trans hbb
    have hV7 := IsV.stays (lo' := 0) (hT.stays (n := w4.heap.size) (by omega)) (Nat.zero_le _) _ _ _ _ _ hV6
    obtain ⟨x0, x1, x2, x3⟩ := RB.cells hbx7
    obtain ⟨y0, y1, y2, y3⟩ := RB.cells hbb7
    have hcc := cS _ _ _ _ w7 hb07 hV7
    clear cS hV6 hV7 hbx6 hbb hab6 hsv6
    go_wp2_with (first
      | (go_at_call 13; refine hcc.mono ?_; rintro e w8 ⟨rfl, hb8⟩; have hb08 := hb07.trans (hb8.mono hb07.size))
      | (go_at_call 10; refine (cA _ hb08).mono ?_; rintro e w9 ⟨rfl, hb9⟩))
    go_ret
    exact ⟨rfl, hb08.trans (hb9.mono hb08.size)⟩
end Go.Proofs.YtakdhfjlhkejdaaGreatDoor
