/-
  codicillaw02.JsonTells: its walk, up to the last region.
-/
import Derived.Test.YtjffiignedbndaaGreatDoorCJsonTellW
set_option linter.unusedSimpArgs false
set_option linter.unusedVariables false
set_option linter.unusedVariables false
namespace Go.Proofs.YtjffiignedbndaaGreatDoor
open Go.RowKit
def nilV : JV := .mk 0 ⟨#[]⟩ [] []
theorem nilV_is (w : World) : IsV w 0 nilV (.int .u8 0) (.string ⟨#[]⟩) (.slice none 0 0) (.slice none 0 0) := by
  unfold nilV
  simp only [IsV]
  exact ⟨by first | rfl | trivial, by first | rfl | trivial, ⟨_, _, rfl, .inl rfl⟩, none, 0, rfl, .inl (by first | rfl | trivial)⟩
theorem getEnd_told {w w' : World} {r : Option JV} {e : Ending} (h : GetEnd w r e w') : Below w.heap.size w w' ∧ ∃ k t qa ql qc ra rl rc, e = .returned (.tuple #[.agg #[.int .u8 (k : Nat), .string t, .slice qa ql qc, .slice ra rl rc], .bool r.isSome]) ∧ IsV w' 0 (r.getD nilV) (.int .u8 (k : Nat)) (.string t) (.slice qa ql qc) (.slice ra rl rc) := by
  obtain ⟨hb, h⟩ := h
  refine ⟨hb, ?_⟩
  cases r with
  | none => exact ⟨0, ⟨#[]⟩, none, 0, 0, none, 0, 0, h, nilV_is _⟩
  | some x =>
    obtain ⟨d0, d1, d2, d3, rfl, hv⟩ := h
    obtain ⟨k1, t1, qa, ql, qc, ra, rl, rc, rfl, rfl, rfl, rfl⟩ := hv.shape
    exact ⟨_, _, _, _, _, _, _, _, rfl, IsV.stays (Stays.refl _ _) (Nat.zero_le _) _ _ _ _ _ hv⟩
theorem rgetEnd_told {w w' : World} {r : Option JV} {e : Ending} (h : RGetEnd w r e w') : Below w.heap.size w w' ∧ ∃ k t qa ql qc ra rl rc, e = .returned (.tuple #[.agg #[.int .u8 (k : Nat), .string t, .slice qa ql qc, .slice ra rl rc], .bool r.isSome]) ∧ IsV w' 0 (r.getD nilV) (.int .u8 (k : Nat)) (.string t) (.slice qa ql qc) (.slice ra rl rc) := by
  obtain ⟨hb, h⟩ := h
  refine ⟨hb, ?_⟩
  cases r with
  | none => exact ⟨0, ⟨#[]⟩, none, 0, 0, none, 0, 0, h, nilV_is _⟩
  | some x =>
    obtain ⟨d0, d1, d2, d3, rfl, hv⟩ := h
    obtain ⟨k1, t1, qa, ql, qc, ra, rl, rc, rfl, rfl, rfl, rfl⟩ := hv.shape
    exact ⟨_, _, _, _, _, _, _, _, rfl, hv⟩
theorem getM_bnd {k : Nat} {t key : ByteArray} {ks : List ByteArray} {l : List JV} (h : bndV (.mk k t ks l)) : bndV ((getM k ks l key).getD nilV) := by
  have hnil : bndV nilV := by
    unfold nilV
    simp only [bndV, bndL]
    exact ⟨Nat.zero_le _, by simp, Nat.zero_le _, Nat.zero_le _, trivial⟩
  unfold getM
  split
  · cases hx : l[(Lib.idxOfS ks key).toNat]? with
    | none => exact hnil
    | some x =>
      simp only [bndV] at h
      exact bndL_at h.2.2.2.2 hx
  · exact hnil
set_option maxRecDepth 10000000 in
set_option maxHeartbeats 8000000 in
theorem tells_light (k0 : Nat) (t0 : ByteArray) (ks : List ByteArray) (l : List JV) (b : JV) (key : ByteArray) (c0 c1 c2 c3 d0 d1 d2 d3 : Value) (w : World) (hV : IsV w 0 (.mk k0 t0 ks l) c0 c1 c2 c3) (hB : bndV (.mk k0 t0 ks l)) (hV' : IsV w 0 b d0 d1 d2 d3) (hB' : bndV b) (hkey : key.size ≤ maxLen) (hvars : Vars w)
    (h1 : heavyB (.mk k0 t0 ks l) = false) (h2 : heavyB b = false) (h3 : ¬ 4096 < key.size) :
    Calls Tryz.prog 5 #[.agg #[c0, c1, c2, c3], .agg #[d0, d1, d2, d3], .string key] w fun e w' => e = .returned (.bool true) ∧ Below w.heap.size w w' := by
  have hV2 := hV
  have hV3 := hV'
  obtain ⟨l1, l2, l3⟩ := light h1
  obtain ⟨m1, m2, m3⟩ := light h2
  have hz1 : sizeL l ≤ 2000 := by simp only [sizeV] at l1; omega
  have hz2 : l.length ≤ 2000 := by have := len_sizeL l; omega
  have hz3 : ks.length ≤ 2000 := by simp only [keysV] at l2; omega
  have hz4 : t0.size ≤ 32000 := by simp only [lettV] at l3; omega
  obtain ⟨ka, kc, la, lc, rfl, rfl, rfl, rfl, _, _⟩ := IsV.opened hV
  obtain ⟨k1, t1, qa, ql, qc, ra, rl, rc, rfl, rfl, rfl, rfl⟩ := hV'.shape
  have on1 := fun (w2 : World) (hb : Below w.heap.size w w2) => IsV.stays (Below.stays hb 0) (Nat.le_refl 0) _ _ _ _ _ hV2
  have on2 := fun (w2 : World) (hb : Below w.heap.size w w2) => IsV.stays (Below.stays hb 0) (Nat.le_refl 0) _ _ _ _ _ hV3
  have cH := fun (w2 : World) (hb : Below w.heap.size w w2) => heavy_any _ _ _ _ _ w2 (on1 w2 hb) hB
  have cH' := fun (w2 : World) (hb : Below w.heap.size w w2) => heavy_any b _ _ _ _ w2 (on2 w2 hb) hB'
  have cA := fun (w2 : World) (hb : Below w.heap.size w w2) => alive_any w2 (hvars.below hb)
  have cG := fun (w2 : World) (hb : Below w.heap.size w w2) => get_any k0 t0 key ks l _ _ _ _ w2 (on1 w2 hb) (by omega) (by omega)
  have cR := fun (w2 : World) (hb : Below w.heap.size w w2) => refGet_any k0 t0 key ks l _ _ _ _ w2 (on1 w2 hb) (by omega) (by omega)
  have cI := fun (w2 : World) (hb : Below w.heap.size w w2) => int_any k0 t0 (.slice ka ks.length kc) (.slice la l.length lc) w2 (hvars.below hb) (by omega)
  have cJ := fun (w2 : World) => refInt_any k0 t0 (.slice ka ks.length kc) (.slice la l.length lc) w2 (by unfold maxLen; omega)
  have hMB := getM_bnd (key := key) hB
  obtain ⟨M, hM⟩ : ∃ M, M = getM k0 ks l key := ⟨_, rfl⟩
  rw [← hM] at cG cR hMB
  clear hM
  generalize intN k0 t0 = n at *
  generalize intB k0 t0 = at' at *
  have hb0 : Below w.heap.size w ((w.alloc (.cells #[.int .u8 (k0 : Nat), .string t0, .slice ka ks.length kc, .slice la l.length lc] 26)).alloc (.cells #[.int .u8 (k1 : Nat), .string t1, .slice qa ql qc, .slice ra rl rc] 26)) := ((Below.refl _ _).alloc (Nat.le_refl _) _).alloc (by simp) _
  have hbr1 : RB ((w.alloc (.cells #[.int .u8 (k0 : Nat), .string t0, .slice ka ks.length kc, .slice la l.length lc] 26)).alloc (.cells #[.int .u8 (k1 : Nat), .string t1, .slice qa ql qc, .slice ra rl rc] 26)) w.heap.size (.int .u8 (k0 : Nat)) (.string t0) (.slice ka ks.length kc) (.slice la l.length lc) := (Lib.alloc_old (w.alloc (.cells #[.int .u8 (k0 : Nat), .string t0, .slice ka ks.length kc, .slice la l.length lc] 26)) (.cells #[.int .u8 (k1 : Nat), .string t1, .slice qa ql qc, .slice ra rl rc] 26) w.heap.size (by simp)).trans (heap_alloc_new w (.cells #[.int .u8 (k0 : Nat), .string t0, .slice ka ks.length kc, .slice la l.length lc] 26))
  have hbx2 := heap_alloc_new (w.alloc (.cells #[.int .u8 (k0 : Nat), .string t0, .slice ka ks.length kc, .slice la l.length lc] 26)) (.cells #[.int .u8 (k1 : Nat), .string t1, .slice qa ql qc, .slice ra rl rc] 26)
  rw [show (w.alloc (.cells #[.int .u8 (k0 : Nat), .string t0, .slice ka ks.length kc, .slice la l.length lc] 26)).heap.size = w.heap.size + 1 by simp] at hbx2
  have hbr2 : RB ((w.alloc (.cells #[.int .u8 (k0 : Nat), .string t0, .slice ka ks.length kc, .slice la l.length lc] 26)).alloc (.cells #[.int .u8 (k1 : Nat), .string t1, .slice qa ql qc, .slice ra rl rc] 26)) (w.heap.size + 1) (.int .u8 (k1 : Nat)) (.string t1) (.slice qa ql qc) (.slice ra rl rc) := hbx2
  clear hV hV' hbx2
  rw [h1] at cH
  rw [h2] at cH'
  have hk2 : ¬ ((4096 : Int) < (key.size : Int)) := by omega
  go_enter Tryz.func5, Tryz.ntmps5
  go_upto_region 3 with (first
    | (go_at_call 14; with_reducible refine (cH _ hb0).mono ?_; rintro e w1 ⟨rfl, hb1⟩; have hb01 := hb0.trans (hb1.mono hb0.size); obtain ⟨y0, y1, y2, y3⟩ := RB.cells (hbr2.below hb1))
    | (go_at_call 14; with_reducible refine (cH' _ hb01).mono ?_; rintro e w2 ⟨rfl, hb2⟩; have hb02 := hb01.trans (hb2.mono hb01.size)))
  have hA2 := (hbr1.below hb1).below hb2
  have hB2 := (hbr2.below hb1).below hb2
  obtain ⟨x0, x1, x2, x3⟩ := hA2.cells
  clear hbr1 hbr2 y0 y1 y2 y3 hb1 hb2 hb0 hb01 cH cH'
  go_upto_region 4 with (go_at_call 21; refine (cG w2 hb02).mono ?_; rintro e w3 hG; obtain ⟨hb3, k2, t2, sa, sl, sc, ua, ul, uc, rfl, hVx⟩ := getEnd_told hG)
  clear x0 x1 x2 x3 hG cG
  have hX4 : RB (w3.alloc (.cells #[.int .u8 (k2 : Nat), .string t2, .slice sa sl sc, .slice ua ul uc] 26)) w3.heap.size (.int .u8 (k2 : Nat)) (.string t2) (.slice sa sl sc) (.slice ua ul uc) := heap_alloc_new w3 (.cells #[.int .u8 (k2 : Nat), .string t2, .slice sa sl sc, .slice ua ul uc] 26)
  have h34 : Below w3.heap.size w3 (w3.alloc (.cells #[.int .u8 (k2 : Nat), .string t2, .slice sa sl sc, .slice ua ul uc] 26)) := (Below.refl _ _).alloc (Nat.le_refl _) _
  have hb04 : Below w.heap.size w (w3.alloc (.cells #[.int .u8 (k2 : Nat), .string t2, .slice sa sl sc, .slice ua ul uc] 26)) := (hb02.trans (hb3.mono hb02.size)).trans (h34.mono (hb02.trans (hb3.mono hb02.size)).size)
  have hA4 := (hA2.below hb3).below h34
  have hB4 := (hB2.below hb3).below h34
  have hVx4 := IsV.stays (Below.stays h34 0) (Nat.le_refl 0) _ _ _ _ _ hVx
  clear hA2 hB2 hVx h34 hb3 hb02
  generalize w3.alloc (.cells #[.int .u8 (k2 : Nat), .string t2, .slice sa sl sc, .slice ua ul uc] 26) = w4 at *
  generalize w3.heap.size = bx at *
  obtain ⟨x0, x1, x2, x3⟩ := hA4.cells
  go_upto_region 5 with (go_at_call 22; refine (cR w4 hb04).mono ?_; rintro e w5 hG; obtain ⟨hb5, k3, t3, va, vl, vc, na, nl, nc, rfl, hVy⟩ := rgetEnd_told hG)
  clear x0 x1 x2 x3 hG cR
  have hY6 : RB (w5.alloc (.cells #[.int .u8 (k3 : Nat), .string t3, .slice va vl vc, .slice na nl nc] 26)) w5.heap.size (.int .u8 (k3 : Nat)) (.string t3) (.slice va vl vc) (.slice na nl nc) := heap_alloc_new w5 (.cells #[.int .u8 (k3 : Nat), .string t3, .slice va vl vc, .slice na nl nc] 26)
  have h56 : Below w5.heap.size w5 (w5.alloc (.cells #[.int .u8 (k3 : Nat), .string t3, .slice va vl vc, .slice na nl nc] 26)) := (Below.refl _ _).alloc (Nat.le_refl _) _
  have h46 : Below w4.heap.size w4 (w5.alloc (.cells #[.int .u8 (k3 : Nat), .string t3, .slice va vl vc, .slice na nl nc] 26)) := hb5.trans (h56.mono hb5.size)
  have hb06 : Below w.heap.size w (w5.alloc (.cells #[.int .u8 (k3 : Nat), .string t3, .slice va vl vc, .slice na nl nc] 26)) := hb04.trans (h46.mono hb04.size)
  have hA6 := hA4.below h46
  have hB6 := hB4.below h46
  have hX6 := hX4.below h46
  have hVx6 := IsV.stays (Below.stays h46 0) (Nat.le_refl 0) _ _ _ _ _ hVx4
  have hVy6 := IsV.stays (Below.stays h56 0) (Nat.le_refl 0) _ _ _ _ _ hVy
  clear hA4 hB4 hX4 hVx4 hVy h56 h46 hb5 hb04
  generalize w5.alloc (.cells #[.int .u8 (k3 : Nat), .string t3, .slice va vl vc, .slice na nl nc] 26) = w6 at *
  generalize w5.heap.size = bY at *
  obtain ⟨x0, x1, x2, x3⟩ := hA6.cells
  go_upto_region 6 with (go_at_call 23; refine (cI w6 hb06).mono ?_; rintro e w7 ⟨rfl, hb7⟩)
  obtain ⟨y0, y1, y2, y3⟩ := (hA6.below hb7).cells
  go_upto_region 7 with (go_at_call 24; refine (cJ w7).mono ?_; rintro e w8 ⟨rfl, hb8⟩)
  have h68 : Below w6.heap.size w6 w8 := hb7.trans (hb8.mono hb7.size)
  have hb08 := hb06.trans (h68.mono hb06.size)
  have hA8 := hA6.below h68
  have hB8 := hB6.below h68
  have hX8 := hX6.below h68
  have hY8 := hY6.below h68
  have hVx8 := IsV.stays (Below.stays h68 0) (Nat.le_refl 0) _ _ _ _ _ hVx6
  have hVy8 := IsV.stays (Below.stays h68 0) (Nat.le_refl 0) _ _ _ _ _ hVy6
  clear x0 x1 x2 x3 y0 y1 y2 y3 hA6 hB6 hX6 hY6 hVx6 hVy6 h68 hb7 hb8 hb06 cI cJ
  -- BEGIN
  obtain ⟨p0, p1, p2, p3⟩ := hA8.cells
  obtain ⟨q0, q1, q2, q3⟩ := hB8.cells
  obtain ⟨u0, u1, u2, u3⟩ := hX8.cells
  obtain ⟨v0, v1, v2, v3⟩ := hY8.cells
  have on3 := fun (w2 : World) (hb : Below w8.heap.size w8 w2) => on1 w2 (hb08.trans (hb.mono hb08.size))
  have on4 := fun (w2 : World) (hb : Below w8.heap.size w8 w2) => on2 w2 (hb08.trans (hb.mono hb08.size))
  have sAB := fun (w2 : World) (hb : Below w8.heap.size w8 w2) => same_any _ b _ _ _ _ _ _ _ _ w2 (on3 w2 hb) (on4 w2 hb) (by omega) (by omega) (by omega) (by omega)
  have sAA := fun (w2 : World) (hb : Below w8.heap.size w8 w2) => same_any _ _ _ _ _ _ _ _ _ _ w2 (on3 w2 hb) (on3 w2 hb) (by omega) (by omega) (by omega) (by omega)
  have rAB := fun (w2 : World) (hb : Below w8.heap.size w8 w2) => refSame_any _ _ (Nat.le_refl _) b _ _ _ _ _ _ _ _ w2 (on3 w2 hb) (on4 w2 hb) hB hB'
  have rXY := fun (w2 : World) (hb : Below w8.heap.size w8 w2) => refSame_any _ _ (Nat.le_refl _) _ _ _ _ _ _ _ _ _ w2 (IsV.stays (Below.stays hb 0) (Nat.le_refl 0) _ _ _ _ _ hVx8) (IsV.stays (Below.stays hb 0) (Nat.le_refl 0) _ _ _ _ _ hVy8) hMB hMB
  have cE := fun (w2 : World) (hb : Below w8.heap.size w8 w2) => cA w2 (hb08.trans (hb.mono hb08.size))
  simp only [sameV_refl] at sAA rXY
  generalize sameV (.mk k0 t0 ks l) b = r at *
  have hS0 : Below w8.heap.size w8 w8.drew := (Below.refl _ _).drew
  clear on1 on2 on3 on4 hVx8 hVy8 hMB cA hA8 hB8 hX8 hY8 hV2 hV3 hB hB' hvars
  refine wp_region_any (by kernel_rfl) ?_
  change wpAny _ _ _ _ 36 _ _ (World.drew _)
  refine HT.wpAny_of_G (k := 6) (S := fun w' => Below w8.heap.size w8 w') _ _ _ _ ?_
  refine HT.takeG_at (i := 0) (v := ?_) rfl rfl (by kernel_rfl) (by kernel_rfl) (by kernel_rfl) (by kernel_rfl) (by kernel_rfl) (by kernel_rfl) (fun _ _ _ h => h) hS0 (Or.inl ⟨by rfl, ?_⟩) ?_
  rotate_left
  · intro wq hwq
    have z0 := cell_on hwq p0
    have z1 := cell_on hwq p1
    have z2 := cell_on hwq p2
    have z3 := cell_on hwq p3
    go_simp
    try with_reducible rfl
  simp only [Act.put, List.setIfInBounds_toArray, List.set_cons_zero, List.set_cons_succ]
  refine HT.takeG_at (i := 1) (v := ?_) rfl rfl (by kernel_rfl) (by kernel_rfl) (by kernel_rfl) (by kernel_rfl) (by kernel_rfl) (by kernel_rfl) (fun _ _ _ h => h) hS0 (Or.inl ⟨by rfl, ?_⟩) ?_
  rotate_left
  · intro wq hwq
    have z0 := cell_on hwq q0
    have z1 := cell_on hwq q1
    have z2 := cell_on hwq q2
    have z3 := cell_on hwq q3
    go_simp
    try with_reducible rfl
  simp only [Act.put, List.setIfInBounds_toArray, List.set_cons_zero, List.set_cons_succ]
  refine HT.takeG_at (i := 3) (v := ?_) rfl rfl (by kernel_rfl) (by kernel_rfl) (by kernel_rfl) (by kernel_rfl) (by kernel_rfl) (by kernel_rfl) (fun _ _ _ h => h) hS0 (Or.inl ⟨by rfl, ?_⟩) ?_
  rotate_left
  · intro wq hwq
    have z0 := cell_on hwq p0
    have z1 := cell_on hwq p1
    have z2 := cell_on hwq p2
    have z3 := cell_on hwq p3
    go_simp
    try with_reducible rfl
  simp only [Act.put, List.setIfInBounds_toArray, List.set_cons_zero, List.set_cons_succ]
  refine HT.takeG_at (i := 4) (v := ?_) rfl rfl (by kernel_rfl) (by kernel_rfl) (by kernel_rfl) (by kernel_rfl) (by kernel_rfl) (by kernel_rfl) (fun _ _ _ h => h) hS0 (Or.inl ⟨by rfl, ?_⟩) ?_
  rotate_left
  · intro wq hwq
    have z0 := cell_on hwq q0
    have z1 := cell_on hwq q1
    have z2 := cell_on hwq q2
    have z3 := cell_on hwq q3
    go_simp
    try with_reducible rfl
  simp only [Act.put, List.setIfInBounds_toArray, List.set_cons_zero, List.set_cons_succ]
  refine HT.wpAnyG_one (i := 2) (by kernel_rfl) rfl (fun KK hKK => ?_)
  go_simp
  refine (sAB _ hS0).mono ?_
  rintro e wa ⟨rfl, hba⟩
  have hSa := hS0.trans (hba.mono hS0.size)
  simp only
  refine hKK _ _ hSa ?_
  clear hKK KK
  refine HT.wpAnyG_one (i := 5) (by kernel_rfl) rfl (fun KK hKK => ?_)
  go_simp
  refine (rAB _ hSa).mono ?_
  rintro e wb ⟨rfl, hbb⟩
  have hSb := hSa.trans (hbb.mono hSa.size)
  simp only
  refine hKK _ _ hSb ?_
  clear hKK KK
  refine HT.wpAnyG_turn (k := 6) (by kernel_rfl) rfl (fun KK hKK => ?_)
  go_simp
  refine hKK _ _ ?_
  clear hKK KK
  refine HT.take_at (i := 7) (v := ?_) rfl rfl (by kernel_rfl) (by kernel_rfl) (by kernel_rfl) (fun _ _ _ h => h) (Or.inl ⟨by rfl, ?_⟩) ?_
  rotate_left
  · intro wq
    go_simp
    try with_reducible rfl
  simp only [Act.put, List.setIfInBounds_toArray, List.set_cons_zero, List.set_cons_succ]
  refine HT.wpAny_of_G (k := 10) (S := fun w' => Below w8.heap.size w8 w') _ _ _ _ ?_
  refine HT.takeG_at (i := 8) (v := ?_) rfl rfl (by kernel_rfl) (by kernel_rfl) (by kernel_rfl) (by kernel_rfl) (by kernel_rfl) (by kernel_rfl) (fun _ _ _ h => h) hSb (Or.inl ⟨by rfl, ?_⟩) ?_
  rotate_left
  · intro wq hwq
    have z0 := cell_on hwq p0
    have z1 := cell_on hwq p1
    have z2 := cell_on hwq p2
    have z3 := cell_on hwq p3
    go_simp
    try with_reducible rfl
  simp only [Act.put, List.setIfInBounds_toArray, List.set_cons_zero, List.set_cons_succ]
  refine HT.takeG_at (i := 9) (v := ?_) rfl rfl (by kernel_rfl) (by kernel_rfl) (by kernel_rfl) (by kernel_rfl) (by kernel_rfl) (by kernel_rfl) (fun _ _ _ h => h) hSb (Or.inl ⟨by rfl, ?_⟩) ?_
  rotate_left
  · intro wq hwq
    have z0 := cell_on hwq p0
    have z1 := cell_on hwq p1
    have z2 := cell_on hwq p2
    have z3 := cell_on hwq p3
    go_simp
    try with_reducible rfl
  simp only [Act.put, List.setIfInBounds_toArray, List.set_cons_zero, List.set_cons_succ]
  refine HT.wpAnyG_turn (k := 10) (by kernel_rfl) rfl (fun KK hKK => ?_)
  go_simp
  refine (sAA _ hSb).mono ?_
  rintro e wc ⟨rfl, hbc⟩
  have hSc := hSb.trans (hbc.mono hSb.size)
  simp only
  refine hKK _ _ ?_
  clear hKK KK
  refine HT.take_at (i := 11) (v := ?_) rfl rfl (by kernel_rfl) (by kernel_rfl) (by kernel_rfl) (fun _ _ _ h => h) (Or.inl ⟨by rfl, ?_⟩) ?_
  rotate_left
  · intro wq
    go_simp
    try with_reducible rfl
  simp only [Act.put, List.setIfInBounds_toArray, List.set_cons_zero, List.set_cons_succ]
  refine HT.take_at (i := 12) (v := ?_) rfl rfl (by kernel_rfl) (by kernel_rfl) (by kernel_rfl) (fun _ _ _ h => h) (Or.inl ⟨by rfl, ?_⟩) ?_
  rotate_left
  · intro wq
    go_simp
    try with_reducible rfl
  simp only [Act.put, List.setIfInBounds_toArray, List.set_cons_zero, List.set_cons_succ]
  refine HT.wpAny_of_G (k := 15) (S := fun w' => Below w8.heap.size w8 w') _ _ _ _ ?_
  refine HT.takeG_at (i := 13) (v := ?_) rfl rfl (by kernel_rfl) (by kernel_rfl) (by kernel_rfl) (by kernel_rfl) (by kernel_rfl) (by kernel_rfl) (fun _ _ _ h => h) hSc (Or.inl ⟨by rfl, ?_⟩) ?_
  rotate_left
  · intro wq hwq
    have z0 := cell_on hwq u0
    have z1 := cell_on hwq u1
    have z2 := cell_on hwq u2
    have z3 := cell_on hwq u3
    go_simp
    try with_reducible rfl
  simp only [Act.put, List.setIfInBounds_toArray, List.set_cons_zero, List.set_cons_succ]
  refine HT.takeG_at (i := 14) (v := ?_) rfl rfl (by kernel_rfl) (by kernel_rfl) (by kernel_rfl) (by kernel_rfl) (by kernel_rfl) (by kernel_rfl) (fun _ _ _ h => h) hSc (Or.inl ⟨by rfl, ?_⟩) ?_
  rotate_left
  · intro wq hwq
    have z0 := cell_on hwq v0
    have z1 := cell_on hwq v1
    have z2 := cell_on hwq v2
    have z3 := cell_on hwq v3
    go_simp
    try with_reducible rfl
  simp only [Act.put, List.setIfInBounds_toArray, List.set_cons_zero, List.set_cons_succ]
  refine HT.wpAnyG_turn (k := 15) (by kernel_rfl) rfl (fun KK hKK => ?_)
  go_simp
  refine (rXY _ hSc).mono ?_
  rintro e wd ⟨rfl, hbd⟩
  have hSd := hSc.trans (hbd.mono hSc.size)
  simp only
  refine hKK _ _ ?_
  clear hKK KK
  refine HT.take_at (i := 16) (v := ?_) rfl rfl (by kernel_rfl) (by kernel_rfl) (by kernel_rfl) (fun _ _ _ h => h) (Or.inl ⟨by rfl, ?_⟩) ?_
  rotate_left
  · intro wq
    go_simp
    try with_reducible rfl
  simp only [Act.put, List.setIfInBounds_toArray, List.set_cons_zero, List.set_cons_succ]
  refine HT.take_at (i := 17) (v := ?_) rfl rfl (by kernel_rfl) (by kernel_rfl) (by kernel_rfl) (fun _ _ _ h => h) (Or.inl ⟨by rfl, ?_⟩) ?_
  rotate_left
  · intro wq
    go_simp
    try with_reducible rfl
  simp only [Act.put, List.setIfInBounds_toArray, List.set_cons_zero, List.set_cons_succ]
  refine HT.take_at (i := 18) (v := ?_) rfl rfl (by kernel_rfl) (by kernel_rfl) (by kernel_rfl) (fun _ _ _ h => h) (Or.inl ⟨by rfl, ?_⟩) ?_
  rotate_left
  · intro wq
    go_simp
    try with_reducible rfl
  simp only [Act.put, List.setIfInBounds_toArray, List.set_cons_zero, List.set_cons_succ]
  refine HT.take_at (i := 19) (v := ?_) rfl rfl (by kernel_rfl) (by kernel_rfl) (by kernel_rfl) (fun _ _ _ h => h) (Or.inl ⟨by rfl, ?_⟩) ?_
  rotate_left
  · intro wq
    go_simp
    try with_reducible rfl
  simp only [Act.put, List.setIfInBounds_toArray, List.set_cons_zero, List.set_cons_succ]
  refine HT.take_at (i := 20) (v := ?_) rfl rfl (by kernel_rfl) (by kernel_rfl) (by kernel_rfl) (fun _ _ _ h => h) (Or.inl ⟨by rfl, ?_⟩) ?_
  rotate_left
  · intro wq
    go_simp
    try with_reducible rfl
  simp only [Act.put, List.setIfInBounds_toArray, List.set_cons_zero, List.set_cons_succ]
  refine HT.take_at (i := 21) (v := ?_) rfl rfl (by kernel_rfl) (by kernel_rfl) (by kernel_rfl) (fun _ _ _ h => h) (Or.inl ⟨by rfl, ?_⟩) ?_
  rotate_left
  · intro wq
    go_simp
    try with_reducible rfl
  simp only [Act.put, List.setIfInBounds_toArray, List.set_cons_zero, List.set_cons_succ]
  refine HT.take_at (i := 22) (v := ?_) rfl rfl (by kernel_rfl) (by kernel_rfl) (by kernel_rfl) (fun _ _ _ h => h) (Or.inl ⟨by rfl, ?_⟩) ?_
  rotate_left
  · intro wq
    go_simp
    try with_reducible rfl
  simp only [Act.put, List.setIfInBounds_toArray, List.set_cons_zero, List.set_cons_succ]
  refine HT.take_at (i := 23) (v := ?_) rfl rfl (by kernel_rfl) (by kernel_rfl) (by kernel_rfl) (fun _ _ _ h => h) (Or.inl ⟨by rfl, ?_⟩) ?_
  rotate_left
  · intro wq
    go_simp
    try with_reducible rfl
  simp only [Act.put, List.setIfInBounds_toArray, List.set_cons_zero, List.set_cons_succ]
  refine HT.take_at (i := 24) (v := ?_) rfl rfl (by kernel_rfl) (by kernel_rfl) (by kernel_rfl) (fun _ _ _ h => h) (Or.inl ⟨by rfl, ?_⟩) ?_
  rotate_left
  · intro wq
    go_simp
    try with_reducible rfl
  simp only [Act.put, List.setIfInBounds_toArray, List.set_cons_zero, List.set_cons_succ]
  refine HT.take_at (i := 25) (v := ?_) rfl rfl (by kernel_rfl) (by kernel_rfl) (by kernel_rfl) (fun _ _ _ h => h) (Or.inl ⟨by rfl, ?_⟩) ?_
  rotate_left
  · intro wq
    go_simp
    try with_reducible rfl
  simp only [Act.put, List.setIfInBounds_toArray, List.set_cons_zero, List.set_cons_succ]
  refine HT.take_at (i := 26) (v := ?_) rfl rfl (by kernel_rfl) (by kernel_rfl) (by kernel_rfl) (fun _ _ _ h => h) (Or.inl ⟨by rfl, ?_⟩) ?_
  rotate_left
  · intro wq
    go_simp
    try with_reducible rfl
  simp only [Act.put, List.setIfInBounds_toArray, List.set_cons_zero, List.set_cons_succ]
  refine HT.take_at (i := 27) (v := ?_) rfl rfl (by kernel_rfl) (by kernel_rfl) (by kernel_rfl) (fun _ _ _ h => h) (Or.inl ⟨by rfl, ?_⟩) ?_
  rotate_left
  · intro wq
    go_simp
    try with_reducible rfl
  simp only [Act.put, List.setIfInBounds_toArray, List.set_cons_zero, List.set_cons_succ]
  refine HT.take_at (i := 28) (v := ?_) rfl rfl (by kernel_rfl) (by kernel_rfl) (by kernel_rfl) (fun _ _ _ h => h) (Or.inl ⟨by rfl, ?_⟩) ?_
  rotate_left
  · intro wq
    go_simp
    try with_reducible rfl
  simp only [Act.put, List.setIfInBounds_toArray, List.set_cons_zero, List.set_cons_succ]
  refine HT.take_at (i := 29) (v := ?_) rfl rfl (by kernel_rfl) (by kernel_rfl) (by kernel_rfl) (fun _ _ _ h => h) (Or.inl ⟨by rfl, ?_⟩) ?_
  rotate_left
  · intro wq
    go_simp
    try with_reducible rfl
  simp only [Act.put, List.setIfInBounds_toArray, List.set_cons_zero, List.set_cons_succ]
  refine HT.take_at (i := 30) (v := ?_) rfl rfl (by kernel_rfl) (by kernel_rfl) (by kernel_rfl) (fun _ _ _ h => h) (Or.inl ⟨by rfl, ?_⟩) ?_
  rotate_left
  · intro wq
    go_simp
    try with_reducible rfl
  simp only [Act.put, List.setIfInBounds_toArray, List.set_cons_zero, List.set_cons_succ]
  refine HT.take_at (i := 31) (v := ?_) rfl rfl (by kernel_rfl) (by kernel_rfl) (by kernel_rfl) (fun _ _ _ h => h) (Or.inl ⟨by rfl, ?_⟩) ?_
  rotate_left
  · intro wq
    go_simp
    try with_reducible rfl
  simp only [Act.put, List.setIfInBounds_toArray, List.set_cons_zero, List.set_cons_succ]
  refine HT.take_at (i := 32) (v := ?_) rfl rfl (by kernel_rfl) (by kernel_rfl) (by kernel_rfl) (fun _ _ _ h => h) (Or.inl ⟨by rfl, ?_⟩) ?_
  rotate_left
  · intro wq
    go_simp
    try with_reducible rfl
  simp only [Act.put, List.setIfInBounds_toArray, List.set_cons_zero, List.set_cons_succ]
  refine HT.wpAny_one (i := 33) (by kernel_rfl) rfl (fun KK hKK => ?_)
  go_simp
  refine (cE _ hSd).mono ?_
  rintro e we ⟨rfl, hbe⟩
  have hSe := hSd.trans (hbe.mono hSd.size)
  simp only
  refine hKK _ _ ?_
  clear hKK KK
  refine HT.take_at (i := 34) (v := ?_) rfl rfl (by kernel_rfl) (by kernel_rfl) (by kernel_rfl) (fun _ _ _ h => h) (Or.inl ⟨by rfl, ?_⟩) ?_
  rotate_left
  · intro wq
    go_simp
    try with_reducible rfl
  simp only [Act.put, List.setIfInBounds_toArray, List.set_cons_zero, List.set_cons_succ]
  refine HT.take_at (i := 35) (v := ?_) rfl rfl (by kernel_rfl) (by kernel_rfl) (by kernel_rfl) (fun _ _ _ h => h) (Or.inl ⟨by rfl, ?_⟩) ?_
  rotate_left
  · intro wq
    go_simp
    try with_reducible rfl
  simp only [Act.put, List.setIfInBounds_toArray, List.set_cons_zero, List.set_cons_succ]
  refine wpAny_done (by kernel_rfl) ?_ _
  go_wp2
  go_ret
  exact ⟨rfl, hb08.trans (hSe.mono hb08.size)⟩
end Go.Proofs.YtjffiignedbndaaGreatDoor
