/-
  CONTRACTS of codicilref02.Same, codicillaw02.Heavy.
-/
import Derived.Test.YtakdhfjlhkejdaaGreatDoorCJsonMany
import Derived.Deep.RegionWith
import Derived.BigQuiet
set_option linter.unusedSimpArgs false
set_option linter.unusedVariables false
set_option linter.unusedVariables false
namespace Go.Proofs.YtakdhfjlhkejdaaGreatDoor
open Go.RowKit
theorem heavy_any (v : JV) (c0 c1 c2 c3 : Value) (w : World) (hV : IsV w 0 v c0 c1 c2 c3) (hB : bndV v) :
    Calls Tryz.prog 14 #[.agg #[c0, c1, c2, c3]] w fun e w' => e = .returned (.bool (heavyB v)) ∧ Below w.heap.size w w' := by
  have hV2 := hV
  obtain ⟨k0, t0, ka, kl, kc, la, ll, lc, rfl, rfl, rfl, rfl⟩ := hV.shape
  have hbel : ∀ A : Obj, Below w.heap.size w (w.alloc A) := fun A => (Below.refl w.heap.size w).alloc (Nat.le_refl _) A
  have hm := fun (w2 : World) (hb : Below w.heap.size w w2) => many_any (sizeV v) v (Nat.le_refl _) _ _ _ _ 2000 60 w2 (IsV.stays (Below.stays hb 0) (Nat.le_refl 0) _ _ _ _ _ hV2) hB (by omega) (by omega) (by omega) (by omega)
  have E : Hid (heavyB v = decide (manyV v 2000 60 < 0)) := Lib.hid rfl
  generalize manyV v 2000 60 = m at *
  clear hV hV2
  go_enter Tryz.func14, Tryz.ntmps14
  go_wp2_with (go_at_call 38; refine (hm _ (hbel _)).mono ?_; rintro e w1 ⟨rfl, hb1⟩)
  go_ret
  exact ⟨ret_bool E.out.symm, (hbel _).trans (hb1.mono (by simp))⟩
theorem same_no_kind {k k' : Nat} {t t' : ByteArray} {ks ks' : List ByteArray} {l l' : List JV} (h : k ≠ k') : sameV (.mk k t ks l) (.mk k' t' ks' l') = false := by
  rw [sameV_mk]
  unfold alikeB
  rw [decide_eq_false (by omega : ¬ ((k : Int) = (k' : Int)))]
  simp
theorem same_no_text {k k' : Nat} {t t' : ByteArray} {ks ks' : List ByteArray} {l l' : List JV} (h : t ≠ t') : sameV (.mk k t ks l) (.mk k' t' ks' l') = false := by
  rw [sameV_mk]
  unfold alikeB
  rw [decide_eq_false h]
  simp
theorem same_no_keys {k k' : Nat} {t t' : ByteArray} {ks ks' : List ByteArray} {l l' : List JV} (h : ks ≠ ks') : sameV (.mk k t ks l) (.mk k' t' ks' l') = false := by
  rw [sameV_mk]
  unfold alikeB
  rw [decide_eq_false h]
  simp
theorem same_no_len {k k' : Nat} {t t' : ByteArray} {ks ks' : List ByteArray} {l l' : List JV} (h : l.length ≠ l'.length) : sameV (.mk k t ks l) (.mk k' t' ks' l') = false := by
  rw [sameV_mk]
  unfold alikeB
  rw [decide_eq_false h]
  simp
theorem same_lists {k : Nat} {t : ByteArray} {ks : List ByteArray} {l l' : List JV} (h : l.length = l'.length) : sameV (.mk k t ks l) (.mk k t ks l') = sameL l l' := by
  rw [sameV_mk]
  unfold alikeB
  simp [h]
theorem keys_ne_at {ks ks' : List ByteArray} {i : Nat} (h : i < ks.length) (h' : i < ks'.length) (hne : ks.getD i ByteArray.empty ≠ ks'.getD i ByteArray.empty) : ks ≠ ks' := by
  rintro rfl
  exact hne rfl
theorem keys_eq_at {ks ks' : List ByteArray} (hl : ks.length = ks'.length) (h : ∀ i, i < ks.length → ks.getD i ByteArray.empty = ks'.getD i ByteArray.empty) : ks = ks' := by
  refine List.ext_getElem? fun i => ?_
  rcases Nat.lt_or_ge i ks.length with hi | hi
  · have := h i hi
    rw [List.getD_eq_getElem?_getD, List.getD_eq_getElem?_getD, List.getElem?_eq_getElem hi, List.getElem?_eq_getElem (by omega : i < ks'.length)] at this
    rw [List.getElem?_eq_getElem hi, List.getElem?_eq_getElem (by omega : i < ks'.length)]
    exact congrArg some this
  · rw [List.getElem?_eq_none hi, List.getElem?_eq_none (by omega)]
theorem keys_cell {w wA : World} {ks : List ByteArray} {a : Option Addr} {n p : Nat} (h : IsKeys w 0 ks (.slice a n p)) (hb : Below w.heap.size w wA) {j : Nat} (hj : j < ks.length) : ∃ b off, a = some ⟨b, off, none⟩ ∧ wA.cell? ⟨b, off + j, none⟩ = some (.string (ks.getD j ByteArray.empty)) := by
  obtain ⟨_, _, e, h⟩ := h
  simp only [Value.slice.injEq] at e
  obtain ⟨rfl, _, _⟩ := e
  rcases h with rfl | ⟨b, off, rfl, _, h⟩
  · simp at hj
  · exact ⟨b, off, rfl, (hb.cell (cell_lt (h j hj))).trans (h j hj)⟩
theorem list_cell {w : World} {l : List JV} {a : Option Addr} {n p : Nat} (h : IsL w l (.slice a n p)) {j : Nat} {x : JV} (hx : l[j]? = some x) : ∃ lb lo, a = some ⟨lb, lo, none⟩ ∧ ∃ q0 q1 q2 q3, w.cell? ⟨lb, lo + j * 4, none⟩ = some q0 ∧ w.cell? ⟨lb, lo + j * 4 + 1, none⟩ = some q1 ∧ w.cell? ⟨lb, lo + j * 4 + 2, none⟩ = some q2 ∧ w.cell? ⟨lb, lo + j * 4 + 3, none⟩ = some q3 ∧ IsV w 0 x q0 q1 q2 q3 := by
  obtain ⟨_, _, e, h⟩ := h
  simp only [Value.slice.injEq] at e
  obtain ⟨rfl, _, _⟩ := e
  rcases h with rfl | ⟨b, off, rfl, hr⟩
  · simp at hx
  · exact ⟨b, off, rfl, hr.at' l b off j x hx⟩
set_option maxRecDepth 10000000 in
set_option maxHeartbeats 8000000 in
theorem refSame_any (N : Nat) : ∀ (a : JV), sizeV a ≤ N → ∀ (b : JV) (c0 c1 c2 c3 d0 d1 d2 d3 : Value) (w : World), IsV w 0 a c0 c1 c2 c3 → IsV w 0 b d0 d1 d2 d3 → bndV a → bndV b →
    Calls Tryz.prog 13 #[.agg #[c0, c1, c2, c3], .agg #[d0, d1, d2, d3]] w fun e w' => e = .returned (.bool (sameV a b)) ∧ Below w.heap.size w w' := by
  induction N with
  | zero => intro v hv; obtain ⟨k, t, ks, l⟩ := v; simp only [sizeV] at hv; omega
  | succ N ih =>
    rintro ⟨k, t, ks, l⟩ hv ⟨k', t', ks', l'⟩ c0 c1 c2 c3 d0 d1 d2 d3 w hV hV' hB hB'
    obtain ⟨ka, kp, la, lp, rfl, rfl, rfl, rfl, hK, hL⟩ := IsV.opened hV
    obtain ⟨ka', kp', la', lp', rfl, rfl, rfl, rfl, hK', hL'⟩ := IsV.opened hV'
    simp only [bndV] at hB hB'
    obtain ⟨_, _, bkl, bll, bl⟩ := hB
    obtain ⟨_, _, bkl', bll', bl'⟩ := hB'
    unfold maxLen at bkl bll bkl' bll'
    have hbel : Below w.heap.size w ((w.alloc (.cells #[.int .u8 (k : Nat), .string t, .slice ka ks.length kp, .slice la l.length lp] 26)).alloc (.cells #[.int .u8 (k' : Nat), .string t', .slice ka' ks'.length kp', .slice la' l'.length lp'] 26)) := ((Below.refl _ _).alloc (Nat.le_refl _) _).alloc (by simp) _
    by_cases hk : k = k'
    rotate_left
    · have E := Lib.hid (same_no_kind (t := t) (t' := t') (ks := ks) (ks' := ks') (l := l) (l' := l') hk)
      have hk1 : ((k : Int) == (k' : Int)) = false := beq_false_of_ne (by omega)
      have hk2 : ((k : Int) != (k' : Int)) = true := by simp [bne, hk1]
      go_enter Tryz.func13, Tryz.ntmps13
      go_wp2
      go_ret
      exact ⟨ret_bool E.out.symm, hbel⟩
    by_cases ht : t = t'
    rotate_left
    · have E := Lib.hid (same_no_text (k := k) (k' := k') (ks := ks) (ks' := ks') (l := l) (l' := l') ht)
      have ht1 : (t.toList == t'.toList) = false := beq_false_of_ne (fun h => ht (by rwa [tl_eq] at h))
      have ht2 : (t.toList != t'.toList) = true := by simp [bne, ht1]
      subst hk
      have hk2 : ((k : Int) != (k : Int)) = false := by simp
      clear ht
      go_enter Tryz.func13, Tryz.ntmps13
      go_wp2
      go_ret
      exact ⟨ret_bool E.out.symm, hbel⟩
    subst hk
    subst ht
    have hk2 : ((k : Int) != (k : Int)) = false := by simp
    have ht2 : (t.toList != t.toList) = false := by simp
    by_cases hkl : ks.length = ks'.length
    rotate_left
    · have E := Lib.hid (same_no_keys (k := k) (k' := k) (t := t) (t' := t) (l := l) (l' := l') (fun h => hkl (congrArg List.length h)))
      have hn1 : ((ks.length : Int) == (ks'.length : Int)) = false := beq_false_of_ne (by omega)
      have hn2 : ((ks.length : Int) != (ks'.length : Int)) = true := by simp [bne, hn1]
      clear hkl
      go_enter Tryz.func13, Tryz.ntmps13
      go_wp2
      go_ret
      exact ⟨ret_bool E.out.symm, hbel⟩
    by_cases hll : l.length = l'.length
    rotate_left
    · have E := Lib.hid (same_no_len (k := k) (k' := k) (t := t) (t' := t) (ks := ks) (ks' := ks') hll)
      have hm1 : ((l.length : Int) == (l'.length : Int)) = false := beq_false_of_ne (by omega)
      have hm2 : ((l.length : Int) != (l'.length : Int)) = true := by simp [bne, hm1]
      have hn2 : ((ks.length : Int) != (ks'.length : Int)) = false := by simp [hkl]
      clear hkl hll
      go_enter Tryz.func13, Tryz.ntmps13
      go_wp2
      go_ret
      exact ⟨ret_bool E.out.symm, hbel⟩
    have hn2 : ((ks.length : Int) != (ks'.length : Int)) = false := by simp [hkl]
    have hm2 : ((l.length : Int) != (l'.length : Int)) = false := by simp [hll]
    have HKL := Lib.hid hkl
    have HLL := Lib.hid hll
    clear hkl hll
    go_enter Tryz.func13, Tryz.ntmps13
    go_wp2
    have hbx1 := (Lib.alloc_old (w.alloc (.cells #[.int .u8 (k : Nat), .string t, .slice ka ks.length kp, .slice la l.length lp] 26)) (.cells #[.int .u8 (k : Nat), .string t, .slice ka' ks'.length kp', .slice la' l'.length lp'] 26) w.heap.size (by simp)).trans (heap_alloc_new w (.cells #[.int .u8 (k : Nat), .string t, .slice ka ks.length kp, .slice la l.length lp] 26))
    have hbx2 := heap_alloc_new (w.alloc (.cells #[.int .u8 (k : Nat), .string t, .slice ka ks.length kp, .slice la l.length lp] 26)) (.cells #[.int .u8 (k : Nat), .string t, .slice ka' ks'.length kp', .slice la' l'.length lp'] 26)
    rw [show (w.alloc (.cells #[.int .u8 (k : Nat), .string t, .slice ka ks.length kp, .slice la l.length lp] 26)).heap.size = w.heap.size + 1 by simp] at hbx2
    generalize (w.alloc (.cells #[.int .u8 (k : Nat), .string t, .slice ka ks.length kp, .slice la l.length lp] 26)).alloc (.cells #[.int .u8 (k : Nat), .string t, .slice ka' ks'.length kp', .slice la' l'.length lp'] 26) = wA at *
    have HKC := Lib.hid (fun (wr : World) (hb : Below w.heap.size w wr) (j : Nat) (hj : j < ks.length) => keys_cell hK hb hj)
    have HKC' := Lib.hid (fun (wr : World) (hb : Below w.heap.size w wr) (j : Nat) (hj : j < ks'.length) => keys_cell hK' hb hj)
    have HLC := Lib.hid (fun (j : Nat) (x : JV) (hx : l[j]? = some x) => list_cell hL hx)
    have HLC' := Lib.hid (fun (j : Nat) (x : JV) (hx : l'[j]? = some x) => list_cell hL' hx)
    have HBL := Lib.hid bl
    have HBL' := Lib.hid bl'
    clear hV hV' hK hK' hL hL' bl bl' ht2 hk2 hn2 hm2
    go_loopw [5] (fun vi wr => ∃ i : Nat, vi = .int .i64 i ∧ i ≤ ks.length ∧ (∀ j, j < i → ks.getD j ByteArray.empty = ks'.getD j ByteArray.empty) ∧ Below w.heap.size w wr ∧ wr.heap[w.heap.size]? = some (.cells #[.int .u8 (k : Nat), .string t, .slice ka ks.length kp, .slice la l.length lp] 26 (0, 0)) ∧ wr.heap[w.heap.size + 1]? = some (.cells #[.int .u8 (k : Nat), .string t, .slice ka' ks'.length kp', .slice la' l'.length lp'] 26 (0, 0))) (fun vi _ => ks.length - (intOf vi).toNat)
    case atStart => exact ⟨0, rfl, Nat.zero_le _, fun j hj => absurd hj (Nat.not_lt_zero j), hbel, hbx1, hbx2⟩
    case round =>
      obtain ⟨i, rfl, hi, hsame, hB2, hx1, hx2⟩ := hrel
      have HS := Lib.hid hsame
      clear hsame hbel hbx1 hbx2
      have y2 := Lib.cell_of_heap hx1 2
      have y3 := Lib.cell_of_heap hx1 3
      have z2 := Lib.cell_of_heap hx2 2
      have z3 := Lib.cell_of_heap hx2 3
      by_cases hgo : i < ks.length
      · obtain ⟨kb, ko, rfl, ck⟩ := HKC.out _ hB2 i hgo
        obtain ⟨kb', ko', rfl, ck'⟩ := HKC'.out _ hB2 i (by have := HKL.out; omega)
        have hgo2 : (i : Int) < (ks.length : Int) := by omega
        have hgo3 : (i : Int) < (ks'.length : Int) := by have := HKL.out; omega
        by_cases hxy : ks.getD i ByteArray.empty = ks'.getD i ByteArray.empty
        · have HX : Hid (∀ j, j < i + 1 → ks.getD j ByteArray.empty = ks'.getD j ByteArray.empty) := Lib.hid (fun j hj => by
            rcases Nat.lt_or_ge j i with h | h
            · exact HS.out j h
            · have : j = i := by omega
              subst this
              exact hxy)
          rw [← hxy] at ck'
          clear hxy
          generalize ks.getD i ByteArray.empty = x at *
          have hb3 : (x.toList != x.toList) = false := by simp
          go_wp2
          go_quiet (fail)
          go_wp2
          go_roundw
          case rel => exact ⟨i + 1, by go_num, hgo, HX.out, below_drewN hB2 _, hx1, hx2⟩
          case measure => simp [intOf]; omega
        · have E := Lib.hid (same_no_keys (k := k) (k' := k) (t := t) (t' := t) (l := l) (l' := l') (keys_ne_at hgo (by have := HKL.out; omega) hxy))
          generalize ks.getD i ByteArray.empty = x at *
          generalize ks'.getD i ByteArray.empty = y at *
          have hb2 : (x.toList == y.toList) = false := beq_false_of_ne (fun h => hxy (by rwa [tl_eq] at h))
          have hb3 : (x.toList != y.toList) = true := by simp [bne, hb2]
          clear hxy
          go_wp2
          go_quiet (fail)
          go_wp2
          go_ret
          exact ⟨ret_bool E.out.symm, below_drewN hB2 _⟩
      · have hge2 : ¬ ((i : Int) < (ks.length : Int)) := by omega
        go_wp2
        have hkeys : ks = ks' := keys_eq_at HKL.out (fun j hj => HS.out j (by omega))
        have E := Lib.hid (by rw [← hkeys]; exact same_lists HLL.out : sameV (.mk k t ks l) (.mk k t ks' l') = sameL l l')
        clear hkeys
        go_loopw [6] (fun vi wr => ∃ i : Nat, vi = .int .i64 i ∧ i ≤ l.length ∧ sameL l l' = sameL (l.drop i) (l'.drop i) ∧ Below w.heap.size w wr ∧ wr.heap[w.heap.size]? = some (.cells #[.int .u8 (k : Nat), .string t, .slice ka ks.length kp, .slice la l.length lp] 26 (0, 0)) ∧ wr.heap[w.heap.size + 1]? = some (.cells #[.int .u8 (k : Nat), .string t, .slice ka' ks'.length kp', .slice la' l'.length lp'] 26 (0, 0))) (fun vi _ => l.length - (intOf vi).toNat)
        case atStart => exact ⟨0, rfl, Nat.zero_le _, by rw [List.drop_zero, List.drop_zero], hB2, hx1, hx2⟩
        case round =>
          clear y2 y3 z2 z3 hB2 hx1 hx2
          obtain ⟨i2, rfl, hi2, hml, hB2, hx1, hx2⟩ := hrel
          have y3 := Lib.cell_of_heap hx1 3
          have z3 := Lib.cell_of_heap hx2 3
          by_cases hgo : i2 < l.length
          · obtain ⟨x, hx⟩ : ∃ x, l[i2]? = some x := ⟨_, List.getElem?_eq_getElem hgo⟩
            obtain ⟨y, hy⟩ : ∃ y, l'[i2]? = some y := ⟨_, List.getElem?_eq_getElem (by have := HLL.out; omega)⟩
            obtain ⟨lb, lo, rfl, q0, q1, q2, q3, g0, g1, g2, g3, hVx⟩ := HLC.out i2 x hx
            obtain ⟨lb', lo', rfl, p0, p1, p2, p3, f0, f1, f2, f3, hVy⟩ := HLC'.out i2 y hy
            have hbx := bndL_at HBL.out hx
            have hby := bndL_at HBL'.out hy
            have hsx : sizeV x ≤ N := by have := sizeV_in hx; simp only [sizeV] at hv; omega
            have e0 := cell_on hB2 g0
            have e1 := cell_on hB2 g1
            have e2 := cell_on hB2 g2
            have e3 := cell_on hB2 g3
            have d0 := cell_on hB2 f0
            have d1 := cell_on hB2 f1
            have d2 := cell_on hB2 f2
            have d3 := cell_on hB2 f3
            have hgo2 : (i2 : Int) < (l.length : Int) := by omega
            have hgo3 : (i2 : Int) < (l'.length : Int) := by have := HLL.out; omega
            have hml2 := Lib.hid (hml.trans (sameL_split hx hy))
            have hb0 : Below w.heap.size w wr.drew := Below.drew hB2
            have hcall := ih x hsx y _ _ _ _ _ _ _ _ wr.drew (IsV.stays (Below.stays hb0 0) (Nat.le_refl 0) _ _ _ _ _ hVx) (IsV.stays (Below.stays hb0 0) (Nat.le_refl 0) _ _ _ _ _ hVy) hbx hby
            generalize sameV x y = r at *
            clear hml g0 g1 g2 g3 f0 f1 f2 f3 hVx hVy hx hy hv
            go_wp2
            go_region_with (go_at_call 13; refine hcall.mono ?_; rintro e w3 ⟨rfl, hb3⟩)
            all_goals have hb4 := hb0.trans (hb3.mono hb0.size)
            all_goals have hx4 := (hb3.block _ (Array.getElem?_eq_some_iff.1 hx1).1).trans hx1
            all_goals have hx5 := (hb3.block _ (Array.getElem?_eq_some_iff.1 hx2).1).trans hx2
            all_goals cases r
            all_goals simp only [Bool.false_and, Bool.true_and] at hml2
            all_goals first
              | (have E2 := Lib.hid (E.out.trans hml2.out)
                 go_wp2
                 go_ret
                 exact ⟨ret_bool E2.out.symm, hb4⟩)
              | (go_wp2
                 go_roundw
                 case rel => exact ⟨i2 + 1, by go_num, hgo, hml2.out, hb4, hx4, hx5⟩
                 case measure => simp [intOf]; omega)
          · have hge3 : ¬ ((i2 : Int) < (l.length : Int)) := by omega
            have E2 := Lib.hid (by rw [E.out, hml, List.drop_eq_nil_of_le (by omega), List.drop_eq_nil_of_le (by have := HLL.out; omega)]; simp [sameL] : sameV (.mk k t ks l) (.mk k t ks' l') = true)
            go_wp2
            go_ret
            exact ⟨ret_bool E2.out.symm, hB2⟩
end Go.Proofs.YtakdhfjlhkejdaaGreatDoor
