/-
  CONTRACTS of codicilref02's form and text. (gen_rwr2.py writes it.)
-/
import Derived.Test.YtakdhfjlhkejdaaGreatDoorCJsonRWr
set_option linter.unusedSimpArgs false
set_option linter.unusedVariables false
set_option linter.unusedVariables false
set_option linter.unusedSimpArgs false
namespace Go.Proofs.YtakdhfjlhkejdaaGreatDoor
open Go.RowKit
theorem formB_bad {k : Nat} {t : ByteArray} {nk nl : Nat} (h : k = 0 ∨ 8 ≤ k) : formB (k : Int) t nk nl = false := by
  unfold formB
  rw [if_neg (by omega), if_neg (by omega), if_neg (by omega), if_neg (by omega), if_neg (by omega)]
theorem formB_word {k : Nat} {t : ByteArray} {nk nl : Nat} (h : k = 1 ∨ k = 2 ∨ k = 3) : formB (k : Int) t nk nl = (t.toList.isEmpty && nk == 0 && nl == 0) := by
  unfold formB
  rw [if_pos (by omega)]
theorem formB_4 {t : ByteArray} {nk nl : Nat} : formB ((4 : Nat) : Int) t nk nl = (numS t && nk == 0 && nl == 0) := rfl
theorem formB_5 {t : ByteArray} {nk nl : Nat} : formB ((5 : Nat) : Int) t nk nl = (nk == 0 && nl == 0) := rfl
theorem formB_6 {t : ByteArray} {nk nl : Nat} : formB ((6 : Nat) : Int) t nk nl = (t.toList.isEmpty && nk == 0) := rfl
theorem formB_7 {t : ByteArray} {nk nl : Nat} : formB ((7 : Nat) : Int) t nk nl = (t.toList.isEmpty && nk == nl) := rfl
set_option maxRecDepth 10000000 in
set_option maxHeartbeats 8000000 in
theorem refForm_any (N : Nat) : ∀ (v : JV), sizeV v ≤ N → ∀ (c0 c1 c2 c3 : Value) (w : World), IsV w 0 v c0 c1 c2 c3 → bndV v → sizeV v ≤ 1000000000000 → keysV v ≤ 1000000000000 →
    Calls Tryz.prog 47 #[.agg #[c0, c1, c2, c3]] w fun e w' => e = .returned (.bool (formV v)) ∧ Below w.heap.size w w' := by
  induction N with
  | zero => intro v hv; obtain ⟨k, t, ks, l⟩ := v; simp only [sizeV] at hv; omega
  | succ N ih =>
    rintro ⟨k, t, ks, l⟩ hv c0 c1 c2 c3 w hV hB hs hks
    obtain ⟨kxa, kxp, lxa, lxp, rfl, rfl, rfl, rfl, hKx, hLx⟩ := IsV.opened hV
    have HKC := Lib.hid (fun (wr : World) (hb : Below w.heap.size w wr) (j : Nat) (hj : j < ks.length) => keys_cell hKx hb hj)
    have HLC := Lib.hid (fun (j : Nat) (x : JV) (hx : l[j]? = some x) => list_cell hLx hx)
    have hbel : Below w.heap.size w (w.alloc (.cells #[.int .u8 (k : Nat), .string t, .slice kxa ks.length kxp, .slice lxa l.length lxp] 26)) := (Below.refl _ _).alloc (Nat.le_refl _) _
    have hllz := len_sizeL l
    clear hV hKx hLx
    simp only [sizeV] at hs
    simp only [keysV] at hks
    simp only [bndV] at hB
    obtain ⟨bt, bk, bkl, bll, bl⟩ := hB
    have HBL := Lib.hid bl
    have cN := fun w => refNumber_any t w bt
    clear bk bl bkl bll
    have E : Hid (formV (.mk k t ks l) = (formB (k : Int) t ks.length l.length && formL l)) := Lib.hid (by simp only [formV])
    by_cases k4 : k = 4
    · subst k4
      rw [show ((4 : Nat) : Int) = (4 : Int) from rfl] at hbel ⊢
      cases ht : numS t
      · have HG : Hid (formB ((4 : Nat) : Int) t ks.length l.length = false) := Lib.hid (by rw [formB_4, ht]; rfl)
        rw [ht] at cN
        try generalize ks.length = nk at *
        try generalize l.length = nl at *
        go_enter Tryz.func47, Tryz.ntmps47
        go_wp2_with (go_at_call 55; refine (cN _).mono ?_; rintro e w1 ⟨rfl, rfl⟩)
        go_ret
        exact ⟨ret_bool (by rw [E.out, HG.out]; rfl), hbel⟩
      rw [ht] at cN
      have HT : Hid (numS t = true) := Lib.hid ht
      clear ht
      by_cases hk0 : ks.length = 0
      rotate_left
      · have HG : Hid (formB ((4 : Nat) : Int) t ks.length l.length = false) := Lib.hid (by rw [formB_4]; simp [HT.out, hk0])
        have kb : (0 : Int) < (ks.length : Int) := by omega
        clear hk0
        try generalize ks.length = nk at *
        try generalize l.length = nl at *
        go_enter Tryz.func47, Tryz.ntmps47
        go_wp2_with (go_at_call 55; refine (cN _).mono ?_; rintro e w1 ⟨rfl, rfl⟩)
        go_ret
        exact ⟨ret_bool (by rw [E.out, HG.out]; rfl), hbel⟩
      have HK : Hid (ks.length = 0) := Lib.hid hk0
      rw [hk0] at hbel ⊢
      clear hk0
      by_cases hl0 : l.length = 0
      rotate_left
      · have HG : Hid (formB ((4 : Nat) : Int) t ks.length l.length = false) := Lib.hid (by rw [formB_4]; simp [hl0])
        have lb : (0 : Int) < (l.length : Int) := by omega
        clear hl0
        try generalize ks.length = nk at *
        try generalize l.length = nl at *
        go_enter Tryz.func47, Tryz.ntmps47
        go_wp2_with (go_at_call 55; refine (cN _).mono ?_; rintro e w1 ⟨rfl, rfl⟩)
        go_ret
        exact ⟨ret_bool (by rw [E.out, HG.out]; rfl), hbel⟩
      have HL0 : Hid (l.length = 0) := Lib.hid hl0
      have HFL : Hid (formL l = true) := Lib.hid (by rw [List.length_eq_zero_iff.1 hl0]; simp only [formL])
      rw [hl0] at hbel ⊢
      clear hl0
      have HG : Hid (formB ((4 : Nat) : Int) t ks.length l.length = true) := Lib.hid (by rw [formB_4]; simp [HT.out, HK.out, HL0.out])
      go_enter Tryz.func47, Tryz.ntmps47
      go_wp2_with (go_at_call 55; refine (cN _).mono ?_; rintro e w1 ⟨rfl, rfl⟩)
      have LX := heap_alloc_new w (.cells #[.int .u8 (4 : Int), .string t, .slice kxa 0 kxp, .slice lxa 0 lxp] 26)
      have LB := hbel
      clear hbel cN
      try clear tb2
      try clear ht
      try clear kb
      go_loopw [3, 4] (fun vp vi wr => vp = .bool true ∧ vi = .int .i64 0 ∧ Below w.heap.size w wr ∧ wr.heap[w.heap.size]? = some (.cells #[.int .u8 (4 : Int), .string t, .slice kxa 0 kxp, .slice lxa 0 lxp] 26 (0, 0))) (fun _ vi _ => 0)
      case atStart => exact ⟨rfl, rfl, LB, LX⟩
      case round =>
        obtain ⟨rfl, rfl, hB2, hbx⟩ := hrel
        have y3 := Lib.cell_of_heap hbx 3
        go_wp2_with fail
        go_ret
        exact ⟨ret_bool (by rw [E.out, HG.out, HFL.out]; rfl), hB2⟩
    by_cases k5 : k = 5
    · subst k5
      rw [show ((5 : Nat) : Int) = (5 : Int) from rfl] at hbel ⊢
      by_cases hk0 : ks.length = 0
      rotate_left
      · have HG : Hid (formB ((5 : Nat) : Int) t ks.length l.length = false) := Lib.hid (by rw [formB_5]; simp [hk0])
        have kb : (0 : Int) < (ks.length : Int) := by omega
        clear hk0
        try generalize ks.length = nk at *
        try generalize l.length = nl at *
        go_enter Tryz.func47, Tryz.ntmps47
        go_wp2_with (go_at_call 55; refine (cN _).mono ?_; rintro e w1 ⟨rfl, rfl⟩)
        go_ret
        exact ⟨ret_bool (by rw [E.out, HG.out]; rfl), hbel⟩
      have HK : Hid (ks.length = 0) := Lib.hid hk0
      rw [hk0] at hbel ⊢
      clear hk0
      by_cases hl0 : l.length = 0
      rotate_left
      · have HG : Hid (formB ((5 : Nat) : Int) t ks.length l.length = false) := Lib.hid (by rw [formB_5]; simp [hl0])
        have lb : (0 : Int) < (l.length : Int) := by omega
        clear hl0
        try generalize ks.length = nk at *
        try generalize l.length = nl at *
        go_enter Tryz.func47, Tryz.ntmps47
        go_wp2_with (go_at_call 55; refine (cN _).mono ?_; rintro e w1 ⟨rfl, rfl⟩)
        go_ret
        exact ⟨ret_bool (by rw [E.out, HG.out]; rfl), hbel⟩
      have HL0 : Hid (l.length = 0) := Lib.hid hl0
      have HFL : Hid (formL l = true) := Lib.hid (by rw [List.length_eq_zero_iff.1 hl0]; simp only [formL])
      rw [hl0] at hbel ⊢
      clear hl0
      have HG : Hid (formB ((5 : Nat) : Int) t ks.length l.length = true) := Lib.hid (by rw [formB_5]; simp [HK.out, HL0.out])
      go_enter Tryz.func47, Tryz.ntmps47
      go_wp2_with (go_at_call 55; refine (cN _).mono ?_; rintro e w1 ⟨rfl, rfl⟩)
      have LX := heap_alloc_new w (.cells #[.int .u8 (5 : Int), .string t, .slice kxa 0 kxp, .slice lxa 0 lxp] 26)
      have LB := hbel
      clear hbel cN
      try clear tb2
      try clear ht
      try clear kb
      go_loopw [3, 4] (fun vp vi wr => vp = .bool true ∧ vi = .int .i64 0 ∧ Below w.heap.size w wr ∧ wr.heap[w.heap.size]? = some (.cells #[.int .u8 (5 : Int), .string t, .slice kxa 0 kxp, .slice lxa 0 lxp] 26 (0, 0))) (fun _ vi _ => 0)
      case atStart => exact ⟨rfl, rfl, LB, LX⟩
      case round =>
        obtain ⟨rfl, rfl, hB2, hbx⟩ := hrel
        have y3 := Lib.cell_of_heap hbx 3
        go_wp2_with fail
        go_ret
        exact ⟨ret_bool (by rw [E.out, HG.out, HFL.out]; rfl), hB2⟩
    by_cases k6 : k = 6
    · subst k6
      rw [show ((6 : Nat) : Int) = (6 : Int) from rfl] at hbel ⊢
      by_cases ht : t.toList = []
      rotate_left
      · have hte : t.toList.isEmpty = false := by rw [Bool.eq_false_iff]; exact fun h => ht (List.isEmpty_iff.1 h)
        have HG : Hid (formB ((6 : Nat) : Int) t ks.length l.length = false) := Lib.hid (by rw [formB_6]; simp [hte])
        have tb1 : (t.toList == []) = false := beq_false_of_ne ht
        have tb2 : (t.toList != []) = true := by simp [bne, tb1]
        clear ht hte
        try generalize ks.length = nk at *
        try generalize l.length = nl at *
        go_enter Tryz.func47, Tryz.ntmps47
        go_wp2_with (go_at_call 55; refine (cN _).mono ?_; rintro e w1 ⟨rfl, rfl⟩)
        go_ret
        exact ⟨ret_bool (by rw [E.out, HG.out]; rfl), hbel⟩
      have tb2 : (t.toList != []) = false := by simp [ht]
      have HT : Hid (t.toList.isEmpty = true) := Lib.hid (List.isEmpty_iff.2 ht)
      by_cases hk0 : ks.length = 0
      rotate_left
      · have HG : Hid (formB ((6 : Nat) : Int) t ks.length l.length = false) := Lib.hid (by rw [formB_6]; simp [HT.out, hk0])
        have kb : (0 : Int) < (ks.length : Int) := by omega
        clear hk0
        try generalize ks.length = nk at *
        try generalize l.length = nl at *
        go_enter Tryz.func47, Tryz.ntmps47
        go_wp2_with (go_at_call 55; refine (cN _).mono ?_; rintro e w1 ⟨rfl, rfl⟩)
        go_ret
        exact ⟨ret_bool (by rw [E.out, HG.out]; rfl), hbel⟩
      have HK : Hid (ks.length = 0) := Lib.hid hk0
      rw [hk0] at hbel ⊢
      clear hk0
      have HG : Hid (formB ((6 : Nat) : Int) t ks.length l.length = true) := Lib.hid (by rw [formB_6]; simp [HT.out, HK.out])
      go_enter Tryz.func47, Tryz.ntmps47
      go_wp2_with (go_at_call 55; refine (cN _).mono ?_; rintro e w1 ⟨rfl, rfl⟩)
      have LX := heap_alloc_new w (.cells #[.int .u8 (6 : Int), .string t, .slice kxa 0 kxp, .slice lxa l.length lxp] 26)
      have LB := hbel
      clear hbel cN
      try clear tb2
      try clear ht
      try clear kb
      go_loopw [3, 4] (fun vp vi wr => ∃ (p : Bool) (i : Nat), vp = .bool p ∧ vi = .int .i64 (i : Nat) ∧ i ≤ l.length ∧ (p && formL (l.drop i)) = (true && formL l) ∧ Below w.heap.size w wr ∧ wr.heap[w.heap.size]? = some (.cells #[.int .u8 (6 : Int), .string t, .slice kxa 0 kxp, .slice lxa l.length lxp] 26 (0, 0))) (fun _ vi _ => l.length - (intOf vi).toNat)
      case atStart => exact ⟨true, 0, rfl, rfl, Nat.zero_le _, by rw [List.drop_zero], LB, LX⟩
      case round =>
        obtain ⟨p, i, rfl, rfl, hi, hp, hB2, hbx⟩ := hrel
        have y3 := Lib.cell_of_heap hbx 3
        by_cases hlt : i < l.length
        · obtain ⟨x, hx⟩ : ∃ x, l[i]? = some x := ⟨_, List.getElem?_eq_getElem hlt⟩
          rw [formL_drop hx] at hp
          have hlt4 : (i : Int) < (l.length : Int) := by omega
          cases p
          · have HP := Lib.hid hp
            clear hp
            go_wp2_with fail
            go_roundw
            case rel => exact ⟨false, i + 1, rfl, by go_num, hlt, by rw [← HP.out]; rfl, hB2, hbx⟩
            case measure => simp [intOf]; omega
          · obtain ⟨lb, lo, rfl, q0, q1, q2, q3, g0, g1, g2, g3, hVx⟩ := HLC.out i x hx
            have hsx : sizeV x ≤ N := by have := sizeV_in hx; simp only [sizeV] at hv; omega
            have e0 := cell_on hB2 g0
            have e1 := cell_on hB2 g1
            have e2 := cell_on hB2 g2
            have e3 := cell_on hB2 g3
            have hVr := IsV.stays (Below.stays hB2 0) (Nat.le_refl 0) _ _ _ _ _ hVx
            obtain ⟨k9, t9, ka9, kl9, kc9, la9, ll9, lc9, rfl, rfl, rfl, rfl⟩ := hVx.shape
            have hsx2 := sizeV_in hx
            have hkx2 := keysV_at hx
            have hcall := ih x hsx _ _ _ _ wr hVr (bndL_at HBL.out hx) (by omega) (by omega)
            have HP := Lib.hid hp
            generalize formV x = u at *
            clear g0 g1 g2 g3 hVx hVr hx hv hp
            go_wp2_with (go_at_call 47; refine hcall.mono ?_; rintro e w3 ⟨rfl, hb3⟩)
            go_roundw
            case rel => exact ⟨u, i + 1, rfl, by go_num, hlt, by rw [← HP.out]; rfl, hB2.trans (hb3.mono hB2.size), (hb3.block _ (Array.getElem?_eq_some_iff.1 hbx).1).trans hbx⟩
            case measure => simp [intOf]; omega
        · have hend : Hid (p = (true && formL l)) := Lib.hid <| by
            rw [List.drop_eq_nil_of_le (by omega)] at hp
            simpa [formL] using hp
          have hge : ¬ ((i : Int) < (l.length : Int)) := by omega
          go_wp2_with fail
          go_ret
          exact ⟨ret_bool (by rw [E.out, hend.out, HG.out]), hB2⟩
    by_cases k7 : k = 7
    · subst k7
      rw [show ((7 : Nat) : Int) = (7 : Int) from rfl] at hbel ⊢
      by_cases ht : t.toList = []
      rotate_left
      · have hte : t.toList.isEmpty = false := by rw [Bool.eq_false_iff]; exact fun h => ht (List.isEmpty_iff.1 h)
        have HG : Hid (formB ((7 : Nat) : Int) t ks.length l.length = false) := Lib.hid (by rw [formB_7]; simp [hte])
        have tb1 : (t.toList == []) = false := beq_false_of_ne ht
        have tb2 : (t.toList != []) = true := by simp [bne, tb1]
        clear ht hte
        try generalize ks.length = nk at *
        try generalize l.length = nl at *
        go_enter Tryz.func47, Tryz.ntmps47
        go_wp2_with (go_at_call 55; refine (cN _).mono ?_; rintro e w1 ⟨rfl, rfl⟩)
        go_ret
        exact ⟨ret_bool (by rw [E.out, HG.out]; rfl), hbel⟩
      have tb2 : (t.toList != []) = false := by simp [ht]
      have HT : Hid (t.toList.isEmpty = true) := Lib.hid (List.isEmpty_iff.2 ht)
      by_cases hk0 : ks.length = l.length
      rotate_left
      · have HG : Hid (formB ((7 : Nat) : Int) t ks.length l.length = false) := Lib.hid (by rw [formB_7]; simp [HT.out, hk0])
        have kb1 : ((ks.length : Int) == (l.length : Int)) = false := beq_false_of_ne (by omega)
        have kb : ((ks.length : Int) != (l.length : Int)) = true := by simp [bne, kb1]
        clear hk0
        try generalize ks.length = nk at *
        try generalize l.length = nl at *
        go_enter Tryz.func47, Tryz.ntmps47
        go_wp2_with (go_at_call 55; refine (cN _).mono ?_; rintro e w1 ⟨rfl, rfl⟩)
        go_ret
        exact ⟨ret_bool (by rw [E.out, HG.out]; rfl), hbel⟩
      have kb : ((ks.length : Int) != (l.length : Int)) = false := by simp [hk0]
      have HK : Hid (ks.length = l.length) := Lib.hid hk0
      clear hk0
      have HG : Hid (formB ((7 : Nat) : Int) t ks.length l.length = true) := Lib.hid (by rw [formB_7]; simp [HT.out, HK.out])
      go_enter Tryz.func47, Tryz.ntmps47
      go_wp2_with (go_at_call 55; refine (cN _).mono ?_; rintro e w1 ⟨rfl, rfl⟩)
      have LX := heap_alloc_new w (.cells #[.int .u8 (7 : Int), .string t, .slice kxa ks.length kxp, .slice lxa l.length lxp] 26)
      have LB := hbel
      clear hbel cN
      try clear tb2
      try clear ht
      try clear kb
      go_loopw [3, 4] (fun vp vi wr => ∃ (p : Bool) (i : Nat), vp = .bool p ∧ vi = .int .i64 (i : Nat) ∧ i ≤ l.length ∧ (p && formL (l.drop i)) = (true && formL l) ∧ Below w.heap.size w wr ∧ wr.heap[w.heap.size]? = some (.cells #[.int .u8 (7 : Int), .string t, .slice kxa ks.length kxp, .slice lxa l.length lxp] 26 (0, 0))) (fun _ vi _ => l.length - (intOf vi).toNat)
      case atStart => exact ⟨true, 0, rfl, rfl, Nat.zero_le _, by rw [List.drop_zero], LB, LX⟩
      case round =>
        obtain ⟨p, i, rfl, rfl, hi, hp, hB2, hbx⟩ := hrel
        have y3 := Lib.cell_of_heap hbx 3
        by_cases hlt : i < l.length
        · obtain ⟨x, hx⟩ : ∃ x, l[i]? = some x := ⟨_, List.getElem?_eq_getElem hlt⟩
          rw [formL_drop hx] at hp
          have hlt4 : (i : Int) < (l.length : Int) := by omega
          cases p
          · have HP := Lib.hid hp
            clear hp
            go_wp2_with fail
            go_roundw
            case rel => exact ⟨false, i + 1, rfl, by go_num, hlt, by rw [← HP.out]; rfl, hB2, hbx⟩
            case measure => simp [intOf]; omega
          · obtain ⟨lb, lo, rfl, q0, q1, q2, q3, g0, g1, g2, g3, hVx⟩ := HLC.out i x hx
            have hsx : sizeV x ≤ N := by have := sizeV_in hx; simp only [sizeV] at hv; omega
            have e0 := cell_on hB2 g0
            have e1 := cell_on hB2 g1
            have e2 := cell_on hB2 g2
            have e3 := cell_on hB2 g3
            have hVr := IsV.stays (Below.stays hB2 0) (Nat.le_refl 0) _ _ _ _ _ hVx
            obtain ⟨k9, t9, ka9, kl9, kc9, la9, ll9, lc9, rfl, rfl, rfl, rfl⟩ := hVx.shape
            have hsx2 := sizeV_in hx
            have hkx2 := keysV_at hx
            have hcall := ih x hsx _ _ _ _ wr hVr (bndL_at HBL.out hx) (by omega) (by omega)
            have HP := Lib.hid hp
            generalize formV x = u at *
            clear g0 g1 g2 g3 hVx hVr hx hv hp
            go_wp2_with (go_at_call 47; refine hcall.mono ?_; rintro e w3 ⟨rfl, hb3⟩)
            go_roundw
            case rel => exact ⟨u, i + 1, rfl, by go_num, hlt, by rw [← HP.out]; rfl, hB2.trans (hb3.mono hB2.size), (hb3.block _ (Array.getElem?_eq_some_iff.1 hbx).1).trans hbx⟩
            case measure => simp [intOf]; omega
        · have hend : Hid (p = (true && formL l)) := Lib.hid <| by
            rw [List.drop_eq_nil_of_le (by omega)] at hp
            simpa [formL] using hp
          have hge : ¬ ((i : Int) < (l.length : Int)) := by omega
          go_wp2_with fail
          go_ret
          exact ⟨ret_bool (by rw [E.out, hend.out, HG.out]), hB2⟩
    by_cases kw : k = 1 ∨ k = 2 ∨ k = 3
    · have d4 : ((k : Int) == 4) = false := beq_false_of_ne (by omega)
      have d4n : ((k : Int) != 4) = true := by simp [bne, d4]
      have d5 : ((k : Int) == 5) = false := beq_false_of_ne (by omega)
      have d5n : ((k : Int) != 5) = true := by simp [bne, d5]
      have d6 : ((k : Int) == 6) = false := beq_false_of_ne (by omega)
      have d6n : ((k : Int) != 6) = true := by simp [bne, d6]
      have d7 : ((k : Int) == 7) = false := beq_false_of_ne (by omega)
      have d7n : ((k : Int) != 7) = true := by simp [bne, d7]
      have r1 : (1 : Int) ≤ (k : Int) := by omega
      have r2 : (k : Int) ≤ 7 := by omega
      have HW := Lib.hid kw
      clear kw k4 k5 k6 k7
      by_cases ht : t.toList = []
      rotate_left
      · have hte : t.toList.isEmpty = false := by rw [Bool.eq_false_iff]; exact fun h => ht (List.isEmpty_iff.1 h)
        have HG : Hid (formB (k : Int) t ks.length l.length = false) := Lib.hid (by rw [formB_word HW.out]; simp [hte])
        have tb1 : (t.toList == []) = false := beq_false_of_ne ht
        have tb2 : (t.toList != []) = true := by simp [bne, tb1]
        clear ht hte
        try generalize ks.length = nk at *
        try generalize l.length = nl at *
        go_enter Tryz.func47, Tryz.ntmps47
        go_wp2_with (go_at_call 55; refine (cN _).mono ?_; rintro e w1 ⟨rfl, rfl⟩)
        go_ret
        exact ⟨ret_bool (by rw [E.out, HG.out]; rfl), hbel⟩
      have tb2 : (t.toList != []) = false := by simp [ht]
      have HT : Hid (t.toList.isEmpty = true) := Lib.hid (List.isEmpty_iff.2 ht)
      by_cases hk0 : ks.length = 0
      rotate_left
      · have HG : Hid (formB (k : Int) t ks.length l.length = false) := Lib.hid (by rw [formB_word HW.out]; simp [HT.out, hk0])
        have kb : (0 : Int) < (ks.length : Int) := by omega
        clear hk0
        try generalize ks.length = nk at *
        try generalize l.length = nl at *
        go_enter Tryz.func47, Tryz.ntmps47
        go_wp2_with (go_at_call 55; refine (cN _).mono ?_; rintro e w1 ⟨rfl, rfl⟩)
        go_ret
        exact ⟨ret_bool (by rw [E.out, HG.out]; rfl), hbel⟩
      have HK : Hid (ks.length = 0) := Lib.hid hk0
      rw [hk0] at hbel ⊢
      clear hk0
      by_cases hl0 : l.length = 0
      rotate_left
      · have HG : Hid (formB (k : Int) t ks.length l.length = false) := Lib.hid (by rw [formB_word HW.out]; simp [hl0])
        have lb : (0 : Int) < (l.length : Int) := by omega
        clear hl0
        try generalize ks.length = nk at *
        try generalize l.length = nl at *
        go_enter Tryz.func47, Tryz.ntmps47
        go_wp2_with (go_at_call 55; refine (cN _).mono ?_; rintro e w1 ⟨rfl, rfl⟩)
        go_ret
        exact ⟨ret_bool (by rw [E.out, HG.out]; rfl), hbel⟩
      have HL0 : Hid (l.length = 0) := Lib.hid hl0
      have HFL : Hid (formL l = true) := Lib.hid (by rw [List.length_eq_zero_iff.1 hl0]; simp only [formL])
      rw [hl0] at hbel ⊢
      clear hl0
      have HG : Hid (formB (k : Int) t ks.length l.length = true) := Lib.hid (by rw [formB_word HW.out]; simp [HT.out, HK.out, HL0.out])
      go_enter Tryz.func47, Tryz.ntmps47
      go_wp2_with (go_at_call 55; refine (cN _).mono ?_; rintro e w1 ⟨rfl, rfl⟩)
      have LX := heap_alloc_new w (.cells #[.int .u8 (k : Nat), .string t, .slice kxa 0 kxp, .slice lxa 0 lxp] 26)
      have LB := hbel
      clear hbel cN
      try clear tb2
      try clear ht
      try clear kb
      go_loopw [3, 4] (fun vp vi wr => vp = .bool true ∧ vi = .int .i64 0 ∧ Below w.heap.size w wr ∧ wr.heap[w.heap.size]? = some (.cells #[.int .u8 (k : Nat), .string t, .slice kxa 0 kxp, .slice lxa 0 lxp] 26 (0, 0))) (fun _ vi _ => 0)
      case atStart => exact ⟨rfl, rfl, LB, LX⟩
      case round =>
        obtain ⟨rfl, rfl, hB2, hbx⟩ := hrel
        have y3 := Lib.cell_of_heap hbx 3
        go_wp2_with fail
        go_ret
        exact ⟨ret_bool (by rw [E.out, HG.out, HFL.out]; rfl), hB2⟩
    · have d4 : ((k : Int) == 4) = false := beq_false_of_ne (by omega)
      have d4n : ((k : Int) != 4) = true := by simp [bne, d4]
      have d5 : ((k : Int) == 5) = false := beq_false_of_ne (by omega)
      have d5n : ((k : Int) != 5) = true := by simp [bne, d5]
      have d6 : ((k : Int) == 6) = false := beq_false_of_ne (by omega)
      have d6n : ((k : Int) != 6) = true := by simp [bne, d6]
      have d7 : ((k : Int) == 7) = false := beq_false_of_ne (by omega)
      have d7n : ((k : Int) != 7) = true := by simp [bne, d7]
      have hbad : k = 0 ∨ 8 ≤ k := by omega
      have HW := Lib.hid hbad
      by_cases r1 : (1 : Int) ≤ (k : Int)
      · have r2 : ¬ ((k : Int) ≤ 7) := by omega
        clear kw k4 k5 k6 k7 hbad
        by_cases ht : t.toList = []
        rotate_left
        · have hte : t.toList.isEmpty = false := by rw [Bool.eq_false_iff]; exact fun h => ht (List.isEmpty_iff.1 h)
          have HG : Hid (formB (k : Int) t ks.length l.length = false) := Lib.hid (by rw [formB_bad HW.out])
          have tb1 : (t.toList == []) = false := beq_false_of_ne ht
          have tb2 : (t.toList != []) = true := by simp [bne, tb1]
          clear ht hte
          try generalize ks.length = nk at *
          try generalize l.length = nl at *
          go_enter Tryz.func47, Tryz.ntmps47
          go_wp2_with (go_at_call 55; refine (cN _).mono ?_; rintro e w1 ⟨rfl, rfl⟩)
          go_ret
          exact ⟨ret_bool (by rw [E.out, HG.out]; rfl), hbel⟩
        have tb2 : (t.toList != []) = false := by simp [ht]
        have HT : Hid (t.toList.isEmpty = true) := Lib.hid (List.isEmpty_iff.2 ht)
        by_cases hk0 : ks.length = 0
        rotate_left
        · have HG : Hid (formB (k : Int) t ks.length l.length = false) := Lib.hid (by rw [formB_bad HW.out])
          have kb : (0 : Int) < (ks.length : Int) := by omega
          clear hk0
          try generalize ks.length = nk at *
          try generalize l.length = nl at *
          go_enter Tryz.func47, Tryz.ntmps47
          go_wp2_with (go_at_call 55; refine (cN _).mono ?_; rintro e w1 ⟨rfl, rfl⟩)
          go_ret
          exact ⟨ret_bool (by rw [E.out, HG.out]; rfl), hbel⟩
        have HK : Hid (ks.length = 0) := Lib.hid hk0
        rw [hk0] at hbel ⊢
        clear hk0
        by_cases hl0 : l.length = 0
        rotate_left
        · have HG : Hid (formB (k : Int) t ks.length l.length = false) := Lib.hid (by rw [formB_bad HW.out])
          have lb : (0 : Int) < (l.length : Int) := by omega
          clear hl0
          try generalize ks.length = nk at *
          try generalize l.length = nl at *
          go_enter Tryz.func47, Tryz.ntmps47
          go_wp2_with (go_at_call 55; refine (cN _).mono ?_; rintro e w1 ⟨rfl, rfl⟩)
          go_ret
          exact ⟨ret_bool (by rw [E.out, HG.out]; rfl), hbel⟩
        have HL0 : Hid (l.length = 0) := Lib.hid hl0
        have HFL : Hid (formL l = true) := Lib.hid (by rw [List.length_eq_zero_iff.1 hl0]; simp only [formL])
        rw [hl0] at hbel ⊢
        clear hl0
        have HG : Hid (formB (k : Int) t ks.length l.length = false) := Lib.hid (by rw [formB_bad HW.out])
        go_enter Tryz.func47, Tryz.ntmps47
        go_wp2_with (go_at_call 55; refine (cN _).mono ?_; rintro e w1 ⟨rfl, rfl⟩)
        have LX := heap_alloc_new w (.cells #[.int .u8 (k : Nat), .string t, .slice kxa 0 kxp, .slice lxa 0 lxp] 26)
        have LB := hbel
        clear hbel cN
        try clear tb2
        try clear ht
        try clear kb
        go_loopw [3, 4] (fun vp vi wr => vp = .bool false ∧ vi = .int .i64 0 ∧ Below w.heap.size w wr ∧ wr.heap[w.heap.size]? = some (.cells #[.int .u8 (k : Nat), .string t, .slice kxa 0 kxp, .slice lxa 0 lxp] 26 (0, 0))) (fun _ vi _ => 0)
        case atStart => exact ⟨rfl, rfl, LB, LX⟩
        case round =>
          obtain ⟨rfl, rfl, hB2, hbx⟩ := hrel
          have y3 := Lib.cell_of_heap hbx 3
          go_wp2_with fail
          go_ret
          exact ⟨ret_bool (by rw [E.out, HG.out, HFL.out]; rfl), hB2⟩
      · clear kw k4 k5 k6 k7 hbad
        by_cases ht : t.toList = []
        rotate_left
        · have hte : t.toList.isEmpty = false := by rw [Bool.eq_false_iff]; exact fun h => ht (List.isEmpty_iff.1 h)
          have HG : Hid (formB (k : Int) t ks.length l.length = false) := Lib.hid (by rw [formB_bad HW.out])
          have tb1 : (t.toList == []) = false := beq_false_of_ne ht
          have tb2 : (t.toList != []) = true := by simp [bne, tb1]
          clear ht hte
          try generalize ks.length = nk at *
          try generalize l.length = nl at *
          go_enter Tryz.func47, Tryz.ntmps47
          go_wp2_with (go_at_call 55; refine (cN _).mono ?_; rintro e w1 ⟨rfl, rfl⟩)
          go_ret
          exact ⟨ret_bool (by rw [E.out, HG.out]; rfl), hbel⟩
        have tb2 : (t.toList != []) = false := by simp [ht]
        have HT : Hid (t.toList.isEmpty = true) := Lib.hid (List.isEmpty_iff.2 ht)
        by_cases hk0 : ks.length = 0
        rotate_left
        · have HG : Hid (formB (k : Int) t ks.length l.length = false) := Lib.hid (by rw [formB_bad HW.out])
          have kb : (0 : Int) < (ks.length : Int) := by omega
          clear hk0
          try generalize ks.length = nk at *
          try generalize l.length = nl at *
          go_enter Tryz.func47, Tryz.ntmps47
          go_wp2_with (go_at_call 55; refine (cN _).mono ?_; rintro e w1 ⟨rfl, rfl⟩)
          go_ret
          exact ⟨ret_bool (by rw [E.out, HG.out]; rfl), hbel⟩
        have HK : Hid (ks.length = 0) := Lib.hid hk0
        rw [hk0] at hbel ⊢
        clear hk0
        by_cases hl0 : l.length = 0
        rotate_left
        · have HG : Hid (formB (k : Int) t ks.length l.length = false) := Lib.hid (by rw [formB_bad HW.out])
          have lb : (0 : Int) < (l.length : Int) := by omega
          clear hl0
          try generalize ks.length = nk at *
          try generalize l.length = nl at *
          go_enter Tryz.func47, Tryz.ntmps47
          go_wp2_with (go_at_call 55; refine (cN _).mono ?_; rintro e w1 ⟨rfl, rfl⟩)
          go_ret
          exact ⟨ret_bool (by rw [E.out, HG.out]; rfl), hbel⟩
        have HL0 : Hid (l.length = 0) := Lib.hid hl0
        have HFL : Hid (formL l = true) := Lib.hid (by rw [List.length_eq_zero_iff.1 hl0]; simp only [formL])
        rw [hl0] at hbel ⊢
        clear hl0
        have HG : Hid (formB (k : Int) t ks.length l.length = false) := Lib.hid (by rw [formB_bad HW.out])
        go_enter Tryz.func47, Tryz.ntmps47
        go_wp2_with (go_at_call 55; refine (cN _).mono ?_; rintro e w1 ⟨rfl, rfl⟩)
        have LX := heap_alloc_new w (.cells #[.int .u8 (k : Nat), .string t, .slice kxa 0 kxp, .slice lxa 0 lxp] 26)
        have LB := hbel
        clear hbel cN
        try clear tb2
        try clear ht
        try clear kb
        go_loopw [3, 4] (fun vp vi wr => vp = .bool false ∧ vi = .int .i64 0 ∧ Below w.heap.size w wr ∧ wr.heap[w.heap.size]? = some (.cells #[.int .u8 (k : Nat), .string t, .slice kxa 0 kxp, .slice lxa 0 lxp] 26 (0, 0))) (fun _ vi _ => 0)
        case atStart => exact ⟨rfl, rfl, LB, LX⟩
        case round =>
          obtain ⟨rfl, rfl, hB2, hbx⟩ := hrel
          have y3 := Lib.cell_of_heap hbx 3
          go_wp2_with fail
          go_ret
          exact ⟨ret_bool (by rw [E.out, HG.out, HFL.out]; rfl), hB2⟩
end Go.Proofs.YtakdhfjlhkejdaaGreatDoor
