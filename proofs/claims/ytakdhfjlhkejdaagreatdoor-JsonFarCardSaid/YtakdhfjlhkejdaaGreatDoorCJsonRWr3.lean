/-
  CONTRACT of codicilref02's text. (gen_rwr3.py writes it.)
-/
import Derived.Test.YtakdhfjlhkejdaaGreatDoorCJsonRWr2
set_option linter.unusedSimpArgs false
set_option linter.unusedVariables false
set_option linter.unusedVariables false
set_option linter.unusedSimpArgs false
namespace Go.Proofs.YtakdhfjlhkejdaaGreatDoor
open Go.RowKit
theorem str_is {a : ByteArray} {l : List UInt8} (h : a.data.toList = l) : a = ⟨l.toArray⟩ := same_bytes (by rw [h])
theorem ret_text {a : ByteArray} {l : List UInt8} (h : a.data.toList = l) : Ending.returned (.string a) = .returned (.string ⟨l.toArray⟩) := by rw [str_is h]
theorem textI_drop {o : Bool} {i : Nat} {ks : List ByteArray} {l : List JV} {x : JV} (h : l[i]? = some x) : textI o i ks (l.drop i) = (if 0 < i then [44] else []) ++ (if o then quoL (ks.getD i ByteArray.empty).data.toList ++ [58] else []) ++ textV x ++ textI o (i + 1) ks (l.drop (i + 1)) := by
  rw [drop_split h]
  simp only [textI]
theorem textV_6 (t : ByteArray) (ks : List ByteArray) (l : List JV) : textV (.mk 6 t ks l) = 91 :: (textI false 0 ks l ++ [93]) := by simp [textV]
theorem textV_7 (t : ByteArray) (ks : List ByteArray) (l : List JV) : textV (.mk 7 t ks l) = 123 :: (textI true 0 ks l ++ [125]) := by simp [textV]
theorem sumK_at {ks : List ByteArray} {i : Nat} (h : i < ks.length) : (ks.getD i ByteArray.empty).size ≤ sumK ks := sumK_mem (by rw [List.getD_eq_getElem?_getD, List.getElem?_eq_getElem h]; exact List.getElem_mem h)
set_option maxRecDepth 10000000 in
set_option maxHeartbeats 8000000 in
theorem refText_any (N : Nat) : ∀ (v : JV), sizeV v ≤ N → ∀ (c0 c1 c2 c3 : Value) (w : World), IsV w 0 v c0 c1 c2 c3 → formV v = true → lettV v ≤ 1000000000 → sizeV v ≤ 1000000000 →
    Calls Tryz.prog 43 #[.agg #[c0, c1, c2, c3]] w fun e w' => e = .returned (.string ⟨(textV v).toArray⟩) ∧ Below w.heap.size w w' := by
  induction N with
  | zero => intro v hv; obtain ⟨k, t, ks, l⟩ := v; simp only [sizeV] at hv; omega
  | succ N ih =>
    rintro ⟨k, t, ks, l⟩ hv c0 c1 c2 c3 w hV hF hl hs
    obtain ⟨kxa, kxp, lxa, lxp, rfl, rfl, rfl, rfl, hKx, hLx⟩ := IsV.opened hV
    have HKC := Lib.hid (fun (wr : World) (hb : Below w.heap.size w wr) (j : Nat) (hj : j < ks.length) => keys_cell hKx hb hj)
    have HLC := Lib.hid (fun (j : Nat) (x : JV) (hx : l[j]? = some x) => list_cell hLx hx)
    have hbel : Below w.heap.size w (w.alloc (.cells #[.int .u8 (k : Nat), .string t, .slice kxa ks.length kxp, .slice lxa l.length lxp] 26)) := (Below.refl _ _).alloc (Nat.le_refl _) _
    have hllz := len_sizeL l
    clear hV hKx hLx
    have htl := textV_len (.mk k t ks l)
    simp only [sizeV] at hs
    simp only [formV, Bool.and_eq_true] at hF
    simp only [lettV] at hl
    simp only [lettV, sizeV] at htl
    rcases formB_cases hF.1 with ⟨hk | hk | hk, hz⟩ | ⟨hk, hz⟩ | ⟨hk, hz⟩ | ⟨hk, htx, hnk⟩ | ⟨hk, htx, hnk⟩
    · subst hk
      clear hz
      rw [show ((1 : Nat) : Int) = (1 : Int) from rfl]
      go_enter Tryz.func43, Tryz.ntmps43
      go_wp2_with fail
      go_ret
      exact ⟨ret_text (by simp [textV]), hbel⟩
    · subst hk
      clear hz
      rw [show ((2 : Nat) : Int) = (2 : Int) from rfl]
      go_enter Tryz.func43, Tryz.ntmps43
      go_wp2_with fail
      go_ret
      exact ⟨ret_text (by simp [textV]), hbel⟩
    · subst hk
      clear hz
      rw [show ((3 : Nat) : Int) = (3 : Int) from rfl]
      go_enter Tryz.func43, Tryz.ntmps43
      go_wp2_with fail
      go_ret
      exact ⟨ret_text (by simp [textV]), hbel⟩
    · subst hk
      clear hz
      rw [show ((4 : Nat) : Int) = (4 : Int) from rfl]
      go_enter Tryz.func43, Tryz.ntmps43
      go_wp2_with fail
      go_ret
      exact ⟨ret_text (by simp [textV]), hbel⟩
    · subst hk
      clear hz
      rw [show ((5 : Nat) : Int) = (5 : Int) from rfl]
      have cQ := fun w => refQuoted_any t w (by omega)
      rw [show (ByteArray.mk (quoL t.data.toList).toArray) = ⟨(textV (.mk 5 t ks l)).toArray⟩ by simp [textV]] at cQ
      generalize ByteArray.mk (textV (.mk 5 t ks l)).toArray = Q at *
      go_enter Tryz.func43, Tryz.ntmps43
      go_wp2_with (go_at_call 46; refine (cQ _).mono ?_; rintro e w1 ⟨rfl, hb1⟩)
      go_ret
      have hbel2 : Below w.heap.size w (w.alloc (.cells #[.int .u8 5, .string t, .slice kxa ks.length kxp, .slice lxa l.length lxp] 26)) := (Below.refl _ _).alloc (Nat.le_refl _) _
      exact ⟨rfl, hbel2.trans (hb1.mono hbel2.size)⟩
    · subst hk
      rw [show ((6 : Nat) : Int) = (6 : Int) from rfl] at hbel ⊢
      have E := Lib.hid (textV_6 t ks l)
      have hW : (textI false 0 ks l).length ≤ 26000000010 := by
        rw [textV_6] at htl
        simp only [List.length_cons, List.length_append, List.length_nil] at htl
        omega
      have HFL := Lib.hid hF.2
      have HSK := Lib.hid (fun (i : Nat) (hi : i < ks.length) => Nat.le_trans (sumK_at hi) (show sumK ks ≤ 1000000000 by omega))
      have HNK := Lib.hid hnk
      clear htl hF htx hnk
      go_enter Tryz.func43, Tryz.ntmps43
      go_wp2_with fail
      have hbox := heap_alloc_new w (.cells #[.int .u8 (6 : Int), .string t, .slice kxa ks.length kxp, .slice lxa l.length lxp] 26)
      generalize w.alloc (.cells #[.int .u8 (6 : Int), .string t, .slice kxa ks.length kxp, .slice lxa l.length lxp] 26) = wA at *
      go_loopw [3, 4] (fun vs vi wr => ∃ (S : ByteArray) (i : Nat), vs = .string S ∧ vi = .int .i64 (i : Nat) ∧ i ≤ l.length ∧ S.data.toList ++ textI false i ks (l.drop i) = textI false 0 ks l ∧ Below w.heap.size w wr ∧ wr.heap[w.heap.size]? = some (.cells #[.int .u8 (6 : Int), .string t, .slice kxa ks.length kxp, .slice lxa l.length lxp] 26 (0, 0))) (fun _ vi _ => l.length - (intOf vi).toNat)
      case atStart => exact ⟨⟨#[]⟩, 0, rfl, rfl, Nat.zero_le _, by rw [List.drop_zero]; rfl, hbel, hbox⟩
      case round =>
        obtain ⟨S, i, rfl, rfl, hi, hp, hB2, hbx⟩ := hrel
        have y0 := Lib.cell_of_heap hbx 0
        have y2 := Lib.cell_of_heap hbx 2
        have y3 := Lib.cell_of_heap hbx 3
        have hSl : S.size ≤ 26000000010 := by
          have := congrArg List.length hp
          rw [List.length_append, ← Lib.size_eq] at this
          omega
        by_cases hlt : i < l.length
        · obtain ⟨x, hx⟩ : ∃ x, l[i]? = some x := ⟨_, List.getElem?_eq_getElem hlt⟩
          obtain ⟨lb, lo, rfl, q0, q1, q2, q3, g0, g1, g2, g3, hVx⟩ := HLC.out i x hx
          have hsx : sizeV x ≤ N := by have := sizeV_in hx; simp only [sizeV] at hv; omega
          have e0 := cell_on hB2 g0
          have e1 := cell_on hB2 g1
          have e2 := cell_on hB2 g2
          have e3 := cell_on hB2 g3
          have hVr := IsV.stays (Below.stays hB2 0) (Nat.le_refl 0) _ _ _ _ _ hVx
          have hVx0 := hVx
          obtain ⟨k9, t9, ka9, kl9, kc9, la9, ll9, lc9, rfl, rfl, rfl, rfl⟩ := hVx.shape
          have hsx2 := sizeV_in hx
          have hlx2 := lettV_at hx
          have hfx : formV x = true := by
            have h := formL_drop hx
            have h2 := HFL.out
            rw [← List.take_append_drop i l] at h2
            have h3 : ∀ (a b : List JV), formL (a ++ b) = true → formL b = true := by
              intro a b
              induction a with
              | nil => exact fun h => h
              | cons v t ih => intro h; simp only [List.cons_append, formL, Bool.and_eq_true] at h; exact ih h.2
            rw [h3 _ _ h2] at h
            exact (Bool.and_eq_true_iff.1 h.symm).1
          have hVw := fun (w2 : World) (hb : Below w.heap.size w w2) => IsV.stays (Below.stays hb 0) (Nat.le_refl 0) _ _ _ _ _ hVx0
          have hcall := fun (w2 : World) (hb : Below w.heap.size w w2) => ih x hsx _ _ _ _ w2 (hVw w2 hb) hfx (by omega) (by omega)
          have hxl : (textV x).length ≤ 26000000010 := by have := textV_len x; omega
          have hlt4 : (i : Int) < (l.length : Int) := by omega
          have HP := Lib.hid (hp.symm.trans (by rw [textI_drop hx]) : textI false 0 ks l = S.data.toList ++ ((if 0 < i then [44] else []) ++ (if false then quoL (ks.getD i ByteArray.empty).data.toList ++ [58] else []) ++ textV x ++ textI false (i + 1) ks (l.drop (i + 1))))
          have hTt : (ByteArray.mk (textV x).toArray).data.toList = textV x := rfl
          have hTz : (ByteArray.mk (textV x).toArray).size ≤ 26000000010 := by rw [Lib.size_eq]; exact hxl
          have HT := Lib.hid hTt
          generalize ByteArray.mk (textV x).toArray = T at *
          clear hTt hp hVx hVx0 hVr hVw hx hv hfx hxl
          by_cases hi0 : i = 0
          · have hi1 : ¬ ((0 : Int) < (i : Int)) := by omega
            have HI2 := Lib.hid (show ¬ (0 < i) by omega)
            clear hi0
            go_wp2_with (go_at_call 43; refine (hcall _ hB2).mono ?_; rintro e w3 ⟨rfl, hb3⟩)
            go_roundw
            case rel => exact ⟨_, i + 1, rfl, by go_num, hlt, (by rw [HP.out, if_neg HI2.out]; simp only [ByteArray.data_append, Array.toList_append, HT.out]; simp), hB2.trans (hb3.mono hB2.size), (hb3.block _ (Array.getElem?_eq_some_iff.1 hbx).1).trans hbx⟩
            case measure => simp [intOf]; omega
          · have hi1 : (0 : Int) < (i : Int) := by omega
            have hi2 : 0 < i := by omega
            clear hi0
            go_wp2_with (go_at_call 43; refine (hcall _ hB2).mono ?_; rintro e w3 ⟨rfl, hb3⟩)
            go_roundw
            case rel => exact ⟨_, i + 1, rfl, by go_num, hlt, (by rw [HP.out, if_pos hi2]; simp only [ByteArray.data_append, Array.toList_append, HT.out]; simp), hB2.trans (hb3.mono hB2.size), (hb3.block _ (Array.getElem?_eq_some_iff.1 hbx).1).trans hbx⟩
            case measure => simp [intOf]; omega
        · have hend : Hid (S.data.toList = textI false 0 ks l) := Lib.hid <| by
            rw [List.drop_eq_nil_of_le (by omega)] at hp
            simpa [textI] using hp
          have hge : ¬ ((i : Int) < (l.length : Int)) := by omega
          clear hp
          go_wp2_with fail
          go_ret
          exact ⟨ret_text (by rw [E.out, ← hend.out]; simp [ByteArray.data_append]), hB2⟩
    · subst hk
      rw [show ((7 : Nat) : Int) = (7 : Int) from rfl] at hbel ⊢
      have E := Lib.hid (textV_7 t ks l)
      have hW : (textI true 0 ks l).length ≤ 26000000010 := by
        rw [textV_7] at htl
        simp only [List.length_cons, List.length_append, List.length_nil] at htl
        omega
      have HFL := Lib.hid hF.2
      have HSK := Lib.hid (fun (i : Nat) (hi : i < ks.length) => Nat.le_trans (sumK_at hi) (show sumK ks ≤ 1000000000 by omega))
      have HNK := Lib.hid hnk
      clear htl hF htx hnk
      go_enter Tryz.func43, Tryz.ntmps43
      go_wp2_with fail
      have hbox := heap_alloc_new w (.cells #[.int .u8 (7 : Int), .string t, .slice kxa ks.length kxp, .slice lxa l.length lxp] 26)
      generalize w.alloc (.cells #[.int .u8 (7 : Int), .string t, .slice kxa ks.length kxp, .slice lxa l.length lxp] 26) = wA at *
      go_loopw [3, 4] (fun vs vi wr => ∃ (S : ByteArray) (i : Nat), vs = .string S ∧ vi = .int .i64 (i : Nat) ∧ i ≤ l.length ∧ S.data.toList ++ textI true i ks (l.drop i) = textI true 0 ks l ∧ Below w.heap.size w wr ∧ wr.heap[w.heap.size]? = some (.cells #[.int .u8 (7 : Int), .string t, .slice kxa ks.length kxp, .slice lxa l.length lxp] 26 (0, 0))) (fun _ vi _ => l.length - (intOf vi).toNat)
      case atStart => exact ⟨⟨#[]⟩, 0, rfl, rfl, Nat.zero_le _, by rw [List.drop_zero]; rfl, hbel, hbox⟩
      case round =>
        obtain ⟨S, i, rfl, rfl, hi, hp, hB2, hbx⟩ := hrel
        have y0 := Lib.cell_of_heap hbx 0
        have y2 := Lib.cell_of_heap hbx 2
        have y3 := Lib.cell_of_heap hbx 3
        have hSl : S.size ≤ 26000000010 := by
          have := congrArg List.length hp
          rw [List.length_append, ← Lib.size_eq] at this
          omega
        by_cases hlt : i < l.length
        · obtain ⟨x, hx⟩ : ∃ x, l[i]? = some x := ⟨_, List.getElem?_eq_getElem hlt⟩
          obtain ⟨lb, lo, rfl, q0, q1, q2, q3, g0, g1, g2, g3, hVx⟩ := HLC.out i x hx
          have hsx : sizeV x ≤ N := by have := sizeV_in hx; simp only [sizeV] at hv; omega
          have e0 := cell_on hB2 g0
          have e1 := cell_on hB2 g1
          have e2 := cell_on hB2 g2
          have e3 := cell_on hB2 g3
          have hVr := IsV.stays (Below.stays hB2 0) (Nat.le_refl 0) _ _ _ _ _ hVx
          have hVx0 := hVx
          obtain ⟨k9, t9, ka9, kl9, kc9, la9, ll9, lc9, rfl, rfl, rfl, rfl⟩ := hVx.shape
          have hsx2 := sizeV_in hx
          have hlx2 := lettV_at hx
          have hfx : formV x = true := by
            have h := formL_drop hx
            have h2 := HFL.out
            rw [← List.take_append_drop i l] at h2
            have h3 : ∀ (a b : List JV), formL (a ++ b) = true → formL b = true := by
              intro a b
              induction a with
              | nil => exact fun h => h
              | cons v t ih => intro h; simp only [List.cons_append, formL, Bool.and_eq_true] at h; exact ih h.2
            rw [h3 _ _ h2] at h
            exact (Bool.and_eq_true_iff.1 h.symm).1
          have hVw := fun (w2 : World) (hb : Below w.heap.size w w2) => IsV.stays (Below.stays hb 0) (Nat.le_refl 0) _ _ _ _ _ hVx0
          have hcall := fun (w2 : World) (hb : Below w.heap.size w w2) => ih x hsx _ _ _ _ w2 (hVw w2 hb) hfx (by omega) (by omega)
          have hxl : (textV x).length ≤ 26000000010 := by have := textV_len x; omega
          have hlt4 : (i : Int) < (l.length : Int) := by omega
          have HP := Lib.hid (hp.symm.trans (by rw [textI_drop hx]) : textI true 0 ks l = S.data.toList ++ ((if 0 < i then [44] else []) ++ (if true then quoL (ks.getD i ByteArray.empty).data.toList ++ [58] else []) ++ textV x ++ textI true (i + 1) ks (l.drop (i + 1))))
          have hTt : (ByteArray.mk (textV x).toArray).data.toList = textV x := rfl
          have hTz : (ByteArray.mk (textV x).toArray).size ≤ 26000000010 := by rw [Lib.size_eq]; exact hxl
          have HT := Lib.hid hTt
          have hik : i < ks.length := by have := HNK.out; omega
          have hik4 : (i : Int) < (ks.length : Int) := by omega
          obtain ⟨kb, ko, rfl, ck⟩ := HKC.out _ hB2 i hik
          have hkz := HSK.out i hik
          generalize ks.getD i ByteArray.empty = key at *
          have cq := fun w => refQuoted_any key w (by omega)
          have hql : (quoL key.data.toList).length ≤ 7000000000 := by have := quoM_len key.data.toList; rw [← Lib.size_eq] at this; simp only [quoL, List.length_cons, List.length_append, List.length_nil]; omega
          have hQt : (ByteArray.mk (quoL key.data.toList).toArray).data.toList = quoL key.data.toList := rfl
          have hQz : (ByteArray.mk (quoL key.data.toList).toArray).size ≤ 7000000000 := by rw [Lib.size_eq]; exact hql
          have HQ := Lib.hid hQt
          generalize ByteArray.mk (quoL key.data.toList).toArray = Q at *
          clear hQt hql hkz
          generalize ByteArray.mk (textV x).toArray = T at *
          clear hTt hp hVx hVx0 hVr hVw hx hv hfx hxl
          by_cases hi0 : i = 0
          · have hi1 : ¬ ((0 : Int) < (i : Int)) := by omega
            have HI2 := Lib.hid (show ¬ (0 < i) by omega)
            clear hi0
            go_wp2_with (first
              | (go_at_call 46; refine (cq _).mono ?_; rintro e w3 ⟨rfl, hb3⟩; have hb03 := hB2.trans (hb3.mono hB2.size); have hbx3 := (hb3.block _ (Array.getElem?_eq_some_iff.1 hbx).1).trans hbx; have z3 := Lib.cell_of_heap hbx3 3; have f0 := (hb3.cell (cell_lt e0)).trans e0; have f1 := (hb3.cell (cell_lt e1)).trans e1; have f2 := (hb3.cell (cell_lt e2)).trans e2; have f3 := (hb3.cell (cell_lt e3)).trans e3)
              | (go_at_call 43; refine (hcall _ hb03).mono ?_; rintro e w4 ⟨rfl, hb4⟩))
            go_roundw
            case rel => exact ⟨_, i + 1, rfl, by go_num, hlt, (by rw [HP.out, if_neg HI2.out]; simp only [ByteArray.data_append, Array.toList_append, HT.out, HQ.out]; simp), hb03.trans (hb4.mono hb03.size), (hb4.block _ (Array.getElem?_eq_some_iff.1 hbx3).1).trans hbx3⟩
            case measure => simp [intOf]; omega
          · have hi1 : (0 : Int) < (i : Int) := by omega
            have hi2 : 0 < i := by omega
            clear hi0
            go_wp2_with (first
              | (go_at_call 46; refine (cq _).mono ?_; rintro e w3 ⟨rfl, hb3⟩; have hb03 := hB2.trans (hb3.mono hB2.size); have hbx3 := (hb3.block _ (Array.getElem?_eq_some_iff.1 hbx).1).trans hbx; have z3 := Lib.cell_of_heap hbx3 3; have f0 := (hb3.cell (cell_lt e0)).trans e0; have f1 := (hb3.cell (cell_lt e1)).trans e1; have f2 := (hb3.cell (cell_lt e2)).trans e2; have f3 := (hb3.cell (cell_lt e3)).trans e3)
              | (go_at_call 43; refine (hcall _ hb03).mono ?_; rintro e w4 ⟨rfl, hb4⟩))
            go_roundw
            case rel => exact ⟨_, i + 1, rfl, by go_num, hlt, (by rw [HP.out, if_pos hi2]; simp only [ByteArray.data_append, Array.toList_append, HT.out, HQ.out]; simp), hb03.trans (hb4.mono hb03.size), (hb4.block _ (Array.getElem?_eq_some_iff.1 hbx3).1).trans hbx3⟩
            case measure => simp [intOf]; omega
        · have hend : Hid (S.data.toList = textI true 0 ks l) := Lib.hid <| by
            rw [List.drop_eq_nil_of_le (by omega)] at hp
            simpa [textI] using hp
          have hge : ¬ ((i : Int) < (l.length : Int)) := by omega
          clear hp
          go_wp2_with fail
          go_ret
          exact ⟨ret_text (by rw [E.out, ← hend.out]; simp [ByteArray.data_append]), hB2⟩
end Go.Proofs.YtakdhfjlhkejdaaGreatDoor
