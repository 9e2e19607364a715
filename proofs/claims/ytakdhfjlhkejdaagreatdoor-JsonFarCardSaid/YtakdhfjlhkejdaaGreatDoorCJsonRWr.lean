/-
  CONTRACTS of codicilref02's Count, Nest, once, valid, form, text. (gen_rwr.py writes it.)
-/
import Derived.Test.YtakdhfjlhkejdaaGreatDoorCJsonRWrM
import Derived.Test.YtakdhfjlhkejdaaGreatDoorCJsonRQu
import Derived.Test.YtakdhfjlhkejdaaGreatDoorCJsonRRunes
import Derived.Test.YtakdhfjlhkejdaaGreatDoorCJsonRSame
set_option linter.unusedSimpArgs false
set_option linter.unusedVariables false
set_option linter.unusedVariables false
set_option linter.unusedSimpArgs false
namespace Go.Proofs.YtakdhfjlhkejdaaGreatDoor
open Go.RowKit
set_option maxRecDepth 10000000 in
set_option maxHeartbeats 8000000 in
theorem refCount_any (N : Nat) : ∀ (v : JV), sizeV v ≤ N → ∀ (c0 c1 c2 c3 : Value) (w : World), IsV w 0 v c0 c1 c2 c3 → sizeV v ≤ 1000000000000 →
    Calls Tryz.prog 51 #[.agg #[c0, c1, c2, c3]] w fun e w' => e = .returned (.int .i64 (sizeV v : Nat)) ∧ Below w.heap.size w w' := by
  induction N with
  | zero => intro v hv; obtain ⟨k, t, ks, l⟩ := v; simp only [sizeV] at hv; omega
  | succ N ih =>
    rintro ⟨k, t, ks, l⟩ hv c0 c1 c2 c3 w hV hs
    obtain ⟨kxa, kxp, lxa, lxp, rfl, rfl, rfl, rfl, hKx, hLx⟩ := IsV.opened hV
    have HKC := Lib.hid (fun (wr : World) (hb : Below w.heap.size w wr) (j : Nat) (hj : j < ks.length) => keys_cell hKx hb hj)
    have HLC := Lib.hid (fun (j : Nat) (x : JV) (hx : l[j]? = some x) => list_cell hLx hx)
    have hbel : Below w.heap.size w (w.alloc (.cells #[.int .u8 (k : Nat), .string t, .slice kxa ks.length kxp, .slice lxa l.length lxp] 26)) := (Below.refl _ _).alloc (Nat.le_refl _) _
    have hllz := len_sizeL l
    clear hV hKx hLx
    simp only [sizeV] at hs
    have E : Hid (sizeV (.mk k t ks l) = sizeL l + 1) := Lib.hid (by simp only [sizeV])
    go_enter Tryz.func51, Tryz.ntmps51
    go_wp2_with fail
    have hbox := heap_alloc_new w (.cells #[.int .u8 (k : Nat), .string t, .slice kxa ks.length kxp, .slice lxa l.length lxp] 26)
    generalize w.alloc (.cells #[.int .u8 (k : Nat), .string t, .slice kxa ks.length kxp, .slice lxa l.length lxp] 26) = wA at *
    go_loopw [3, 4] (fun vn vi wr => ∃ p i : Nat, vn = .int .i64 (p : Nat) ∧ vi = .int .i64 (i : Nat) ∧ i ≤ l.length ∧ p + sizeL (l.drop i) = sizeL l + 1 ∧ Below w.heap.size w wr ∧ wr.heap[w.heap.size]? = some (.cells #[.int .u8 (k : Nat), .string t, .slice kxa ks.length kxp, .slice lxa l.length lxp] 26 (0, 0))) (fun _ vi _ => l.length - (intOf vi).toNat)
    case atStart => exact ⟨1, 0, rfl, rfl, Nat.zero_le _, by rw [List.drop_zero]; omega, hbel, hbox⟩
    case round =>
      obtain ⟨p, i, rfl, rfl, hi, hp, hB2, hbx⟩ := hrel
      have y3 := Lib.cell_of_heap hbx 3
      by_cases hlt : i < l.length
      · obtain ⟨x, hx⟩ : ∃ x, l[i]? = some x := ⟨_, List.getElem?_eq_getElem hlt⟩
        obtain ⟨lb, lo, rfl, q0, q1, q2, q3, g0, g1, g2, g3, hVx⟩ := HLC.out i x hx
        have hsx : sizeV x ≤ N := by have := sizeV_in hx; simp only [sizeV] at hv; omega
        have e0 := cell_on hB2 g0
        have e1 := cell_on hB2 g1
        have e2 := cell_on hB2 g2
        have e3 := cell_on hB2 g3
        have hVr := IsV.stays (Below.stays hB2 0) (Nat.le_refl 0) _ _ _ _ _ hVx
        obtain ⟨k9, t9, ka9, kl9, kc9, la9, ll9, lc9, rfl, rfl, rfl, rfl⟩ := hVx.shape
        have hsx2 := sizeV_in hx
        have hcall := ih x hsx _ _ _ _ wr hVr (by omega)
        have hlt4 : (i : Int) < (l.length : Int) := by omega
        have hsp := sizeL_split hx
        have hpz : p + sizeV x ≤ 1000000000001 := by omega
        have HP := Lib.hid (show p + sizeV x + sizeL (l.drop (i + 1)) = sizeL l + 1 by omega)
        generalize sizeV x = m at *
        clear hp hsp
        clear g0 g1 g2 g3 hVx hVr hx hv
        go_wp2_with (go_at_call 51; refine hcall.mono ?_; rintro e w3 ⟨rfl, hb3⟩)
        go_roundw
        case rel => exact ⟨p + m, i + 1, by go_num, by go_num, hlt, HP.out, hB2.trans (hb3.mono hB2.size), (hb3.block _ (Array.getElem?_eq_some_iff.1 hbx).1).trans hbx⟩
        case measure => simp [intOf]; omega
      · have hend : Hid (p = sizeL l + 1) := Lib.hid <| by
          rw [List.drop_eq_nil_of_le (by omega)] at hp
          simp only [sizeL] at hp
          omega
        have hge : ¬ ((i : Int) < (l.length : Int)) := by omega
        go_wp2_with fail
        go_ret
        exact ⟨ret_int (by rw [E.out, hend.out]), hB2⟩
set_option maxRecDepth 10000000 in
set_option maxHeartbeats 8000000 in
theorem refNest_any (N : Nat) : ∀ (v : JV), sizeV v ≤ N → ∀ (c0 c1 c2 c3 : Value) (w : World), IsV w 0 v c0 c1 c2 c3 → sizeV v ≤ 1000000000000 →
    Calls Tryz.prog 50 #[.agg #[c0, c1, c2, c3]] w fun e w' => e = .returned (.int .i64 (nestV v : Nat)) ∧ Below w.heap.size w w' := by
  induction N with
  | zero => intro v hv; obtain ⟨k, t, ks, l⟩ := v; simp only [sizeV] at hv; omega
  | succ N ih =>
    rintro ⟨k, t, ks, l⟩ hv c0 c1 c2 c3 w hV hs
    obtain ⟨kxa, kxp, lxa, lxp, rfl, rfl, rfl, rfl, hKx, hLx⟩ := IsV.opened hV
    have HKC := Lib.hid (fun (wr : World) (hb : Below w.heap.size w wr) (j : Nat) (hj : j < ks.length) => keys_cell hKx hb hj)
    have HLC := Lib.hid (fun (j : Nat) (x : JV) (hx : l[j]? = some x) => list_cell hLx hx)
    have hbel : Below w.heap.size w (w.alloc (.cells #[.int .u8 (k : Nat), .string t, .slice kxa ks.length kxp, .slice lxa l.length lxp] 26)) := (Below.refl _ _).alloc (Nat.le_refl _) _
    have hllz := len_sizeL l
    clear hV hKx hLx
    simp only [sizeV] at hs
    have hnl := nestL_le l
    have E : Hid (nestV (.mk k t ks l) = nestL l + (if k = 6 ∨ k = 7 then 1 else 0)) := Lib.hid (by simp only [nestV])
    go_enter Tryz.func50, Tryz.ntmps50
    go_wp2_with fail
    have hbox := heap_alloc_new w (.cells #[.int .u8 (k : Nat), .string t, .slice kxa ks.length kxp, .slice lxa l.length lxp] 26)
    generalize w.alloc (.cells #[.int .u8 (k : Nat), .string t, .slice kxa ks.length kxp, .slice lxa l.length lxp] 26) = wA at *
    go_loopw [3, 4] (fun vn vi wr => ∃ p i : Nat, vn = .int .i64 (p : Nat) ∧ vi = .int .i64 (i : Nat) ∧ i ≤ l.length ∧ max p (nestL (l.drop i)) = nestL l ∧ Below w.heap.size w wr ∧ wr.heap[w.heap.size]? = some (.cells #[.int .u8 (k : Nat), .string t, .slice kxa ks.length kxp, .slice lxa l.length lxp] 26 (0, 0))) (fun _ vi _ => l.length - (intOf vi).toNat)
    case atStart => exact ⟨0, 0, rfl, rfl, Nat.zero_le _, by rw [List.drop_zero]; omega, hbel, hbox⟩
    case round =>
      obtain ⟨p, i, rfl, rfl, hi, hp, hB2, hbx⟩ := hrel
      have y0 := Lib.cell_of_heap hbx 0
      have y3 := Lib.cell_of_heap hbx 3
      by_cases hlt : i < l.length
      · obtain ⟨x, hx⟩ : ∃ x, l[i]? = some x := ⟨_, List.getElem?_eq_getElem hlt⟩
        obtain ⟨lb, lo, rfl, q0, q1, q2, q3, g0, g1, g2, g3, hVx⟩ := HLC.out i x hx
        have hsx : sizeV x ≤ N := by have := sizeV_in hx; simp only [sizeV] at hv; omega
        have e0 := cell_on hB2 g0
        have e1 := cell_on hB2 g1
        have e2 := cell_on hB2 g2
        have e3 := cell_on hB2 g3
        have hVr := IsV.stays (Below.stays hB2 0) (Nat.le_refl 0) _ _ _ _ _ hVx
        obtain ⟨k9, t9, ka9, kl9, kc9, la9, ll9, lc9, rfl, rfl, rfl, rfl⟩ := hVx.shape
        have hsx2 := sizeV_in hx
        have hcall := ih x hsx _ _ _ _ wr hVr (by omega)
        have hlt4 : (i : Int) < (l.length : Int) := by omega
        have hsp := nestL_drop hx
        have hpz : p ≤ 1000000000001 := by omega
        have hmz := nestV_le x
        have HP := Lib.hid (show max (max p (nestV x)) (nestL (l.drop (i + 1))) = nestL l by omega)
        generalize nestV x = m at *
        clear hp hsp
        clear g0 g1 g2 g3 hVx hVr hx hv
        go_wp2_with (go_at_call 50; refine hcall.mono ?_; rintro e w3 ⟨rfl, hb3⟩)
        go_roundw
        case rel => exact ⟨max p m, i + 1, by first | rfl | (congr 1; omega) | go_num, by go_num, hlt, HP.out, hB2.trans (hb3.mono hB2.size), (hb3.block _ (Array.getElem?_eq_some_iff.1 hbx).1).trans hbx⟩
        case measure => simp [intOf]; omega
      · have hend : Hid (p = nestL l) := Lib.hid <| by
          rw [List.drop_eq_nil_of_le (by omega)] at hp
          simp only [nestL] at hp
          omega
        have hge : ¬ ((i : Int) < (l.length : Int)) := by omega
        by_cases hk6 : k = 6
        · subst hk6
          go_wp2_with fail
          go_ret
          exact ⟨ret_int (by rw [E.out, hend.out]; simp), hB2⟩
        · by_cases hk7 : k = 7
          · subst hk7
            go_wp2_with fail
            go_ret
            exact ⟨ret_int (by rw [E.out, hend.out]; simp), hB2⟩
          · have b6 : ((k : Int) == 6) = false := beq_false_of_ne (by omega)
            have b7 : ((k : Int) == 7) = false := beq_false_of_ne (by omega)
            go_wp2_with fail
            go_ret
            exact ⟨ret_int (by rw [E.out, hend.out, if_neg (by omega)]; rfl), hB2⟩
set_option maxRecDepth 10000000 in
set_option maxHeartbeats 8000000 in
theorem refOnce_any (N : Nat) : ∀ (v : JV), sizeV v ≤ N → ∀ (c0 c1 c2 c3 : Value) (w : World), IsV w 0 v c0 c1 c2 c3 → sizeV v ≤ 1000000000000 → keysV v ≤ 1000000000000 →
    Calls Tryz.prog 49 #[.agg #[c0, c1, c2, c3]] w fun e w' => e = .returned (.bool (!twiceV v)) ∧ Below w.heap.size w w' := by
  induction N with
  | zero => intro v hv; obtain ⟨k, t, ks, l⟩ := v; simp only [sizeV] at hv; omega
  | succ N ih =>
    rintro ⟨k, t, ks, l⟩ hv c0 c1 c2 c3 w hV hs hks
    obtain ⟨kxa, kxp, lxa, lxp, rfl, rfl, rfl, rfl, hKx, hLx⟩ := IsV.opened hV
    have HKC := Lib.hid (fun (wr : World) (hb : Below w.heap.size w wr) (j : Nat) (hj : j < ks.length) => keys_cell hKx hb hj)
    have HLC := Lib.hid (fun (j : Nat) (x : JV) (hx : l[j]? = some x) => list_cell hLx hx)
    have hbel : Below w.heap.size w (w.alloc (.cells #[.int .u8 (k : Nat), .string t, .slice kxa ks.length kxp, .slice lxa l.length lxp] 26)) := (Below.refl _ _).alloc (Nat.le_refl _) _
    have hllz := len_sizeL l
    clear hV hKx hLx
    simp only [sizeV] at hs
    simp only [keysV] at hks
    have E : Hid (twiceV (.mk k t ks l) = (repB ks || twiceL l)) := Lib.hid (by simp only [twiceV])
    go_enter Tryz.func49, Tryz.ntmps49
    go_wp2_with fail
    have hbox := heap_alloc_new w (.cells #[.int .u8 (k : Nat), .string t, .slice kxa ks.length kxp, .slice lxa l.length lxp] 26)
    generalize w.alloc (.cells #[.int .u8 (k : Nat), .string t, .slice kxa ks.length kxp, .slice lxa l.length lxp] 26) = wA at *
    go_loopw [3] (fun vi wr => ∃ i : Nat, vi = .int .i64 (i : Nat) ∧ i ≤ ks.length ∧ (∀ a b, b < a → a < i → ks.getD a ByteArray.empty ≠ ks.getD b ByteArray.empty) ∧ Below w.heap.size w wr ∧ wr.heap[w.heap.size]? = some (.cells #[.int .u8 (k : Nat), .string t, .slice kxa ks.length kxp, .slice lxa l.length lxp] 26 (0, 0))) (fun vi _ => ks.length - (intOf vi).toNat)
    case atStart => exact ⟨0, rfl, Nat.zero_le _, fun a b _ h => absurd h (Nat.not_lt_zero a), hbel, hbox⟩
    case round =>
      obtain ⟨i, rfl, hi, hne, hB2, hbx⟩ := hrel
      have HN := Lib.hid hne
      clear hne hbel hbox
      have y2 := Lib.cell_of_heap hbx 2
      by_cases hlt : i < ks.length
      · have hlt4 : (i : Int) < (ks.length : Int) := by omega
        go_wp2_with fail
        go_loopw [4] (fun vj wr => ∃ j : Nat, vj = .int .i64 (j : Nat) ∧ j ≤ i ∧ (∀ b, b < j → ks.getD i ByteArray.empty ≠ ks.getD b ByteArray.empty) ∧ Below w.heap.size w wr ∧ wr.heap[w.heap.size]? = some (.cells #[.int .u8 (k : Nat), .string t, .slice kxa ks.length kxp, .slice lxa l.length lxp] 26 (0, 0))) (fun vj _ => i - (intOf vj).toNat)
        case atStart => exact ⟨0, rfl, Nat.zero_le _, fun b h => absurd h (Nat.not_lt_zero b), hB2, hbx⟩
        case round =>
          obtain ⟨j, rfl, hj, hnj, hB3, hbx3⟩ := hrel
          have HJ := Lib.hid hnj
          clear hnj
          have z2 := Lib.cell_of_heap hbx3 2
          by_cases hjl : j < i
          · have hjl4 : (j : Int) < (i : Int) := by omega
            have hjk4 : (j : Int) < (ks.length : Int) := by omega
            obtain ⟨kb, ko, rfl, ck⟩ := HKC.out _ hB3 i hlt
            obtain ⟨kb', ko', ek, ck'⟩ := HKC.out _ hB3 j (by omega)
            simp only [Option.some.injEq, Addr.mk.injEq, and_true] at ek
            obtain ⟨rfl, rfl⟩ := ek
            by_cases hxy : ks.getD i ByteArray.empty = ks.getD j ByteArray.empty
            · have HR := Lib.hid (rep_yes hjl hlt hxy)
              rw [← hxy] at ck'
              clear hxy
              generalize ks.getD i ByteArray.empty = x at *
              have hb3 : (x.toList == x.toList) = true := by simp
              go_wp2_with fail
              go_quiet (fail)
              go_wp2_with fail
              go_ret
              exact ⟨ret_bool (by rw [E.out, HR.out]; rfl), below_drewN hB3 _⟩
            · have HX : Hid (∀ b, b < j + 1 → ks.getD i ByteArray.empty ≠ ks.getD b ByteArray.empty) := Lib.hid (fun b hb => by
                rcases Nat.lt_or_ge b j with h | h
                · exact HJ.out b h
                · have : b = j := by omega
                  subst this
                  exact hxy)
              generalize ks.getD i ByteArray.empty = x at *
              generalize ks.getD j ByteArray.empty = y at *
              have hb2 : (x.toList == y.toList) = false := beq_false_of_ne (fun h => hxy (by rwa [tl_eq] at h))
              clear hxy
              go_wp2_with fail
              go_quiet (fail)
              go_wp2_with fail
              go_roundw
              case rel => exact ⟨j + 1, by go_num, hjl, HX.out, below_drewN hB3 _, hbx3⟩
              case measure => simp [intOf]; omega
          · have hge4 : ¬ ((j : Int) < (i : Int)) := by omega
            have HX : Hid (∀ a b, b < a → a < i + 1 → ks.getD a ByteArray.empty ≠ ks.getD b ByteArray.empty) := Lib.hid (fun a b hb ha => by
              rcases Nat.lt_or_ge a i with h | h
              · exact HN.out a b hb h
              · have : a = i := by omega
                subst this
                exact HJ.out b (by omega))
            go_wp2_with fail
            go_roundw
            case rel => exact ⟨i + 1, by go_num, hlt, HX.out, hB3, hbx3⟩
            case measure => simp [intOf]; omega
      · have hge4 : ¬ ((i : Int) < (ks.length : Int)) := by omega
        have HR := Lib.hid (rep_no (ks := ks) (fun a b h1 h2 => HN.out a b h1 (by omega)))
        go_wp2_with fail
        go_loopw [5] (fun vi wr => ∃ i : Nat, vi = .int .i64 (i : Nat) ∧ i ≤ l.length ∧ twiceL (l.drop i) = twiceL l ∧ Below w.heap.size w wr ∧ wr.heap[w.heap.size]? = some (.cells #[.int .u8 (k : Nat), .string t, .slice kxa ks.length kxp, .slice lxa l.length lxp] 26 (0, 0))) (fun vi _ => l.length - (intOf vi).toNat)
        case atStart => exact ⟨0, rfl, Nat.zero_le _, by rw [List.drop_zero], hB2, hbx⟩
        case round =>
          clear hB2 hbx y2 hi hge4
          obtain ⟨i, rfl, hi, hp, hB2, hbx⟩ := hrel
          have y3 := Lib.cell_of_heap hbx 3
          by_cases hlt : i < l.length
          · obtain ⟨x, hx⟩ : ∃ x, l[i]? = some x := ⟨_, List.getElem?_eq_getElem hlt⟩
            obtain ⟨lb, lo, rfl, q0, q1, q2, q3, g0, g1, g2, g3, hVx⟩ := HLC.out i x hx
            have hsx : sizeV x ≤ N := by have := sizeV_in hx; simp only [sizeV] at hv; omega
            have e0 := cell_on hB2 g0
            have e1 := cell_on hB2 g1
            have e2 := cell_on hB2 g2
            have e3 := cell_on hB2 g3
            have hVr := IsV.stays (Below.stays hB2 0) (Nat.le_refl 0) _ _ _ _ _ hVx
            obtain ⟨k9, t9, ka9, kl9, kc9, la9, ll9, lc9, rfl, rfl, rfl, rfl⟩ := hVx.shape
            have hsx2 := sizeV_in hx
            have hkx2 := keysV_at hx
            have hcall := ih x hsx _ _ _ _ wr hVr (by omega) (by omega)
            have hlt4 : (i : Int) < (l.length : Int) := by omega
            have HP := Lib.hid (hp.symm.trans (twiceL_drop hx))
            cases htx : twiceV x
            · rw [htx] at hcall HP
              clear g0 g1 g2 g3 hVx hVr hx hv hp
              go_wp2_with (go_at_call 49; refine hcall.mono ?_; rintro e w3 ⟨rfl, hb3⟩)
              go_roundw
              case rel => exact ⟨i + 1, by go_num, hlt, HP.out.symm, hB2.trans (hb3.mono hB2.size), (hb3.block _ (Array.getElem?_eq_some_iff.1 hbx).1).trans hbx⟩
              case measure => simp [intOf]; omega
            · rw [htx] at hcall HP
              clear g0 g1 g2 g3 hVx hVr hx hv hp
              go_wp2_with (go_at_call 49; refine hcall.mono ?_; rintro e w3 ⟨rfl, hb3⟩)
              go_ret
              exact ⟨ret_bool (by rw [E.out, HP.out]; simp), hB2.trans (hb3.mono hB2.size)⟩
          · have hend : Hid (twiceL l = false) := Lib.hid <| by
              rw [← hp, List.drop_eq_nil_of_le (by omega)]
              simp only [twiceL]
            have hge : ¬ ((i : Int) < (l.length : Int)) := by omega
            go_wp2_with fail
            go_ret
            exact ⟨ret_bool (by rw [E.out, HR.out, hend.out]; rfl), hB2⟩
set_option maxRecDepth 10000000 in
set_option maxHeartbeats 8000000 in
theorem refValidV_any (N : Nat) : ∀ (v : JV), sizeV v ≤ N → ∀ (c0 c1 c2 c3 : Value) (w : World), IsV w 0 v c0 c1 c2 c3 → bndV v → sizeV v ≤ 1000000000000 → keysV v ≤ 1000000000000 →
    Calls Tryz.prog 48 #[.agg #[c0, c1, c2, c3]] w fun e w' => e = .returned (.bool (utfV v)) ∧ Below w.heap.size w w' := by
  induction N with
  | zero => intro v hv; obtain ⟨k, t, ks, l⟩ := v; simp only [sizeV] at hv; omega
  | succ N ih =>
    rintro ⟨k, t, ks, l⟩ hv c0 c1 c2 c3 w hV hB hs hks
    obtain ⟨kxa, kxp, lxa, lxp, rfl, rfl, rfl, rfl, hKx, hLx⟩ := IsV.opened hV
    have HKC := Lib.hid (fun (wr : World) (hb : Below w.heap.size w wr) (j : Nat) (hj : j < ks.length) => keys_cell hKx hb hj)
    have HLC := Lib.hid (fun (j : Nat) (x : JV) (hx : l[j]? = some x) => list_cell hLx hx)
    have hbel : Below w.heap.size w (w.alloc (.cells #[.int .u8 (k : Nat), .string t, .slice kxa ks.length kxp, .slice lxa l.length lxp] 26)) := (Below.refl _ _).alloc (Nat.le_refl _) _
    have hllz := len_sizeL l
    clear hV hKx hLx
    simp only [sizeV] at hs
    simp only [keysV] at hks
    simp only [bndV] at hB
    obtain ⟨bt, bk, bkl, bll, bl⟩ := hB
    have HBK := Lib.hid bk
    have HBL := Lib.hid bl
    have cT := fun w => refValid_any t w bt
    have cK := fun (j : Nat) (hj : j < ks.length) w => refValid_any (ks.getD j ByteArray.empty) w (by rw [List.getD_eq_getElem?_getD, List.getElem?_eq_getElem hj]; exact HBK.out _ (List.getElem_mem hj))
    have HCK := Lib.hid cK
    clear bk bl bkl bll cK
    have E : Hid (utfV (.mk k t ks l) = (((validB t) && ks.all validB) && utfL l)) := Lib.hid (by simp only [utfV, encB]; rw [Bool.and_comm (validB t)])
    go_enter Tryz.func48, Tryz.ntmps48
    go_wp2_with (go_at_call 32; refine (cT _).mono ?_; rintro e w1 ⟨rfl, hb1⟩)
    have hbox := (hb1.block w.heap.size (by simp)).trans (heap_alloc_new w (.cells #[.int .u8 (k : Nat), .string t, .slice kxa ks.length kxp, .slice lxa l.length lxp] 26))
    have hbel1 := hbel.trans (hb1.mono hbel.size)
    clear hb1 hbel cT bt
    go_loopw [3, 4] (fun vp vi wr => ∃ (p : Bool) (i : Nat), vp = .bool p ∧ vi = .int .i64 (i : Nat) ∧ i ≤ ks.length ∧ (p && (ks.drop i).all validB) = (validB t && ks.all validB) ∧ Below w.heap.size w wr ∧ wr.heap[w.heap.size]? = some (.cells #[.int .u8 (k : Nat), .string t, .slice kxa ks.length kxp, .slice lxa l.length lxp] 26 (0, 0))) (fun _ vi _ => ks.length - (intOf vi).toNat)
    case atStart => exact ⟨_, 0, rfl, rfl, Nat.zero_le _, by rw [List.drop_zero], hbel1, hbox⟩
    case round =>
      obtain ⟨p, i, rfl, rfl, hi, hp, hB2, hbx⟩ := hrel
      have y2 := Lib.cell_of_heap hbx 2
      by_cases hlt : i < ks.length
      · have hlt4 : (i : Int) < (ks.length : Int) := by omega
        rw [keys_all_drop hlt] at hp
        cases p
        · have HP := Lib.hid hp
          clear hp
          go_wp2_with fail
          go_roundw
          case rel => exact ⟨false, i + 1, rfl, by go_num, hlt, by rw [← HP.out]; rfl, hB2, hbx⟩
          case measure => simp [intOf]; omega
        · obtain ⟨kb, ko, rfl, ck⟩ := HKC.out _ hB2 i hlt
          have hcall := HCK.out i hlt
          have HP := Lib.hid hp
          clear hp
          generalize ks.getD i ByteArray.empty = x at *
          go_wp2_with (go_at_call 32; refine (hcall _).mono ?_; rintro e w3 ⟨rfl, hb3⟩)
          go_roundw
          case rel => exact ⟨validB x, i + 1, rfl, by go_num, hlt, by rw [← HP.out]; rfl, hB2.trans (hb3.mono hB2.size), (hb3.block _ (Array.getElem?_eq_some_iff.1 hbx).1).trans hbx⟩
          case measure => simp [intOf]; omega
      · have hend : p = (validB t && ks.all validB) := by
          rw [List.drop_eq_nil_of_le (by omega)] at hp
          simpa using hp
        rw [← hend] at E
        have hge4 : ¬ ((i : Int) < (ks.length : Int)) := by omega
        clear hp hend
        go_wp2_with fail
        go_loopw [3, 5] (fun vp vi wr => ∃ (q : Bool) (i : Nat), vp = .bool q ∧ vi = .int .i64 (i : Nat) ∧ i ≤ l.length ∧ (q && utfL (l.drop i)) = (p && utfL l) ∧ Below w.heap.size w wr ∧ wr.heap[w.heap.size]? = some (.cells #[.int .u8 (k : Nat), .string t, .slice kxa ks.length kxp, .slice lxa l.length lxp] 26 (0, 0))) (fun _ vi _ => l.length - (intOf vi).toNat)
        case atStart => exact ⟨p, 0, rfl, rfl, Nat.zero_le _, by rw [List.drop_zero], hB2, hbx⟩
        case round =>
          clear hB2 hbx y2 hi hge4
          obtain ⟨q, i, rfl, rfl, hi, hp, hB2, hbx⟩ := hrel
          have y3 := Lib.cell_of_heap hbx 3
          by_cases hlt : i < l.length
          · obtain ⟨x, hx⟩ : ∃ x, l[i]? = some x := ⟨_, List.getElem?_eq_getElem hlt⟩
            rw [utfL_drop hx] at hp
            have hlt4 : (i : Int) < (l.length : Int) := by omega
            cases q
            · have HP := Lib.hid hp
              clear hp
              go_wp2_with fail
              go_roundw
              case rel => exact ⟨false, i + 1, rfl, by go_num, hlt, by rw [← HP.out]; rfl, hB2, hbx⟩
              case measure => simp [intOf]; omega
            · obtain ⟨lb, lo, rfl, q0, q1, q2, q3, g0, g1, g2, g3, hVx⟩ := HLC.out i x hx
              have hsx : sizeV x ≤ N := by have := sizeV_in hx; simp only [sizeV] at hv; omega
              have e0 := cell_on hB2 g0
              have e1 := cell_on hB2 g1
              have e2 := cell_on hB2 g2
              have e3 := cell_on hB2 g3
              have hVr := IsV.stays (Below.stays hB2 0) (Nat.le_refl 0) _ _ _ _ _ hVx
              obtain ⟨k9, t9, ka9, kl9, kc9, la9, ll9, lc9, rfl, rfl, rfl, rfl⟩ := hVx.shape
              have hsx2 := sizeV_in hx
              have hkx2 := keysV_at hx
              have hcall := ih x hsx _ _ _ _ wr hVr (bndL_at HBL.out hx) (by omega) (by omega)
              have HP := Lib.hid hp
              generalize utfV x = u at *
              clear g0 g1 g2 g3 hVx hVr hx hv hp
              go_wp2_with (go_at_call 48; refine hcall.mono ?_; rintro e w3 ⟨rfl, hb3⟩)
              go_roundw
              case rel => exact ⟨u, i + 1, rfl, by go_num, hlt, by rw [← HP.out]; rfl, hB2.trans (hb3.mono hB2.size), (hb3.block _ (Array.getElem?_eq_some_iff.1 hbx).1).trans hbx⟩
              case measure => simp [intOf]; omega
          · have hend : Hid (q = (p && utfL l)) := Lib.hid <| by
              rw [List.drop_eq_nil_of_le (by omega)] at hp
              simpa [utfL] using hp
            have hge : ¬ ((i : Int) < (l.length : Int)) := by omega
            go_wp2_with fail
            go_ret
            exact ⟨ret_bool (by rw [E.out, ← hend.out]), hB2⟩
end Go.Proofs.YtakdhfjlhkejdaaGreatDoor
