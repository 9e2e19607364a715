/-
  CONTRACT of codicilref02.Get.
-/
import Derived.Test.YtakdhfjlhkejdaaGreatDoorN7
import Derived.Test.YtakdhfjlhkejdaaGreatDoorCJsonRSame
import Derived.Test.YtakdhfjlhkejdaaGreatDoorCJsonRCopM
set_option linter.unusedSimpArgs false
set_option linter.unusedVariables false
set_option linter.unusedVariables false
namespace Go.Proofs.YtakdhfjlhkejdaaGreatDoor
open Go.RowKit
theorem idx_cases (ks : List ByteArray) (key : ByteArray) : (∃ k, k < ks.length ∧ ks.getD k ByteArray.empty = key ∧ (∀ j, j < k → ks.getD j ByteArray.empty ≠ key) ∧ Lib.idxOfS ks key = (k : Int)) ∨ ((∀ j, j < ks.length → ks.getD j ByteArray.empty ≠ key) ∧ Lib.idxOfS ks key = -1) := by
  by_cases h : ∃ j, j < ks.length ∧ ks.getD j ByteArray.empty = key
  · left
    have h1 := leastN_spec h
    refine ⟨_, h1.1, h1.2, fun j hj e => ?_, ?_⟩
    · have hl := h1.1
      have := leastN_le (P := fun j => j < ks.length ∧ ks.getD j ByteArray.empty = key) ⟨by omega, e⟩
      omega
    · have := Lib.idxOfS_hit ks ks.length _ key h1.1 (Nat.le_refl _) h1.2 (fun j hj e => by
        have hl := h1.1
        have := leastN_le (P := fun j => j < ks.length ∧ ks.getD j ByteArray.empty = key) ⟨by omega, e⟩
        omega)
      rwa [List.take_length] at this
  · right
    have h2 : ∀ j, j < ks.length → ks.getD j ByteArray.empty ≠ key := fun j hj e => h ⟨j, hj, e⟩
    have := Lib.idxOfS_miss ks ks.length key h2
    rw [List.take_length] at this
    exact ⟨h2, this⟩
theorem get_hit {ks : List ByteArray} {l : List JV} {key : ByteArray} {i : Nat} (h : i < ks.length) (hl : i < l.length) (e : ks.getD i ByteArray.empty = key) (hne : ∀ j, j < i → ks.getD j ByteArray.empty ≠ key) : getM 7 ks l key = l[i]? := by
  have := Lib.idxOfS_hit ks ks.length i key h (Nat.le_refl _) e hne
  rw [List.take_length] at this
  unfold getM
  rw [this, if_pos ⟨rfl, by omega, by omega⟩]
  rfl
theorem get_miss {k : Nat} {ks : List ByteArray} {l : List JV} {key : ByteArray} {i : Nat} (h : i ≥ ks.length ∨ i ≥ l.length) (hne : ∀ j, j < i → ks.getD j ByteArray.empty ≠ key) : getM k ks l key = none := by
  unfold getM
  rw [if_neg]
  rintro ⟨_, h1, h2⟩
  rcases idx_cases ks key with ⟨q, q1, q2, _, q4⟩ | ⟨_, q4⟩
  · rw [q4] at h1 h2
    exact hne q (by omega) q2
  · rw [q4] at h1
    omega
theorem get_kind {k : Nat} {ks : List ByteArray} {l : List JV} {key : ByteArray} (h : k ≠ 7) : getM k ks l key = none := by
  unfold getM
  rw [if_neg (fun e => h e.1)]
def RGetEnd (w : World) (r : Option JV) (e : Ending) (w' : World) : Prop :=
  Below w.heap.size w w' ∧ match r with
  | none => e = .returned (.tuple #[.agg #[.int .u8 0, .string ⟨#[]⟩, .slice none 0 0, .slice none 0 0], .bool false])
  | some x => ∃ d0 d1 d2 d3, e = .returned (.tuple #[.agg #[d0, d1, d2, d3], .bool true]) ∧ IsV w' 0 x d0 d1 d2 d3
set_option maxRecDepth 10000000 in
set_option maxHeartbeats 8000000 in
theorem refGet_any (k : Nat) (t key : ByteArray) (ks : List ByteArray) (l : List JV) (c0 c1 c2 c3 : Value) (w : World) (hv : IsV w 0 (.mk k t ks l) c0 c1 c2 c3) (hs : l.length ≤ 1000000000000) (hk : ks.length ≤ 1000000000000) :
    Calls Tryz.prog 22 #[.agg #[c0, c1, c2, c3], .string key] w (RGetEnd w (getM k ks l key)) := by
  obtain ⟨kxa, kxp, lxa, lxp, rfl, rfl, rfl, rfl, hKx, hLx⟩ := IsV.opened hv
  have HKC := Lib.hid (fun (wr : World) (hb : Below w.heap.size w wr) (j : Nat) (hj : j < ks.length) => keys_cell hKx hb hj)
  have HLC := Lib.hid (fun (j : Nat) (x : JV) (hx : l[j]? = some x) => list_cell hLx hx)
  clear hv hKx hLx
  have hbel : ∀ A B : Obj, Below w.heap.size w ((w.alloc A).alloc B) := fun A B => ((Below.refl w.heap.size w).alloc (Nat.le_refl _) A).alloc (by simp) B
  go_enter Tryz.func22, Tryz.ntmps22
  go_wp2
  have hbx1 := (Lib.alloc_old (w.alloc (.cells #[.int .u8 (k : Nat), .string t, .slice kxa ks.length kxp, .slice lxa l.length lxp] 26)) (.cells #[.int .u8 0, .string ⟨#[]⟩, .slice none 0 0, .slice none 0 0] 26) w.heap.size (by simp)).trans (heap_alloc_new w (.cells #[.int .u8 (k : Nat), .string t, .slice kxa ks.length kxp, .slice lxa l.length lxp] 26))
  have hbx2 := heap_alloc_new (w.alloc (.cells #[.int .u8 (k : Nat), .string t, .slice kxa ks.length kxp, .slice lxa l.length lxp] 26)) (.cells #[.int .u8 0, .string ⟨#[]⟩, .slice none 0 0, .slice none 0 0] 26)
  rw [show (w.alloc (.cells #[.int .u8 (k : Nat), .string t, .slice kxa ks.length kxp, .slice lxa l.length lxp] 26)).heap.size = w.heap.size + 1 by simp] at hbx2
  have hB2 := hbel (.cells #[.int .u8 (k : Nat), .string t, .slice kxa ks.length kxp, .slice lxa l.length lxp] 26) (.cells #[.int .u8 0, .string ⟨#[]⟩, .slice none 0 0, .slice none 0 0] 26)
  have hszA : ((w.alloc (.cells #[.int .u8 (k : Nat), .string t, .slice kxa ks.length kxp, .slice lxa l.length lxp] 26)).alloc (.cells #[.int .u8 0, .string ⟨#[]⟩, .slice none 0 0, .slice none 0 0] 26)).heap.size = w.heap.size + 2 := by simp
  generalize (w.alloc (.cells #[.int .u8 (k : Nat), .string t, .slice kxa ks.length kxp, .slice lxa l.length lxp] 26)).alloc (.cells #[.int .u8 0, .string ⟨#[]⟩, .slice none 0 0, .slice none 0 0] 26) = wA at *
  obtain ⟨x0, x1, x2, x3⟩ := RB.cells hbx1
  obtain ⟨y0, y1, y2, y3⟩ := RB.cells hbx2
  obtain ⟨z0, z1, z2, z3⟩ := RB.frozen hbx2
  go_loop [6] (fun vn => ∃ i : Nat, vn = .int .i64 i ∧ i ≤ ks.length ∧ (∀ j, j < i → ks.getD j ByteArray.empty ≠ key)) (fun vn => ks.length - (intOf vn).toNat)
  case atStart => exact ⟨0, rfl, Nat.zero_le _, fun j hj => absurd hj (Nat.not_lt_zero j)⟩
  case round =>
    obtain ⟨i, rfl, hi, hne⟩ := hrel
    by_cases hgo : i < ks.length ∧ i < l.length ∧ k = 7
    · obtain ⟨h1, h2, rfl⟩ := hgo
      obtain ⟨kb, ko, rfl, ck⟩ := HKC.out _ hB2 i h1
      obtain ⟨x, hx⟩ : ∃ x, l[i]? = some x := ⟨_, List.getElem?_eq_getElem h2⟩
      obtain ⟨lb, lo, rfl, q0, q1, q2, q3, g0, g1, g2, g3, hVx⟩ := HLC.out i x hx
      have i1 : (i : Int) < (ks.length : Int) := by omega
      have i2 : (i : Int) < (l.length : Int) := by omega
      by_cases he : ks.getD i ByteArray.empty = key
      · have HM := Lib.hid ((get_hit h1 h2 he hne).trans hx)
        rw [he] at ck
        have e0 := cell_on hB2 g0
        have e1 := cell_on hB2 g1
        have e2 := cell_on hB2 g2
        have e3 := cell_on hB2 g3
        obtain ⟨k1, t1, qa, ql, qc, ra, rl, rc, rfl, rfl, rfl, rfl⟩ := hVx.shape
        have hb3 : (key.toList == key.toList) = true := by simp
        clear he hne hx g0 g1 g2 g3
        go_wp2
        have hRB := RB.set4 hbx2 (.int .u8 (k1 : Nat)) (.string t1) (.slice qa ql qc) (.slice ra rl rc)
        have hBE : Below w.heap.size w ((((wA.setCell ⟨w.heap.size + 1, 0, none⟩ (.int .u8 (k1 : Nat))).setCell ⟨w.heap.size + 1, 1, none⟩ (.string t1)).setCell ⟨w.heap.size + 1, 2, none⟩ (.slice qa ql qc)).setCell ⟨w.heap.size + 1, 3, none⟩ (.slice ra rl rc)) := (((hB2.setCell (p := ⟨w.heap.size + 1, 0, none⟩) (by simp only; omega) _).setCell (p := ⟨w.heap.size + 1, 1, none⟩) (by simp only; omega) _).setCell (p := ⟨w.heap.size + 1, 2, none⟩) (by simp only; omega) _).setCell (p := ⟨w.heap.size + 1, 3, none⟩) (by simp only; omega) _
        have hV3 := IsV.stays (w := w) (w' := (((wA.setCell ⟨w.heap.size + 1, 0, none⟩ (.int .u8 (k1 : Nat))).setCell ⟨w.heap.size + 1, 1, none⟩ (.string t1)).setCell ⟨w.heap.size + 1, 2, none⟩ (.slice qa ql qc)).setCell ⟨w.heap.size + 1, 3, none⟩ (.slice ra rl rc)) (lo' := 0) (lo := 0) (Below.stays hBE 0) (Nat.le_refl 0) _ _ _ _ _ hVx
        generalize (((wA.setCell ⟨w.heap.size + 1, 0, none⟩ (.int .u8 (k1 : Nat))).setCell ⟨w.heap.size + 1, 1, none⟩ (.string t1)).setCell ⟨w.heap.size + 1, 2, none⟩ (.slice qa ql qc)).setCell ⟨w.heap.size + 1, 3, none⟩ (.slice ra rl rc) = wE at *
        obtain ⟨f0, f1, f2, f3⟩ := hRB.cells
        refine bodyPost_ret (v := .tuple #[.agg #[.int .u8 (k1 : Nat), .string t1, .slice qa ql qc, .slice ra rl rc], .bool true]) ?_ rfl ?_
        · simp [results, Tryz.results22, go_sem, f0, f1, f2, f3]
        · rw [HM.out]
          exact ⟨hBE, _, _, _, _, rfl, hV3⟩
      · have HN : Hid (∀ j, j < i + 1 → ks.getD j ByteArray.empty ≠ key) := Lib.hid (fun j hj => by
          rcases Nat.lt_or_ge j i with h | h
          · exact hne j h
          · have : j = i := by omega
            subst this
            exact he)
        have hb3 : (((ks.getD i ByteArray.empty).toList) == key.toList) = false := beq_false_of_ne (fun h => he (by rwa [tl_eq] at h))
        generalize ks.getD i ByteArray.empty = y at *
        clear he hne hx g0 g1 g2 g3 hVx
        go_wp2
        go_round
        case rel => exact ⟨i + 1, by go_num, h1, HN.out⟩
        case measure => simp [intOf]; omega
    · have HM : Hid (getM k ks l key = none) := Lib.hid (by
        by_cases h7 : k = 7
        · exact get_miss (i := i) (by omega) hne
        · exact get_kind h7)
      clear hne
      by_cases h1 : i < ks.length
      · have i1 : (i : Int) < (ks.length : Int) := by omega
        by_cases h2 : i < l.length
        · have i2 : (i : Int) < (l.length : Int) := by omega
          have h7 : ¬ ((k : Int) = 7) := by omega
          go_wp2
          have hRB := RB.set4 hbx2 (.int .u8 0) (.string ⟨#[]⟩) (.slice none 0 0) (.slice none 0 0)
          have hBE : Below w.heap.size w ((((wA.setCell ⟨w.heap.size + 1, 0, none⟩ (.int .u8 0)).setCell ⟨w.heap.size + 1, 1, none⟩ (.string ⟨#[]⟩)).setCell ⟨w.heap.size + 1, 2, none⟩ (.slice none 0 0)).setCell ⟨w.heap.size + 1, 3, none⟩ (.slice none 0 0)) := (((hB2.setCell (p := ⟨w.heap.size + 1, 0, none⟩) (by simp only; omega) _).setCell (p := ⟨w.heap.size + 1, 1, none⟩) (by simp only; omega) _).setCell (p := ⟨w.heap.size + 1, 2, none⟩) (by simp only; omega) _).setCell (p := ⟨w.heap.size + 1, 3, none⟩) (by simp only; omega) _
          generalize (((wA.setCell ⟨w.heap.size + 1, 0, none⟩ (.int .u8 0)).setCell ⟨w.heap.size + 1, 1, none⟩ (.string ⟨#[]⟩)).setCell ⟨w.heap.size + 1, 2, none⟩ (.slice none 0 0)).setCell ⟨w.heap.size + 1, 3, none⟩ (.slice none 0 0) = wE at *
          obtain ⟨f0, f1, f2, f3⟩ := hRB.cells
          refine bodyPost_ret (v := .tuple #[.agg #[.int .u8 0, .string ⟨#[]⟩, .slice none 0 0, .slice none 0 0], .bool false]) ?_ rfl ?_
          · simp [results, Tryz.results22, go_sem, f0, f1, f2, f3]
          · rw [HM.out]
            exact ⟨hBE, rfl⟩
        · have i2 : ¬ ((i : Int) < (l.length : Int)) := by omega
          go_wp2
          have hRB := RB.set4 hbx2 (.int .u8 0) (.string ⟨#[]⟩) (.slice none 0 0) (.slice none 0 0)
          have hBE : Below w.heap.size w ((((wA.setCell ⟨w.heap.size + 1, 0, none⟩ (.int .u8 0)).setCell ⟨w.heap.size + 1, 1, none⟩ (.string ⟨#[]⟩)).setCell ⟨w.heap.size + 1, 2, none⟩ (.slice none 0 0)).setCell ⟨w.heap.size + 1, 3, none⟩ (.slice none 0 0)) := (((hB2.setCell (p := ⟨w.heap.size + 1, 0, none⟩) (by simp only; omega) _).setCell (p := ⟨w.heap.size + 1, 1, none⟩) (by simp only; omega) _).setCell (p := ⟨w.heap.size + 1, 2, none⟩) (by simp only; omega) _).setCell (p := ⟨w.heap.size + 1, 3, none⟩) (by simp only; omega) _
          generalize (((wA.setCell ⟨w.heap.size + 1, 0, none⟩ (.int .u8 0)).setCell ⟨w.heap.size + 1, 1, none⟩ (.string ⟨#[]⟩)).setCell ⟨w.heap.size + 1, 2, none⟩ (.slice none 0 0)).setCell ⟨w.heap.size + 1, 3, none⟩ (.slice none 0 0) = wE at *
          obtain ⟨f0, f1, f2, f3⟩ := hRB.cells
          refine bodyPost_ret (v := .tuple #[.agg #[.int .u8 0, .string ⟨#[]⟩, .slice none 0 0, .slice none 0 0], .bool false]) ?_ rfl ?_
          · simp [results, Tryz.results22, go_sem, f0, f1, f2, f3]
          · rw [HM.out]
            exact ⟨hBE, rfl⟩
      · have i1 : ¬ ((i : Int) < (ks.length : Int)) := by omega
        go_wp2
        have hRB := RB.set4 hbx2 (.int .u8 0) (.string ⟨#[]⟩) (.slice none 0 0) (.slice none 0 0)
        have hBE : Below w.heap.size w ((((wA.setCell ⟨w.heap.size + 1, 0, none⟩ (.int .u8 0)).setCell ⟨w.heap.size + 1, 1, none⟩ (.string ⟨#[]⟩)).setCell ⟨w.heap.size + 1, 2, none⟩ (.slice none 0 0)).setCell ⟨w.heap.size + 1, 3, none⟩ (.slice none 0 0)) := (((hB2.setCell (p := ⟨w.heap.size + 1, 0, none⟩) (by simp only; omega) _).setCell (p := ⟨w.heap.size + 1, 1, none⟩) (by simp only; omega) _).setCell (p := ⟨w.heap.size + 1, 2, none⟩) (by simp only; omega) _).setCell (p := ⟨w.heap.size + 1, 3, none⟩) (by simp only; omega) _
        generalize (((wA.setCell ⟨w.heap.size + 1, 0, none⟩ (.int .u8 0)).setCell ⟨w.heap.size + 1, 1, none⟩ (.string ⟨#[]⟩)).setCell ⟨w.heap.size + 1, 2, none⟩ (.slice none 0 0)).setCell ⟨w.heap.size + 1, 3, none⟩ (.slice none 0 0) = wE at *
        obtain ⟨f0, f1, f2, f3⟩ := hRB.cells
        refine bodyPost_ret (v := .tuple #[.agg #[.int .u8 0, .string ⟨#[]⟩, .slice none 0 0, .slice none 0 0], .bool false]) ?_ rfl ?_
        · simp [results, Tryz.results22, go_sem, f0, f1, f2, f3]
        · rw [HM.out]
          exact ⟨hBE, rfl⟩
end Go.Proofs.YtakdhfjlhkejdaaGreatDoor
