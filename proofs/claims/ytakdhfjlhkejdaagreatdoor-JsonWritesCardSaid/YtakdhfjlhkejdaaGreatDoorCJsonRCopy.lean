/-
  CONTRACTS of codicilref02.Copy.
-/
import Derived.Test.YtakdhfjlhkejdaaGreatDoorCJsonRSame
import Derived.Test.YtakdhfjlhkejdaaGreatDoorN3
import Derived.Test.YtakdhfjlhkejdaaGreatDoorN4
import Derived.Deep.AppendLies
import Derived.Deep.DeepCutAuto
import Derived.Test.YtakdhfjlhkejdaaGreatDoorCJsonRCopM
import Derived.Test.YtakdhfjlhkejdaaGreatDoorN7
set_option linter.unusedSimpArgs false
set_option linter.unusedVariables false
set_option linter.unusedVariables false
set_option linter.unusedSimpArgs false
namespace Go.Proofs.YtakdhfjlhkejdaaGreatDoor
open Go.RowKit
theorem take_snoc {l : List JV} {i : Nat} {x : JV} (h : l[i]? = some x) : l.take (i + 1) = l.take i ++ [x] := by
  obtain ⟨h1, rfl⟩ := List.getElem?_eq_some_iff.1 h
  rw [List.take_add_one, List.getElem?_eq_getElem h1]
  rfl
set_option maxRecDepth 10000000 in
set_option maxHeartbeats 8000000 in
theorem refCopy_any (N : Nat) : ∀ (a : JV), sizeV a ≤ N → ∀ (c0 c1 c2 c3 : Value) (w : World), IsV w 0 a c0 c1 c2 c3 → sizeV a ≤ 1000000000000 → keysV a ≤ 1000000000000 →
    Calls Tryz.prog 27 #[.agg #[c0, c1, c2, c3]] w fun e w' => ∃ d0 d1 d2 d3, e = .returned (.agg #[d0, d1, d2, d3]) ∧ IsV w' w.heap.size a d0 d1 d2 d3 ∧ Below w.heap.size w w' := by
  induction N with
  | zero => intro v hv; obtain ⟨k, t, ks, l⟩ := v; simp only [sizeV] at hv; omega
  | succ N ih =>
    rintro ⟨k, t, ks, l⟩ hv c0 c1 c2 c3 w hV hs hk
    obtain ⟨ka, kp, la, lp, rfl, rfl, rfl, rfl, hK, hL⟩ := IsV.opened hV
    go_enter Tryz.func27, Tryz.ntmps27
    go_wp2
    have hkl : ks.length ≤ 1000000000000 := by simp only [keysV] at hk; omega
    have hbx1 := (Lib.alloc_old (w.alloc (.cells #[.int .u8 (k : Nat), .string t, .slice ka ks.length kp, .slice la l.length lp] 26)) (.cells #[.int .u8 0, .string ⟨#[]⟩, .slice none 0 0, .slice none 0 0] 26) w.heap.size (by simp)).trans (heap_alloc_new w (.cells #[.int .u8 (k : Nat), .string t, .slice ka ks.length kp, .slice la l.length lp] 26))
    have hbx2 := heap_alloc_new (w.alloc (.cells #[.int .u8 (k : Nat), .string t, .slice ka ks.length kp, .slice la l.length lp] 26)) (.cells #[.int .u8 0, .string ⟨#[]⟩, .slice none 0 0, .slice none 0 0] 26)
    rw [show (w.alloc (.cells #[.int .u8 (k : Nat), .string t, .slice ka ks.length kp, .slice la l.length lp] 26)).heap.size = w.heap.size + 1 by simp] at hbx2
    have hbel : Below w.heap.size w ((w.alloc (.cells #[.int .u8 (k : Nat), .string t, .slice ka ks.length kp, .slice la l.length lp] 26)).alloc (.cells #[.int .u8 0, .string ⟨#[]⟩, .slice none 0 0, .slice none 0 0] 26)) := ((Below.refl _ _).alloc (Nat.le_refl _) _).alloc (by simp) _
    have hszA : ((w.alloc (.cells #[.int .u8 (k : Nat), .string t, .slice ka ks.length kp, .slice la l.length lp] 26)).alloc (.cells #[.int .u8 0, .string ⟨#[]⟩, .slice none 0 0, .slice none 0 0] 26)).heap.size = w.heap.size + 2 := by simp
    generalize (w.alloc (.cells #[.int .u8 (k : Nat), .string t, .slice ka ks.length kp, .slice la l.length lp] 26)).alloc (.cells #[.int .u8 0, .string ⟨#[]⟩, .slice none 0 0, .slice none 0 0] 26) = wA at *
    have y0 := Lib.cell_of_heap hbx1 0
    have y1 := Lib.cell_of_heap hbx1 1
    have y2 := Lib.cell_of_heap hbx1 2
    have hS0 : Below wA.heap.size wA wA.drew := (Below.refl _ _).drew
    go_cut [3] (fun s3 wx => ∃ h3 a2 cap, s3 = .pointer (some ⟨h3, 0, none⟩) ∧ RC w (.cells #[.int .u8 (k : Nat), .string t, .slice ka ks.length kp, .slice la l.length lp] 26) h3 k t ks (.slice a2 ks.length cap) wx [] (.slice none 0 0) [])
    case first =>
      have hbel2 : Below w.heap.size w wA := hbel
      refine wp_region_any (by kernel_rfl) ?_
      change wpAny _ _ _ _ 11 _ _ (World.drew _)
      refine HT.take_at (i := 0) (v := ?_) rfl rfl (by kernel_rfl) (by kernel_rfl) (by kernel_rfl) (fun _ _ _ h => h) (Or.inl ⟨by rfl, ?_⟩) ?_
      rotate_left
      · intro wq
        go_simp
        try with_reducible rfl
      simp only [Act.put, List.setIfInBounds_toArray, List.set_cons_zero, List.set_cons_succ]
      refine HT.take_at (i := 2) (v := ?_) rfl rfl (by kernel_rfl) (by kernel_rfl) (by kernel_rfl) (fun _ _ _ h => h) (Or.inl ⟨by rfl, ?_⟩) ?_
      rotate_left
      · intro wq
        go_simp
        try with_reducible rfl
      simp only [Act.put, List.setIfInBounds_toArray, List.set_cons_zero, List.set_cons_succ]
      refine HT.take_at (i := 5) (v := ?_) rfl rfl (by kernel_rfl) (by kernel_rfl) (by kernel_rfl) (fun _ _ _ h => h) (Or.inl ⟨by rfl, ?_⟩) ?_
      rotate_left
      · intro wq
        go_simp
        try with_reducible rfl
      simp only [Act.put, List.setIfInBounds_toArray, List.set_cons_zero, List.set_cons_succ]
      refine HT.wpAny_of_G (k := 10) (S := fun w' => Below wA.heap.size wA w') _ _ _ _ ?_
      refine HT.takeG_at (i := 1) (v := ?_) rfl rfl (by kernel_rfl) (by kernel_rfl) (by kernel_rfl) (by kernel_rfl) (by kernel_rfl) (by kernel_rfl) (fun _ _ _ h => h) hS0 (Or.inl ⟨by rfl, ?_⟩) ?_
      rotate_left
      · intro wq hwq
        have z0 := cell_on hwq y0
        go_simp
        try with_reducible rfl
      simp only [Act.put, List.setIfInBounds_toArray, List.set_cons_zero, List.set_cons_succ]
      refine HT.takeG_at (i := 3) (v := ?_) rfl rfl (by kernel_rfl) (by kernel_rfl) (by kernel_rfl) (by kernel_rfl) (by kernel_rfl) (by kernel_rfl) (fun _ _ _ h => h) hS0 (Or.inl ⟨by rfl, ?_⟩) ?_
      rotate_left
      · intro wq hwq
        have z0 := cell_on hwq y1
        go_simp
        try with_reducible rfl
      simp only [Act.put, List.setIfInBounds_toArray, List.set_cons_zero, List.set_cons_succ]
      refine HT.takeG_at (i := 6) (v := ?_) rfl rfl (by kernel_rfl) (by kernel_rfl) (by kernel_rfl) (by kernel_rfl) (by kernel_rfl) (by kernel_rfl) (fun _ _ _ h => h) hS0 (Or.inl ⟨by rfl, ?_⟩) ?_
      rotate_left
      · intro wq hwq
        have z0 := cell_on hwq y2
        go_simp
        try with_reducible rfl
      simp only [Act.put, List.setIfInBounds_toArray, List.set_cons_zero, List.set_cons_succ]
      refine HT.wpAnyG_two (i := 4) (j := 9) (by kernel_rfl) rfl rfl (fun KK hKK => ?_) (fun KK hKK => ?_)
      · go_simp
        have hS := ((Below.refl wA.heap.size wA).alloc (Nat.le_refl _) (.cells #[] 9)).drew
        have hB : (wA.alloc (.cells #[] 9)).drew.heap[w.heap.size + 2]? = some (.cells #[] 9 (0, 0)) := by rw [← hszA]; exact heap_alloc_new wA _
        have hszB : (wA.alloc (.cells #[] 9)).drew.heap.size = w.heap.size + 3 := by simp [hszA]
        refine hKK _ _ hS ?_
        clear hKK KK
        generalize (wA.alloc (.cells #[] 9)).drew = wB at *
        refine HT.wpAnyG_two (i := 7) (j := 9) (by kernel_rfl) rfl rfl (fun KK hKK => ?_) (fun KK hKK => ?_)
        · refine step_keys (by rfl) _ _ (by rfl) (w.heap.size + 2) (w.heap.size + 2) (by rfl) hB ka ks kp (by rfl) (keys_on (hbel2.trans (hS.mono (by omega))) hK) (by omega) hkl (fun b => b == w.heap.size + 1) (by simp) (by simp [hszB]) ?_
          intro a2 cap w1 hK1 hgrow
          have hS1 : Below wA.heap.size wA w1 := hS.grown hgrow (by omega) (fun j e => by cases e; omega)
          refine hKK _ _ hS1 ?_
          clear hKK KK
          refine HT.takeG_at (i := 8) (v := ?_) rfl rfl (by kernel_rfl) (by kernel_rfl) (by kernel_rfl) (by kernel_rfl) (by kernel_rfl) (by kernel_rfl) (fun _ _ _ h => h) hS1 (Or.inl ⟨by rfl, ?_⟩) ?_
          rotate_left
          · intro wq hwq
            go_simp
            try with_reducible rfl
          simp only [Act.put, List.setIfInBounds_toArray, List.set_cons_zero, List.set_cons_succ]
          refine HT.wpAnyG_one (i := 9) (by kernel_rfl) rfl (fun KK hKK => ?_)
          go_simp
          have hs1 := hS1.size
          have hS2 := hS1.alloc hs1 (.cells #[.int .u8 0, .string ⟨#[]⟩, .slice none 0 0, .slice none 0 0] 26)
          refine hKK _ _ hS2 ?_
          clear hKK KK
          refine HT.wpAnyG_turn (k := 10) (by kernel_rfl) rfl (fun KK hKK => ?_)
          go_simp
          refine hKK _ _ ?_
          clear hKK KK
          refine wpAny_done (by kernel_rfl) ?_ _
          go_wp2
          go_meet
          have hold : ∀ j, j < w1.heap.size → j ≠ w.heap.size + 2 → (w1.alloc (.cells #[.int .u8 (k : Nat), .string t, .slice a2 ks.length cap, .slice none 0 0] 26)).heap[j]? = w1.heap[j]? := fun j h1 h2 => Lib.alloc_old _ _ _ h1
          have ho2 : ∀ j, j < wA.heap.size → (w1.alloc (.cells #[.int .u8 (k : Nat), .string t, .slice a2 ks.length cap, .slice none 0 0] 26)).heap[j]? = wA.heap[j]? := fun j h1 => (Lib.alloc_old _ _ _ (by omega)).trans (hS1.block j h1)
          exact ⟨_, _, _, rfl, RC.start ((ho2 _ (by omega)).trans hbx1) ((ho2 _ (by omega)).trans hbx2) (heap_alloc_new w1 _) (by omega) hK1 (by simp) (fun j h1 h2 => ⟨by omega, Lib.alloc_old _ _ _ h1⟩) ((hbel2.trans (hS1.mono (by omega))).alloc (by omega) _)⟩
        · go_simp
          have hS2 := hS.alloc (by omega) (.cells #[.int .u8 0, .string ⟨#[]⟩, .slice none 0 0, .slice none 0 0] 26)
          have hB2 : (wB.alloc (.cells #[.int .u8 0, .string ⟨#[]⟩, .slice none 0 0, .slice none 0 0] 26)).heap[w.heap.size + 2]? = some (.cells #[] 9 (0, 0)) := (Lib.alloc_old wB _ _ (by omega)).trans hB
          have hR2 : RB (wB.alloc (.cells #[.int .u8 0, .string ⟨#[]⟩, .slice none 0 0, .slice none 0 0] 26)) (w.heap.size + 3) (.int .u8 0) (.string ⟨#[]⟩) (.slice none 0 0) (.slice none 0 0) := by rw [← hszB]; exact heap_alloc_new wB _
          refine hKK _ _ hS2 ?_
          clear hKK KK
          have hszC : (wB.alloc (.cells #[.int .u8 0, .string ⟨#[]⟩, .slice none 0 0, .slice none 0 0] 26)).heap.size = w.heap.size + 4 := by simp [hszB]
          generalize wB.alloc (.cells #[.int .u8 0, .string ⟨#[]⟩, .slice none 0 0, .slice none 0 0] 26) = wC at *
          clear hS hszB
          have hS := hS2
          have hszB := hszC
          refine HT.wpAnyG_one (i := 7) (by kernel_rfl) rfl (fun KK hKK => ?_)
          refine step_keys (by rfl) _ _ (by rfl) (w.heap.size + 2) (w.heap.size + 2) (by rfl) hB2 ka ks kp (by rfl) (keys_on (hbel2.trans (hS.mono (by omega))) hK) (by omega) hkl (fun b => b == w.heap.size + 1 || b == w.heap.size + 3) (by simp) (by simp [hszB]) ?_
          intro a2 cap w1 hK1 hgrow
          have hS1 : Below wA.heap.size wA w1 := hS.grown hgrow (by omega) (fun j e => by cases e; omega)
          refine hKK _ _ hS1 ?_
          clear hKK KK
          refine HT.takeG_at (i := 8) (v := ?_) rfl rfl (by kernel_rfl) (by kernel_rfl) (by kernel_rfl) (by kernel_rfl) (by kernel_rfl) (by kernel_rfl) (fun _ _ _ h => h) hS1 (Or.inl ⟨by rfl, ?_⟩) ?_
          rotate_left
          · intro wq hwq
            go_simp
            try with_reducible rfl
          simp only [Act.put, List.setIfInBounds_toArray, List.set_cons_zero, List.set_cons_succ]
          have hR4 : RB w1 (w.heap.size + 3) (.int .u8 0) (.string ⟨#[]⟩) (.slice none 0 0) (.slice none 0 0) := (hgrow.block _ hR2.lt (by simp)).trans hR2
          obtain ⟨e0, e1, e2, e3⟩ := hR4.cells
          obtain ⟨f0, f1, f2, f3⟩ := hR4.frozen
          refine HT.wpAnyG_turn (k := 10) (by kernel_rfl) rfl (fun KK hKK => ?_)
          go_simp
          refine hKK _ _ ?_
          clear hKK KK
          refine wpAny_done (by kernel_rfl) ?_ _
          go_wp2
          go_meet
          have hs1 := hS1.size
          have ho2 : ∀ j, j < wA.heap.size → ((((w1.setCell ⟨w.heap.size + 3, 0, none⟩ (.int .u8 (k : Nat))).setCell ⟨w.heap.size + 3, 1, none⟩ (.string t)).setCell ⟨w.heap.size + 3, 2, none⟩ (.slice a2 ks.length cap)).setCell ⟨w.heap.size + 3, 3, none⟩ (.slice none 0 0)).heap[j]? = wA.heap[j]? := fun j h1 => (set4_heap w1 _ _ _ _ _ _ _ _ _ j (by omega)).trans (hS1.block j h1)
          exact ⟨_, _, _, rfl, RC.start ((ho2 _ (by omega)).trans hbx1) ((ho2 _ (by omega)).trans hbx2) (hR4.set4 _ _ _ _) (by omega) hK1 (by simp) (fun j h1 h2 => by
            simp only [Bool.or_eq_false_iff, beq_eq_false_iff_ne] at h2
            exact ⟨h2.2, set4_heap w1 _ _ _ _ _ _ _ _ _ j h2.2⟩) (((((hbel2.trans (hS1.mono (by omega))).setCell (by simp only; omega) _).setCell (by simp only; omega) _).setCell (by simp only; omega) _).setCell (by simp only; omega) _)⟩
      · go_simp
        have hS := ((Below.refl wA.heap.size wA).alloc (Nat.le_refl _) (.cells #[.int .u8 0, .string ⟨#[]⟩, .slice none 0 0, .slice none 0 0] 26)).drew
        have hR2 : RB (wA.alloc (.cells #[.int .u8 0, .string ⟨#[]⟩, .slice none 0 0, .slice none 0 0] 26)).drew (w.heap.size + 2) (.int .u8 0) (.string ⟨#[]⟩) (.slice none 0 0) (.slice none 0 0) := by rw [← hszA]; exact heap_alloc_new wA _
        have hszB : (wA.alloc (.cells #[.int .u8 0, .string ⟨#[]⟩, .slice none 0 0, .slice none 0 0] 26)).drew.heap.size = w.heap.size + 3 := by simp [hszA]
        refine hKK _ _ hS ?_
        clear hKK KK
        generalize (wA.alloc (.cells #[.int .u8 0, .string ⟨#[]⟩, .slice none 0 0, .slice none 0 0] 26)).drew = wB at *
        refine HT.wpAnyG_one (i := 4) (by kernel_rfl) rfl (fun KK hKK => ?_)
        go_simp
        have hS2 := hS.alloc (by omega) (.cells #[] 9)
        have hB2 : (wB.alloc (.cells #[] 9)).heap[w.heap.size + 3]? = some (.cells #[] 9 (0, 0)) := by rw [← hszB]; exact heap_alloc_new wB _
        have hR3 := hR2.alloc (.cells #[] 9)
        have hszC : (wB.alloc (.cells #[] 9)).heap.size = w.heap.size + 4 := by simp [hszB]
        refine hKK _ _ hS2 ?_
        clear hKK KK
        generalize wB.alloc (.cells #[] 9) = wC at *
        clear hS hszB hR2
        have hS := hS2
        have hszB := hszC
        have hR2 := hR3
        refine HT.wpAnyG_one (i := 7) (by kernel_rfl) rfl (fun KK hKK => ?_)
        refine step_keys (by rfl) _ _ (by rfl) (w.heap.size + 3) (w.heap.size + 2) (by rfl) hB2 ka ks kp (by rfl) (keys_on (hbel2.trans (hS.mono (by omega))) hK) (by omega) hkl (fun b => b == w.heap.size + 1 || b == w.heap.size + 2) (by simp) (by simp [hszB]) ?_
        intro a2 cap w1 hK1 hgrow
        have hS1 : Below wA.heap.size wA w1 := hS.grown hgrow (by omega) (fun j e => by cases e; omega)
        refine hKK _ _ hS1 ?_
        clear hKK KK
        refine HT.takeG_at (i := 8) (v := ?_) rfl rfl (by kernel_rfl) (by kernel_rfl) (by kernel_rfl) (by kernel_rfl) (by kernel_rfl) (by kernel_rfl) (fun _ _ _ h => h) hS1 (Or.inl ⟨by rfl, ?_⟩) ?_
        rotate_left
        · intro wq hwq
          go_simp
          try with_reducible rfl
        simp only [Act.put, List.setIfInBounds_toArray, List.set_cons_zero, List.set_cons_succ]
        have hR4 : RB w1 (w.heap.size + 2) (.int .u8 0) (.string ⟨#[]⟩) (.slice none 0 0) (.slice none 0 0) := (hgrow.block _ hR2.lt (by simp)).trans hR2
        obtain ⟨e0, e1, e2, e3⟩ := hR4.cells
        obtain ⟨f0, f1, f2, f3⟩ := hR4.frozen
        refine HT.wpAnyG_turn (k := 10) (by kernel_rfl) rfl (fun KK hKK => ?_)
        go_simp
        refine hKK _ _ ?_
        clear hKK KK
        refine wpAny_done (by kernel_rfl) ?_ _
        go_wp2
        go_meet
        have hs1 := hS1.size
        have ho2 : ∀ j, j < wA.heap.size → ((((w1.setCell ⟨w.heap.size + 2, 0, none⟩ (.int .u8 (k : Nat))).setCell ⟨w.heap.size + 2, 1, none⟩ (.string t)).setCell ⟨w.heap.size + 2, 2, none⟩ (.slice a2 ks.length cap)).setCell ⟨w.heap.size + 2, 3, none⟩ (.slice none 0 0)).heap[j]? = wA.heap[j]? := fun j h1 => (set4_heap w1 _ _ _ _ _ _ _ _ _ j (by omega)).trans (hS1.block j h1)
        exact ⟨_, _, _, rfl, RC.start ((ho2 _ (by omega)).trans hbx1) ((ho2 _ (by omega)).trans hbx2) (hR4.set4 _ _ _ _) (by omega) hK1 (by simp) (fun j h1 h2 => by
          simp only [Bool.or_eq_false_iff, beq_eq_false_iff_ne] at h2
          exact ⟨h2.2, set4_heap w1 _ _ _ _ _ _ _ _ _ j h2.2⟩) (((((hbel2.trans (hS1.mono (by omega))).setCell (by simp only; omega) _).setCell (by simp only; omega) _).setCell (by simp only; omega) _).setCell (by simp only; omega) _)⟩
    case rest =>
      obtain ⟨h3, a2, cap, rfl, hRC⟩ := hcut
      clear hbx1 hbx2 hbel hszA y0 y1 y2 hS0
      have HLC := Lib.hid (fun (j : Nat) (x : JV) (hx : l[j]? = some x) => list_cell hL hx)
      have hll : l.length ≤ 1000000000000 := by simp only [sizeV] at hs; have := len_sizeL l; omega
      clear hV hK hL hkl
      go_wp2
      go_loopw [4] (fun vi wr => ∃ (i : Nat) (lp2 : Option Addr) (lc2 : Nat) (xs : List Value), vi = .int .i64 i ∧ i ≤ l.length ∧ (l.take i).length = i ∧ RC w (.cells #[.int .u8 (k : Nat), .string t, .slice ka ks.length kp, .slice la l.length lp] 26) h3 k t ks (.slice a2 ks.length cap) wr (l.take i) (.slice lp2 (l.take i).length lc2) xs) (fun vi _ => l.length - (intOf vi).toNat)
      case atStart => exact ⟨0, none, 0, [], rfl, Nat.zero_le _, rfl, hRC⟩
      case round =>
        clear hRC
        obtain ⟨i, lp2, lc2, xs, rfl, hi, hli, hRi⟩ := hrel
        obtain ⟨n0, n1, n2, n3⟩ := hRi.new.cells
        have y3 := Lib.cell_of_heap hRi.bx 3
        have hlo3 := hRi.lo
        have hnl3 := hRi.new.lt
        have hsz3 := hRi.bel.size
        by_cases hgo : i < l.length
        · obtain ⟨x, hx⟩ : ∃ x, l[i]? = some x := ⟨_, List.getElem?_eq_getElem hgo⟩
          have hti : l.take i ++ [x] = l.take (i + 1) := (take_snoc hx).symm
          have htl : (l.take (i + 1)).length = i + 1 := by rw [← hti, List.length_append, hli]; rfl
          obtain ⟨lb, lo, rfl, q0, q1, q2, q3, g0, g1, g2, g3, hVx⟩ := HLC.out i x hx
          have hsx : sizeV x ≤ N := by have := sizeV_in hx; simp only [sizeV] at hv; omega
          have hsx2 : sizeV x ≤ 1000000000000 := by have := sizeV_in hx; simp only [sizeV] at hs; omega
          have hkx2 : keysV x ≤ 1000000000000 := by have := keysV_in hx; simp only [keysV] at hk; omega
          have e0 := cell_on hRi.bel g0
          have e1 := cell_on hRi.bel g1
          have e2 := cell_on hRi.bel g2
          have e3 := cell_on hRi.bel g3
          have hS0 : Below wr.heap.size wr wr.drew := (Below.refl _ _).drew
          have hcall := ih x hsx _ _ _ _ wr.drew (IsV.stays (Below.stays (hRi.bel.trans (hS0.mono hsz3)) 0) (Nat.le_refl 0) _ _ _ _ _ hVx) hsx2 hkx2
          have hgo2 : (i : Int) < (l.length : Int) := by omega
          clear g0 g1 g2 g3 hVx hx hsx hsx2 hkx2
          generalize l.take i = m at *
          subst hli
          go_wp2
          refine wp_region_any (by kernel_rfl) ?_
          change wpAny _ _ _ _ 12 _ _ (World.drew _)
          refine HT.take_at (i := 0) (v := ?_) rfl rfl (by kernel_rfl) (by kernel_rfl) (by kernel_rfl) (fun _ _ _ h => h) (Or.inl ⟨by rfl, ?_⟩) ?_
          rotate_left
          · intro wq
            go_simp
            try with_reducible rfl
          simp only [Act.put, List.setIfInBounds_toArray, List.set_cons_zero, List.set_cons_succ]
          refine HT.take_at (i := 2) (v := ?_) rfl rfl (by kernel_rfl) (by kernel_rfl) (by kernel_rfl) (fun _ _ _ h => h) (Or.inl ⟨by rfl, ?_⟩) ?_
          rotate_left
          · intro wq
            go_simp
            try with_reducible rfl
          simp only [Act.put, List.setIfInBounds_toArray, List.set_cons_zero, List.set_cons_succ]
          refine HT.take_at (i := 4) (v := ?_) rfl rfl (by kernel_rfl) (by kernel_rfl) (by kernel_rfl) (fun _ _ _ h => h) (Or.inl ⟨by rfl, ?_⟩) ?_
          rotate_left
          · intro wq
            go_simp
            try with_reducible rfl
          simp only [Act.put, List.setIfInBounds_toArray, List.set_cons_zero, List.set_cons_succ]
          refine HT.wpAny_of_G (k := 9) (S := fun w' => Below wr.heap.size wr w') _ _ _ _ ?_
          refine HT.takeG_at (i := 1) (v := ?_) rfl rfl (by kernel_rfl) (by kernel_rfl) (by kernel_rfl) (by kernel_rfl) (by kernel_rfl) (by kernel_rfl) (fun _ _ _ h => h) hS0 (Or.inl ⟨by rfl, ?_⟩) ?_
          rotate_left
          · intro wq hwq
            have z0 := cell_on hwq n3
            go_simp
            try with_reducible rfl
          simp only [Act.put, List.setIfInBounds_toArray, List.set_cons_zero, List.set_cons_succ]
          refine HT.takeG_at (i := 3) (v := ?_) rfl rfl (by kernel_rfl) (by kernel_rfl) (by kernel_rfl) (by kernel_rfl) (by kernel_rfl) (by kernel_rfl) (fun _ _ _ h => h) hS0 (Or.inl ⟨by rfl, ?_⟩) ?_
          rotate_left
          · intro wq hwq
            have z0 := cell_on hwq y3
            go_simp
            try with_reducible rfl
          simp only [Act.put, List.setIfInBounds_toArray, List.set_cons_zero, List.set_cons_succ]
          refine HT.takeG_at (i := 5) (v := ?_) rfl rfl (by kernel_rfl) (by kernel_rfl) (by kernel_rfl) (by kernel_rfl) (by kernel_rfl) (by kernel_rfl) (fun _ _ _ h => h) hS0 (Or.inl ⟨by rfl, ?_⟩) ?_
          rotate_left
          · intro wq hwq
            go_simp
            try with_reducible rfl
          simp only [Act.put, List.setIfInBounds_toArray, List.set_cons_zero, List.set_cons_succ]
          refine HT.takeG_at (i := 6) (v := ?_) rfl rfl (by kernel_rfl) (by kernel_rfl) (by kernel_rfl) (by kernel_rfl) (by kernel_rfl) (by kernel_rfl) (fun _ _ _ h => h) hS0 (Or.inl ⟨by rfl, ?_⟩) ?_
          rotate_left
          · intro wq hwq
            have z0 := cell_on hwq e0
            have z1 := cell_on hwq e1
            have z2 := cell_on hwq e2
            have z3 := cell_on hwq e3
            go_simp
            try with_reducible rfl
          simp only [Act.put, List.setIfInBounds_toArray, List.set_cons_zero, List.set_cons_succ]
          refine HT.wpAnyG_one (i := 7) (by kernel_rfl) rfl (fun KK hKK => ?_)
          go_simp
          refine hcall.mono ?_
          rintro e w2 ⟨d0, d1, d2, d3, rfl, hV2, hb2⟩
          have hb2' : Below wr.heap.size wr w2 := hS0.trans hb2
          have hs2 := hb2'.size
          simp only
          refine hKK _ _ hb2' ?_
          clear hKK KK
          refine HT.wpAnyG_one (i := 8) (by kernel_rfl) rfl (fun KK hKK => ?_)
          go_simp
          refine hKK _ _ (hb2'.alloc hs2 _) ?_
          clear hKK KK
          obtain ⟨i0, hi0, hz0, hz1, hz2⟩ := info_parts infoValue
          obtain ⟨o0, o1, o2, o3⟩ := hV2.one
          have h23 : Below w2.heap.size w2 (w2.alloc (.cells #[d0, d1, d2, d3] 26)) := (Below.refl _ _).alloc (Nat.le_refl _) _
          have hN : (w2.alloc (.cells #[d0, d1, d2, d3] 26)).heap[w2.heap.size]? = some (.cells #[d0, d1, d2, d3] 26 (0, 0)) := heap_alloc_new w2 _
          have hs3 : (w2.alloc (.cells #[d0, d1, d2, d3] 26)).heap.size = w2.heap.size + 1 := by simp
          have ho3 : (w2.alloc (.cells #[d0, d1, d2, d3] 26)).ownsRow (w.heap.size + 2) 26 4 (.slice lp2 m.length lc2) m.length xs := (own_of_heap hRi.own (fun g hg => hb2'.block g (hRi.own.lt g hg).2)).alloc _
          generalize w2.alloc (.cells #[d0, d1, d2, d3] 26) = w3 at *
          refine HT.wpAnyG_turn (k := 9) (by kernel_rfl) rfl (fun KK hKK => ?_)
          refine step_append_lies w3 (by rfl) _ _ _ (by rfl) (w.heap.size + 2) 26 i0 _ 4 72 Tryz.underlying24 hi0 hz0 hz1 hz2 rfl (by omega) (.slice lp2 m.length lc2) m.length xs (by rfl) ho3
            ⟨w2.heap.size, 0, none⟩ 1 1 [d0, d1, d2, d3] (by rfl) (by rfl) (World.news_of_block hN) (by simp [o0, o1, o2, o3])
            (by omega) (by unfold maxLen; omega) (by omega) (by omega) w3.heap.size rfl ?_
          intro g cap2 w4 hown4 hgrow hat hglt
          refine hKK _ _ ?_
          clear hKK KK
          have hR := hRi.next hb2' hV2 h23 hgrow hat hown4
          have hR4 : RB w4 h3 (.int .u8 (k : Nat)) (.string t) (.slice a2 ks.length cap) (.slice lp2 m.length lc2) := ((hgrow.block h3 (by omega) (fun e => hRi.far e.symm)).trans ((h23.block h3 (by omega)).trans (hb2'.block h3 hRi.new.lt))).trans hRi.new
          obtain ⟨_, _, _, v3⟩ := hR4.cells
          obtain ⟨_, _, _, u3⟩ := hR4.frozen
          refine HT.take_at (i := 10) (v := ?_) rfl rfl (by kernel_rfl) (by kernel_rfl) (by kernel_rfl) (fun _ _ _ h => h) (Or.inl ⟨by rfl, ?_⟩) ?_
          rotate_left
          · intro wq
            go_simp
            try with_reducible rfl
          simp only [Act.put, List.setIfInBounds_toArray, List.set_cons_zero, List.set_cons_succ]
          refine HT.wpAny_one (i := 11) (by kernel_rfl) rfl (fun KK hKK => ?_)
          go_simp
          refine hKK _ _ ?_
          clear hKK KK
          refine wpAny_done (by kernel_rfl) ?_ _
          have hR2 : RC w (.cells #[.int .u8 (k : Nat), .string t, .slice ka ks.length kp, .slice (some ⟨lb, lo, none⟩) l.length lp] 26) h3 k t ks (.slice a2 ks.length cap) (w4.setCell ⟨h3, 3, none⟩ (.slice (some ⟨g, 0, none⟩) (m.length + 1) cap2)) (l.take (m.length + 1)) (.slice (some ⟨g, 0, none⟩) (l.take (m.length + 1)).length cap2) (xs ++ [d0, d1, d2, d3]) := by
            rw [← hti, List.length_append]
            exact hR
          go_wp2
          go_roundw
          case rel => exact ⟨m.length + 1, _, _, _, by go_num, hgo, htl, hR2⟩
          case measure => simp [intOf]; omega
        · have hge : ¬ ((i : Int) < (l.length : Int)) := by omega
          have hil : l.take i = l := List.take_of_length_le (by omega)
          rw [hil] at hRi
          obtain ⟨r0, r1, r2, r3⟩ := hRi.res.cells
          obtain ⟨f0, f1, f2, f3⟩ := hRi.res.frozen
          rw [hil] at n3
          go_wp2
          have hRB := hRi.res.set4 (.int .u8 (k : Nat)) (.string t) (.slice a2 ks.length cap) (.slice lp2 l.length lc2)
          have hV := hRi.done (w' := (((wr.setCell ⟨w.heap.size + 1, 0, none⟩ (.int .u8 (k : Nat))).setCell ⟨w.heap.size + 1, 1, none⟩ (.string t)).setCell ⟨w.heap.size + 1, 2, none⟩ (.slice a2 ks.length cap)).setCell ⟨w.heap.size + 1, 3, none⟩ (.slice lp2 l.length lc2)) (fun j hj => set4_heap wr _ _ _ _ _ _ _ _ _ j hj)
          have hB := (((hRi.bel.setCell (p := ⟨w.heap.size + 1, 0, none⟩) (by simp only; omega) (.int .u8 (k : Nat))).setCell (p := ⟨w.heap.size + 1, 1, none⟩) (by simp only; omega) (.string t)).setCell (p := ⟨w.heap.size + 1, 2, none⟩) (by simp only; omega) (.slice a2 ks.length cap)).setCell (p := ⟨w.heap.size + 1, 3, none⟩) (by simp only; omega) (.slice lp2 l.length lc2)
          clear hRi
          generalize (((wr.setCell ⟨w.heap.size + 1, 0, none⟩ (.int .u8 (k : Nat))).setCell ⟨w.heap.size + 1, 1, none⟩ (.string t)).setCell ⟨w.heap.size + 1, 2, none⟩ (.slice a2 ks.length cap)).setCell ⟨w.heap.size + 1, 3, none⟩ (.slice lp2 l.length lc2) = wE at *
          obtain ⟨f0, f1, f2, f3⟩ := hRB.cells
          refine bodyPost_ret (v := .agg #[.int .u8 (k : Nat), .string t, .slice a2 ks.length cap, .slice lp2 l.length lc2]) ?_ rfl ⟨_, _, _, _, rfl, hV, hB⟩
          simp [results, Tryz.results27, go_sem, f0, f1, f2, f3]
end Go.Proofs.YtakdhfjlhkejdaaGreatDoor
