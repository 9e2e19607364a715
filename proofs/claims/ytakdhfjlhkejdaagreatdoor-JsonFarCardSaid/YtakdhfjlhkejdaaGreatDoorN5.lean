/-
  TEXTS OF THE SEAT, put together: JsonArr3, JsonQuoted, JsonBetw, JsonValP, JsonKey, JsonObj1, JsonArr4.
-/
import Derived.Test.YtakdhfjlhkejdaaGreatDoorN3
import Derived.Test.YtakdhfjlhkejdaaGreatDoorN1
import Derived.Deep.LoopGhost
import Derived.Test.YtakdhfjlhkejdaaGreatDoorN4
import Derived.Deep.AppendLies
set_option linter.unusedSimpArgs false
set_option linter.unusedVariables false

/-
  CONTRACTS of package json's parser: the closure by which an array takes a value: its walk.
-/
set_option linter.unusedVariables false
namespace Go.Proofs.YtakdhfjlhkejdaaGreatDoor
open Go.RowKit

set_option maxRecDepth 10000000 in
set_option maxHeartbeats 8000000 in
theorem arrItem_any (w0 : World) (pb pbx vb rv : Nat) (s : ByteArray) (w : World) (l : List JV) (lp : Option Addr) (lc : Nat) (xs : List Value) (a v o : Nat) (h : ArrI w0 pb pbx vb rv s w l (.slice lp l.length lc) xs a v o) (r : Except Fail (JV × Nat × Nat))
    (hl1 : l.length + 1 ≤ maxLen) (hl2 : (l.length + 1) * 72 ≤ 140737488355328)
    (hval : ∀ w1, PS w1 pb s a v o → Calls Tryz.prog 62 #[.pointer (some ⟨pb, 0, none⟩)] w1 (ValEnd pb s o w1 r)) :
    Calls Tryz.prog 121 #[.pointer (some ⟨vb, 0, none⟩), .pointer (some ⟨pbx, 0, none⟩)] w (ItemEnd w0 pb pbx vb rv s w l v o r) := by
  obtain ⟨r0, r1, r2, r3⟩ := h.rb.cells
  obtain ⟨z0, z1, z2, z3⟩ := h.rb.frozen
  have hx0 : w.cell? ⟨pbx, 0, none⟩ = some (.pointer (some ⟨pb, 0, none⟩)) := by rw [Lib.cell_of_heap h.box]; rfl
  have Hval := Lib.hid hval
  clear hval
  go_enter Tryz.func121, Tryz.ntmps121
  go_wp2_with fail
  refine wp_region_any (by kernel_rfl) ?_
  change wpAny _ _ _ _ 11 _ _ (World.drew _)
  refine wpAny_of_G (k := 6) (S := fun w' => w'.cell? ⟨vb, 3, none⟩ = some (.slice lp l.length lc) ∧ w'.cell? ⟨pbx, 0, none⟩ = some (.pointer (some ⟨pb, 0, none⟩))) _ _ _ _ ?_
  have hS0 : w.drew.cell? ⟨vb, 3, none⟩ = some (.slice lp l.length lc) ∧ w.drew.cell? ⟨pbx, 0, none⟩ = some (.pointer (some ⟨pb, 0, none⟩)) := ⟨r3, hx0⟩
  refine wpAnyG_take (i := 0) (v := ?_) rfl (by kernel_rfl) (by kernel_rfl) (by kernel_rfl) (by kernel_rfl) (by kernel_rfl) (fun _ _ _ h => h) hS0 (Or.inl ⟨by rfl, ?_⟩) ?_
  rotate_left
  · intro w1 hw1
    obtain ⟨hw1a, hw1b⟩ := hw1
    go_simp
    try with_reducible rfl
  simp only [Act.put, List.setIfInBounds_toArray, List.set_cons_zero, List.set_cons_succ]
  refine wpAnyG_take (i := 1) (v := ?_) rfl (by kernel_rfl) (by kernel_rfl) (by kernel_rfl) (by kernel_rfl) (by kernel_rfl) (fun _ _ _ h => h) hS0 (Or.inl ⟨by rfl, ?_⟩) ?_
  rotate_left
  · intro w1 hw1
    obtain ⟨hw1a, hw1b⟩ := hw1
    go_simp
    try with_reducible rfl
  simp only [Act.put, List.setIfInBounds_toArray, List.set_cons_zero, List.set_cons_succ]
  refine wpAnyG_take (i := 2) (v := ?_) rfl (by kernel_rfl) (by kernel_rfl) (by kernel_rfl) (by kernel_rfl) (by kernel_rfl) (fun _ _ _ h => h) hS0 (Or.inl ⟨by rfl, ?_⟩) ?_
  rotate_left
  · intro w1 hw1
    obtain ⟨hw1a, hw1b⟩ := hw1
    go_simp
    try with_reducible rfl
  simp only [Act.put, List.setIfInBounds_toArray, List.set_cons_zero, List.set_cons_succ]
  refine wpAnyG_take (i := 4) (v := ?_) rfl (by kernel_rfl) (by kernel_rfl) (by kernel_rfl) (by kernel_rfl) (by kernel_rfl) (fun _ _ _ h => h) hS0 (Or.inl ⟨by rfl, ?_⟩) ?_
  rotate_left
  · intro w1 hw1
    obtain ⟨hw1a, hw1b⟩ := hw1
    go_simp
    try with_reducible rfl
  simp only [Act.put, List.setIfInBounds_toArray, List.set_cons_zero, List.set_cons_succ]
  refine wpAnyG_two (i := 3) (j := 5) (by kernel_rfl) rfl rfl (fun K hK => ?_) (fun K hK => ?_)
  · go_simp
    have hc : Below w.heap.size w w.drew := (Below.refl _ w).drew
    refine (Hval.out _ (h.ps.below hc)).mono ?_
    rintro e w1 ⟨hg1, hr⟩
    cases r with
    | error f =>
      obtain ⟨i, k⟩ := f
      simp only at hr
      subst hr
      unfold Pan
      exact ⟨rfl, h.gb.trans ((Below.gb hc pb).trans hg1), rfl⟩
    | ok t =>
      obtain ⟨x, j, v'⟩ := t
      obtain ⟨c0, c1, c2, c3, he, hV, hp1⟩ := hr
      subst he
      have hV0 := hV
      obtain ⟨k0, t0, ka, kl, kc, la, ll, lc', rfl, rfl, rfl, rfl⟩ := hV.shape
      have hrb1 : RB w1 vb (.int .u8 6) (.string ⟨#[]⟩) (.slice none 0 0) (.slice lp l.length lc) := RB.gb (w := w.drew) h.rb hg1 (by have := h.lo; omega)
      have hS1 : w1.cell? ⟨vb, 3, none⟩ = some (.slice lp l.length lc) ∧ w1.cell? ⟨pbx, 0, none⟩ = some (.pointer (some ⟨pb, 0, none⟩)) := ⟨hg1.cell hS0.1 (by have := h.lo; simp; omega), hg1.cell hS0.2 (by have := h.lo; simp; omega)⟩
      simp only
      refine hK _ _ hS1 ?_
      clear hK K
      refine wpAnyG_one (i := 5) (by kernel_rfl) rfl (fun K hK => ?_)
      go_simp
      have hS2 : (w1.alloc (Obj.cells #[Value.int IntKind.u8 0, Value.string { data := #[] }, Value.slice none 0 0, Value.slice none 0 0] 26)).cell? ⟨vb, 3, none⟩ = some (.slice lp l.length lc) ∧ (w1.alloc (Obj.cells #[Value.int IntKind.u8 0, Value.string { data := #[] }, Value.slice none 0 0, Value.slice none 0 0] 26)).cell? ⟨pbx, 0, none⟩ = some (.pointer (some ⟨pb, 0, none⟩)) := ⟨(World.cell?_alloc_lt _ _ _ (cell_lt hS1.1)).trans hS1.1, (World.cell?_alloc_lt _ _ _ (cell_lt hS1.2)).trans hS1.2⟩
      refine hK _ _ hS2 ?_
      clear hK K
      have hown2 := ((h.own.kept (Below.gb hc pb) h.ne).kept hg1 h.ne).alloc (Obj.cells #[Value.int IntKind.u8 0, Value.string { data := #[] }, Value.slice none 0 0, Value.slice none 0 0] 26)
      have hB2 := heap_alloc_new w1 (Obj.cells #[Value.int IntKind.u8 0, Value.string { data := #[] }, Value.slice none 0 0, Value.slice none 0 0] 26)
      have h2 : Below w1.heap.size w1 (w1.alloc (Obj.cells #[Value.int IntKind.u8 0, Value.string { data := #[] }, Value.slice none 0 0, Value.slice none 0 0] 26)) := (Below.refl _ w1).alloc (Nat.le_refl _) _
      have hrb2 := hrb1.alloc (Obj.cells #[Value.int IntKind.u8 0, Value.string { data := #[] }, Value.slice none 0 0, Value.slice none 0 0] 26)
      generalize w1.alloc (Obj.cells #[Value.int IntKind.u8 0, Value.string { data := #[] }, Value.slice none 0 0, Value.slice none 0 0] 26) = w2 at *
      generalize w1.heap.size = nb at hB2 ⊢
      have hvl2 : vb < w2.heap.size := hrb2.lt
      obtain ⟨i0, hi0, hz0, hz1, hz2⟩ := info_parts infoValue
      have hbb : w0.heap.size ≤ w2.heap.size := by have := h.gb.size; have := hc.size; have := hg1.size; have := h2.size; omega
      refine wpAnyG_turn (k := 6) (by kernel_rfl) rfl (fun K hK => ?_)
      refine step_append_lies _ (by rfl) _ _ _ (by rfl) w0.heap.size 26 i0 _ 4 72 Tryz.underlying24 hi0 hz0 hz1 hz2 rfl (by omega) (.slice lp l.length lc) l.length xs (by rfl) hown2
        ⟨nb, 0, none⟩ 1 1 [.int .u8 0, .string ⟨#[]⟩, .slice none 0 0, .slice none 0 0] (by rfl) (by rfl) (World.news_of_block hB2) (by simp [Value.oneCell'])
        (by omega) hl1 hl2 hbb w2.heap.size rfl ?_
      intro g cap w3 hown3 hgrow hat hglt
      refine hK _ _ ?_
      clear hK K
      obtain ⟨q0, q1, q2, q3⟩ := own_cells4 h.own.1 hown3
      have u0 := hown3.frozenAt (l.length * 4)
      have u1 := hown3.frozenAt (l.length * 4 + 1)
      have u2 := hown3.frozenAt (l.length * 4 + 2)
      have u3 := hown3.frozenAt (l.length * 4 + 3)
      have hne2 : some vb ≠ (Value.slice lp l.length lc).ownBlock := fun e => h.far.1 e.symm
      have hrb3 : RB w3 vb (.int .u8 6) (.string ⟨#[]⟩) (.slice none 0 0) (.slice lp l.length lc) := (hgrow.block vb hvl2 hne2).trans hrb2
      obtain ⟨_, _, _, e3⟩ := hrb3.cells
      obtain ⟨_, _, _, y3⟩ := hrb3.frozen
      have hgv : g ≠ vb := by
        rcases hat with e | e
        · intro e2; subst e2; exact h.far.1 e
        · omega
      have hvg : vb ≠ g := Ne.symm hgv
      have n0 : (0 : Int) ≤ (l.length : Int) := Int.natCast_nonneg _
      have n1 : (l.length : Int) < (l.length : Int) + 1 := by omega
      refine wpAny_take (i := 9) (v := ?_) rfl (by kernel_rfl) (by kernel_rfl) (by kernel_rfl) (fun _ _ _ h => h) (Or.inl ⟨by rfl, ?_⟩) ?_
      rotate_left
      · intro w1 
        go_simp
        try with_reducible rfl
      simp only [Act.put, List.setIfInBounds_toArray, List.set_cons_zero, List.set_cons_succ]
      refine wpAny_take (i := 7) (v := ?_) rfl (by kernel_rfl) (by kernel_rfl) (by kernel_rfl) (fun _ _ _ h => h) (Or.inl ⟨by rfl, ?_⟩) ?_
      rotate_left
      · intro w1 
        go_simp
        try with_reducible rfl
      simp only [Act.put, List.setIfInBounds_toArray, List.set_cons_zero, List.set_cons_succ]
      refine wpAny_two (i := 8) (j := 10) (by kernel_rfl) rfl rfl (fun K hK => ?_) (fun K hK => ?_)
      · go_simp
        refine hK _ _ ?_
        clear hK K
        refine wpAny_one (i := 10) (by kernel_rfl) rfl (fun K hK => ?_)
        go_simp
        refine hK _ _ ?_
        clear hK K
        refine wpAny_done (by kernel_rfl) ?_ _
        have hE := arr_end h hc hg1 hV0 hp1 h2 hgrow hat (own_eq (own_set4 h.own.1 hown3 _ _ _ _) (Below.heap_setCell _ _ _ _ hgv)) (RB.set3 ((set4_heap w3 g _ _ _ _ _ _ _ _ vb hvg).trans hrb3) (.slice (some ⟨g, 0, none⟩) (l.length + 1) cap)) (fun k h1 h3 => (Below.heap_setCell _ _ _ _ h3).trans (set4_heap w3 g _ _ _ _ _ _ _ _ k h1)) (by simp only [set_size]) ⟨rfl, rfl, rfl⟩
        generalize World.setCell _ _ _ = w4 at *
        go_end0
        exact ⟨hE.1, rfl, hE.2⟩
      · go_simp
        refine hK _ _ ?_
        clear hK K
        refine wpAny_one (i := 8) (by kernel_rfl) rfl (fun K hK => ?_)
        go_simp
        refine hK _ _ ?_
        clear hK K
        refine wpAny_done (by kernel_rfl) ?_ _
        have hE := arr_end h hc hg1 hV0 hp1 h2 hgrow hat (own_set4 h.own.1 (own_eq hown3 (Below.heap_setCell _ _ _ _ hgv)) _ _ _ _) ((set4_heap _ g _ _ _ _ _ _ _ _ vb hvg).trans (hrb3.set3 (.slice (some ⟨g, 0, none⟩) (l.length + 1) cap))) (fun k h1 h3 => (set4_heap _ g _ _ _ _ _ _ _ _ k h1).trans (Below.heap_setCell _ _ _ _ h3)) (by simp only [set_size]) ⟨rfl, rfl, rfl⟩
        generalize World.setCell _ _ _ = w4 at *
        go_end0
        exact ⟨hE.1, rfl, hE.2⟩
  · go_simp
    have hc : Below w.heap.size w (w.alloc (Obj.cells #[Value.int IntKind.u8 0, Value.string { data := #[] }, Value.slice none 0 0, Value.slice none 0 0] 26)).drew := ((Below.refl _ w).alloc (Nat.le_refl _) _).drew
    have hSa : (w.alloc (Obj.cells #[Value.int IntKind.u8 0, Value.string { data := #[] }, Value.slice none 0 0, Value.slice none 0 0] 26)).drew.cell? ⟨vb, 3, none⟩ = some (.slice lp l.length lc) ∧ (w.alloc (Obj.cells #[Value.int IntKind.u8 0, Value.string { data := #[] }, Value.slice none 0 0, Value.slice none 0 0] 26)).drew.cell? ⟨pbx, 0, none⟩ = some (.pointer (some ⟨pb, 0, none⟩)) := ⟨(World.cell?_alloc_lt _ _ _ (cell_lt r3)).trans r3, (World.cell?_alloc_lt _ _ _ (cell_lt hx0)).trans hx0⟩
    refine hK _ _ hSa ?_
    clear hK K
    have hown1 := h.own.kept (Below.gb hc pb) h.ne
    have hrb0 : RB (w.alloc (Obj.cells #[Value.int IntKind.u8 0, Value.string { data := #[] }, Value.slice none 0 0, Value.slice none 0 0] 26)).drew vb (.int .u8 6) (.string ⟨#[]⟩) (.slice none 0 0) (.slice lp l.length lc) := h.rb.below hc
    have hBa : (w.alloc (Obj.cells #[Value.int IntKind.u8 0, Value.string { data := #[] }, Value.slice none 0 0, Value.slice none 0 0] 26)).drew.heap[w.heap.size]? = some (Obj.cells #[Value.int IntKind.u8 0, Value.string { data := #[] }, Value.slice none 0 0, Value.slice none 0 0] 26) := heap_alloc_new w (Obj.cells #[Value.int IntKind.u8 0, Value.string { data := #[] }, Value.slice none 0 0, Value.slice none 0 0] 26)
    have hnl : w.heap.size < (w.alloc (Obj.cells #[Value.int IntKind.u8 0, Value.string { data := #[] }, Value.slice none 0 0, Value.slice none 0 0] 26)).drew.heap.size := (Array.getElem?_eq_some_iff.1 hBa).1
    generalize (w.alloc (Obj.cells #[Value.int IntKind.u8 0, Value.string { data := #[] }, Value.slice none 0 0, Value.slice none 0 0] 26)).drew = wc at *
    refine wpAnyG_one (i := 3) (by kernel_rfl) rfl (fun K hK => ?_)
    go_simp
    refine (Hval.out _ (h.ps.below hc)).mono ?_
    rintro e w1 ⟨hg1, hr⟩
    cases r with
    | error f =>
      obtain ⟨i, k⟩ := f
      simp only at hr
      subst hr
      unfold Pan
      exact ⟨rfl, h.gb.trans ((Below.gb hc pb).trans hg1), rfl⟩
    | ok t =>
      obtain ⟨x, j, v'⟩ := t
      obtain ⟨c0, c1, c2, c3, he, hV, hp1⟩ := hr
      subst he
      have hV0 := hV
      obtain ⟨k0, t0, ka, kl, kc, la, ll, lc', rfl, rfl, rfl, rfl⟩ := hV.shape
      have hrb2 : RB w1 vb (.int .u8 6) (.string ⟨#[]⟩) (.slice none 0 0) (.slice lp l.length lc) := hrb0.gb hg1 (by have := h.lo; omega)
      have hS1 : w1.cell? ⟨vb, 3, none⟩ = some (.slice lp l.length lc) ∧ w1.cell? ⟨pbx, 0, none⟩ = some (.pointer (some ⟨pb, 0, none⟩)) := ⟨hg1.cell hSa.1 (by have := h.lo; simp; omega), hg1.cell hSa.2 (by have := h.lo; simp; omega)⟩
      simp only
      refine hK _ _ hS1 ?_
      clear hK K
      have hown2 := hown1.kept hg1 h.ne
      have hB2 : w1.heap[w.heap.size]? = some (Obj.cells #[Value.int IntKind.u8 0, Value.string { data := #[] }, Value.slice none 0 0, Value.slice none 0 0] 26) := (hg1.block _ hnl (fun e => by injection e with e; have := h.lo; have := h.rb.lt; omega)).trans hBa
      have h2 : Below w1.heap.size w1 w1 := Below.refl _ w1
      generalize hw2 : w1 = w2 at hown2 hB2 hrb2 ⊢
      rw [hw2] at h2
      subst hw2
      generalize w.heap.size = nb at hB2 ⊢
      have hvl2 : vb < w1.heap.size := hrb2.lt
      obtain ⟨i0, hi0, hz0, hz1, hz2⟩ := info_parts infoValue
      have hbb : w0.heap.size ≤ w1.heap.size := by have := h.gb.size; have := hc.size; have := hg1.size; have := h2.size; omega
      refine wpAnyG_turn (k := 6) (by kernel_rfl) rfl (fun K hK => ?_)
      refine step_append_lies _ (by rfl) _ _ _ (by rfl) w0.heap.size 26 i0 _ 4 72 Tryz.underlying24 hi0 hz0 hz1 hz2 rfl (by omega) (.slice lp l.length lc) l.length xs (by rfl) hown2
        ⟨nb, 0, none⟩ 1 1 [.int .u8 0, .string ⟨#[]⟩, .slice none 0 0, .slice none 0 0] (by rfl) (by rfl) (World.news_of_block hB2) (by simp [Value.oneCell'])
        (by omega) hl1 hl2 hbb w1.heap.size rfl ?_
      intro g cap w3 hown3 hgrow hat hglt
      refine hK _ _ ?_
      clear hK K
      obtain ⟨q0, q1, q2, q3⟩ := own_cells4 h.own.1 hown3
      have u0 := hown3.frozenAt (l.length * 4)
      have u1 := hown3.frozenAt (l.length * 4 + 1)
      have u2 := hown3.frozenAt (l.length * 4 + 2)
      have u3 := hown3.frozenAt (l.length * 4 + 3)
      have hne2 : some vb ≠ (Value.slice lp l.length lc).ownBlock := fun e => h.far.1 e.symm
      have hrb3 : RB w3 vb (.int .u8 6) (.string ⟨#[]⟩) (.slice none 0 0) (.slice lp l.length lc) := (hgrow.block vb hvl2 hne2).trans hrb2
      obtain ⟨_, _, _, e3⟩ := hrb3.cells
      obtain ⟨_, _, _, y3⟩ := hrb3.frozen
      have hgv : g ≠ vb := by
        rcases hat with e | e
        · intro e2; subst e2; exact h.far.1 e
        · omega
      have hvg : vb ≠ g := Ne.symm hgv
      have n0 : (0 : Int) ≤ (l.length : Int) := Int.natCast_nonneg _
      have n1 : (l.length : Int) < (l.length : Int) + 1 := by omega
      refine wpAny_take (i := 9) (v := ?_) rfl (by kernel_rfl) (by kernel_rfl) (by kernel_rfl) (fun _ _ _ h => h) (Or.inl ⟨by rfl, ?_⟩) ?_
      rotate_left
      · intro w1 
        go_simp
        try with_reducible rfl
      simp only [Act.put, List.setIfInBounds_toArray, List.set_cons_zero, List.set_cons_succ]
      refine wpAny_take (i := 7) (v := ?_) rfl (by kernel_rfl) (by kernel_rfl) (by kernel_rfl) (fun _ _ _ h => h) (Or.inl ⟨by rfl, ?_⟩) ?_
      rotate_left
      · intro w1 
        go_simp
        try with_reducible rfl
      simp only [Act.put, List.setIfInBounds_toArray, List.set_cons_zero, List.set_cons_succ]
      refine wpAny_two (i := 8) (j := 10) (by kernel_rfl) rfl rfl (fun K hK => ?_) (fun K hK => ?_)
      · go_simp
        refine hK _ _ ?_
        clear hK K
        refine wpAny_one (i := 10) (by kernel_rfl) rfl (fun K hK => ?_)
        go_simp
        refine hK _ _ ?_
        clear hK K
        refine wpAny_done (by kernel_rfl) ?_ _
        have hE := arr_end h hc hg1 hV0 hp1 h2 hgrow hat (own_eq (own_set4 h.own.1 hown3 _ _ _ _) (Below.heap_setCell _ _ _ _ hgv)) (RB.set3 ((set4_heap w3 g _ _ _ _ _ _ _ _ vb hvg).trans hrb3) (.slice (some ⟨g, 0, none⟩) (l.length + 1) cap)) (fun k h1 h3 => (Below.heap_setCell _ _ _ _ h3).trans (set4_heap w3 g _ _ _ _ _ _ _ _ k h1)) (by simp only [set_size]) ⟨rfl, rfl, rfl⟩
        generalize World.setCell _ _ _ = w4 at *
        go_end0
        exact ⟨hE.1, rfl, hE.2⟩
      · go_simp
        refine hK _ _ ?_
        clear hK K
        refine wpAny_one (i := 8) (by kernel_rfl) rfl (fun K hK => ?_)
        go_simp
        refine hK _ _ ?_
        clear hK K
        refine wpAny_done (by kernel_rfl) ?_ _
        have hE := arr_end h hc hg1 hV0 hp1 h2 hgrow hat (own_set4 h.own.1 (own_eq hown3 (Below.heap_setCell _ _ _ _ hgv)) _ _ _ _) ((set4_heap _ g _ _ _ _ _ _ _ _ vb hvg).trans (hrb3.set3 (.slice (some ⟨g, 0, none⟩) (l.length + 1) cap))) (fun k h1 h3 => (set4_heap _ g _ _ _ _ _ _ _ _ k h1).trans (Below.heap_setCell _ _ _ _ h3)) (by simp only [set_size]) ⟨rfl, rfl, rfl⟩
        generalize World.setCell _ _ _ = w4 at *
        go_end0
        exact ⟨hE.1, rfl, hE.2⟩
end Go.Proofs.YtakdhfjlhkejdaaGreatDoor

/-
  CONTRACTS of package json's parser: quoted.
-/
set_option linter.unusedVariables false
namespace Go.Proofs.YtakdhfjlhkejdaaGreatDoor
open Go.RowKit

/-! ### Plainly -/
theorem byL_end {s : List UInt8} {i : Nat} (h : s.length ≤ i) : byL s i = none := by
  unfold byL
  rw [List.drop_eq_nil_of_le h]
  rfl
theorem byL_at (s : ByteArray) (i : Nat) (h : i < s.size) : byL s.data.toList i = some (s[i]'h) := by
  unfold byL
  rw [List.drop_eq_getElem_cons (by rw [← Lib.size_eq]; exact h)]
  rfl
theorem unitL_len {l : List UInt8} {r : Int} (h : unitL l = some r) : 6 ≤ l.length := by
  have := unit_size (s := ⟨l.toArray⟩) (r := r) h
  exact this
theorem esc_len {l b : List UInt8} {n : Nat} (h : escL l = some (b, n)) : 2 ≤ n ∧ n ≤ l.length ∧ b.length ≤ n := by
  rcases l with _ | ⟨d, _ | ⟨c, u⟩⟩
  · cases h
  · cases h
  · have hb : ∀ r : Int, (bytesS r).data.toList.length ≤ 4 := by
      intro r
      cases hp : pointB r
      · rw [bytes_no hp]
        decide
      · rw [bytesS, if_pos hp]
        have hv : validRune r = true := hp
        have h0 : 0 ≤ r := by
          unfold validRune at hv
          simp at hv
          omega
        obtain ⟨m, rfl⟩ := Int.eq_ofNat_of_zero_le h0
        have := (enc_pos m hv).2
        rw [encL] at this
        exact this
    simp only [escL] at h
    repeat' split at h
    all_goals first
      | (injection h with h; injection h with h1 h2; subst h1 h2; simp only [List.length_cons, List.length_nil]; omega)
      | (cases h; done)
      | skip
    · have h6 := unitL_len (by assumption)
      injection h with h
      injection h with h1 h2
      subst h1 h2
      have := hb
      refine ⟨by omega, h6, Nat.le_trans (hb _) (by omega)⟩
    · have h6 := unitL_len (l := d :: c :: u) (by assumption)
      rename_i hpair
      have h12 : 6 ≤ ((d :: c :: u).drop 6).length := by
        cases hu : unitL ((d :: c :: u).drop 6) with
        | none =>
          have hz : ∀ x : Int, pairB x 0 = false := by
            intro x
            unfold pairB
            rw [show lowB 0 = false from rfl, Bool.and_false]
          rw [hu] at hpair
          simp only [Option.getD_none] at hpair
          rw [hz] at hpair
          cases hpair
        | some y => exact unitL_len hu
      rw [List.length_drop] at h12
      injection h with h
      injection h with h1 h2
      subst h1 h2
      refine ⟨by omega, by omega, Nat.le_trans (hb _) (by omega)⟩
theorem escO_from (s : ByteArray) (a : Nat) : escO (s.extract a s.size) = escL (s.data.toList.drop a) := by
  unfold escO
  rw [from_data]

/-! ### Builders beside the parser's block -/
theorem bld_gb {B b pb : Nat} {bs : List Value} {w w' : World} (h : BldF B b bs w) (hg : GB pb w w') (hpb : pb < B) : BldF B b bs w' := by
  have one : ∀ p, Lib.BuilderAtF 70 5 B b p bs w → Lib.BuilderAtF 70 5 B b p bs w' := by
    rintro p ⟨hB, v, hbk, hown, hne⟩
    have hlt : b < w.heap.size := (Array.getElem?_eq_some_iff.1 hbk).1
    refine ⟨hB, v, (hg.block b hlt (fun e => by injection e with e; omega)).trans hbk, hown.kept hg ?_, hne⟩
    cases hv : v.ownBlock with
    | none => exact .inl rfl
    | some g =>
      right
      have := (hown.lt g hv).1
      intro e
      injection e with e
      omega
  exact h.elim (fun x => .inl (one _ x)) (fun x => .inr (one _ x))
theorem GB.belowB {pb : Nat} {a w w' : World} (h : GB pb a w) (hb : Below a.heap.size w w') : GB pb a w' :=
  ⟨hb.os.trans h.os, hb.tape.trans h.tape, hb.output.trans h.output, Nat.le_trans h.size hb.size, fun k hk hne => (hb.block k hk).trans (h.block k hk hne)⟩
theorem PS.belowB {w w' : World} {B pb : Nat} {s : ByteArray} {a v o : Nat} (h : PS w pb s a v o) (hb : Below B w w') (hlt : pb < B) : PS w' pb s a v o := (hb.block pb hlt).trans h

/-- how the quoted text goes on -/
theorem quot_go (n : Nat) (s : ByteArray) (i : Nat) (acc : List UInt8) : quotP (n + 1) s.data.toList i acc =
    match byL s.data.toList (i + spanL pPlain (s.data.toList.drop i)) with
    | none => .error (i + spanL pPlain (s.data.toList.drop i), 21)
    | some c =>
      if c = 34 then .ok (acc ++ (s.data.toList.drop i).take (spanL pPlain (s.data.toList.drop i)), i + spanL pPlain (s.data.toList.drop i) + 1)
      else if c = 92 then match escL (s.data.toList.drop (i + spanL pPlain (s.data.toList.drop i))) with
        | none => .error (i + spanL pPlain (s.data.toList.drop i), 23)
        | some (b, k) => quotP n s.data.toList (i + spanL pPlain (s.data.toList.drop i) + k) (acc ++ (s.data.toList.drop i).take (spanL pPlain (s.data.toList.drop i)) ++ b)
      else .error (i + spanL pPlain (s.data.toList.drop i), 20) := rfl
def QuotEnd (pb : Nat) (s : ByteArray) (v o : Nat) (w : World) (r : Except Fail (List UInt8 × Nat)) (e : Ending) (w' : World) : Prop :=
  GB pb w w' ∧ match r with
  | .ok (t, j) => e = .returned (.string ⟨t.toArray⟩) ∧ PS w' pb s j v o
  | .error (i, k) => e = Pan i k
set_option maxRecDepth 10000000 in
set_option maxHeartbeats 8000000 in
theorem quoted_any (pb : Nat) (s : ByteArray) (a v o : Nat) (w : World) (hs : s.size ≤ 1000000000) (hp : PS w pb s a v o) (ha : a < s.size) :
    Calls Tryz.prog 98 #[.pointer (some ⟨pb, 0, none⟩)] w (QuotEnd pb s v o w (quotP (s.size + 1) s.data.toList (a + 1) [])) := by
  have hs' : s.size ≤ maxLen := by unfold maxLen; omega
  have hlt := hp.lt
  obtain ⟨c0, c1, c2, c3⟩ := hp.cells
  have f1 := hp.frozen 1
  have hI0 := Lib.IsBuilderF.of (Lib.fresh_isBuilder 70 5 w)
  go_enter Tryz.func98, Tryz.ntmps98
  go_wp2_with fail
  have hpz : PS (w.setCell ⟨pb, 1, none⟩ (.int .i64 ((a : Int) + 1))) pb s (a + 1) v o := hp.set 1 (.int .i64 ((a : Int) + 1))
  have hp0 : PS ((w.setCell ⟨pb, 1, none⟩ (.int .i64 ((a : Int) + 1))).alloc (.cells #[.pointer none, .slice none 0 0] 70)) pb s (a + 1) v o := hpz.alloc _
  have hI0 : BldF w.heap.size w.heap.size (Lib.byteCells []) ((w.setCell ⟨pb, 1, none⟩ (.int .i64 ((a : Int) + 1))).alloc (.cells #[.pointer none, .slice none 0 0] 70)) := by
    have := Lib.IsBuilderF.of (Lib.fresh_isBuilder 70 5 (w.setCell ⟨pb, 1, none⟩ (.int .i64 ((a : Int) + 1))))
    have e : (w.setCell ⟨pb, 1, none⟩ (.int .i64 ((a : Int) + 1))).heap.size = w.heap.size := by simp [World.setCell]
    rw [e] at this
    exact this
  have hG0 : GB pb w ((w.setCell ⟨pb, 1, none⟩ (.int .i64 ((a : Int) + 1))).alloc (.cells #[.pointer none, .slice none 0 0] 70)) := ((GB.refl pb w).set 1 _).alloc _
  go_loopg [] (s.size + 1) (fun k wr => ∃ (i : Nat) (acc : List UInt8), i ≤ s.size ∧ acc.length ≤ i ∧ s.size + 1 ≤ i + k ∧ quotP k s.data.toList i acc = quotP (s.size + 1) s.data.toList (a + 1) [] ∧ PS wr pb s i v o ∧ BldF w.heap.size w.heap.size (Lib.byteCells acc) wr ∧ GB pb w wr)
  case atStart => exact ⟨a + 1, [], ha, by simp, by omega, rfl, hp0, hI0, hG0⟩
  case round =>
    obtain ⟨i, acc, hi, hal, hk, hquo, hPS, hI, hG⟩ := hrel
    obtain ⟨n, rfl⟩ : ∃ n, gk = n + 1 := ⟨gk - 1, by omega⟩
    have hsp := spanL_le pPlain (s.data.toList.drop i)
    rw [List.length_drop, ← Lib.size_eq] at hsp
    rw [quot_go] at hquo
    have htake := fun w hp => take_plain pb s i v o w hs' hp hi
    have hpd := piece_data s i (spanL pPlain (s.data.toList.drop i))
    have hpe : (s.extract i (i + spanL pPlain (s.data.toList.drop i))) = pieceS s i (spanL pPlain (s.data.toList.drop i)) := rfl
    generalize spanL pPlain (s.data.toList.drop i) = m at *
    have hpl : (pieceS s i m).size ≤ m := by
      rw [Lib.size_eq, hpd, List.length_take]
      omega
    have hjb : i + m ≤ s.size := by omega
    have him : i ≤ i + m ∧ m ≤ i + m - i := by omega
    have hnk : n + 1 + i + m = n + 1 + (i + m) := by omega
    generalize hj : i + m = j at *
    have Hj := Lib.hid hj
    have Hpe := Lib.hid hpe
    have Hnk := Lib.hid hnk
    clear hj hnk
    have Htk := Lib.hid htake
    have Hpd := Lib.hid hpd
    have Hquo := Lib.hid hquo
    clear htake hpd hquo hpe
    go_wp2_with fail
    refine (Htk.out _ hPS).mono ?_
    rintro e w1 ⟨rfl, hp1, hg1⟩
    have hI1 := bld_gb hI hg1 hlt
    have hG1 := hG.trans hg1
    have hsz1 := hG1.size
    rw [Hpe.out]
    go_wp2_with fail
    refine (bldStr w.heap.size w.heap.size _ _ _ hI1 (by rw [Lib.byteCells_length]; omega) hsz1).mono ?_
    rintro e w2 ⟨rfl, hI2, hb2, hk2⟩
    have hp2 := hp1.belowB hb2 hlt
    have hG2 := hG1.belowB hb2
    rw [show Lib.byteCells acc ++ Lib.strCells (pieceS s i m) = Lib.byteCells (acc ++ (s.data.toList.drop i).take m) by rw [Lib.byteCells_append, Lib.strCells_eq, Hpd.out]] at hI2
    obtain ⟨c0, c1, c2, c3⟩ := hp2.cells
    have f1 := hp2.frozen 1
    go_wp2_with fail
    have hGd : GB pb w w2.drew := hG2.drew
    have hPd : PS w2.drew pb s (j) v o := hp2
    have hId : BldF w.heap.size w.heap.size (Lib.byteCells (acc ++ (s.data.toList.drop i).take m)) w2.drew := hI2
    have hj0 : (0 : Int) ≤ (j : Nat) := by omega
    by_cases hend : j = s.size
    · have te : (((j : Nat) : Int) == (s.size : Nat)) = true := by rw [hend]; simp
      have Hr := Lib.hid Hquo.out
      rw [byL_end (by rw [← Lib.size_eq]; omega)] at Hr
      clear hend
      go_region
      go_wp2_with fail
      refine (fault_any pb s (j) v o 21 w2.drew hPd).mono ?_
      rintro e w3 ⟨rfl, hb3⟩
      go_wp2_with fail
      refine ⟨rfl, hGd.belowB (hb3.mono hGd.size), ?_⟩
      rw [← Hr.out]
      rfl
    · have hlt2 : j < s.size := by omega
      have hlt3 : ((j : Nat) : Int) < (s.size : Nat) := by omega
      have te : (((j : Nat) : Int) == (s.size : Nat)) = false := by rw [beq_eq_false_iff_ne]; omega
      have Hr := Lib.hid Hquo.out
      rw [byL_at s (j) hlt2] at Hr
      by_cases c34 : (s[j]'hlt2) = 34
      · obtain ⟨b1, b2⟩ := byte_is (k := 34) c34 rfl
        simp only [c34, if_true] at Hr
        go_region
        go_wp2_with fail
        go_region
        obtain ⟨x0, x1, x2, x3⟩ := hPd.cells
        go_wp2_with fail
        refine (Tryz.Builder_String_any_k w.heap.size w.heap.size _ _ (bld_gb hId ((((GB.refl pb w2.drew).drew).set 1 (.int .i64 (j + 1 : Nat)))) hlt) (by simp [World.setCell]; exact hGd.size)).mono ?_
        rintro e w3 ⟨rfl, hI3, hb3, hk3⟩
        go_wp2_with fail
        go_ret
        have hq : PS ((w2.drew.drew).setCell ⟨pb, 1, none⟩ (.int .i64 (j + 1 : Nat))) pb s (j + 1) v o := PS.set (w := w2.drew.drew) hPd 1 (.int .i64 (j + 1 : Nat))
        refine ⟨(hGd.drew.set 1 _).belowB hb3, ?_⟩
        rw [← Hr.out]
        exact ⟨rfl, hq.belowB hb3 hlt⟩
      · obtain ⟨b1, b2⟩ := byte_not (k := 34) c34 rfl
        by_cases c92 : (s[j]'hlt2) = 92
        · obtain ⟨b3, b4⟩ := byte_is (k := 92) c92 rfl
          simp only [if_neg c34, if_pos c92] at Hr
          have Heo := Lib.hid (escO_from s j)
          clear c34 c92
          cases hesc : escL (s.data.toList.drop j) with
          | none =>
            have h0 : escN (s.extract j s.size) = 0 := by
              unfold escN
              rw [Heo.out, hesc]
            rw [hesc] at Hr
            have H0 := Lib.hid h0
            clear h0 hesc
            go_region
            go_wp2_with fail
            go_region
            go_wp2_with fail
            refine (escape_bad pb s j v o w2.drew.drew hs' hPd hjb H0.out).mono ?_
            rintro e w3 ⟨rfl, hp3, hg3⟩
            unfold Pan
            go_wp2_with fail
            refine ⟨rfl, hGd.drew.trans hg3, ?_⟩
            rw [← Hr.out]
            rfl
          | some bk =>
            obtain ⟨bb, kk⟩ := bk
            have hel := esc_len hesc
            rw [List.length_drop, ← Lib.size_eq] at hel
            have h0 : escN (s.extract j s.size) = kk := by
              unfold escN
              rw [Heo.out, hesc]
            have hS : escS (s.extract j s.size) = ⟨bb.toArray⟩ := by
              unfold escS
              rw [Heo.out, hesc]
            rw [hesc] at Hr
            have H0 := Lib.hid h0
            have HS := Lib.hid hS
            have hesc2 := fun w hp => escape_ok pb s j v o w hs' hp hjb (by rw [h0]; omega) (by rw [h0]; omega)
            rw [h0, hS] at hesc2
            have Hesc := Lib.hid hesc2
            clear h0 hS hesc hesc2
            have hbs : (ByteArray.mk bb.toArray).size = bb.length := rfl
            have Hbs := Lib.hid hbs
            clear hbs
            go_region
            go_wp2_with fail
            go_region
            go_wp2_with fail
            refine (Hesc.out w2.drew.drew hPd).mono ?_
            rintro e w3 ⟨rfl, hp3, hg3⟩
            have hI3 := bld_gb (w := w2.drew.drew) hId hg3 hlt
            have hG3 := hGd.drew.trans hg3
            go_wp2_with fail
            refine (bldStr w.heap.size w.heap.size _ _ _ hI3 (by rw [Lib.byteCells_length, Hbs.out, List.length_append, List.length_take]; omega) hG3.size).mono ?_
            rintro e w4 ⟨rfl, hI4, hb4, hk4⟩
            rw [show Lib.byteCells (acc ++ (s.data.toList.drop i).take m) ++ Lib.strCells ⟨bb.toArray⟩ = Lib.byteCells (acc ++ (s.data.toList.drop i).take m ++ bb) by rw [Lib.byteCells_append (acc ++ _)]; rfl] at hI4
            go_wp2_with fail
            go_roundg n
            case measure => omega
            case rel =>
              have := Hj.out
              refine ⟨j + kk, _, by omega, ?_, by omega, Hr.out, hp3.belowB hb4 hlt, hI4, hG3.belowB hb4⟩
              rw [List.length_append, List.length_append, List.length_take]
              omega
        · obtain ⟨b3, b4⟩ := byte_not (k := 92) c92 rfl
          simp only [if_neg c34, if_neg c92] at Hr
          clear c34 c92
          go_region
          go_wp2_with fail
          go_region
          go_wp2_with fail
          refine (fault_any pb s (j) v o 20 w2.drew.drew hPd).mono ?_
          rintro e w3 ⟨rfl, hb3⟩
          go_wp2_with fail
          refine ⟨rfl, hGd.drew.belowB (hb3.mono hGd.size), ?_⟩
          rw [← Hr.out]
          rfl
end Go.Proofs.YtakdhfjlhkejdaaGreatDoor

/-
  CONTRACTS of package json's parser: between, for an array's closure and for an object's, over any state that the closure keeps.
-/
set_option linter.unusedVariables false
namespace Go.Proofs.YtakdhfjlhkejdaaGreatDoor
open Go.RowKit

section
variable {γ : Type} (step : Nat → γ → Except Fail γ) (pos : γ → Nat) (mv : γ → Nat → γ) (c : UInt8) (s : List UInt8)
/-- behind an item -/
def afterB (more : γ → Except Fail γ) (g : γ) : Except Fail γ := match byL s (skipL s (pos g)) with
  | none => .error (skipL s (pos g), 21)
  | some b => if b = 44 then more (mv g (skipL s (pos g) + 1)) else if b = c then .ok (mv g (skipL s (pos g) + 1)) else .error (skipL s (pos g), 20)
/-- items with commas between them -/
def goB : Nat → γ → Except Fail γ
  | 0, _ => .error (0, 0)
  | n + 1, g => match step n g with
    | .error e => .error e
    | .ok g' => afterB pos mv c s (goB n) g'
/-- from the opening byte to the closing one -/
def betB (n a o : Nat) (g0 : Nat → γ) : Except Fail γ :=
  if o = 48 then .error (a, 26)
  else match byL s (skipL s (a + 1)) with
    | none => .error (skipL s (a + 1), 21)
    | some d => if d = c then .ok (g0 (skipL s (a + 1) + 1)) else goB step pos mv c s n (g0 (skipL s (a + 1)))
end
/-- what a call that keeps a state comes to -/
def StepEnd {γ : Type} (pb : Nat) (w0 : World) (J : World → γ → Prop) (r : Except Fail γ) (e : Ending) (w' : World) : Prop :=
  GB pb w0 w' ∧ match r with
  | .ok g => e = .returned (.tuple #[]) ∧ J w' g
  | .error (i, k) => e = Pan i k
theorem spanL_drop (p : Int → Bool) : ∀ l : List UInt8, spanL p (l.drop (spanL p l)) = 0
  | [] => rfl
  | a :: t => by
    by_cases h : p (a.toNat : Nat) = true
    · have e : spanL p (a :: t) = spanL p t + 1 := by rw [spanL, if_pos h]
      rw [e, List.drop_succ_cons]
      exact spanL_drop p t
    · have e : spanL p (a :: t) = 0 := by rw [spanL, if_neg h]
      rw [e, List.drop_zero, e]
theorem skip_skip (s : ByteArray) (a : Nat) : skipS s (skipS s a) = skipS s a := by
  unfold skipS skipL
  rw [← List.drop_drop, spanL_drop]
  rfl
theorem byS_val (s : ByteArray) (i : Nat) (h : i < s.size) : byL s.data.toList i = some (s[i]'h) ∧ byS s i = (s[i]'h).toNat := ⟨byL_at s i h, (get_by s i h).symm⟩

set_option maxRecDepth 10000000 in
set_option maxHeartbeats 8000000 in
theorem between_arr {γ : Type} (step : Nat → γ → Except Fail γ) (pos vals : γ → Nat) (mv : γ → Nat → γ) (n : Nat) (w0 : World) (vb pbx : Nat) (pb : Nat) (s : ByteArray) (o : Nat) (hs : s.size ≤ 1000000000) (I : Nat → World → γ → Prop)
    (hps : ∀ o w g, I o w g → PS w pb s (pos g) (vals g) o) (hgb : ∀ o w g, I o w g → GB pb w0 w)
    (hmv : ∀ o o' w w' g q, I o w g → GB pb w w' → pos g ≤ q → PS w' pb s q (vals g) o' → I o' w' (mv g q)) (hpos : ∀ g q, pos (mv g q) = q ∧ vals (mv g q) = vals g)
    (hitem : o ≠ 48 → ∀ m w g, m < n → I (o + 1) w g → pos g ≤ s.size → 2 * (s.size - pos g) + 2 ≤ m → (∀ g', step m g = .ok g' → pos g < pos g' ∧ pos g' ≤ s.size) ∧ Calls Tryz.prog 121 #[.pointer (some ⟨vb, 0, none⟩), .pointer (some ⟨pbx, 0, none⟩)] w (StepEnd pb w0 (I (o + 1)) (step m g)))
    (g0 : Nat → γ) (w : World) (a v : Nat) (hp : PS w pb s a v o) (ha : a < s.size) (ho : o ≤ 48) (hw : GB pb w0 w) (hI0 : ∀ o' w' q, GB pb w w' → PS w' pb s q v o' → I o' w' (g0 q)) (hg0 : ∀ q, pos (g0 q) = q ∧ vals (g0 q) = v)
    (hn : 2 * (s.size - a) + 1 ≤ n) :
    Calls Tryz.prog 120 #[.pointer (some ⟨pb, 0, none⟩), .int .u8 93, .func (.func 121) #[] #[.pointer (some ⟨vb, 0, none⟩), .pointer (some ⟨pbx, 0, none⟩)]] w (StepEnd pb w0 (I o) (betB step pos mv 93 s.data.toList n a o g0)) := by
  have hs' : s.size ≤ maxLen := by unfold maxLen; omega
  have hlt := hp.lt
  obtain ⟨c0, c1, c2, c3⟩ := hp.cells
  have f1 := hp.frozen 1
  have f3 := hp.frozen 3
  generalize hR : betB step pos mv 93 s.data.toList n a o g0 = R
  have HR := Lib.hid hR
  clear hR
  have Hitem := Lib.hid hitem
  have HI0 := Lib.hid hI0
  have Hmv := Lib.hid hmv
  have Hps := Lib.hid hps
  have Hgb := Lib.hid hgb
  have Hpos := Lib.hid hpos
  have Hg0 := Lib.hid hg0
  clear hitem hI0 hmv hps hgb hpos hg0
  go_enter Tryz.func120, Tryz.ntmps120
  by_cases h48 : o = 48
  · have te : ((o : Int) == 48) = true := by rw [h48]; rfl
    have HR2 : Hid (Except.error (a, 26) = R) := by
      have := HR.out
      unfold betB at this
      rw [if_pos h48] at this
      exact this
    clear h48
    go_wp2_with fail
    refine (fault_any pb s a v o 26 _ hp).mono ?_
    rintro e w1 ⟨rfl, hb1⟩
    go_wp2_with fail
    rw [← HR2.out]
    exact ⟨rfl, hw.trans (Below.gb hb1 pb), rfl⟩
  · have te : ((o : Int) == 48) = false := by rw [beq_eq_false_iff_ne]; omega
    have Hitem := Lib.hid (Hitem.out h48)
    have HR2 : Hid ((match byL s.data.toList (skipS s (a + 1)) with
      | none => .error (skipS s (a + 1), 21)
      | some d => if d = 93 then .ok (g0 (skipS s (a + 1) + 1)) else goB step pos mv 93 s.data.toList n (g0 (skipS s (a + 1)))) = R) := by
      have := HR.out
      unfold betB at this
      rw [if_neg h48] at this
      exact this
    clear HR
    go_wp2_with fail
    have hpz : PS ((w.setCell ⟨pb, 3, none⟩ (.int .i64 ((o : Int) + 1))).setCell ⟨pb, 1, none⟩ (.int .i64 ((a : Int) + 1))) pb s (a + 1) v (o + 1) := by
      have h1 : PS (w.setCell ⟨pb, 3, none⟩ (.int .i64 ((o : Int) + 1))) pb s a v (o + 1) := hp.set 3 (.int .i64 ((o : Int) + 1))
      exact h1.set 1 (.int .i64 ((a : Int) + 1))
    have hGz : GB pb w ((w.setCell ⟨pb, 3, none⟩ (.int .i64 ((o : Int) + 1))).setCell ⟨pb, 1, none⟩ (.int .i64 ((a : Int) + 1))) := ((GB.refl pb w).set 3 _).set 1 _
    generalize (w.setCell ⟨pb, 3, none⟩ (.int .i64 ((o : Int) + 1))).setCell ⟨pb, 1, none⟩ (.int .i64 ((a : Int) + 1)) = wz at *
    have hq := skip_le s (a + 1) ha
    by_cases hend : skipS s (a + 1) = s.size
    · refine (next_end pb s (a + 1) v (o + 1) wz hs' hpz ha hend).mono ?_
      rintro e w1 ⟨rfl, hp1, hg1⟩
      unfold Pan
      have HR3 : Hid (Except.error (skipS s (a + 1), 21) = R) := by
        have := HR2.out
        rw [byL_end (by rw [← Lib.size_eq]; omega)] at this
        exact this
      clear hend
      go_wp2_with fail
      rw [← HR3.out]
      exact ⟨rfl, (hw.trans hGz).trans hg1, rfl⟩
    · have hqlt : skipS s (a + 1) < s.size := by omega
      refine (next_byte pb s (a + 1) v (o + 1) wz hs' hpz ha hqlt).mono ?_
      rintro e w1 ⟨rfl, hp1, hg1⟩
      obtain ⟨hb1, hb2⟩ := byS_val s (skipS s (a + 1)) hqlt
      have Hss := Lib.hid (skip_skip s (a + 1))
      generalize skipS s (a + 1) = q at *
      by_cases c93 : (s[q]'hqlt) = 93
      · have HR3 : Hid (Except.ok (g0 (q + 1)) = R) := by
          have := HR2.out
          rw [hb1] at this
          simp only [if_pos c93] at this
          exact this
        have hby : ((byS s q : Nat) : Int) = 93 := by rw [hb2, c93]; rfl
        have te1 := u8_eq hby
        have Hby := Lib.hid hby
        clear hb1 hb2 c93 HR2 hby
        go_wp2_with fail
        refine (pass_ok 93 pb s q v (o + 1) w1 hs' hp1 (by omega) (by rw [Hss.out]; omega) (by rw [Hss.out]; exact Hby.out)).mono ?_
        rintro e w2 ⟨rfl, hp2, hg2⟩
        rw [Hss.out] at hp2
        obtain ⟨y0, y1, y2, y3⟩ := hp2.cells
        have z3 := hp2.frozen 3
        have hwr : IntKind.i64.wrap ((o : Int) + 1 - 1) = (o : Nat) := by rw [IntWalk.i64_in _ (by omega)]; omega
        go_wp2_with fail
        go_end0
        have hq2 : PS (w2.setCell ⟨pb, 3, none⟩ (.int .i64 (o : Nat))) pb s (q + 1) v o := hp2.set 3 (.int .i64 (o : Nat))
        have hG2 : GB pb w (w2.setCell ⟨pb, 3, none⟩ (.int .i64 (o : Nat))) := ((hGz.trans hg1).trans hg2).set 3 _
        rw [← HR3.out]
        exact ⟨hw.trans hG2, rfl, HI0.out o _ _ hG2 hq2⟩
      · have HR3 : Hid (goB step pos mv 93 s.data.toList n (g0 q) = R) := by
          have := HR2.out
          rw [hb1] at this
          simp only [if_neg c93] at this
          exact this
        have hby : ((byS s q : Nat) : Int) ≠ 93 := by
          rw [hb2]
          intro h
          apply c93
          apply UInt8.toNat_inj.1
          have : (93 : UInt8).toNat = 93 := rfl
          omega
        have te1 := u8_ne hby
        clear hb1 hb2 c93 HR2 hby
        obtain ⟨m, rfl⟩ : ∃ m, n = m + 1 := ⟨n - 1, by omega⟩
        go_wp2_with fail
        have hI : I (o + 1) w1 (g0 q) := HI0.out (o + 1) w1 q (hGz.trans hg1) hp1
        have hgp := Hg0.out q
        obtain ⟨hi1, hi2⟩ := Hitem.out m w1 (g0 q) (Nat.lt_succ_self m) hI (by rw [hgp.1]; omega) (by rw [hgp.1]; omega)
        refine hi2.mono ?_
        clear hi2
        rintro e w2 ⟨hg2, hr⟩
        cases hst : step m (g0 q) with
        | error f =>
          obtain ⟨i, k⟩ := f
          rw [hst] at hr
          simp only at hr
          subst hr
          unfold Pan
          have HR4 : Hid (Except.error (i, k) = R) := by
            have := HR3.out
            unfold goB at this
            rw [hst] at this
            exact this
          clear hst hi1 hgp
          go_wp2_with fail
          rw [← HR4.out]
          exact ⟨rfl, hg2, rfl⟩
        | ok g1 =>
          rw [hst] at hr
          obtain ⟨he, hI1⟩ := hr
          subst he
          have HR4 : Hid (afterB pos mv 93 s.data.toList (goB step pos mv 93 s.data.toList m) g1 = R) := by
            have := HR3.out
            unfold goB at this
            rw [hst] at this
            exact this
          obtain ⟨hl1, hl2⟩ := hi1 g1 hst
          rw [hgp.1] at hl1
          clear hst hi1 hgp
          go_wp2_with fail
          go_loopg [] m (fun k wr => ∃ g, k ≤ m ∧ I (o + 1) wr g ∧ pos g ≤ s.size ∧ 2 * (s.size - pos g) + 1 ≤ k ∧ afterB pos mv 93 s.data.toList (goB step pos mv 93 s.data.toList k) g = R)
          case atStart => exact ⟨g1, Nat.le_refl m, hI1, hl2, by omega, HR4.out⟩
          case round =>
            obtain ⟨g, hkm, hIg, hgl, hgk, hRg⟩ := hrel
            obtain ⟨m', rfl⟩ : ∃ m', gk = m' + 1 := ⟨gk - 1, by omega⟩
            have HRg := Lib.hid hRg
            clear hRg
            have hpg := Hps.out _ _ _ hIg
            have hGr := Hgb.out _ _ _ hIg
            have hqb := skip_le s (pos g) hgl
            go_wp2_with fail
            by_cases hend2 : skipS s (pos g) = s.size
            · refine (next_end pb s (pos g) (vals g) (o + 1) wr hs' hpg hgl hend2).mono ?_
              rintro e w3 ⟨rfl, hp3, hg3⟩
              unfold Pan
              have HRe : Hid (Except.error (skipS s (pos g), 21) = R) := by
                have := HRg.out
                unfold afterB at this
                rw [show skipL s.data.toList (pos g) = skipS s (pos g) from rfl, byL_end (by rw [← Lib.size_eq]; omega)] at this
                exact this
              clear hend2
              go_wp2_with fail
              rw [← HRe.out]
              exact ⟨rfl, hGr.trans hg3, rfl⟩
            · have hq2 : skipS s (pos g) < s.size := by omega
              refine (next_byte pb s (pos g) (vals g) (o + 1) wr hs' hpg hgl hq2).mono ?_
              rintro e w3 ⟨rfl, hp3, hg3⟩
              obtain ⟨hb3, hb4⟩ := byS_val s (skipS s (pos g)) hq2
              have Hs2 := Lib.hid (skip_skip s (pos g))
              have HRe : Hid ((if (s[skipS s (pos g)]'hq2) = 44 then goB step pos mv 93 s.data.toList (m' + 1) (mv g (skipS s (pos g) + 1)) else if (s[skipS s (pos g)]'hq2) = 93 then .ok (mv g (skipS s (pos g) + 1)) else .error (skipS s (pos g), 20)) = R) := by
                have := HRg.out
                unfold afterB at this
                rw [show skipL s.data.toList (pos g) = skipS s (pos g) from rfl, hb3] at this
                exact this
              clear hend2 HRg hb3
              generalize skipS s (pos g) = r at *
              obtain ⟨y0, y1, y2, y3⟩ := hp3.cells
              have z1 := hp3.frozen 1
              by_cases c44 : (s[r]'hq2) = 44
              · have HRf : Hid (goB step pos mv 93 s.data.toList (m' + 1) (mv g (r + 1)) = R) := by
                  have := HRe.out
                  rw [if_pos c44] at this
                  exact this
                have te2 : (((byS s r : Nat) : Int) == 44) = true := by rw [hb4, c44]; rfl
                have hwr : IntKind.i64.wrap ((r : Int) + 1) = (r : Int) + 1 := by rw [IntWalk.i64_in _ (by omega)]
                clear HRe c44 hb4
                go_wp2_with fail
                have hp4 : PS (w3.setCell ⟨pb, 1, none⟩ (.int .i64 ((r : Int) + 1))) pb s (r + 1) (vals g) (o + 1) := hp3.set 1 (.int .i64 ((r : Int) + 1))
                have hg4 : GB pb wr (w3.setCell ⟨pb, 1, none⟩ (.int .i64 ((r : Int) + 1))) := hg3.set 1 _
                have hI4 := Hmv.out (o + 1) (o + 1) wr _ g (r + 1) hIg hg4 (by omega) hp4
                obtain ⟨hx1, hx2⟩ := Hpos.out g (r + 1)
                obtain ⟨hi1, hi2⟩ := Hitem.out m' _ (mv g (r + 1)) (by omega) hI4 (by rw [hx1]; omega) (by rw [hx1]; omega)
                refine hi2.mono ?_
                clear hi2
                rintro e w5 ⟨hg5, hr⟩
                cases hst : step m' (mv g (r + 1)) with
                | error f =>
                  obtain ⟨i, k⟩ := f
                  rw [hst] at hr
                  simp only at hr
                  subst hr
                  unfold Pan
                  have HR5 : Hid (Except.error (i, k) = R) := by
                    have := HRf.out
                    unfold goB at this
                    rw [hst] at this
                    exact this
                  clear hst hi1 hx1 hx2
                  go_wp2_with fail
                  rw [← HR5.out]
                  exact ⟨rfl, hg5, rfl⟩
                | ok g2 =>
                  rw [hst] at hr
                  obtain ⟨he, hI5⟩ := hr
                  subst he
                  have HR5 : Hid (afterB pos mv 93 s.data.toList (goB step pos mv 93 s.data.toList m') g2 = R) := by
                    have := HRf.out
                    unfold goB at this
                    rw [hst] at this
                    exact this
                  obtain ⟨hl3, hl4⟩ := hi1 g2 hst
                  rw [hx1] at hl3
                  clear hst hi1 hx1 hx2
                  go_wp2_with fail
                  go_roundg m'
                  case measure => omega
                  case rel => exact ⟨g2, by omega, hI5, hl4, by omega, HR5.out⟩
              · have te2 : (((byS s r : Nat) : Int) == 44) = false := by
                  rw [beq_eq_false_iff_ne, hb4]
                  intro h
                  apply c44
                  apply UInt8.toNat_inj.1
                  have : (44 : UInt8).toNat = 44 := rfl
                  omega
                by_cases c93 : (s[r]'hq2) = 93
                · have HRf : Hid (Except.ok (mv g (r + 1)) = R) := by
                    have := HRe.out
                    rw [if_neg c44, if_pos c93] at this
                    exact this
                  have hby : ((byS s r : Nat) : Int) = 93 := by rw [hb4, c93]; rfl
                  have Hby := Lib.hid hby
                  clear hb4 c93 c44 HRe hby
                  go_wp2_with fail
                  refine (pass_ok 93 pb s r (vals g) (o + 1) w3 hs' hp3 (by omega) (by rw [Hs2.out]; omega) (by rw [Hs2.out]; exact Hby.out)).mono ?_
                  rintro e w4 ⟨rfl, hp4, hg4⟩
                  rw [Hs2.out] at hp4
                  obtain ⟨x0, x1, x2, x3⟩ := hp4.cells
                  have z3 := hp4.frozen 3
                  have hwr : IntKind.i64.wrap ((o : Int) + 1 - 1) = (o : Nat) := by rw [IntWalk.i64_in _ (by omega)]; omega
                  go_wp2_with fail
                  go_end0
                  have hq5 : PS (w4.setCell ⟨pb, 3, none⟩ (.int .i64 (o : Nat))) pb s (r + 1) (vals g) o := hp4.set 3 (.int .i64 (o : Nat))
                  have hG5 : GB pb wr (w4.setCell ⟨pb, 3, none⟩ (.int .i64 (o : Nat))) := (hg3.trans hg4).set 3 _
                  rw [← HRf.out]
                  exact ⟨hGr.trans hG5, rfl, Hmv.out (o + 1) o wr _ g (r + 1) hIg hG5 (by omega) hq5⟩
                · have HRf : Hid (Except.error (r, 20) = R) := by
                    have := HRe.out
                    rw [if_neg c44, if_neg c93] at this
                    exact this
                  have hby : ((byS s r : Nat) : Int) ≠ 93 := by
                    rw [hb4]
                    intro h
                    apply c93
                    apply UInt8.toNat_inj.1
                    have : (93 : UInt8).toNat = 93 := rfl
                    omega
                  have Hby := Lib.hid hby
                  clear hb4 c93 c44 HRe hby
                  go_wp2_with fail
                  refine (pass_bad 93 pb s r (vals g) (o + 1) w3 hs' hp3 (by omega) (by rw [Hs2.out]; omega) (by rw [Hs2.out]; exact Hby.out)).mono ?_
                  rintro e w4 ⟨rfl, hp4, hg4⟩
                  rw [Hs2.out]
                  unfold Pan
                  go_wp2_with fail
                  rw [← HRf.out]
                  exact ⟨rfl, hGr.trans (hg3.trans hg4), rfl⟩

set_option maxRecDepth 10000000 in
set_option maxHeartbeats 8000000 in
theorem between_obj {γ : Type} (step : Nat → γ → Except Fail γ) (pos vals : γ → Nat) (mv : γ → Nat → γ) (n : Nat) (w0 : World) (pbx hb vb : Nat) (pb : Nat) (s : ByteArray) (o : Nat) (hs : s.size ≤ 1000000000) (I : Nat → World → γ → Prop)
    (hps : ∀ o w g, I o w g → PS w pb s (pos g) (vals g) o) (hgb : ∀ o w g, I o w g → GB pb w0 w)
    (hmv : ∀ o o' w w' g q, I o w g → GB pb w w' → pos g ≤ q → PS w' pb s q (vals g) o' → I o' w' (mv g q)) (hpos : ∀ g q, pos (mv g q) = q ∧ vals (mv g q) = vals g)
    (hitem : o ≠ 48 → ∀ m w g, m < n → I (o + 1) w g → pos g ≤ s.size → 2 * (s.size - pos g) + 2 ≤ m → (∀ g', step m g = .ok g' → pos g < pos g' ∧ pos g' ≤ s.size) ∧ Calls Tryz.prog 122 #[.pointer (some ⟨pbx, 0, none⟩), .pointer (some ⟨hb, 0, none⟩), .pointer (some ⟨vb, 0, none⟩)] w (StepEnd pb w0 (I (o + 1)) (step m g)))
    (g0 : Nat → γ) (w : World) (a v : Nat) (hp : PS w pb s a v o) (ha : a < s.size) (ho : o ≤ 48) (hw : GB pb w0 w) (hI0 : ∀ o' w' q, GB pb w w' → PS w' pb s q v o' → I o' w' (g0 q)) (hg0 : ∀ q, pos (g0 q) = q ∧ vals (g0 q) = v)
    (hn : 2 * (s.size - a) + 1 ≤ n) :
    Calls Tryz.prog 120 #[.pointer (some ⟨pb, 0, none⟩), .int .u8 125, .func (.func 122) #[] #[.pointer (some ⟨pbx, 0, none⟩), .pointer (some ⟨hb, 0, none⟩), .pointer (some ⟨vb, 0, none⟩)]] w (StepEnd pb w0 (I o) (betB step pos mv 125 s.data.toList n a o g0)) := by
  have hs' : s.size ≤ maxLen := by unfold maxLen; omega
  have hlt := hp.lt
  obtain ⟨c0, c1, c2, c3⟩ := hp.cells
  have f1 := hp.frozen 1
  have f3 := hp.frozen 3
  generalize hR : betB step pos mv 125 s.data.toList n a o g0 = R
  have HR := Lib.hid hR
  clear hR
  have Hitem := Lib.hid hitem
  have HI0 := Lib.hid hI0
  have Hmv := Lib.hid hmv
  have Hps := Lib.hid hps
  have Hgb := Lib.hid hgb
  have Hpos := Lib.hid hpos
  have Hg0 := Lib.hid hg0
  clear hitem hI0 hmv hps hgb hpos hg0
  go_enter Tryz.func120, Tryz.ntmps120
  by_cases h48 : o = 48
  · have te : ((o : Int) == 48) = true := by rw [h48]; rfl
    have HR2 : Hid (Except.error (a, 26) = R) := by
      have := HR.out
      unfold betB at this
      rw [if_pos h48] at this
      exact this
    clear h48
    go_wp2_with fail
    refine (fault_any pb s a v o 26 _ hp).mono ?_
    rintro e w1 ⟨rfl, hb1⟩
    go_wp2_with fail
    rw [← HR2.out]
    exact ⟨rfl, hw.trans (Below.gb hb1 pb), rfl⟩
  · have te : ((o : Int) == 48) = false := by rw [beq_eq_false_iff_ne]; omega
    have Hitem := Lib.hid (Hitem.out h48)
    have HR2 : Hid ((match byL s.data.toList (skipS s (a + 1)) with
      | none => .error (skipS s (a + 1), 21)
      | some d => if d = 125 then .ok (g0 (skipS s (a + 1) + 1)) else goB step pos mv 125 s.data.toList n (g0 (skipS s (a + 1)))) = R) := by
      have := HR.out
      unfold betB at this
      rw [if_neg h48] at this
      exact this
    clear HR
    go_wp2_with fail
    have hpz : PS ((w.setCell ⟨pb, 3, none⟩ (.int .i64 ((o : Int) + 1))).setCell ⟨pb, 1, none⟩ (.int .i64 ((a : Int) + 1))) pb s (a + 1) v (o + 1) := by
      have h1 : PS (w.setCell ⟨pb, 3, none⟩ (.int .i64 ((o : Int) + 1))) pb s a v (o + 1) := hp.set 3 (.int .i64 ((o : Int) + 1))
      exact h1.set 1 (.int .i64 ((a : Int) + 1))
    have hGz : GB pb w ((w.setCell ⟨pb, 3, none⟩ (.int .i64 ((o : Int) + 1))).setCell ⟨pb, 1, none⟩ (.int .i64 ((a : Int) + 1))) := ((GB.refl pb w).set 3 _).set 1 _
    generalize (w.setCell ⟨pb, 3, none⟩ (.int .i64 ((o : Int) + 1))).setCell ⟨pb, 1, none⟩ (.int .i64 ((a : Int) + 1)) = wz at *
    have hq := skip_le s (a + 1) ha
    by_cases hend : skipS s (a + 1) = s.size
    · refine (next_end pb s (a + 1) v (o + 1) wz hs' hpz ha hend).mono ?_
      rintro e w1 ⟨rfl, hp1, hg1⟩
      unfold Pan
      have HR3 : Hid (Except.error (skipS s (a + 1), 21) = R) := by
        have := HR2.out
        rw [byL_end (by rw [← Lib.size_eq]; omega)] at this
        exact this
      clear hend
      go_wp2_with fail
      rw [← HR3.out]
      exact ⟨rfl, (hw.trans hGz).trans hg1, rfl⟩
    · have hqlt : skipS s (a + 1) < s.size := by omega
      refine (next_byte pb s (a + 1) v (o + 1) wz hs' hpz ha hqlt).mono ?_
      rintro e w1 ⟨rfl, hp1, hg1⟩
      obtain ⟨hb1, hb2⟩ := byS_val s (skipS s (a + 1)) hqlt
      have Hss := Lib.hid (skip_skip s (a + 1))
      generalize skipS s (a + 1) = q at *
      by_cases c93 : (s[q]'hqlt) = 125
      · have HR3 : Hid (Except.ok (g0 (q + 1)) = R) := by
          have := HR2.out
          rw [hb1] at this
          simp only [if_pos c93] at this
          exact this
        have hby : ((byS s q : Nat) : Int) = 125 := by rw [hb2, c93]; rfl
        have te1 := u8_eq hby
        have Hby := Lib.hid hby
        clear hb1 hb2 c93 HR2 hby
        go_wp2_with fail
        refine (pass_ok 125 pb s q v (o + 1) w1 hs' hp1 (by omega) (by rw [Hss.out]; omega) (by rw [Hss.out]; exact Hby.out)).mono ?_
        rintro e w2 ⟨rfl, hp2, hg2⟩
        rw [Hss.out] at hp2
        obtain ⟨y0, y1, y2, y3⟩ := hp2.cells
        have z3 := hp2.frozen 3
        have hwr : IntKind.i64.wrap ((o : Int) + 1 - 1) = (o : Nat) := by rw [IntWalk.i64_in _ (by omega)]; omega
        go_wp2_with fail
        go_end0
        have hq2 : PS (w2.setCell ⟨pb, 3, none⟩ (.int .i64 (o : Nat))) pb s (q + 1) v o := hp2.set 3 (.int .i64 (o : Nat))
        have hG2 : GB pb w (w2.setCell ⟨pb, 3, none⟩ (.int .i64 (o : Nat))) := ((hGz.trans hg1).trans hg2).set 3 _
        rw [← HR3.out]
        exact ⟨hw.trans hG2, rfl, HI0.out o _ _ hG2 hq2⟩
      · have HR3 : Hid (goB step pos mv 125 s.data.toList n (g0 q) = R) := by
          have := HR2.out
          rw [hb1] at this
          simp only [if_neg c93] at this
          exact this
        have hby : ((byS s q : Nat) : Int) ≠ 125 := by
          rw [hb2]
          intro h
          apply c93
          apply UInt8.toNat_inj.1
          have : (125 : UInt8).toNat = 125 := rfl
          omega
        have te1 := u8_ne hby
        clear hb1 hb2 c93 HR2 hby
        obtain ⟨m, rfl⟩ : ∃ m, n = m + 1 := ⟨n - 1, by omega⟩
        go_wp2_with fail
        have hI : I (o + 1) w1 (g0 q) := HI0.out (o + 1) w1 q (hGz.trans hg1) hp1
        have hgp := Hg0.out q
        obtain ⟨hi1, hi2⟩ := Hitem.out m w1 (g0 q) (Nat.lt_succ_self m) hI (by rw [hgp.1]; omega) (by rw [hgp.1]; omega)
        refine hi2.mono ?_
        clear hi2
        rintro e w2 ⟨hg2, hr⟩
        cases hst : step m (g0 q) with
        | error f =>
          obtain ⟨i, k⟩ := f
          rw [hst] at hr
          simp only at hr
          subst hr
          unfold Pan
          have HR4 : Hid (Except.error (i, k) = R) := by
            have := HR3.out
            unfold goB at this
            rw [hst] at this
            exact this
          clear hst hi1 hgp
          go_wp2_with fail
          rw [← HR4.out]
          exact ⟨rfl, hg2, rfl⟩
        | ok g1 =>
          rw [hst] at hr
          obtain ⟨he, hI1⟩ := hr
          subst he
          have HR4 : Hid (afterB pos mv 125 s.data.toList (goB step pos mv 125 s.data.toList m) g1 = R) := by
            have := HR3.out
            unfold goB at this
            rw [hst] at this
            exact this
          obtain ⟨hl1, hl2⟩ := hi1 g1 hst
          rw [hgp.1] at hl1
          clear hst hi1 hgp
          go_wp2_with fail
          go_loopg [] m (fun k wr => ∃ g, k ≤ m ∧ I (o + 1) wr g ∧ pos g ≤ s.size ∧ 2 * (s.size - pos g) + 1 ≤ k ∧ afterB pos mv 125 s.data.toList (goB step pos mv 125 s.data.toList k) g = R)
          case atStart => exact ⟨g1, Nat.le_refl m, hI1, hl2, by omega, HR4.out⟩
          case round =>
            obtain ⟨g, hkm, hIg, hgl, hgk, hRg⟩ := hrel
            obtain ⟨m', rfl⟩ : ∃ m', gk = m' + 1 := ⟨gk - 1, by omega⟩
            have HRg := Lib.hid hRg
            clear hRg
            have hpg := Hps.out _ _ _ hIg
            have hGr := Hgb.out _ _ _ hIg
            have hqb := skip_le s (pos g) hgl
            go_wp2_with fail
            by_cases hend2 : skipS s (pos g) = s.size
            · refine (next_end pb s (pos g) (vals g) (o + 1) wr hs' hpg hgl hend2).mono ?_
              rintro e w3 ⟨rfl, hp3, hg3⟩
              unfold Pan
              have HRe : Hid (Except.error (skipS s (pos g), 21) = R) := by
                have := HRg.out
                unfold afterB at this
                rw [show skipL s.data.toList (pos g) = skipS s (pos g) from rfl, byL_end (by rw [← Lib.size_eq]; omega)] at this
                exact this
              clear hend2
              go_wp2_with fail
              rw [← HRe.out]
              exact ⟨rfl, hGr.trans hg3, rfl⟩
            · have hq2 : skipS s (pos g) < s.size := by omega
              refine (next_byte pb s (pos g) (vals g) (o + 1) wr hs' hpg hgl hq2).mono ?_
              rintro e w3 ⟨rfl, hp3, hg3⟩
              obtain ⟨hb3, hb4⟩ := byS_val s (skipS s (pos g)) hq2
              have Hs2 := Lib.hid (skip_skip s (pos g))
              have HRe : Hid ((if (s[skipS s (pos g)]'hq2) = 44 then goB step pos mv 125 s.data.toList (m' + 1) (mv g (skipS s (pos g) + 1)) else if (s[skipS s (pos g)]'hq2) = 125 then .ok (mv g (skipS s (pos g) + 1)) else .error (skipS s (pos g), 20)) = R) := by
                have := HRg.out
                unfold afterB at this
                rw [show skipL s.data.toList (pos g) = skipS s (pos g) from rfl, hb3] at this
                exact this
              clear hend2 HRg hb3
              generalize skipS s (pos g) = r at *
              obtain ⟨y0, y1, y2, y3⟩ := hp3.cells
              have z1 := hp3.frozen 1
              by_cases c44 : (s[r]'hq2) = 44
              · have HRf : Hid (goB step pos mv 125 s.data.toList (m' + 1) (mv g (r + 1)) = R) := by
                  have := HRe.out
                  rw [if_pos c44] at this
                  exact this
                have te2 : (((byS s r : Nat) : Int) == 44) = true := by rw [hb4, c44]; rfl
                have hwr : IntKind.i64.wrap ((r : Int) + 1) = (r : Int) + 1 := by rw [IntWalk.i64_in _ (by omega)]
                clear HRe c44 hb4
                go_wp2_with fail
                have hp4 : PS (w3.setCell ⟨pb, 1, none⟩ (.int .i64 ((r : Int) + 1))) pb s (r + 1) (vals g) (o + 1) := hp3.set 1 (.int .i64 ((r : Int) + 1))
                have hg4 : GB pb wr (w3.setCell ⟨pb, 1, none⟩ (.int .i64 ((r : Int) + 1))) := hg3.set 1 _
                have hI4 := Hmv.out (o + 1) (o + 1) wr _ g (r + 1) hIg hg4 (by omega) hp4
                obtain ⟨hx1, hx2⟩ := Hpos.out g (r + 1)
                obtain ⟨hi1, hi2⟩ := Hitem.out m' _ (mv g (r + 1)) (by omega) hI4 (by rw [hx1]; omega) (by rw [hx1]; omega)
                refine hi2.mono ?_
                clear hi2
                rintro e w5 ⟨hg5, hr⟩
                cases hst : step m' (mv g (r + 1)) with
                | error f =>
                  obtain ⟨i, k⟩ := f
                  rw [hst] at hr
                  simp only at hr
                  subst hr
                  unfold Pan
                  have HR5 : Hid (Except.error (i, k) = R) := by
                    have := HRf.out
                    unfold goB at this
                    rw [hst] at this
                    exact this
                  clear hst hi1 hx1 hx2
                  go_wp2_with fail
                  rw [← HR5.out]
                  exact ⟨rfl, hg5, rfl⟩
                | ok g2 =>
                  rw [hst] at hr
                  obtain ⟨he, hI5⟩ := hr
                  subst he
                  have HR5 : Hid (afterB pos mv 125 s.data.toList (goB step pos mv 125 s.data.toList m') g2 = R) := by
                    have := HRf.out
                    unfold goB at this
                    rw [hst] at this
                    exact this
                  obtain ⟨hl3, hl4⟩ := hi1 g2 hst
                  rw [hx1] at hl3
                  clear hst hi1 hx1 hx2
                  go_wp2_with fail
                  go_roundg m'
                  case measure => omega
                  case rel => exact ⟨g2, by omega, hI5, hl4, by omega, HR5.out⟩
              · have te2 : (((byS s r : Nat) : Int) == 44) = false := by
                  rw [beq_eq_false_iff_ne, hb4]
                  intro h
                  apply c44
                  apply UInt8.toNat_inj.1
                  have : (44 : UInt8).toNat = 44 := rfl
                  omega
                by_cases c93 : (s[r]'hq2) = 125
                · have HRf : Hid (Except.ok (mv g (r + 1)) = R) := by
                    have := HRe.out
                    rw [if_neg c44, if_pos c93] at this
                    exact this
                  have hby : ((byS s r : Nat) : Int) = 125 := by rw [hb4, c93]; rfl
                  have Hby := Lib.hid hby
                  clear hb4 c93 c44 HRe hby
                  go_wp2_with fail
                  refine (pass_ok 125 pb s r (vals g) (o + 1) w3 hs' hp3 (by omega) (by rw [Hs2.out]; omega) (by rw [Hs2.out]; exact Hby.out)).mono ?_
                  rintro e w4 ⟨rfl, hp4, hg4⟩
                  rw [Hs2.out] at hp4
                  obtain ⟨x0, x1, x2, x3⟩ := hp4.cells
                  have z3 := hp4.frozen 3
                  have hwr : IntKind.i64.wrap ((o : Int) + 1 - 1) = (o : Nat) := by rw [IntWalk.i64_in _ (by omega)]; omega
                  go_wp2_with fail
                  go_end0
                  have hq5 : PS (w4.setCell ⟨pb, 3, none⟩ (.int .i64 (o : Nat))) pb s (r + 1) (vals g) o := hp4.set 3 (.int .i64 (o : Nat))
                  have hG5 : GB pb wr (w4.setCell ⟨pb, 3, none⟩ (.int .i64 (o : Nat))) := (hg3.trans hg4).set 3 _
                  rw [← HRf.out]
                  exact ⟨hGr.trans hG5, rfl, Hmv.out (o + 1) o wr _ g (r + 1) hIg hG5 (by omega) hq5⟩
                · have HRf : Hid (Except.error (r, 20) = R) := by
                    have := HRe.out
                    rw [if_neg c44, if_neg c93] at this
                    exact this
                  have hby : ((byS s r : Nat) : Int) ≠ 125 := by
                    rw [hb4]
                    intro h
                    apply c93
                    apply UInt8.toNat_inj.1
                    have : (125 : UInt8).toNat = 125 := rfl
                    omega
                  have Hby := Lib.hid hby
                  clear hb4 c93 c44 HRe hby
                  go_wp2_with fail
                  refine (pass_bad 125 pb s r (vals g) (o + 1) w3 hs' hp3 (by omega) (by rw [Hs2.out]; omega) (by rw [Hs2.out]; exact Hby.out)).mono ?_
                  rintro e w4 ⟨rfl, hp4, hg4⟩
                  rw [Hs2.out]
                  unfold Pan
                  go_wp2_with fail
                  rw [← HRf.out]
                  exact ⟨rfl, hGr.trans (hg3.trans hg4), rfl⟩
end Go.Proofs.YtakdhfjlhkejdaaGreatDoor

/-
  PLAIN LEAN: what the parser's mathematics keeps: a value that is read ends behind its start and within the text; at most 4,096 values.
-/
set_option linter.unusedVariables false
namespace Go.Proofs.YtakdhfjlhkejdaaGreatDoor
open Go

theorem skipL_le (s : List UInt8) (i : Nat) : i ≤ skipL s i := by unfold skipL; omega
theorem byL_lt {s : List UInt8} {i : Nat} {c : UInt8} (h : byL s i = some c) : i < s.length := by
  rcases Nat.lt_or_ge i s.length with h' | h'
  · exact h'
  · rw [byL_end h'] at h; cases h
theorem span_pos {p : Int → Bool} {s : List UInt8} {i : Nat} {c : UInt8} (h : byL s i = some c) (hp : p (c.toNat : Nat) = true) : 0 < spanL p (s.drop i) ∧ i + spanL p (s.drop i) ≤ s.length := by
  have hl := byL_lt h
  have hle := spanL_le p (s.drop i)
  rw [List.length_drop] at hle
  refine ⟨?_, by omega⟩
  unfold byL at h
  cases hd : s.drop i with
  | nil => rw [hd] at h; cases h
  | cons a t =>
    rw [hd] at h
    simp at h
    subst h
    rw [spanL, if_pos hp]
    omega
theorem quotP_facts : ∀ (n : Nat) (s : List UInt8) (i : Nat) (acc t : List UInt8) (j : Nat), quotP n s i acc = .ok (t, j) → i < j ∧ j ≤ s.length := by
  intro n
  induction n with
  | zero => intro s i acc t j h; cases h
  | succ n ih =>
    intro s i acc t j h
    unfold quotP at h
    cases hb : byL s (i + spanL pPlain (s.drop i)) with
    | none => rw [hb] at h; cases h
    | some c =>
      have hl := byL_lt hb
      rw [hb] at h
      simp only at h
      split at h
      · injection h with h
        injection h with h1 h2
        omega
      · split at h
        · split at h
          · cases h
          · rename_i b k he
            have hx := ih _ _ _ _ _ h
            omega
        · cases h
theorem valP_facts : ∀ (n : Nat), (∀ s i v o x j v', valP n s i v o = .ok (x, j, v') → i < j ∧ j ≤ s.length ∧ (v ≤ 4096 → v' ≤ 4096)) ∧
    (∀ s i v o acc l j v', itemsP n s i v o acc = .ok (l, j, v') → i < j ∧ j ≤ s.length ∧ (v ≤ 4096 → v' ≤ 4096)) ∧
    (∀ s i v o ks acc ks' l j v', fieldsP n s i v o ks acc = .ok (ks', l, j, v') → i < j ∧ j ≤ s.length ∧ (v ≤ 4096 → v' ≤ 4096)) := by
  intro n
  induction n with
  | zero => exact ⟨fun s i v o x j v' h => by (unfold valP at h; cases h), fun s i v o acc l j v' h => by (unfold itemsP at h; cases h), fun s i v o ks acc ks' l j v' h => by (unfold fieldsP at h; cases h)⟩
  | succ n ih =>
    obtain ⟨ihv, ihi, ihf⟩ := ih
    refine ⟨fun s i v o x j v' h => ?_, fun s i v o acc l j v' h => ?_, fun s i v o ks acc ks' l j v' h => ?_⟩
    · have hsk := skipL_le s i
      unfold valP at h
      cases hb : byL s (skipL s i) with
      | none => rw [hb] at h; cases h
      | some c =>
        have hl := byL_lt hb
        rw [hb] at h
        simp only at h
        split at h
        · cases h
        · rename_i hv
          split at h
          · rename_i hc
            split at h
            · injection h with h
              injection h with h1 h2
              injection h2 with h2 h3
              have hp : pNum (c.toNat : Nat) = true := by
                rcases hc with rfl | hc
                · rfl
                · unfold pNum
                  simp [hc]
              have := span_pos hb hp
              omega
            · cases h
          · split at h
            · rename_i hc
              split at h
              · injection h with h
                injection h with h1 h2
                injection h2 with h2 h3
                have := span_pos hb hc
                omega
              · cases h
            · split at h
              · split at h
                · cases h
                · split at h
                  · cases h
                  · rename_i d hd
                    have hl2 := byL_lt hd
                    have hs2 := skipL_le s (skipL s i + 1)
                    split at h
                    · injection h with h
                      injection h with h1 h2
                      injection h2 with h2 h3
                      omega
                    · split at h
                      · cases h
                      · rename_i l' j' vals' he
                        have := ihi _ _ _ _ _ _ _ _ he
                        injection h with h
                        injection h with h1 h2
                        injection h2 with h2 h3
                        omega
              · split at h
                · split at h
                  · cases h
                  · split at h
                    · cases h
                    · rename_i d hd
                      have hl2 := byL_lt hd
                      have hs2 := skipL_le s (skipL s i + 1)
                      split at h
                      · injection h with h
                        injection h with h1 h2
                        injection h2 with h2 h3
                        omega
                      · split at h
                        · cases h
                        · rename_i ks' l' j' vals' he
                          have := ihf _ _ _ _ _ _ _ _ _ _ he
                          injection h with h
                          injection h with h1 h2
                          injection h2 with h2 h3
                          omega
                · split at h
                  · split at h
                    · cases h
                    · rename_i t j' he
                      have := quotP_facts _ _ _ _ _ _ he
                      injection h with h
                      injection h with h1 h2
                      injection h2 with h2 h3
                      omega
                  · cases h
    · unfold itemsP at h
      split at h
      · cases h
      · rename_i v1 i1 vals1 he
        have h1 := ihv _ _ _ _ _ _ _ he
        have hs1 := skipL_le s i1
        split at h
        · cases h
        · rename_i c hb
          have hl := byL_lt hb
          split at h
          · have := ihi _ _ _ _ _ _ _ _ h
            omega
          · split at h
            · injection h with h
              injection h with h1 h2
              injection h2 with h2 h3
              omega
            · cases h
    · have hsk := skipL_le s i
      unfold fieldsP at h
      split at h
      · cases h
      · split at h
        · cases h
        · split at h
          · cases h
          · rename_i t i1 hq
            have hq' := quotP_facts _ _ _ _ _ _ hq
            have hs1 := skipL_le s i1
            split at h
            · cases h
            · split at h
              · cases h
              · split at h
                · cases h
                · split at h
                  · cases h
                  · rename_i v1 i2 vals2 he
                    have h1 := ihv _ _ _ _ _ _ _ he
                    have hs2 := skipL_le s i2
                    split at h
                    · cases h
                    · rename_i e hb
                      have hl := byL_lt hb
                      split at h
                      · have := ihf _ _ _ _ _ _ _ _ _ _ h
                        omega
                      · split at h
                        · injection h with h
                          injection h with h1 h2
                          injection h2 with h2 h3
                          injection h3 with h3 h4
                          omega
                        · cases h
end Go.Proofs.YtakdhfjlhkejdaaGreatDoor

/-
  CONTRACTS of package json's parser: key.
-/
set_option linter.unusedVariables false
namespace Go.Proofs.YtakdhfjlhkejdaaGreatDoor
open Go.RowKit

/-- all blocks but two stand as they stood -/
structure KB (pb hm : Nat) (w w' : World) : Prop where
  os : w'.os = w.os
  tape : w'.tape = w.tape
  output : w'.output = w.output
  size : w.heap.size ≤ w'.heap.size
  block : ∀ k, k < w.heap.size → k ≠ pb → k ≠ hm → w'.heap[k]? = w.heap[k]?
theorem KB.ofGB {pb hm : Nat} {w w' : World} (h : GB pb w w') : KB pb hm w w' := ⟨h.os, h.tape, h.output, h.size, fun k hk h1 _ => h.block k hk (fun e => h1 (Option.some.inj e))⟩
theorem KB.ofMap {pb hm : Nat} {w w' : World} (h : w.grownBy w' (some hm)) : KB pb hm w w' := ⟨h.os, h.tape, h.output, h.size, fun k hk _ h1 => h.block k hk (fun e => h1 (Option.some.inj e))⟩
theorem KB.trans {pb hm : Nat} {a b c : World} (h : KB pb hm a b) (k : KB pb hm b c) : KB pb hm a c :=
  ⟨k.os.trans h.os, k.tape.trans h.tape, k.output.trans h.output, Nat.le_trans h.size k.size, fun x hx h1 h2 => (k.block x (Nat.lt_of_lt_of_le hx h.size) h1 h2).trans (h.block x hx h1 h2)⟩

theorem quotP_len : ∀ (n : Nat) (s : List UInt8) (i : Nat) (acc t : List UInt8) (j : Nat), quotP n s i acc = .ok (t, j) → acc.length ≤ i → t.length ≤ j := by
  intro n
  induction n with
  | zero => intro s i acc t j h; cases h
  | succ n ih =>
    intro s i acc t j h hl
    unfold quotP at h
    cases hb : byL s (i + spanL pPlain (s.drop i)) with
    | none => rw [hb] at h; cases h
    | some c =>
      rw [hb] at h
      simp only at h
      split at h
      · injection h with h
        injection h with h1 h2
        subst h1
        rw [List.length_append, List.length_take]
        omega
      · split at h
        · split at h
          · cases h
          · rename_i b k he
            have hx := esc_len he
            refine ih _ _ _ _ _ h ?_
            rw [List.length_append, List.length_append, List.length_take]
            omega
        · cases h

def keyP (s : List UInt8) (i : Nat) (ks : List ByteArray) : Except Fail (List UInt8 × Nat) := match byL s (skipL s i) with
  | none => .error (skipL s i, 21)
  | some c => if c ≠ 34 then .error (skipL s i, 20) else match quotP (s.length + 1) s (skipL s i + 1) [] with
    | .error e => .error e
    | .ok (t, i1) => if hasK ks ⟨t.toArray⟩ then .error (skipL s i, 25) else .ok (t, i1)
def KeyEnd (pb hm : Nat) (s : ByteArray) (v o : Nat) (w : World) (ks : List ByteArray) (r : Except Fail (List UInt8 × Nat)) (e : Ending) (w' : World) : Prop :=
  KB pb hm w w' ∧ match r with
  | .ok (t, j) => e = .returned (.string ⟨t.toArray⟩) ∧ PS w' pb s j v o ∧ OwnsK w' hm (ks ++ [⟨t.toArray⟩])
  | .error (i, k) => e = Pan i k
set_option maxRecDepth 10000000 in
set_option maxHeartbeats 8000000 in
theorem key_any (pb hm : Nat) (ks : List ByteArray) (s : ByteArray) (a v o : Nat) (w : World) (hs : s.size ≤ 1000000000) (hp : PS w pb s a v o) (ha : a ≤ s.size) (hk : OwnsK w hm ks) (hkl : ks.length < maxLen) (hne : pb ≠ hm) (hhm : hm < w.heap.size) :
    Calls Tryz.prog 123 #[.pointer (some ⟨pb, 0, none⟩), .map (some hm)] w (KeyEnd pb hm s v o w ks (keyP s.data.toList a ks)) := by
  have hs' : s.size ≤ maxLen := by unfold maxLen; omega
  have hlt := hp.lt
  have hsz : s.data.toList.length = s.size := (Lib.size_eq s).symm
  have hqb := skip_le s a ha
  generalize hR : keyP s.data.toList a ks = R
  have HR : Hid ((match byL s.data.toList (skipS s a) with
    | none => .error (skipS s a, 21)
    | some c => if c ≠ 34 then .error (skipS s a, 20) else match quotP (s.data.toList.length + 1) s.data.toList (skipS s a + 1) [] with
      | .error e => .error e
      | .ok (t, i1) => if hasK ks ⟨t.toArray⟩ then .error (skipS s a, 25) else .ok (t, i1)) = R) := hR
  clear hR
  go_enter Tryz.func123, Tryz.ntmps123
  go_wp2_with fail
  by_cases hend : skipS s a = s.size
  · refine (next_end pb s a v o _ hs' hp ha hend).mono ?_
    rintro e w1 ⟨rfl, hp1, hg1⟩
    unfold Pan
    have HR2 : Hid (Except.error (skipS s a, 21) = R) := by
      have := HR.out
      rw [byL_end (by rw [← Lib.size_eq]; omega)] at this
      exact this
    clear hend
    go_wp2_with fail
    rw [← HR2.out]
    exact ⟨rfl, .ofGB hg1, rfl⟩
  · have hq : skipS s a < s.size := by omega
    refine (next_byte pb s a v o _ hs' hp ha hq).mono ?_
    rintro e w1 ⟨rfl, hp1, hg1⟩
    obtain ⟨hb1, hb2⟩ := byS_val s (skipS s a) hq
    rw [hb1] at HR
    generalize skipS s a = q at *
    by_cases c34 : (s[q]'hq) = 34
    · have HR2 : Hid ((match quotP (s.data.toList.length + 1) s.data.toList (q + 1) [] with
        | .error e => .error e
        | .ok (t, i1) => if hasK ks ⟨t.toArray⟩ then .error (q, 25) else .ok (t, i1)) = R) := by
        have := HR.out
        simp only [c34, ne_eq, not_true_eq_false, if_false] at this
        exact this
      have te1 := u8_eq (c := 34) (show ((byS s q : Nat) : Int) = 34 by rw [hb2, c34]; rfl)
      clear hb1 hb2 c34 HR
      go_wp2_with fail
      refine (fault_any pb s q v o 25 w1 hp1).mono ?_
      rintro e w2 ⟨rfl, hbw2⟩
      have hp2 := hp1.below hbw2
      have hk2 := (hk.kept hg1 (fun e => hne (Option.some.inj e).symm)).kept (Below.gb hbw2 pb) (fun e => hne (Option.some.inj e).symm)
      have hg2 := hg1.trans (Below.gb hbw2 pb)
      go_wp2_with fail
      have hs2 := hg2.size
      have q0 : (w2.alloc (.cells #[.int .i64 q, .int .i64 25] 29)).cell? ⟨w2.heap.size, 0, none⟩ = some (.int .i64 q) := by simp
      have q1 : (w2.alloc (.cells #[.int .i64 q, .int .i64 25] 29)).cell? ⟨w2.heap.size, 1, none⟩ = some (.int .i64 25) := by simp
      have hp3 := hp2.alloc (.cells #[.int .i64 q, .int .i64 25] 29)
      have hg3 := hg2.alloc (.cells #[.int .i64 q, .int .i64 25] 29)
      have hk3 := hk2.kept ((GB.refl pb w2).alloc (.cells #[.int .i64 q, .int .i64 25] 29)) (fun e => hne (Option.some.inj e).symm)
      have hf1 : w2.heap.size ≠ pb := by omega
      have hf2 : w2.heap.size ≠ hm := by omega
      generalize w2.alloc (.cells #[.int .i64 q, .int .i64 25] 29) = w3 at *
      generalize w2.heap.size = fb at *
      refine (quoted_any pb s q v o w3 hs hp3 hq).mono ?_
      rintro e w4 ⟨hg4, hr⟩
      rw [hsz] at HR2
      have hlen := fun t j h => quotP_len (s.size + 1) s.data.toList (q + 1) [] t j h (by simp)
      have hfac := fun t j h => quotP_facts (s.size + 1) s.data.toList (q + 1) [] t j h
      generalize quotP (s.size + 1) s.data.toList (q + 1) [] = Q at *
      cases Q with
      | error f =>
        obtain ⟨i, k⟩ := f
        simp only at hr
        subst hr
        unfold Pan
        have HR3 : Hid (Except.error (i, k) = R) := HR2.out
        go_wp2_with fail
        rw [← HR3.out]
        exact ⟨rfl, .ofGB (hg3.trans hg4), rfl⟩
      | ok tj =>
        obtain ⟨t, j⟩ := tj
        obtain ⟨he, hp4⟩ := hr
        subst he
        have hl1 := hlen t j rfl
        have hl2 := hfac t j rfl
        have HR3 : Hid ((if hasK ks ⟨t.toArray⟩ = true then Except.error (q, 25) else Except.ok (t, j)) = R) := HR2.out
        have hts : (ByteArray.mk t.toArray).size ≤ maxLen := by
          show t.toArray.size ≤ maxLen
          unfold maxLen at *
          simp
          omega
        have hk4 := hk3.kept hg4 (fun e => hne (Option.some.inj e).symm)
        have y0 := hg4.cell q0 hf1
        have y1 := hg4.cell q1 hf1
        clear hlen hfac
        generalize hT : ByteArray.mk t.toArray = T at *
        have HT := Lib.hid hT
        clear hT
        go_wp2_with fail
        refine (add_any hm ks T w4 hk4 hts hkl).mono ?_
        rintro e w5 ⟨rfl, hk5, hg5⟩
        have hp5 : PS w5 pb s j v o := (hg5.block pb hp4.lt (fun e => hne (Option.some.inj e))).trans hp4
        have x0 := (hg5.cell_far ⟨fb, 0, none⟩ (cell_lt' y0) (fun e => hf2 (Option.some.inj e))).trans y0
        have x1 := (hg5.cell_far ⟨fb, 1, none⟩ (cell_lt' y1) (fun e => hf2 (Option.some.inj e))).trans y1
        have hKB : KB pb hm w w5 := (KB.ofGB (hg3.trans hg4)).trans (.ofMap hg5)
        cases hh : hasK ks T with
        | true =>
          have HR4 : Hid (Except.error (q, 25) = R) := by
            have := HR3.out
            rw [hh] at this
            exact this
          go_wp2_with fail
          rw [← HR4.out]
          exact ⟨rfl, hKB, rfl⟩
        | false =>
          have HR4 : Hid (Except.ok (t, j) = R) := by
            have := HR3.out
            rw [hh] at this
            exact this
          go_wp2_with fail
          go_ret
          rw [← HR4.out]
          refine ⟨hKB, ?_⟩
          simp only
          rw [HT.out]
          exact ⟨rfl, hp5, hk5⟩
    · have HR2 : Hid (Except.error (q, 20) = R) := by
        have := HR.out
        simp only [c34, ne_eq, not_false_eq_true, if_true] at this
        exact this
      have te1 := u8_ne (c := 34) (show ((byS s q : Nat) : Int) ≠ 34 by
        rw [hb2]
        intro h
        apply c34
        apply UInt8.toNat_inj.1
        have : (34 : UInt8).toNat = 34 := rfl
        omega)
      clear hb1 hb2 c34 HR
      go_wp2_with fail
      refine (fault_any pb s q v o 20 w1 hp1).mono ?_
      rintro e w2 ⟨rfl, hbw2⟩
      go_wp2_with fail
      rw [← HR2.out]
      exact ⟨rfl, .ofGB (hg1.trans (Below.gb hbw2 pb)), rfl⟩
end Go.Proofs.YtakdhfjlhkejdaaGreatDoor

/-
  What an object's closure keeps between two fields; how it changes by a key, by a longer list of keys, by a longer list of values.
-/
set_option linter.unusedVariables false
namespace Go.Proofs.YtakdhfjlhkejdaaGreatDoor
open Go.RowKit

theorem OwnsK.of_heap {w w' : World} {B : Nat} {ks : List ByteArray} (h : OwnsK w B ks) (he : w'.heap[B]? = w.heap[B]?) : OwnsK w' B ks := by
  obtain ⟨es, clock, hb, F, hs, hD⟩ := h
  exact ⟨es, clock, he.trans hb, F, hs, hD⟩
theorem OwnsK.lt {w : World} {B : Nat} {ks : List ByteArray} (h : OwnsK w B ks) : B < w.heap.size := by
  obtain ⟨es, clock, hb, _⟩ := h
  exact (Array.getElem?_eq_some_iff.1 hb).1
theorem own_of_heap {w w' : World} {base : Nat} {e : TypeId} {size m : Nat} {v : Value} {xs : List Value} (h : w.ownsRow base e size v m xs) (he : ∀ g, v.ownBlock = some g → w'.heap[g]? = w.heap[g]?) : w'.ownsRow base e size v m xs := by
  refine ⟨h.1, ?_⟩
  rcases h.2 with hv | ⟨g', c', cur, hv, hb, hg, rest⟩
  · exact .inl hv
  · exact .inr ⟨g', c', cur, hv, hb, (he g' (by rw [hv]; rfl)).trans hg, rest⟩
def hidO (vb rv hm : Nat) (kv lv : Value) : Nat → Bool := fun k => k == vb || k == rv || k == hm || some k == kv.ownBlock || some k == lv.ownBlock
theorem hidO_false {vb rv hm : Nat} {kv lv : Value} {k : Nat} (h : hidO vb rv hm kv lv k = false) : k ≠ vb ∧ k ≠ rv ∧ k ≠ hm ∧ some k ≠ kv.ownBlock ∧ some k ≠ lv.ownBlock := by
  simp only [hidO, Bool.or_eq_false_iff, beq_eq_false_iff_ne] at h
  exact ⟨h.1.1.1.1, h.1.1.1.2, h.1.1.2, h.1.2, h.2⟩
theorem hidO_mk {vb rv hm : Nat} {kv lv : Value} {k : Nat} (h : k ≠ vb ∧ k ≠ rv ∧ k ≠ hm ∧ some k ≠ kv.ownBlock ∧ some k ≠ lv.ownBlock) : hidO vb rv hm kv lv k = false := by
  simp only [hidO, Bool.or_eq_false_iff, beq_eq_false_iff_ne]
  exact ⟨⟨⟨⟨h.1, h.2.1⟩, h.2.2.1⟩, h.2.2.2.1⟩, h.2.2.2.2⟩
/-- between two fields of an object: km: the map's keys, ks: the list's; w0: the world when the object began -/
structure ObjI (w0 : World) (pb pbx hb hm vb rv : Nat) (s : ByteArray) (w : World) (km ks : List ByteArray) (l : List JV) (kv lv : Value) (xs : List Value) (a v o : Nat) : Prop where
  ps : PS w pb s a v o
  box : w.heap[pbx]? = some (.cells #[.pointer (some ⟨pb, 0, none⟩)] 89 (0, 0))
  hbx : w.heap[hb]? = some (.cells #[.map (some hm)] 122 (0, 0))
  map : OwnsK w hm km
  rb : RB w vb (.int .u8 7) (.string ⟨#[]⟩) kv lv
  res : RB w rv (.int .u8 0) (.string ⟨#[]⟩) (.slice none 0 0) (.slice none 0 0)
  ownk : w.ownsRow w0.heap.size 9 1 kv ks.length (ks.map .string)
  own : w.ownsRow w0.heap.size 26 4 lv l.length xs
  far : ∀ k, some k = lv.ownBlock ∨ some k = kv.ownBlock → k ≠ vb ∧ k ≠ pbx ∧ k ≠ rv ∧ k ≠ hb ∧ k ≠ hm
  apart : ∀ k, some k = lv.ownBlock → some k ≠ kv.ownBlock
  items : ItemsOK (hideW w (hidO vb rv hm kv lv)) w0.heap.size l xs
  gb : GB pb w0 w
  lo : pb < w0.heap.size ∧ w0.heap.size ≤ pbx ∧ w0.heap.size ≤ hb ∧ w0.heap.size ≤ hm ∧ w0.heap.size ≤ vb ∧ w0.heap.size ≤ rv
  ne : vb ≠ pbx ∧ vb ≠ hb ∧ vb ≠ hm ∧ vb ≠ rv ∧ rv ≠ pbx ∧ rv ≠ hb ∧ rv ≠ hm ∧ hm ≠ pbx ∧ hm ≠ hb
section
variable {w0 : World} {pb pbx hb hm vb rv : Nat} {s : ByteArray} {w : World} {km ks : List ByteArray} {l : List JV} {kv lv : Value} {lp : Option Addr} {lc : Nat} {xs : List Value} {a v o : Nat}
theorem ObjI.lts (h : ObjI w0 pb pbx hb hm vb rv s w km ks l kv lv xs a v o) : pbx < w.heap.size ∧ hb < w.heap.size ∧ hm < w.heap.size ∧ vb < w.heap.size ∧ rv < w.heap.size ∧
    (∀ k, some k = lv.ownBlock → w0.heap.size ≤ k ∧ k < w.heap.size) ∧ (∀ k, some k = kv.ownBlock → w0.heap.size ≤ k ∧ k < w.heap.size) :=
  ⟨(Array.getElem?_eq_some_iff.1 h.box).1, (Array.getElem?_eq_some_iff.1 h.hbx).1, h.map.lt, h.rb.lt, h.res.lt, fun k e => h.own.lt k e.symm, fun k e => h.ownk.lt k e.symm⟩
/-- the one law of change: what may differ, and what stands -/
theorem ObjI.upd (h : ObjI w0 pb pbx hb hm vb rv s w km ks l kv lv xs a v o) {w' : World} {km' ks' : List ByteArray} {l' : List JV} {kv' lv' : Value} {ys : List Value} {a' v' o' : Nat}
    (hps : PS w' pb s a' v' o') (hgb : GB pb w0 w') (hsz : w.heap.size ≤ w'.heap.size)
    (hsame : ∀ k, k < w.heap.size → k ≠ pb → k ≠ vb → k ≠ hm → some k ≠ kv.ownBlock → some k ≠ lv.ownBlock → w'.heap[k]? = w.heap[k]?)
    (hmap : OwnsK w' hm km') (hrb : RB w' vb (.int .u8 7) (.string ⟨#[]⟩) kv' lv')
    (hownk : w'.ownsRow w0.heap.size 9 1 kv' ks'.length (ks'.map .string)) (hown : w'.ownsRow w0.heap.size 26 4 lv' l'.length ys)
    (hnk : ∀ k, some k = kv'.ownBlock → some k = kv.ownBlock ∨ w.heap.size ≤ k) (hnl : ∀ k, some k = lv'.ownBlock → some k = lv.ownBlock ∨ w.heap.size ≤ k)
    (hap : ∀ k, some k = lv'.ownBlock → some k ≠ kv'.ownBlock)
    (hit : ItemsOK (hideW w' (hidO vb rv hm kv' lv')) w0.heap.size l xs → ItemsOK (hideW w' (hidO vb rv hm kv' lv')) w0.heap.size l' ys) :
    ObjI w0 pb pbx hb hm vb rv s w' km' ks' l' kv' lv' ys a' v' o' := by
  obtain ⟨t1, t2, t3, t4, t5, t6, t7⟩ := h.lts
  obtain ⟨p1, p2, p3, p4, p5, p6⟩ := h.lo
  obtain ⟨n1, n2, n3, n4, n5, n6, n7, n8, n9⟩ := h.ne
  have hst : ∀ k, k < w.heap.size → k ≠ pb → hidO vb rv hm kv lv k = false → w'.heap[k]? = w.heap[k]? ∧ hidO vb rv hm kv' lv' k = false := by
    intro k hk hp hh
    obtain ⟨e1, e2, e3, e4, e5⟩ := hidO_false hh
    refine ⟨hsame k hk hp e1 e3 e4 e5, hidO_mk ⟨e1, e2, e3, fun e => ?_, fun e => ?_⟩⟩
    · rcases hnk k e with x | x
      · exact e4 x
      · omega
    · rcases hnl k e with x | x
      · exact e5 x
      · omega
  have fx : ∀ x, (x = pbx ∨ x = hb ∨ x = rv) → w'.heap[x]? = w.heap[x]? := by
    intro x hx
    refine hsame x (by omega) (by omega) (by omega) (by omega) (fun e => ?_) (fun e => ?_)
    · have := h.far x (.inr e); omega
    · have := h.far x (.inl e); omega
  refine ⟨hps, (fx pbx (.inl rfl)).trans h.box, (fx hb (.inr (.inl rfl))).trans h.hbx, hmap, hrb, (fx rv (.inr (.inr rfl))).trans h.res, hownk, hown, ?_, hap, hit (h.items.stays ?_), hgb, h.lo, h.ne⟩
  · intro k hk
    have : (some k = lv.ownBlock ∨ some k = kv.ownBlock) ∨ w.heap.size ≤ k := by
      rcases hk with e | e
      · rcases hnl k e with x | x
        · exact .inl (.inl x)
        · exact .inr x
      · rcases hnk k e with x | x
        · exact .inl (.inr x)
        · exact .inr x
    rcases this with x | x
    · exact h.far k x
    · omega
  · intro y c hl hy
    rw [hide_cell] at hy
    split at hy
    · cases hy
    · rename_i hn
      have hyl := cell_lt hy
      obtain ⟨e1, e2⟩ := hst y.block hyl (by omega) (by simpa using hn)
      rw [hide_cell, if_neg (by rw [e2]; simp), World.cell?_of_block e1]
      exact hy
/-- by a key -/
theorem ObjI.keyed (h : ObjI w0 pb pbx hb hm vb rv s w km ks l kv lv xs a v o) {w' : World} {km' : List ByteArray} {a' v' o' : Nat} (hk : KB pb hm w w') (hps : PS w' pb s a' v' o') (hmap : OwnsK w' hm km') :
    ObjI w0 pb pbx hb hm vb rv s w' km' ks l kv lv xs a' v' o' := by
  obtain ⟨t1, t2, t3, t4, t5, t6, t7⟩ := h.lts
  obtain ⟨p1, p2, p3, p4, p5, p6⟩ := h.lo
  obtain ⟨n1, n2, n3, n4, n5, n6, n7, n8, n9⟩ := h.ne
  refine h.upd hps ⟨hk.os.trans h.gb.os, hk.tape.trans h.gb.tape, hk.output.trans h.gb.output, Nat.le_trans h.gb.size hk.size, fun k hk1 hk2 => ?_⟩ hk.size (fun k hk1 hk2 hk3 hk4 _ _ => hk.block k hk1 hk2 hk4) hmap ((hk.block vb t4 (by omega) (by omega)).trans h.rb)
    (own_of_heap h.ownk fun g e => ?_) (own_of_heap h.own fun g e => ?_) (fun k e => .inl e) (fun k e => .inl e) h.apart id
  · have := h.gb.size
    exact (hk.block k (by omega) (fun e => hk2 (by rw [e])) (by omega)).trans (h.gb.block k hk1 hk2)
  · have h1 := t7 g e.symm
    have h2 := h.far g (.inr e.symm)
    exact hk.block g h1.2 (by omega) h2.2.2.2.2
  · have h1 := t6 g e.symm
    have h2 := h.far g (.inl e.symm)
    exact hk.block g h1.2 (by omega) h2.2.2.2.2
theorem ObjI.below (h : ObjI w0 pb pbx hb hm vb rv s w km ks l kv lv xs a v o) {w' : World} {a' v' o' : Nat} (hg : GB pb w w') (hp : PS w' pb s a' v' o') : ObjI w0 pb pbx hb hm vb rv s w' km ks l kv lv xs a' v' o' :=
  h.keyed (.ofGB hg) hp (h.map.of_heap (hg.block hm h.map.lt (fun e => by have := h.lo; injection e with e; omega)))
/-- by a longer list of keys: w2: the world behind the alloc of what is appended; w3: behind the append; w4: behind the store of the header -/
theorem ObjI.keys_end (h : ObjI w0 pb pbx hb hm vb rv s w km ks l kv lv xs a v o) {w2 w3 w4 : World} {t : ByteArray} {g cap : Nat} (h2 : Below w.heap.size w w2) (hgrow : w2.grownBy w3 kv.ownBlock) (hat : kv.ownBlock = some g ∨ g = w2.heap.size)
    (hown3 : w3.ownsRow w0.heap.size 9 1 (.slice (some ⟨g, 0, none⟩) (ks.length + 1) cap) (ks.length + 1) (ks.map .string ++ [.string t])) (e4 : w4 = w3.setCell ⟨vb, 2, none⟩ (.slice (some ⟨g, 0, none⟩) (ks.length + 1) cap)) :
    ObjI w0 pb pbx hb hm vb rv s w4 km (ks ++ [t]) l (.slice (some ⟨g, 0, none⟩) (ks ++ [t]).length cap) lv xs a v o := by
  obtain ⟨t1, t2, t3, t4, t5, t6, t7⟩ := h.lts
  obtain ⟨p1, p2, p3, p4, p5, p6⟩ := h.lo
  obtain ⟨n1, n2, n3, n4, n5, n6, n7, n8, n9⟩ := h.ne
  have hs2 := h2.size
  have hs3 := hgrow.size
  have hgs := h.gb.size
  have hx : ∀ k, k < w.heap.size → some k ≠ kv.ownBlock → w3.heap[k]? = w.heap[k]? := fun k hk hne => (hgrow.block k (by omega) hne).trans (h2.block k hk)
  have hg4 : ∀ k, k ≠ vb → w4.heap[k]? = w3.heap[k]? := fun k hk => by rw [e4]; exact Below.heap_setCell _ _ _ _ hk
  have hgv : g ≠ vb := by
    rcases hat with e | e
    · have := h.far g (.inr e.symm); omega
    · omega
  have fk : ∀ k, some k = kv.ownBlock → k ≠ pb ∧ k ≠ vb ∧ k ≠ pbx ∧ k ≠ rv ∧ k ≠ hb ∧ k ≠ hm := fun k e => by
    have h1 := h.far k (.inr e)
    have h2 := t7 k e
    omega
  have hpb : w4.heap[pb]? = w.heap[pb]? := (hg4 pb (by omega)).trans (hx pb h.ps.lt (fun e => (fk pb e).1 rfl))
  have hlen : (ks ++ [t]).length = ks.length + 1 := by simp
  rw [hlen]
  refine h.upd (hpb.trans h.ps) ⟨?_, ?_, ?_, ?_, fun k hk1 hk2 => ?_⟩ (by rw [e4, set_size]; omega) (fun k hk1 _ hk3 _ hk5 _ => (hg4 k hk3).trans (hx k hk1 hk5)) (h.map.of_heap ((hg4 hm (by omega)).trans (hx hm t3 (fun e => (fk hm e).2.2.2.2.2 rfl)))) ?_ ?_ (own_of_heap h.own fun k e => ?_) (fun k e => ?_) (fun k e => .inl e) (fun k e1 e2 => ?_) id
  · rw [e4]; exact hgrow.os.trans (h2.os.trans h.gb.os)
  · rw [e4]; exact hgrow.tape.trans (h2.tape.trans h.gb.tape)
  · rw [e4]; exact hgrow.output.trans (h2.output.trans h.gb.output)
  · rw [e4, set_size]; omega
  · rw [hg4 k (by omega), hx k (by omega) (fun e => by have := t7 k e; omega)]
    exact h.gb.block k hk1 hk2
  · have hr3 : RB w3 vb (.int .u8 7) (.string ⟨#[]⟩) kv lv := (hx vb t4 (fun e => (fk vb e).2.1 rfl)).trans h.rb
    rw [e4]
    unfold RB at *
    simp [World.setCell, Array.getElem?_modify, hr3]
  · rw [hlen, List.map_append]
    exact own_eq hown3 (hg4 g hgv)
  · have h1 := t6 k e.symm
    have h2 := h.far k (.inl e.symm)
    exact (hg4 k h2.1).trans (hx k h1.2 (h.apart k e.symm))
  · injection e with e
    subst e
    rcases hat with e | e
    · exact .inl e.symm
    · right; omega
  · injection e2 with e2
    subst e2
    rcases hat with e | e
    · exact h.apart k e1 e.symm
    · have := t6 k e1; omega
/-- by a longer list of values: as an array's -/
theorem ObjI.vals_end (h : ObjI w0 pb pbx hb hm vb rv s w km ks l kv (.slice lp l.length lc) xs a v o)
    {wc w1 w2 w3 w4 : World} {x : JV} {c0 c1 c2 c3 : Value} {j v' g cap : Nat} (hc : Below w.heap.size w wc) (hg1 : GB pb wc w1) (hV : IsV w1 wc.heap.size x c0 c1 c2 c3) (hp1 : PS w1 pb s j v' o) (h2 : Below w1.heap.size w1 w2)
    (hgrow : w2.grownBy w3 (Value.slice lp l.length lc).ownBlock) (hat : (Value.slice lp l.length lc).ownBlock = some g ∨ g = w2.heap.size)
    (hown : w4.ownsRow w0.heap.size 26 4 (.slice (some ⟨g, 0, none⟩) (l.length + 1) cap) (l.length + 1) (xs ++ [c0, c1, c2, c3])) (hvb : RB w4 vb (.int .u8 7) (.string ⟨#[]⟩) kv (.slice (some ⟨g, 0, none⟩) (l.length + 1) cap))
    (hfr : ∀ k, k ≠ g → k ≠ vb → w4.heap[k]? = w3.heap[k]?) (hsz : w4.heap.size = w3.heap.size) (hos : w4.os = w3.os ∧ w4.tape = w3.tape ∧ w4.output = w3.output) :
    GB pb w0 w4 ∧ ∃ lp' lc' xs', ObjI w0 pb pbx hb hm vb rv s w4 km ks (l ++ [x]) kv (.slice lp' (l ++ [x]).length lc') xs' j v' o := by
  obtain ⟨t1, t2, t3, t4, t5, t6, t7⟩ := h.lts
  obtain ⟨p1, p2, p3, p4, p5, p6⟩ := h.lo
  obtain ⟨n1, n2, n3, n4, n5, n6, n7, n8, n9⟩ := h.ne
  have hgl := hown.lt g rfl
  have hs1 := hc.size
  have hs2 := hg1.size
  have hs3 := h2.size
  have hs4 := hgrow.size
  have hgs := h.gb.size
  have hg0 : (some g = (Value.slice lp l.length lc).ownBlock ∧ g < w.heap.size ∧ g ≠ vb ∧ g ≠ pbx ∧ g ≠ rv ∧ g ≠ hb ∧ g ≠ hm ∧ some g ≠ kv.ownBlock) ∨ g = w2.heap.size := by
    rcases hat with e | e
    · have h1 := t6 g e.symm
      have h2 := h.far g (.inl e.symm)
      exact .inl ⟨e.symm, h1.2, h2.1, h2.2.1, h2.2.2.1, h2.2.2.2.1, h2.2.2.2.2, h.apart g e.symm⟩
    · exact .inr e
  have hgv : g ≠ vb := by
    rcases hg0 with e | e
    · exact e.2.2.1
    · omega
  have hkey : ∀ k, k < w.heap.size → k ≠ pb → k ≠ vb → some k ≠ (Value.slice lp l.length lc).ownBlock → w4.heap[k]? = w.heap[k]? := by
    intro k hk h1 h3 h4
    have hkg : k ≠ g := by
      rcases hg0 with e | e
      · intro e2; subst e2; exact h4 e.1
      · omega
    rw [hfr k hkg h3, hgrow.block k (by omega) h4, h2.block k (by omega), hg1.block k (by omega) (fun e => h1 (Option.some.inj e)), hc.block k hk]
  have hpb4 : w4.heap[pb]? = w1.heap[pb]? := by
    rw [hfr pb (by omega) (by omega), hgrow.block pb (by omega) (fun e => by have := (t6 pb e).1; omega), h2.block pb (by omega)]
  have hgb : GB pb w0 w4 := by
    have k0 := ((h.gb.trans (Below.gb hc pb)).trans hg1).trans (Below.gb h2 pb)
    refine ⟨?_, ?_, ?_, ?_, ?_⟩
    · rw [hos.1, hgrow.os]; exact k0.os
    · rw [hos.2.1, hgrow.tape]; exact k0.tape
    · rw [hos.2.2, hgrow.output]; exact k0.output
    · have := k0.size; omega
    · intro k hk hne
      rw [hfr k (by omega) (by omega), hgrow.block k (by omega) (fun e => by have := (t6 k e).1; omega)]
      exact k0.block k hk hne
  have hlen : (l ++ [x]).length = l.length + 1 := by simp
  refine ⟨hgb, some ⟨g, 0, none⟩, cap, xs ++ [c0, c1, c2, c3], ?_⟩
  rw [hlen]
  refine h.upd (hpb4.trans hp1) hgb (by omega) (fun k hk1 hk2 hk3 _ _ hk6 => hkey k hk1 hk2 hk3 hk6) (h.map.of_heap (hkey hm t3 (by omega) (by omega) (fun e => (h.far hm (.inl e)).2.2.2.2 rfl))) hvb (own_of_heap h.ownk fun k e => ?_) (by rw [hlen]; exact hown) (fun k e => .inl e) (fun k e => ?_) (fun k e1 e2 => ?_) (fun hI => ItemsOK.snoc hI (hV.stays ?_ (by omega)))
  · have h1 := t7 k e.symm
    have h2 := h.far k (.inr e.symm)
    exact hkey k h1.2 (by omega) h2.1 (fun e2 => h.apart k e2 e.symm)
  · injection e with e
    subst e
    rcases hg0 with e | e
    · exact .inl e.1
    · right; omega
  · injection e1 with e1
    subst e1
    rcases hg0 with e | e
    · exact e.2.2.2.2.2.2.2 e2
    · have := t7 k e2; omega
  · intro y c hl hy
    have hyl := cell_lt hy
    have hyg : y.block ≠ g := by
      rcases hg0 with e | e <;> omega
    rw [hide_cell, if_neg (by rw [hidO_mk ⟨by omega, by omega, by omega, fun e => by have := (t7 _ e).2; omega, fun e => hyg (Option.some.inj e)⟩]; simp)]
    rw [World.cell?_of_block (w := w1)]
    · exact hy
    · rw [hfr _ hyg (by omega), hgrow.block _ (by omega) (fun e => by have := (t6 _ e).2; omega), h2.block _ hyl]
end
end Go.Proofs.YtakdhfjlhkejdaaGreatDoor

/-
  CONTRACTS of package json's parser: array.
-/
set_option linter.unusedVariables false
namespace Go.Proofs.YtakdhfjlhkejdaaGreatDoor
open Go.RowKit

/-- value's contract at a fuel -/
def ValOK (n : Nat) : Prop := ∀ (pb : Nat) (s : ByteArray) (a v o : Nat) (w : World), s.size ≤ 65536 → PS w pb s a v o → a ≤ s.size → v ≤ 4096 → o ≤ 48 → 2 * (s.size - a) + 2 ≤ n →
  Calls Tryz.prog 62 #[.pointer (some ⟨pb, 0, none⟩)] w (ValEnd pb s o w (valP n s.data.toList a v o))

def stepA (s : List UInt8) (o n : Nat) (g : List JV × Nat × Nat) : Except Fail (List JV × Nat × Nat) := match valP n s g.2.1 g.2.2 o with
  | .error e => .error e
  | .ok (x, j, v') => .ok (g.1 ++ [x], j, v')
def posA (g : List JV × Nat × Nat) : Nat := g.2.1
def valsA (g : List JV × Nat × Nat) : Nat := g.2.2
def mvA (g : List JV × Nat × Nat) (q : Nat) : List JV × Nat × Nat := (g.1, q, g.2.2)
theorem items_go (s : List UInt8) (o : Nat) : ∀ (n i v : Nat) (acc : List JV), itemsP n s i v o acc = goB (stepA s o) posA mvA 93 s n (acc, i, v)
  | 0, _, _, _ => by unfold itemsP goB; rfl
  | n + 1, i, v, acc => by
    unfold itemsP goB stepA afterB
    simp only [posA, mvA]
    cases valP n s i v o with
    | error e => rfl
    | ok t =>
      obtain ⟨x, j, v'⟩ := t
      simp only
      cases byL s (skipL s j) with
      | none => rfl
      | some c =>
        simp only
        split
        · exact items_go s o n _ _ _
        · rfl
def arrP (n : Nat) (s : List UInt8) (a v o : Nat) : Except Fail (JV × Nat × Nat) := match betB (stepA s (o + 1)) posA mvA 93 s n a o (fun q => ([], q, v)) with
  | .error e => .error e
  | .ok g => .ok (.mk 6 noText [] g.1, g.2.1, g.2.2)
/-- between two values of an array, as between's state -/
def ArrS (w0 : World) (pb pbx vb rv : Nat) (s : ByteArray) (o : Nat) (w : World) (g : List JV × Nat × Nat) : Prop :=
  (∃ lp lc xs, ArrI w0 pb pbx vb rv s w g.1 (.slice lp g.1.length lc) xs g.2.1 g.2.2 o) ∧ g.1.length ≤ g.2.1 ∧ g.2.2 ≤ 4096

theorem arr_item (n : Nat) (hIH : ∀ m, m < n → ValOK m) (w0 : World) (pb pbx vb rv : Nat) (s : ByteArray) (o : Nat) (hs : s.size ≤ 65536) (ho : o + 1 ≤ 48) (m : Nat) (w : World) (g : List JV × Nat × Nat) (hm : m < n)
    (hI : ArrS w0 pb pbx vb rv s (o + 1) w g) (hpos : posA g ≤ s.size) (hf : 2 * (s.size - posA g) + 2 ≤ m) :
    (∀ g', stepA s.data.toList (o + 1) m g = .ok g' → posA g < posA g' ∧ posA g' ≤ s.size) ∧
      Calls Tryz.prog 121 #[.pointer (some ⟨vb, 0, none⟩), .pointer (some ⟨pbx, 0, none⟩)] w (StepEnd pb w0 (ArrS w0 pb pbx vb rv s (o + 1)) (stepA s.data.toList (o + 1) m g)) := by
  obtain ⟨l, a, v⟩ := g
  obtain ⟨⟨lp, lc, xs, hA⟩, hlen, hv⟩ := hI
  simp only [posA] at *
  have hfact := fun x j v' h => (valP_facts m).1 s.data.toList a v (o + 1) x j v' h
  have hsz : s.data.toList.length = s.size := (Lib.size_eq s).symm
  constructor
  · intro g' hg'
    unfold stepA at hg'
    simp only at hg'
    cases hr : valP m s.data.toList a v (o + 1) with
    | error e => rw [hr] at hg'; cases hg'
    | ok t =>
      obtain ⟨x, j, v'⟩ := t
      rw [hr] at hg'
      injection hg' with hg'
      subst hg'
      have := hfact x j v' hr
      simp only
      omega
  · refine (arrItem_any w0 pb pbx vb rv s w l lp lc xs a v (o + 1) hA (valP m s.data.toList a v (o + 1)) (by unfold maxLen; omega) (by omega) (fun w1 hp1 => hIH m hm pb s a v (o + 1) w1 hs hp1 hpos hv ho hf)).mono ?_
    rintro e w' ⟨hg, hr⟩
    refine ⟨hg, ?_⟩
    unfold stepA
    simp only
    cases hc : valP m s.data.toList a v (o + 1) with
    | error f => rw [hc] at hr; exact hr
    | ok t =>
      obtain ⟨x, j, v'⟩ := t
      rw [hc] at hr
      have := hfact x j v' hc
      refine ⟨hr.1, hr.2, ?_, this.2.2 hv⟩
      simp only [List.length_append, List.length_cons, List.length_nil]
      omega
set_option maxRecDepth 10000000 in
set_option maxHeartbeats 8000000 in
theorem array_any (n : Nat) (hIH : ∀ m, m < n → ValOK m) (pb : Nat) (s : ByteArray) (a v o : Nat) (w : World) (hs : s.size ≤ 65536) (hp : PS w pb s a v o) (ha : a < s.size) (hv : v ≤ 4096) (ho : o ≤ 48) (hn : 2 * (s.size - a) + 1 ≤ n) :
    Calls Tryz.prog 96 #[.pointer (some ⟨pb, 0, none⟩)] w (ValEnd pb s o w (arrP n s.data.toList a v o)) := by
  have hlt := hp.lt
  have HIH := Lib.hid hIH
  clear hIH
  generalize hR0 : arrP n s.data.toList a v o = R0
  have HR0 := Lib.hid hR0
  clear hR0
  go_enter Tryz.func96, Tryz.ntmps96
  go_wp2_with fail
  have hb1 := heap_alloc_new w (Obj.cells #[Value.pointer (some { block := pb, off := 0 })] 89)
  have hs1 : (w.alloc (Obj.cells #[Value.pointer (some { block := pb, off := 0 })] 89)).heap.size = w.heap.size + 1 := by simp
  have hp1 := hp.alloc (Obj.cells #[Value.pointer (some { block := pb, off := 0 })] 89)
  have hg1 := (GB.refl pb w).alloc (Obj.cells #[Value.pointer (some { block := pb, off := 0 })] 89)
  generalize w.alloc (Obj.cells #[Value.pointer (some { block := pb, off := 0 })] 89) = w1 at *
  have hb2 := (Lib.alloc_old w1 (Obj.cells #[Value.int IntKind.u8 0, Value.string { data := #[] }, Value.slice none 0 0, Value.slice none 0 0] 26) w.heap.size (by omega)).trans hb1
  have hr2 := RB.new w1 (.int .u8 0) (.string ⟨#[]⟩) (.slice none 0 0) (.slice none 0 0)
  rw [hs1] at hr2
  have hp2 := hp1.alloc (Obj.cells #[Value.int IntKind.u8 0, Value.string { data := #[] }, Value.slice none 0 0, Value.slice none 0 0] 26)
  have hg2 := hg1.alloc (Obj.cells #[Value.int IntKind.u8 0, Value.string { data := #[] }, Value.slice none 0 0, Value.slice none 0 0] 26)
  have hs2 : (w1.alloc (Obj.cells #[Value.int IntKind.u8 0, Value.string { data := #[] }, Value.slice none 0 0, Value.slice none 0 0] 26)).heap.size = w.heap.size + 1 + 1 := by simp [hs1]
  generalize w1.alloc (Obj.cells #[Value.int IntKind.u8 0, Value.string { data := #[] }, Value.slice none 0 0, Value.slice none 0 0] 26) = w2 at *
  have hb3 := (Lib.alloc_old w2 (Obj.cells #[Value.int IntKind.u8 6, Value.string { data := #[] }, Value.slice none 0 0, Value.slice none 0 0] 26) w.heap.size (by omega)).trans hb2
  have hr3 := hr2.alloc (Obj.cells #[Value.int IntKind.u8 6, Value.string { data := #[] }, Value.slice none 0 0, Value.slice none 0 0] 26)
  have hv3 := RB.new w2 (.int .u8 6) (.string ⟨#[]⟩) (.slice none 0 0) (.slice none 0 0)
  rw [hs2] at hv3
  have hp3 := hp2.alloc (Obj.cells #[Value.int IntKind.u8 6, Value.string { data := #[] }, Value.slice none 0 0, Value.slice none 0 0] 26)
  have hg3 := hg2.alloc (Obj.cells #[Value.int IntKind.u8 6, Value.string { data := #[] }, Value.slice none 0 0, Value.slice none 0 0] 26)
  generalize w2.alloc (Obj.cells #[Value.int IntKind.u8 6, Value.string { data := #[] }, Value.slice none 0 0, Value.slice none 0 0] 26) = w3 at *
  have hA0 : ArrI w pb w.heap.size (w.heap.size + 1 + 1) (w.heap.size + 1) s w3 [] (.slice none 0 0) [] a v o :=
    ⟨hp3, hb3, hv3, hr3, World.ownsRow_nil _ _ _ _, ⟨by simp [Value.ownBlock], by simp [Value.ownBlock], by simp [Value.ownBlock]⟩, ItemsOK.nil _ _, hg3, by omega⟩
  clear hb1 hb2 hb3 hr2 hr3 hv3 hp1 hp2 hg1 hg2 hs1 hs2
  refine (between_arr (stepA s.data.toList (o + 1)) posA valsA mvA n w (w.heap.size + 1 + 1) w.heap.size pb s o (by omega) (ArrS w pb w.heap.size (w.heap.size + 1 + 1) (w.heap.size + 1) s)
    (fun o w' g h => by obtain ⟨⟨_, _, _, h⟩, _⟩ := h; exact h.ps) (fun o w' g h => by obtain ⟨⟨_, _, _, h⟩, _⟩ := h; exact h.gb)
    (fun o o' w w' g q h hg hq hp' => by obtain ⟨⟨lp, lc, xs, h⟩, hl, hv⟩ := h; unfold posA at hq; exact ⟨⟨lp, lc, xs, h.below hg hp'⟩, Nat.le_trans hl hq, hv⟩) (fun g q => ⟨rfl, rfl⟩)
    (fun h48 m w' g hm hI hq hf => arr_item n HIH.out w pb w.heap.size (w.heap.size + 1 + 1) (w.heap.size + 1) s o hs (by omega) m w' g hm hI hq hf)
    (fun q => ([], q, v)) w3 a v hp3 ha ho hg3 (fun o' w' q hg hp' => ⟨⟨none, 0, [], hA0.below hg hp'⟩, Nat.zero_le _, hv⟩) (fun q => ⟨rfl, rfl⟩) hn).mono ?_
  rintro e w5 ⟨hg5, hr⟩
  have HR1 : Hid ((match betB (stepA s.data.toList (o + 1)) posA mvA 93 s.data.toList n a o (fun q => ([], q, v)) with
    | .error e => .error e
    | .ok g => .ok (.mk 6 noText [] g.1, g.2.1, g.2.2)) = R0) := HR0.out
  clear HR0
  generalize betB (stepA s.data.toList (o + 1)) posA mvA 93 s.data.toList n a o (fun q => ([], q, v)) = R at *
  cases R with
  | error f =>
    obtain ⟨i, k⟩ := f
    simp only at hr
    subst hr
    unfold Pan
    have HR2 : Hid (Except.error (i, k) = R0) := HR1.out
    go_wp2_with fail
    rw [← HR2.out]
    exact ⟨rfl, hg5, rfl⟩
  | ok g =>
    obtain ⟨l, j, v'⟩ := g
    obtain ⟨he, ⟨lp, lc, xs, hA⟩, _, _⟩ := hr
    subst he
    obtain ⟨b0, b1, b2, b3⟩ := hA.rb.cells
    obtain ⟨d0, d1, d2, d3⟩ := hA.res.cells
    obtain ⟨z0, z1, z2, z3⟩ := hA.res.frozen
    simp only at b3
    have HR2 : Hid (Except.ok (.mk 6 noText [] l, j, v') = R0) := HR1.out
    go_wp2_with fail
    rw [← HR2.out]
    refine bodyPost_ret (v := .agg #[.int .u8 6, .string ⟨#[]⟩, .slice none 0 0, .slice lp l.length lc]) ?_ rfl ⟨hg5.set4 (by omega) _ _ _ _, _, _, _, _, rfl, ?_, hA.ps.set4 (by omega) _ _ _ _⟩
    · simp [results, Tryz.results96, go_sem, d0, d1, d2, d3]
    · simp only [IsV]
      refine ⟨rfl, rfl, ⟨none, 0, rfl, .inl rfl⟩, lp, lc, rfl, ?_⟩
      rcases hA.own.2 with ⟨e1, e2⟩ | ⟨g, cap, cur, e1, hlo, hrest⟩
      · exact .inl (List.eq_nil_of_length_eq_zero e2)
      · right
        have hfar := hA.far
        rw [e1] at hfar
        injection e1 with e1 e2 e3
        refine ⟨g, 0, e1, hlo, ?_⟩
        have hgr : g ≠ w.heap.size + 1 := fun e => hfar.2.2 (by rw [e]; rfl)
        refine (hA.items.stays (w' := _) ?_).row l xs 0 ?_
        · intro y c hl hy
          rw [hide_cell] at hy
          split at hy
          · cases hy
          · rename_i hn
            simp only [hidA, Bool.or_eq_true, beq_iff_eq, not_or] at hn
            rw [World.cell?_of_block (set4_heap _ _ _ _ _ _ _ _ _ _ _ hn.1.2)]
            exact hy
        · intro y u hu
          have := (hA.own.cells (g := g) (by rw [e1]; rfl)) y u hu
          have hadd : (⟨g, 0, none⟩ : Addr).add y = ⟨g, y, none⟩ := by unfold Addr.add; split <;> simp_all
          rw [hadd] at this
          rw [Nat.zero_add, World.cell?_of_block (set4_heap _ _ _ _ _ _ _ _ _ _ _ hgr)]
          exact this
end Go.Proofs.YtakdhfjlhkejdaaGreatDoor
