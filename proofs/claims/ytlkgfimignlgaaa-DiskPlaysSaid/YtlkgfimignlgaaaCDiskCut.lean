/-
  CONTRACTS of the function values that are operations on files: cutting, renaming, removing. (gen_cut.py writes it.)
-/
import Derived.Test.YtlkgfimignlgaaaCDiskApd
set_option linter.unusedSimpArgs false
set_option linter.unusedVariables false
set_option linter.unusedVariables false
namespace Go.Proofs.Ytlkgfimignlgaaa
open Go.RowKit
theorem Cap.below {w w' : World} {b : Nat} {t : TypeId} {v : Value} (h : Cap w b t v) (hb : Below w.heap.size w w') : Cap w' b t v := (hb.block _ (Array.getElem?_eq_some_iff.1 h).1).trans h
set_option maxRecDepth 10000000 in
set_option maxHeartbeats 4000000 in
theorem cut_any (mb : Nat) (E : List En) (s : ByteArray) (n : Nat) (b1 b2 : Nat) (w : World) (h : FM w mb E) (h1 : Cap w b1 9 (.string s)) (h2 : Cap w b2 3 (.int .i64 (n : Nat))) (hs : s.size ≤ maxLen) (hn : n ≤ (bytE E s).length) (hl : (bytE E s).length ≤ 1000000000) (hE : E.length ≤ 1000000000) :
    Calls Try.prog 60 #[.map (some mb), .pointer (some ⟨b1, 0, none⟩), .pointer (some ⟨b2, 0, none⟩)] w fun e w' => e = .returned (.tuple #[]) ∧ DoEnd w mb E (putF (datF E) s ((getF (datF E) s).take n)) w' := by
  have hlk := lookB w.drew mb E s h.drew hs
  have hEm : E.length < maxLen := by unfold maxLen; omega
  obtain ⟨G, hG⟩ : ∃ G, G = putF (datF E) s ((getF (datF E) s).take n) := ⟨_, rfl⟩
  rw [← hG]
  have HG := Lib.hid hG
  clear hG
  have HD : ∀ w', DoEnd w.drew mb E G w' → DoEnd w mb E G w' := fun w' h => h.drew
  have hFD := h.drew
  have h1D : Cap w.drew b1 9 (.string s) := h1
  have h2D : Cap w.drew b2 3 (.int .i64 (n : Nat)) := h2
  go_enter Try.func60, Try.ntmps60
  refine wp_region_any (by kernel_rfl) ?_
  change wpAny _ _ _ _ 8 _ _ (World.drew _)
  clear h h1 h2
  generalize w.drew = wd at *
  have hS0 : wd.cell? ⟨b1, 0, none⟩ = some (.string s) ∧ wd.cell? ⟨b2, 0, none⟩ = some (.int .i64 (n : Nat)) ∧ (Instr.lookup 57 (.map (some mb)) (.string s) false).run Try.prog wd = .ok (valE E s) wd := ⟨h1D.cell, h2D.cell, hlk⟩
  have cB := beg_any (valE E s) (bytE E s) n wd (get_rows hFD s) hl hn
  have hmD := hFD.map
  refine HT.wpAny_of_G (k := 7) (S := fun w' => w'.cell? ⟨b1, 0, none⟩ = some (.string s) ∧ w'.cell? ⟨b2, 0, none⟩ = some (.int .i64 (n : Nat)) ∧ (Instr.lookup 57 (.map (some mb)) (.string s) false).run Try.prog w' = .ok (valE E s) w') _ _ _ _ ?_
  refine HT.takeG_at (i := 0) (v := ?_) rfl rfl (by kernel_rfl) (by kernel_rfl) (by kernel_rfl) (by kernel_rfl) (by kernel_rfl) (by kernel_rfl) (fun _ _ _ h => h) hS0 (Or.inl ⟨by rfl, ?_⟩) ?_
  rotate_left
  · intro wq hwq
    obtain ⟨z1, z2, z3⟩ := hwq
    go_simp
    try with_reducible rfl
  simp only [Act.put, List.setIfInBounds_toArray, List.set_cons_zero, List.set_cons_succ]
  refine HT.takeG_at (i := 1) (v := ?_) rfl rfl (by kernel_rfl) (by kernel_rfl) (by kernel_rfl) (by kernel_rfl) (by kernel_rfl) (by kernel_rfl) (fun _ _ _ h => h) hS0 (Or.inl ⟨by rfl, ?_⟩) ?_
  rotate_left
  · intro wq hwq
    obtain ⟨z1, z2, z3⟩ := hwq
    go_simp
    try with_reducible rfl
  simp only [Act.put, List.setIfInBounds_toArray, List.set_cons_zero, List.set_cons_succ]
  refine HT.takeG_at (i := 2) (v := ?_) rfl rfl (by kernel_rfl) (by kernel_rfl) (by kernel_rfl) (by kernel_rfl) (by kernel_rfl) (by kernel_rfl) (fun _ _ _ h => h) hS0 (Or.inl ⟨by rfl, ?_⟩) ?_
  rotate_left
  · intro wq hwq
    obtain ⟨z1, z2, z3⟩ := hwq
    go_simp
    try with_reducible rfl
  simp only [Act.put, List.setIfInBounds_toArray, List.set_cons_zero, List.set_cons_succ]
  refine HT.takeG_at (i := 3) (v := ?_) rfl rfl (by kernel_rfl) (by kernel_rfl) (by kernel_rfl) (by kernel_rfl) (by kernel_rfl) (by kernel_rfl) (fun _ _ _ h => h) hS0 (Or.inl ⟨by rfl, ?_⟩) ?_
  rotate_left
  · intro wq hwq
    obtain ⟨z1, z2, z3⟩ := hwq
    go_simp
    try with_reducible rfl
  simp only [Act.put, List.setIfInBounds_toArray, List.set_cons_zero, List.set_cons_succ]
  refine HT.takeG_at (i := 4) (v := ?_) rfl rfl (by kernel_rfl) (by kernel_rfl) (by kernel_rfl) (by kernel_rfl) (by kernel_rfl) (by kernel_rfl) (fun _ _ _ h => h) hS0 (Or.inl ⟨by rfl, ?_⟩) ?_
  rotate_left
  · intro wq hwq
    obtain ⟨z1, z2, z3⟩ := hwq
    go_simp
    try with_reducible rfl
  simp only [Act.put, List.setIfInBounds_toArray, List.set_cons_zero, List.set_cons_succ]
  refine HT.takeG_at (i := 5) (v := ?_) rfl rfl (by kernel_rfl) (by kernel_rfl) (by kernel_rfl) (by kernel_rfl) (by kernel_rfl) (by kernel_rfl) (fun _ _ _ h => h) hS0 (Or.inl ⟨by rfl, ?_⟩) ?_
  rotate_left
  · intro wq hwq
    obtain ⟨z1, z2, z3⟩ := hwq
    go_simp
    try with_reducible rfl
  simp only [Act.put, List.setIfInBounds_toArray, List.set_cons_zero, List.set_cons_succ]
  refine HT.wpAnyG_one (i := 6) (by kernel_rfl) rfl (fun KK hKK => ?_)
  go_simp
  refine cB.mono ?_
  rintro e w1 ⟨v', rfl, ho1, hb1, hv1⟩
  simp only
  have hF1 := hFD.below hb1
  refine hKK _ _ ⟨(h1D.below hb1).cell, (h2D.below hb1).cell, lookB w1 mb E s hF1 hs⟩ ?_
  clear hKK KK
  refine HT.wpAnyG_turn (k := 7) (by kernel_rfl) rfl (fun KK hKK => ?_)
  obtain ⟨w2, hrun2, hm2, hg2⟩ := hF1.map.update keyLaw Try.underlying57 hEm (keyE hs) (val := v') (d := .held v') (ps := []) rfl
  go_simp
  refine hKK _ _ ?_
  clear hKK KK
  refine ⟨by kernel_rfl, ?_⟩
  refine bodyPost_end (results_none rfl _ _ _) rfl ⟨rfl, HD _ ?_⟩
  have hfin := put_end hFD hv1 ho1 (Turn.below hb1) hm2 hg2
  rw [HG.out, dat_getF]
  exact hfin
theorem del_row {w w' : World} {mb : Nat} {E : List En} (h : FM w mb E) (hg : w.grownBy w' (some mb)) : ∀ y ∈ E, ∀ g, y.val.ownBlock = some g → w'.heap[g]? = w.heap[g]? := fun y hy g hg' =>
  hg.block g ((h.rows y hy).lt hg') (fun e => by cases e; exact h.ne hy hg')
theorem rem_any (mb : Nat) (E : List En) (s : ByteArray) (b1 : Nat) (w : World) (h : FM w mb E) (h1 : Cap w b1 9 (.string s)) (hs : s.size ≤ maxLen) :
    Calls Try.prog 63 #[.map (some mb), .pointer (some ⟨b1, 0, none⟩)] w fun e w' => e = .returned (.tuple #[]) ∧ DoEnd w mb E (delF (datF E) s) w' := by
  have c1 := h1.cell
  have hk := keyE hs
  have hm := h.map
  go_enter Try.func63, Try.ntmps63
  go_wp2_with (first | (at_delete; refine wpList_delete_own _ rfl _ _ 57 9 rfl 65 keyLaw Try.underlying57 slotE mb _ _ rfl hm _ _ rfl hk ?_; intro w1 hm1 ht1))
  rw [dat_del] at hm1
  refine bodyPost_end (results_none rfl _ _ _) rfl ⟨rfl, delE E s, h.del hm1 (del_row h ht1.grown), dat_delF E s, Turn.grown ht1.grown fun j hj => by cases hj; exact .inl rfl, fun j hj => .inl ?_⟩
  rcases hj with rfl | ⟨x, hx, hxj⟩
  · exact .inl rfl
  · exact .inr ⟨x, (mem_del.1 hx).1, hxj⟩
theorem ren_end {w w1 w2 : World} {mb m n : Nat} {E : List En} {s t : ByteArray} (h : FM w mb E) (hm1 : w1.ownsMap Try.prog 9 slotE mb m (datE (delE E s))) (hg1 : w.grownBy w1 (some mb)) (hm2 : w2.ownsMap Try.prog 9 slotE mb n ((datE (delE E s)).put (litE t) (.held (valE E s)))) (hg2 : w1.grownBy w2 (some mb)) :
    DoEnd w mb E (putF (delF (datF E) s) t (getF (datF E) s)) w2 := by
  have hF1 := h.del hm1 (del_row h hg1)
  have e : (datE (delE E s)).put (litE t) (.held (valE E s)) = datE (putE (delE E s) ⟨t, valE E s, bytE E s⟩) := dat_put (delE E s) ⟨t, valE E s, bytE E s⟩
  rw [e] at hm2
  have hvm : (valE E s).ownBlock ≠ some mb := by
    intro e
    unfold valE at e
    cases hg : getE E s with
    | none => rw [hg] at e; cases e
    | some x => rw [hg] at e; exact h.ne (get_mem hg).1 e
  have hT : Turn w w2 (Foot mb E) := Turn.trans (Turn.grown hg1 fun j hj => by cases hj; exact .inl rfl) (Turn.grown hg2 fun j hj => by cases hj; exact .inl rfl)
  have hob := get_rows h s
  refine ⟨putE (delE E s) ⟨t, valE E s, bytE E s⟩, hF1.put hm2 (hob.keep fun g hg => ?_) fun y hy he => ⟨del_row hF1 hg2 y hy, fun g hg hg' => apart_val h (mem_del.1 hy).1 (mem_del.1 hy).2 hg' hg⟩, ?_, hT, fun j hj => .inl ?_⟩
  · have hl := hob.lt hg
    exact (hg2.block g (Nat.lt_of_lt_of_le hl hg1.size) fun e => hvm (by rw [hg, e])).trans (hg1.block g hl fun e => hvm (by rw [hg, e]))
  · rw [dat_putF, dat_delF, dat_getF]
  · rcases hj with rfl | ⟨x, hx, hxj⟩
    · exact .inl rfl
    · rcases mem_put.1 hx with rfl | ⟨hx, _⟩
      · exact foot_val hxj
      · exact .inr ⟨x, (mem_del.1 hx).1, hxj⟩
theorem ren_any (mb : Nat) (E : List En) (s t : ByteArray) (b1 b2 : Nat) (w : World) (h : FM w mb E) (h1 : Cap w b1 9 (.string s)) (h2 : Cap w b2 9 (.string t)) (hs : s.size ≤ maxLen) (ht : t.size ≤ maxLen) (hE : E.length ≤ 1000000000) (hf2 : b2 ≠ mb) :
    Calls Try.prog 62 #[.map (some mb), .pointer (some ⟨b1, 0, none⟩), .pointer (some ⟨b2, 0, none⟩)] w fun e w' => e = .returned (.tuple #[]) ∧ DoEnd w mb E (putF (delF (datF E) s) t (getF (datF E) s)) w' := by
  have c1 := h1.cell
  have c2 := h2.cell
  have hk := keyE hs
  have hm := h.map
  have hlk := lookB w mb E s h hs
  have hEm : E.length < maxLen := by unfold maxLen; omega
  go_enter Try.func62, Try.ntmps62
  go_wp2_with (first | (at_delete; refine wpList_delete_own _ rfl _ _ 57 9 rfl 65 keyLaw Try.underlying57 slotE mb _ _ rfl hm _ _ rfl hk ?_; intro w1 hm1 ht1; rw [dat_del] at hm1; have hg1 := ht1.grown; have c3 := Cap.cell (show Cap w1 b2 _ _ from (hg1.block b2 (Array.getElem?_eq_some_iff.1 h2).1 (fun e => hf2 (Option.some.inj e))).trans h2); obtain ⟨w2, hrun2, hm2, hg2⟩ := hm1.update keyLaw Try.underlying57 hEm (keyE ht) (val := valE E s) (d := .held (valE E s)) (ps := []) rfl))
  refine bodyPost_end (results_none rfl _ _ _) rfl ⟨rfl, ren_end h hm1 hg1 hm2 hg2⟩
end Go.Proofs.Ytlkgfimignlgaaa
