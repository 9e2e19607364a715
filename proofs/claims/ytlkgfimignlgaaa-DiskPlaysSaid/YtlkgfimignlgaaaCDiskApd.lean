/-
  CONTRACTS of the function values that are operations on files: appending.
-/
import Derived.Test.YtlkgfimignlgaaaCDiskOp
import Derived.Test.YtlkgfimignlgaaaCHeldT
import Derived.Deep.RegionLaw
import Derived.Deep.QuietTactic
import Derived.BigQuiet
set_option linter.unusedSimpArgs false
set_option linter.unusedVariables false
set_option linter.unusedVariables false
namespace Go.Proofs.Ytlkgfimignlgaaa
open Go.RowKit
section
variable {ops : Array Oper} {o : Oper} {a : Act} {K : Act → World → Prop} {Q : Exit → Act → World → Prop} {X : Prop}
theorem op_appS (w : World) (s x : Operand) (ho : o.op = .call { callee := .builtin .append, args := #[s, x], argTypes := #[65, 9] }) {v : Value} {l : List UInt8} {T : ByteArray} (hs : a.eval s = v) (hx : a.eval x = .string T)
    (h : OB w v l) (hz : l.length + T.size ≤ 140737488355328 - 4096) (hK : ∀ v' w', OB w' v' (l ++ T.data.toList) → w.grownBy w' v.ownBlock → (v'.ownBlock = v.ownBlock ∨ v'.ownBlock = some w.heap.size) → K (a.put o.dst v') w') :
    Oper.wp Try.prog o a w K Q := by
  obtain ⟨v', w', hr, h1, h2, h3⟩ := app_str o.type w v l T h hz
  unfold Oper.wp execOp
  simp only [ho, resolve, invoke, builtin, Sem.run_bind, Sem.run_pure, Result.andThen_ok, List.map_toArray, List.map_cons, List.map_nil, hs, hx, hr]
  exact hK v' w' h1 h2 h3
end
theorem pair_in {α : Type} {R : α → α → Prop} (hs : ∀ a b, R a b → R b a) : ∀ {l : List α}, l.Pairwise R → ∀ {x y : α}, x ∈ l → y ∈ l → x ≠ y → R x y
  | [], _, _, _, h, _, _ => by cases h
  | a :: t, hp, x, y, hx, hy, hne => by
    rw [List.pairwise_cons] at hp
    rcases List.mem_cons.1 hx with rfl | hx
    · rcases List.mem_cons.1 hy with rfl | hy
      · exact absurd rfl hne
      · exact hp.1 y hy
    · rcases List.mem_cons.1 hy with e | hy
      · rw [e]; exact hs _ _ (hp.1 x hx)
      · exact pair_in hs hp.2 hx hy hne
theorem foot_val {mb : Nat} {E : List En} {s : ByteArray} {j : Nat} (h : (valE E s).ownBlock = some j) : Foot mb E j := by
  unfold valE at h
  cases hg : getE E s with
  | none => rw [hg] at h; cases h
  | some x => rw [hg] at h; exact .inr ⟨x, (get_mem hg).1, h⟩
theorem apart_val {w : World} {mb : Nat} {E : List En} (h : FM w mb E) {s : ByteArray} {y : En} (hy : y ∈ E) (he : eqE s y = false) {j : Nat} (hj : y.val.ownBlock = some j) : (valE E s).ownBlock ≠ some j := by
  intro e
  unfold valE at e
  cases hg : getE E s with
  | none => rw [hg] at e; cases e
  | some x =>
    rw [hg] at e
    have hne : x ≠ y := by
      rintro rfl
      rw [(get_mem hg).2] at he
      cases he
    exact pair_in (fun a b h => Apart.symm h) h.apart (get_mem hg).1 hy hne j e hj
theorem put_end {wd w1 w2 : World} {mb n : Nat} {E : List En} {s : ByteArray} {v' : Value} {l : List UInt8} (h : FM wd mb E) (hv : ∀ g, v'.ownBlock = some g → (valE E s).ownBlock = some g ∨ wd.heap.size ≤ g) (ho : OB w1 v' l) (hg1 : Turn wd w1 fun j => (valE E s).ownBlock = some j)
    (hm2 : w2.ownsMap Try.prog 9 slotE mb n ((datE E).put (litE s) (.held v'))) (hg2 : w1.grownBy w2 (some mb)) : DoEnd wd mb E (putF (datF E) s l) w2 := by
  have e : (datE E).put (litE s) (.held v') = datE (putE E ⟨s, v', l⟩) := dat_put E ⟨s, v', l⟩
  rw [e] at hm2
  have hlt := h.lt
  have hvm : (valE E s).ownBlock ≠ some mb := by
    intro e
    unfold valE at e
    cases hg : getE E s with
    | none => rw [hg] at e; cases e
    | some x => rw [hg] at e; exact h.ne (get_mem hg).1 e
  have hT : Turn wd w2 (Foot mb E) := by
    refine Turn.trans (b := w1) ⟨hg1.os, hg1.tape, hg1.output, hg1.size, fun j hj hn => hg1.block j hj fun e => hn (foot_val e)⟩ (Turn.grown hg2 fun j hj => ?_)
    cases hj
    exact .inl rfl
  have hrow : ∀ y ∈ E, eqE s y = false → ∀ g, y.val.ownBlock = some g → w2.heap[g]? = wd.heap[g]? := fun y hy he g hg => by
    have hl := (h.rows y hy).lt hg
    rw [hg2.block g (Nat.lt_of_lt_of_le hl hg1.size) (fun e => by cases e; exact h.ne hy hg), hg1.block g hl (apart_val h hy he hg)]
  refine ⟨putE E ⟨s, v', l⟩, h.put hm2 ?_ fun y hy he => ⟨hrow y hy he, fun g hg hg' => ?_⟩, dat_putF E ⟨s, v', l⟩, hT, fun j hj => ?_⟩
  · refine ho.keep fun g hg => hg2.block g (ho.lt hg) fun e => ?_
    cases e
    rcases hv _ hg with h1 | h1
    · exact hvm h1
    · omega
  · rcases hv _ hg with h1 | h1
    · exact apart_val h hy he hg' h1
    · have := (h.rows y hy).lt hg'
      omega
  · rcases hj with rfl | ⟨x, hx, hxj⟩
    · exact .inl (.inl rfl)
    · rcases mem_put.1 hx with rfl | ⟨hx, _⟩
      · rcases hv _ hxj with h1 | h1
        · exact .inl (foot_val h1)
        · exact .inr h1
      · exact .inl (.inr ⟨x, hx, hxj⟩)
theorem DoEnd.drew {w w' : World} {mb : Nat} {E : List En} {F : Fs} (h : DoEnd w.drew mb E F w') : DoEnd w mb E F w' := by
  obtain ⟨E', h1, h2, h3, h4⟩ := h
  exact ⟨E', h1, h2, ⟨h3.os, h3.tape, h3.output, h3.size, h3.block⟩, h4⟩
theorem FM.drew {w : World} {mb : Nat} {E : List En} (h : FM w mb E) : FM w.drew mb E := h.keep rfl fun _ _ _ _ => rfl
theorem str_take (d : ByteArray) (m : Nat) : (d.extract 0 m).data.toList = d.data.toList.take m := by
  rw [Lib.extract_data]
  simp
set_option maxRecDepth 10000000 in
set_option maxHeartbeats 4000000 in
theorem apd_any (mb : Nat) (E : List En) (s d : ByteArray) (b1 b2 k : Nat) (w : World) (h : FM w mb E) (h1 : Cap w b1 9 (.string s)) (h2 : Cap w b2 9 (.string d)) (hs : s.size ≤ maxLen) (hd : d.size ≤ 1000000000) (hk : k ≤ 1000000000) (hl : (bytE E s).length ≤ 1000000000) (hE : E.length ≤ 1000000000)
    (hf : ¬ Foot mb E b1) (hf2 : ¬ Foot mb E b2) :
    Calls Try.prog 57 #[.map (some mb), .int .i64 (k : Nat), .pointer (some ⟨b1, 0, none⟩), .pointer (some ⟨b2, 0, none⟩)] w fun e w' => e = .returned (.tuple #[]) ∧ DoEnd w mb E (doF k (datF E) (.app s d)) w' := by
  have c1 := h1.cell
  have c2 := h2.cell
  have hlk := fun w2 (h2 : FM w2 mb E) => lookB w2 mb E s h2 hs
  have hlk1 := hlk w h
  have hlk2 := hlk w.drew h.drew
  have hmin : min (k : Int) (d.size : Int) = ((min k d.size : Nat) : Int) := by omega
  have hmd : min k d.size ≤ d.size := Nat.min_le_right _ _
  have hob := get_rows h.drew s
  have hxz : (bytE E s).length + (d.extract 0 (min k d.size)).size ≤ 140737488355328 - 4096 := by
    rw [ByteArray.size_extract]
    omega
  have hbl1 : b1 < w.drew.heap.size := (Array.getElem?_eq_some_iff.1 h1).1
  have hbl2 : b2 < w.drew.heap.size := (Array.getElem?_eq_some_iff.1 h2).1
  have hbn2 : some b2 ≠ (valE E s).ownBlock := by
    unfold valE
    cases hg : getE E s with
    | none => intro e; cases e
    | some x => exact fun e => hf2 (.inr ⟨x, (get_mem hg).1, e.symm⟩)
  have hEm : E.length < maxLen := by unfold maxLen; omega
  have hmn : some mb ≠ (valE E s).ownBlock := by
    unfold valE
    cases hg : getE E s with
    | none => intro e; cases e
    | some x => exact fun e => h.ne (get_mem hg).1 e.symm
  have hbn : some b1 ≠ (valE E s).ownBlock := by
    unfold valE
    cases hg : getE E s with
    | none => intro e; cases e
    | some x => exact fun e => hf (.inr ⟨x, (get_mem hg).1, e.symm⟩)
  obtain ⟨G, hG⟩ : ∃ G, G = doF k (datF E) (.app s d) := ⟨_, rfl⟩
  rw [← hG]
  have HG := Lib.hid hG
  clear hG
  have HD : ∀ w', DoEnd w.drew mb E G w' → DoEnd w mb E G w' := fun w' h => h.drew
  have hFD := h.drew
  go_enter Try.func57, Try.ntmps57
  have hS0 : w.drew.cell? ⟨b1, 0, none⟩ = some (.string s) ∧ w.drew.cell? ⟨b2, 0, none⟩ = some (.string d) ∧ (Instr.lookup 57 (.map (some mb)) (.string s) false).run Try.prog w.drew = .ok (valE E s) w.drew := ⟨c1, c2, hlk2⟩
  have hmD := h.drew.map
  have h1D : Cap w.drew b1 9 (.string s) := h1
  have h2D : Cap w.drew b2 9 (.string d) := h2
  clear hlk hlk1 hlk2 c1 c2
  refine wp_region_any (by kernel_rfl) ?_
  change wpAny _ _ _ _ 13 _ _ (World.drew _)
  generalize w.drew = wd at *
  refine HT.wpAny_of_G (k := 12) (S := fun w' => w'.cell? ⟨b1, 0, none⟩ = some (.string s) ∧ w'.cell? ⟨b2, 0, none⟩ = some (.string d) ∧ (Instr.lookup 57 (.map (some mb)) (.string s) false).run Try.prog w' = .ok (valE E s) w') _ _ _ _ ?_
  refine HT.takeG_at (i := 0) (v := ?_) rfl rfl (by kernel_rfl) (by kernel_rfl) (by kernel_rfl) (by kernel_rfl) (by kernel_rfl) (by kernel_rfl) (fun _ _ _ h => h) hS0 (Or.inl ⟨by rfl, ?_⟩) ?_
  rotate_left
  · intro wq hwq
    obtain ⟨z1, z2, z3⟩ := hwq
    go_simp
    try with_reducible rfl
  simp only [Act.put, List.setIfInBounds_toArray, List.set_cons_zero, List.set_cons_succ]
  refine HT.takeG_at (i := 1) (v := ?_) rfl rfl (by kernel_rfl) (by kernel_rfl) (by kernel_rfl) (by kernel_rfl) (by kernel_rfl) (by kernel_rfl) (fun _ _ _ h => h) hS0 (Or.inl ⟨by rfl, ?_⟩) ?_
  rotate_left
  · intro wq hwq
    obtain ⟨z1, z2, z3⟩ := hwq
    go_simp
    try with_reducible rfl
  simp only [Act.put, List.setIfInBounds_toArray, List.set_cons_zero, List.set_cons_succ]
  refine HT.takeG_at (i := 2) (v := ?_) rfl rfl (by kernel_rfl) (by kernel_rfl) (by kernel_rfl) (by kernel_rfl) (by kernel_rfl) (by kernel_rfl) (fun _ _ _ h => h) hS0 (Or.inl ⟨by rfl, ?_⟩) ?_
  rotate_left
  · intro wq hwq
    obtain ⟨z1, z2, z3⟩ := hwq
    go_simp
    try with_reducible rfl
  simp only [Act.put, List.setIfInBounds_toArray, List.set_cons_zero, List.set_cons_succ]
  refine HT.takeG_at (i := 3) (v := ?_) rfl rfl (by kernel_rfl) (by kernel_rfl) (by kernel_rfl) (by kernel_rfl) (by kernel_rfl) (by kernel_rfl) (fun _ _ _ h => h) hS0 (Or.inl ⟨by rfl, ?_⟩) ?_
  rotate_left
  · intro wq hwq
    obtain ⟨z1, z2, z3⟩ := hwq
    go_simp
    try with_reducible rfl
  simp only [Act.put, List.setIfInBounds_toArray, List.set_cons_zero, List.set_cons_succ]
  refine HT.takeG_at (i := 4) (v := ?_) rfl rfl (by kernel_rfl) (by kernel_rfl) (by kernel_rfl) (by kernel_rfl) (by kernel_rfl) (by kernel_rfl) (fun _ _ _ h => h) hS0 (Or.inl ⟨by rfl, ?_⟩) ?_
  rotate_left
  · intro wq hwq
    obtain ⟨z1, z2, z3⟩ := hwq
    go_simp
    try with_reducible rfl
  simp only [Act.put, List.setIfInBounds_toArray, List.set_cons_zero, List.set_cons_succ]
  refine HT.takeG_at (i := 5) (v := ?_) rfl rfl (by kernel_rfl) (by kernel_rfl) (by kernel_rfl) (by kernel_rfl) (by kernel_rfl) (by kernel_rfl) (fun _ _ _ h => h) hS0 (Or.inl ⟨by rfl, ?_⟩) ?_
  rotate_left
  · intro wq hwq
    obtain ⟨z1, z2, z3⟩ := hwq
    go_simp
    try with_reducible rfl
  simp only [Act.put, List.setIfInBounds_toArray, List.set_cons_zero, List.set_cons_succ]
  refine HT.takeG_at (i := 6) (v := ?_) rfl rfl (by kernel_rfl) (by kernel_rfl) (by kernel_rfl) (by kernel_rfl) (by kernel_rfl) (by kernel_rfl) (fun _ _ _ h => h) hS0 (Or.inl ⟨by rfl, ?_⟩) ?_
  rotate_left
  · intro wq hwq
    obtain ⟨z1, z2, z3⟩ := hwq
    go_simp
    try with_reducible rfl
  simp only [Act.put, List.setIfInBounds_toArray, List.set_cons_zero, List.set_cons_succ]
  refine HT.takeG_at (i := 7) (v := ?_) rfl rfl (by kernel_rfl) (by kernel_rfl) (by kernel_rfl) (by kernel_rfl) (by kernel_rfl) (by kernel_rfl) (fun _ _ _ h => h) hS0 (Or.inl ⟨by rfl, ?_⟩) ?_
  rotate_left
  · intro wq hwq
    obtain ⟨z1, z2, z3⟩ := hwq
    go_simp
    try with_reducible rfl
  simp only [Act.put, List.setIfInBounds_toArray, List.set_cons_zero, List.set_cons_succ]
  refine HT.takeG_at (i := 8) (v := ?_) rfl rfl (by kernel_rfl) (by kernel_rfl) (by kernel_rfl) (by kernel_rfl) (by kernel_rfl) (by kernel_rfl) (fun _ _ _ h => h) hS0 (Or.inl ⟨by rfl, ?_⟩) ?_
  rotate_left
  · intro wq hwq
    obtain ⟨z1, z2, z3⟩ := hwq
    go_simp
    try with_reducible rfl
  simp only [Act.put, List.setIfInBounds_toArray, List.set_cons_zero, List.set_cons_succ]
  refine HT.takeG_at (i := 9) (v := ?_) rfl rfl (by kernel_rfl) (by kernel_rfl) (by kernel_rfl) (by kernel_rfl) (by kernel_rfl) (by kernel_rfl) (fun _ _ _ h => h) hS0 (Or.inl ⟨by rfl, ?_⟩) ?_
  rotate_left
  · intro wq hwq
    obtain ⟨z1, z2, z3⟩ := hwq
    go_simp
    try with_reducible rfl
  simp only [Act.put, List.setIfInBounds_toArray, List.set_cons_zero, List.set_cons_succ]
  refine HT.takeG_at (i := 10) (v := ?_) rfl rfl (by kernel_rfl) (by kernel_rfl) (by kernel_rfl) (by kernel_rfl) (by kernel_rfl) (by kernel_rfl) (fun _ _ _ h => h) hS0 (Or.inl ⟨by rfl, ?_⟩) ?_
  rotate_left
  · intro wq hwq
    obtain ⟨z1, z2, z3⟩ := hwq
    go_simp
    try with_reducible rfl
  simp only [Act.put, List.setIfInBounds_toArray, List.set_cons_zero, List.set_cons_succ]
  refine HT.wpAnyG_one (i := 11) (by kernel_rfl) rfl (fun KK hKK => ?_)
  refine op_appS _ _ _ rfl rfl rfl hob hxz ?_
  intro v' w1 ho1 hg1 hat1
  have hc1 : Cap w1 b1 9 (.string s) := (hg1.block b1 hbl1 hbn).trans h1D
  have hc2 : Cap w1 b2 9 (.string d) := (hg1.block b2 hbl2 hbn2).trans h2D
  have hm1 := hmD.kept hg1 hmn
  have hlk3 : (Instr.lookup 57 (.map (some mb)) (.string s) false).run Try.prog w1 = .ok (valE E s) w1 := by
    obtain ⟨v, ps, hr, hv⟩ := hm1.lookup keyLaw Try.underlying57 (zeroB w1) (zd := .held (.slice none 0 0)) (zp := []) rfl (keyE hs)
    rw [slot_val hv] at hr
    exact hr
  refine hKK _ _ ⟨hc1.cell, hc2.cell, hlk3⟩ ?_
  clear hKK KK
  refine HT.wpAnyG_turn (k := 12) (by kernel_rfl) rfl (fun KK hKK => ?_)
  obtain ⟨w2, hrun2, hm2, hg2⟩ := (hmD.kept hg1 hmn).update keyLaw Try.underlying57 hEm (keyE hs) (val := v') (d := .held v') (ps := []) rfl
  go_simp
  refine hKK _ _ ?_
  clear hKK KK
  refine ⟨by kernel_rfl, ?_⟩
  refine bodyPost_end (results_none rfl _ _ _) rfl ⟨rfl, HD _ ?_⟩
  have hfin := put_end hFD (fun g hg => (hat1.imp (fun e => by rw [← hg, e]; rfl) (fun e => by rw [e] at hg; cases hg; exact Nat.le_refl _))) ho1 (Turn.grown hg1 fun j hj => hj) hm2 hg2
  rw [str_take] at hfin
  rw [HG.out, show doF k (datF E) (.app s d) = putF (datF E) s (getF (datF E) s ++ d.data.toList.take (min k d.size)) from rfl, dat_getF]
  exact hfin
end Go.Proofs.Ytlkgfimignlgaaa
