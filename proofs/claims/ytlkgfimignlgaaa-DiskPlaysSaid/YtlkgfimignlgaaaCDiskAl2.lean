/-
  CONTRACT of Alter, over a disk's state.
-/
import Derived.Test.YtlkgfimignlgaaaCDiskAlt
set_option linter.unusedSimpArgs false
set_option linter.unusedVariables false
set_option linter.unusedVariables false
set_option linter.unusedSimpArgs false
namespace Go.Proofs.Ytlkgfimignlgaaa
open Go.RowKit
set_option maxRecDepth 10000000 in
set_option maxHeartbeats 4000000 in
theorem alter_any (db : Nat) (st : Ds) (D : Nat → Prop) (s : ByteArray) (at' : Int) (b : UInt8) (w : World) (h : DK w db st D) (hs : s.size ≤ 1000000000) (hl : st.L.length ≤ 1000000) :
    Calls Try.prog 28 #[ptr db, .string s, .int .i64 at', .int .u8 ((b.toNat : Nat) : Int)] w (DoneD w db D (altS st s at' b)) := by
  have hself : DK w db st D := h
  have hlt : ∀ j, D j → j < w.heap.size := fun j hj => h.lt hj
  obtain ⟨m1, m2, lv, fs, E1, E2, h⟩ := h
  have cM := made_any db m1 m2 st.room st.fuse lv w h.hdb
  have hs' : s.size ≤ maxLen := by unfold maxLen; omega
  have cH := has_any m1 E1 s w h.f1 hs'
  have hhas : hasE E1 s = hasF st.now s := by rw [← dat_hasF, h.d1]
  have hget : bytE E1 s = getF st.now s := by rw [← dat_getF, h.d1]
  have hsm : (getF st.now s).length ≤ 16777216 := by
    have h1 := getF_le st.now s
    have h2 := h.chain.last.1
    have h3 := h.room
    have h4 : sumF (doAll st.S st.L) = sumF st.now := rfl
    omega
  rw [hhas] at cH
  obtain ⟨c0, c1, c2, c3, c4⟩ := h.hdb.cells
  have HLT := Lib.hid hlt
  have HSELF := Lib.hid hself
  unfold ptr at cM ⊢
  clear hlt hself
  have stay : ∀ e, DoneD w db D (e, st) (.returned (.int .i64 e)) w := fun e => ⟨rfl, ext_self HSELF.out HLT.out (Nat.le_refl _), Turn.refl _ _⟩
  have HST := Lib.hid stay
  clear stay
  cases hh : hasF st.now s
  · have hr : altS st s at' b = (5, st) := by unfold altS; rw [hh, if_pos rfl]
    rw [hr]
    rw [hh] at cH
    clear hr hh hsm hget hhas
    go_enter Try.func28, Try.ntmps28
    go_wp2_with (first
      | (go_at_call 38; refine cM.mono ?_; rintro e w1 ⟨rfl, rfl⟩)
      | (go_at_call 42; refine cH.mono ?_; rintro e w1 ⟨rfl, rfl⟩))
    go_ret
    exact HST.out 5
  rw [hh] at cH
  have hlk := lookB w m1 E1 s h.f1 hs'
  obtain ⟨va, vc, hva⟩ := (get_rows h.f1 s).shape
  rw [hva, hget] at hlk
  by_cases hat : at' < 0 ∨ ((getF st.now s).length : Int) ≤ at'
  · have hr : altS st s at' b = (2, st) := by unfold altS; rw [hh, if_neg (by decide), if_pos hat]
    rw [hr]
    generalize (getF st.now s).length = n at *
    clear hr hh hget hhas
    rcases (show at' < 0 ∨ (¬ at' < 0 ∧ (n : Int) ≤ at') by omega) with h1 | ⟨h1, h2⟩
    all_goals
      clear hat
      go_enter Try.func28, Try.ntmps28
      go_wp2_with (first
        | (go_at_call 38; refine cM.mono ?_; rintro e w1 ⟨rfl, rfl⟩)
        | (go_at_call 42; refine cH.mono ?_; rintro e w1 ⟨rfl, rfl⟩))
      go_ret
      exact HST.out 2
  have h1 : ¬ at' < 0 := by omega
  have h2 : ¬ ((getF st.now s).length : Int) ≤ at' := by omega
  obtain ⟨av, cv, hav, hcv⟩ := lv_form h.hlv
  by_cases hL : 0 < st.L.length
  · have hr : altS st s at' b = (3, st) := by unfold altS; rw [hh, if_neg (by decide), if_neg hat, if_pos hL]
    rw [hr]
    have hLi : (0 : Int) < (st.L.length : Int) := by omega
    rw [hav] at c4
    generalize (getF st.now s).length = n at *
    clear hr hh hget hhas hat hL
    go_enter Try.func28, Try.ntmps28
    go_wp2_with (first
      | (go_at_call 38; refine cM.mono ?_; rintro e w1 ⟨rfl, rfl⟩)
      | (go_at_call 42; refine cH.mono ?_; rintro e w1 ⟨rfl, rfl⟩))
    go_ret
    exact HST.out 3
  have hL0 : st.L = [] := List.eq_nil_of_length_eq_zero (by omega)
  obtain ⟨k, rfl⟩ := Int.eq_ofNat_of_zero_le (show 0 ≤ at' by omega)
  have hr : altS st s (k : Int) b = (0, { st with S := altF s (altB (getF st.now s) k b) st.S }) := by
    unfold altS
    rw [hh, if_neg (by decide), if_neg hat, if_neg hL]
    rfl
  rw [hr]
  have hnS : st.now = st.S := by unfold Ds.now; rw [hL0]; rfl
  have hget2 : bytE E2 s = getF st.now s := by rw [← dat_getF, h.d2, hnS]
  have hk : k < (getF st.now s).length := by omega
  obtain ⟨x1, g1, p1, hx1, hd1, hv1, hw1, hf1, hc1, hz1⟩ := ent_at h.f1 (s := s) (k := k) (by rw [hget]; exact hk)
  rw [hget] at hd1 hv1 hw1 hc1
  have hchain := h.chain
  rw [hL0] at hchain
  have hfine : FineF st.room st.S := hchain
  have hfl : FineF st.room (altF s (altB (getF st.now s) k b) st.S) := by
    refine ⟨?_, ?_⟩
    · rw [alt_sum s _ st.S (by unfold altB; rw [List.length_set, hnS])]
      exact hfine.1
    · rw [alt_len]
      exact hfine.2
  have hxo := xor_u8 ((getF st.now s).getD k 0) b
  obtain ⟨u, hu⟩ : ∃ u : UInt8, (getF st.now s).getD k 0 ^^^ b = u := ⟨_, rfl⟩
  have hal : altB (getF st.now s) k b = (getF st.now s).set k u := by unfold altB; rw [hu]
  rw [hu] at hxo
  rw [hal] at hfl ⊢
  have T1 : Turn w (w.setCell ⟨g1, k, none⟩ (.int .u8 ((u.toNat : Nat) : Int))) (Foot m1 E1) := turn_cell hf1 _
  have F1 := h.f1.alter (k := k) hx1 hv1 u
  rw [hd1] at F1
  have hn1 : ∀ j, Foot m2 E2 j → j ≠ g1 := fun j hj e => h.apart g1 hf1 (e ▸ hj)
  have F2 : FM (w.setCell ⟨g1, k, none⟩ (.int .u8 ((u.toNat : Nat) : Int))) m2 E2 := h.f2.keep (Below.heap_setCell _ _ _ _ (hn1 _ (.inl rfl))) fun x hx g hg => Below.heap_setCell _ _ _ _ (hn1 _ (.inr ⟨x, hx, hg⟩))
  have D1 := Turn.db h.f1 T1 h.hdb
  have V1 := Turn.lv h.f1 T1 h.hlv
  have z1 : (w.setCell ⟨g1, k, none⟩ (.int .u8 ((u.toNat : Nat) : Int))).heap.size = w.heap.size := size_set _ _ _
  generalize hw' : w.setCell ⟨g1, k, none⟩ (.int .u8 ((u.toNat : Nat) : Int)) = wb at T1 F1 F2 D1 V1 z1
  obtain ⟨x2, g2, p2, hx2, hd2, hv2, hw2, hf2, hc2, hz2⟩ := ent_at F2 (s := s) (k := k) (by rw [hget2]; exact hk)
  rw [hget2] at hd2 hv2 hw2 hc2
  have T2 : Turn wb (wb.setCell ⟨g2, k, none⟩ (.int .u8 ((u.toNat : Nat) : Int))) (Foot m2 E2) := turn_cell hf2 _
  have G2 := F2.alter (k := k) hx2 hv2 u
  rw [hd2] at G2
  have hn2 : ∀ j, Foot m1 (altE s ((getF st.now s).set k u) E1) j → j ≠ g2 := fun j hj e => h.apart g2 ((altE_foot _ _ _ _ _).1 (e ▸ hj)) hf2
  have G1 := F1.keep (w' := wb.setCell ⟨g2, k, none⟩ (.int .u8 ((u.toNat : Nat) : Int))) (Below.heap_setCell _ _ _ _ (hn2 _ (.inl rfl))) fun x hx g hg => Below.heap_setCell _ _ _ _ (hn2 _ (.inr ⟨x, hx, hg⟩))
  have D2 := Turn.db F2 T2 D1
  have V2 := Turn.lv F2 T2 V1
  have z2 : (wb.setCell ⟨g2, k, none⟩ (.int .u8 ((u.toNat : Nat) : Int))).heap.size = w.heap.size := (size_set _ _ _).trans z1
  have hops : OpDs (wb.setCell ⟨g2, k, none⟩ (.int .u8 ((u.toNat : Nat) : Int))) D fs st.L := by
    have ho := h.ops
    rw [hL0] at ho ⊢
    cases fs with
    | nil => exact trivial
    | cons f r => exact ho.elim
  have hP : DK (wb.setCell ⟨g2, k, none⟩ (.int .u8 ((u.toNat : Nat) : Int))) db { st with S := altF s ((getF st.now s).set k u) st.S } D := by
    refine ⟨m1, m2, lv, fs, _, _, D2, G1, G2, ?_, ?_, V2, ?_, h.in0, fun j hj => h.in1 j ((altE_foot _ _ _ _ _).1 hj), fun j hj => h.in2 j ((altE_foot _ _ _ _ _).1 hj), h.in3, hops, ?_, h.room, h.fuse, fun j hj => by rw [z2]; exact h.lt j hj⟩
    · rw [dat_alt, h.d1]
      show altF s _ st.now = doAll (altF s _ st.S) st.L
      rw [hL0]
      show altF s _ st.now = altF s _ st.S
      rw [hnS]
    · rw [dat_alt, h.d2]
    · intro j hj hj'
      exact h.apart j ((altE_foot _ _ _ _ _).1 hj) ((altE_foot _ _ _ _ _).1 hj')
    · show Chain st.room _ st.L
      rw [hL0]
      exact hfl
  have HFIN : Hid (DoneD w db D (0, { st with S := altF s ((getF st.now s).set k u) st.S }) (.returned (.int .i64 0)) (wb.setCell ⟨g2, k, none⟩ (.int .u8 ((u.toNat : Nat) : Int)))) := Lib.hid ⟨rfl, ext_self hP HLT.out (Nat.le_of_eq z2.symm), (T1.sub h.in1).trans (T2.sub h.in2)⟩
  have hlk2 := lookB wb m2 E2 s F2 hs'
  rw [hw2] at hlk2
  have e12 := hva.symm.trans hw1
  simp only [Value.slice.injEq] at e12
  obtain ⟨rfl, _, rfl⟩ := e12
  obtain ⟨b0, b1, b2, b3, b4⟩ := D1.cells
  rw [hav] at c4 b4
  have hki : (k : Int) < ((getF st.now s).length : Int) := by omega
  have hk0 : (0 : Int) ≤ (k : Int) := by omega
  have hnk : ¬ (getF st.now s).length ≤ k := by omega
  have hLL : st.L.length = 0 := by rw [hL0]; rfl
  rw [hLL] at c4 b4
  clear hr hh hat hL hL0 hget hget2 hhas hnS hk hfl hfine hchain hu hal T1 F1 F2 D1 V1 T2 G1 G2 hn1 hn2 D2 V2 hops hP hx1 hx2 hv1 hv2 hw1 hw2 hd1 hd2 hva hf1 hf2 z1 z2 hsm hcv hLL h2
  generalize getF st.now s = l at *
  generalize l.getD k 0 = cb at *
  generalize altF s (l.set k u) st.S = SS at *
  go_enter Try.func28, Try.ntmps28
  go_wp2_with (first
    | (go_at_call 38; refine cM.mono ?_; rintro e w1 ⟨rfl, rfl⟩)
    | (go_at_call 42; refine cH.mono ?_; rintro e w1 ⟨rfl, rfl⟩))
  go_ret
  exact HFIN.out
end Go.Proofs.Ytlkgfimignlgaaa
