/-
  CONTRACT of Crash, over a disk's state.
-/
import Derived.Test.YtlkgfimignlgaaaCDiskSy
import Derived.Deep.DeepCutAuto
import Derived.Deep.RegionWith
set_option linter.unusedSimpArgs false
set_option linter.unusedVariables false
set_option linter.unusedVariables false
set_option linter.unusedSimpArgs false
namespace Go.Proofs.Ytlkgfimignlgaaa
open Go.RowKit
/-- behind what is done of the loose operations: the copy, and the three stores -/
theorem crash_tail {w0 w w1 : World} {db m1 m2 : Nat} {st : Ds} {D : Nat → Prop} {lv : Value} {fs : List Value} {E1 E2 E2' : List En} {F : Fs}
    (h : DP w db st D m1 m2 lv fs E1 E2) (hlt : ∀ j, D j → j < w0.heap.size) (hT0 : Turn w0 w D) (hF' : FM w1 m2 E2') (hd : datF E2' = F) (hT : Turn w w1 (Foot m2 E2)) (hx : ∀ j, Foot m2 E2' j → Foot m2 E2 j ∨ w.heap.size ≤ j) (hfine : FineF st.room F) :
    DB w1 db st.room st.fuse m1 m2 lv ∧ Calls Try.prog 52 #[.map (some m2)] w1 fun e w2 => ∃ mc, e = .returned (.map (some mc)) ∧ DB w2 db st.room st.fuse m1 m2 lv ∧
      (DK (((w2.setCell ⟨db, 2, none⟩ (.map (some mc))).setCell ⟨db, 4, none⟩ (.slice none 0 0)).setCell ⟨db, 1, none⟩ (.int .i64 (-1))) db { st with fuse := -1, S := F, L := [] } (Ext D w0 (((w2.setCell ⟨db, 2, none⟩ (.map (some mc))).setCell ⟨db, 4, none⟩ (.slice none 0 0)).setCell ⟨db, 1, none⟩ (.int .i64 (-1)))) ∧
      Turn w0 (((w2.setCell ⟨db, 2, none⟩ (.map (some mc))).setCell ⟨db, 4, none⟩ (.slice none 0 0)).setCell ⟨db, 1, none⟩ (.int .i64 (-1))) D) := by
  have hD1 := hT.db h.f2 h.hdb
  refine ⟨hD1, (files_copied m2 E2' w1 hF' (sm_of (room := st.room) (by rw [hd]; exact hfine) h.room.2)).mono ?_⟩
  rintro e w2 ⟨rfl, E3, hF3, hd3, hb, hx3⟩
  exact ⟨_, rfl, hD1.on (hb.block _ hD1.lt), h.crash hlt hT0 hF' hd hT hx hfine hF3 (hd3.trans hd) hb hx3⟩
theorem crash_all {st : Ds} {calls bytes : Int} (h : ¬ 0 ≤ calls ∨ st.L.length ≤ keptN st calls) : crashF st calls bytes = doAll st.S (st.L.take (keptN st calls)) := by
  unfold crashF
  rcases h with h | h
  · split
    · rw [if_neg h]
    · rfl
  · rw [List.getElem?_eq_none h]
theorem crash_part {st : Ds} {calls bytes : Int} (h0 : 0 ≤ calls) (h : keptN st calls < st.L.length) : crashF st calls bytes = doF (partN bytes) (doAll st.S (st.L.take (keptN st calls))) st.L[keptN st calls] := by
  unfold crashF
  rw [List.getElem?_eq_getElem h]
  exact if_pos h0
set_option maxRecDepth 10000000 in
set_option maxHeartbeats 4000000 in
theorem crash_any (db : Nat) (st : Ds) (D : Nat → Prop) (calls bytes : Int) (w : World) (h : DK w db st D) (hl : st.L.length ≤ 1000000) :
    Calls Try.prog 26 #[ptr db, .int .i64 calls, .int .i64 bytes] w (DoneD w db D (crashS st calls bytes)) := by
  have hlt : ∀ j, D j → j < w.heap.size := fun j hj => h.lt hj
  obtain ⟨m1, m2, lv, fs, E1, E2, h⟩ := h
  obtain ⟨av, cv, rfl, hcv⟩ := lv_form h.hlv
  have cM := made_any db m1 m2 st.room st.fuse _ w h.hdb
  have HLT := Lib.hid hlt
  have hr1 := h.room.2
  have hchain : Chain st.room (datF E2) st.L := by rw [h.d2]; exact h.chain
  have hA := again_any db m1 m2 st.room st.fuse _ E2 fs st.L (keptN st calls) w h.hdb h.f2 h.hlv hchain hr1 (keptN_le st calls) hl
  obtain ⟨_, _, _, _, c4⟩ := h.hdb.cells
  have ek : min (max calls 0) ((st.L.length : Nat) : Int) = ((keptN st calls : Nat) : Int) := by unfold keptN; omega
  have HK := Lib.hid (keptN_le st calls)
  unfold ptr at cM hA ⊢
  clear hlt
  have hcr : crashS st calls bytes = (0, { st with fuse := -1, S := crashF st calls bytes, L := [] }) := rfl
  rw [hcr]
  by_cases hall : ¬ 0 ≤ calls ∨ (0 ≤ calls ∧ st.L.length ≤ keptN st calls)
  · have hF : crashF st calls bytes = doAll (datF E2) (st.L.take (keptN st calls)) := by
      rw [h.d2]
      exact crash_all (hall.imp id And.right)
    rw [hF]
    have hfine : FineF st.room (doAll (datF E2) (st.L.take (keptN st calls))) := (hchain.take (keptN st calls)).last
    have hall2 : ¬ 0 ≤ calls ∨ (0 ≤ calls ∧ ¬ ((keptN st calls : Nat) : Int) < ((st.L.length : Nat) : Int)) := hall.imp id fun h => ⟨h.1, by omega⟩
    have HF := Lib.hid hfine
    clear hfine hF hall hchain hcr
    generalize keptN st calls = k at *
    rcases hall2 with hb1 | ⟨hb1, hb2⟩
    all_goals
      go_enter Try.func26, Try.ntmps26
      go_wp2_with (first
        | (go_at_call 38; refine cM.mono ?_; rintro e w1 ⟨rfl, rfl⟩)
        | (go_at_call 49; refine hA.mono ?_; rintro e w2 ⟨rfl, E2', q1, q2, q3, q4⟩; obtain ⟨qD, qC⟩ := crash_tail h HLT.out (Turn.refl _ _) q1 q2 q3 q4 HF.out; obtain ⟨_, _, _, z3, z4⟩ := qD.cells)
        | (go_at_call 52; refine qC.mono ?_; rintro e w3 ⟨mc, rfl, qE, hFIN⟩; have hE3 := qE.s2 mc; have hE4 := hE3.s4 (.slice none 0 0); obtain ⟨_, _, y2, _, _⟩ := qE.cells; obtain ⟨_, _, _, _, y4⟩ := hE3.cells; obtain ⟨_, y1, _, _, _⟩ := hE4.cells; have f2 := qE.frozen 2; have f4 := hE3.frozen 4; have f1 := hE4.frozen 1))
      go_ret
      exact ⟨rfl, hFIN⟩
  · have hc0 : 0 ≤ calls := by omega
    have hkl : keptN st calls < st.L.length := by omega
    obtain ⟨hfk, hok, _⟩ := hchain.at' (keptN st calls) hkl
    have hfd : FineF st.room (doF 16777217 (doAll (datF E2) (st.L.take (keptN st calls))) st.L[keptN st calls]) := by
      have h2 := hchain.take (keptN st calls + 1)
      have h3 := h2.last
      rw [(hchain.at' (keptN st calls) hkl).2.2] at h3
      exact h3
    have HF := Lib.hid (fine_do hfk hfd hr1 (partN_le bytes))
    have HFK := Lib.hid hfk
    have hF : crashF st calls bytes = doF (partN bytes) (doAll (datF E2) (st.L.take (keptN st calls))) st.L[keptN st calls] := by
      rw [h.d2]
      exact crash_part hc0 hkl
    rw [hF]
    have eb : min (max bytes 0) 16777216 = ((partN bytes : Nat) : Int) := by unfold partN; omega
    have HPL := Lib.hid (partN_le bytes)
    have HKL := Lib.hid hkl
    have hki : ((keptN st calls : Nat) : Int) < ((st.L.length : Nat) : Int) := by omega
    have hk0 : (0 : Int) ≤ ((keptN st calls : Nat) : Int) := by omega
    obtain ⟨op, hopc⟩ : ∃ op, st.L[keptN st calls]'hkl = op := ⟨_, rfl⟩
    have HOP : Hid (∀ (W : World) f, OpV W f (st.L[keptN st calls]'hkl) → OpV W f op) := Lib.hid fun _ _ h => hopc ▸ h
    rw [hopc] at hok HF ⊢
    clear hfk hfd hF hall hchain hcr hopc
    generalize partN bytes = pk at *
    cases op with
    | app s d =>
      go_enter Try.func26, Try.ntmps26
      go_upto_region 6 with (first
        | (go_at_call 38; refine cM.mono ?_; rintro e w1 ⟨rfl, rfl⟩)
        | (go_at_call 49; refine hA.mono ?_; rintro e w2 ⟨rfl, hE⟩; obtain ⟨E2', q1, q2, q3, q4⟩ := hE; have qD := q3.db h.f2 h.hdb; obtain ⟨_, _, _, z3, z4⟩ := qD.cells; obtain ⟨g, cap, f, hlv, hcap, hcell, hop⟩ := lv_at (q3.lv h.f2 h.hlv) _ HKL.out))
      have hop2 := HOP.out _ _ hop
      obtain ⟨b1, b2, rfl, h1, h2⟩ := hop2
      rw [← q2] at hok
      have hsm := sm_of (room := st.room) (E := E2') (by rw [q2]; exact HFK.out) hr1
      have cC := do_app m2 E2' s d b1 b2 pk _ q1.drew h1 h2 hok hsm (by have := HPL.out; omega)
      unfold ptr at cC hcell
      have HDR : ∀ w' F, DoEnd w2.drew m2 E2' F w' → DoEnd w2 m2 E2' F w' := fun _ _ h => h.drew
      have hS0 : w2.drew.cell? ⟨db, 4, none⟩ = some (.slice (some ⟨g, 0, none⟩) st.L.length cv) ∧ w2.drew.cell? ⟨g, keptN st calls, none⟩ = some (.func (.func 57) #[] #[.pointer (some ⟨b1, 0, none⟩), .pointer (some ⟨b2, 0, none⟩)]) ∧ w2.drew.cell? ⟨db, 3, none⟩ = some (.map (some m2)) := ⟨z4, hcell, z3⟩
      refine wp_region_any (by kernel_rfl) ?_
      change wpAny _ _ _ _ 15 _ _ (World.drew _)
      generalize w2.drew = wd at *
      refine HT.wpAny_of_G (k := 14) (S := fun w' => w'.cell? ⟨db, 4, none⟩ = some (.slice (some ⟨g, 0, none⟩) st.L.length cv) ∧ w'.cell? ⟨g, keptN st calls, none⟩ = some (.func (.func 57) #[] #[.pointer (some ⟨b1, 0, none⟩), .pointer (some ⟨b2, 0, none⟩)]) ∧ w'.cell? ⟨db, 3, none⟩ = some (.map (some m2))) _ _ _ _ ?_
      refine HT.takeG_at (i := 0) (v := ?_) rfl rfl (by kernel_rfl) (by kernel_rfl) (by kernel_rfl) (by kernel_rfl) (by kernel_rfl) (by kernel_rfl) (fun _ _ _ h => h) hS0 (Or.inl ⟨by rfl, ?_⟩) ?_
      rotate_left
      · intro wq hwq
        obtain ⟨y1, y2, y3⟩ := hwq
        go_simp
        try with_reducible rfl
      simp only [Act.put, List.setIfInBounds_toArray, List.set_cons_zero, List.set_cons_succ]
      refine HT.takeG_at (i := 1) (v := ?_) rfl rfl (by kernel_rfl) (by kernel_rfl) (by kernel_rfl) (by kernel_rfl) (by kernel_rfl) (by kernel_rfl) (fun _ _ _ h => h) hS0 (Or.inl ⟨by rfl, ?_⟩) ?_
      rotate_left
      · intro wq hwq
        obtain ⟨y1, y2, y3⟩ := hwq
        go_simp
        try with_reducible rfl
      simp only [Act.put, List.setIfInBounds_toArray, List.set_cons_zero, List.set_cons_succ]
      refine HT.takeG_at (i := 2) (v := ?_) rfl rfl (by kernel_rfl) (by kernel_rfl) (by kernel_rfl) (by kernel_rfl) (by kernel_rfl) (by kernel_rfl) (fun _ _ _ h => h) hS0 (Or.inl ⟨by rfl, ?_⟩) ?_
      rotate_left
      · intro wq hwq
        obtain ⟨y1, y2, y3⟩ := hwq
        go_simp
        try with_reducible rfl
      simp only [Act.put, List.setIfInBounds_toArray, List.set_cons_zero, List.set_cons_succ]
      refine HT.takeG_at (i := 3) (v := ?_) rfl rfl (by kernel_rfl) (by kernel_rfl) (by kernel_rfl) (by kernel_rfl) (by kernel_rfl) (by kernel_rfl) (fun _ _ _ h => h) hS0 (Or.inl ⟨by rfl, ?_⟩) ?_
      rotate_left
      · intro wq hwq
        obtain ⟨y1, y2, y3⟩ := hwq
        go_simp
        try with_reducible rfl
      simp only [Act.put, List.setIfInBounds_toArray, List.set_cons_zero, List.set_cons_succ]
      refine HT.takeG_at (i := 4) (v := ?_) rfl rfl (by kernel_rfl) (by kernel_rfl) (by kernel_rfl) (by kernel_rfl) (by kernel_rfl) (by kernel_rfl) (fun _ _ _ h => h) hS0 (Or.inl ⟨by rfl, ?_⟩) ?_
      rotate_left
      · intro wq hwq
        obtain ⟨y1, y2, y3⟩ := hwq
        go_simp
        try with_reducible rfl
      simp only [Act.put, List.setIfInBounds_toArray, List.set_cons_zero, List.set_cons_succ]
      refine HT.takeG_at (i := 5) (v := ?_) rfl rfl (by kernel_rfl) (by kernel_rfl) (by kernel_rfl) (by kernel_rfl) (by kernel_rfl) (by kernel_rfl) (fun _ _ _ h => h) hS0 (Or.inl ⟨by rfl, ?_⟩) ?_
      rotate_left
      · intro wq hwq
        obtain ⟨y1, y2, y3⟩ := hwq
        go_simp
        try with_reducible rfl
      simp only [Act.put, List.setIfInBounds_toArray, List.set_cons_zero, List.set_cons_succ]
      refine HT.takeG_at (i := 6) (v := ?_) rfl rfl (by kernel_rfl) (by kernel_rfl) (by kernel_rfl) (by kernel_rfl) (by kernel_rfl) (by kernel_rfl) (fun _ _ _ h => h) hS0 (Or.inl ⟨by rfl, ?_⟩) ?_
      rotate_left
      · intro wq hwq
        obtain ⟨y1, y2, y3⟩ := hwq
        go_simp
        try with_reducible rfl
      simp only [Act.put, List.setIfInBounds_toArray, List.set_cons_zero, List.set_cons_succ]
      refine HT.takeG_at (i := 7) (v := ?_) rfl rfl (by kernel_rfl) (by kernel_rfl) (by kernel_rfl) (by kernel_rfl) (by kernel_rfl) (by kernel_rfl) (fun _ _ _ h => h) hS0 (Or.inl ⟨by rfl, ?_⟩) ?_
      rotate_left
      · intro wq hwq
        obtain ⟨y1, y2, y3⟩ := hwq
        go_simp
        try with_reducible rfl
      simp only [Act.put, List.setIfInBounds_toArray, List.set_cons_zero, List.set_cons_succ]
      refine HT.takeG_at (i := 8) (v := ?_) rfl rfl (by kernel_rfl) (by kernel_rfl) (by kernel_rfl) (by kernel_rfl) (by kernel_rfl) (by kernel_rfl) (fun _ _ _ h => h) hS0 (Or.inl ⟨by rfl, ?_⟩) ?_
      rotate_left
      · intro wq hwq
        obtain ⟨y1, y2, y3⟩ := hwq
        go_simp
        try with_reducible rfl
      simp only [Act.put, List.setIfInBounds_toArray, List.set_cons_zero, List.set_cons_succ]
      refine HT.takeG_at (i := 9) (v := ?_) rfl rfl (by kernel_rfl) (by kernel_rfl) (by kernel_rfl) (by kernel_rfl) (by kernel_rfl) (by kernel_rfl) (fun _ _ _ h => h) hS0 (Or.inl ⟨by rfl, ?_⟩) ?_
      rotate_left
      · intro wq hwq
        obtain ⟨y1, y2, y3⟩ := hwq
        go_simp
        try with_reducible rfl
      simp only [Act.put, List.setIfInBounds_toArray, List.set_cons_zero, List.set_cons_succ]
      refine HT.takeG_at (i := 10) (v := ?_) rfl rfl (by kernel_rfl) (by kernel_rfl) (by kernel_rfl) (by kernel_rfl) (by kernel_rfl) (by kernel_rfl) (fun _ _ _ h => h) hS0 (Or.inl ⟨by rfl, ?_⟩) ?_
      rotate_left
      · intro wq hwq
        obtain ⟨y1, y2, y3⟩ := hwq
        go_simp
        try with_reducible rfl
      simp only [Act.put, List.setIfInBounds_toArray, List.set_cons_zero, List.set_cons_succ]
      refine HT.takeG_at (i := 11) (v := ?_) rfl rfl (by kernel_rfl) (by kernel_rfl) (by kernel_rfl) (by kernel_rfl) (by kernel_rfl) (by kernel_rfl) (fun _ _ _ h => h) hS0 (Or.inl ⟨by rfl, ?_⟩) ?_
      rotate_left
      · intro wq hwq
        obtain ⟨y1, y2, y3⟩ := hwq
        go_simp
        try with_reducible rfl
      simp only [Act.put, List.setIfInBounds_toArray, List.set_cons_zero, List.set_cons_succ]
      refine HT.takeG_at (i := 12) (v := ?_) rfl rfl (by kernel_rfl) (by kernel_rfl) (by kernel_rfl) (by kernel_rfl) (by kernel_rfl) (by kernel_rfl) (fun _ _ _ h => h) hS0 (Or.inl ⟨by rfl, ?_⟩) ?_
      rotate_left
      · intro wq hwq
        obtain ⟨y1, y2, y3⟩ := hwq
        go_simp
        try with_reducible rfl
      simp only [Act.put, List.setIfInBounds_toArray, List.set_cons_zero, List.set_cons_succ]
      refine HT.takeG_at (i := 13) (v := ?_) rfl rfl (by kernel_rfl) (by kernel_rfl) (by kernel_rfl) (by kernel_rfl) (by kernel_rfl) (by kernel_rfl) (fun _ _ _ h => h) hS0 (Or.inl ⟨by rfl, ?_⟩) ?_
      rotate_left
      · intro wq hwq
        obtain ⟨y1, y2, y3⟩ := hwq
        go_simp
        try with_reducible rfl
      simp only [Act.put, List.setIfInBounds_toArray, List.set_cons_zero, List.set_cons_succ]
      refine HT.wpAnyG_turn (k := 14) (by kernel_rfl) rfl (fun KK hKK => ?_)
      go_simp
      refine cC.mono ?_
      rintro e w3 ⟨rfl, hDo⟩
      refine hKK _ _ ?_
      clear hKK KK
      refine ⟨by kernel_rfl, ?_⟩
      obtain ⟨E3, r1, r2, r3, r4⟩ := HDR _ _ hDo
      rw [q2] at r2
      obtain ⟨qD3, qC⟩ := crash_tail h HLT.out (Turn.refl _ _) r1 r2 (q3.then r3 fun j hj hf => (q4 j hf).elim id fun h => by omega) (fun j hj => (r4 j hj).elim (q4 j) fun h => .inr (Nat.le_trans q3.size h)) HF.out
      obtain ⟨_, _, _, x3, x4⟩ := qD3.cells
      go_wp2_with (go_at_call 52; refine qC.mono ?_; rintro e w4 ⟨mc, rfl, qE, hFIN⟩; have hE3 := qE.s2 mc; have hE4 := hE3.s4 (.slice none 0 0); obtain ⟨_, _, y2, _, _⟩ := qE.cells; obtain ⟨_, _, _, _, y4⟩ := hE3.cells; obtain ⟨_, y1, _, _, _⟩ := hE4.cells; have f2 := qE.frozen 2; have f4 := hE3.frozen 4; have f1 := hE4.frozen 1)
      go_ret
      exact ⟨rfl, hFIN⟩
    | cut s n =>
      go_enter Try.func26, Try.ntmps26
      go_upto_region 6 with (first
        | (go_at_call 38; refine cM.mono ?_; rintro e w1 ⟨rfl, rfl⟩)
        | (go_at_call 49; refine hA.mono ?_; rintro e w2 ⟨rfl, hE⟩; obtain ⟨E2', q1, q2, q3, q4⟩ := hE; have qD := q3.db h.f2 h.hdb; obtain ⟨_, _, _, z3, z4⟩ := qD.cells; obtain ⟨g, cap, f, hlv, hcap, hcell, hop⟩ := lv_at (q3.lv h.f2 h.hlv) _ HKL.out))
      have hop2 := HOP.out _ _ hop
      obtain ⟨c, iv, rfl, h1, h2⟩ := hop2
      rw [← q2] at hok
      have hsm := sm_of (room := st.room) (E := E2') (by rw [q2]; exact HFK.out) hr1
      have cC := do_und m2 E2' (.cut s n) c iv pk _ q1.drew h1 h2 hok hsm (by have := HPL.out; omega)
      unfold ptr at cC hcell
      have HDR : ∀ w' F, DoEnd w2.drew m2 E2' F w' → DoEnd w2 m2 E2' F w' := fun _ _ h => h.drew
      have hS0 : w2.drew.cell? ⟨db, 4, none⟩ = some (.slice (some ⟨g, 0, none⟩) st.L.length cv) ∧ w2.drew.cell? ⟨g, keptN st calls, none⟩ = some (.func (.func 69) #[] #[.pointer (some ⟨c, 0, none⟩)]) ∧ w2.drew.cell? ⟨db, 3, none⟩ = some (.map (some m2)) := ⟨z4, hcell, z3⟩
      refine wp_region_any (by kernel_rfl) ?_
      change wpAny _ _ _ _ 15 _ _ (World.drew _)
      generalize w2.drew = wd at *
      refine HT.wpAny_of_G (k := 14) (S := fun w' => w'.cell? ⟨db, 4, none⟩ = some (.slice (some ⟨g, 0, none⟩) st.L.length cv) ∧ w'.cell? ⟨g, keptN st calls, none⟩ = some (.func (.func 69) #[] #[.pointer (some ⟨c, 0, none⟩)]) ∧ w'.cell? ⟨db, 3, none⟩ = some (.map (some m2))) _ _ _ _ ?_
      refine HT.takeG_at (i := 0) (v := ?_) rfl rfl (by kernel_rfl) (by kernel_rfl) (by kernel_rfl) (by kernel_rfl) (by kernel_rfl) (by kernel_rfl) (fun _ _ _ h => h) hS0 (Or.inl ⟨by rfl, ?_⟩) ?_
      rotate_left
      · intro wq hwq
        obtain ⟨y1, y2, y3⟩ := hwq
        go_simp
        try with_reducible rfl
      simp only [Act.put, List.setIfInBounds_toArray, List.set_cons_zero, List.set_cons_succ]
      refine HT.takeG_at (i := 1) (v := ?_) rfl rfl (by kernel_rfl) (by kernel_rfl) (by kernel_rfl) (by kernel_rfl) (by kernel_rfl) (by kernel_rfl) (fun _ _ _ h => h) hS0 (Or.inl ⟨by rfl, ?_⟩) ?_
      rotate_left
      · intro wq hwq
        obtain ⟨y1, y2, y3⟩ := hwq
        go_simp
        try with_reducible rfl
      simp only [Act.put, List.setIfInBounds_toArray, List.set_cons_zero, List.set_cons_succ]
      refine HT.takeG_at (i := 2) (v := ?_) rfl rfl (by kernel_rfl) (by kernel_rfl) (by kernel_rfl) (by kernel_rfl) (by kernel_rfl) (by kernel_rfl) (fun _ _ _ h => h) hS0 (Or.inl ⟨by rfl, ?_⟩) ?_
      rotate_left
      · intro wq hwq
        obtain ⟨y1, y2, y3⟩ := hwq
        go_simp
        try with_reducible rfl
      simp only [Act.put, List.setIfInBounds_toArray, List.set_cons_zero, List.set_cons_succ]
      refine HT.takeG_at (i := 3) (v := ?_) rfl rfl (by kernel_rfl) (by kernel_rfl) (by kernel_rfl) (by kernel_rfl) (by kernel_rfl) (by kernel_rfl) (fun _ _ _ h => h) hS0 (Or.inl ⟨by rfl, ?_⟩) ?_
      rotate_left
      · intro wq hwq
        obtain ⟨y1, y2, y3⟩ := hwq
        go_simp
        try with_reducible rfl
      simp only [Act.put, List.setIfInBounds_toArray, List.set_cons_zero, List.set_cons_succ]
      refine HT.takeG_at (i := 4) (v := ?_) rfl rfl (by kernel_rfl) (by kernel_rfl) (by kernel_rfl) (by kernel_rfl) (by kernel_rfl) (by kernel_rfl) (fun _ _ _ h => h) hS0 (Or.inl ⟨by rfl, ?_⟩) ?_
      rotate_left
      · intro wq hwq
        obtain ⟨y1, y2, y3⟩ := hwq
        go_simp
        try with_reducible rfl
      simp only [Act.put, List.setIfInBounds_toArray, List.set_cons_zero, List.set_cons_succ]
      refine HT.takeG_at (i := 5) (v := ?_) rfl rfl (by kernel_rfl) (by kernel_rfl) (by kernel_rfl) (by kernel_rfl) (by kernel_rfl) (by kernel_rfl) (fun _ _ _ h => h) hS0 (Or.inl ⟨by rfl, ?_⟩) ?_
      rotate_left
      · intro wq hwq
        obtain ⟨y1, y2, y3⟩ := hwq
        go_simp
        try with_reducible rfl
      simp only [Act.put, List.setIfInBounds_toArray, List.set_cons_zero, List.set_cons_succ]
      refine HT.takeG_at (i := 6) (v := ?_) rfl rfl (by kernel_rfl) (by kernel_rfl) (by kernel_rfl) (by kernel_rfl) (by kernel_rfl) (by kernel_rfl) (fun _ _ _ h => h) hS0 (Or.inl ⟨by rfl, ?_⟩) ?_
      rotate_left
      · intro wq hwq
        obtain ⟨y1, y2, y3⟩ := hwq
        go_simp
        try with_reducible rfl
      simp only [Act.put, List.setIfInBounds_toArray, List.set_cons_zero, List.set_cons_succ]
      refine HT.takeG_at (i := 7) (v := ?_) rfl rfl (by kernel_rfl) (by kernel_rfl) (by kernel_rfl) (by kernel_rfl) (by kernel_rfl) (by kernel_rfl) (fun _ _ _ h => h) hS0 (Or.inl ⟨by rfl, ?_⟩) ?_
      rotate_left
      · intro wq hwq
        obtain ⟨y1, y2, y3⟩ := hwq
        go_simp
        try with_reducible rfl
      simp only [Act.put, List.setIfInBounds_toArray, List.set_cons_zero, List.set_cons_succ]
      refine HT.takeG_at (i := 8) (v := ?_) rfl rfl (by kernel_rfl) (by kernel_rfl) (by kernel_rfl) (by kernel_rfl) (by kernel_rfl) (by kernel_rfl) (fun _ _ _ h => h) hS0 (Or.inl ⟨by rfl, ?_⟩) ?_
      rotate_left
      · intro wq hwq
        obtain ⟨y1, y2, y3⟩ := hwq
        go_simp
        try with_reducible rfl
      simp only [Act.put, List.setIfInBounds_toArray, List.set_cons_zero, List.set_cons_succ]
      refine HT.takeG_at (i := 9) (v := ?_) rfl rfl (by kernel_rfl) (by kernel_rfl) (by kernel_rfl) (by kernel_rfl) (by kernel_rfl) (by kernel_rfl) (fun _ _ _ h => h) hS0 (Or.inl ⟨by rfl, ?_⟩) ?_
      rotate_left
      · intro wq hwq
        obtain ⟨y1, y2, y3⟩ := hwq
        go_simp
        try with_reducible rfl
      simp only [Act.put, List.setIfInBounds_toArray, List.set_cons_zero, List.set_cons_succ]
      refine HT.takeG_at (i := 10) (v := ?_) rfl rfl (by kernel_rfl) (by kernel_rfl) (by kernel_rfl) (by kernel_rfl) (by kernel_rfl) (by kernel_rfl) (fun _ _ _ h => h) hS0 (Or.inl ⟨by rfl, ?_⟩) ?_
      rotate_left
      · intro wq hwq
        obtain ⟨y1, y2, y3⟩ := hwq
        go_simp
        try with_reducible rfl
      simp only [Act.put, List.setIfInBounds_toArray, List.set_cons_zero, List.set_cons_succ]
      refine HT.takeG_at (i := 11) (v := ?_) rfl rfl (by kernel_rfl) (by kernel_rfl) (by kernel_rfl) (by kernel_rfl) (by kernel_rfl) (by kernel_rfl) (fun _ _ _ h => h) hS0 (Or.inl ⟨by rfl, ?_⟩) ?_
      rotate_left
      · intro wq hwq
        obtain ⟨y1, y2, y3⟩ := hwq
        go_simp
        try with_reducible rfl
      simp only [Act.put, List.setIfInBounds_toArray, List.set_cons_zero, List.set_cons_succ]
      refine HT.takeG_at (i := 12) (v := ?_) rfl rfl (by kernel_rfl) (by kernel_rfl) (by kernel_rfl) (by kernel_rfl) (by kernel_rfl) (by kernel_rfl) (fun _ _ _ h => h) hS0 (Or.inl ⟨by rfl, ?_⟩) ?_
      rotate_left
      · intro wq hwq
        obtain ⟨y1, y2, y3⟩ := hwq
        go_simp
        try with_reducible rfl
      simp only [Act.put, List.setIfInBounds_toArray, List.set_cons_zero, List.set_cons_succ]
      refine HT.takeG_at (i := 13) (v := ?_) rfl rfl (by kernel_rfl) (by kernel_rfl) (by kernel_rfl) (by kernel_rfl) (by kernel_rfl) (by kernel_rfl) (fun _ _ _ h => h) hS0 (Or.inl ⟨by rfl, ?_⟩) ?_
      rotate_left
      · intro wq hwq
        obtain ⟨y1, y2, y3⟩ := hwq
        go_simp
        try with_reducible rfl
      simp only [Act.put, List.setIfInBounds_toArray, List.set_cons_zero, List.set_cons_succ]
      refine HT.wpAnyG_turn (k := 14) (by kernel_rfl) rfl (fun KK hKK => ?_)
      go_simp
      refine cC.mono ?_
      rintro e w3 ⟨rfl, hDo⟩
      refine hKK _ _ ?_
      clear hKK KK
      refine ⟨by kernel_rfl, ?_⟩
      obtain ⟨E3, r1, r2, r3, r4⟩ := HDR _ _ hDo
      rw [q2] at r2
      obtain ⟨qD3, qC⟩ := crash_tail h HLT.out (Turn.refl _ _) r1 r2 (q3.then r3 fun j hj hf => (q4 j hf).elim id fun h => by omega) (fun j hj => (r4 j hj).elim (q4 j) fun h => .inr (Nat.le_trans q3.size h)) HF.out
      obtain ⟨_, _, _, x3, x4⟩ := qD3.cells
      go_wp2_with (go_at_call 52; refine qC.mono ?_; rintro e w4 ⟨mc, rfl, qE, hFIN⟩; have hE3 := qE.s2 mc; have hE4 := hE3.s4 (.slice none 0 0); obtain ⟨_, _, y2, _, _⟩ := qE.cells; obtain ⟨_, _, _, _, y4⟩ := hE3.cells; obtain ⟨_, y1, _, _, _⟩ := hE4.cells; have f2 := qE.frozen 2; have f4 := hE3.frozen 4; have f1 := hE4.frozen 1)
      go_ret
      exact ⟨rfl, hFIN⟩
    | ren s t =>
      go_enter Try.func26, Try.ntmps26
      go_upto_region 6 with (first
        | (go_at_call 38; refine cM.mono ?_; rintro e w1 ⟨rfl, rfl⟩)
        | (go_at_call 49; refine hA.mono ?_; rintro e w2 ⟨rfl, hE⟩; obtain ⟨E2', q1, q2, q3, q4⟩ := hE; have qD := q3.db h.f2 h.hdb; obtain ⟨_, _, _, z3, z4⟩ := qD.cells; obtain ⟨g, cap, f, hlv, hcap, hcell, hop⟩ := lv_at (q3.lv h.f2 h.hlv) _ HKL.out))
      have hop2 := HOP.out _ _ hop
      obtain ⟨c, iv, rfl, h1, h2⟩ := hop2
      rw [← q2] at hok
      have hsm := sm_of (room := st.room) (E := E2') (by rw [q2]; exact HFK.out) hr1
      have cC := do_und m2 E2' (.ren s t) c iv pk _ q1.drew h1 h2 hok hsm (by have := HPL.out; omega)
      unfold ptr at cC hcell
      have HDR : ∀ w' F, DoEnd w2.drew m2 E2' F w' → DoEnd w2 m2 E2' F w' := fun _ _ h => h.drew
      have hS0 : w2.drew.cell? ⟨db, 4, none⟩ = some (.slice (some ⟨g, 0, none⟩) st.L.length cv) ∧ w2.drew.cell? ⟨g, keptN st calls, none⟩ = some (.func (.func 69) #[] #[.pointer (some ⟨c, 0, none⟩)]) ∧ w2.drew.cell? ⟨db, 3, none⟩ = some (.map (some m2)) := ⟨z4, hcell, z3⟩
      refine wp_region_any (by kernel_rfl) ?_
      change wpAny _ _ _ _ 15 _ _ (World.drew _)
      generalize w2.drew = wd at *
      refine HT.wpAny_of_G (k := 14) (S := fun w' => w'.cell? ⟨db, 4, none⟩ = some (.slice (some ⟨g, 0, none⟩) st.L.length cv) ∧ w'.cell? ⟨g, keptN st calls, none⟩ = some (.func (.func 69) #[] #[.pointer (some ⟨c, 0, none⟩)]) ∧ w'.cell? ⟨db, 3, none⟩ = some (.map (some m2))) _ _ _ _ ?_
      refine HT.takeG_at (i := 0) (v := ?_) rfl rfl (by kernel_rfl) (by kernel_rfl) (by kernel_rfl) (by kernel_rfl) (by kernel_rfl) (by kernel_rfl) (fun _ _ _ h => h) hS0 (Or.inl ⟨by rfl, ?_⟩) ?_
      rotate_left
      · intro wq hwq
        obtain ⟨y1, y2, y3⟩ := hwq
        go_simp
        try with_reducible rfl
      simp only [Act.put, List.setIfInBounds_toArray, List.set_cons_zero, List.set_cons_succ]
      refine HT.takeG_at (i := 1) (v := ?_) rfl rfl (by kernel_rfl) (by kernel_rfl) (by kernel_rfl) (by kernel_rfl) (by kernel_rfl) (by kernel_rfl) (fun _ _ _ h => h) hS0 (Or.inl ⟨by rfl, ?_⟩) ?_
      rotate_left
      · intro wq hwq
        obtain ⟨y1, y2, y3⟩ := hwq
        go_simp
        try with_reducible rfl
      simp only [Act.put, List.setIfInBounds_toArray, List.set_cons_zero, List.set_cons_succ]
      refine HT.takeG_at (i := 2) (v := ?_) rfl rfl (by kernel_rfl) (by kernel_rfl) (by kernel_rfl) (by kernel_rfl) (by kernel_rfl) (by kernel_rfl) (fun _ _ _ h => h) hS0 (Or.inl ⟨by rfl, ?_⟩) ?_
      rotate_left
      · intro wq hwq
        obtain ⟨y1, y2, y3⟩ := hwq
        go_simp
        try with_reducible rfl
      simp only [Act.put, List.setIfInBounds_toArray, List.set_cons_zero, List.set_cons_succ]
      refine HT.takeG_at (i := 3) (v := ?_) rfl rfl (by kernel_rfl) (by kernel_rfl) (by kernel_rfl) (by kernel_rfl) (by kernel_rfl) (by kernel_rfl) (fun _ _ _ h => h) hS0 (Or.inl ⟨by rfl, ?_⟩) ?_
      rotate_left
      · intro wq hwq
        obtain ⟨y1, y2, y3⟩ := hwq
        go_simp
        try with_reducible rfl
      simp only [Act.put, List.setIfInBounds_toArray, List.set_cons_zero, List.set_cons_succ]
      refine HT.takeG_at (i := 4) (v := ?_) rfl rfl (by kernel_rfl) (by kernel_rfl) (by kernel_rfl) (by kernel_rfl) (by kernel_rfl) (by kernel_rfl) (fun _ _ _ h => h) hS0 (Or.inl ⟨by rfl, ?_⟩) ?_
      rotate_left
      · intro wq hwq
        obtain ⟨y1, y2, y3⟩ := hwq
        go_simp
        try with_reducible rfl
      simp only [Act.put, List.setIfInBounds_toArray, List.set_cons_zero, List.set_cons_succ]
      refine HT.takeG_at (i := 5) (v := ?_) rfl rfl (by kernel_rfl) (by kernel_rfl) (by kernel_rfl) (by kernel_rfl) (by kernel_rfl) (by kernel_rfl) (fun _ _ _ h => h) hS0 (Or.inl ⟨by rfl, ?_⟩) ?_
      rotate_left
      · intro wq hwq
        obtain ⟨y1, y2, y3⟩ := hwq
        go_simp
        try with_reducible rfl
      simp only [Act.put, List.setIfInBounds_toArray, List.set_cons_zero, List.set_cons_succ]
      refine HT.takeG_at (i := 6) (v := ?_) rfl rfl (by kernel_rfl) (by kernel_rfl) (by kernel_rfl) (by kernel_rfl) (by kernel_rfl) (by kernel_rfl) (fun _ _ _ h => h) hS0 (Or.inl ⟨by rfl, ?_⟩) ?_
      rotate_left
      · intro wq hwq
        obtain ⟨y1, y2, y3⟩ := hwq
        go_simp
        try with_reducible rfl
      simp only [Act.put, List.setIfInBounds_toArray, List.set_cons_zero, List.set_cons_succ]
      refine HT.takeG_at (i := 7) (v := ?_) rfl rfl (by kernel_rfl) (by kernel_rfl) (by kernel_rfl) (by kernel_rfl) (by kernel_rfl) (by kernel_rfl) (fun _ _ _ h => h) hS0 (Or.inl ⟨by rfl, ?_⟩) ?_
      rotate_left
      · intro wq hwq
        obtain ⟨y1, y2, y3⟩ := hwq
        go_simp
        try with_reducible rfl
      simp only [Act.put, List.setIfInBounds_toArray, List.set_cons_zero, List.set_cons_succ]
      refine HT.takeG_at (i := 8) (v := ?_) rfl rfl (by kernel_rfl) (by kernel_rfl) (by kernel_rfl) (by kernel_rfl) (by kernel_rfl) (by kernel_rfl) (fun _ _ _ h => h) hS0 (Or.inl ⟨by rfl, ?_⟩) ?_
      rotate_left
      · intro wq hwq
        obtain ⟨y1, y2, y3⟩ := hwq
        go_simp
        try with_reducible rfl
      simp only [Act.put, List.setIfInBounds_toArray, List.set_cons_zero, List.set_cons_succ]
      refine HT.takeG_at (i := 9) (v := ?_) rfl rfl (by kernel_rfl) (by kernel_rfl) (by kernel_rfl) (by kernel_rfl) (by kernel_rfl) (by kernel_rfl) (fun _ _ _ h => h) hS0 (Or.inl ⟨by rfl, ?_⟩) ?_
      rotate_left
      · intro wq hwq
        obtain ⟨y1, y2, y3⟩ := hwq
        go_simp
        try with_reducible rfl
      simp only [Act.put, List.setIfInBounds_toArray, List.set_cons_zero, List.set_cons_succ]
      refine HT.takeG_at (i := 10) (v := ?_) rfl rfl (by kernel_rfl) (by kernel_rfl) (by kernel_rfl) (by kernel_rfl) (by kernel_rfl) (by kernel_rfl) (fun _ _ _ h => h) hS0 (Or.inl ⟨by rfl, ?_⟩) ?_
      rotate_left
      · intro wq hwq
        obtain ⟨y1, y2, y3⟩ := hwq
        go_simp
        try with_reducible rfl
      simp only [Act.put, List.setIfInBounds_toArray, List.set_cons_zero, List.set_cons_succ]
      refine HT.takeG_at (i := 11) (v := ?_) rfl rfl (by kernel_rfl) (by kernel_rfl) (by kernel_rfl) (by kernel_rfl) (by kernel_rfl) (by kernel_rfl) (fun _ _ _ h => h) hS0 (Or.inl ⟨by rfl, ?_⟩) ?_
      rotate_left
      · intro wq hwq
        obtain ⟨y1, y2, y3⟩ := hwq
        go_simp
        try with_reducible rfl
      simp only [Act.put, List.setIfInBounds_toArray, List.set_cons_zero, List.set_cons_succ]
      refine HT.takeG_at (i := 12) (v := ?_) rfl rfl (by kernel_rfl) (by kernel_rfl) (by kernel_rfl) (by kernel_rfl) (by kernel_rfl) (by kernel_rfl) (fun _ _ _ h => h) hS0 (Or.inl ⟨by rfl, ?_⟩) ?_
      rotate_left
      · intro wq hwq
        obtain ⟨y1, y2, y3⟩ := hwq
        go_simp
        try with_reducible rfl
      simp only [Act.put, List.setIfInBounds_toArray, List.set_cons_zero, List.set_cons_succ]
      refine HT.takeG_at (i := 13) (v := ?_) rfl rfl (by kernel_rfl) (by kernel_rfl) (by kernel_rfl) (by kernel_rfl) (by kernel_rfl) (by kernel_rfl) (fun _ _ _ h => h) hS0 (Or.inl ⟨by rfl, ?_⟩) ?_
      rotate_left
      · intro wq hwq
        obtain ⟨y1, y2, y3⟩ := hwq
        go_simp
        try with_reducible rfl
      simp only [Act.put, List.setIfInBounds_toArray, List.set_cons_zero, List.set_cons_succ]
      refine HT.wpAnyG_turn (k := 14) (by kernel_rfl) rfl (fun KK hKK => ?_)
      go_simp
      refine cC.mono ?_
      rintro e w3 ⟨rfl, hDo⟩
      refine hKK _ _ ?_
      clear hKK KK
      refine ⟨by kernel_rfl, ?_⟩
      obtain ⟨E3, r1, r2, r3, r4⟩ := HDR _ _ hDo
      rw [q2] at r2
      obtain ⟨qD3, qC⟩ := crash_tail h HLT.out (Turn.refl _ _) r1 r2 (q3.then r3 fun j hj hf => (q4 j hf).elim id fun h => by omega) (fun j hj => (r4 j hj).elim (q4 j) fun h => .inr (Nat.le_trans q3.size h)) HF.out
      obtain ⟨_, _, _, x3, x4⟩ := qD3.cells
      go_wp2_with (go_at_call 52; refine qC.mono ?_; rintro e w4 ⟨mc, rfl, qE, hFIN⟩; have hE3 := qE.s2 mc; have hE4 := hE3.s4 (.slice none 0 0); obtain ⟨_, _, y2, _, _⟩ := qE.cells; obtain ⟨_, _, _, _, y4⟩ := hE3.cells; obtain ⟨_, y1, _, _, _⟩ := hE4.cells; have f2 := qE.frozen 2; have f4 := hE3.frozen 4; have f1 := hE4.frozen 1)
      go_ret
      exact ⟨rfl, hFIN⟩
    | rem s =>
      go_enter Try.func26, Try.ntmps26
      go_upto_region 6 with (first
        | (go_at_call 38; refine cM.mono ?_; rintro e w1 ⟨rfl, rfl⟩)
        | (go_at_call 49; refine hA.mono ?_; rintro e w2 ⟨rfl, hE⟩; obtain ⟨E2', q1, q2, q3, q4⟩ := hE; have qD := q3.db h.f2 h.hdb; obtain ⟨_, _, _, z3, z4⟩ := qD.cells; obtain ⟨g, cap, f, hlv, hcap, hcell, hop⟩ := lv_at (q3.lv h.f2 h.hlv) _ HKL.out))
      have hop2 := HOP.out _ _ hop
      obtain ⟨c, iv, rfl, h1, h2⟩ := hop2
      rw [← q2] at hok
      have hsm := sm_of (room := st.room) (E := E2') (by rw [q2]; exact HFK.out) hr1
      have cC := do_und m2 E2' (.rem s) c iv pk _ q1.drew h1 h2 hok hsm (by have := HPL.out; omega)
      unfold ptr at cC hcell
      have HDR : ∀ w' F, DoEnd w2.drew m2 E2' F w' → DoEnd w2 m2 E2' F w' := fun _ _ h => h.drew
      have hS0 : w2.drew.cell? ⟨db, 4, none⟩ = some (.slice (some ⟨g, 0, none⟩) st.L.length cv) ∧ w2.drew.cell? ⟨g, keptN st calls, none⟩ = some (.func (.func 69) #[] #[.pointer (some ⟨c, 0, none⟩)]) ∧ w2.drew.cell? ⟨db, 3, none⟩ = some (.map (some m2)) := ⟨z4, hcell, z3⟩
      refine wp_region_any (by kernel_rfl) ?_
      change wpAny _ _ _ _ 15 _ _ (World.drew _)
      generalize w2.drew = wd at *
      refine HT.wpAny_of_G (k := 14) (S := fun w' => w'.cell? ⟨db, 4, none⟩ = some (.slice (some ⟨g, 0, none⟩) st.L.length cv) ∧ w'.cell? ⟨g, keptN st calls, none⟩ = some (.func (.func 69) #[] #[.pointer (some ⟨c, 0, none⟩)]) ∧ w'.cell? ⟨db, 3, none⟩ = some (.map (some m2))) _ _ _ _ ?_
      refine HT.takeG_at (i := 0) (v := ?_) rfl rfl (by kernel_rfl) (by kernel_rfl) (by kernel_rfl) (by kernel_rfl) (by kernel_rfl) (by kernel_rfl) (fun _ _ _ h => h) hS0 (Or.inl ⟨by rfl, ?_⟩) ?_
      rotate_left
      · intro wq hwq
        obtain ⟨y1, y2, y3⟩ := hwq
        go_simp
        try with_reducible rfl
      simp only [Act.put, List.setIfInBounds_toArray, List.set_cons_zero, List.set_cons_succ]
      refine HT.takeG_at (i := 1) (v := ?_) rfl rfl (by kernel_rfl) (by kernel_rfl) (by kernel_rfl) (by kernel_rfl) (by kernel_rfl) (by kernel_rfl) (fun _ _ _ h => h) hS0 (Or.inl ⟨by rfl, ?_⟩) ?_
      rotate_left
      · intro wq hwq
        obtain ⟨y1, y2, y3⟩ := hwq
        go_simp
        try with_reducible rfl
      simp only [Act.put, List.setIfInBounds_toArray, List.set_cons_zero, List.set_cons_succ]
      refine HT.takeG_at (i := 2) (v := ?_) rfl rfl (by kernel_rfl) (by kernel_rfl) (by kernel_rfl) (by kernel_rfl) (by kernel_rfl) (by kernel_rfl) (fun _ _ _ h => h) hS0 (Or.inl ⟨by rfl, ?_⟩) ?_
      rotate_left
      · intro wq hwq
        obtain ⟨y1, y2, y3⟩ := hwq
        go_simp
        try with_reducible rfl
      simp only [Act.put, List.setIfInBounds_toArray, List.set_cons_zero, List.set_cons_succ]
      refine HT.takeG_at (i := 3) (v := ?_) rfl rfl (by kernel_rfl) (by kernel_rfl) (by kernel_rfl) (by kernel_rfl) (by kernel_rfl) (by kernel_rfl) (fun _ _ _ h => h) hS0 (Or.inl ⟨by rfl, ?_⟩) ?_
      rotate_left
      · intro wq hwq
        obtain ⟨y1, y2, y3⟩ := hwq
        go_simp
        try with_reducible rfl
      simp only [Act.put, List.setIfInBounds_toArray, List.set_cons_zero, List.set_cons_succ]
      refine HT.takeG_at (i := 4) (v := ?_) rfl rfl (by kernel_rfl) (by kernel_rfl) (by kernel_rfl) (by kernel_rfl) (by kernel_rfl) (by kernel_rfl) (fun _ _ _ h => h) hS0 (Or.inl ⟨by rfl, ?_⟩) ?_
      rotate_left
      · intro wq hwq
        obtain ⟨y1, y2, y3⟩ := hwq
        go_simp
        try with_reducible rfl
      simp only [Act.put, List.setIfInBounds_toArray, List.set_cons_zero, List.set_cons_succ]
      refine HT.takeG_at (i := 5) (v := ?_) rfl rfl (by kernel_rfl) (by kernel_rfl) (by kernel_rfl) (by kernel_rfl) (by kernel_rfl) (by kernel_rfl) (fun _ _ _ h => h) hS0 (Or.inl ⟨by rfl, ?_⟩) ?_
      rotate_left
      · intro wq hwq
        obtain ⟨y1, y2, y3⟩ := hwq
        go_simp
        try with_reducible rfl
      simp only [Act.put, List.setIfInBounds_toArray, List.set_cons_zero, List.set_cons_succ]
      refine HT.takeG_at (i := 6) (v := ?_) rfl rfl (by kernel_rfl) (by kernel_rfl) (by kernel_rfl) (by kernel_rfl) (by kernel_rfl) (by kernel_rfl) (fun _ _ _ h => h) hS0 (Or.inl ⟨by rfl, ?_⟩) ?_
      rotate_left
      · intro wq hwq
        obtain ⟨y1, y2, y3⟩ := hwq
        go_simp
        try with_reducible rfl
      simp only [Act.put, List.setIfInBounds_toArray, List.set_cons_zero, List.set_cons_succ]
      refine HT.takeG_at (i := 7) (v := ?_) rfl rfl (by kernel_rfl) (by kernel_rfl) (by kernel_rfl) (by kernel_rfl) (by kernel_rfl) (by kernel_rfl) (fun _ _ _ h => h) hS0 (Or.inl ⟨by rfl, ?_⟩) ?_
      rotate_left
      · intro wq hwq
        obtain ⟨y1, y2, y3⟩ := hwq
        go_simp
        try with_reducible rfl
      simp only [Act.put, List.setIfInBounds_toArray, List.set_cons_zero, List.set_cons_succ]
      refine HT.takeG_at (i := 8) (v := ?_) rfl rfl (by kernel_rfl) (by kernel_rfl) (by kernel_rfl) (by kernel_rfl) (by kernel_rfl) (by kernel_rfl) (fun _ _ _ h => h) hS0 (Or.inl ⟨by rfl, ?_⟩) ?_
      rotate_left
      · intro wq hwq
        obtain ⟨y1, y2, y3⟩ := hwq
        go_simp
        try with_reducible rfl
      simp only [Act.put, List.setIfInBounds_toArray, List.set_cons_zero, List.set_cons_succ]
      refine HT.takeG_at (i := 9) (v := ?_) rfl rfl (by kernel_rfl) (by kernel_rfl) (by kernel_rfl) (by kernel_rfl) (by kernel_rfl) (by kernel_rfl) (fun _ _ _ h => h) hS0 (Or.inl ⟨by rfl, ?_⟩) ?_
      rotate_left
      · intro wq hwq
        obtain ⟨y1, y2, y3⟩ := hwq
        go_simp
        try with_reducible rfl
      simp only [Act.put, List.setIfInBounds_toArray, List.set_cons_zero, List.set_cons_succ]
      refine HT.takeG_at (i := 10) (v := ?_) rfl rfl (by kernel_rfl) (by kernel_rfl) (by kernel_rfl) (by kernel_rfl) (by kernel_rfl) (by kernel_rfl) (fun _ _ _ h => h) hS0 (Or.inl ⟨by rfl, ?_⟩) ?_
      rotate_left
      · intro wq hwq
        obtain ⟨y1, y2, y3⟩ := hwq
        go_simp
        try with_reducible rfl
      simp only [Act.put, List.setIfInBounds_toArray, List.set_cons_zero, List.set_cons_succ]
      refine HT.takeG_at (i := 11) (v := ?_) rfl rfl (by kernel_rfl) (by kernel_rfl) (by kernel_rfl) (by kernel_rfl) (by kernel_rfl) (by kernel_rfl) (fun _ _ _ h => h) hS0 (Or.inl ⟨by rfl, ?_⟩) ?_
      rotate_left
      · intro wq hwq
        obtain ⟨y1, y2, y3⟩ := hwq
        go_simp
        try with_reducible rfl
      simp only [Act.put, List.setIfInBounds_toArray, List.set_cons_zero, List.set_cons_succ]
      refine HT.takeG_at (i := 12) (v := ?_) rfl rfl (by kernel_rfl) (by kernel_rfl) (by kernel_rfl) (by kernel_rfl) (by kernel_rfl) (by kernel_rfl) (fun _ _ _ h => h) hS0 (Or.inl ⟨by rfl, ?_⟩) ?_
      rotate_left
      · intro wq hwq
        obtain ⟨y1, y2, y3⟩ := hwq
        go_simp
        try with_reducible rfl
      simp only [Act.put, List.setIfInBounds_toArray, List.set_cons_zero, List.set_cons_succ]
      refine HT.takeG_at (i := 13) (v := ?_) rfl rfl (by kernel_rfl) (by kernel_rfl) (by kernel_rfl) (by kernel_rfl) (by kernel_rfl) (by kernel_rfl) (fun _ _ _ h => h) hS0 (Or.inl ⟨by rfl, ?_⟩) ?_
      rotate_left
      · intro wq hwq
        obtain ⟨y1, y2, y3⟩ := hwq
        go_simp
        try with_reducible rfl
      simp only [Act.put, List.setIfInBounds_toArray, List.set_cons_zero, List.set_cons_succ]
      refine HT.wpAnyG_turn (k := 14) (by kernel_rfl) rfl (fun KK hKK => ?_)
      go_simp
      refine cC.mono ?_
      rintro e w3 ⟨rfl, hDo⟩
      refine hKK _ _ ?_
      clear hKK KK
      refine ⟨by kernel_rfl, ?_⟩
      obtain ⟨E3, r1, r2, r3, r4⟩ := HDR _ _ hDo
      rw [q2] at r2
      obtain ⟨qD3, qC⟩ := crash_tail h HLT.out (Turn.refl _ _) r1 r2 (q3.then r3 fun j hj hf => (q4 j hf).elim id fun h => by omega) (fun j hj => (r4 j hj).elim (q4 j) fun h => .inr (Nat.le_trans q3.size h)) HF.out
      obtain ⟨_, _, _, x3, x4⟩ := qD3.cells
      go_wp2_with (go_at_call 52; refine qC.mono ?_; rintro e w4 ⟨mc, rfl, qE, hFIN⟩; have hE3 := qE.s2 mc; have hE4 := hE3.s4 (.slice none 0 0); obtain ⟨_, _, y2, _, _⟩ := qE.cells; obtain ⟨_, _, _, _, y4⟩ := hE3.cells; obtain ⟨_, y1, _, _, _⟩ := hE4.cells; have f2 := qE.frozen 2; have f4 := hE3.frozen 4; have f1 := hE4.frozen 1)
      go_ret
      exact ⟨rfl, hFIN⟩
end Go.Proofs.Ytlkgfimignlgaaa
