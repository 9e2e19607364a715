/-
  CONTRACTS of Sync and Crash, over a disk's state.
-/
import Derived.Test.YtlkgfimignlgaaaCDiskDo2
set_option linter.unusedSimpArgs false
set_option linter.unusedVariables false
set_option linter.unusedVariables false
set_option linter.unusedSimpArgs false
namespace Go.Proofs.Ytlkgfimignlgaaa
open Go.RowKit
def syncS (st : Ds) : Int × Ds := if st.fuse = 0 then (60, st.spent) else (0, { st.spent with S := st.now, L := [] })
theorem FM.setDb {w : World} {m db i : Nat} {E : List En} {room fuse : Int} {m1 m2 : Nat} {lv : Value} (h : FM w m E) (hD : DB w db room fuse m1 m2 lv) (v : Value) : FM (w.setCell ⟨db, i, none⟩ v) m E := by
  have n1 : ∀ j, Foot m E j → j ≠ db := fun j hj e => cells_foot h hD (by decide) (e ▸ hj)
  exact h.keep (Below.heap_setCell _ _ _ _ (n1 _ (.inl rfl))) fun x hx g hg => Below.heap_setCell _ _ _ _ (n1 _ (.inr ⟨x, hx, hg⟩))
theorem LV.none (w : World) : LV w (.slice none 0 0) [] [] := ⟨World.ownsRow_nil _ _ _ _, trivial⟩
theorem turn_set {w : World} {db i : Nat} {D : Nat → Prop} (hD : D db) (v : Value) : Turn w (w.setCell ⟨db, i, none⟩ v) D := ⟨rfl, rfl, rfl, by simp [World.setCell], fun j hj hn => Below.heap_setCell _ _ _ _ (fun e => hn (e ▸ hD))⟩
theorem size_set (w : World) (a : Addr) (v : Value) : (w.setCell a v).heap.size = w.heap.size := by simp [World.setCell]
theorem AgnEnd.db {w w' : World} {m2 db m n : Nat} {E2 : List En} {L : List Op} {room fuse : Int} {mm : Nat} {lv : Value} (h : AgnEnd w m2 E2 L n w') (hF : FM w m2 E2) (hD : DB w db room fuse m mm lv) : DB w' db room fuse m mm lv := by
  obtain ⟨_, _, _, hT, _⟩ := h
  exact hT.db hF hD
section
variable {w0 w w1 w2 : World} {db m1 m2 mc n : Nat} {st : Ds} {D : Nat → Prop} {lv : Value} {fs : List Value} {E1 E2 E2' E3 : List En} {F : Fs}
theorem DP.sync (h : DP w db st D m1 m2 lv fs E1 E2) (hlt : ∀ j, D j → j < w0.heap.size) (hT0 : Turn w0 w D) (hA : AgnEnd w m2 E2 st.L st.L.length w1) :
    DK (w1.setCell ⟨db, 4, none⟩ (.slice none 0 0)) db { st with S := st.now, L := [] } (Ext D w0 (w1.setCell ⟨db, 4, none⟩ (.slice none 0 0))) ∧ Turn w0 (w1.setCell ⟨db, 4, none⟩ (.slice none 0 0)) D := by
  obtain ⟨E2', hF', hd, hT, hx⟩ := hA
  rw [List.take_length, h.d2] at hd
  have hD1 := hT.db h.f2 h.hdb
  have hs0 := hT0.size
  have hs1 := hT.size
  have hF1 : FM w1 m1 E1 := h.f1.keep (hT.block _ h.f1.lt (h.apart _ (.inl rfl))) fun x hx g hg => hT.block _ ((h.f1.rows x hx).lt hg) (h.apart _ (.inr ⟨x, hx, hg⟩))
  have hTD : Turn w0 w1 D := hT0.then hT fun j _ hj => h.in2 j hj
  refine ⟨⟨m1, m2, .slice none 0 0, [], E1, E2', hD1.s4 _, hF1.setDb hD1 _, hF'.setDb hD1 _, h.d1, hd, LV.none _, ?_, .inl h.in0, fun j hj => .inl (h.in1 j hj), ?_, (fun j hj => by cases hj), trivial, h.chain.last, h.room, h.fuse, ?_⟩, hTD.trans (turn_set h.in0 _)⟩
  · intro j hj hj2
    rcases hx j hj2 with h1 | h1
    · exact h.apart j hj h1
    · have := foot_lt h.f1 hj; omega
  · intro j hj
    rcases hx j hj with h1 | h1
    · exact .inl (h.in2 j h1)
    · exact .inr ⟨by omega, by rw [size_set]; exact foot_lt hF' hj⟩
  · rintro j (h1 | h1)
    · have := hlt j h1; rw [size_set]; omega
    · exact h1.2
theorem DP.crash (h : DP w db st D m1 m2 lv fs E1 E2) (hlt : ∀ j, D j → j < w0.heap.size) (hT0 : Turn w0 w D) (hF' : FM w1 m2 E2') (hd : datF E2' = F) (hT : Turn w w1 (Foot m2 E2)) (hx : ∀ j, Foot m2 E2' j → Foot m2 E2 j ∨ w.heap.size ≤ j)
    (hfine : FineF st.room F) (hF3 : FM w2 mc E3) (hd3 : datF E3 = F) (hb : Below w1.heap.size w1 w2) (hx3 : ∀ j, Foot mc E3 j → w1.heap.size ≤ j) :
    DK (((w2.setCell ⟨db, 2, none⟩ (.map (some mc))).setCell ⟨db, 4, none⟩ (.slice none 0 0)).setCell ⟨db, 1, none⟩ (.int .i64 (-1))) db { st with fuse := -1, S := F, L := [] } (Ext D w0 (((w2.setCell ⟨db, 2, none⟩ (.map (some mc))).setCell ⟨db, 4, none⟩ (.slice none 0 0)).setCell ⟨db, 1, none⟩ (.int .i64 (-1)))) ∧
      Turn w0 (((w2.setCell ⟨db, 2, none⟩ (.map (some mc))).setCell ⟨db, 4, none⟩ (.slice none 0 0)).setCell ⟨db, 1, none⟩ (.int .i64 (-1))) D := by
  have hs0 := hT0.size
  have hs1 := hT.size
  have hs2 := hb.size
  have hD1 := hT.db h.f2 h.hdb
  have hD2 : DB w2 db st.room st.fuse m1 m2 lv := hD1.on (hb.block _ hD1.lt)
  have hD3 := hD2.s2 mc
  have hD4 := hD3.s4 (.slice none 0 0)
  have hF2 : FM w2 m2 E2' := hF'.below hb
  have hTD : Turn w0 w1 D := hT0.then hT fun j _ hj => h.in2 j hj
  have hTE : Turn w0 w2 D := hTD.trans (Turn.below hb)
  refine ⟨⟨mc, m2, .slice none 0 0, [], E3, E2', hD4.s1 _, ((hF3.setDb hD2 _).setDb hD3 _).setDb hD4 _, ((hF2.setDb hD2 _).setDb hD3 _).setDb hD4 _, hd3, hd, LV.none _, ?_, .inl h.in0, ?_, ?_, (fun j hj => by cases hj), trivial, hfine, h.room, ⟨Int.le_refl _, show (-1 : Int) ≤ 9223372036854775807 by omega⟩, ?_⟩, ((hTE.trans (turn_set h.in0 _)).trans (turn_set h.in0 _)).trans (turn_set h.in0 _)⟩
  · intro j hj hj2
    have h1 := hx3 j hj
    have h2 := foot_lt hF' hj2
    omega
  · intro j hj
    have h1 := hx3 j hj
    exact .inr ⟨by omega, by rw [size_set, size_set, size_set]; exact foot_lt hF3 hj⟩
  · intro j hj
    rcases hx j hj with h1 | h1
    · exact .inl (h.in2 j h1)
    · exact .inr ⟨by omega, by rw [size_set, size_set, size_set]; exact foot_lt hF2 hj⟩
  · rintro j (h1 | h1)
    · have := hlt j h1; rw [size_set, size_set, size_set]; omega
    · exact h1.2
end
set_option maxRecDepth 10000000 in
set_option maxHeartbeats 4000000 in
theorem sync_any (db : Nat) (st : Ds) (D : Nat → Prop) (w : World) (h : DK w db st D) (hl : st.L.length ≤ 1000000) :
    Calls Try.prog 23 #[ptr db] w (DoneD w db D (syncS st)) := by
  have hlt : ∀ j, D j → j < w.heap.size := fun j hj => h.lt hj
  obtain ⟨m1, m2, lv, fs, E1, E2, h⟩ := h
  obtain ⟨av, cv, rfl, hcv⟩ := lv_form h.hlv
  have cS := spend_any db m1 m2 st.room st.fuse _ w h.hdb h.fuse.1 h.fuse.2
  have hsubdb : ∀ j, j = db → D j := fun j hj => hj ▸ h.in0
  have HLT := Lib.hid hlt
  have HSUB := Lib.hid hsubdb
  have hr1 := h.room.2
  have hchain : Chain st.room (datF E2) st.L := by rw [h.d2]; exact h.chain
  have HCH := Lib.hid hchain
  unfold ptr at cS ⊢
  clear hlt hsubdb hchain
  by_cases h0 : st.fuse = 0
  · have hr : syncS st = (60, st.spent) := if_pos h0
    rw [hr]
    have e60 : spendE st.fuse = 60 := if_pos h0
    rw [e60] at cS
    clear h0 e60 hr
    go_enter Try.func23, Try.ntmps23
    go_wp2_with (go_at_call 41; refine cS.mono ?_; rintro e w1 ⟨rfl, hD1, hT1⟩)
    go_ret
    exact ⟨rfl, ext_self ⟨_, _, _, _, _, _, h.spend hD1 hT1⟩ HLT.out hT1.size, hT1.sub HSUB.out⟩
  have e0 : spendE st.fuse = 0 := if_neg h0
  rw [e0] at cS
  have hr : syncS st = (0, { st.spent with S := st.now, L := [] }) := if_neg h0
  rw [hr]
  clear h0 e0 hr
  go_enter Try.func23, Try.ntmps23
  go_wp2_with (first
    | (go_at_call 41; refine cS.mono ?_; rintro e w1 ⟨rfl, hD1, hT1⟩; have hP := h.spend hD1 hT1; have hT := hT1.sub HSUB.out; obtain ⟨_, _, _, _, c4⟩ := hP.hdb.cells; clear hT1 hD1)
    | (go_at_call 49; refine (again_any db m1 m2 st.room (spendF st.fuse) _ E2 fs st.L st.L.length _ hP.hdb hP.f2 hP.hlv HCH.out hr1 (Nat.le_refl _) hl).mono ?_; rintro e w2 ⟨rfl, hA⟩; have hFIN := hP.sync HLT.out hT hA; have hD2 := hA.db hP.f2 hP.hdb; obtain ⟨_, _, _, _, z4⟩ := hD2.cells; have f4 := hD2.frozen 4))
  go_ret
  exact ⟨rfl, hFIN⟩
/-- how many loose operations a crash leaves; how much of the next one -/
def keptN (st : Ds) (calls : Int) : Nat := (min (max calls 0) (st.L.length : Nat)).toNat
def partN (bytes : Int) : Nat := (min (max bytes 0) 16777216).toNat
def crashF (st : Ds) (calls bytes : Int) : Fs :=
  match st.L[keptN st calls]? with
  | some op => if 0 ≤ calls then doF (partN bytes) (doAll st.S (st.L.take (keptN st calls))) op else doAll st.S (st.L.take (keptN st calls))
  | none => doAll st.S (st.L.take (keptN st calls))
def crashS (st : Ds) (calls bytes : Int) : Int × Ds := (0, { st with fuse := -1, S := crashF st calls bytes, L := [] })
theorem keptN_le (st : Ds) (calls : Int) : keptN st calls ≤ st.L.length := by unfold keptN; omega
theorem partN_le (bytes : Int) : partN bytes ≤ 16777216 := by unfold partN; omega
theorem fine_do {room : Int} {F : Fs} {op : Op} {k : Nat} (h : FineF room F) (hf : FineF room (doF 16777217 F op)) (hr : room ≤ 16777216) (hk : k ≤ 16777216) : FineF room (doF k F op) := by
  cases op with
  | app s d =>
    refine fine_part h hf ?_
    unfold putF
    rw [sum_ins, sum_ins]
    simp only [List.length_append, List.length_take]
    omega
  | cut s n => rw [show doF k F (.cut s n) = F from if_neg (by omega)]; exact h
  | ren s t => rw [show doF k F (.ren s t) = F from if_neg (by omega)]; exact h
  | rem s => rw [show doF k F (.rem s) = F from if_neg (by omega)]; exact h
end Go.Proofs.Ytlkgfimignlgaaa
