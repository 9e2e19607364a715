/-
  CONTRACT of Append, over a disk's state.
-/
import Derived.Test.YtlkgfimignlgaaaCDiskMk
set_option linter.unusedSimpArgs false
set_option linter.unusedVariables false
set_option linter.unusedVariables false
set_option linter.unusedSimpArgs false
namespace Go.Proofs.Ytlkgfimignlgaaa
open Go.RowKit
theorem DP.below {w w' : World} {db m1 m2 : Nat} {st : Ds} {D : Nat → Prop} {lv : Value} {fs : List Value} {E1 E2 : List En} (h : DP w db st D m1 m2 lv fs E1 E2) (hb : Below w.heap.size w w') : DP w' db st D m1 m2 lv fs E1 E2 := h.frame (fun j hj => hb.block j (h.lt j hj)) hb.size
theorem ext_self {w w' : World} {D : Nat → Prop} {db : Nat} {st : Ds} (h : DK w' db st D) (hlt : ∀ j, D j → j < w.heap.size) (hs : w.heap.size ≤ w'.heap.size) : DK w' db st (Ext D w w') :=
  h.ext (fun j hj => .inl hj) fun j hj => by
    rcases hj with h1 | h1
    · have := hlt j h1; omega
    · exact h1.2
theorem DP.lenM {w : World} {db m1 m2 : Nat} {st : Ds} {D : Nat → Prop} {lv : Value} {fs : List Value} {E1 E2 : List En} (h : DP w db st D m1 m2 lv fs E1 E2) (ty : TypeId) : (Builtin.len_ #[57] ty #[.map (some m1)]).run Try.prog w = .ok (.int .i64 (E1.length : Nat)) w := by
  rw [h.f1.map.len Try.underlying57, dat_size]
def appS (st : Ds) (s d : ByteArray) : Int × Ds :=
  if st.fuse = 0 then (60, st.spent)
  else if nameB s = false then (2, st.spent)
  else if st.room - (sumF st.now : Nat) < (d.size : Int) ∨ (hasF st.now s = false ∧ 64 ≤ st.now.length) then (6, st.spent)
  else (0, { st.spent with L := st.L ++ [.app s d] })
def DoneD (w : World) (db : Nat) (D : Nat → Prop) (r : Int × Ds) (e : Ending) (w' : World) : Prop := e = .returned (.int .i64 r.1) ∧ DK w' db r.2 (Ext D w w') ∧ Turn w w' D
theorem len_mapE {w : World} {mb : Nat} {E : List En} (h : FM w mb E) : w.ownsMap Try.prog 9 slotE mb E.length (datE E) := h.map
set_option maxRecDepth 10000000 in
set_option maxHeartbeats 4000000 in
theorem append_any (db : Nat) (st : Ds) (D : Nat → Prop) (s d : ByteArray) (w : World) (h : DK w db st D) (hs : s.size ≤ 1000000000) (hd : d.size ≤ 1000000000) (hl : st.L.length ≤ 1000000) :
    Calls Try.prog 19 #[ptr db, .string s, .string d] w (DoneD w db D (appS st s d)) := by
  have hlt : ∀ j, D j → j < w.heap.size := fun j hj => h.lt hj
  obtain ⟨m1, m2, lv, fs, E1, E2, h⟩ := h
  have cS := spend_any db m1 m2 st.room st.fuse lv w h.hdb h.fuse.1 h.fuse.2
  have hsubdb : ∀ j, j = db → D j := fun j hj => hj ▸ h.in0
  unfold ptr at cS ⊢
  by_cases h0 : st.fuse = 0
  · have hr : appS st s d = (60, st.spent) := if_pos h0
    rw [hr]
    have e60 : spendE st.fuse = 60 := if_pos h0
    rw [e60] at cS
    clear h0 e60 hr
    go_enter Try.func19, Try.ntmps19
    go_wp2_with (go_at_call 41; refine cS.mono ?_; rintro e w1 ⟨rfl, hD1, hT1⟩)
    go_ret
    exact ⟨rfl, ext_self ⟨_, _, _, _, _, _, h.spend hD1 hT1⟩ hlt hT1.size, hT1.sub hsubdb⟩
  have e0 : spendE st.fuse = 0 := if_neg h0
  rw [e0] at cS
  have cN := fun w => name_any s w hs
  cases hn : nameB s
  · have hr : appS st s d = (2, st.spent) := by unfold appS; rw [if_neg h0, hn, if_pos rfl]
    rw [hr]
    rw [hn] at cN
    clear h0 e0 hr hn
    go_enter Try.func19, Try.ntmps19
    go_wp2_with (first
      | (go_at_call 41; refine cS.mono ?_; rintro e w1 ⟨rfl, hD1, hT1⟩; have hP := h.spend hD1 hT1; have hT := hT1.sub hsubdb; clear hT1 hD1)
      | (go_at_call 17; refine (cN _).mono ?_; rintro e w1 ⟨rfl, hb⟩; have hP := hP.below hb; have hT := hT.trans (Turn.below hb); clear hb))
    go_ret
    exact ⟨rfl, ext_self ⟨_, _, _, _, _, _, hP⟩ hlt hT.size, hT⟩
  rw [hn] at cN
  have hfine := h.chain.last
  have hsum : sumE E1 = sumF st.now := by rw [← dat_sumF, h.d1]
  have hhas : hasE E1 s = hasF st.now s := by rw [← dat_hasF, h.d1]
  have hlen : E1.length = st.now.length := by rw [← dat_len, h.d1]
  have hf1 : (sumF st.now : Int) ≤ st.room := hfine.1
  have hf2 : st.now.length ≤ 64 := hfine.2
  have hr0 := h.room.1
  have hr1 := h.room.2
  have cL := fun (w' : World) (hP : DP w' db st.spent D m1 m2 lv fs E1 E2) => left_any db m1 m2 st.room (spendF st.fuse) lv E1 w' hP.hdb hP.f1 hr0 hr1 (by omega)
  have cH := fun (w' : World) (hP : DP w' db st.spent D m1 m2 lv fs E1 E2) => has_any m1 E1 s w' hP.f1 (by unfold maxLen; omega)
  rw [hsum] at cL
  rw [hhas] at cH
  have hSN : st.spent.now = st.now := rfl
  have hSL : st.spent.L = st.L := rfl
  have hSR : st.spent.room = st.room := rfl
  have hSF : st.spent.fuse = spendF st.fuse := rfl
  unfold ptr at cL
  have HLT := Lib.hid hlt
  have HSUB := Lib.hid hsubdb
  by_cases hbig : st.room - (sumF st.now : Nat) < (d.size : Int)
  · have hr : appS st s d = (6, st.spent) := by unfold appS; rw [if_neg h0, hn, if_neg (by simp), if_pos (.inl hbig)]
    rw [hr]
    clear h0 e0 hr hn hfine hsum hhas hlen hSN hSL hSR hSF
    generalize hM : (sumF st.now : Nat) = M at *
    clear hM
    go_enter Try.func19, Try.ntmps19
    go_wp2_with (first
      | (go_at_call 41; refine cS.mono ?_; rintro e w1 ⟨rfl, hD1, hT1⟩; have hP := h.spend hD1 hT1; have hT := hT1.sub HSUB.out; clear hT1 hD1)
      | (go_at_call 17; refine (cN _).mono ?_; rintro e w1 ⟨rfl, hb⟩; have hP := hP.below hb; have hT := hT.trans (Turn.below hb); clear hb)
      | (go_at_call 14; refine (cL _ hP).mono ?_; rintro e w1 ⟨rfl, hb⟩; have hP := hP.below hb; have hT := hT.trans (Turn.below hb); clear hb))
    go_ret
    exact ⟨rfl, ext_self ⟨_, _, _, _, _, _, hP⟩ HLT.out hT.size, hT⟩
  · have hds : (d.size : Int) ≤ st.room - (sumF st.now : Nat) := by omega
    have hn32 : s.size ≤ maxLen := by unfold maxLen; omega
    have HOKN : Hid (okF st.spent.now (.app s d)) := Lib.hid ⟨hn32, by omega⟩
    have HOK : Hid (okF (datF E1) (.app s d)) := Lib.hid ⟨hn32, by omega⟩
    have HSM : Hid (smE E1) := Lib.hid (sm_of (room := st.room) (by rw [h.d1]; exact hfine) hr1)
    have hiM : ((sumF st.now : Nat) : Int) + (d.size : Int) ≤ st.room := by omega
    have HBG := Lib.hid hbig
    have HN := Lib.hid hn
    have H0 := Lib.hid h0
    have HFI := Lib.hid hfine
    have HDS := Lib.hid hds
    have hd64 : d.size ≤ 16777216 := by omega
    cases hh : hasF st.now s
    · by_cases h64 : 64 ≤ st.now.length
      · have hr : appS st s d = (6, st.spent) := by unfold appS; rw [if_neg H0.out, HN.out, if_neg (by simp), if_pos (.inr ⟨hh, h64⟩)]
        rw [hr]
        rw [hh] at cH
        have h64i : (64 : Int) ≤ (E1.length : Int) := by omega
        clear h0 e0 hr hn hfine hsum hhas hlen hSN hSL hSR hSF hbig hds hh
        generalize hM : (sumF st.now : Nat) = M at *
        clear hM
        go_enter Try.func19, Try.ntmps19
        go_wp2_with (first
          | (go_at_call 41; refine cS.mono ?_; rintro e w1 ⟨rfl, hD1, hT1⟩; have hP := h.spend hD1 hT1; have hT := hT1.sub HSUB.out; clear hT1 hD1)
          | (go_at_call 17; refine (cN _).mono ?_; rintro e w1 ⟨rfl, hb⟩; have hP := hP.below hb; have hT := hT.trans (Turn.below hb); clear hb)
          | (go_at_call 14; refine (cL _ hP).mono ?_; rintro e w1 ⟨rfl, hb⟩; have hP := hP.below hb; have hT := hT.trans (Turn.below hb); obtain ⟨_, _, c2, _, _⟩ := hP.hdb.cells; have hml := hP.lenM; clear hb)
          | (go_at_call 42; refine (cH _ hP).mono ?_; rintro e w1 ⟨rfl, rfl⟩)
          | fail)
        go_ret
        exact ⟨rfl, ext_self ⟨_, _, _, _, _, _, hP⟩ HLT.out hT.size, hT⟩
      · have hr : appS st s d = (0, { st.spent with L := st.L ++ [.app s d] }) := by unfold appS; rw [if_neg H0.out, HN.out, if_neg (by simp), if_neg (by rintro (h1 | h1); exact HBG.out h1; exact h64 h1.2)]
        rw [hr]
        rw [hh] at cH
        have HFN : Hid (FineF st.spent.room (doF 16777217 st.spent.now (.app s d))) := Lib.hid (fine_app (s := s) HFI.out HDS.out (.inr (show st.now.length < 64 by omega)))
        have h64i : ¬ (64 : Int) ≤ (E1.length : Int) := by omega
        clear h0 e0 hr hn hfine hsum hhas hlen hSN hSL hSR hSF hbig hds hh
        generalize hM : (sumF st.now : Nat) = M at *
        clear hM
        go_enter Try.func19, Try.ntmps19
        go_wp2_with (first
          | (go_at_call 41; refine cS.mono ?_; rintro e w1 ⟨rfl, hD1, hT1⟩; have hP := h.spend hD1 hT1; have hT := hT1.sub HSUB.out; clear hT1 hD1)
          | (go_at_call 17; refine (cN _).mono ?_; rintro e w1 ⟨rfl, hb⟩; have hP := hP.below hb; have hT := hT.trans (Turn.below hb); clear hb)
          | (go_at_call 14; refine (cL _ hP).mono ?_; rintro e w1 ⟨rfl, hb⟩; have hP := hP.below hb; have hT := hT.trans (Turn.below hb); obtain ⟨_, _, c2, _, _⟩ := hP.hdb.cells; have hml := hP.lenM; clear hb)
          | (go_at_call 42; refine (cH _ hP).mono ?_; rintro e w1 ⟨rfl, rfl⟩)
          | (go_at_call_of 45 (Value.string s); refine (clone_any s _ hs).mono ?_; rintro e w1 ⟨rfl, hb⟩; have hP := hP.below hb; have hT := hT.trans (Turn.below hb); clear hb)
          | (go_at_call_of 45 (Value.string d); refine (clone_any d _ hd).mono ?_; rintro e w1 ⟨rfl, hb⟩; have hP := hP.below hb; have hT := hT.trans (Turn.below hb); clear hb)
          | (go_at_call 44; refine (nApp_any s d _).mono ?_; rintro e w1 ⟨fv, rfl, hO, hb⟩; have hO := hO.on (D' := NewB w w1) (fun j hj => ⟨Nat.le_trans hT.size hj.1, hj.2⟩) (fun _ _ _ _ _ _ _ => rfl); have hP := hP.below hb; have hT := hT.trans (Turn.below hb); clear hb; obtain ⟨b1, b2, rfl, k1, k2⟩ := hO.op)
          | (go_at_call 43; refine (perform_app db m1 m2 st.room (spendF st.fuse) lv E1 fs st.L s d b1 b2 _ hP.hdb hP.f1 hP.hlv k1 k2 HOK.out HSM.out (by omega)).mono ?_; rintro e w1 ⟨rfl, hPE⟩; have hFIN := hP.perf HLT.out hT hO HOKN.out HFN.out hPE))
        go_ret
        exact ⟨rfl, hFIN⟩
    · have hr : appS st s d = (0, { st.spent with L := st.L ++ [.app s d] }) := by unfold appS; rw [if_neg H0.out, HN.out, if_neg (by simp), if_neg (by rintro (h1 | h1); exact HBG.out h1; rw [hh] at h1; cases h1.1)]
      rw [hr]
      have HFN : Hid (FineF st.spent.room (doF 16777217 st.spent.now (.app s d))) := Lib.hid (fine_app (s := s) HFI.out HDS.out (.inl hh))
      rw [hh] at cH
      clear h0 e0 hr hn hfine hsum hhas hlen hSN hSL hSR hSF hbig hds hh
      generalize hM : (sumF st.now : Nat) = M at *
      clear hM
      go_enter Try.func19, Try.ntmps19
      go_wp2_with (first
        | (go_at_call 41; refine cS.mono ?_; rintro e w1 ⟨rfl, hD1, hT1⟩; have hP := h.spend hD1 hT1; have hT := hT1.sub HSUB.out; clear hT1 hD1)
        | (go_at_call 17; refine (cN _).mono ?_; rintro e w1 ⟨rfl, hb⟩; have hP := hP.below hb; have hT := hT.trans (Turn.below hb); clear hb)
        | (go_at_call 14; refine (cL _ hP).mono ?_; rintro e w1 ⟨rfl, hb⟩; have hP := hP.below hb; have hT := hT.trans (Turn.below hb); obtain ⟨_, _, c2, _, _⟩ := hP.hdb.cells; have hml := hP.lenM; clear hb)
        | (go_at_call 42; refine (cH _ hP).mono ?_; rintro e w1 ⟨rfl, rfl⟩)
        | (go_at_call_of 45 (Value.string s); refine (clone_any s _ hs).mono ?_; rintro e w1 ⟨rfl, hb⟩; have hP := hP.below hb; have hT := hT.trans (Turn.below hb); clear hb)
        | (go_at_call_of 45 (Value.string d); refine (clone_any d _ hd).mono ?_; rintro e w1 ⟨rfl, hb⟩; have hP := hP.below hb; have hT := hT.trans (Turn.below hb); clear hb)
        | (go_at_call 44; refine (nApp_any s d _).mono ?_; rintro e w1 ⟨fv, rfl, hO, hb⟩; have hO := hO.on (D' := NewB w w1) (fun j hj => ⟨Nat.le_trans hT.size hj.1, hj.2⟩) (fun _ _ _ _ _ _ _ => rfl); have hP := hP.below hb; have hT := hT.trans (Turn.below hb); clear hb; obtain ⟨b1, b2, rfl, k1, k2⟩ := hO.op)
        | (go_at_call 43; refine (perform_app db m1 m2 st.room (spendF st.fuse) lv E1 fs st.L s d b1 b2 _ hP.hdb hP.f1 hP.hlv k1 k2 HOK.out HSM.out (by omega)).mono ?_; rintro e w1 ⟨rfl, hPE⟩; have hFIN := hP.perf HLT.out hT hO HOKN.out HFN.out hPE))
      go_ret
      exact ⟨rfl, hFIN⟩
end Go.Proofs.Ytlkgfimignlgaaa
