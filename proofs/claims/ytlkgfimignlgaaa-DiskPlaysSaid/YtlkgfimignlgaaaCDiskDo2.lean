/-
  CONTRACTS of Cut, Rename, Remove, over a disk's state. (gen_do2.py writes it.)
-/
import Derived.Test.YtlkgfimignlgaaaCDiskDo
set_option linter.unusedSimpArgs false
set_option linter.unusedVariables false
set_option linter.unusedVariables false
set_option linter.unusedSimpArgs false
namespace Go.Proofs.Ytlkgfimignlgaaa
open Go.RowKit
def cutS (st : Ds) (s : ByteArray) (n : Int) : Int × Ds :=
  if st.fuse = 0 then (60, st.spent)
  else if hasF st.now s = false then (5, st.spent)
  else if n < 0 ∨ ((getF st.now s).length : Int) < n then (2, st.spent)
  else (0, { st.spent with L := st.L ++ [.cut s n.toNat] })
def renS (st : Ds) (s t : ByteArray) : Int × Ds :=
  if st.fuse = 0 then (60, st.spent)
  else if hasF st.now s = false then (5, st.spent)
  else if nameB t = false then (2, st.spent)
  else (0, { st.spent with L := st.L ++ [.ren s t] })
def remS (st : Ds) (s : ByteArray) : Int × Ds :=
  if st.fuse = 0 then (60, st.spent)
  else if hasF st.now s = false then (5, st.spent)
  else (0, { st.spent with L := st.L ++ [.rem s] })
set_option maxRecDepth 10000000 in
set_option maxHeartbeats 4000000 in
theorem cutD_any (db : Nat) (st : Ds) (D : Nat → Prop) (s : ByteArray) (n : Int) (w : World) (h : DK w db st D) (hs : s.size ≤ 1000000000) (hl : st.L.length ≤ 1000000) :
    Calls Try.prog 20 #[ptr db, .string s, .int .i64 n] w (DoneD w db D (cutS st s n)) := by
  have hlt : ∀ j, D j → j < w.heap.size := fun j hj => h.lt hj
  obtain ⟨m1, m2, lv, fs, E1, E2, h⟩ := h
  have cS := spend_any db m1 m2 st.room st.fuse lv w h.hdb h.fuse.1 h.fuse.2
  have hsubdb : ∀ j, j = db → D j := fun j hj => hj ▸ h.in0
  have HLT := Lib.hid hlt
  have HSUB := Lib.hid hsubdb
  have hs' : s.size ≤ maxLen := by unfold maxLen; omega
  have hfine := h.chain.last
  have hr0 := h.room.1
  have hr1 := h.room.2
  have hhas : hasE E1 s = hasF st.now s := by rw [← dat_hasF, h.d1]
  have cH := fun (w' : World) (hP : DP w' db st.spent D m1 m2 lv fs E1 E2) => has_any m1 E1 s w' hP.f1 hs'
  rw [hhas] at cH
  unfold ptr at cS ⊢
  clear hlt hsubdb hhas
  by_cases h0 : st.fuse = 0
  · have hr : cutS st s n = (60, st.spent) := if_pos h0
    rw [hr]
    have e60 : spendE st.fuse = 60 := if_pos h0
    rw [e60] at cS
    clear h0 e60 hr hfine
    go_enter Try.func20, Try.ntmps20
    go_wp2_with (go_at_call 41; refine cS.mono ?_; rintro e w1 ⟨rfl, hD1, hT1⟩)
    go_ret
    exact ⟨rfl, ext_self ⟨_, _, _, _, _, _, h.spend hD1 hT1⟩ HLT.out hT1.size, hT1.sub HSUB.out⟩
  have e0 : spendE st.fuse = 0 := if_neg h0
  rw [e0] at cS
  have H0 := Lib.hid h0
  clear h0 e0
  cases hh : hasF st.now s
  · have hr : cutS st s n = (5, st.spent) := by unfold cutS; rw [if_neg H0.out, hh, if_pos rfl]
    rw [hr]
    rw [hh] at cH
    clear hr hh hfine
    go_enter Try.func20, Try.ntmps20
    go_wp2_with (first
      | (go_at_call 41; refine cS.mono ?_; rintro e w1 ⟨rfl, hD1, hT1⟩; have hP := h.spend hD1 hT1; have hT := hT1.sub HSUB.out; obtain ⟨_, _, c2, _, _⟩ := hP.hdb.cells; clear hT1 hD1)
      | (go_at_call 42; refine (cH _ hP).mono ?_; rintro e w1 ⟨rfl, rfl⟩))
    go_ret
    exact ⟨rfl, ext_self ⟨_, _, _, _, _, _, hP⟩ HLT.out hT.size, hT⟩
  rw [hh] at cH
  have HH := Lib.hid hh
  have HSM : Hid (smE E1) := Lib.hid (sm_of (room := st.room) (by rw [h.d1]; exact hfine) hr1)
  have HFI := Lib.hid hfine
  clear hh hfine
  have hg : (bytE E1 s).length = (getF st.now s).length := by rw [← dat_getF, h.d1]
  have HG := Lib.hid hg
  have HGD : Hid (getF (datF E1) s = getF st.now s) := Lib.hid (by rw [h.d1])
  clear hg
  generalize hgl : (getF st.now s).length = gl at *
  have HGL := Lib.hid hgl
  clear hgl
  by_cases hbad : n < 0 ∨ (¬ n < 0 ∧ (gl : Int) < n)
  · have hr : cutS st s n = (2, st.spent) := by unfold cutS; rw [if_neg H0.out, HH.out, if_neg (by simp), if_pos (by rw [HGL.out]; rcases hbad with h | h; exact .inl h; exact .inr h.2)]
    rw [hr]
    clear hr
    rcases hbad with hb1 | ⟨hb1, hb2⟩
    all_goals
      go_enter Try.func20, Try.ntmps20
      go_wp2_with (first
        | (go_at_call 41; refine cS.mono ?_; rintro e w1 ⟨rfl, hD1, hT1⟩; have hP := h.spend hD1 hT1; have hT := hT1.sub HSUB.out; obtain ⟨_, _, c2, _, _⟩ := hP.hdb.cells; obtain ⟨av, cv, hav⟩ := (get_rows hP.f1 s).shape; have hlk := lookB _ m1 E1 s hP.f1 hs'; rw [hav, HG.out] at hlk; clear hav; clear hT1 hD1)
        | (go_at_call 42; refine (cH _ hP).mono ?_; rintro e w1 ⟨rfl, rfl⟩))
      go_ret
      exact ⟨rfl, ext_self ⟨_, _, _, _, _, _, hP⟩ HLT.out hT.size, hT⟩
  · have hn1 : ¬ n < 0 := by omega
    have hn2 : ¬ (gl : Int) < n := by omega
    have hr : cutS st s n = (0, { st.spent with L := st.L ++ [.cut s n.toNat] }) := by unfold cutS; rw [if_neg H0.out, HH.out, if_neg (by simp), if_neg (by rw [HGL.out]; omega)]
    rw [hr]
    clear hr hbad
    obtain ⟨k, rfl⟩ := Int.eq_ofNat_of_zero_le (show 0 ≤ n by omega)
    rw [Int.toNat_natCast]
    have HOKN : Hid (okF st.spent.now (.cut s k)) := Lib.hid ⟨hs', by show k ≤ (getF st.now s).length; rw [HGL.out]; omega⟩
    have HOK : Hid (okF (datF E1) (.cut s k)) := Lib.hid ⟨hs', by rw [HGD.out, HGL.out]; omega⟩
    have HFN : Hid (FineF st.spent.room (doF 16777217 st.spent.now (.cut s k))) := Lib.hid (fine_cut HFI.out HH.out)
    go_enter Try.func20, Try.ntmps20
    go_wp2_with (first
      | (go_at_call 41; refine cS.mono ?_; rintro e w1 ⟨rfl, hD1, hT1⟩; have hP := h.spend hD1 hT1; have hT := hT1.sub HSUB.out; obtain ⟨_, _, c2, _, _⟩ := hP.hdb.cells; obtain ⟨av, cv, hav⟩ := (get_rows hP.f1 s).shape; have hlk := lookB _ m1 E1 s hP.f1 hs'; rw [hav, HG.out] at hlk; clear hav; clear hT1 hD1)
      | (go_at_call 42; refine (cH _ hP).mono ?_; rintro e w1 ⟨rfl, rfl⟩)
      | (go_at_call_of 45 (Value.string s); refine (clone_any s _ hs).mono ?_; rintro e w1 ⟨rfl, hb⟩; have hP := hP.below hb; have hT := hT.trans (Turn.below hb); clear hb)
      | (go_at_call 46; refine (nCut_any s k _).mono ?_; rintro e w1 ⟨fv, rfl, hO, hb⟩; have hO := hO.on (D' := NewB w w1) (fun j hj => ⟨Nat.le_trans hT.size hj.1, hj.2⟩) (fun _ _ _ _ _ _ _ => rfl); have hP := hP.below hb; have hT := hT.trans (Turn.below hb); clear hb; obtain ⟨cc, iv, rfl, k0, kI⟩ := hO.op)
      | (go_at_call 43; refine (perform_und db m1 m2 st.room (spendF st.fuse) lv E1 fs st.L (.cut s k) cc iv _ hP.hdb hP.f1 hP.hlv k0 kI HOK.out HSM.out (by omega)).mono ?_; rintro e w1 ⟨rfl, hPE⟩; have hFIN := hP.perf HLT.out hT hO HOKN.out HFN.out hPE))
    go_ret
    exact ⟨rfl, hFIN⟩
set_option maxRecDepth 10000000 in
set_option maxHeartbeats 4000000 in
theorem renD_any (db : Nat) (st : Ds) (D : Nat → Prop) (s t : ByteArray) (w : World) (h : DK w db st D) (hs : s.size ≤ 1000000000) (ht : t.size ≤ 1000000000) (hl : st.L.length ≤ 1000000) :
    Calls Try.prog 21 #[ptr db, .string s, .string t] w (DoneD w db D (renS st s t)) := by
  have hlt : ∀ j, D j → j < w.heap.size := fun j hj => h.lt hj
  obtain ⟨m1, m2, lv, fs, E1, E2, h⟩ := h
  have cS := spend_any db m1 m2 st.room st.fuse lv w h.hdb h.fuse.1 h.fuse.2
  have hsubdb : ∀ j, j = db → D j := fun j hj => hj ▸ h.in0
  have HLT := Lib.hid hlt
  have HSUB := Lib.hid hsubdb
  have hs' : s.size ≤ maxLen := by unfold maxLen; omega
  have hfine := h.chain.last
  have hr0 := h.room.1
  have hr1 := h.room.2
  have hhas : hasE E1 s = hasF st.now s := by rw [← dat_hasF, h.d1]
  have cH := fun (w' : World) (hP : DP w' db st.spent D m1 m2 lv fs E1 E2) => has_any m1 E1 s w' hP.f1 hs'
  rw [hhas] at cH
  unfold ptr at cS ⊢
  clear hlt hsubdb hhas
  by_cases h0 : st.fuse = 0
  · have hr : renS st s t = (60, st.spent) := if_pos h0
    rw [hr]
    have e60 : spendE st.fuse = 60 := if_pos h0
    rw [e60] at cS
    clear h0 e60 hr hfine
    go_enter Try.func21, Try.ntmps21
    go_wp2_with (go_at_call 41; refine cS.mono ?_; rintro e w1 ⟨rfl, hD1, hT1⟩)
    go_ret
    exact ⟨rfl, ext_self ⟨_, _, _, _, _, _, h.spend hD1 hT1⟩ HLT.out hT1.size, hT1.sub HSUB.out⟩
  have e0 : spendE st.fuse = 0 := if_neg h0
  rw [e0] at cS
  have H0 := Lib.hid h0
  clear h0 e0
  cases hh : hasF st.now s
  · have hr : renS st s t = (5, st.spent) := by unfold renS; rw [if_neg H0.out, hh, if_pos rfl]
    rw [hr]
    rw [hh] at cH
    clear hr hh hfine
    go_enter Try.func21, Try.ntmps21
    go_wp2_with (first
      | (go_at_call 41; refine cS.mono ?_; rintro e w1 ⟨rfl, hD1, hT1⟩; have hP := h.spend hD1 hT1; have hT := hT1.sub HSUB.out; obtain ⟨_, _, c2, _, _⟩ := hP.hdb.cells; clear hT1 hD1)
      | (go_at_call 42; refine (cH _ hP).mono ?_; rintro e w1 ⟨rfl, rfl⟩))
    go_ret
    exact ⟨rfl, ext_self ⟨_, _, _, _, _, _, hP⟩ HLT.out hT.size, hT⟩
  rw [hh] at cH
  have HH := Lib.hid hh
  have HSM : Hid (smE E1) := Lib.hid (sm_of (room := st.room) (by rw [h.d1]; exact hfine) hr1)
  have HFI := Lib.hid hfine
  clear hh hfine
  have cN := fun w => name_any t w ht
  have ht' : t.size ≤ maxLen := by unfold maxLen; omega
  cases hn : nameB t
  · have hr : renS st s t = (2, st.spent) := by unfold renS; rw [if_neg H0.out, HH.out, if_neg (by simp), if_pos hn]
    rw [hr]
    rw [hn] at cN
    clear hr hn
    go_enter Try.func21, Try.ntmps21
    go_wp2_with (first
      | (go_at_call 41; refine cS.mono ?_; rintro e w1 ⟨rfl, hD1, hT1⟩; have hP := h.spend hD1 hT1; have hT := hT1.sub HSUB.out; obtain ⟨_, _, c2, _, _⟩ := hP.hdb.cells; clear hT1 hD1)
      | (go_at_call 42; refine (cH _ hP).mono ?_; rintro e w1 ⟨rfl, rfl⟩)
      | (go_at_call 17; refine (cN _).mono ?_; rintro e w1 ⟨rfl, hb⟩; have hP := hP.below hb; have hT := hT.trans (Turn.below hb); clear hb))
    go_ret
    exact ⟨rfl, ext_self ⟨_, _, _, _, _, _, hP⟩ HLT.out hT.size, hT⟩
  · have hr : renS st s t = (0, { st.spent with L := st.L ++ [.ren s t] }) := by unfold renS; rw [if_neg H0.out, HH.out, if_neg (by simp), if_neg (by rw [hn]; simp)]
    rw [hr]
    rw [hn] at cN
    clear hr hn
    have HOKN : Hid (okF st.spent.now (.ren s t)) := Lib.hid ⟨hs', ht'⟩
    have HOK : Hid (okF (datF E1) (.ren s t)) := Lib.hid ⟨hs', ht'⟩
    have HFN : Hid (FineF st.spent.room (doF 16777217 st.spent.now (.ren s t))) := Lib.hid (fine_ren HFI.out HH.out)
    go_enter Try.func21, Try.ntmps21
    go_wp2_with (first
      | (go_at_call 41; refine cS.mono ?_; rintro e w1 ⟨rfl, hD1, hT1⟩; have hP := h.spend hD1 hT1; have hT := hT1.sub HSUB.out; obtain ⟨_, _, c2, _, _⟩ := hP.hdb.cells; clear hT1 hD1)
      | (go_at_call 42; refine (cH _ hP).mono ?_; rintro e w1 ⟨rfl, rfl⟩)
      | (go_at_call 17; refine (cN _).mono ?_; rintro e w1 ⟨rfl, hb⟩; have hP := hP.below hb; have hT := hT.trans (Turn.below hb); clear hb)
      | (go_at_call_of 45 (Value.string s); refine (clone_any s _ hs).mono ?_; rintro e w1 ⟨rfl, hb⟩; have hP := hP.below hb; have hT := hT.trans (Turn.below hb); clear hb)
      | (go_at_call_of 45 (Value.string t); refine (clone_any t _ ht).mono ?_; rintro e w1 ⟨rfl, hb⟩; have hP := hP.below hb; have hT := hT.trans (Turn.below hb); clear hb)
      | (go_at_call 47; refine (nRen_any s t _).mono ?_; rintro e w1 ⟨fv, rfl, hO, hb⟩; have hO := hO.on (D' := NewB w w1) (fun j hj => ⟨Nat.le_trans hT.size hj.1, hj.2⟩) (fun _ _ _ _ _ _ _ => rfl); have hP := hP.below hb; have hT := hT.trans (Turn.below hb); clear hb; obtain ⟨cc, iv, rfl, k0, kI⟩ := hO.op)
      | (go_at_call 43; refine (perform_und db m1 m2 st.room (spendF st.fuse) lv E1 fs st.L (.ren s t) cc iv _ hP.hdb hP.f1 hP.hlv k0 kI HOK.out HSM.out (by omega)).mono ?_; rintro e w1 ⟨rfl, hPE⟩; have hFIN := hP.perf HLT.out hT hO HOKN.out HFN.out hPE))
    go_ret
    exact ⟨rfl, hFIN⟩
set_option maxRecDepth 10000000 in
set_option maxHeartbeats 4000000 in
theorem remD_any (db : Nat) (st : Ds) (D : Nat → Prop) (s : ByteArray) (w : World) (h : DK w db st D) (hs : s.size ≤ 1000000000) (hl : st.L.length ≤ 1000000) :
    Calls Try.prog 22 #[ptr db, .string s] w (DoneD w db D (remS st s)) := by
  have hlt : ∀ j, D j → j < w.heap.size := fun j hj => h.lt hj
  obtain ⟨m1, m2, lv, fs, E1, E2, h⟩ := h
  have cS := spend_any db m1 m2 st.room st.fuse lv w h.hdb h.fuse.1 h.fuse.2
  have hsubdb : ∀ j, j = db → D j := fun j hj => hj ▸ h.in0
  have HLT := Lib.hid hlt
  have HSUB := Lib.hid hsubdb
  have hs' : s.size ≤ maxLen := by unfold maxLen; omega
  have hfine := h.chain.last
  have hr0 := h.room.1
  have hr1 := h.room.2
  have hhas : hasE E1 s = hasF st.now s := by rw [← dat_hasF, h.d1]
  have cH := fun (w' : World) (hP : DP w' db st.spent D m1 m2 lv fs E1 E2) => has_any m1 E1 s w' hP.f1 hs'
  rw [hhas] at cH
  unfold ptr at cS ⊢
  clear hlt hsubdb hhas
  by_cases h0 : st.fuse = 0
  · have hr : remS st s = (60, st.spent) := if_pos h0
    rw [hr]
    have e60 : spendE st.fuse = 60 := if_pos h0
    rw [e60] at cS
    clear h0 e60 hr hfine
    go_enter Try.func22, Try.ntmps22
    go_wp2_with (go_at_call 41; refine cS.mono ?_; rintro e w1 ⟨rfl, hD1, hT1⟩)
    go_ret
    exact ⟨rfl, ext_self ⟨_, _, _, _, _, _, h.spend hD1 hT1⟩ HLT.out hT1.size, hT1.sub HSUB.out⟩
  have e0 : spendE st.fuse = 0 := if_neg h0
  rw [e0] at cS
  have H0 := Lib.hid h0
  clear h0 e0
  cases hh : hasF st.now s
  · have hr : remS st s = (5, st.spent) := by unfold remS; rw [if_neg H0.out, hh, if_pos rfl]
    rw [hr]
    rw [hh] at cH
    clear hr hh hfine
    go_enter Try.func22, Try.ntmps22
    go_wp2_with (first
      | (go_at_call 41; refine cS.mono ?_; rintro e w1 ⟨rfl, hD1, hT1⟩; have hP := h.spend hD1 hT1; have hT := hT1.sub HSUB.out; obtain ⟨_, _, c2, _, _⟩ := hP.hdb.cells; clear hT1 hD1)
      | (go_at_call 42; refine (cH _ hP).mono ?_; rintro e w1 ⟨rfl, rfl⟩))
    go_ret
    exact ⟨rfl, ext_self ⟨_, _, _, _, _, _, hP⟩ HLT.out hT.size, hT⟩
  rw [hh] at cH
  have HH := Lib.hid hh
  have HSM : Hid (smE E1) := Lib.hid (sm_of (room := st.room) (by rw [h.d1]; exact hfine) hr1)
  have HFI := Lib.hid hfine
  clear hh hfine
  have hr : remS st s = (0, { st.spent with L := st.L ++ [.rem s] }) := by unfold remS; rw [if_neg H0.out, HH.out, if_neg (by simp)]
  rw [hr]
  clear hr
  have HOKN : Hid (okF st.spent.now (.rem s)) := Lib.hid hs'
  have HOK : Hid (okF (datF E1) (.rem s)) := Lib.hid hs'
  have HFN : Hid (FineF st.spent.room (doF 16777217 st.spent.now (.rem s))) := Lib.hid (fine_rem HFI.out)
  go_enter Try.func22, Try.ntmps22
  go_wp2_with (first
    | (go_at_call 41; refine cS.mono ?_; rintro e w1 ⟨rfl, hD1, hT1⟩; have hP := h.spend hD1 hT1; have hT := hT1.sub HSUB.out; obtain ⟨_, _, c2, _, _⟩ := hP.hdb.cells; clear hT1 hD1)
    | (go_at_call 42; refine (cH _ hP).mono ?_; rintro e w1 ⟨rfl, rfl⟩)
    | (go_at_call_of 45 (Value.string s); refine (clone_any s _ hs).mono ?_; rintro e w1 ⟨rfl, hb⟩; have hP := hP.below hb; have hT := hT.trans (Turn.below hb); clear hb)
    | (go_at_call 48; refine (nRem_any s _).mono ?_; rintro e w1 ⟨fv, rfl, hO, hb⟩; have hO := hO.on (D' := NewB w w1) (fun j hj => ⟨Nat.le_trans hT.size hj.1, hj.2⟩) (fun _ _ _ _ _ _ _ => rfl); have hP := hP.below hb; have hT := hT.trans (Turn.below hb); clear hb; obtain ⟨cc, iv, rfl, k0, kI⟩ := hO.op)
    | (go_at_call 43; refine (perform_und db m1 m2 st.room (spendF st.fuse) lv E1 fs st.L (.rem s) cc iv _ hP.hdb hP.f1 hP.hlv k0 kI HOK.out HSM.out (by omega)).mono ?_; rintro e w1 ⟨rfl, hPE⟩; have hFIN := hP.perf HLT.out hT hO HOKN.out HFN.out hPE))
  go_ret
  exact ⟨rfl, hFIN⟩
end Go.Proofs.Ytlkgfimignlgaaa
