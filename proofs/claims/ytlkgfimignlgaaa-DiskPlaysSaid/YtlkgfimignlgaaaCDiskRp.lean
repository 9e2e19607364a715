/-
  THE DOCUMENT'S OWN DISK: CONTRACTS of Cut, Rename, Remove, Read, Sync, New. (gen_rp.py writes it.)
-/
import Derived.Test.YtlkgfimignlgaaaCDiskRo
set_option linter.unusedSimpArgs false
set_option linter.unusedVariables false
set_option linter.unusedVariables false
set_option linter.unusedSimpArgs false
namespace Go.Proofs.Ytlkgfimignlgaaa
open Go.RowKit
/-- Sync: what is sure is the files as they are .. -/
theorem sync_s {w0 w w' : World} {rb c c' : Nat} {st : Ds} {R : Nat → Prop} {a a' : Option Addr} {lv : Value} (h : RP w rb st R a c lv) (hs : w0.heap.size ≤ w.heap.size) (hlt : ∀ j, R j → j < w0.heap.size) (hb : Below w.heap.size w w') (hR : RowF w' a' st.now)
    (ho : ∀ j, (Value.slice a' st.now.length c').ownBlock = some j → (Value.slice a st.S.length c).ownBlock = some j ∨ (w.heap.size ≤ j ∧ j < w'.heap.size)) :
    RP (w'.setCell ⟨rb, 1, none⟩ (.slice a' st.now.length c')) rb { st with S := st.now } (Ext R w0 (w'.setCell ⟨rb, 1, none⟩ (.slice a' st.now.length c'))) a' c' lv := by
  have h1 := (h.below hb).extSelf hlt (Nat.le_trans hs hb.size)
  have h2 := h1.sured (a' := a') (c' := c') hR fun j hj => by
    rcases ho j hj with h3 | h3
    · exact ⟨.inl (h.in1 j h3), (h.ap1 j h3).1, (h.ap1 j h3).2⟩
    · exact ⟨.inr ⟨by omega, h3.2⟩, by have := h.blk.lt; omega, fun e => by have := h.lt j (h.in2 j e); omega⟩
  exact h2.ext (fun j hj => by
    rcases hj with h3 | h3
    · exact .inl h3
    · exact .inr ⟨h3.1, by rw [size_set]; exact h3.2⟩) fun j hj => by
    rw [size_set]
    rcases hj with h3 | h3
    · have := hlt j h3; have := hb.size; omega
    · rw [size_set] at h3; exact h3.2
theorem Ext.set {R : Nat → Prop} {w0 w : World} {p : Addr} {v : Value} {j : Nat} (h : Ext R w0 w j) : Ext R w0 (w.setCell p v) j := by
  rcases h with h | h
  · exact .inl h
  · exact .inr ⟨h.1, by rw [size_set]; exact h.2⟩
/-- .. and nothing is loose -/
theorem sync_end {w0 w : World} {rb c : Nat} {st : Ds} {R : Nat → Prop} {a : Option Addr} {lv sv : Value} (h : RP (w.setCell ⟨rb, 1, none⟩ sv) rb st (Ext R w0 (w.setCell ⟨rb, 1, none⟩ sv)) a c lv) (hT : Turn w0 w R) (hrb : R rb) :
    RK ((w.setCell ⟨rb, 1, none⟩ sv).setCell ⟨rb, 2, none⟩ (.slice none 0 0)) rb { st with L := [] } (Ext R w0 ((w.setCell ⟨rb, 1, none⟩ sv).setCell ⟨rb, 2, none⟩ (.slice none 0 0))) ∧ Turn w0 ((w.setCell ⟨rb, 1, none⟩ sv).setCell ⟨rb, 2, none⟩ (.slice none 0 0)) R :=
  ⟨⟨a, c, .slice none 0 0, (h.loosed (OwnL.nil _) (fun j hj => by cases hj)).ext (fun j hj => hj.set) fun j hj => by
      rw [size_set]
      refine h.lt j ?_
      rcases hj with h3 | h3
      · exact .inl h3
      · exact .inr ⟨h3.1, by rw [size_set] at h3; exact h3.2⟩⟩, (hT.trans (turn_set hrb _)).trans (turn_set hrb _)⟩
set_option maxRecDepth 10000000 in
set_option maxHeartbeats 4000000 in
theorem rrem_any (rb : Nat) (st : Ds) (R : Nat → Prop) (s : ByteArray) (w : World) (h : RK w rb st R) (hI : FI st) (hs : s.size ≤ 1000000000) :
    Calls Try.prog 32 #[ptr rb, .string s] w (DoneR w rb R (remS st s)) := by
  obtain ⟨a0, c0, lv, h⟩ := h
  have hlt : ∀ j, R j → j < w.heap.size := fun j hj => h.lt j hj
  have HLT := Lib.hid hlt
  have cB := burns_any rb st R a0 c0 lv w h hI
  have HIS : Hid (FI st.spent) := Lib.hid ⟨hI.chain, hI.room, spendF_rng hI.fuse, hI.len⟩
  obtain ⟨i0, hi0, hz0, hz1, hz2⟩ := info_parts infoCall
  have hfin : FineF st.room st.now := hI.chain.last
  have hlen : st.now.length ≤ 64 := hfin.2
  have hll := hI.len
  clear hlt hfin
  unfold ptr at cB ⊢
  by_cases h0 : st.fuse = 0
  · have hr : remS st s = (60, st.spent) := if_pos h0
    rw [hr]
    have hd : decide (st.fuse ≠ 0) = false := decide_eq_false (by simpa using h0)
    rw [hd] at cB
    clear hr hd h0
    go_enter Try.func32, Try.ntmps32
    go_wp2_with (go_at_call 53; refine cB.mono ?_; rintro e w1 ⟨rfl, hP, hT⟩)
    go_ret
    exact ⟨rfl, ⟨a0, c0, lv, hP.extSelf HLT.out hT.size⟩, hT⟩
  have hd : decide (st.fuse ≠ 0) = true := decide_eq_true h0
  rw [hd] at cB
  have H0 := Lib.hid h0
  clear h0 hd
  have cF := fun (w' : World) (a : Option Addr) (c : Nat) (h : RowF w' a st.now) => find_any st.now a c s w' h (by omega)

  cases hh : hasF st.now s
  · have hr : remS st s = (5, st.spent) := by unfold remS; rw [if_neg H0.out, hh, if_pos rfl]
    rw [hr]
    have hat0 := at_no hh
    rw [hat0] at cF
    clear hr hh hat0
    go_enter Try.func32, Try.ntmps32
    go_wp2_with (first | (go_at_call 53; refine cB.mono ?_; rintro e w1 ⟨rfl, hP, hT⟩) | (go_at_call 36; refine (rnow_any rb st.spent R a0 c0 lv _ hP HIS.out).mono ?_; rintro e w2 ⟨a, c, rfl, hR, _, hb⟩; have hP := hP.below hb; have hT := hT.trans (Turn.below hb); have b2 := hP.blk.cells.2.2.1) | (go_at_call 54; refine (cF _ _ _ hR).mono ?_; rintro e w4 ⟨rfl, rfl⟩))
    go_ret
    exact ⟨rfl, ⟨a0, c0, lv, hP.extSelf HLT.out hT.size⟩, hT⟩
  have HH := Lib.hid hh
  obtain ⟨k, p, hp, hat0, hgp, _⟩ := at_is hh
  have hk0 : ¬ (k : Int) < 0 := by omega
  have hk1 : (0 : Int) ≤ (k : Int) := by omega
  have hkl : (k : Int) < (st.now.length : Int) := by have := (List.getElem?_eq_some_iff.1 hp).1; omega
  have hkl2 : (k : Int) < (st.spent.now.length : Int) := hkl
  rw [hat0] at cF
  clear hh hat0
  have hr : remS st s = (0, { st.spent with L := st.L ++ [.rem s] }) := by unfold remS; rw [if_neg H0.out, HH.out, if_neg (by simp)]
  rw [hr]
  clear hr
  go_enter Try.func32, Try.ntmps32
  go_wp2_with (first | (go_at_call 53; refine cB.mono ?_; rintro e w1 ⟨rfl, hP, hT⟩) | (go_at_call 36; refine (rnow_any rb st.spent R a0 c0 lv _ hP HIS.out).mono ?_; rintro e w2 ⟨a, c, rfl, hR, _, hb⟩; have hP := hP.below hb; have hT := hT.trans (Turn.below hb); have b2 := hP.blk.cells.2.2.1) | (go_at_call 54; refine (cF _ _ _ hR).mono ?_; rintro e w4 ⟨rfl, rfl⟩) | (at_builtin; refine wpList_append_lies _ rfl _ _ _ rfl 0 82 i0 _ 4 48 Try.underlying37 hi0 hz0 hz1 hz2 rfl (by omega) lv st.L.length (st.L.flatMap opC) rfl (World.ownsRow.alloc hP.loose _) ⟨_, 0, none⟩ 1 1 [Value.int .i64 3, Value.string s, Value.string ⟨#[]⟩, Value.int .i64 0] rfl rfl (World.news_of_block (cs := #[Value.int .i64 3, Value.string s, Value.string ⟨#[]⟩, Value.int .i64 0]) (t := 82) (fr := (0, 0)) (heap_alloc_new _ _)) (by simp [Value.oneCell']) (by omega) (by unfold maxLen; omega) (by omega) (Nat.zero_le _) _ (World.size_alloc _ _) ?_; intro g2 cap2 w5 hown hgrow hat hglt; have hblk := push_blk hP hgrow; have k2 := hblk.cells.2.2.1; have kf := hblk.free 2))
  go_ret
  exact ⟨rfl, hP.push HLT.out hT hgrow (OwnL.snoc (op := .rem s) hown) rfl hat hglt⟩
set_option maxRecDepth 10000000 in
set_option maxHeartbeats 4000000 in
theorem rren_any (rb : Nat) (st : Ds) (R : Nat → Prop) (s t : ByteArray) (w : World) (h : RK w rb st R) (hI : FI st) (hs : s.size ≤ 1000000000) (ht : t.size ≤ 1000000000) :
    Calls Try.prog 31 #[ptr rb, .string s, .string t] w (DoneR w rb R (renS st s t)) := by
  obtain ⟨a0, c0, lv, h⟩ := h
  have hlt : ∀ j, R j → j < w.heap.size := fun j hj => h.lt j hj
  have HLT := Lib.hid hlt
  have cB := burns_any rb st R a0 c0 lv w h hI
  have HIS : Hid (FI st.spent) := Lib.hid ⟨hI.chain, hI.room, spendF_rng hI.fuse, hI.len⟩
  obtain ⟨i0, hi0, hz0, hz1, hz2⟩ := info_parts infoCall
  have hfin : FineF st.room st.now := hI.chain.last
  have hlen : st.now.length ≤ 64 := hfin.2
  have hll := hI.len
  clear hlt hfin
  unfold ptr at cB ⊢
  by_cases h0 : st.fuse = 0
  · have hr : renS st s t = (60, st.spent) := if_pos h0
    rw [hr]
    have hd : decide (st.fuse ≠ 0) = false := decide_eq_false (by simpa using h0)
    rw [hd] at cB
    clear hr hd h0
    go_enter Try.func31, Try.ntmps31
    go_wp2_with (go_at_call 53; refine cB.mono ?_; rintro e w1 ⟨rfl, hP, hT⟩)
    go_ret
    exact ⟨rfl, ⟨a0, c0, lv, hP.extSelf HLT.out hT.size⟩, hT⟩
  have hd : decide (st.fuse ≠ 0) = true := decide_eq_true h0
  rw [hd] at cB
  have H0 := Lib.hid h0
  clear h0 hd
  have cF := fun (w' : World) (a : Option Addr) (c : Nat) (h : RowF w' a st.now) => find_any st.now a c s w' h (by omega)

  have cM := fun w => rname_any t w ht
  cases hh : hasF st.now s
  · have hr : renS st s t = (5, st.spent) := by unfold renS; rw [if_neg H0.out, hh, if_pos rfl]
    rw [hr]
    have hat0 := at_no hh
    rw [hat0] at cF
    clear hr hh hat0
    go_enter Try.func31, Try.ntmps31
    go_wp2_with (first | (go_at_call 53; refine cB.mono ?_; rintro e w1 ⟨rfl, hP, hT⟩) | (go_at_call 36; refine (rnow_any rb st.spent R a0 c0 lv _ hP HIS.out).mono ?_; rintro e w2 ⟨a, c, rfl, hR, _, hb⟩; have hP := hP.below hb; have hT := hT.trans (Turn.below hb); have b2 := hP.blk.cells.2.2.1) | (go_at_call 54; refine (cF _ _ _ hR).mono ?_; rintro e w4 ⟨rfl, rfl⟩))
    go_ret
    exact ⟨rfl, ⟨a0, c0, lv, hP.extSelf HLT.out hT.size⟩, hT⟩
  have HH := Lib.hid hh
  obtain ⟨k, p, hp, hat0, hgp, _⟩ := at_is hh
  have hk0 : ¬ (k : Int) < 0 := by omega
  have hk1 : (0 : Int) ≤ (k : Int) := by omega
  have hkl : (k : Int) < (st.now.length : Int) := by have := (List.getElem?_eq_some_iff.1 hp).1; omega
  have hkl2 : (k : Int) < (st.spent.now.length : Int) := hkl
  rw [hat0] at cF
  clear hh hat0
  cases hn : nameB t
  · have hr : renS st s t = (2, st.spent) := by unfold renS; rw [if_neg H0.out, HH.out, if_neg (by simp), if_pos hn]
    rw [hr]
    rw [hn] at cM
    clear hr hn
    go_enter Try.func31, Try.ntmps31
    go_wp2_with (first | (go_at_call 53; refine cB.mono ?_; rintro e w1 ⟨rfl, hP, hT⟩) | (go_at_call 36; refine (rnow_any rb st.spent R a0 c0 lv _ hP HIS.out).mono ?_; rintro e w2 ⟨a, c, rfl, hR, _, hb⟩; have hP := hP.below hb; have hT := hT.trans (Turn.below hb); have b2 := hP.blk.cells.2.2.1) | (go_at_call 54; refine (cF _ _ _ hR).mono ?_; rintro e w4 ⟨rfl, rfl⟩) | (go_at_call 18; refine (cM _).mono ?_; rintro e w1 ⟨rfl, rfl⟩))
    go_ret
    exact ⟨rfl, ⟨a0, c0, lv, hP.extSelf HLT.out hT.size⟩, hT⟩
  · have hr : renS st s t = (0, { st.spent with L := st.L ++ [.ren s t] }) := by unfold renS; rw [if_neg H0.out, HH.out, if_neg (by simp), if_neg (by rw [hn]; simp)]
    rw [hr]
    rw [hn] at cM
    clear hr hn
    go_enter Try.func31, Try.ntmps31
    go_wp2_with (first | (go_at_call 53; refine cB.mono ?_; rintro e w1 ⟨rfl, hP, hT⟩) | (go_at_call 36; refine (rnow_any rb st.spent R a0 c0 lv _ hP HIS.out).mono ?_; rintro e w2 ⟨a, c, rfl, hR, _, hb⟩; have hP := hP.below hb; have hT := hT.trans (Turn.below hb); have b2 := hP.blk.cells.2.2.1) | (go_at_call 54; refine (cF _ _ _ hR).mono ?_; rintro e w4 ⟨rfl, rfl⟩) | (go_at_call 18; refine (cM _).mono ?_; rintro e w1 ⟨rfl, rfl⟩) | (at_builtin; refine wpList_append_lies _ rfl _ _ _ rfl 0 82 i0 _ 4 48 Try.underlying37 hi0 hz0 hz1 hz2 rfl (by omega) lv st.L.length (st.L.flatMap opC) rfl (World.ownsRow.alloc hP.loose _) ⟨_, 0, none⟩ 1 1 [Value.int .i64 2, Value.string s, Value.string t, Value.int .i64 0] rfl rfl (World.news_of_block (cs := #[Value.int .i64 2, Value.string s, Value.string t, Value.int .i64 0]) (t := 82) (fr := (0, 0)) (heap_alloc_new _ _)) (by simp [Value.oneCell']) (by omega) (by unfold maxLen; omega) (by omega) (Nat.zero_le _) _ (World.size_alloc _ _) ?_; intro g2 cap2 w5 hown hgrow hat hglt; have hblk := push_blk hP hgrow; have k2 := hblk.cells.2.2.1; have kf := hblk.free 2))
    go_ret
    exact ⟨rfl, hP.push HLT.out hT hgrow (OwnL.snoc (op := .ren s t) hown) rfl hat hglt⟩
set_option maxRecDepth 10000000 in
set_option maxHeartbeats 4000000 in
theorem rcut_any (rb : Nat) (st : Ds) (R : Nat → Prop) (s : ByteArray) (n : Int) (w : World) (h : RK w rb st R) (hI : FI st) (hs : s.size ≤ 1000000000) :
    Calls Try.prog 30 #[ptr rb, .string s, .int .i64 n] w (DoneR w rb R (cutS st s n)) := by
  obtain ⟨a0, c0, lv, h⟩ := h
  have hlt : ∀ j, R j → j < w.heap.size := fun j hj => h.lt j hj
  have HLT := Lib.hid hlt
  have cB := burns_any rb st R a0 c0 lv w h hI
  have HIS : Hid (FI st.spent) := Lib.hid ⟨hI.chain, hI.room, spendF_rng hI.fuse, hI.len⟩
  obtain ⟨i0, hi0, hz0, hz1, hz2⟩ := info_parts infoCall
  have hfin : FineF st.room st.now := hI.chain.last
  have hlen : st.now.length ≤ 64 := hfin.2
  have hll := hI.len
  clear hlt hfin
  unfold ptr at cB ⊢
  by_cases h0 : st.fuse = 0
  · have hr : cutS st s n = (60, st.spent) := if_pos h0
    rw [hr]
    have hd : decide (st.fuse ≠ 0) = false := decide_eq_false (by simpa using h0)
    rw [hd] at cB
    clear hr hd h0
    go_enter Try.func30, Try.ntmps30
    go_wp2_with (go_at_call 53; refine cB.mono ?_; rintro e w1 ⟨rfl, hP, hT⟩)
    go_ret
    exact ⟨rfl, ⟨a0, c0, lv, hP.extSelf HLT.out hT.size⟩, hT⟩
  have hd : decide (st.fuse ≠ 0) = true := decide_eq_true h0
  rw [hd] at cB
  have H0 := Lib.hid h0
  clear h0 hd
  have cF := fun (w' : World) (a : Option Addr) (c : Nat) (h : RowF w' a st.now) => find_any st.now a c s w' h (by omega)

  cases hh : hasF st.now s
  · have hr : cutS st s n = (5, st.spent) := by unfold cutS; rw [if_neg H0.out, hh, if_pos rfl]
    rw [hr]
    have hat0 := at_no hh
    rw [hat0] at cF
    clear hr hh hat0
    go_enter Try.func30, Try.ntmps30
    go_wp2_with (first | (go_at_call 53; refine cB.mono ?_; rintro e w1 ⟨rfl, hP, hT⟩) | (go_at_call 36; refine (rnow_any rb st.spent R a0 c0 lv _ hP HIS.out).mono ?_; rintro e w2 ⟨a, c, rfl, hR, _, hb⟩; have hP := hP.below hb; have hT := hT.trans (Turn.below hb); have b2 := hP.blk.cells.2.2.1) | (go_at_call 54; refine (cF _ _ _ hR).mono ?_; rintro e w4 ⟨rfl, rfl⟩))
    go_ret
    exact ⟨rfl, ⟨a0, c0, lv, hP.extSelf HLT.out hT.size⟩, hT⟩
  have HH := Lib.hid hh
  obtain ⟨k, p, hp, hat0, hgp, _⟩ := at_is hh
  have hk0 : ¬ (k : Int) < 0 := by omega
  have hk1 : (0 : Int) ≤ (k : Int) := by omega
  have hkl : (k : Int) < (st.now.length : Int) := by have := (List.getElem?_eq_some_iff.1 hp).1; omega
  have hkl2 : (k : Int) < (st.spent.now.length : Int) := hkl
  rw [hat0] at cF
  clear hh hat0

  have hgl : (getF st.now s).length = p.2.length := by rw [hgp]
  have HP0 := Lib.hid hp
  obtain ⟨x, hxx⟩ : ∃ x : ByteArray, ⟨p.2.toArray⟩ = x := ⟨_, rfl⟩
  have hxs : x.size = (getF st.now s).length := by rw [← hxx, old_size, hgl]
  have HXX := Lib.hid hxx
  clear hp hgp hxx hgl
  by_cases hbad : n < 0 ∨ ((getF st.now s).length : Int) < n
  · have hr : cutS st s n = (2, st.spent) := by unfold cutS; rw [if_neg H0.out, HH.out, if_neg (by simp), if_pos hbad]
    rw [hr]
    clear hr
    rw [← hxs] at hbad
    rcases (show n < 0 ∨ (¬ n < 0 ∧ (x.size : Int) < n) by omega) with h1 | ⟨h1, h2⟩
    · clear hbad
      go_enter Try.func30, Try.ntmps30
      go_wp2_with (first | (go_at_call 53; refine cB.mono ?_; rintro e w1 ⟨rfl, hP, hT⟩) | (go_at_call 36; refine (rnow_any rb st.spent R a0 c0 lv _ hP HIS.out).mono ?_; rintro e w2 ⟨a, c, rfl, hR, _, hb⟩; have hP := hP.below hb; have hT := hT.trans (Turn.below hb); have b2 := hP.blk.cells.2.2.1; obtain ⟨b, o, rfl, hlb, r0, r1⟩ := hR k p HP0.out; rw [HXX.out] at r1) | (go_at_call 54; refine (cF _ _ _ hR).mono ?_; rintro e w4 ⟨rfl, rfl⟩))
      go_ret
      exact ⟨rfl, ⟨a0, c0, lv, hP.extSelf HLT.out hT.size⟩, hT⟩
    · clear hbad
      go_enter Try.func30, Try.ntmps30
      go_wp2_with (first | (go_at_call 53; refine cB.mono ?_; rintro e w1 ⟨rfl, hP, hT⟩) | (go_at_call 36; refine (rnow_any rb st.spent R a0 c0 lv _ hP HIS.out).mono ?_; rintro e w2 ⟨a, c, rfl, hR, _, hb⟩; have hP := hP.below hb; have hT := hT.trans (Turn.below hb); have b2 := hP.blk.cells.2.2.1; obtain ⟨b, o, rfl, hlb, r0, r1⟩ := hR k p HP0.out; rw [HXX.out] at r1) | (go_at_call 54; refine (cF _ _ _ hR).mono ?_; rintro e w4 ⟨rfl, rfl⟩))
      go_ret
      exact ⟨rfl, ⟨a0, c0, lv, hP.extSelf HLT.out hT.size⟩, hT⟩
  · have hr : cutS st s n = (0, { st.spent with L := st.L ++ [.cut s n.toNat] }) := by unfold cutS; rw [if_neg H0.out, HH.out, if_neg (by simp), if_neg hbad]
    rw [hr]
    clear hr
    rw [← hxs] at hbad
    have h1 : ¬ n < 0 := by omega
    have h2 : ¬ (x.size : Int) < n := by omega
    obtain ⟨m, rfl⟩ := Int.eq_ofNat_of_zero_le (show 0 ≤ n by omega)
    rw [Int.toNat_natCast]
    clear hbad
    go_enter Try.func30, Try.ntmps30
    go_wp2_with (first | (go_at_call 53; refine cB.mono ?_; rintro e w1 ⟨rfl, hP, hT⟩) | (go_at_call 36; refine (rnow_any rb st.spent R a0 c0 lv _ hP HIS.out).mono ?_; rintro e w2 ⟨a, c, rfl, hR, _, hb⟩; have hP := hP.below hb; have hT := hT.trans (Turn.below hb); have b2 := hP.blk.cells.2.2.1; obtain ⟨b, o, rfl, hlb, r0, r1⟩ := hR k p HP0.out; rw [HXX.out] at r1) | (go_at_call 54; refine (cF _ _ _ hR).mono ?_; rintro e w4 ⟨rfl, rfl⟩) | (at_builtin; refine wpList_append_lies _ rfl _ _ _ rfl 0 82 i0 _ 4 48 Try.underlying37 hi0 hz0 hz1 hz2 rfl (by omega) lv st.L.length (st.L.flatMap opC) rfl (World.ownsRow.alloc hP.loose _) ⟨_, 0, none⟩ 1 1 [Value.int .i64 1, Value.string s, Value.string ⟨#[]⟩, Value.int .i64 (m : Nat)] rfl rfl (World.news_of_block (cs := #[Value.int .i64 1, Value.string s, Value.string ⟨#[]⟩, Value.int .i64 (m : Nat)]) (t := 82) (fr := (0, 0)) (heap_alloc_new _ _)) (by simp [Value.oneCell']) (by omega) (by unfold maxLen; omega) (by omega) (Nat.zero_le _) _ (World.size_alloc _ _) ?_; intro g2 cap2 w5 hown hgrow hat hglt; have hblk := push_blk hP hgrow; have k2 := hblk.cells.2.2.1; have kf := hblk.free 2))
    go_ret
    exact ⟨rfl, hP.push HLT.out hT hgrow (OwnL.snoc (op := .cut s m) hown) rfl hat hglt⟩
set_option maxRecDepth 10000000 in
set_option maxHeartbeats 4000000 in
theorem rread_any (rb : Nat) (st : Ds) (R : Nat → Prop) (s : ByteArray) (w : World) (h : RK w rb st R) (hI : FI st) :
    Calls Try.prog 37 #[ptr rb, .string s] w fun e w' => e = .returned (.tuple #[.string (readS st.fuse st.now s), .int .i64 (readE st.fuse st.now s)]) ∧ Below w.heap.size w w' := by
  obtain ⟨a0, c0, lv, h⟩ := h
  obtain ⟨_, _, _, b3⟩ := h.blk.cells
  have cN := rnow_any rb st R a0 c0 lv w h hI
  have hlen : st.now.length ≤ 64 := hI.chain.last.2
  unfold ptr at cN ⊢
  by_cases h0 : st.fuse = 0
  · have hr : readS st.fuse st.now s = ⟨#[]⟩ ∧ readE st.fuse st.now s = 60 := by unfold readS readE; rw [if_pos h0, if_pos h0]; exact ⟨rfl, rfl⟩
    rw [hr.1, hr.2]
    rw [h0] at b3
    clear hr h0 hI h
    go_enter Try.func37, Try.ntmps37
    go_wp2
    go_ret2
    exact ⟨rfl, Below.refl _ _⟩
  have hf : (st.fuse == 0) = false := by rw [beq_eq_false_iff_ne]; exact h0
  cases hh : hasF st.now s
  · have hr : readS st.fuse st.now s = ⟨#[]⟩ ∧ readE st.fuse st.now s = 5 := by unfold readS readE; rw [if_neg h0, if_neg h0, hh]; exact ⟨rfl, rfl⟩
    rw [hr.1, hr.2]
    have hat0 := at_no hh
    have cF := fun (w' : World) (a : Option Addr) (c : Nat) (h : RowF w' a st.now) => find_any st.now a c s w' h (by omega)
    rw [hat0] at cF
    clear hr hh hat0 h0
    go_enter Try.func37, Try.ntmps37
    go_wp2_with (first | (go_at_call 36; refine cN.mono ?_; rintro e w2 ⟨a, c, rfl, hR, _, hb⟩) | (go_at_call 54; refine (cF _ _ _ hR).mono ?_; rintro e w4 ⟨rfl, rfl⟩))
    go_ret2
    exact ⟨rfl, hb⟩
  · have hr : readS st.fuse st.now s = ⟨(getF st.now s).toArray⟩ ∧ readE st.fuse st.now s = 0 := by unfold readS readE; rw [if_neg h0, if_neg h0, hh]; exact ⟨rfl, rfl⟩
    rw [hr.1, hr.2]
    obtain ⟨k, p, hp, hat0, hgp, _⟩ := at_is hh
    have hk0 : ¬ (k : Int) < 0 := by omega
    have hk1 : (0 : Int) ≤ (k : Int) := by omega
    have hkl : (k : Int) < (st.now.length : Int) := by have := (List.getElem?_eq_some_iff.1 hp).1; omega
    have cF := fun (w' : World) (a : Option Addr) (c : Nat) (h : RowF w' a st.now) => find_any st.now a c s w' h (by omega)
    rw [hat0] at cF
    rw [hgp]
    have HP0 := Lib.hid hp
    clear hr hh hat0 h0 hp hgp
    go_enter Try.func37, Try.ntmps37
    go_wp2_with (first | (go_at_call 36; refine cN.mono ?_; rintro e w2 ⟨a, c, rfl, hR, _, hb⟩; obtain ⟨b, o, rfl, hlb, r0, r1⟩ := hR k p HP0.out) | (go_at_call 54; refine (cF _ _ _ hR).mono ?_; rintro e w4 ⟨rfl, rfl⟩))
    go_ret2
    exact ⟨rfl, hb⟩
set_option maxRecDepth 10000000 in
set_option maxHeartbeats 4000000 in
theorem rsync_any (rb : Nat) (st : Ds) (R : Nat → Prop)  (w : World) (h : RK w rb st R) (hI : FI st)  :
    Calls Try.prog 33 #[ptr rb] w (DoneR w rb R (syncS st)) := by
  obtain ⟨a0, c0, lv, h⟩ := h
  have hlt : ∀ j, R j → j < w.heap.size := fun j hj => h.lt j hj
  have HLT := Lib.hid hlt
  have cB := burns_any rb st R a0 c0 lv w h hI
  have HIS : Hid (FI st.spent) := Lib.hid ⟨hI.chain, hI.room, spendF_rng hI.fuse, hI.len⟩
  obtain ⟨i0, hi0, hz0, hz1, hz2⟩ := info_parts infoCall
  have hfin : FineF st.room st.now := hI.chain.last
  have hlen : st.now.length ≤ 64 := hfin.2
  have hll := hI.len
  clear hlt hfin
  unfold ptr at cB ⊢
  by_cases h0 : st.fuse = 0
  · have hr : syncS st = (60, st.spent) := if_pos h0
    rw [hr]
    have hd : decide (st.fuse ≠ 0) = false := decide_eq_false (by simpa using h0)
    rw [hd] at cB
    clear hr hd h0
    go_enter Try.func33, Try.ntmps33
    go_wp2_with (go_at_call 53; refine cB.mono ?_; rintro e w1 ⟨rfl, hP, hT⟩)
    go_ret
    exact ⟨rfl, ⟨a0, c0, lv, hP.extSelf HLT.out hT.size⟩, hT⟩
  have hd : decide (st.fuse ≠ 0) = true := decide_eq_true h0
  rw [hd] at cB
  have H0 := Lib.hid h0
  clear h0 hd

  have hr : syncS st = (0, { st.spent with S := st.now, L := [] }) := by unfold syncS; rw [if_neg H0.out]
  rw [hr]
  clear hr
  go_enter Try.func33, Try.ntmps33
  go_wp2_with (first
    | (go_at_call 53; refine cB.mono ?_; rintro e w1 ⟨rfl, hP, hT⟩)
    | (go_at_call 36; refine (rnow_any rb st.spent R a0 c0 lv _ hP HIS.out).mono ?_; rintro e w2 ⟨a, c, rfl, hR, ho, hb⟩; have hQ := (hP.below hb).extSelf HLT.out (hT.trans (Turn.below hb)).size; have hT2 := hT.trans (Turn.below hb); have k1 := hQ.blk.cells.2.1; have f1 := hQ.blk.free 1; have hS := sync_s hP hT.size HLT.out hb hR ho; have k2 := hS.blk.cells.2.2.1; have f2 := hS.blk.free 2))
  go_ret
  exact ⟨rfl, sync_end hS hT2 hP.in0⟩
set_option maxRecDepth 10000000 in
set_option maxHeartbeats 4000000 in
theorem rnew_no (room : Int) (w : World) (h : roomB room = false) : Calls Try.prog 11 #[.int .i64 room] w fun e w' => e = .returned (.pointer none) ∧ w' = w := by
  have h' : room < 0 ∨ (¬ room < 0 ∧ 16777216 < room) := by
    unfold roomB at h
    rw [Bool.and_eq_false_iff, decide_eq_false_iff_not, decide_eq_false_iff_not] at h
    omega
  clear h
  rcases h' with h0 | ⟨h0, h1⟩
  · go_enter Try.func11, Try.ntmps11
    go_wp2
    go_ret
    exact ⟨rfl, rfl⟩
  · go_enter Try.func11, Try.ntmps11
    go_wp2
    go_ret
    exact ⟨rfl, rfl⟩
set_option maxRecDepth 10000000 in
set_option maxHeartbeats 4000000 in
theorem rnew_ok (room : Int) (w : World) (h : roomB room = true) : Calls Try.prog 11 #[.int .i64 room] w fun e w' => e = .returned (ptr w.heap.size) ∧ RK w' w.heap.size (New0 room) (NewB w w') ∧ Below w.heap.size w w' := by
  have h' : ¬ room < 0 ∧ ¬ 16777216 < room := by
    unfold roomB at h
    rw [Bool.and_eq_true, decide_eq_true_eq, decide_eq_true_eq] at h
    omega
  clear h
  obtain ⟨h0, h1⟩ := h'
  have hb : Below w.heap.size w (w.alloc (.cells #[.int .i64 room, .slice none 0 0, .slice none 0 0, .int .i64 (-1)] 39)) := (Below.refl _ _).alloc (Nat.le_refl _) _
  have hB : RB (w.alloc (.cells #[.int .i64 room, .slice none 0 0, .slice none 0 0, .int .i64 (-1)] 39)) w.heap.size room (-1) (.slice none 0 0) (.slice none 0 0) := heap_alloc_new w _
  have HB := Lib.hid hb
  have HR := Lib.hid hB
  have hz : (w.alloc (.cells #[.int .i64 room, .slice none 0 0, .slice none 0 0, .int .i64 (-1)] 39)).heap.size = w.heap.size + 1 := by simp
  have HZ := Lib.hid hz
  clear hz hb hB
  unfold ptr
  go_enter Try.func11, Try.ntmps11
  go_wp2
  go_ret
  exact ⟨rfl, ⟨none, 0, .slice none 0 0, HR.out, (fun j p hp => by simp [New0] at hp), OwnL.nil _, (fun j hj => by cases hj), (fun e => by cases e), ⟨Nat.le_refl _, by rw [HZ.out]; omega⟩, (fun j hj => by cases hj), (fun j hj => by cases hj), fun j hj => hj.2⟩, HB.out⟩
end Go.Proofs.Ytlkgfimignlgaaa
