/-
  THE DOCUMENT'S OWN DISK: CONTRACTS of Name, Append, Cut, Rename, Remove. (gen_ro.py writes it.)
-/
import Derived.Test.YtlkgfimignlgaaaCDiskRm
set_option linter.unusedSimpArgs false
set_option linter.unusedVariables false
set_option linter.unusedVariables false
set_option linter.unusedSimpArgs false
namespace Go.Proofs.Ytlkgfimignlgaaa
open Go.RowKit
theorem run_index_at (s : ByteArray) (i : Nat) (k : IntKind) (hi : i < s.size) (w : World) :
    (Instr.index 9 (.string s) (.int k i)).run Try.prog w = .ok (.int .u8 (((s[i]'hi).toNat : Nat) : Int)) w := by
  have h0 : (0 : Int) ≤ (i : Int) := by omega
  simp [Instr.index, run_underlying Try.underlying9, asIntOf, hi, go_sem]
set_option maxRecDepth 10000000 in
set_option maxHeartbeats 4000000 in
theorem rname_any (s : ByteArray) (w : World) (hs : s.size ≤ 1000000000) :
    Calls Try.prog 18 #[.string s] w fun e w' => e = .returned (.bool (nameB s)) ∧ w' = w := by
  have hsI : (s.size : Int) ≤ 1000000000 := by omega
  go_enter Try.func18, Try.ntmps18
  go_wp2
  go_loopw [3] (fun v wr => ∃ i : Nat, v = .int .i64 (i : Nat) ∧ i ≤ s.size ∧ nameTo s i = true ∧ wr = w) (fun v _ => s.size - (intOf v).toNat)
  case atStart => exact ⟨0, rfl, Nat.zero_le _, rfl, rfl⟩
  case round =>
    obtain ⟨i, rfl, hi, hn, rfl⟩ := hrel
    by_cases hlt : i < s.size
    · have hltI : (i : Int) < (s.size : Int) := by omega
      have hon := nameTo_on hlt
      have hno := nameTo_no hlt
      have hix := fun (k : IntKind) (w : World) => run_index_at s i k hlt w
      rw [hn, Bool.true_and] at hon
      obtain ⟨x, hx⟩ : ∃ x : Int, x = (((s[i]'hlt).toNat : Nat) : Int) := ⟨_, rfl⟩
      rw [← hx] at hon hno hix
      have HON := Lib.hid hon
      have HNO := Lib.hid hno
      have HCC : Hid (nameC x = ((decide (97 ≤ x) && decide (x ≤ 122)) || (decide (48 ≤ x) && decide (x ≤ 57)) || x == 46 || x == 45 || x == 95)) := Lib.hid rfl
      clear hx hon hno hn
      rcases (show (97 ≤ x ∧ x ≤ 122) ∨ (122 < x) ∨ (48 ≤ x ∧ x ≤ 57) ∨ (x = 46) ∨ (x = 45) ∨ (x = 95) ∨ (57 < x ∧ x < 97 ∧ x ≠ 95) ∨ (x < 48 ∧ x ≠ 45 ∧ x ≠ 46) by omega) with hc | hc | hc | hc | hc | hc | hc | hc
      · have h1 : 97 ≤ x := by omega
        have h2 : x ≤ 122 := by omega
        have hnc : nameC x = true := by rw [HCC.out]; simp; omega
        rw [hnc] at HON HNO
        clear hnc hc HCC
        go_wp2
        go_roundw
        case rel => exact ⟨i + 1, by go_num, hlt, HON.out, (by first | rfl | trivial)⟩
        case measure => simp [intOf]; omega
      · have h1 : 97 ≤ x := by omega
        have h2 : ¬ x ≤ 122 := by omega
        have h3 : 48 ≤ x := by omega
        have h4 : ¬ x ≤ 57 := by omega
        have h5 : (x == 46) = false := by rw [beq_eq_false_iff_ne]; omega
        have h6 : (x == 45) = false := by rw [beq_eq_false_iff_ne]; omega
        have h7 : (x == 95) = false := by rw [beq_eq_false_iff_ne]; omega
        have hnc : nameC x = false := by rw [HCC.out]; simp; omega
        rw [hnc] at HON HNO
        clear hnc hc HCC
        go_wp2
        go_ret
        exact ⟨ret_b (HNO.out (by first | rfl | trivial)).symm, rfl⟩
      · have h1 : ¬ 97 ≤ x := by omega
        have h3 : 48 ≤ x := by omega
        have h4 : x ≤ 57 := by omega
        have hnc : nameC x = true := by rw [HCC.out]; simp; omega
        rw [hnc] at HON HNO
        clear hnc hc HCC
        go_wp2
        go_roundw
        case rel => exact ⟨i + 1, by go_num, hlt, HON.out, (by first | rfl | trivial)⟩
        case measure => simp [intOf]; omega
      · have h1 : ¬ 97 ≤ x := by omega
        have h3 : ¬ 48 ≤ x := by omega
        have h5 : (x == 46) = true := by simp; omega
        have hnc : nameC x = true := by rw [HCC.out]; simp; omega
        rw [hnc] at HON HNO
        clear hnc hc HCC
        go_wp2
        go_roundw
        case rel => exact ⟨i + 1, by go_num, hlt, HON.out, (by first | rfl | trivial)⟩
        case measure => simp [intOf]; omega
      · have h1 : ¬ 97 ≤ x := by omega
        have h3 : ¬ 48 ≤ x := by omega
        have h5 : (x == 46) = false := by rw [beq_eq_false_iff_ne]; omega
        have h6 : (x == 45) = true := by simp; omega
        have hnc : nameC x = true := by rw [HCC.out]; simp; omega
        rw [hnc] at HON HNO
        clear hnc hc HCC
        go_wp2
        go_roundw
        case rel => exact ⟨i + 1, by go_num, hlt, HON.out, (by first | rfl | trivial)⟩
        case measure => simp [intOf]; omega
      · have h1 : ¬ 97 ≤ x := by omega
        have h3 : 48 ≤ x := by omega
        have h4 : ¬ x ≤ 57 := by omega
        have h5 : (x == 46) = false := by rw [beq_eq_false_iff_ne]; omega
        have h6 : (x == 45) = false := by rw [beq_eq_false_iff_ne]; omega
        have h7 : (x == 95) = true := by simp; omega
        have hnc : nameC x = true := by rw [HCC.out]; simp; omega
        rw [hnc] at HON HNO
        clear hnc hc HCC
        go_wp2
        go_roundw
        case rel => exact ⟨i + 1, by go_num, hlt, HON.out, (by first | rfl | trivial)⟩
        case measure => simp [intOf]; omega
      · have h1 : ¬ 97 ≤ x := by omega
        have h3 : 48 ≤ x := by omega
        have h4 : ¬ x ≤ 57 := by omega
        have h5 : (x == 46) = false := by rw [beq_eq_false_iff_ne]; omega
        have h6 : (x == 45) = false := by rw [beq_eq_false_iff_ne]; omega
        have h7 : (x == 95) = false := by rw [beq_eq_false_iff_ne]; omega
        have hnc : nameC x = false := by rw [HCC.out]; simp; omega
        rw [hnc] at HON HNO
        clear hnc hc HCC
        go_wp2
        go_ret
        exact ⟨ret_b (HNO.out (by first | rfl | trivial)).symm, rfl⟩
      · have h1 : ¬ 97 ≤ x := by omega
        have h3 : ¬ 48 ≤ x := by omega
        have h5 : (x == 46) = false := by rw [beq_eq_false_iff_ne]; omega
        have h6 : (x == 45) = false := by rw [beq_eq_false_iff_ne]; omega
        have h7 : (x == 95) = false := by rw [beq_eq_false_iff_ne]; omega
        have hnc : nameC x = false := by rw [HCC.out]; simp; omega
        rw [hnc] at HON HNO
        clear hnc hc HCC
        go_wp2
        go_ret
        exact ⟨ret_b (HNO.out (by first | rfl | trivial)).symm, rfl⟩
    · have hge : ¬ (i : Int) < (s.size : Int) := by omega
      have hie : i = s.size := by omega
      subst hie
      rw [nameTo_all] at hn
      have HB : Hid (nameB s = (decide (1 ≤ s.size) && decide (s.size ≤ 32))) := Lib.hid (by unfold nameB; rw [hn, Bool.and_true])
      clear hn
      by_cases h1 : 1 ≤ s.size
      · have h1I : (1 : Int) ≤ (s.size : Int) := by omega
        go_wp2_with fail
        go_ret
        refine ⟨ret_b ?_, rfl⟩
        rw [HB.out, decide_eq_true h1, Bool.true_and]
        exact decide_eq_decide.2 (by omega)
      · have h1I : ¬ (1 : Int) ≤ (s.size : Int) := by omega
        go_wp2_with fail
        go_ret
        refine ⟨ret_b ?_, rfl⟩
        rw [HB.out, decide_eq_false h1, Bool.false_and]
theorem push_blk {w w' : World} {rb c : Nat} {st : Ds} {R : Nat → Prop} {a : Option Addr} {lv : Value} {ob : Obj} (h : RP w rb st R a c lv) (hg : (w.alloc ob).grownBy w' lv.ownBlock) : RB w' rb st.room st.fuse (.slice a st.S.length c) lv :=
  ((hg.block rb (by have := h.blk.lt; simp; omega) (fun e => h.ap2 e.symm)).trans (((Below.refl _ w).alloc (Nat.le_refl _) ob).block rb h.blk.lt)).trans h.blk
set_option maxRecDepth 10000000 in
set_option maxHeartbeats 4000000 in
theorem rapp_any (rb : Nat) (st : Ds) (R : Nat → Prop) (s d : ByteArray) (w : World) (h : RK w rb st R) (hI : FI st) (hs : s.size ≤ 1000000000) (hd : d.size ≤ 1000000000) :
    Calls Try.prog 29 #[ptr rb, .string s, .string d] w (DoneR w rb R (appS st s d)) := by
  obtain ⟨a0, c0, lv, h⟩ := h
  have hlt : ∀ j, R j → j < w.heap.size := fun j hj => h.lt j hj
  have HLT := Lib.hid hlt
  have cB := burns_any rb st R a0 c0 lv w h hI
  have HIS : Hid (FI st.spent) := Lib.hid ⟨hI.chain, hI.room, spendF_rng hI.fuse, hI.len⟩
  obtain ⟨i0, hi0, hz0, hz1, hz2⟩ := info_parts infoCall
  have hfin : FineF st.room st.now := hI.chain.last
  have hlen : st.now.length ≤ 64 := hfin.2
  have hll := hI.len
  clear hlt hfin
  unfold ptr at cB ⊢
  by_cases h0 : st.fuse = 0
  · have hr : appS st s d = (60, st.spent) := if_pos h0
    rw [hr]
    have hd : decide (st.fuse ≠ 0) = false := decide_eq_false (by simpa using h0)
    rw [hd] at cB
    clear hr hd h0
    go_enter Try.func29, Try.ntmps29
    go_wp2_with (go_at_call 53; refine cB.mono ?_; rintro e w1 ⟨rfl, hP, hT⟩)
    go_ret
    exact ⟨rfl, ⟨a0, c0, lv, hP.extSelf HLT.out hT.size⟩, hT⟩
  have hd : decide (st.fuse ≠ 0) = true := decide_eq_true h0
  rw [hd] at cB
  have H0 := Lib.hid h0
  clear h0 hd

  have cM := fun w => rname_any s w hs
  cases hn : nameB s
  · have hr : appS st s d = (2, st.spent) := by unfold appS; rw [if_neg H0.out, hn, if_pos rfl]
    rw [hr]
    rw [hn] at cM
    clear hr hn
    go_enter Try.func29, Try.ntmps29
    go_wp2_with (first | (go_at_call 53; refine cB.mono ?_; rintro e w1 ⟨rfl, hP, hT⟩) | (go_at_call 18; refine (cM _).mono ?_; rintro e w1 ⟨rfl, rfl⟩))
    go_ret
    exact ⟨rfl, ⟨a0, c0, lv, hP.extSelf HLT.out hT.size⟩, hT⟩
  rw [hn] at cM
  have HN := Lib.hid hn
  clear hn
  have hnow : st.spent.now = st.now := rfl
  have hroom : st.spent.room = st.room := rfl
  by_cases hbig : st.room - ((sumF st.now : Nat) : Int) < (d.size : Int)
  · have hr : appS st s d = (6, st.spent) := by unfold appS; rw [if_neg H0.out, HN.out, if_neg (by simp), if_pos (.inl hbig)]
    rw [hr]
    clear hr
    have HBIG := Lib.hid hbig
    go_enter Try.func29, Try.ntmps29
    go_wp2_with (first | (go_at_call 53; refine cB.mono ?_; rintro e w1 ⟨rfl, hP, hT⟩) | (go_at_call 18; refine (cM _).mono ?_; rintro e w1 ⟨rfl, rfl⟩) | (go_at_call 36; refine (rnow_any rb st.spent R a0 c0 lv _ hP HIS.out).mono ?_; rintro e w2 ⟨a, c, rfl, hR, _, hb⟩; have hP := hP.below hb; have hT := hT.trans (Turn.below hb)) | (go_at_call 15; refine (rleft_any rb st.spent R a0 c0 lv _ hP HIS.out).mono ?_; rintro e w3 ⟨rfl, hb⟩; have hP := hP.below hb; have hT := hT.trans (Turn.below hb); have hR := hR.below hb; have b2 := hP.blk.cells.2.2.1))
    go_ret
    exact ⟨rfl, ⟨a0, c0, lv, hP.extSelf HLT.out hT.size⟩, hT⟩
  · have hh2 : hasF st.now s = true ∨ hasF st.now s = false := by cases hasF st.now s <;> simp
    rcases hh2 with hh | hh
    · have hr : appS st s d = (0, { st.spent with L := st.L ++ [.app s d] }) := by unfold appS; rw [if_neg H0.out, HN.out, if_neg (by simp), if_neg (by rintro (h1 | h1); exact hbig h1; rw [hh] at h1; cases h1.1)]
      rw [hr]
      obtain ⟨k, p, _, hat0, _, _⟩ := at_is hh
      have hk0 : ¬ (k : Int) < 0 := by omega
      have cF := fun (w' : World) (a : Option Addr) (c : Nat) (h : RowF w' a st.now) => find_any st.now a c s w' h (by omega)
      rw [hat0] at cF
      clear hr hh hat0
      go_enter Try.func29, Try.ntmps29
      go_wp2_with (first | (go_at_call 53; refine cB.mono ?_; rintro e w1 ⟨rfl, hP, hT⟩) | (go_at_call 18; refine (cM _).mono ?_; rintro e w1 ⟨rfl, rfl⟩) | (go_at_call 36; refine (rnow_any rb st.spent R a0 c0 lv _ hP HIS.out).mono ?_; rintro e w2 ⟨a, c, rfl, hR, _, hb⟩; have hP := hP.below hb; have hT := hT.trans (Turn.below hb)) | (go_at_call 15; refine (rleft_any rb st.spent R a0 c0 lv _ hP HIS.out).mono ?_; rintro e w3 ⟨rfl, hb⟩; have hP := hP.below hb; have hT := hT.trans (Turn.below hb); have hR := hR.below hb; have b2 := hP.blk.cells.2.2.1) | (go_at_call 54; refine (cF _ _ _ hR).mono ?_; rintro e w4 ⟨rfl, rfl⟩) | (at_builtin; refine wpList_append_lies _ rfl _ _ _ rfl 0 82 i0 _ 4 48 Try.underlying37 hi0 hz0 hz1 hz2 rfl (by omega) lv st.L.length (st.L.flatMap opC) rfl (World.ownsRow.alloc hP.loose _) ⟨_, 0, none⟩ 1 1 [Value.int .i64 0, Value.string s, Value.string d, Value.int .i64 0] rfl rfl (World.news_of_block (cs := #[Value.int .i64 0, Value.string s, Value.string d, Value.int .i64 0]) (t := 82) (fr := (0, 0)) (heap_alloc_new _ _)) (by simp [Value.oneCell']) (by omega) (by unfold maxLen; omega) (by omega) (Nat.zero_le _) _ (World.size_alloc _ _) ?_; intro g2 cap2 w5 hown hgrow hat hglt; have hblk := push_blk hP hgrow; have k2 := hblk.cells.2.2.1; have kf := hblk.free 2))
      go_ret
      exact ⟨rfl, hP.push HLT.out hT hgrow (OwnL.snoc (op := .app s d) hown) rfl hat hglt⟩
    · have hat0 := at_no hh
      have cF := fun (w' : World) (a : Option Addr) (c : Nat) (h : RowF w' a st.now) => find_any st.now a c s w' h (by omega)
      rw [hat0] at cF
      by_cases h64 : 64 ≤ st.now.length
      · have hr : appS st s d = (6, st.spent) := by unfold appS; rw [if_neg H0.out, HN.out, if_neg (by simp), if_pos (.inr ⟨hh, h64⟩)]
        rw [hr]
        have h64i : (64 : Int) ≤ (st.now.length : Int) := by omega
        clear hr hh hat0 h64
        go_enter Try.func29, Try.ntmps29
        go_wp2_with (first | (go_at_call 53; refine cB.mono ?_; rintro e w1 ⟨rfl, hP, hT⟩) | (go_at_call 18; refine (cM _).mono ?_; rintro e w1 ⟨rfl, rfl⟩) | (go_at_call 36; refine (rnow_any rb st.spent R a0 c0 lv _ hP HIS.out).mono ?_; rintro e w2 ⟨a, c, rfl, hR, _, hb⟩; have hP := hP.below hb; have hT := hT.trans (Turn.below hb)) | (go_at_call 15; refine (rleft_any rb st.spent R a0 c0 lv _ hP HIS.out).mono ?_; rintro e w3 ⟨rfl, hb⟩; have hP := hP.below hb; have hT := hT.trans (Turn.below hb); have hR := hR.below hb; have b2 := hP.blk.cells.2.2.1) | (go_at_call 54; refine (cF _ _ _ hR).mono ?_; rintro e w4 ⟨rfl, rfl⟩))
        go_ret
        exact ⟨rfl, ⟨a0, c0, lv, hP.extSelf HLT.out hT.size⟩, hT⟩
      · have hr : appS st s d = (0, { st.spent with L := st.L ++ [.app s d] }) := by unfold appS; rw [if_neg H0.out, HN.out, if_neg (by simp), if_neg (by rintro (h1 | h1); exact hbig h1; exact h64 h1.2)]
        rw [hr]
        have h64i : ¬ (64 : Int) ≤ (st.now.length : Int) := by omega
        clear hr hh hat0 h64
        go_enter Try.func29, Try.ntmps29
        go_wp2_with (first | (go_at_call 53; refine cB.mono ?_; rintro e w1 ⟨rfl, hP, hT⟩) | (go_at_call 18; refine (cM _).mono ?_; rintro e w1 ⟨rfl, rfl⟩) | (go_at_call 36; refine (rnow_any rb st.spent R a0 c0 lv _ hP HIS.out).mono ?_; rintro e w2 ⟨a, c, rfl, hR, _, hb⟩; have hP := hP.below hb; have hT := hT.trans (Turn.below hb)) | (go_at_call 15; refine (rleft_any rb st.spent R a0 c0 lv _ hP HIS.out).mono ?_; rintro e w3 ⟨rfl, hb⟩; have hP := hP.below hb; have hT := hT.trans (Turn.below hb); have hR := hR.below hb; have b2 := hP.blk.cells.2.2.1) | (go_at_call 54; refine (cF _ _ _ hR).mono ?_; rintro e w4 ⟨rfl, rfl⟩) | (at_builtin; refine wpList_append_lies _ rfl _ _ _ rfl 0 82 i0 _ 4 48 Try.underlying37 hi0 hz0 hz1 hz2 rfl (by omega) lv st.L.length (st.L.flatMap opC) rfl (World.ownsRow.alloc hP.loose _) ⟨_, 0, none⟩ 1 1 [Value.int .i64 0, Value.string s, Value.string d, Value.int .i64 0] rfl rfl (World.news_of_block (cs := #[Value.int .i64 0, Value.string s, Value.string d, Value.int .i64 0]) (t := 82) (fr := (0, 0)) (heap_alloc_new _ _)) (by simp [Value.oneCell']) (by omega) (by unfold maxLen; omega) (by omega) (Nat.zero_le _) _ (World.size_alloc _ _) ?_; intro g2 cap2 w5 hown hgrow hat hglt; have hblk := push_blk hP hgrow; have k2 := hblk.cells.2.2.1; have kf := hblk.free 2))
        go_ret
        exact ⟨rfl, hP.push HLT.out hT hgrow (OwnL.snoc (op := .app s d) hown) rfl hat hglt⟩
end Go.Proofs.Ytlkgfimignlgaaa
