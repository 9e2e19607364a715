/-
  THE DOCUMENT'S OWN DISK: CONTRACT of with. (gen_rwith.py writes it.)
-/
import Derived.Test.YtlkgfimignlgaaaCDiskRg
set_option linter.unusedSimpArgs false
set_option linter.unusedVariables false
set_option linter.unusedVariables false
set_option linter.unusedSimpArgs false
namespace Go.Proofs.Ytlkgfimignlgaaa
open Go.RowKit
theorem toArr (x : ByteArray) : (⟨x.data.toList.toArray⟩ : ByteArray) = x := by cases x; simp
theorem less_lt : ∀ a b : List UInt8, Op.bytesLess a b = decide (a < b)
  | [], [] => by simp [Op.bytesLess]
  | [], _ :: _ => by simp [Op.bytesLess]
  | _ :: _, [] => by simp [Op.bytesLess]
  | x :: r, y :: s => by
    have ih := less_lt r s
    simp only [Op.bytesLess, ih, List.cons_lt_cons_iff]
    by_cases h : x < y
    · simp [h]
    · by_cases e : x = y
      · simp [e]
      · simp [h, e]
theorem grown_bel {B : Nat} {w0 w w' : World} {row : Option Nat} (h : Below B w0 w) (hg : w.grownBy w' row) (hB : B ≤ w.heap.size) (hr : ∀ k, row = some k → B ≤ k) : Below B w0 w' := h.grown hg hB hr
set_option maxRecDepth 10000000 in
set_option maxHeartbeats 4000000 in
theorem with_any (F : Fs) (a : Option Addr) (c : Nat) (s x : ByteArray) (w : World) (h : RowF w a F) (hn : F.length ≤ 1000000) :
    Calls Try.prog 55 #[.slice a F.length c, .agg #[.string s, .string x]] w fun e w' => ∃ v, e = .returned v ∧ OwnF w' w.heap.size v (putF F s x.data.toList) ∧ Below w.heap.size w w' := by
  obtain ⟨i0, hi0, hz0, hz1, hz2⟩ := info_parts infoFile
  have hb0 : Below w.heap.size w (w.alloc (.cells #[.string s, .string x] 64)) := (Below.refl _ _).alloc (Nat.le_refl _) _
  have h0 := h.below hb0
  have q0 := (cellNew w #[.string s, .string x] 64 0).trans (show _ = some (Value.string s) from rfl)
  have q1 := (cellNew w #[.string s, .string x] 64 1).trans (show _ = some (Value.string x) from rfl)
  have hsz : (w.alloc (.cells #[.string s, .string x] 64)).heap.size = w.heap.size + 1 := by simp
  have cW := without_any F a c s _ h0 hn
  rw [hsz] at cW
  clear h h0
  go_enter Try.func55, Try.ntmps55
  go_upto_region 4 with (go_at_call 68; refine cW.mono ?_; rintro e w1 ⟨v, rfl, hO, hb⟩)
  clear cW
  generalize w.alloc (.cells #[.string s, .string x] 64) = wb at *
  have p0 := (hb.cell (p := ⟨w.heap.size, 0, none⟩) (by show w.heap.size < _; omega)).trans q0
  have p1 := (hb.cell (p := ⟨w.heap.size, 1, none⟩) (by show w.heap.size < _; omega)).trans q1
  have hB : Below w.heap.size w w1 := hb0.trans (hb.mono (by omega))
  have hs1 := hb.size
  rw [hsz] at hs1
  have hgl : (delF F s).length ≤ 1000000 := Nat.le_trans (len_delF F s).1 hn
  have HP : Hid (∀ k, k ≤ (delF F s).length → (∀ j q, j < k → (delF F s)[j]? = some q → q.1.toList < s.toList) → (∀ q, (delF F s)[k]? = some q → ¬ q.1.toList < s.toList) → putF F s x.data.toList = (delF F s).take k ++ (s, x.data.toList) :: (delF F s).drop k) := Lib.hid fun k hk h1 h2 => put_at hk h1 h2
  generalize delF F s = G at *
  generalize hT : putF F s x.data.toList = T at *
  have HTT := Lib.hid hT
  clear hT
  obtain ⟨ga, gc, rfl, hgc, hR⟩ := hO.form
  have hgb : ∀ b o, ga = some ⟨b, o, none⟩ → w.heap.size + 1 ≤ b ∧ b < w1.heap.size := fun b o e => World.ownsRow.lt hO b (by rw [e]; rfl)
  have hgo : ∀ b o, ga = some ⟨b, o, none⟩ → o = 0 := fun b o e => by
    rcases hO.2 with ⟨h1, _⟩ | ⟨g, cap, cur, h1, _⟩
    · rw [e] at h1; cases h1
    · rw [e] at h1; cases h1; rfl
  clear hb hb0 q0 q1 hO hsz
  have HR := Lib.hid hR
  have HGB := Lib.hid hgb
  have HGO := Lib.hid hgo
  clear hR hgb hgo
  generalize hB0 : w.heap.size = B0 at *
  have HB0 := Lib.hid hB0
  clear hB0
  have HB := Lib.hid hB
  clear hB
  go_loopw [6] (fun v wr => ∃ k : Nat, v = .int .i64 k ∧ k ≤ G.length ∧ (∀ j q, j < k → G[j]? = some q → q.1.toList < s.toList) ∧ Below w1.heap.size w1 wr) (fun v _ => G.length - (intOf v).toNat)
  case atStart => exact ⟨0, rfl, Nat.zero_le _, fun j q hj => absurd hj (Nat.not_lt_zero j), Below.refl _ _⟩
  case round =>
    obtain ⟨k, rfl, hk, hno, hbw⟩ := hrel
    have HNO := Lib.hid hno
    clear hno
    have c0 := (hbw.cell (p := ⟨B0, 0, none⟩) (by show B0 < _; omega)).trans p0
    have c1 := (hbw.cell (p := ⟨B0, 1, none⟩) (by show B0 < _; omega)).trans p1
    have HRw := Lib.hid (HR.out.below hbw)
    have hk0 : (0 : Int) ≤ (k : Int) := by omega
    have hsw := hbw.size
    by_cases hlt : k < G.length
    · obtain ⟨p, hp⟩ : ∃ p, G[k]? = some p := ⟨_, List.getElem?_eq_getElem hlt⟩
      obtain ⟨b, o, rfl, hlb, r0, r1⟩ := HRw.out k p hp
      obtain rfl := HGO.out b o rfl
      rw [Nat.zero_add] at r0
      have hki : (k : Int) < (G.length : Int) := by omega
      have HPP := Lib.hid hp
      clear hp r1
      by_cases hless : p.1.toList < s.toList
      · have hop : Op.bytesLess p.1.toList s.toList = true := by rw [less_lt]; exact decide_eq_true hless
        have HN2 : Hid (∀ j q, j < k + 1 → G[j]? = some q → q.1.toList < s.toList) := Lib.hid fun j q hj hq => by
          by_cases e : j = k
          · subst e
            rw [HPP.out] at hq
            cases hq
            exact hless
          · exact HNO.out j q (by omega) hq
        clear hless p0 p1
        go_wp2
        go_quiet (fail)
        go_wp2
        go_roundw
        case rel => exact ⟨k + 1, by go_num, by omega, HN2.out, drewN_below hbw _⟩
        case measure => simp [intOf]; omega
      · have hop : Op.bytesLess p.1.toList s.toList = false := by rw [less_lt]; exact decide_eq_false hless
        have hcut := HP.out k hk HNO.out (fun q hq => by rw [HPP.out] at hq; cases hq; exact hless)
        have HC := Lib.hid hcut
        clear hcut
        try clear hless
        go_wp2
        go_quiet (fail)
        rename_i nq
        obtain ⟨wq, hwq⟩ : ∃ wq, wr.drewN nq = wq := ⟨_, rfl⟩
        rw [hwq]
        have hbq : Below w1.heap.size w1 wq := hwq ▸ drewN_below hbw nq
        clear hwq c0 c1
        have c0 := (hbq.cell (p := ⟨B0, 0, none⟩) (by show B0 < _; omega)).trans p0
        have c1 := (hbq.cell (p := ⟨B0, 1, none⟩) (by show B0 < _; omega)).trans p1
        have HRq := Lib.hid (HR.out.below hbq)
        have hsq := hbq.size
        go_upto_region 7 with (at_builtin; refine wpList_append_row rfl _ _ _ rfl B0 64 i0 _ 2 32 Try.underlying36 hi0 hz0 hz1 hz2 rfl (by omega) (.slice none 0 0) 0 [] rfl (World.ownsRow_nil _ _ _ _) _ k _ ((G.take k).flatMap fileC) rfl (by rw [fileC_len, List.length_take]; omega) (rowF_cells (HRq.out.take k)) (fileC_one _) (by unfold maxLen; omega) (by omega) (by omega) ?_; intro v1 w2 hO1 hg1 hv1)
        rw [Nat.zero_add, List.nil_append] at hO1
        have hB2 : Below B0 w w2 := grown_bel (HB.out.trans (hbq.mono (by omega))) hg1 (by omega) (fun k hk => by cases hk)
        have HR2 := Lib.hid (HRq.out.grown hg1 (fun g b o _ e => by cases e))
        have d0 := hg1.cell c0 (by simp [Value.ownBlock])
        have d1 := hg1.cell c1 (by simp [Value.ownBlock])
        have hs2 := hg1.size
        have HV1 := Lib.hid hv1
        clear c0 c1 p0 p1 hg1 hv1
        go_upto_region 8 with (at_builtin; refine wpList_append_lies _ rfl _ _ _ rfl B0 64 i0 _ 2 32 Try.underlying36 hi0 hz0 hz1 hz2 rfl (by omega) v1 k ((G.take k).flatMap fileC) rfl (World.ownsRow.alloc hO1 _) ⟨w2.heap.size, 0, none⟩ 1 1 [.string s, .string x] rfl rfl (World.news_of_block (cs := #[Value.string s, Value.string x]) (t := 64) (fr := (0, 0)) (heap_alloc_new w2 _)) (by simp [Value.oneCell']) (by omega) (by unfold maxLen; omega) (by omega) (by rw [World.size_alloc]; omega) (w2.heap.size + 1) (by simp) ?_; intro g2 cap2 w3 hO2 hg2 hat2 hlt2)
        have hs3 : w2.heap.size + 1 ≤ w3.heap.size := by have := hg2.size; simpa using this
        have hv1b : ∀ g, v1.ownBlock = some g → B0 ≤ g := fun g hg => (World.ownsRow.lt hO1 g hg).1
        have hB3 : Below B0 w w3 := grown_bel (hB2.alloc (by omega) (.cells #[.string s, .string x] 64)) hg2 (by rw [World.size_alloc]; omega) hv1b
        have HR3 := Lib.hid ((HR2.out.below ((Below.refl _ w2).alloc (Nat.le_refl _) (.cells #[.string s, .string x] 64))).grown hg2 (fun g b o e1 e2 => by
          rcases HV1.out g e2 with h | h
          · cases h
          · have := (HGB.out b o e1).2
            omega))
        clear d0 d1 hat2
        go_wp2_with (at_builtin; refine wpList_append_row rfl _ _ _ rfl B0 64 i0 _ 2 32 Try.underlying36 hi0 hz0 hz1 hz2 rfl (by omega) (.slice (some ⟨g2, 0, none⟩) (k + 1) cap2) (k + 1) _ rfl hO2 _ (G.length - k) _ ((G.drop k).flatMap fileC) rfl (by rw [fileC_len, List.length_drop]) (rowF_cells (by have hd := HR3.out.drop k; rw [Nat.zero_add] at hd; exact hd)) (fileC_one _) (by unfold maxLen; omega) (by omega) (by omega) ?_; intro v4 w4 hO3 hg3 hv4)
        go_ret
        have hB4 : Below B0 w w4 := grown_bel hB3 hg3 (by omega) (fun g hg => by cases hg; exact (World.ownsRow.lt hO2 _ rfl).1)
        have hTL : T.length = k + 1 + (G.length - k) := by rw [HC.out, List.length_append, List.length_cons, List.length_take, List.length_drop]; omega
        refine ⟨v4, rfl, ?_, by rw [HB0.out]; exact hB4⟩
        unfold OwnF
        rw [HTT.out, hTL, HB0.out]
        have hcells : T.flatMap fileC = (G.take k).flatMap fileC ++ [.string s, .string x] ++ (G.drop k).flatMap fileC := by rw [HC.out, List.flatMap_append, List.flatMap_cons, List.append_assoc]; unfold fileC; rw [toArr]
        rw [hcells]
        exact hO3
    · have hki : ¬ (k : Int) < (G.length : Int) := by omega
      have hcut := HP.out k hk HNO.out (fun q hq => by have := (List.getElem?_eq_some_iff.1 hq).1; omega)
      by_cases hgk : gc = k
      · have HC := Lib.hid hcut
        clear hcut
        try clear hless
        go_wp2
        go_quiet (fail)
        rename_i nq
        obtain ⟨wq, hwq⟩ : ∃ wq, wr.drewN nq = wq := ⟨_, rfl⟩
        rw [hwq]
        have hbq : Below w1.heap.size w1 wq := hwq ▸ drewN_below hbw nq
        clear hwq c0 c1
        have c0 := (hbq.cell (p := ⟨B0, 0, none⟩) (by show B0 < _; omega)).trans p0
        have c1 := (hbq.cell (p := ⟨B0, 1, none⟩) (by show B0 < _; omega)).trans p1
        have HRq := Lib.hid (HR.out.below hbq)
        have hsq := hbq.size
        go_upto_region 7 with (at_builtin; refine wpList_append_row rfl _ _ _ rfl B0 64 i0 _ 2 32 Try.underlying36 hi0 hz0 hz1 hz2 rfl (by omega) (.slice none 0 0) 0 [] rfl (World.ownsRow_nil _ _ _ _) _ k _ ((G.take k).flatMap fileC) rfl (by rw [fileC_len, List.length_take]; omega) (rowF_cells (HRq.out.take k)) (fileC_one _) (by unfold maxLen; omega) (by omega) (by omega) ?_; intro v1 w2 hO1 hg1 hv1)
        rw [Nat.zero_add, List.nil_append] at hO1
        have hB2 : Below B0 w w2 := grown_bel (HB.out.trans (hbq.mono (by omega))) hg1 (by omega) (fun k hk => by cases hk)
        have HR2 := Lib.hid (HRq.out.grown hg1 (fun g b o _ e => by cases e))
        have d0 := hg1.cell c0 (by simp [Value.ownBlock])
        have d1 := hg1.cell c1 (by simp [Value.ownBlock])
        have hs2 := hg1.size
        have HV1 := Lib.hid hv1
        clear c0 c1 p0 p1 hg1 hv1
        go_upto_region 8 with (at_builtin; refine wpList_append_lies _ rfl _ _ _ rfl B0 64 i0 _ 2 32 Try.underlying36 hi0 hz0 hz1 hz2 rfl (by omega) v1 k ((G.take k).flatMap fileC) rfl (World.ownsRow.alloc hO1 _) ⟨w2.heap.size, 0, none⟩ 1 1 [.string s, .string x] rfl rfl (World.news_of_block (cs := #[Value.string s, Value.string x]) (t := 64) (fr := (0, 0)) (heap_alloc_new w2 _)) (by simp [Value.oneCell']) (by omega) (by unfold maxLen; omega) (by omega) (by rw [World.size_alloc]; omega) (w2.heap.size + 1) (by simp) ?_; intro g2 cap2 w3 hO2 hg2 hat2 hlt2)
        have hs3 : w2.heap.size + 1 ≤ w3.heap.size := by have := hg2.size; simpa using this
        have hv1b : ∀ g, v1.ownBlock = some g → B0 ≤ g := fun g hg => (World.ownsRow.lt hO1 g hg).1
        have hB3 : Below B0 w w3 := grown_bel (hB2.alloc (by omega) (.cells #[.string s, .string x] 64)) hg2 (by rw [World.size_alloc]; omega) hv1b
        have HR3 := Lib.hid ((HR2.out.below ((Below.refl _ w2).alloc (Nat.le_refl _) (.cells #[.string s, .string x] 64))).grown hg2 (fun g b o e1 e2 => by
          rcases HV1.out g e2 with h | h
          · cases h
          · have := (HGB.out b o e1).2
            omega))
        clear d0 d1 hat2
        go_wp2_with (at_builtin; refine wpList_append_row rfl _ _ _ rfl B0 64 i0 _ 2 32 Try.underlying36 hi0 hz0 hz1 hz2 rfl (by omega) (.slice (some ⟨g2, 0, none⟩) (k + 1) cap2) (k + 1) _ rfl hO2 _ (G.length - k) _ ((G.drop k).flatMap fileC) rfl (by rw [fileC_len, List.length_drop]) (fun j u hu => by rw [List.drop_eq_nil_of_le (by omega)] at hu; simp at hu) (fileC_one _) (by unfold maxLen; omega) (by omega) (by omega) ?_; intro v4 w4 hO3 hg3 hv4)
        go_ret
        have hB4 : Below B0 w w4 := grown_bel hB3 hg3 (by omega) (fun g hg => by cases hg; exact (World.ownsRow.lt hO2 _ rfl).1)
        have hTL : T.length = k + 1 + (G.length - k) := by rw [HC.out, List.length_append, List.length_cons, List.length_take, List.length_drop]; omega
        refine ⟨v4, rfl, ?_, by rw [HB0.out]; exact hB4⟩
        unfold OwnF
        rw [HTT.out, hTL, HB0.out]
        have hcells : T.flatMap fileC = (G.take k).flatMap fileC ++ [.string s, .string x] ++ (G.drop k).flatMap fileC := by rw [HC.out, List.flatMap_append, List.flatMap_cons, List.append_assoc]; unfold fileC; rw [toArr]
        rw [hcells]
        exact hO3
      · have HC := Lib.hid hcut
        clear hcut
        try clear hless
        go_wp2
        go_quiet (fail)
        rename_i nq
        obtain ⟨wq, hwq⟩ : ∃ wq, wr.drewN nq = wq := ⟨_, rfl⟩
        rw [hwq]
        have hbq : Below w1.heap.size w1 wq := hwq ▸ drewN_below hbw nq
        clear hwq c0 c1
        have c0 := (hbq.cell (p := ⟨B0, 0, none⟩) (by show B0 < _; omega)).trans p0
        have c1 := (hbq.cell (p := ⟨B0, 1, none⟩) (by show B0 < _; omega)).trans p1
        have HRq := Lib.hid (HR.out.below hbq)
        have hsq := hbq.size
        go_upto_region 7 with (at_builtin; refine wpList_append_row rfl _ _ _ rfl B0 64 i0 _ 2 32 Try.underlying36 hi0 hz0 hz1 hz2 rfl (by omega) (.slice none 0 0) 0 [] rfl (World.ownsRow_nil _ _ _ _) _ k _ ((G.take k).flatMap fileC) rfl (by rw [fileC_len, List.length_take]; omega) (rowF_cells (HRq.out.take k)) (fileC_one _) (by unfold maxLen; omega) (by omega) (by omega) ?_; intro v1 w2 hO1 hg1 hv1)
        rw [Nat.zero_add, List.nil_append] at hO1
        have hB2 : Below B0 w w2 := grown_bel (HB.out.trans (hbq.mono (by omega))) hg1 (by omega) (fun k hk => by cases hk)
        have HR2 := Lib.hid (HRq.out.grown hg1 (fun g b o _ e => by cases e))
        have d0 := hg1.cell c0 (by simp [Value.ownBlock])
        have d1 := hg1.cell c1 (by simp [Value.ownBlock])
        have hs2 := hg1.size
        have HV1 := Lib.hid hv1
        clear c0 c1 p0 p1 hg1 hv1
        go_upto_region 8 with (at_builtin; refine wpList_append_lies _ rfl _ _ _ rfl B0 64 i0 _ 2 32 Try.underlying36 hi0 hz0 hz1 hz2 rfl (by omega) v1 k ((G.take k).flatMap fileC) rfl (World.ownsRow.alloc hO1 _) ⟨w2.heap.size, 0, none⟩ 1 1 [.string s, .string x] rfl rfl (World.news_of_block (cs := #[Value.string s, Value.string x]) (t := 64) (fr := (0, 0)) (heap_alloc_new w2 _)) (by simp [Value.oneCell']) (by omega) (by unfold maxLen; omega) (by omega) (by rw [World.size_alloc]; omega) (w2.heap.size + 1) (by simp) ?_; intro g2 cap2 w3 hO2 hg2 hat2 hlt2)
        have hs3 : w2.heap.size + 1 ≤ w3.heap.size := by have := hg2.size; simpa using this
        have hv1b : ∀ g, v1.ownBlock = some g → B0 ≤ g := fun g hg => (World.ownsRow.lt hO1 g hg).1
        have hB3 : Below B0 w w3 := grown_bel (hB2.alloc (by omega) (.cells #[.string s, .string x] 64)) hg2 (by rw [World.size_alloc]; omega) hv1b
        have HR3 := Lib.hid ((HR2.out.below ((Below.refl _ w2).alloc (Nat.le_refl _) (.cells #[.string s, .string x] 64))).grown hg2 (fun g b o e1 e2 => by
          rcases HV1.out g e2 with h | h
          · cases h
          · have := (HGB.out b o e1).2
            omega))
        clear d0 d1 hat2
        go_wp2_with (at_builtin; refine wpList_append_row rfl _ _ _ rfl B0 64 i0 _ 2 32 Try.underlying36 hi0 hz0 hz1 hz2 rfl (by omega) (.slice (some ⟨g2, 0, none⟩) (k + 1) cap2) (k + 1) _ rfl hO2 _ (G.length - k) _ ((G.drop k).flatMap fileC) rfl (by rw [fileC_len, List.length_drop]) (fun j u hu => by rw [List.drop_eq_nil_of_le (by omega)] at hu; simp at hu) (fileC_one _) (by unfold maxLen; omega) (by omega) (by omega) ?_; intro v4 w4 hO3 hg3 hv4)
        go_ret
        have hB4 : Below B0 w w4 := grown_bel hB3 hg3 (by omega) (fun g hg => by cases hg; exact (World.ownsRow.lt hO2 _ rfl).1)
        have hTL : T.length = k + 1 + (G.length - k) := by rw [HC.out, List.length_append, List.length_cons, List.length_take, List.length_drop]; omega
        refine ⟨v4, rfl, ?_, by rw [HB0.out]; exact hB4⟩
        unfold OwnF
        rw [HTT.out, hTL, HB0.out]
        have hcells : T.flatMap fileC = (G.take k).flatMap fileC ++ [.string s, .string x] ++ (G.drop k).flatMap fileC := by rw [HC.out, List.flatMap_append, List.flatMap_cons, List.append_assoc]; unfold fileC; rw [toArr]
        rw [hcells]
        exact hO3
end Go.Proofs.Ytlkgfimignlgaaa
