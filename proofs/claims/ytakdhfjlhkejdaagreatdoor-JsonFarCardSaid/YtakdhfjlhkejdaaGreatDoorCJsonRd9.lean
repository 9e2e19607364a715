/-
  CONTRACT of codicilref02.Parse.
-/
import Derived.Test.YtakdhfjlhkejdaaGreatDoorCJsonRd8
import Derived.Test.YtakdhfjlhkejdaaGreatDoorCJsonRdB
import Derived.Test.YtakdhfjlhkejdaaGreatDoorN7
import Derived.Test.YtakdhfjlhkejdaaGreatDoorCJsonRRunes
set_option linter.unusedSimpArgs false
set_option linter.unusedVariables false
set_option linter.unusedVariables false
set_option linter.unusedSimpArgs false
namespace Go.Proofs.YtakdhfjlhkejdaaGreatDoor
open Go.RowKit
theorem two_below {w W W2 : World} (hb : Below w.heap.size w W) (hk : KB w.heap.size (w.heap.size + 1) W W2) : Below w.heap.size w W2 :=
  ⟨hk.os.trans hb.os, hk.tape.trans hb.tape, hk.output.trans hb.output, Nat.le_trans hb.size hk.size,
    fun k hlt => (hk.block k (by have := hb.size; omega) (by omega) (by omega)).trans (hb.block k hlt)⟩
theorem gb_below {w W W' : World} {rb : Nat} (hb : Below w.heap.size w W) (g : GB rb W W') (hr : w.heap.size ≤ rb) : Below w.heap.size w W' :=
  ⟨g.os.trans hb.os, g.tape.trans hb.tape, g.output.trans hb.output, Nat.le_trans hb.size g.size, fun k hk => (g.block k (by have := hb.size; omega) (fun e => by have := Option.some.inj e; omega)).trans (hb.block k hk)⟩
theorem rd_long {s : List UInt8} (h : 65536 < s.length) : readP s = .error (0, 4) := by unfold readP; rw [if_pos h]
theorem rd_utf {s : List UInt8} (h : ¬ 65536 < s.length) (h2 : lenF s ≠ s.length) : readP s = .error (lenF s, 24) := by unfold readP; rw [if_neg h, if_pos h2]
theorem rd_val {s : List UInt8} (h : ¬ 65536 < s.length) (h2 : lenF s = s.length) : readP s = match valP (2 * s.length + 2) s 0 0 0 with
    | .error e => .error e
    | .ok (v, i, _) => if skipL s i < s.length then .error (skipL s i, 28) else .ok v := by
  unfold readP; rw [if_neg h, if_neg (by simp [h2])]; rfl
set_option maxRecDepth 10000000 in
set_option maxHeartbeats 8000000 in
theorem refParse_any (s : ByteArray) (w : World) (hs : s.size ≤ 1000000000) :
    Calls Tryz.prog 12 #[.string s] w (ParseEnd w (readP s.data.toList)) := by
  have hs' : s.size ≤ maxLen := by unfold maxLen; omega
  have hlen : s.data.toList.length = s.size := (Lib.size_eq s).symm
  have hb0 : Below w.heap.size w ((w.alloc (.cells #[.int .u8 0, .string ⟨#[]⟩, .slice none 0 0, .slice none 0 0] 26)).alloc (.cells #[.int .i64 0, .int .i64 0] 29)) := ((Below.refl _ w).alloc (Nat.le_refl _) _).alloc (by simp) _
  have hr0 : RB ((w.alloc (.cells #[.int .u8 0, .string ⟨#[]⟩, .slice none 0 0, .slice none 0 0] 26)).alloc (.cells #[.int .i64 0, .int .i64 0] 29)) w.heap.size (.int .u8 0) (.string ⟨#[]⟩) (.slice none 0 0) (.slice none 0 0) := (RB.new w _ _ _ _).alloc _
  have hf0 : FB ((w.alloc (.cells #[.int .u8 0, .string ⟨#[]⟩, .slice none 0 0, .slice none 0 0] 26)).alloc (.cells #[.int .i64 0, .int .i64 0] 29)) (w.heap.size + 1) 0 0 := heap_alloc2_new _ _ _
  have hz0 : ((w.alloc (.cells #[.int .u8 0, .string ⟨#[]⟩, .slice none 0 0, .slice none 0 0] 26)).alloc (.cells #[.int .i64 0, .int .i64 0] 29)).heap.size = w.heap.size + 2 := by rw [World.size_alloc, World.size_alloc]
  go_enter Tryz.func12, Tryz.ntmps12
  go_upto_region 1 with fail
  generalize (w.alloc (.cells #[.int .u8 0, .string ⟨#[]⟩, .slice none 0 0, .slice none 0 0] 26)).alloc (.cells #[.int .i64 0, .int .i64 0] 29) = W at *
  by_cases hbig : 65536 < s.size
  · have hb : (65536 : Int) < (s.size : Nat) := by omega
    have HR : Hid (readP s.data.toList = .error (0, 4)) := Lib.hid (rd_long (by omega))
    generalize readP s.data.toList = R at *
    obtain ⟨x0, x1, x2, x3⟩ := hr0.cells; obtain ⟨z0, z1, z2, z3⟩ := hr0.frozen
    obtain ⟨f0, f1, y0, y1⟩ := hf0.cells
    clear hlen hbig
    go_wp2_with fail
    have hT := told_end W w.heap.size (w.heap.size + 1) (.int .u8 0) (.string ⟨#[]⟩) (.slice none 0 0) (.slice none 0 0) _ _ _ _ 0 0 0 4 hr0 hf0 (by omega)
    obtain ⟨W2, hW2, hr3, hf3, hk⟩ := hT
    rw [← hW2]
    clear hW2 x0 x1 x2 x3 z0 z1 z2 z3 f0 f1 y0 y1
    obtain ⟨x0, x1, x2, x3⟩ := hr3.cells
    obtain ⟨f0, f1, y0, y1⟩ := hf3.cells
    refine bodyPost_ret (v := .tuple #[.agg #[.int .u8 0, .string ⟨#[]⟩, .slice none 0 0, .slice none 0 0], .agg #[.int .i64 0, .int .i64 4]]) ?_ rfl ?_
    · simp [results, Tryz.results12, go_sem, x0, x1, x2, x3, f0, f1]
    · rw [HR.out]; exact ⟨two_below hb0 hk, rfl⟩
  have hbI : ¬ (65536 : Int) < (s.size : Nat) := by omega
  by_cases hv : lenF s.data.toList = s.size
  · have hvb : validB s = true := by unfold validB; rw [hv]; exact beq_self_eq_true _
    have cV := fun w => refValid_any s w hs'
    rw [hvb] at cV
    have HR : Hid (readP s.data.toList = match valP (2 * s.size + 2) s.data.toList 0 0 0 with
      | .error e => .error e
      | .ok (v, i, _) => if skipL s.data.toList i < s.size then .error (skipL s.data.toList i, 28) else .ok v) := Lib.hid (by rw [rd_val (by omega) (by omega), hlen])
    clear hv hvb
    go_upto_region 6 with (go_at_call 32; refine (cV _).mono ?_; rintro e w1 ⟨rfl, hb1⟩)
    have hr1 := hr0.below hb1
    have hf1 : FB w1 (w.heap.size + 1) 0 0 := (hb1.block _ (by omega)).trans hf0
    have hs1 := hb1.size
    have hR1 : RS (w1.alloc (.cells #[.string s, .int .i64 0, .int .i64 0, .int .i64 0, .int .i64 0] 64)) w1.heap.size s 0 0 0 0 := heap_alloc_new w1 (.cells #[.string s, .int .i64 0, .int .i64 0, .int .i64 0, .int .i64 0] 64)
    have hb2 : Below w.heap.size w (w1.alloc (.cells #[.string s, .int .i64 0, .int .i64 0, .int .i64 0, .int .i64 0] 64)) := (hb0.trans (hb1.mono (by omega))).alloc (by omega) _
    have hr2 := hr1.alloc (.cells #[.string s, .int .i64 0, .int .i64 0, .int .i64 0, .int .i64 0] 64)
    have hf2 : FB (w1.alloc (.cells #[.string s, .int .i64 0, .int .i64 0, .int .i64 0, .int .i64 0] 64)) (w.heap.size + 1) 0 0 := (Lib.alloc_old _ _ _ (by omega)).trans hf1
    have hz2 : (w1.alloc (.cells #[.string s, .int .i64 0, .int .i64 0, .int .i64 0, .int .i64 0] 64)).heap.size = w1.heap.size + 1 := World.size_alloc _ _
    generalize w1.alloc (.cells #[.string s, .int .i64 0, .int .i64 0, .int .i64 0, .int .i64 0] 64) = W1 at *
    obtain ⟨rb, hrb⟩ : ∃ rb, rb = w1.heap.size := ⟨_, rfl⟩
    rw [← hrb] at hR1 hz2 hs1 ⊢
    have cW := valR (2 * s.size + 2) rb s 0 0 0 W1 hs hR1 (Nat.zero_le _) (by omega) (by omega) (by omega)
    have hfac := fun x j v' h => (valP_facts (2 * s.size + 2)).1 s.data.toList 0 0 0 x j v' h
    have herr := fun a k h => (valP_err (2 * s.size + 2)).1 s.data.toList 0 0 0 a k h (by omega)
    clear hb0 hr0 hf0 hb1 hr1 hf1 cV hrb
    generalize valP (2 * s.size + 2) s.data.toList 0 0 0 = r at *
    go_upto_region 7 with (go_at_call 34; refine cW.mono ?_; rintro e w3 ⟨g3, x, k, t, a2, n2, p2, a3, n3, p3, rfl, hV, hst⟩)
    have g4 : GB rb W1 (w3.alloc (.cells #[.int .u8 (k : Nat), .string t, .slice a2 n2 p2, .slice a3 n3 p3] 26)) := g3.alloc _
    have hvb : RB (w3.alloc (.cells #[.int .u8 (k : Nat), .string t, .slice a2 n2 p2, .slice a3 n3 p3] 26)) w3.heap.size (.int .u8 (k : Nat)) (.string t) (.slice a2 n2 p2) (.slice a3 n3 p3) := heap_alloc_new w3 (.cells #[.int .u8 (k : Nat), .string t, .slice a2 n2 p2, .slice a3 n3 p3] 26)
    have hs3 := g3.size
    rcases r with ⟨i, f⟩ | ⟨y, j, v'⟩
    · obtain ⟨a', v', h3⟩ := hst
      have hne := herr i f rfl
      have HX : Hid (readP s.data.toList = .error (i, f)) := Lib.hid HR.out
      have h4 := h3.alloc (.cells #[.int .u8 (k : Nat), .string t, .slice a2 n2 p2, .slice a3 n3 p3] 26)
      generalize w3.alloc (.cells #[.int .u8 (k : Nat), .string t, .slice a2 n2 p2, .slice a3 n3 p3] 26) = W3 at *
      have cB := rBlanks_all rb s a' v' i f W3 h4 hs'
      clear HR hfac herr h3 g3 hV
      go_upto_region 8 with (go_at_call 35; refine cB.mono ?_; rintro e w4 ⟨rfl, ⟨a'', h5⟩, g5⟩)
      have g6 := g4.trans g5
      have hr4 := hr2.gb g6 (by omega)
      have hf4 : FB w4 (w.heap.size + 1) 0 0 := (g6.block _ (by omega) (by simp; omega)).trans hf2
      obtain ⟨c0, c1, c2, c3, c4⟩ := h5.cells
      obtain ⟨x0, x1, x2, x3⟩ := hr4.cells; obtain ⟨z0, z1, z2, z3⟩ := hr4.frozen
      obtain ⟨f0, f1, y0, y1⟩ := hf4.cells
      have cO := rOk_any rb s a'' v' i f w4 h5
      rw [decide_eq_false hne] at cO
      clear cB hne h4
      go_upto_region 11 with (go_at_call 36; refine cO.mono ?_; rintro e w5 ⟨rfl, rfl⟩)
      go_region_with fail
      all_goals go_wp2_with fail
      all_goals
        obtain ⟨W2, hW2, hr5, hf5, hk⟩ := told_end w5 w.heap.size (w.heap.size + 1) (.int .u8 0) (.string ⟨#[]⟩) (.slice none 0 0) (.slice none 0 0) _ _ _ _ 0 0 (i : Nat) (f : Nat) hr4 hf4 (by omega)
        rw [← hW2]
        clear hW2 x0 x1 x2 x3 z0 z1 z2 z3 f0 f1 y0 y1
        have hBq := two_below (gb_below hb2 g6 (by omega)) hk
        have hBq2 : Below w.heap.size w W2.drew := hBq.drew
        have hr6 : RB W2.drew w.heap.size (.int .u8 0) (.string ⟨#[]⟩) (.slice none 0 0) (.slice none 0 0) := hr5
        have hf6 : FB W2.drew (w.heap.size + 1) (i : Nat) (f : Nat) := hf5
        generalize W2.drew = W5 at *
        obtain ⟨x0, x1, x2, x3⟩ := hr6.cells
        obtain ⟨f0, f1, y0, y1⟩ := hf6.cells
        refine bodyPost_ret (v := .tuple #[.agg #[.int .u8 0, .string ⟨#[]⟩, .slice none 0 0, .slice none 0 0], .agg #[.int .i64 (i : Nat), .int .i64 (f : Nat)]]) ?_ rfl ?_
        · simp [results, Tryz.results12, go_sem, x0, x1, x2, x3, f0, f1]
        · rw [HX.out]; exact ⟨hBq2, rfl⟩
    · obtain ⟨rfl, h3⟩ := hst
      obtain ⟨hj0, hj1, hj2⟩ := hfac _ _ _ rfl
      have hv' : v' ≤ 4096 := hj2 (by omega)
      rw [hlen] at hj1
      obtain ⟨K, hK⟩ : ∃ K, skipL s.data.toList j = K := ⟨_, rfl⟩
      have hKb := skip_bd s j hj1
      have HX : Hid (readP s.data.toList = if K < s.size then .error (K, 28) else .ok x) := Lib.hid (by rw [HR.out, ← hK])
      have h4 := h3.alloc (.cells #[.int .u8 (k : Nat), .string t, .slice a2 n2 p2, .slice a3 n3 p3] 26)
      have hS4 : ∀ b, b < w3.heap.size → (w3.alloc (.cells #[.int .u8 (k : Nat), .string t, .slice a2 n2 p2, .slice a3 n3 p3] 26)).heap[b]? = w3.heap[b]? := fun b hb => Lib.alloc_old _ _ _ hb
      have hz4 : (w3.alloc (.cells #[.int .u8 (k : Nat), .string t, .slice a2 n2 p2, .slice a3 n3 p3] 26)).heap.size = w3.heap.size + 1 := World.size_alloc _ _
      generalize w3.alloc (.cells #[.int .u8 (k : Nat), .string t, .slice a2 n2 p2, .slice a3 n3 p3] 26) = W3 at *
      have cB := rBlanks_any rb s j v' 0 0 W3 h4 hs' hj1
      rw [hK] at cB hKb
      clear HR hfac herr h3 g3 hj2 hK
      obtain ⟨vb, hvbE⟩ : ∃ vb, vb = w3.heap.size := ⟨_, rfl⟩
      rw [← hvbE] at hvb hz4 hs3 ⊢
      have hvl : w.heap.size + 1 < vb := by omega
      have HVB := Lib.hid hvbE
      clear hvbE
      go_upto_region 8 with (go_at_call 35; refine cB.mono ?_; rintro e w4 ⟨rfl, h5, g5⟩)
      have g6 := g4.trans g5
      have hvb4 := hvb.gb g5 (by omega)
      have hr4 := hr2.gb g6 (by omega)
      have hf4 : FB w4 (w.heap.size + 1) 0 0 := (g6.block _ (by omega) (by simp; omega)).trans hf2
      have cO := rOk_any rb s K v' 0 0 w4 h5
      clear cB h4
      by_cases hKs : K < s.size
      · have HX2 : Hid (readP s.data.toList = .error (K, 28)) := Lib.hid (by rw [HX.out, if_pos hKs])
        have hKI : (K : Int) < (s.size : Int) := by omega
        have cF := fun (w2 : World) (h2 : RS w2 rb s K v' 0 0) => rFail_any rb s K v' 0 K 28 w2 h2
        obtain ⟨c0, c1, c2, c3, c4⟩ := h5.cells
        clear HX
        go_upto_region 10 with (first
          | (go_at_call 36; refine cO.mono ?_; rintro e w5 ⟨rfl, rfl⟩)
          | (go_at_call 37; refine (cF _ h5).mono ?_; rintro e w6 ⟨rfl, h6, g7⟩))
        have g8 := g6.trans g7
        have hr7 := hr4.gb g7 (by omega)
        have hf7 : FB w6 (w.heap.size + 1) 0 0 := (g7.block _ (Array.getElem?_eq_some_iff.1 hf4).1 (by simp; omega)).trans hf4
        clear c0 c1 c2 c3 c4 cO cF
        obtain ⟨c0, c1, c2, c3, c4⟩ := h6.cells
        obtain ⟨x0, x1, x2, x3⟩ := hr7.cells; obtain ⟨z0, z1, z2, z3⟩ := hr7.frozen
        obtain ⟨f0, f1, y0, y1⟩ := hf7.cells
        have cO := rOk_any rb s K v' K 28 w6 h6
        go_upto_region 11 with (go_at_call 36; refine cO.mono ?_; rintro e w7 ⟨rfl, rfl⟩)
        go_region_with fail
        all_goals go_wp2_with fail
        all_goals
          obtain ⟨W2, hW2, hr5, hf5, hk⟩ := told_end w7 w.heap.size (w.heap.size + 1) (.int .u8 0) (.string ⟨#[]⟩) (.slice none 0 0) (.slice none 0 0) _ _ _ _ 0 0 (K : Nat) 28 hr7 hf7 (by omega)
          rw [← hW2]
          clear hW2 x0 x1 x2 x3 z0 z1 z2 z3 f0 f1 y0 y1
          have hBq := two_below (gb_below hb2 g8 (by omega)) hk
          have hBq2 : Below w.heap.size w W2.drew := hBq.drew
          have hr6 : RB W2.drew w.heap.size (.int .u8 0) (.string ⟨#[]⟩) (.slice none 0 0) (.slice none 0 0) := hr5
          have hf6 : FB W2.drew (w.heap.size + 1) (K : Nat) 28 := hf5
          generalize W2.drew = W5 at *
          obtain ⟨x0, x1, x2, x3⟩ := hr6.cells
          obtain ⟨f0, f1, y0, y1⟩ := hf6.cells
          refine bodyPost_ret (v := .tuple #[.agg #[.int .u8 0, .string ⟨#[]⟩, .slice none 0 0, .slice none 0 0], .agg #[.int .i64 (K : Nat), .int .i64 28]]) ?_ rfl ?_
          · simp [results, Tryz.results12, go_sem, x0, x1, x2, x3, f0, f1]
          · rw [HX2.out]; exact ⟨hBq2, rfl⟩
      · have HX2 : Hid (readP s.data.toList = .ok x) := Lib.hid (by rw [HX.out, if_neg hKs])
        have hKI : ¬ (K : Int) < (s.size : Int) := by omega
        obtain ⟨c0, c1, c2, c3, c4⟩ := h5.cells
        obtain ⟨x0, x1, x2, x3⟩ := hr4.cells; obtain ⟨z0, z1, z2, z3⟩ := hr4.frozen
        obtain ⟨f0, f1, y0, y1⟩ := hf4.cells
        obtain ⟨v0, v1, v2, v3⟩ := hvb4.cells
        clear HX
        go_upto_region 12 with (go_at_call 36; refine cO.mono ?_; rintro e w5 ⟨rfl, rfl⟩)
        go_region_with fail
        all_goals go_wp2_with fail
        all_goals
          obtain ⟨W2, hW2, hr5, hf5, hk⟩ := told_end w5 w.heap.size (w.heap.size + 1) (.int .u8 (k : Nat)) (.string t) (.slice a2 n2 p2) (.slice a3 n3 p3) _ _ _ _ 0 0 0 0 hr4 hf4 (by omega)
          rw [← hW2]
          clear hW2 x0 x1 x2 x3 z0 z1 z2 z3 f0 f1 y0 y1
          have hBq := two_below (gb_below hb2 g6 (by omega)) hk
          have hBq2 : Below w.heap.size w W2.drew := hBq.drew
          have hr6 : RB W2.drew w.heap.size (.int .u8 (k : Nat)) (.string t) (.slice a2 n2 p2) (.slice a3 n3 p3) := hr5
          have hf6 : FB W2.drew (w.heap.size + 1) 0 0 := hf5
          have hVq : IsV W2.drew w.heap.size x (.int .u8 (k : Nat)) (.string t) (.slice a2 n2 p2) (.slice a3 n3 p3) := IsV.stays (w := w3) (lo := W1.heap.size) (fun y c hl hy => by
            have hlt := cell_lt hy
            have hvbE := HVB.out
            have e1 : W2.drew.heap[y.block]? = w3.heap[y.block]? := ((hk.block y.block (by have := g5.size; omega) (by omega) (by omega)).trans (g5.block y.block (by omega) (by simp; omega))).trans (hS4 y.block hlt)
            rw [World.cell?_of_block e1]; exact hy) (by omega) _ _ _ _ _ hV
          generalize W2.drew = W5 at *
          obtain ⟨x0, x1, x2, x3⟩ := hr6.cells
          obtain ⟨f0, f1, y0, y1⟩ := hf6.cells
          refine bodyPost_ret (v := .tuple #[.agg #[.int .u8 (k : Nat), .string t, .slice a2 n2 p2, .slice a3 n3 p3], .agg #[.int .i64 0, .int .i64 0]]) ?_ rfl ?_
          · simp [results, Tryz.results12, go_sem, x0, x1, x2, x3, f0, f1]
          · rw [HX2.out]; exact ⟨hBq2, _, _, _, _, rfl, hVq⟩
  · have hvb : validB s = false := by unfold validB; exact beq_false_of_ne hv
    have cV := fun w => refValid_any s w hs'
    rw [hvb] at cV
    have hbi : badI s = (lenF s.data.toList : Nat) := by unfold badI; rw [if_neg hv]
    have cB := fun w => refBad_any s w hs'
    rw [hbi] at cB
    have HR : Hid (readP s.data.toList = .error (lenF s.data.toList, 24)) := Lib.hid (rd_utf (by omega) (by omega))
    generalize readP s.data.toList = R at *
    generalize lenF s.data.toList = n at *
    clear hv hvb hbi hbig hlen
    go_wp2_with (first
      | (go_at_call 32; refine (cV _).mono ?_; rintro e w1 ⟨rfl, hb1⟩)
      | (go_at_call 33; refine (cB _).mono ?_; rintro e w2 ⟨rfl, hb2⟩; have hb3 := hb1.trans (hb2.mono hb1.size); have hr2 := hr0.below hb3; have hf2 : FB w2 (w.heap.size + 1) 0 0 := (hb3.block _ (by omega)).trans hf0; obtain ⟨x0, x1, x2, x3⟩ := hr2.cells; obtain ⟨z0, z1, z2, z3⟩ := hr2.frozen; obtain ⟨f0, f1, y0, y1⟩ := hf2.cells))
    have hT := told_end w2 w.heap.size (w.heap.size + 1) (.int .u8 0) (.string ⟨#[]⟩) (.slice none 0 0) (.slice none 0 0) _ _ _ _ 0 0 n 24 hr2 hf2 (by omega)
    obtain ⟨W2, hW2, hr3, hf3, hk⟩ := hT
    rw [← hW2]
    clear hW2 x0 x1 x2 x3 z0 z1 z2 z3 f0 f1 y0 y1
    obtain ⟨x0, x1, x2, x3⟩ := hr3.cells
    obtain ⟨f0, f1, y0, y1⟩ := hf3.cells
    refine bodyPost_ret (v := .tuple #[.agg #[.int .u8 0, .string ⟨#[]⟩, .slice none 0 0, .slice none 0 0], .agg #[.int .i64 n, .int .i64 24]]) ?_ rfl ?_
    · simp [results, Tryz.results12, go_sem, x0, x1, x2, x3, f0, f1]
    · rw [HR.out]; exact ⟨two_below (hb0.trans (hb3.mono hb0.size)) hk, rfl⟩
end Go.Proofs.YtakdhfjlhkejdaaGreatDoor
