/-
  CONTRACT of codicilref02's Reader: array, given value. (gen_rd6.py writes it.)
-/
import Derived.Test.YtakdhfjlhkejdaaGreatDoorCJsonRdQ
import Derived.Deep.AppendLies
set_option linter.unusedSimpArgs false
set_option linter.unusedVariables false
set_option linter.unusedVariables false
set_option linter.unusedSimpArgs false
namespace Go.Proofs.YtakdhfjlhkejdaaGreatDoor
open Go.RowKit
/-- what value, array, object come to -/
def VEnd (rb : Nat) (s : ByteArray) (w0 : World) (r : Except Fail (JV × Nat × Nat)) (e : Ending) (w' : World) : Prop :=
  GB rb w0 w' ∧ ∃ x k t a2 n2 p2 a3 n3 p3, e = .returned (.agg #[.int .u8 (k : Nat), .string t, .slice a2 n2 p2, .slice a3 n3 p3]) ∧ IsV w' w0.heap.size x (.int .u8 (k : Nat)) (.string t) (.slice a2 n2 p2) (.slice a3 n3 p3) ∧
    match r with
    | .ok (y, j, v') => x = y ∧ RS w' rb s j v' 0 0
    | .error (i, f) => ∃ a' v', RS w' rb s a' v' i f
/-- value's contract at a fuel -/
def ValR (n : Nat) : Prop := ∀ (rb : Nat) (s : ByteArray) (a v o : Nat) (w : World), s.size ≤ 1000000000 → RS w rb s a v 0 0 → a ≤ s.size → v ≤ 4096 → o ≤ 48 → 2 * (s.size - a) + 1 ≤ n →
  Calls Tryz.prog 34 #[.pointer (some ⟨rb, 0, none⟩), .int .i64 (o : Nat)] w (VEnd rb s w (valP n s.data.toList a v o))
def arrE (r : Except Fail (List JV × Nat × Nat)) : Except Fail (JV × Nat × Nat) := match r with
  | .error e => .error e
  | .ok (l, j, v) => .ok (.mk 6 noText [] l, j, v)
def arrR (n : Nat) (s : List UInt8) (i v o : Nat) : Except Fail (JV × Nat × Nat) := match byL s (skipL s i) with
  | none => .error (skipL s i, 21)
  | some d => if d = 93 then .ok (.mk 6 noText [] [], skipL s i + 1, v) else arrE (itemsP n s (skipL s i) v o [])
theorem RS.on {w w' : World} {rb : Nat} {s : ByteArray} {a v fa fe : Nat} (h : RS w rb s a v fa fe) (e : w'.heap[rb]? = w.heap[rb]?) : RS w' rb s a v fa fe := e.trans h
theorem items_err {m : Nat} {s : List UInt8} {i v o : Nat} {acc : List JV} {e : Fail} (h : valP m s i v o = .error e) : itemsP (m + 1) s i v o acc = .error e := by rw [itemsP, h]
theorem items_ok {m : Nat} {s : List UInt8} {i v o : Nat} {acc : List JV} {x : JV} {i1 v1 : Nat} (h : valP m s i v o = .ok (x, i1, v1)) : itemsP (m + 1) s i v o acc = match byL s (skipL s i1) with
      | none => .error (skipL s i1, 21)
      | some c => if c = 44 then itemsP m s (skipL s i1 + 1) v1 o (acc ++ [x]) else if c = 93 then .ok (acc ++ [x], skipL s i1 + 1, v1) else .error (skipL s i1, 20) := by
  rw [itemsP]
  simp only [h]
  cases byL s (skipL s i1) <;> rfl
set_option maxRecDepth 10000000 in
set_option maxHeartbeats 16000000 in
theorem rArray_any (n : Nat) (IH : ∀ m, m < n → ValR m) (rb : Nat) (s : ByteArray) (a v o : Nat) (w : World) (hs : s.size ≤ 1000000000) (h : RS w rb s a v 0 0) (ha : a ≤ s.size) (hv : v ≤ 4096) (ho : o ≤ 48) (hn : 2 * (s.size - a) + 2 ≤ n) :
    Calls Tryz.prog 70 #[.pointer (some ⟨rb, 0, none⟩), .int .i64 (o : Nat)] w (VEnd rb s w (arrR n s.data.toList a v o)) := by
  have hs' : s.size ≤ maxLen := by unfold maxLen; omega
  obtain ⟨i0, hi0, hz0, hz1, hz2⟩ := info_parts infoValue
  obtain ⟨K, hK⟩ : ∃ K, skipL s.data.toList a = K := ⟨_, rfl⟩
  have hKb := skip_bd s a ha
  rw [hK] at hKb
  have hrl := h.lt
  have hz2' : ((w.alloc (.cells #[.int .u8 0, .string ⟨#[]⟩, .slice none 0 0, .slice none 0 0] 26)).alloc (.cells #[.int .u8 6, .string ⟨#[]⟩, .slice none 0 0, .slice none 0 0] 26)).heap.size = w.heap.size + 2 := by simp
  have hb0 : Below w.heap.size w ((w.alloc (.cells #[.int .u8 0, .string ⟨#[]⟩, .slice none 0 0, .slice none 0 0] 26)).alloc (.cells #[.int .u8 6, .string ⟨#[]⟩, .slice none 0 0, .slice none 0 0] 26)) := ((Below.refl _ w).alloc (Nat.le_refl _) _).alloc (by simp) _
  have hA0 : AQ w rb 6 ((w.alloc (.cells #[.int .u8 0, .string ⟨#[]⟩, .slice none 0 0, .slice none 0 0] 26)).alloc (.cells #[.int .u8 6, .string ⟨#[]⟩, .slice none 0 0, .slice none 0 0] 26)) [] (.slice none 0 0) [] (.slice none 0 0) [] :=
    ⟨heap_alloc2_old w (.cells #[.int .u8 0, .string ⟨#[]⟩, .slice none 0 0, .slice none 0 0] 26) (.cells #[.int .u8 6, .string ⟨#[]⟩, .slice none 0 0, .slice none 0 0] 26), heap_alloc2_new w (.cells #[.int .u8 0, .string ⟨#[]⟩, .slice none 0 0, .slice none 0 0] 26) (.cells #[.int .u8 6, .string ⟨#[]⟩, .slice none 0 0, .slice none 0 0] 26), ⟨rfl, .inl ⟨rfl, rfl⟩⟩, ⟨rfl, .inl ⟨rfl, rfl⟩⟩, fun g hg => by simp [Value.ownBlock] at hg, ItemsOK.nil _ _, Below.gb hb0 rb, hrl⟩
  have hR0 : RS ((w.alloc (.cells #[.int .u8 0, .string ⟨#[]⟩, .slice none 0 0, .slice none 0 0] 26)).alloc (.cells #[.int .u8 6, .string ⟨#[]⟩, .slice none 0 0, .slice none 0 0] 26)) rb s a v 0 0 := h.below hb0
  obtain ⟨X, hX⟩ : ∃ X, X = arrR n s.data.toList a v o := ⟨_, rfl⟩
  rw [← hX]
  unfold arrR at hX
  rw [hK] at hX
  go_enter Tryz.func70, Tryz.ntmps70
  go_upto_region 2 with fail
  generalize (w.alloc (.cells #[.int .u8 0, .string ⟨#[]⟩, .slice none 0 0, .slice none 0 0] 26)).alloc (.cells #[.int .u8 6, .string ⟨#[]⟩, .slice none 0 0, .slice none 0 0] 26) = W at *
  by_cases hlt : K < s.size
  · obtain ⟨x, hx⟩ : ∃ x : Int, x = ((s[K].toNat : Nat) : Int) := ⟨_, rfl⟩
    have cH := rHere_some rb s a v K x W hR0 hs' ha hK hlt hx
    rw [show byL s.data.toList K = some s[K] from byL_at s K hlt] at hX
    simp only at hX
    by_cases h93 : x = 93
    · rw [if_pos (UInt8.toNat_inj.1 (show s[K].toNat = (93 : UInt8).toNat by show s[K].toNat = 93; omega))] at hX
      have HX := Lib.hid hX
      subst h93
      clear hX hx hK
      go_upto_region 4 with (go_at_call 66; refine cH.mono ?_; rintro e w1 ⟨rfl, h1, g1⟩; obtain ⟨c0, c1, c2, c3, c4⟩ := h1.cells; have f1 := h1.frozen 1)
      have hA1 := hA0.go (g1.set 1 (.int .i64 ((K : Int) + 1)))
      have h2 : RS (w1.setCell ⟨rb, 1, none⟩ (.int .i64 ((K : Int) + 1))) rb s (K + 1) v 0 0 := h1.s1 (K + 1)
      clear c0 c1 c2 c3 c4 f1 g1 h1 hA0 hR0 cH
      generalize w1.setCell ⟨rb, 1, none⟩ (.int .i64 ((K : Int) + 1)) = W1 at *
      obtain ⟨r0, r1, r2, r3⟩ := hA1.res.cells
      obtain ⟨u0, u1, u2, u3⟩ := hA1.res.frozen
      obtain ⟨y0, y1, y2, y3⟩ := hA1.new.cells
      go_wp2_with fail
      have hRBq := hA1.res.set4 (.int .u8 6) (.string ⟨#[]⟩) (.slice none 0 0) (.slice none 0 0)
      have hVq := hA1.done (w' := (((((W1).setCell ⟨w.heap.size, 0, none⟩ (.int .u8 6)).setCell ⟨w.heap.size, 1, none⟩ (.string ⟨#[]⟩)).setCell ⟨w.heap.size, 2, none⟩ (.slice none 0 0)).setCell ⟨w.heap.size, 3, none⟩ (.slice none 0 0))) (fun j hj => set4_heap W1 _ _ _ _ _ _ _ _ _ j hj)
      have hGq : GB rb w (((((W1).setCell ⟨w.heap.size, 0, none⟩ (.int .u8 6)).setCell ⟨w.heap.size, 1, none⟩ (.string ⟨#[]⟩)).setCell ⟨w.heap.size, 2, none⟩ (.slice none 0 0)).setCell ⟨w.heap.size, 3, none⟩ (.slice none 0 0)) := hA1.gb.set4 (Nat.le_refl _) _ _ _ _
      have hRq : RS (((((W1).setCell ⟨w.heap.size, 0, none⟩ (.int .u8 6)).setCell ⟨w.heap.size, 1, none⟩ (.string ⟨#[]⟩)).setCell ⟨w.heap.size, 2, none⟩ (.slice none 0 0)).setCell ⟨w.heap.size, 3, none⟩ (.slice none 0 0)) rb s (K + 1) v 0 0 := (set4_heap W1 _ _ _ _ _ _ _ _ _ rb (by have := hA1.lt; omega)).trans h2
      clear hA1
      generalize (((((W1).setCell ⟨w.heap.size, 0, none⟩ (.int .u8 6)).setCell ⟨w.heap.size, 1, none⟩ (.string ⟨#[]⟩)).setCell ⟨w.heap.size, 2, none⟩ (.slice none 0 0)).setCell ⟨w.heap.size, 3, none⟩ (.slice none 0 0)) = wE at *
      obtain ⟨z0, z1, z2, z3⟩ := hRBq.cells
      refine bodyPost_ret (v := .agg #[.int .u8 6, .string ⟨#[]⟩, .slice none 0 0, .slice none 0 0]) ?_ rfl ?_
      · simp [results, Tryz.results70, go_sem, z0, z1, z2, z3]
      · rw [HX.out]; exact ⟨hGq, _, _, _, _, _, _, _, _, _, rfl, hVq, rfl, hRq⟩
    · have HC : Hid (¬ s[K] = 93) := Lib.hid (fun e => h93 (by rw [hx, e]; rfl))
      rw [if_neg HC.out] at hX
      have HX := Lib.hid hX
      have b93 : (x == 93) = false := beq_false_of_ne h93
      clear hX hx hK h93
      go_upto_region 5 with (go_at_call 66; refine cH.mono ?_; rintro e w1 ⟨rfl, h1, g1⟩; have hA1 := hA0.go g1)
      go_loopg [] (s.size + 1) (fun q wr => ∃ (i m vv : Nat) (l : List JV) (la : Option Addr) (lc : Nat) (xs : List Value), i ≤ s.size ∧ l.length ≤ i ∧ s.size + 1 ≤ i + q ∧ m < n ∧ 2 * (s.size - i) + 1 ≤ m ∧ X = arrE (itemsP (m + 1) s.data.toList i vv o l) ∧ vv ≤ 4096 ∧ AQ w rb 6 wr [] (.slice none 0 0) l (.slice la l.length lc) xs ∧ RS wr rb s i vv 0 0)
      case atStart => exact ⟨K, n - 1, v, [], none, 0, [], hKb.2, Nat.zero_le _, by omega, by omega, by omega, by rw [show n - 1 + 1 = n by omega]; exact HX.out, hv, hA1, h1⟩
      case round =>
        obtain ⟨i, m, vv, l, la, lc, xs, hi, hli, hq, hm, hfu, hXX, hvv, hA, hR⟩ := hrel
        clear hA0 hR0 hA1 h1 g1 HX HC cH b93
        have HX := Lib.hid hXX
        clear hXX
        have cO := rOk_any rb s i vv 0 0 _ hR
        have cV := IH m hm rb s i vv o _ hs hR hi hvv ho hfu
        have hfacts := fun y i1 v1 => (valP_facts m).1 s.data.toList i vv o y i1 v1
        generalize hr : valP m s.data.toList i vv o = r at cV hfacts
        have HR := Lib.hid hr
        have HF := Lib.hid hfacts
        clear hr hfacts
        go_upto_region 7 with (first
          | (go_at_call 36; refine cO.mono ?_; rintro e w1 ⟨rfl, rfl⟩)
          | (go_at_call 34; refine cV.mono ?_; rintro e w2 ⟨hg2, x, k1, t1, qa, ql, qc, ra, rl, rc, rfl, hV2, hst⟩))
        have hs12 := hg2.size
        have hAs := hA.size
        have hn3 : (w2.alloc (.cells #[.int .u8 (k1 : Nat), .string t1, .slice qa ql qc, .slice ra rl rc] 26)).heap.size = w2.heap.size + 1 := by simp
        have hB3 : RB (w2.alloc (.cells #[.int .u8 (k1 : Nat), .string t1, .slice qa ql qc, .slice ra rl rc] 26)) w2.heap.size (.int .u8 (k1 : Nat)) (.string t1) (.slice qa ql qc) (.slice ra rl rc) := RB.new w2 _ _ _ _
        have h23 : Below w2.heap.size w2 (w2.alloc (.cells #[.int .u8 (k1 : Nat), .string t1, .slice qa ql qc, .slice ra rl rc] 26)) := (Below.refl _ _).alloc (Nat.le_refl _) _
        have hg3 : GB rb w1 (w2.alloc (.cells #[.int .u8 (k1 : Nat), .string t1, .slice qa ql qc, .slice ra rl rc] 26)) := hg2.belowB (h23.mono hs12)
        have hV3 := IsV.stays (Below.stays h23 w1.heap.size) (Nat.le_refl _) _ _ _ _ _ hV2
        have hA3 := hA.go hg3
        have hrb3 : (w2.alloc (.cells #[.int .u8 (k1 : Nat), .string t1, .slice qa ql qc, .slice ra rl rc] 26)).heap[rb]? = w2.heap[rb]? := h23.block rb (by omega)
        clear h23 hV2 hg2
        generalize w2.alloc (.cells #[.int .u8 (k1 : Nat), .string t1, .slice qa ql qc, .slice ra rl rc] 26) = W3 at *
        generalize w2.heap.size = n3 at *
        have hn3a : n3 < W3.heap.size := by omega
        clear hn3
        obtain ⟨b0, b1, b2, b3⟩ := hB3.cells
        obtain ⟨y0, y1, y2, y3⟩ := hA3.new.cells
        have hone : ∀ u ∈ [Value.int .u8 (k1 : Nat), .string t1, .slice qa ql qc, .slice ra rl rc], u.oneCell' = true := by intro u hu; simp only [List.mem_cons, List.not_mem_nil, or_false] at hu; rcases hu with rfl | rfl | rfl | rfl <;> rfl
        have hN := heap_alloc_new W3 (.cells #[.int .u8 (k1 : Nat), .string t1, .slice qa ql qc, .slice ra rl rc] 26)
        have hrow : Below W3.heap.size W3 (W3.alloc (.cells #[.int .u8 (k1 : Nat), .string t1, .slice qa ql qc, .slice ra rl rc] 26)) := (Below.refl _ _).alloc (Nat.le_refl _) _
        have hown3 := (hA3.go (Below.gb hrow rb)).own
        have hrs : (W3.alloc (.cells #[.int .u8 (k1 : Nat), .string t1, .slice qa ql qc, .slice ra rl rc] 26)).heap.size = W3.heap.size + 1 := by simp
        have hlo := hA3.own.lt
        go_upto_region 8 with (at_builtin; refine wpList_append_lies _ rfl _ _ _ rfl (w.heap.size + 2) 26 i0 _ 4 72 Tryz.underlying24 hi0 hz0 hz1 hz2 rfl (by omega) (.slice la l.length lc) l.length xs (by rfl) hown3 ⟨W3.heap.size, 0, none⟩ 1 1 [.int .u8 (k1 : Nat), .string t1, .slice qa ql qc, .slice ra rl rc] (by rfl) (by rfl) (World.news_of_block hN) hone (by omega) (by unfold maxLen; omega) (by omega) (by omega) _ rfl ?_; intro g cap2 w4 hown4 hgrow hat hglt; have hR4 : RB w4 (w.heap.size + 1) (.int .u8 (6 : Nat)) (.string ⟨#[]⟩) (.slice none 0 0) (.slice la l.length lc) := ((hgrow.block _ (by omega) (fun e => by have := (hlo _ e.symm).1; omega)).trans (hrow.block _ (by omega))).trans hA3.new; obtain ⟨_, _, _, v3⟩ := hR4.cells; obtain ⟨_, _, _, f3⟩ := hR4.frozen)
        have hA5 := hA.item hg3 hV3 hrow hgrow hat hown4
        have hrb5 : (w4.setCell ⟨w.heap.size + 1, 3, none⟩ (.slice (some ⟨g, 0, none⟩) (l.length + 1) cap2)).heap[rb]? = w2.heap[rb]? := (Below.heap_setCell _ _ _ _ (by show rb ≠ w.heap.size + 1; omega)).trans (((hgrow.block rb (by omega) (fun e => by have := (hlo _ e.symm).1; omega)).trans (hrow.block rb (by omega))).trans hrb3)
        clear hgrow hat hown4 hR4 v3 f3 hown3 hrow hN hB3 hV3 hA3 hA hR b0 b1 b2 b3 y0 y1 y2 y3 hglt hlo
        generalize w4.setCell ⟨w.heap.size + 1, 3, none⟩ (.slice (some ⟨g, 0, none⟩) (l.length + 1) cap2) = W5 at *
        rcases r with ⟨i', f⟩ | ⟨y, i1, v1⟩
        · obtain ⟨a', v', hRe⟩ := hst
          have hR5 := hRe.on hrb5
          have hfe : f ≠ 0 := (valP_err m).1 _ _ _ _ _ _ HR.out (by rw [← Lib.size_eq]; omega)
          have HXe : Hid (X = .error (i', f)) := Lib.hid (by rw [HX.out, items_err HR.out]; rfl)
          have cO := rOk_any rb s a' v' i' f _ hR5
          rw [decide_eq_false hfe] at cO
          clear hfe
          obtain ⟨r0, r1, r2, r3⟩ := hA5.res.cells
          obtain ⟨u0, u1, u2, u3⟩ := hA5.res.frozen
          obtain ⟨y0, y1, y2, y3⟩ := hA5.new.cells
          go_wp2_with (go_at_call 36; refine cO.mono ?_; rintro e w6 ⟨rfl, rfl⟩)
          have hRBq := hA5.res.set4 (.int .u8 6) (.string ⟨#[]⟩) (.slice none 0 0) (.slice (some ⟨g, 0, none⟩) (l.length + 1) cap2)
          have hVq := hA5.done (w' := (((((w6).setCell ⟨w.heap.size, 0, none⟩ (.int .u8 6)).setCell ⟨w.heap.size, 1, none⟩ (.string ⟨#[]⟩)).setCell ⟨w.heap.size, 2, none⟩ (.slice none 0 0)).setCell ⟨w.heap.size, 3, none⟩ (.slice (some ⟨g, 0, none⟩) (l.length + 1) cap2))) (fun j hj => set4_heap w6 _ _ _ _ _ _ _ _ _ j hj)
          have hGq : GB rb w (((((w6).setCell ⟨w.heap.size, 0, none⟩ (.int .u8 6)).setCell ⟨w.heap.size, 1, none⟩ (.string ⟨#[]⟩)).setCell ⟨w.heap.size, 2, none⟩ (.slice none 0 0)).setCell ⟨w.heap.size, 3, none⟩ (.slice (some ⟨g, 0, none⟩) (l.length + 1) cap2)) := hA5.gb.set4 (Nat.le_refl _) _ _ _ _
          have hRq : RS (((((w6).setCell ⟨w.heap.size, 0, none⟩ (.int .u8 6)).setCell ⟨w.heap.size, 1, none⟩ (.string ⟨#[]⟩)).setCell ⟨w.heap.size, 2, none⟩ (.slice none 0 0)).setCell ⟨w.heap.size, 3, none⟩ (.slice (some ⟨g, 0, none⟩) (l.length + 1) cap2)) rb s a' v' i' f := (set4_heap w6 _ _ _ _ _ _ _ _ _ rb (by have := hA5.lt; omega)).trans hR5
          clear hA5
          generalize (((((w6).setCell ⟨w.heap.size, 0, none⟩ (.int .u8 6)).setCell ⟨w.heap.size, 1, none⟩ (.string ⟨#[]⟩)).setCell ⟨w.heap.size, 2, none⟩ (.slice none 0 0)).setCell ⟨w.heap.size, 3, none⟩ (.slice (some ⟨g, 0, none⟩) (l.length + 1) cap2)) = wE at *
          obtain ⟨z0, z1, z2, z3⟩ := hRBq.cells
          refine bodyPost_ret (v := .agg #[.int .u8 6, .string ⟨#[]⟩, .slice none 0 0, .slice (some ⟨g, 0, none⟩) (l.length + 1) cap2]) ?_ rfl ?_
          · simp [results, Tryz.results70, go_sem, z0, z1, z2, z3]
          · rw [HXe.out]; exact ⟨hGq, _, _, _, _, _, _, _, _, _, rfl, hVq, _, _, hRq⟩
        · obtain ⟨rfl, hRe⟩ := hst
          have hR5 := hRe.on hrb5
          have hf := HF.out _ _ _ rfl
          rw [← Lib.size_eq] at hf
          have hv1 : v1 ≤ 4096 := hf.2.2 hvv
          have hi1 : i1 ≤ s.size := hf.2.1
          have hi1' : i < i1 := hf.1
          have cO := rOk_any rb s i1 v1 0 0 _ hR5
          have cG := rGoes_any rb s i1 v1 93 _ hR5 hs' hi1 (.inl rfl)
          have HX2 := Lib.hid (HX.out.trans (by rw [items_ok HR.out]) : X = arrE (match byL s.data.toList (skipL s.data.toList i1) with
            | none => .error (skipL s.data.toList i1, 21)
            | some c => if c = 44 then itemsP m s.data.toList (skipL s.data.toList i1 + 1) v1 o (l ++ [x]) else if c = 93 then .ok (l ++ [x], skipL s.data.toList i1 + 1, v1) else .error (skipL s.data.toList i1, 20)))
          have hKb1 := skip_bd s i1 hi1
          generalize skipL s.data.toList i1 = K1 at *
          unfold GoesEnd at cG
          clear hf HX HR HF
          have hlen : (l ++ [x]).length = l.length + 1 := by rw [List.length_append]; rfl
          cases hby : byL s.data.toList K1 with
          | none =>
            rw [hby] at cG HX2
            have HX3 : Hid (X = .error (K1, 21)) := HX2
            clear HX2 hby
            simp only at cG
            go_wp2_with (first
              | (go_at_call 36; refine cO.mono ?_; rintro e w6 ⟨rfl, rfl⟩)
              | (go_at_call 101; refine cG.mono ?_; rintro e w7 ⟨⟨rfl, h7⟩, g7⟩; have hA7 := hA5.go g7; obtain ⟨r0, r1, r2, r3⟩ := hA7.res.cells; obtain ⟨u0, u1, u2, u3⟩ := hA7.res.frozen; obtain ⟨y0, y1, y2, y3⟩ := hA7.new.cells))
            have hRBq := hA7.res.set4 (.int .u8 6) (.string ⟨#[]⟩) (.slice none 0 0) (.slice (some ⟨g, 0, none⟩) (l.length + 1) cap2)
            have hVq := hA7.done (w' := (((((w7).setCell ⟨w.heap.size, 0, none⟩ (.int .u8 6)).setCell ⟨w.heap.size, 1, none⟩ (.string ⟨#[]⟩)).setCell ⟨w.heap.size, 2, none⟩ (.slice none 0 0)).setCell ⟨w.heap.size, 3, none⟩ (.slice (some ⟨g, 0, none⟩) (l.length + 1) cap2))) (fun j hj => set4_heap w7 _ _ _ _ _ _ _ _ _ j hj)
            have hGq : GB rb w (((((w7).setCell ⟨w.heap.size, 0, none⟩ (.int .u8 6)).setCell ⟨w.heap.size, 1, none⟩ (.string ⟨#[]⟩)).setCell ⟨w.heap.size, 2, none⟩ (.slice none 0 0)).setCell ⟨w.heap.size, 3, none⟩ (.slice (some ⟨g, 0, none⟩) (l.length + 1) cap2)) := hA7.gb.set4 (Nat.le_refl _) _ _ _ _
            have hRq : RS (((((w7).setCell ⟨w.heap.size, 0, none⟩ (.int .u8 6)).setCell ⟨w.heap.size, 1, none⟩ (.string ⟨#[]⟩)).setCell ⟨w.heap.size, 2, none⟩ (.slice none 0 0)).setCell ⟨w.heap.size, 3, none⟩ (.slice (some ⟨g, 0, none⟩) (l.length + 1) cap2)) rb s K1 v1 K1 21 := (set4_heap w7 _ _ _ _ _ _ _ _ _ rb (by have := hA7.lt; omega)).trans h7
            clear hA7
            generalize (((((w7).setCell ⟨w.heap.size, 0, none⟩ (.int .u8 6)).setCell ⟨w.heap.size, 1, none⟩ (.string ⟨#[]⟩)).setCell ⟨w.heap.size, 2, none⟩ (.slice none 0 0)).setCell ⟨w.heap.size, 3, none⟩ (.slice (some ⟨g, 0, none⟩) (l.length + 1) cap2)) = wE at *
            obtain ⟨z0, z1, z2, z3⟩ := hRBq.cells
            refine bodyPost_ret (v := .agg #[.int .u8 6, .string ⟨#[]⟩, .slice none 0 0, .slice (some ⟨g, 0, none⟩) (l.length + 1) cap2]) ?_ rfl ?_
            · simp [results, Tryz.results70, go_sem, z0, z1, z2, z3]
            · rw [HX3.out]; exact ⟨hGq, _, _, _, _, _, _, _, _, _, rfl, hVq, _, _, hRq⟩
          | some c =>
            have hK1 : K1 < s.size := byL_lt hby
            rw [hby] at cG HX2
            clear hby
            simp only at cG HX2
            by_cases h44 : c = 44
            · subst h44
              rw [if_pos rfl] at HX2
              simp only [if_pos (show UInt8.toNat 44 = 44 from rfl)] at cG
              go_wp2_with (first
                | (go_at_call 36; refine cO.mono ?_; rintro e w6 ⟨rfl, rfl⟩)
                | (go_at_call 101; refine cG.mono ?_; rintro e w7 ⟨⟨rfl, h7⟩, g7⟩; have hA7 := hA5.go g7; obtain ⟨r0, r1, r2, r3⟩ := hA7.res.cells; obtain ⟨u0, u1, u2, u3⟩ := hA7.res.frozen; obtain ⟨y0, y1, y2, y3⟩ := hA7.new.cells))
              go_roundg (gk - 1)
              case measure => omega
              case rel => exact ⟨K1 + 1, m - 1, v1, l ++ [x], some ⟨g, 0, none⟩, cap2, _, by omega, by omega, by omega, by omega, by omega, by rw [show m - 1 + 1 = m by omega]; exact HX2.out, hv1, by rw [hlen]; exact hA7, h7⟩
            · rw [if_neg h44] at HX2
              simp only [if_neg (fun e => h44 (UInt8.toNat_inj.1 e) : ¬ c.toNat = 44)] at cG
              by_cases h93 : c = 93
              · subst h93
                rw [if_pos rfl] at HX2
                simp only [if_pos (show UInt8.toNat 93 = 93 from rfl)] at cG
                have HX3 : Hid (X = .ok (.mk 6 noText [] (l ++ [x]), K1 + 1, v1)) := HX2
                clear HX2 h44
                go_wp2_with (first
                  | (go_at_call 36; refine cO.mono ?_; rintro e w6 ⟨rfl, rfl⟩)
                  | (go_at_call 101; refine cG.mono ?_; rintro e w7 ⟨⟨rfl, h7⟩, g7⟩; have hA7 := hA5.go g7; obtain ⟨r0, r1, r2, r3⟩ := hA7.res.cells; obtain ⟨u0, u1, u2, u3⟩ := hA7.res.frozen; obtain ⟨y0, y1, y2, y3⟩ := hA7.new.cells))
                have hRBq := hA7.res.set4 (.int .u8 6) (.string ⟨#[]⟩) (.slice none 0 0) (.slice (some ⟨g, 0, none⟩) (l.length + 1) cap2)
                have hVq := hA7.done (w' := (((((w7).setCell ⟨w.heap.size, 0, none⟩ (.int .u8 6)).setCell ⟨w.heap.size, 1, none⟩ (.string ⟨#[]⟩)).setCell ⟨w.heap.size, 2, none⟩ (.slice none 0 0)).setCell ⟨w.heap.size, 3, none⟩ (.slice (some ⟨g, 0, none⟩) (l.length + 1) cap2))) (fun j hj => set4_heap w7 _ _ _ _ _ _ _ _ _ j hj)
                have hGq : GB rb w (((((w7).setCell ⟨w.heap.size, 0, none⟩ (.int .u8 6)).setCell ⟨w.heap.size, 1, none⟩ (.string ⟨#[]⟩)).setCell ⟨w.heap.size, 2, none⟩ (.slice none 0 0)).setCell ⟨w.heap.size, 3, none⟩ (.slice (some ⟨g, 0, none⟩) (l.length + 1) cap2)) := hA7.gb.set4 (Nat.le_refl _) _ _ _ _
                have hRq : RS (((((w7).setCell ⟨w.heap.size, 0, none⟩ (.int .u8 6)).setCell ⟨w.heap.size, 1, none⟩ (.string ⟨#[]⟩)).setCell ⟨w.heap.size, 2, none⟩ (.slice none 0 0)).setCell ⟨w.heap.size, 3, none⟩ (.slice (some ⟨g, 0, none⟩) (l.length + 1) cap2)) rb s (K1 + 1) v1 0 0 := (set4_heap w7 _ _ _ _ _ _ _ _ _ rb (by have := hA7.lt; omega)).trans h7
                clear hA7
                generalize (((((w7).setCell ⟨w.heap.size, 0, none⟩ (.int .u8 6)).setCell ⟨w.heap.size, 1, none⟩ (.string ⟨#[]⟩)).setCell ⟨w.heap.size, 2, none⟩ (.slice none 0 0)).setCell ⟨w.heap.size, 3, none⟩ (.slice (some ⟨g, 0, none⟩) (l.length + 1) cap2)) = wE at *
                obtain ⟨z0, z1, z2, z3⟩ := hRBq.cells
                refine bodyPost_ret (v := .agg #[.int .u8 6, .string ⟨#[]⟩, .slice none 0 0, .slice (some ⟨g, 0, none⟩) (l.length + 1) cap2]) ?_ rfl ?_
                · simp [results, Tryz.results70, go_sem, z0, z1, z2, z3]
                · rw [HX3.out]; exact ⟨hGq, _, _, _, _, _, _, _, _, _, rfl, hVq, rfl, hRq⟩
              · rw [if_neg h93] at HX2
                simp only [if_neg (fun e => h93 (UInt8.toNat_inj.1 e) : ¬ c.toNat = 93)] at cG
                have HX3 : Hid (X = .error (K1, 20)) := HX2
                clear HX2 h44 h93
                go_wp2_with (first
                  | (go_at_call 36; refine cO.mono ?_; rintro e w6 ⟨rfl, rfl⟩)
                  | (go_at_call 101; refine cG.mono ?_; rintro e w7 ⟨⟨rfl, h7⟩, g7⟩; have hA7 := hA5.go g7; obtain ⟨r0, r1, r2, r3⟩ := hA7.res.cells; obtain ⟨u0, u1, u2, u3⟩ := hA7.res.frozen; obtain ⟨y0, y1, y2, y3⟩ := hA7.new.cells))
                have hRBq := hA7.res.set4 (.int .u8 6) (.string ⟨#[]⟩) (.slice none 0 0) (.slice (some ⟨g, 0, none⟩) (l.length + 1) cap2)
                have hVq := hA7.done (w' := (((((w7).setCell ⟨w.heap.size, 0, none⟩ (.int .u8 6)).setCell ⟨w.heap.size, 1, none⟩ (.string ⟨#[]⟩)).setCell ⟨w.heap.size, 2, none⟩ (.slice none 0 0)).setCell ⟨w.heap.size, 3, none⟩ (.slice (some ⟨g, 0, none⟩) (l.length + 1) cap2))) (fun j hj => set4_heap w7 _ _ _ _ _ _ _ _ _ j hj)
                have hGq : GB rb w (((((w7).setCell ⟨w.heap.size, 0, none⟩ (.int .u8 6)).setCell ⟨w.heap.size, 1, none⟩ (.string ⟨#[]⟩)).setCell ⟨w.heap.size, 2, none⟩ (.slice none 0 0)).setCell ⟨w.heap.size, 3, none⟩ (.slice (some ⟨g, 0, none⟩) (l.length + 1) cap2)) := hA7.gb.set4 (Nat.le_refl _) _ _ _ _
                have hRq : RS (((((w7).setCell ⟨w.heap.size, 0, none⟩ (.int .u8 6)).setCell ⟨w.heap.size, 1, none⟩ (.string ⟨#[]⟩)).setCell ⟨w.heap.size, 2, none⟩ (.slice none 0 0)).setCell ⟨w.heap.size, 3, none⟩ (.slice (some ⟨g, 0, none⟩) (l.length + 1) cap2)) rb s K1 v1 K1 20 := (set4_heap w7 _ _ _ _ _ _ _ _ _ rb (by have := hA7.lt; omega)).trans h7
                clear hA7
                generalize (((((w7).setCell ⟨w.heap.size, 0, none⟩ (.int .u8 6)).setCell ⟨w.heap.size, 1, none⟩ (.string ⟨#[]⟩)).setCell ⟨w.heap.size, 2, none⟩ (.slice none 0 0)).setCell ⟨w.heap.size, 3, none⟩ (.slice (some ⟨g, 0, none⟩) (l.length + 1) cap2)) = wE at *
                obtain ⟨z0, z1, z2, z3⟩ := hRBq.cells
                refine bodyPost_ret (v := .agg #[.int .u8 6, .string ⟨#[]⟩, .slice none 0 0, .slice (some ⟨g, 0, none⟩) (l.length + 1) cap2]) ?_ rfl ?_
                · simp [results, Tryz.results70, go_sem, z0, z1, z2, z3]
                · rw [HX3.out]; exact ⟨hGq, _, _, _, _, _, _, _, _, _, rfl, hVq, _, _, hRq⟩
  · have hKe : K = s.size := by omega
    subst hKe
    have cH := rHere_end rb s a v W hR0 hs' ha hK
    rw [byL_end (by rw [← Lib.size_eq]; exact Nat.le_refl _)] at hX
    have HX := Lib.hid hX
    clear hX hK
    go_wp2_with (go_at_call 66; refine cH.mono ?_; rintro e w1 ⟨rfl, h1, g1⟩; have hA1 := hA0.go g1)
    go_loopw [] (fun wr => wr = w1) (fun _ => 0)
    case atStart => rfl
    case round =>
      subst hrel
      have cO := rOk_any rb s s.size v s.size 21 _ h1
      obtain ⟨r0, r1, r2, r3⟩ := hA1.res.cells
      obtain ⟨u0, u1, u2, u3⟩ := hA1.res.frozen
      obtain ⟨y0, y1, y2, y3⟩ := hA1.new.cells
      go_wp2_with (go_at_call 36; refine cO.mono ?_; rintro e w2 ⟨rfl, rfl⟩)
      have hRBq := hA1.res.set4 (.int .u8 6) (.string ⟨#[]⟩) (.slice none 0 0) (.slice none 0 0)
      have hVq := hA1.done (w' := (((((w2).setCell ⟨w.heap.size, 0, none⟩ (.int .u8 6)).setCell ⟨w.heap.size, 1, none⟩ (.string ⟨#[]⟩)).setCell ⟨w.heap.size, 2, none⟩ (.slice none 0 0)).setCell ⟨w.heap.size, 3, none⟩ (.slice none 0 0))) (fun j hj => set4_heap w2 _ _ _ _ _ _ _ _ _ j hj)
      have hGq : GB rb w (((((w2).setCell ⟨w.heap.size, 0, none⟩ (.int .u8 6)).setCell ⟨w.heap.size, 1, none⟩ (.string ⟨#[]⟩)).setCell ⟨w.heap.size, 2, none⟩ (.slice none 0 0)).setCell ⟨w.heap.size, 3, none⟩ (.slice none 0 0)) := hA1.gb.set4 (Nat.le_refl _) _ _ _ _
      have hRq : RS (((((w2).setCell ⟨w.heap.size, 0, none⟩ (.int .u8 6)).setCell ⟨w.heap.size, 1, none⟩ (.string ⟨#[]⟩)).setCell ⟨w.heap.size, 2, none⟩ (.slice none 0 0)).setCell ⟨w.heap.size, 3, none⟩ (.slice none 0 0)) rb s s.size v s.size 21 := (set4_heap w2 _ _ _ _ _ _ _ _ _ rb (by have := hA1.lt; omega)).trans h1
      clear hA1
      generalize (((((w2).setCell ⟨w.heap.size, 0, none⟩ (.int .u8 6)).setCell ⟨w.heap.size, 1, none⟩ (.string ⟨#[]⟩)).setCell ⟨w.heap.size, 2, none⟩ (.slice none 0 0)).setCell ⟨w.heap.size, 3, none⟩ (.slice none 0 0)) = wE at *
      obtain ⟨z0, z1, z2, z3⟩ := hRBq.cells
      refine bodyPost_ret (v := .agg #[.int .u8 6, .string ⟨#[]⟩, .slice none 0 0, .slice none 0 0]) ?_ rfl ?_
      · simp [results, Tryz.results70, go_sem, z0, z1, z2, z3]
      · rw [HX.out]; exact ⟨hGq, _, _, _, _, _, _, _, _, _, rfl, hVq, _, _, hRq⟩
end Go.Proofs.YtakdhfjlhkejdaaGreatDoor
