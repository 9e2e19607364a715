/-
  CONTRACT of package seg's Scan: what stands between two rounds, and the function. No conditions but the text's size.
-/
import Derived.Test.YthimjdknafgfbaaSegReads
import Derived.Sort.CutIn
import Derived.RangeFuncBox
set_option linter.unusedVariables false
namespace Go.Proofs.Ythimjdknafgfbaa
open Go.RowKit Go.Shelf
attribute [local go_sem] Oper.semAt_some

theorem set_one {W : World} {b : Nat} {v v' : Value} {T : TypeId} (h : W.heap[b]? = some (.cells #[v] T (0, 0))) : (W.setCell ⟨b, 0, none⟩ v').heap[b]? = some (.cells #[v'] T (0, 0)) := heap_setCell_same W b 0 _ T _ h
theorem set_two {W : World} {b b' : Nat} {v : Value} {o : Obj} (h : W.heap[b]? = some o) (hb : b ≠ b') : (W.setCell ⟨b', 0, none⟩ v).heap[b]? = some o := (heap_setCell_other W ⟨b', 0, none⟩ b v hb).trans h
theorem OwnT.put {W : World} {B l : Nat} {L : List (List UInt8)} {v : Value} (h : OwnT W B L v) (hl : l < B) (o : Obj) : OwnT (W.putObj l o) B L v :=
  h.blocks fun k hk => World.putObj_heap_other (by have := (h.lt k hk).1; omega)
theorem OwnT.setCell {W : World} {B l : Nat} {L : List (List UInt8)} {v : Value} (h : OwnT W B L v) (hl : l < B) (u : Value) : OwnT (W.setCell ⟨l, 0, none⟩ u) B L v :=
  h.blocks fun k hk => Below.heap_setCell W ⟨l, 0, none⟩ u k (by have := (h.lt k hk).1; show k ≠ l; omega)
theorem reads_any (s : ByteArray) (w : World) :
    Calls Try.prog 24 #[.string s] w fun e w' => e = .returned (.func (.func 29) #[] #[.pointer (some ⟨w.heap.size, 0, none⟩)]) ∧ w' = w.alloc (.cells #[.string s] 9) := by
  have hmf : ∀ (fn : Fn) (first cap : Array Value) (w : World), (Instr.makeFunc fn first cap).run Try.prog w = .ok (.func fn first cap) w := fun _ _ _ _ => rfl
  go_enter Try.func24, Try.ntmps24
  go_wp2
  go_ret
  exact ⟨rfl, rfl⟩
structure ScnI (w : World) (pre : List Rd) (W : World) : Prop where
  bel : Below w.heap.size w W
  big : w.heap.size + 6 ≤ W.heap.size
  r0 : W.heap[w.heap.size]? = some (.cells #[.slice none 0 0] 29 (0, 0))
  r1 : W.heap[w.heap.size + 1]? = some (.cells #[.int .i64 0] 3 (0, 0))
  r2 : W.heap[w.heap.size + 2]? = some (.cells #[.int .i64 0] 23 (0, 0))
  tx : ∃ v, W.heap[w.heap.size + 3]? = some (.cells #[v] 29 (0, 0)) ∧ OwnT W (w.heap.size + 8) (pre.map (·.1)) v
  n : W.heap[w.heap.size + 4]? = some (.cells #[.int .i64 (posP pre : Nat)] 3 (0, 0))
  ok : ∀ x ∈ pre, x.2 = 0
structure ScnX (w : World) (S : List UInt8) (W : World) : Prop where
  bel : Below w.heap.size w W
  big : w.heap.size + 6 ≤ W.heap.size
  r0 : ∃ v, W.heap[w.heap.size]? = some (.cells #[v] 29 (0, 0)) ∧ OwnT W (w.heap.size + 8) (scanL S).1 v
  r1 : W.heap[w.heap.size + 1]? = some (.cells #[.int .i64 ((scanL S).2.1 : Nat)] 3 (0, 0))
  r2 : W.heap[w.heap.size + 2]? = some (.cells #[.int .i64 (scanL S).2.2] 23 (0, 0))
theorem ScnI.keep {w A A' : World} {pre : List Rd} (h : ScnI w pre A) (hb : Below A.heap.size A A') : ScnI w pre A' := by
  obtain ⟨h1, h2, h3, h4, h5, ⟨v, h6, h7⟩, h8, h9⟩ := h
  exact ⟨h1.trans (hb.mono h1.size), Nat.le_trans h2 hb.size, (hb.block _ (by omega)).trans h3, (hb.block _ (by omega)).trans h4, (hb.block _ (by omega)).trans h5, ⟨v, (hb.block _ (by omega)).trans h6, h7.keep hb⟩, (hb.block _ (by omega)).trans h8, h9⟩
theorem ScnI.put {w A : World} {pre : List Rd} {l : Nat} (h : ScnI w pre A) (hl : w.heap.size + 6 ≤ l) (hl2 : l < w.heap.size + 8) (o : Obj) : ScnI w pre (A.putObj l o) := by
  obtain ⟨h1, h2, h3, h4, h5, ⟨v, h6, h7⟩, h8, h9⟩ := h
  exact ⟨Below.put h1 (by omega), by simpa using h2, (World.putObj_heap_other (by omega)).trans h3, (World.putObj_heap_other (by omega)).trans h4, (World.putObj_heap_other (by omega)).trans h5, ⟨v, (World.putObj_heap_other (by omega)).trans h6, h7.put hl2 o⟩, (World.putObj_heap_other (by omega)).trans h8, h9⟩
theorem ScnX.put {w A : World} {S : List UInt8} {l : Nat} (h : ScnX w S A) (hl : w.heap.size + 6 ≤ l) (hl2 : l < w.heap.size + 8) (o : Obj) : ScnX w S (A.putObj l o) := by
  obtain ⟨h1, h2, ⟨v, h3, h7⟩, h4, h5⟩ := h
  exact ⟨Below.put h1 (by omega), by simpa using h2, ⟨v, (World.putObj_heap_other (by omega)).trans h3, h7.put hl2 o⟩, (World.putObj_heap_other (by omega)).trans h4, (World.putObj_heap_other (by omega)).trans h5⟩
/-- the results' three cells are written -/
theorem ScnX.made {w W : World} {S : List UInt8} {pre : List Rd} {v : Value} {L : List (List UInt8)} {n : Nat} {e : Int} (h : ScnI w pre W) (ht : OwnT W (w.heap.size + 8) L v) (hS : scanL S = (L, n, e)) :
    ScnX w S (((W.setCell ⟨w.heap.size, 0, none⟩ v).setCell ⟨w.heap.size + 1, 0, none⟩ (.int .i64 (n : Nat))).setCell ⟨w.heap.size + 2, 0, none⟩ (.int .i64 e)) := by
  refine ⟨((h.bel.setCell (p := ⟨w.heap.size, 0, none⟩) (Nat.le_refl _) _).setCell (p := ⟨w.heap.size + 1, 0, none⟩) (Nat.le_add_right _ _) _).setCell (p := ⟨w.heap.size + 2, 0, none⟩) (Nat.le_add_right _ _) _, by simpa using h.big, ⟨v, ?_, ?_⟩, ?_, ?_⟩
  · exact set_two (set_two (set_one h.r0) (by omega)) (by omega)
  · rw [hS]
    exact ((ht.setCell (by omega) _).setCell (by omega) _).setCell (by omega) _
  · rw [hS]
    exact set_two (set_one (set_two h.r1 (by omega))) (by omega)
  · rw [hS]
    exact set_one (set_two (set_two h.r2 (by omega)) (by omega))
theorem ScnI.next {w W w11 : World} {pre : List Rd} {t : List UInt8} {v v2 : Value} {o : Obj} {m : Int} (h : ScnI w pre W) (h8 : w.heap.size + 8 ≤ W.heap.size) (hO : OwnT W (w.heap.size + 8) (pre.map (·.1)) v)
    (hg : (W.alloc o).grownBy w11 v.ownBlock) (hown : w11.ownsRow (w.heap.size + 8) 9 1 v2 (pre.length + 1) (valT (pre.map (·.1)) ++ [.string (bOf t)])) (hm : m = (posP (pre ++ [(t, 0)]) : Nat)) :
    ScnI w (pre ++ [(t, 0)]) ((w11.setCell ⟨w.heap.size + 3, 0, none⟩ v2).setCell ⟨w.heap.size + 4, 0, none⟩ (.int .i64 m)) ∧ Kept2 (w.heap.size + 6) W ((w11.setCell ⟨w.heap.size + 3, 0, none⟩ v2).setCell ⟨w.heap.size + 4, 0, none⟩ (.int .i64 m)) := by
  subst hm
  have hk : ∀ k, k < w.heap.size + 8 → w11.heap[k]? = W.heap[k]? := fun k hk => (hg.block k (by rw [World.size_alloc]; omega) (fun e => by have := (hO.lt k e.symm).1; omega)).trans (Below.heap_alloc _ _ _ (by omega))
  have hs := hg.size
  rw [World.size_alloc] at hs
  have hO2 : OwnT w11 (w.heap.size + 8) (pre.map (·.1) ++ [t]) v2 := OwnT.snoc (by rw [List.length_map]; exact hown)
  have hbel : Below w.heap.size W w11 := ((Below.refl W.heap.size W).alloc (Nat.le_refl _) o).mono (by omega) |>.grown hg (by rw [World.size_alloc]; omega) (fun k e => by have := (hO.lt k e).1; omega)
  obtain ⟨h1, h2, h3, h4, h5, ⟨v', h6, h7⟩, h8', h9⟩ := h
  refine ⟨⟨((h1.trans hbel).setCell (p := ⟨w.heap.size + 3, 0, none⟩) (Nat.le_add_right _ _) _).setCell (p := ⟨w.heap.size + 4, 0, none⟩) (Nat.le_add_right _ _) _, by simp; omega, ?_, ?_, ?_, ⟨v2, ?_, ?_⟩, ?_, ?_⟩, ⟨by simp; omega, ?_, ?_⟩⟩
  · exact set_two (set_two ((hk _ (by omega)).trans h3) (by omega)) (by omega)
  · exact set_two (set_two ((hk _ (by omega)).trans h4) (by omega)) (by omega)
  · exact set_two (set_two ((hk _ (by omega)).trans h5) (by omega)) (by omega)
  · exact set_two (set_one ((hk _ (by omega)).trans h6)) (by omega)
  · rw [List.map_append]
    exact (hO2.setCell (by omega) _).setCell (by omega) _
  · exact set_one (set_two ((hk _ (by omega)).trans h8') (by omega))
  · intro x hx
    rcases List.mem_append.1 hx with h | h
    · exact h9 x h
    · rw [List.mem_singleton] at h
      rw [h]
  · rw [Below.heap_setCell _ _ _ _ (by simp), Below.heap_setCell _ _ _ _ (by simp)]
    exact hk _ (by omega)
  · rw [Below.heap_setCell _ _ _ _ (by simp), Below.heap_setCell _ _ _ _ (by simp)]
    exact hk _ (by omega)
theorem ScnI.row {w W w11 : World} {v : Value} {o : Obj} (h8 : w.heap.size + 8 ≤ W.heap.size) (hlt : ∀ k, v.ownBlock = some k → w.heap.size + 8 ≤ k ∧ k < W.heap.size)
    (hg : (W.alloc o).grownBy w11 v.ownBlock) : ∀ k, k < w.heap.size + 8 → w11.heap[k]? = W.heap[k]? := fun k hk => (hg.block k (by rw [World.size_alloc]; omega) (fun e => by have := (hlt k e.symm).1; omega)).trans (Below.heap_alloc _ _ _ (by omega))
theorem OwnT.base {W : World} {B B' : Nat} {L : List (List UInt8)} {v : Value} (h : OwnT W B L v) (hB : B' ≤ B) : OwnT W B' L v := by
  refine ⟨h.1, ?_⟩
  rcases h.2 with h0 | ⟨g, cap, cur, e, h1, h2⟩
  · exact .inl h0
  · exact .inr ⟨g, cap, cur, e, Nat.le_trans hB h1, h2⟩
theorem ScnX.drew {w W : World} {S : List UInt8} (h : ScnX w S W) : ScnX w S W.drew := by
  obtain ⟨h1, h2, ⟨v, h3, h7⟩, h4, h5⟩ := h
  exact ⟨h1.drew, h2, ⟨v, h3, h7.blocks fun _ _ => rfl⟩, h4, h5⟩
theorem scn_start (s : ByteArray) (w W0 : World) (h : W0 = (((((w.alloc (.cells #[.slice none 0 0] 29)).alloc (.cells #[.int .i64 0] 3)).alloc (.cells #[.int .i64 0] 23)).alloc (.cells #[.slice none 0 0] 29)).alloc (.cells #[.int .i64 0] 3)).alloc (.cells #[.string s] 9)) :
    ScnI w [] W0 ∧ W0.heap.size = w.heap.size + 6 ∧ W0.heap[w.heap.size + 5]? = some (.cells #[.string s] 9 (0, 0)) := by
  have hh : W0.heap = (((((w.heap.push (.cells #[.slice none 0 0] 29 (0, 0))).push (.cells #[.int .i64 0] 3 (0, 0))).push (.cells #[.int .i64 0] 23 (0, 0))).push (.cells #[.slice none 0 0] 29 (0, 0))).push (.cells #[.int .i64 0] 3 (0, 0))).push (.cells #[.string s] 9 (0, 0)) := by rw [h]; rfl
  have hb : Below w.heap.size w W0 := by
    rw [h]
    exact ((((((Below.refl _ w).alloc (Nat.le_refl _) _).alloc (by simp) _).alloc (by simp; omega) _).alloc (by simp; omega) _).alloc (by simp; omega) _).alloc (by simp; omega) _
  refine ⟨⟨hb, ?_, ?_, ?_, ?_, ⟨_, ?_, OwnT.nil _ _⟩, ?_, fun x hx => by cases hx⟩, ?_, ?_⟩
  all_goals rw [hh]
  all_goals try simp only [Array.getElem?_push, Array.size_push]
  all_goals repeat (first | rw [if_pos (by omega)] | rw [if_neg (by omega)])
  all_goals first | rfl | omega
set_option maxRecDepth 10000000 in
set_option maxHeartbeats 8000000 in
theorem scan_any (s : ByteArray) (w : World) (hs : s.size ≤ 100000000) :
    Calls Try.prog 12 #[.string s] w fun e w' => ∃ v, e = scanV s.data.toList v ∧ OwnT w' w.heap.size (scanL s.data.toList).1 v ∧ Below w.heap.size w w' := by
  refine (callsIn_wide (n := 3)).1 ?_
  refine callsIn_of_wp_marks Try.func12 rfl trivial ?_ rfl
  simp only [Try.ntmps12, List.size_toArray, List.length_cons, List.length_nil, Nat.reduceAdd, Nat.reduceSub, Array.replicate_succ, Array.replicate_zero, List.push_toArray, List.append_toArray, List.nil_append, List.cons_append]
  refine wpIn_wide.2 ?_
  go_wp2_with (go_at_call 24; refine (reads_any _ _).mono ?_; rintro e w1 ⟨rfl, rfl⟩)
  have hst : ∃ W0, W0 = (((((w.alloc (.cells #[.slice none 0 0] 29)).alloc (.cells #[.int .i64 0] 3)).alloc (.cells #[.int .i64 0] 23)).alloc (.cells #[.slice none 0 0] 29)).alloc (.cells #[.int .i64 0] 3)).alloc (.cells #[.string s] 9) := ⟨_, rfl⟩
  obtain ⟨W0, hW0⟩ := hst
  have hIz := scn_start s w W0 hW0
  rw [← hW0]
  clear hW0
  obtain ⟨hI0, hD, hbx0⟩ := hIz
  simp only [Nat.add_assoc, Nat.reduceAdd]
  refine (wpIn_wide (n := 3)).1 ?_
  have hseq := reads1_stops s W0 (w.heap.size + 5) hs hbx0
  have hl : s.data.toList.length = s.size := (Lib.size_eq s).symm
  obtain ⟨i0, hi0, hz0, hz1, hz2⟩ := seg_info infoText
  refine wpIn_rangeFunc_step (n := 3) (gf := 29) (lb := #[.pointer (some ⟨w.heap.size + 5, 0, none⟩)]) rfl (enters_of Try.func29 (by kernel_rfl) rfl) hseq ?hps (ScnI w) (fun _ => ScnX w s.data.toList) (fun s A A' h hb => h.keep hb) (fun s A o h => h.put (by omega) (by omega) o) (fun s A o h => h.put (by omega) (by omega) o) hI0
    (fun pre x a₁ W => ScnI w pre W ∧ a₁ = { tmps := #[.string s, undef, .pointer (some ⟨w.heap.size, 0, none⟩), .pointer (some ⟨w.heap.size + 1, 0, none⟩), .pointer (some ⟨w.heap.size + 2, 0, none⟩), .pointer (some ⟨w.heap.size + 3, 0, none⟩), .pointer (some ⟨w.heap.size + 4, 0, none⟩), .string (bOf x.1), .int .i64 x.2, .string s, .func (.func 29) #[] #[.pointer (some ⟨w.heap.size + 5, 0, none⟩)], .string (bOf x.1), .int .i64 x.2, undef, undef, undef, undef, undef, undef, undef, undef, undef, undef, undef, undef, undef, undef, undef, undef], defers := [] } ∧ Good s.data.toList pre ∧ posP pre < s.data.toList.length ∧ x = nextP s.data.toList pre) ?hAx ?assign ?body ?done ?stop
  case hps =>
    rintro pre x args ⟨rfl, _⟩
    rfl
  case hAx =>
    rintro pre x a₁ W o ⟨h1, rfl, h2⟩
    exact ⟨h1.put (by omega) (by omega) o, rfl, h2⟩
  case assign =>
    rintro l pre x args W K hI ⟨rfl, hE⟩ hbig hK
    have HE := Lib.hid hE
    clear hE
    gi_wp2
    exact hK _ _ ⟨hI, rfl, HE.out⟩ (Below.refl _ _)
  case body =>
    rintro l pre x a₁ W ⟨hI, rfl, hG, hpos, hx⟩ hbig
    rw [hl] at hpos
    obtain ⟨v, htx, hO⟩ := hI.tx
    obtain ⟨av, cv, hav, hform⟩ := hO.form
    rw [List.length_map] at hav
    subst hav
    clear hform
    have hmix : Try.prog.follows .mixedOrders = true := by kernel_rfl
    have c3 := (Lib.cell_of_heap htx 0).trans rfl
    have f3 := frozen_of_row _ (w.heap.size + 3) 0 _ _ htx
    have c4 := (Lib.cell_of_heap hI.n 0).trans rfl
    have f4 := frozen_of_row _ (w.heap.size + 4) 0 _ _ hI.n
    by_cases he : x.2 = 0
    · obtain ⟨t, e⟩ := x
      simp only at he
      subst he
      have hr := read_ok (l := s.data.toList.drop (posP pre)) (by have := congrArg Prod.snd hx; exact this.symm)
      have hx1 : (readL (s.data.toList.drop (posP pre))).1 = t := (congrArg Prod.fst hx).symm
      rw [List.length_drop, hl, hx1] at hr
      have hps : posP (pre ++ [(t, 0)]) = posP pre + (t.length + 12) := posP_snoc _ _
      have hlen := posP_len pre
      have hbs : (bOf t).size = t.length := bOf_size t
      have HN : ∀ w11 v2, ((W.alloc (.cells #[.string (bOf t)] 9)).grownBy w11 (Value.slice av pre.length cv).ownBlock) → (w11.ownsRow (w.heap.size + 8) 9 1 v2 (pre.length + 1) (valT (pre.map (·.1)) ++ [.string (bOf t)])) → ∀ m : Int, m = (posP pre : Int) + ((t.length : Int) + 12) →
          ScnI w (pre ++ [(t, 0)]) ((w11.setCell ⟨w.heap.size + 3, 0, none⟩ v2).setCell ⟨w.heap.size + 4, 0, none⟩ (.int .i64 m)) ∧ Kept2 (w.heap.size + 6) W ((w11.setCell ⟨w.heap.size + 3, 0, none⟩ v2).setCell ⟨w.heap.size + 4, 0, none⟩ (.int .i64 m)) :=
        by intro w11 v2 hg ho m hm; exact ScnI.next hI (by omega) hO hg ho (by rw [hps, hm]; omega)
      have HNN := Lib.hid HN
      have HO : Hid (W.ownsRow (w.heap.size + 8) 9 1 (.slice av pre.length cv) pre.length (valT (pre.map (·.1)))) := Lib.hid (by have h9 : W.ownsRow (w.heap.size + 8) 9 1 (.slice av pre.length cv) (pre.map (·.1)).length (valT (pre.map (·.1))) := hO; rw [List.length_map] at h9; exact h9)
      have hlt8 := hO.lt
      have hW8 : w.heap.size + 8 ≤ W.heap.size := by omega
      have b1 : posP pre + (t.length + 12) ≤ 100000000 := by omega
      have b2 : (bOf t).size ≤ 100000000 := by omega
      have HBS := Lib.hid hbs
      have hxr := hx1
      clear hx hx1 hps HN hO hxr hr hbs
      gi_wp2_with (gi_at_builtin; go_loud (refine wpListIn_append_own _ rfl _ _ 29 rfl (w.heap.size + 8) 9 i0 (.string ByteArray.empty) 1 16 Try.underlying29 hi0 hz0 hz1 hz2 rfl (by decide) _ pre.length (valT (pre.map (·.1))) rfl (World.ownsRow.alloc HO.out _) ⟨W.heap.size, 0, none⟩ 1 1 [.string (bOf t)] rfl rfl (World.news_of_block (cs := #[Value.string (bOf t)]) (t := 9) (fr := (0, 0)) (heap_alloc_new W _)) (by simp [Value.oneCell']) (by unfold maxLen; omega) (by omega) (by simp; omega) ?_; intro v2 w11 hown3 hgrow _; obtain ⟨g2, cap2, rfl⟩ := ownsRow_succ hown3; have hk8 := ScnI.row hW8 hlt8 hgrow; have d3 := (World.cell?_of_block (hk8 (w.heap.size + 3) (by omega))).trans c3; have e3 := (World.frozen?_of_block (hk8 (w.heap.size + 3) (by omega))).trans f3; have d4 := (World.cell?_of_block (hk8 (w.heap.size + 4) (by omega))).trans c4; have e4 := (World.frozen?_of_block (hk8 (w.heap.size + 4) (by omega))).trans f4))
      have hfin := HNN.out _ _ hgrow hown3 _ (show (posP pre : Int) + (((bOf t).size : Int) + 12) = _ by rw [HBS.out])
      rw [hD]
      exact ⟨hfin.2, hfin.1⟩
    · have HB := Lib.hid (Good.bad hG (by rw [hl]; exact hpos) (by rw [← hx]; exact he))
      rw [← hx] at HB
      have hX := ScnX.made hI hO HB.out
      have he0 : (x.2 == 0) = false := beq_false_of_ne he
      have he1 : (x.2 != 0) = true := by simp [bne, he0]
      have c0 := (Lib.cell_of_heap hI.r0 0).trans rfl
      have f0 := frozen_of_row _ w.heap.size 0 _ _ hI.r0
      have c1 := (Lib.cell_of_heap hI.r1 0).trans rfl
      have f1 := frozen_of_row _ (w.heap.size + 1) 0 _ _ hI.r1
      have c2 := (Lib.cell_of_heap hI.r2 0).trans rfl
      have f2 := frozen_of_row _ (w.heap.size + 2) 0 _ _ hI.r2
      have HX := Lib.hid hX
      have HK1 : Hid ((((W.setCell ⟨w.heap.size, 0, none⟩ (.slice av pre.length cv)).setCell ⟨w.heap.size + 1, 0, none⟩ (.int .i64 (posP pre : Nat))).setCell ⟨w.heap.size + 2, 0, none⟩ (.int .i64 x.2)).drew.heap[w.heap.size + 6]? = W.heap[w.heap.size + 6]?) := Lib.hid (by
        show (((W.setCell ⟨w.heap.size, 0, none⟩ _).setCell ⟨w.heap.size + 1, 0, none⟩ _).setCell ⟨w.heap.size + 2, 0, none⟩ _).heap[w.heap.size + 6]? = _
        rw [Below.heap_setCell _ _ _ _ (by simp), Below.heap_setCell _ _ _ _ (by simp), Below.heap_setCell _ _ _ _ (by simp)])
      have HK2 : Hid ((((W.setCell ⟨w.heap.size, 0, none⟩ (.slice av pre.length cv)).setCell ⟨w.heap.size + 1, 0, none⟩ (.int .i64 (posP pre : Nat))).setCell ⟨w.heap.size + 2, 0, none⟩ (.int .i64 x.2)).drew.heap[w.heap.size + 6 + 1]? = W.heap[w.heap.size + 6 + 1]?) := Lib.hid (by
        show (((W.setCell ⟨w.heap.size, 0, none⟩ _).setCell ⟨w.heap.size + 1, 0, none⟩ _).setCell ⟨w.heap.size + 2, 0, none⟩ _).heap[w.heap.size + 6 + 1]? = _
        rw [Below.heap_setCell _ _ _ _ (by show w.heap.size + 6 + 1 ≠ w.heap.size + 2; omega), Below.heap_setCell _ _ _ _ (by show w.heap.size + 6 + 1 ≠ w.heap.size + 1; omega), Below.heap_setCell _ _ _ _ (by show w.heap.size + 6 + 1 ≠ w.heap.size; omega)])
      clear hX hx he
      obtain ⟨t, e⟩ := x
      gi_wp2
      gi_region_with_o (fail)
      all_goals gi_wp2
      all_goals exact ⟨⟨by simp, by rw [hD]; exact HK1.out, by rw [hD]; exact HK2.out⟩, HX.out.drew⟩
  case done =>
    rintro xs W hS hI hlt hK
    have hsc : scanL s.data.toList = (xs.map (·.1), posP xs, 0) := by
      rcases hS with ⟨hG, hp⟩ | ⟨pre, x, rfl, hx⟩
      · exact Good.done hG hp
      · exact absurd (hI.ok x (by simp)) hx
    obtain ⟨v, htx, hO⟩ := hI.tx
    have hX := ScnX.made hI hO hsc
    obtain ⟨av, cv, hav, hform⟩ := hO.form
    rw [List.length_map] at hav
    subst hav
    clear hform hsc hS hO
    have c3 := (Lib.cell_of_heap htx 0).trans rfl
    have c4 := (Lib.cell_of_heap hI.n 0).trans rfl
    have c0 := (Lib.cell_of_heap hI.r0 0).trans rfl
    have f0 := frozen_of_row _ w.heap.size 0 _ _ hI.r0
    have c1 := (Lib.cell_of_heap hI.r1 0).trans rfl
    have f1 := frozen_of_row _ (w.heap.size + 1) 0 _ _ hI.r1
    have c2 := (Lib.cell_of_heap hI.r2 0).trans rfl
    have f2 := frozen_of_row _ (w.heap.size + 2) 0 _ _ hI.r2
    have HX := Lib.hid hX
    rw [hD] at hK
    have HK1 : Hid ((((W.setCell ⟨w.heap.size, 0, none⟩ (.slice av xs.length cv)).setCell ⟨w.heap.size + 1, 0, none⟩ (.int .i64 (posP xs : Nat))).setCell ⟨w.heap.size + 2, 0, none⟩ (.int .i64 0)).drew.heap[w.heap.size + 6]? = some (.deferred (some []))) := Lib.hid (by
      show (((W.setCell ⟨w.heap.size, 0, none⟩ _).setCell ⟨w.heap.size + 1, 0, none⟩ _).setCell ⟨w.heap.size + 2, 0, none⟩ _).heap[w.heap.size + 6]? = _
      rw [Below.heap_setCell _ _ _ _ (by simp), Below.heap_setCell _ _ _ _ (by simp), Below.heap_setCell _ _ _ _ (by simp)]
      exact hK)
    clear hX hK htx hI
    go_wp2_with fail
    go_region
    go_wp2_with fail
    have h1 := HK1.out
    obtain ⟨x1, x2, ⟨xv, x3, x4⟩, x5, x6⟩ := HX.out.drew.put (l := w.heap.size + 6) (by omega) (by omega) (.deferred none)
    rw [hD]
    refine ⟨by simp, .inl ⟨_, _, rfl, run_takeDeferred h1, ?_⟩⟩
    have y1 := (Lib.cell_of_heap x3 0).trans rfl
    have y2 := (Lib.cell_of_heap x5 0).trans rfl
    have y3 := (Lib.cell_of_heap x6 0).trans rfl
    exact ⟨_, by simp [results, Try.f12, go_sem, y1, y2, y3], ⟨xv, rfl, x4.base (by omega), x1⟩⟩
  case stop =>
    rintro pre W hX hlt hK
    rw [hD] at hK
    gi_wp2
    obtain ⟨x1, x2, ⟨xv, x3, x4⟩, x5, x6⟩ := hX.put (l := w.heap.size + 6) (by omega) (by omega) (.deferred none)
    rw [hD]
    refine ⟨by simp, .inl ⟨_, _, rfl, run_takeDeferred hK, ?_⟩⟩
    have y1 := (Lib.cell_of_heap x3 0).trans rfl
    have y2 := (Lib.cell_of_heap x5 0).trans rfl
    have y3 := (Lib.cell_of_heap x6 0).trans rfl
    exact ⟨_, by simp [results, Try.f12, go_sem, y1, y2, y3], ⟨xv, rfl, x4.base (by omega), x1⟩⟩
end Go.Proofs.Ythimjdknafgfbaa
