/-
  For every script and every number codicillaw06.DiskFuse returns true: a disk whose fuse has burnt down does nothing more. No conditions. (gen_dfuse.py writes it.)
-/
import Derived.Test.YtojmbbmjmbppdaaDiskHv
import Derived.Lib.Builder
namespace Go.Proofs.Ytojmbbmjmbppdaa.diskFuse
open Go.ChangeShapes Go.WideShapes Go.ChangeAt Go.RowKit
open Go.ChangeMaps (open_string shut_string)
set_option linter.unusedVariables false
set_option linter.unusedSimpArgs false

/-- what a call that burns the fuse answers and leaves -/
def Fz (st : Ds) (r : Int × Ds) : Prop := (r.1 = 60 ↔ st.fuse = 0) ∧ (st.fuse = 0 → r.2 = st) ∧ (0 < st.fuse → r.2.fuse = st.fuse - 1) ∧ r.2.L.length ≤ st.L.length + 1
theorem spent0 {st : Ds} (h : st.fuse = 0) : st.spent = st := by
  obtain ⟨r, f, S, L⟩ := st
  simp only at h
  subst h
  rfl
theorem spentP {st : Ds} (h : 0 < st.fuse) : st.spent.fuse = st.fuse - 1 := if_pos h
theorem fz0 {st : Ds} (h : st.fuse = 0) : Fz st (60, st.spent) := ⟨⟨fun _ => h, fun _ => rfl⟩, fun _ => spent0 h, fun h' => by omega, Nat.le_succ _⟩
theorem fzC {st : Ds} (h : ¬ st.fuse = 0) (c : Int) (hc : c ≠ 60) (S : Fs) (L : List Op) (hL : L.length ≤ st.L.length + 1) : Fz st (c, { st.spent with S := S, L := L }) :=
  ⟨⟨fun h' => absurd h' hc, fun h' => absurd h' h⟩, fun h' => absurd h' h, fun h' => spentP h', hL⟩
theorem snoc_len (st : Ds) (op : Op) : (st.L ++ [op]).length ≤ st.L.length + 1 := by simp
theorem fz_app (st : Ds) (s d : ByteArray) : Fz st (appS st s d) := by
  unfold appS
  by_cases h : st.fuse = 0
  · rw [if_pos h]; exact fz0 h
  rw [if_neg h]
  split
  · exact fzC h 2 (by decide) st.S st.L (Nat.le_succ _)
  split
  · exact fzC h 6 (by decide) st.S st.L (Nat.le_succ _)
  · exact fzC h 0 (by decide) st.S _ (snoc_len st _)
theorem fz_cut (st : Ds) (s : ByteArray) (n : Int) : Fz st (cutS st s n) := by
  unfold cutS
  by_cases h : st.fuse = 0
  · rw [if_pos h]; exact fz0 h
  rw [if_neg h]
  split
  · exact fzC h 5 (by decide) st.S st.L (Nat.le_succ _)
  split
  · exact fzC h 2 (by decide) st.S st.L (Nat.le_succ _)
  · exact fzC h 0 (by decide) st.S _ (snoc_len st _)
theorem fz_ren (st : Ds) (s d : ByteArray) : Fz st (renS st s d) := by
  unfold renS
  by_cases h : st.fuse = 0
  · rw [if_pos h]; exact fz0 h
  rw [if_neg h]
  split
  · exact fzC h 5 (by decide) st.S st.L (Nat.le_succ _)
  split
  · exact fzC h 2 (by decide) st.S st.L (Nat.le_succ _)
  · exact fzC h 0 (by decide) st.S _ (snoc_len st _)
theorem fz_rem (st : Ds) (s : ByteArray) : Fz st (remS st s) := by
  unfold remS
  by_cases h : st.fuse = 0
  · rw [if_pos h]; exact fz0 h
  rw [if_neg h]
  split
  · exact fzC h 5 (by decide) st.S st.L (Nat.le_succ _)
  · exact fzC h 0 (by decide) st.S _ (snoc_len st _)
theorem fz_sync (st : Ds) : Fz st (syncS st) := by
  unfold syncS
  by_cases h : st.fuse = 0
  · rw [if_pos h]; exact fz0 h
  rw [if_neg h]
  exact fzC h 0 (by decide) st.now [] (Nat.zero_le _)
section
variable {w0 w : World} {db : Nat} {st : Ds}
theorem loose2 (h : DS w0 w db st) : Calls Try.prog 16 #[.pointer (some ⟨db, 0, none⟩)] w fun e w' => e = .returned (.int .i64 (st.L.length : Nat)) ∧ w' = w := by
  obtain ⟨D, h1, h2, h3⟩ := h
  exact looseD_any db st D w h1
theorem left2 (h : DS w0 w db st) : Calls Try.prog 14 #[.pointer (some ⟨db, 0, none⟩)] w fun e w' => e = .returned (.int .i64 (st.room - (sumF st.now : Nat))) ∧ Below w.heap.size w w' := by
  obtain ⟨D, h1, h2, h3⟩ := h
  exact leftD_any db st D w h1
end
theorem cell_new (w : World) (cs : Array Value) (T : TypeId) (j : Nat) : (w.alloc (.cells cs T)).cell? ⟨w.heap.size, j, none⟩ = cs[j]? := Lib.cell_of_heap (heap_alloc_new w (.cells cs T)) j
set_option maxHeartbeats 4000000 in
set_option maxRecDepth 10000000 in
theorem walk (S : List Stp) (a1 : Int) (w1 : (Lit.int .u8 a1).wf = true) {v : Value} {w : World} (hT : IsSteps w S v) (hn : S.length ≤ maxLen) (w' : World) (hw : w = w') :
    Calls Try.prog 5 #[v, .int .u8 a1] w fun e w' => e = .returned (.bool true) ∧ Below w.heap.size w w' := by
  clear hw w'
  have hwks := works_any
  obtain ⟨b0, b9⟩ := bounds_u8 w1
  have acc : Below w.heap.size w w := Below.refl _ _
  have cH := heavy_any S v w hT hn
  cases hv : heavyS S
  case true =>
    rw [hv] at cH
    clear w1 hv
    go_enter Try.func5, Try.ntmps5
    go_wp2_with (first
      | (go_at_call 8; refine cH.mono ?_; rintro e w' ⟨rfl, hb⟩; have acc := acc.trans (hb.mono acc.size); clear hb)
      | (go_at_call 9; refine (hwks _).mono ?_; rintro e w' ⟨rfl, hb⟩; have acc := acc.trans (hb.mono acc.size); clear hb))
    go_ret
    exact ⟨rfl, acc⟩
  case false =>
    rw [hv] at cH
    obtain ⟨hl100, hl4096⟩ := light_S hv
    have HM : Hid (∀ x ∈ S, x.a.size + x.b.size ≤ 4096) := Lib.hid fun x hx => Nat.le_trans (sumS_mem hx) hl4096
    have cN := fun w => DS.new 65536 w (by decide)
    unfold ptr at cN
    have hmx : max a1 (-1) = a1 := by omega
    have hwr : IntKind.i64.wrap a1 = a1 := IntWalk.i64_in _ (by omega)
    have HT := Lib.hid hT
    clear w1 hv hl4096 hn hT
    go_enter Try.func5, Try.ntmps5
    go_wp2_with (first
      | (go_at_call 8; refine cH.mono ?_; rintro e wA ⟨rfl, hbA⟩; have acc := acc.trans (hbA.mono acc.size); have hT := HT.out.keep hbA; clear hbA)
      | (go_at_call 10; refine (cN _).mono ?_; rintro e w1 ⟨db, rfl, hS1⟩)
      | (go_at_call 27; refine (DS.fuse hS1 a1 (by omega)).mono ?_; rintro e w2 ⟨rfl, hS⟩))
    rw [hmx] at hS
    have HT := Lib.hid hT
    obtain ⟨sa, sc, rfl, hsc, hsT⟩ := hT
    have HA := Lib.hid hsT
    clear hsT hS1 cH cN hmx
    have hS0 : DS wA w2 db ⟨65536, a1, [], []⟩ := hS
    clear hS
    go_loopw [7, 8] (fun vl vi wr => ∃ (k : Nat) (st : Ds), vi = .int .i64 k ∧ k ≤ S.length ∧ vl = .int .i64 st.fuse ∧ 0 ≤ st.fuse ∧ st.fuse ≤ 255 ∧ st.L.length ≤ k ∧ DS wA wr db st) (fun _ vi _ => S.length - (intOf vi).toNat)
    case atStart => exact ⟨0, ⟨65536, a1, [], []⟩, rfl, Nat.zero_le _, rfl, b0, b9, Nat.zero_le _, hS0⟩
    case round =>
      clear hS0 b0 b9
      obtain ⟨k, ⟨room, f, F, L⟩, rfl, hk, rfl, f0, f9, hL, hS⟩ := hrel
      simp only at f0 f9 hL
      by_cases hlt : k < S.length
      · obtain ⟨⟨op, sA, sB, n, m⟩, hx⟩ : ∃ x, S[k]? = some x := ⟨_, List.getElem?_eq_getElem hlt⟩
        obtain ⟨_, sb, so, rfl, hb1, c0, c1, c2, c3, c4⟩ := HA.out k _ hx
        have hmem := HM.out _ (List.mem_of_getElem? hx)
        simp only at hmem c0 c1 c2 c3 c4
        have bel := hS.bel
        have d0 := (bel.cell hb1).trans c0
        have d1 := (bel.cell hb1).trans c1
        have d2 := (bel.cell hb1).trans c2
        have d3 := (bel.cell hb1).trans c3
        have d4 := (bel.cell hb1).trans c4
        have hki : (k : Int) < (S.length : Int) := by omega
        have hk0 : (0 : Int) ≤ (k : Int) := by omega
        have hbw : Below wr.heap.size wr (wr.alloc (.cells #[.int .i64 op, .string sA, .string sB, .int .i64 n, .int .i64 m] 33)) := (Below.refl _ _).alloc (Nat.le_refl _) _
        have hS2 := hS.below hbw
        have hsz : (wr.alloc (.cells #[.int .i64 op, .string sA, .string sB, .int .i64 n, .int .i64 m] 33)).heap.size = wr.heap.size + 1 := by simp
        have q0 := cell_new wr #[.int .i64 op, .string sA, .string sB, .int .i64 n, .int .i64 m] 33 0
        have q1 := cell_new wr #[.int .i64 op, .string sA, .string sB, .int .i64 n, .int .i64 m] 33 1
        have q2 := cell_new wr #[.int .i64 op, .string sA, .string sB, .int .i64 n, .int .i64 m] 33 2
        have q3 := cell_new wr #[.int .i64 op, .string sA, .string sB, .int .i64 n, .int .i64 m] 33 3
        clear c0 c1 c2 c3 c4 hbw hx bel hlt
        have Hacc := Lib.hid acc
        clear acc
        have p0 : (wr.alloc (.cells #[.int .i64 op, .string sA, .string sB, .int .i64 n, .int .i64 m] 33)).cell? ⟨wr.heap.size, 0, none⟩ = some (.int .i64 op) := q0.trans rfl
        have p1 : (wr.alloc (.cells #[.int .i64 op, .string sA, .string sB, .int .i64 n, .int .i64 m] 33)).cell? ⟨wr.heap.size, 1, none⟩ = some (.string sA) := q1.trans rfl
        have p2 : (wr.alloc (.cells #[.int .i64 op, .string sA, .string sB, .int .i64 n, .int .i64 m] 33)).cell? ⟨wr.heap.size, 2, none⟩ = some (.string sB) := q2.trans rfl
        have p3 : (wr.alloc (.cells #[.int .i64 op, .string sA, .string sB, .int .i64 n, .int .i64 m] 33)).cell? ⟨wr.heap.size, 3, none⟩ = some (.int .i64 n) := q3.trans rfl
        clear q0 q1 q2 q3
        go_upto_region 12 with fail
        clear hS d0 d1 d2 d3 d4
        generalize (wr.alloc (.cells #[.int .i64 op, .string sA, .string sB, .int .i64 n, .int .i64 m] 33)) = wa at *
        obtain ⟨bs, hbs⟩ : ∃ b, wr.heap.size = b := ⟨_, rfl⟩
        rw [hbs] at p0 p1 p2 p3 hsz ⊢
        clear hbs
        go_upto_region 13 with (first
          | (go_at_call 16; refine (loose2 hS2).mono ?_; rintro _ w5 ⟨rfl, rfl⟩)
          | (go_at_call 14; refine (left2 hS2).mono ?_; rintro _ w3 ⟨rfl, hb3⟩))
        have hS3 := hS2.below hb3
        have r0 := (hb3.cell (p := ⟨bs, 0, none⟩) (by show bs < _; omega)).trans p0
        have r1 := (hb3.cell (p := ⟨bs, 1, none⟩) (by show bs < _; omega)).trans p1
        have r2 := (hb3.cell (p := ⟨bs, 2, none⟩) (by show bs < _; omega)).trans p2
        have r3 := (hb3.cell (p := ⟨bs, 3, none⟩) (by show bs < _; omega)).trans p3
        clear p0 p1 p2 p3 hb3 hS2 hsz
        by_cases h0 : op = 0
        · subst h0
          have hz := fz_app ⟨room, f, F, L⟩ sA sB
          have cc := DS.append hS3 sA sB (by omega) (by omega) (by show L.length ≤ 1000000; omega)
          unfold ptr at cc
          generalize appS ⟨room, f, F, L⟩ sA sB = r at hz cc
          obtain ⟨e, room', f', F', L'⟩ := r
          obtain ⟨z1, z2, z3, z4⟩ := hz
          simp only at z1 z2 z3 z4 cc
          go_upto_region 24 with (go_at_call 19; refine cc.mono ?_; rintro _ w4 ⟨rfl, hS4⟩)
          clear cc r0 r1 r2 r3 hS3
          by_cases hf : f = 0
          · subst hf
            obtain rfl : e = 60 := z1.2 rfl
            have hst := z2 rfl
            simp only [Ds.mk.injEq] at hst
            obtain ⟨rfl, rfl, rfl, rfl⟩ := hst
            clear z1 z2 z3
            go_wp2_with (first
              | (go_at_call 16; refine (loose2 hS4).mono ?_; rintro _ w6 ⟨rfl, rfl⟩)
              | (go_at_call 14; refine (left2 hS4).mono ?_; rintro _ w6 ⟨rfl, hb6⟩; have hS6 := hS4.below hb6))
            go_roundw
            case rel => exact ⟨k + 1, _, by go_num, by omega, rfl, f0, f9, Nat.le_succ_of_le hL, hS6⟩
            case measure => simp [intOf]; omega
          · have hp : 0 < f := by omega
            have hne : ¬ e = 60 := fun h => hf (z1.1 h)
            have hne2 : (e == 60) = false := beq_eq_false_iff_ne.2 hne
            have hf2 : (f == 0) = false := beq_eq_false_iff_ne.2 hf
            obtain rfl : f' = f - 1 := z3 hp
            have hw1 : IntKind.i64.wrap (f - 1) = f - 1 := IntWalk.i64_in _ (by omega)
            have hmx : max (f - 1) 0 = f - 1 := by omega
            clear z1 z2 z3
            go_wp2
            go_roundw
            case rel => exact ⟨k + 1, _, by go_num, by omega, rfl, by show 0 ≤ f - 1; omega, by show f - 1 ≤ 255; omega, Nat.le_trans z4 (by omega), hS4⟩
            case measure => simp [intOf]; omega
        by_cases h1 : op = 1
        · subst h1
          have hz := fz_cut ⟨room, f, F, L⟩ sA n
          have cc := DS.cut hS3 sA n (by omega) (by show L.length ≤ 1000000; omega)
          unfold ptr at cc
          generalize cutS ⟨room, f, F, L⟩ sA n = r at hz cc
          obtain ⟨e, room', f', F', L'⟩ := r
          obtain ⟨z1, z2, z3, z4⟩ := hz
          simp only at z1 z2 z3 z4 cc
          go_upto_region 24 with (go_at_call 20; refine cc.mono ?_; rintro _ w4 ⟨rfl, hS4⟩)
          clear cc r0 r1 r2 r3 hS3
          by_cases hf : f = 0
          · subst hf
            obtain rfl : e = 60 := z1.2 rfl
            have hst := z2 rfl
            simp only [Ds.mk.injEq] at hst
            obtain ⟨rfl, rfl, rfl, rfl⟩ := hst
            clear z1 z2 z3
            go_wp2_with (first
              | (go_at_call 16; refine (loose2 hS4).mono ?_; rintro _ w6 ⟨rfl, rfl⟩)
              | (go_at_call 14; refine (left2 hS4).mono ?_; rintro _ w6 ⟨rfl, hb6⟩; have hS6 := hS4.below hb6))
            go_roundw
            case rel => exact ⟨k + 1, _, by go_num, by omega, rfl, f0, f9, Nat.le_succ_of_le hL, hS6⟩
            case measure => simp [intOf]; omega
          · have hp : 0 < f := by omega
            have hne : ¬ e = 60 := fun h => hf (z1.1 h)
            have hne2 : (e == 60) = false := beq_eq_false_iff_ne.2 hne
            have hf2 : (f == 0) = false := beq_eq_false_iff_ne.2 hf
            obtain rfl : f' = f - 1 := z3 hp
            have hw1 : IntKind.i64.wrap (f - 1) = f - 1 := IntWalk.i64_in _ (by omega)
            have hmx : max (f - 1) 0 = f - 1 := by omega
            clear z1 z2 z3
            go_wp2
            go_roundw
            case rel => exact ⟨k + 1, _, by go_num, by omega, rfl, by show 0 ≤ f - 1; omega, by show f - 1 ≤ 255; omega, Nat.le_trans z4 (by omega), hS4⟩
            case measure => simp [intOf]; omega
        by_cases h2 : op = 2
        · subst h2
          have hz := fz_ren ⟨room, f, F, L⟩ sA sB
          have cc := DS.ren hS3 sA sB (by omega) (by omega) (by show L.length ≤ 1000000; omega)
          unfold ptr at cc
          generalize renS ⟨room, f, F, L⟩ sA sB = r at hz cc
          obtain ⟨e, room', f', F', L'⟩ := r
          obtain ⟨z1, z2, z3, z4⟩ := hz
          simp only at z1 z2 z3 z4 cc
          go_upto_region 24 with (go_at_call 21; refine cc.mono ?_; rintro _ w4 ⟨rfl, hS4⟩)
          clear cc r0 r1 r2 r3 hS3
          by_cases hf : f = 0
          · subst hf
            obtain rfl : e = 60 := z1.2 rfl
            have hst := z2 rfl
            simp only [Ds.mk.injEq] at hst
            obtain ⟨rfl, rfl, rfl, rfl⟩ := hst
            clear z1 z2 z3
            go_wp2_with (first
              | (go_at_call 16; refine (loose2 hS4).mono ?_; rintro _ w6 ⟨rfl, rfl⟩)
              | (go_at_call 14; refine (left2 hS4).mono ?_; rintro _ w6 ⟨rfl, hb6⟩; have hS6 := hS4.below hb6))
            go_roundw
            case rel => exact ⟨k + 1, _, by go_num, by omega, rfl, f0, f9, Nat.le_succ_of_le hL, hS6⟩
            case measure => simp [intOf]; omega
          · have hp : 0 < f := by omega
            have hne : ¬ e = 60 := fun h => hf (z1.1 h)
            have hne2 : (e == 60) = false := beq_eq_false_iff_ne.2 hne
            have hf2 : (f == 0) = false := beq_eq_false_iff_ne.2 hf
            obtain rfl : f' = f - 1 := z3 hp
            have hw1 : IntKind.i64.wrap (f - 1) = f - 1 := IntWalk.i64_in _ (by omega)
            have hmx : max (f - 1) 0 = f - 1 := by omega
            clear z1 z2 z3
            go_wp2
            go_roundw
            case rel => exact ⟨k + 1, _, by go_num, by omega, rfl, by show 0 ≤ f - 1; omega, by show f - 1 ≤ 255; omega, Nat.le_trans z4 (by omega), hS4⟩
            case measure => simp [intOf]; omega
        by_cases h3 : op = 3
        · subst h3
          have hz := fz_rem ⟨room, f, F, L⟩ sA
          have cc := DS.rem hS3 sA (by omega) (by show L.length ≤ 1000000; omega)
          unfold ptr at cc
          generalize remS ⟨room, f, F, L⟩ sA = r at hz cc
          obtain ⟨e, room', f', F', L'⟩ := r
          obtain ⟨z1, z2, z3, z4⟩ := hz
          simp only at z1 z2 z3 z4 cc
          go_upto_region 24 with (go_at_call 22; refine cc.mono ?_; rintro _ w4 ⟨rfl, hS4⟩)
          clear cc r0 r1 r2 r3 hS3
          by_cases hf : f = 0
          · subst hf
            obtain rfl : e = 60 := z1.2 rfl
            have hst := z2 rfl
            simp only [Ds.mk.injEq] at hst
            obtain ⟨rfl, rfl, rfl, rfl⟩ := hst
            clear z1 z2 z3
            go_wp2_with (first
              | (go_at_call 16; refine (loose2 hS4).mono ?_; rintro _ w6 ⟨rfl, rfl⟩)
              | (go_at_call 14; refine (left2 hS4).mono ?_; rintro _ w6 ⟨rfl, hb6⟩; have hS6 := hS4.below hb6))
            go_roundw
            case rel => exact ⟨k + 1, _, by go_num, by omega, rfl, f0, f9, Nat.le_succ_of_le hL, hS6⟩
            case measure => simp [intOf]; omega
          · have hp : 0 < f := by omega
            have hne : ¬ e = 60 := fun h => hf (z1.1 h)
            have hne2 : (e == 60) = false := beq_eq_false_iff_ne.2 hne
            have hf2 : (f == 0) = false := beq_eq_false_iff_ne.2 hf
            obtain rfl : f' = f - 1 := z3 hp
            have hw1 : IntKind.i64.wrap (f - 1) = f - 1 := IntWalk.i64_in _ (by omega)
            have hmx : max (f - 1) 0 = f - 1 := by omega
            clear z1 z2 z3
            go_wp2
            go_roundw
            case rel => exact ⟨k + 1, _, by go_num, by omega, rfl, by show 0 ≤ f - 1; omega, by show f - 1 ≤ 255; omega, Nat.le_trans z4 (by omega), hS4⟩
            case measure => simp [intOf]; omega
        by_cases h4 : op = 4
        · subst h4
          have hz := fz_sync ⟨room, f, F, L⟩ 
          have cc := DS.sync hS3  (by show L.length ≤ 1000000; omega)
          unfold ptr at cc
          generalize syncS ⟨room, f, F, L⟩  = r at hz cc
          obtain ⟨e, room', f', F', L'⟩ := r
          obtain ⟨z1, z2, z3, z4⟩ := hz
          simp only at z1 z2 z3 z4 cc
          go_upto_region 24 with (go_at_call 23; refine cc.mono ?_; rintro _ w4 ⟨rfl, hS4⟩)
          clear cc r0 r1 r2 r3 hS3
          by_cases hf : f = 0
          · subst hf
            obtain rfl : e = 60 := z1.2 rfl
            have hst := z2 rfl
            simp only [Ds.mk.injEq] at hst
            obtain ⟨rfl, rfl, rfl, rfl⟩ := hst
            clear z1 z2 z3
            go_wp2_with (first
              | (go_at_call 16; refine (loose2 hS4).mono ?_; rintro _ w6 ⟨rfl, rfl⟩)
              | (go_at_call 14; refine (left2 hS4).mono ?_; rintro _ w6 ⟨rfl, hb6⟩; have hS6 := hS4.below hb6))
            go_roundw
            case rel => exact ⟨k + 1, _, by go_num, by omega, rfl, f0, f9, Nat.le_succ_of_le hL, hS6⟩
            case measure => simp [intOf]; omega
          · have hp : 0 < f := by omega
            have hne : ¬ e = 60 := fun h => hf (z1.1 h)
            have hne2 : (e == 60) = false := beq_eq_false_iff_ne.2 hne
            have hf2 : (f == 0) = false := beq_eq_false_iff_ne.2 hf
            obtain rfl : f' = f - 1 := z3 hp
            have hw1 : IntKind.i64.wrap (f - 1) = f - 1 := IntWalk.i64_in _ (by omega)
            have hmx : max (f - 1) 0 = f - 1 := by omega
            clear z1 z2 z3
            go_wp2
            go_roundw
            case rel => exact ⟨k + 1, _, by go_num, by omega, rfl, by show 0 ≤ f - 1; omega, by show f - 1 ≤ 255; omega, Nat.le_trans z4 (by omega), hS4⟩
            case measure => simp [intOf]; omega
        go_wp2
        go_roundw
        case rel => exact ⟨k + 1, _, by go_num, by omega, rfl, f0, f9, by show L.length ≤ k + 1; omega, hS3⟩
        case measure => simp [intOf]; omega
      · have hkl : ¬ (k : Int) < (S.length : Int) := by omega
        have Hacc := Lib.hid acc
        have cr := DS.read hS ⟨#[110, 111, 110, 101]⟩ (by decide)
        have ca := fun (w' : World) (h : DS wA w' db (crashS ⟨room, f, F, L⟩ 1000 0).2) => DS.append h ⟨#[97]⟩ ⟨#[]⟩ (by decide) (by decide) (Nat.zero_le _)
        have hz := fz_app (crashS ⟨room, f, F, L⟩ 1000 0).2 ⟨#[97]⟩ ⟨#[]⟩
        have hne : ¬ (appS (crashS ⟨room, f, F, L⟩ 1000 0).2 ⟨#[97]⟩ ⟨#[]⟩).1 = 60 := fun h => by
          have := hz.1.1 h
          change (-1 : Int) = 0 at this
          omega
        clear hz
        have cx := fun (w' : World) (h : DS wA w' db ⟨room, f, F, L⟩) => DS.crash h 1000 0 (by show L.length ≤ 1000000; omega)
        generalize (crashS ⟨room, f, F, L⟩ 1000 0).2 = stc at *
        generalize appS stc ⟨#[97]⟩ ⟨#[]⟩ = r at *
        obtain ⟨e7, st7⟩ := r
        unfold ptr at cr ca cx
        simp only at ca hne
        have hre : (readE f (Ds.now ⟨room, f, F, L⟩) ⟨#[110, 111, 110, 101]⟩ = 60 ↔ f = 0) := by
          unfold readE
          by_cases h : f = 0
          · rw [if_pos h]; exact ⟨fun _ => h, fun _ => rfl⟩
          · rw [if_neg h]; refine ⟨fun h' => ?_, fun h' => absurd h' h⟩
            split at h' <;> cases h'
        simp only at cr
        generalize readE f (Ds.now ⟨room, f, F, L⟩) ⟨#[110, 111, 110, 101]⟩ = ec at *
        generalize readS f (Ds.now ⟨room, f, F, L⟩) ⟨#[110, 111, 110, 101]⟩ = sc at *
        have hn7 : (e7 != 60) = true := bne_iff_ne.2 hne
        clear acc hS HT HA HM
        by_cases hf : f = 0
        · subst hf
          obtain rfl : ec = 60 := hre.2 rfl
          go_wp2_with (first
            | (go_at_call 25; refine cr.mono ?_; rintro _ w5 ⟨rfl, hS5⟩)
            | (go_at_call 26; refine (cx _ hS5).mono ?_; rintro _ w6 ⟨rfl, hS6⟩)
            | (go_at_call 19; refine (ca _ hS6).mono ?_; rintro _ w7 ⟨rfl, hS7⟩)
            | (go_at_call 9; refine (hwks _).mono ?_; rintro _ w8 ⟨rfl, hb⟩))
          go_ret
          have hw7 := Hacc.out.trans (hS7.bel.mono Hacc.out.size)
          exact ⟨rfl, hw7.trans (hb.mono hw7.size)⟩
        · have hec : ¬ ec = 60 := fun h => hf (hre.1 h)
          have hec2 : (ec == 60) = false := beq_eq_false_iff_ne.2 hec
          have hf2 : (f == 0) = false := beq_eq_false_iff_ne.2 hf
          clear hre
          go_wp2_with (first
            | (go_at_call 25; refine cr.mono ?_; rintro _ w5 ⟨rfl, hS5⟩)
            | (go_at_call 26; refine (cx _ hS5).mono ?_; rintro _ w6 ⟨rfl, hS6⟩)
            | (go_at_call 19; refine (ca _ hS6).mono ?_; rintro _ w7 ⟨rfl, hS7⟩)
            | (go_at_call 9; refine (hwks _).mono ?_; rintro _ w8 ⟨rfl, hb⟩))
          go_ret
          have hw7 := Hacc.out.trans (hS7.bel.mono Hacc.out.size)
          exact ⟨rfl, hw7.trans (hb.mono hw7.size)⟩

/-! ### From the walk to the statement -/
theorem own : ownKnob Try.prog.godebug = none := by kernel_rfl
set_option maxRecDepth 100000 in
theorem lifted (os : Os) (started : os.Started) (H : Type) (enc : TypeId × Value → H) :
    ReturnsInHanded {} Try.checked os 5 .any (Rows.diskFuseSpec.pre6 enc Try.prog Try.f5 Rows.diskFuseRow.domain false) (Rows.diskFuseSpec.post enc Try.prog Try.f5 false true false false) := by
  refine returnsInHanded_of_change_sized (C := Try.checked) own started (by kernel_rfl) Try.func5
    (ChangeSpec.witness6 (enc := enc) (C := Try.checked) false ⟨#[], #[.slice none 0 0, .int .u8 0], []⟩ 8 (by kernel_rfl) (by kernel_rfl) (by kernel_rfl) (by kernel_rfl)) ?_
  intro W base args ds gs before hval0 hW hcnd hsz0 _
  have hval : ∀ (j : Nat) t v, Try.f5.params[j]? = some t → args[j]? = some v → Value.okWide Try.prog W .any base t v := hval0
  have hsz : (DataW.weightsEach Try.prog (Try.f5.params.toList ++ Rows.diskFuseSpec.plain.varTypes Try.prog) (ds ++ gs)).all (· ≤ reachBytes) = true := hsz0
  have hW' := hW
  obtain ⟨p, q, hA0, hV, rfl, hfz, hnd⟩ := hW
  have hA : DataW.TrodAll enc Try.prog W 0 (fun _ => true) true Try.f5.params.toList args.toList ds p := hA0
  rw [Try.params5] at hA hval hsz
  obtain ⟨v0, vs0, d0, ds0, p0, q0, hargs, rfl, rfl, h0, r0⟩ := trodAll_cons hA
  obtain ⟨v1, vs1, d1, ds1, p1, q1, rfl, rfl, rfl, h1, r1⟩ := trodAll_cons r0
  obtain ⟨rfl, rfl, rfl⟩ := trodAll_nil r1
  obtain rfl : args = #[v0, v1] := by cases args; simp_all
  obtain ⟨rfl, rfl⟩ := trodVars_none hV
  have h0k := h0
  have hlt0 : ∀ x ∈ p0, x.block < W.heap.size := fun x hx => hW'.lt x (by simp [hx])
  obtain ⟨ba0, bn0, bc0, rfl⟩ := okWide_slice Try.underlying22 (hval 0 22 v0 rfl rfl)
  obtain ⟨fuel0, hf0⟩ := h0
  obtain ⟨a0, hT0, n0⟩ := open_steps (c := bc0) hf0 (fun n hn => by have := List.all_eq_true.1 hsz n (DataW.weights_mem_each (j := 0) (t := 22) rfl rfl n hn); simpa using this)
  obtain ⟨a1, rfl, rfl, rfl, w1⟩ := open_int Try.underlying5 (hval 1 5 v1 rfl rfl) h1
  clear hA0 hval0 hsz0
  refine (walk a0 a1 w1 hT0 n0 W rfl).mono fun e W' ⟨he, bel⟩ => ?_
  subst he
  exact ⟨_, rfl, _, _, _, [], _, [], hW', trodAll_mk1 (shut_bool Try.underlying4 _), (trodAll_cons_mk (Below.trod (show laidOutB Try.prog = true by kernel_rfl) (by kernel_rfl) (of_decide_eq_true (by kernel_rfl)) h0k bel hlt0) (trodAll_cons_mk (shut_int Try.underlying5 w1) trodAll_mk0)), rfl, bel.frame _, fun h => by cases h⟩

theorem over : Rows.diskFuseRow.holds Try.pinned (OpenSpec.ofChange Rows.diskFuseSpec) :=
  OpenClaim.holds_of_wide 5 Try.f5 rfl rfl rfl rfl rfl rfl rfl ⟨rfl, rfl, rfl, rfl, rfl⟩ rfl rfl rfl rfl rfl (by kernel_rfl) Try.func5 (by kernel_rfl)
    (of_decide_eq_true (by kernel_rfl)) (by unfold Func.isWrapper; first | (rw [if_pos (by decide +kernel)]; kernel_rfl) | (rw [if_neg (by decide +kernel)]; exact ⟨rfl, rfl⟩))
    (fun os started H enc _ => lifted os started H enc)

/-- THE STATEMENT -/
theorem proved : Rows.DiskFuseSaid := over
end Go.Proofs.Ytojmbbmjmbppdaa.diskFuse
