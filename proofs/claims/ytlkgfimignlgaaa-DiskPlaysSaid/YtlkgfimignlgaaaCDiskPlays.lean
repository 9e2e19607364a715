/-
  For every room and every script codicillaw06.DiskPlays returns true: each call answers as the document's own disk, and all files are the same. No conditions. (gen_dplays.py writes it.)
-/
import Derived.Test.YtlkgfimignlgaaaCDiskRv
set_option linter.unusedSimpArgs false
set_option linter.unusedVariables false
namespace Go.Proofs.Ytlkgfimignlgaaa.diskPlays
open Go.ChangeShapes Go.WideShapes Go.ChangeAt Go.RowKit
open Go.ChangeMaps (open_string shut_string)
set_option linter.unusedVariables false
set_option linter.unusedSimpArgs false
set_option maxHeartbeats 40000000 in
set_option maxRecDepth 10000000 in
theorem walk (room : Int) (S : List Stp) (w0 : (Lit.int .i64 room).wf = true) {v : Value} {w : World} (hT : IsSteps w S v) (hn : S.length ≤ maxLen) (w' : World) (hw : w = w') :
    Calls Try.prog 3 #[.int .i64 room, v] w fun e w' => e = .returned (.bool true) ∧ Below w.heap.size w w' := by
  clear hw w'
  have hwks := works_any
  have acc : Below w.heap.size w w := Below.refl _ _
  have cH := heavy_any S v w hT hn
  obtain ⟨sa, sc, rfl, hsc, hsT⟩ := hT
  cases hv : heavyS S
  case true =>
    rw [hv] at cH
    clear hv hsT
    go_enter Try.func3, Try.ntmps3
    go_wp2_with (first
      | (go_at_call 8; refine cH.mono ?_; rintro e w' ⟨rfl, hb⟩; have acc := acc.trans (hb.mono acc.size); clear hb)
      | (go_at_call 9; refine (hwks _).mono ?_; rintro e w' ⟨rfl, hb⟩; have acc := acc.trans (hb.mono acc.size); clear hb))
    go_ret
    exact ⟨rfl, acc⟩
  case false =>
    rw [hv] at cH
    obtain ⟨hl100, hl4096⟩ := light_S hv
    have HM : Hid (∀ x ∈ S, x.a.size + x.b.size ≤ 4096) := Lib.hid fun x hx => Nat.le_trans (sumS_mem hx) hl4096
    have HA := Lib.hid hsT
    clear hv hl4096 hn hsT
    cases hr : roomB room with
    | false =>
      have cN := fun w => new_no room w hr
      have cM := fun w => rnew_no room w hr
      clear hr
      go_enter Try.func3, Try.ntmps3
      go_wp2_with (first
        | (go_at_call 8; refine cH.mono ?_; rintro e w' ⟨rfl, hb⟩; have acc := acc.trans (hb.mono acc.size); clear hb)
        | (go_at_call 10; refine (cN _).mono ?_; rintro e w3 ⟨rfl, rfl⟩)
        | (go_at_call 11; refine (cM _).mono ?_; rintro e w4 ⟨rfl, rfl⟩)
        | (go_at_call 9; refine (hwks _).mono ?_; rintro e w' ⟨rfl, hb⟩; have acc := acc.trans (hb.mono acc.size); clear hb))
      go_ret
      exact ⟨rfl, acc⟩
    | true =>
      have cN := fun w => DS.new room w hr
      have HRB := Lib.hid hr
      unfold ptr New0 at cN
      clear hr
      go_enter Try.func3, Try.ntmps3
      go_upto_region 4 with (first
        | (go_at_call 8; refine cH.mono ?_; rintro e wA ⟨rfl, hb⟩; have acc := acc.trans (hb.mono acc.size); clear hb)
        | (go_at_call 10; refine (cN _).mono ?_; rintro e w1 ⟨db, rfl, hS1⟩))
      have cM := BX.new (st := ⟨room, -1, [], []⟩) hS1 rfl HRB.out
      go_wp2_with (go_at_call 11; refine cM.mono ?_; rintro e w2 ⟨rb, rfl, hX0⟩)
      have Hacc := Lib.hid acc
      clear cH cN cM hS1 acc
      go_loopw [8] (fun v8 wr => ∃ (k : Nat) (st : Ds), v8 = .int .i64 k ∧ k ≤ S.length ∧ BX wA wr db rb st st [] ∧ SortF st.S ∧ st.L.length ≤ k) (fun v8 _ => S.length - (intOf v8).toNat)
      case atStart => exact ⟨0, ⟨room, -1, [], []⟩, rfl, Nat.zero_le _, hX0, List.Pairwise.nil, Nat.zero_le _⟩
      case round =>
      clear hX0
      obtain ⟨k, st, rfl, hk, hX, hSo, hL⟩ := hrel
      by_cases hlt : k < S.length
      · obtain ⟨⟨op, sA, sB, n, m⟩, hx⟩ : ∃ x, S[k]? = some x := ⟨_, List.getElem?_eq_getElem hlt⟩
        obtain ⟨⟨_, hwn⟩, sb, so, rfl, hb1, c0, c1, c2, c3, c4⟩ := HA.out k _ hx
        have hmem := HM.out _ (List.mem_of_getElem? hx)
        simp only at hmem c0 c1 c2 c3 c4 hwn
        have hn2 : n ≤ 9223372036854775807 := by
          have := bounds_i64 hwn
          omega
        have bel := Hacc.out.trans (hX.bel.mono Hacc.out.size)
        have d0 := (bel.cell hb1).trans c0
        have d1 := (bel.cell hb1).trans c1
        have d2 := (bel.cell hb1).trans c2
        have d3 := (bel.cell hb1).trans c3
        have d4 := (bel.cell hb1).trans c4
        have hki : (k : Int) < (S.length : Int) := by omega
        have hk0 : (0 : Int) ≤ (k : Int) := by omega
        obtain ⟨hXd, _⟩ := hX.below (drew_bel wr)
        have cP := play_any wA wr.drew db rb st op sA sB n m hXd hSo (by omega) hmem hn2
        go_upto_region 12 with fail
        have hS0 : wr.drew.cell? ⟨sb, so + k * 5, none⟩ = some (.int .i64 op) ∧ wr.drew.cell? ⟨sb, so + k * 5 + 1, none⟩ = some (.string sA) ∧ wr.drew.cell? ⟨sb, so + k * 5 + 2, none⟩ = some (.string sB) ∧ wr.drew.cell? ⟨sb, so + k * 5 + 3, none⟩ = some (.int .i64 n) ∧ wr.drew.cell? ⟨sb, so + k * 5 + 4, none⟩ = some (.int .i64 m) := ⟨d0, d1, d2, d3, d4⟩
        refine wp_region_any (by kernel_rfl) ?_
        change wpAny _ _ _ _ 46 _ _ (World.drew _)
        generalize wr.drew = wd at *
        clear d0 d1 d2 d3 d4 c0 c2 c3 c4 hx hXd hX bel hwn hn2 hSo
        refine HT.wpAny_of_G (k := 6) (S := fun w' => w'.cell? ⟨sb, so + k * 5, none⟩ = some (.int .i64 op) ∧ w'.cell? ⟨sb, so + k * 5 + 1, none⟩ = some (.string sA) ∧ w'.cell? ⟨sb, so + k * 5 + 2, none⟩ = some (.string sB) ∧ w'.cell? ⟨sb, so + k * 5 + 3, none⟩ = some (.int .i64 n) ∧ w'.cell? ⟨sb, so + k * 5 + 4, none⟩ = some (.int .i64 m)) _ _ _ _ ?_

        refine HT.takeF_at 7 (i := 0) (v := ?_) rfl rfl (by kernel_rfl) (by kernel_rfl) (by kernel_rfl) (by kernel_rfl) (by kernel_rfl) (by kernel_rfl) (fun _ _ _ h => h) hS0 (Or.inl ⟨by rfl, ?_⟩) ?_
        rotate_left
        · intro wq hwq
          obtain ⟨y0, y1, y2, y3, y4⟩ := hwq
          go_simp
          try with_reducible rfl
        simp only [Act.put, List.setIfInBounds_toArray, List.set_cons_zero, List.set_cons_succ]

        refine HT.takeF_at 7 (i := 1) (v := ?_) rfl rfl (by kernel_rfl) (by kernel_rfl) (by kernel_rfl) (by kernel_rfl) (by kernel_rfl) (by kernel_rfl) (fun _ _ _ h => h) hS0 (Or.inl ⟨by rfl, ?_⟩) ?_
        rotate_left
        · intro wq hwq
          obtain ⟨y0, y1, y2, y3, y4⟩ := hwq
          go_simp
          try with_reducible rfl
        simp only [Act.put, List.setIfInBounds_toArray, List.set_cons_zero, List.set_cons_succ]

        refine HT.takeF_at 7 (i := 2) (v := ?_) rfl rfl (by kernel_rfl) (by kernel_rfl) (by kernel_rfl) (by kernel_rfl) (by kernel_rfl) (by kernel_rfl) (fun _ _ _ h => h) hS0 (Or.inl ⟨by rfl, ?_⟩) ?_
        rotate_left
        · intro wq hwq
          obtain ⟨y0, y1, y2, y3, y4⟩ := hwq
          go_simp
          try with_reducible rfl
        simp only [Act.put, List.setIfInBounds_toArray, List.set_cons_zero, List.set_cons_succ]

        refine HT.takeF_at 7 (i := 3) (v := ?_) rfl rfl (by kernel_rfl) (by kernel_rfl) (by kernel_rfl) (by kernel_rfl) (by kernel_rfl) (by kernel_rfl) (fun _ _ _ h => h) hS0 (Or.inl ⟨by rfl, ?_⟩) ?_
        rotate_left
        · intro wq hwq
          obtain ⟨y0, y1, y2, y3, y4⟩ := hwq
          go_simp
          try with_reducible rfl
        simp only [Act.put, List.setIfInBounds_toArray, List.set_cons_zero, List.set_cons_succ]

        refine HT.takeF_at 7 (i := 4) (v := ?_) rfl rfl (by kernel_rfl) (by kernel_rfl) (by kernel_rfl) (by kernel_rfl) (by kernel_rfl) (by kernel_rfl) (fun _ _ _ h => h) hS0 (Or.inl ⟨by rfl, ?_⟩) ?_
        rotate_left
        · intro wq hwq
          obtain ⟨y0, y1, y2, y3, y4⟩ := hwq
          go_simp
          try with_reducible rfl
        simp only [Act.put, List.setIfInBounds_toArray, List.set_cons_zero, List.set_cons_succ]

        refine HT.takeF_at 7 (i := 5) (v := ?_) rfl rfl (by kernel_rfl) (by kernel_rfl) (by kernel_rfl) (by kernel_rfl) (by kernel_rfl) (by kernel_rfl) (fun _ _ _ h => h) hS0 (Or.inl ⟨by rfl, ?_⟩) ?_
        rotate_left
        · intro wq hwq
          obtain ⟨y0, y1, y2, y3, y4⟩ := hwq
          go_simp
          try with_reducible rfl
        simp only [Act.put, List.setIfInBounds_toArray, List.set_cons_zero, List.set_cons_succ]

        refine HT.wpAnyG_turn (k := 6) (by kernel_rfl) rfl (fun KK hKK => ?_)
        go_simp
        refine cP.mono ?_
        rintro e w2 ⟨rfl, st', hX, hSo, hL2⟩
        simp only
        refine hKK _ _ ?_
        clear hKK KK

        clear cP hS0
        have hl9 : st'.L.length ≤ 1000000 := by omega
        have hS0 : True := trivial
        have cFi := files_any wA w2 db rb st' hX hSo hl9
        unfold ptr at cFi
        have HSO := Lib.hid hSo
        clear hSo
        refine HT.wpAny_of_G (k := 11) (S := fun w' => True) _ _ _ _ ?_

        refine HT.takeF_at 7 (i := 7) (v := ?_) rfl rfl (by kernel_rfl) (by kernel_rfl) (by kernel_rfl) (by kernel_rfl) (by kernel_rfl) (by kernel_rfl) (fun _ _ _ h => h) hS0 (Or.inl ⟨by rfl, ?_⟩) ?_
        rotate_left
        · intro wq hwq
          clear hwq
          go_simp
          try with_reducible rfl
        simp only [Act.put, List.setIfInBounds_toArray, List.set_cons_zero, List.set_cons_succ]

        refine HT.takeF_at 7 (i := 8) (v := ?_) rfl rfl (by kernel_rfl) (by kernel_rfl) (by kernel_rfl) (by kernel_rfl) (by kernel_rfl) (by kernel_rfl) (fun _ _ _ h => h) hS0 (Or.inl ⟨by rfl, ?_⟩) ?_
        rotate_left
        · intro wq hwq
          clear hwq
          go_simp
          try with_reducible rfl
        simp only [Act.put, List.setIfInBounds_toArray, List.set_cons_zero, List.set_cons_succ]

        refine HT.takeF_at 7 (i := 9) (v := ?_) rfl rfl (by kernel_rfl) (by kernel_rfl) (by kernel_rfl) (by kernel_rfl) (by kernel_rfl) (by kernel_rfl) (fun _ _ _ h => h) hS0 (Or.inl ⟨by rfl, ?_⟩) ?_
        rotate_left
        · intro wq hwq
          clear hwq
          go_simp
          try with_reducible rfl
        simp only [Act.put, List.setIfInBounds_toArray, List.set_cons_zero, List.set_cons_succ]

        refine HT.takeF_at 7 (i := 10) (v := ?_) rfl rfl (by kernel_rfl) (by kernel_rfl) (by kernel_rfl) (by kernel_rfl) (by kernel_rfl) (by kernel_rfl) (fun _ _ _ h => h) hS0 (Or.inl ⟨by rfl, ?_⟩) ?_
        rotate_left
        · intro wq hwq
          clear hwq
          go_simp
          try with_reducible rfl
        simp only [Act.put, List.setIfInBounds_toArray, List.set_cons_zero, List.set_cons_succ]

        refine HT.wpAnyG_turn (k := 11) (by kernel_rfl) rfl (fun KK hKK => ?_)
        go_simp
        refine cFi.mono ?_
        rintro e w3 ⟨rfl, hb3⟩
        simp only
        refine hKK _ _ ?_
        clear hKK KK

        clear cFi
        have hX3 := (hX.below hb3).1
        have cL := hX3.dleft

        refine HT.take_at (i := 12) (v := ?_) rfl rfl (by kernel_rfl) (by kernel_rfl) (by kernel_rfl) (fun _ _ _ h => h) (Or.inl ⟨by rfl, ?_⟩) ?_
        rotate_left
        · intro wq
          go_simp
          try with_reducible rfl
        simp only [Act.put, List.setIfInBounds_toArray, List.set_cons_zero, List.set_cons_succ]

        refine HT.take_at (i := 13) (v := ?_) rfl rfl (by kernel_rfl) (by kernel_rfl) (by kernel_rfl) (fun _ _ _ h => h) (Or.inl ⟨by rfl, ?_⟩) ?_
        rotate_left
        · intro wq
          go_simp
          try with_reducible rfl
        simp only [Act.put, List.setIfInBounds_toArray, List.set_cons_zero, List.set_cons_succ]

        refine HT.take_at (i := 14) (v := ?_) rfl rfl (by kernel_rfl) (by kernel_rfl) (by kernel_rfl) (fun _ _ _ h => h) (Or.inl ⟨by rfl, ?_⟩) ?_
        rotate_left
        · intro wq
          go_simp
          try with_reducible rfl
        simp only [Act.put, List.setIfInBounds_toArray, List.set_cons_zero, List.set_cons_succ]

        refine HT.take_at (i := 15) (v := ?_) rfl rfl (by kernel_rfl) (by kernel_rfl) (by kernel_rfl) (fun _ _ _ h => h) (Or.inl ⟨by rfl, ?_⟩) ?_
        rotate_left
        · intro wq
          go_simp
          try with_reducible rfl
        simp only [Act.put, List.setIfInBounds_toArray, List.set_cons_zero, List.set_cons_succ]

        refine HT.take_at (i := 17) (v := ?_) rfl rfl (by kernel_rfl) (by kernel_rfl) (by kernel_rfl) (fun _ _ _ h => h) (Or.inl ⟨by rfl, ?_⟩) ?_
        rotate_left
        · intro wq
          go_simp
          try with_reducible rfl
        simp only [Act.put, List.setIfInBounds_toArray, List.set_cons_zero, List.set_cons_succ]

        refine HT.wpAny_one (i := 16) (by kernel_rfl) rfl (fun KK hKK => ?_)
        go_simp
        refine cL.mono ?_
        rintro e w4 ⟨rfl, hb4⟩
        simp only
        refine hKK _ _ ?_
        clear hKK KK

        have hX4 := (hX3.below hb4).1
        have cL2 := hX4.rleft hl9

        refine HT.wpAny_one (i := 18) (by kernel_rfl) rfl (fun KK hKK => ?_)
        go_simp
        refine cL2.mono ?_
        rintro e w5 ⟨rfl, hb5⟩
        simp only
        refine hKK _ _ ?_
        clear hKK KK

        have hX5 := (hX4.below hb5).1
        clear cL cL2 hX3 hX4
        generalize st'.room - ((sumF st'.now : Nat) : Int) = le at *

        refine HT.take_at (i := 19) (v := ?_) rfl rfl (by kernel_rfl) (by kernel_rfl) (by kernel_rfl) (fun _ _ _ h => h) (Or.inl ⟨by rfl, ?_⟩) ?_
        rotate_left
        · intro wq
          go_simp
          try with_reducible rfl
        simp only [Act.put, List.setIfInBounds_toArray, List.set_cons_zero, List.set_cons_succ]

        refine HT.take_at (i := 20) (v := ?_) rfl rfl (by kernel_rfl) (by kernel_rfl) (by kernel_rfl) (fun _ _ _ h => h) (Or.inl ⟨by rfl, ?_⟩) ?_
        rotate_left
        · intro wq
          go_simp
          try with_reducible rfl
        simp only [Act.put, List.setIfInBounds_toArray, List.set_cons_zero, List.set_cons_succ]

        refine HT.take_at (i := 21) (v := ?_) rfl rfl (by kernel_rfl) (by kernel_rfl) (by kernel_rfl) (fun _ _ _ h => h) (Or.inl ⟨by rfl, ?_⟩) ?_
        rotate_left
        · intro wq
          go_simp
          try with_reducible rfl
        simp only [Act.put, List.setIfInBounds_toArray, List.set_cons_zero, List.set_cons_succ]

        obtain ⟨la, lc, hll⟩ := hX5.rloose
        have cLo := hX5.dloose
        have hS0 : w5.cell? ⟨rb, 2, none⟩ = some (.slice la st'.L.length lc) := hll
        clear hll
        refine HT.wpAny_of_G (k := 29) (S := fun w' => w'.cell? ⟨rb, 2, none⟩ = some (.slice la st'.L.length lc)) _ _ _ _ ?_

        refine HT.takeF_at 8 (i := 22) (v := ?_) rfl rfl (by kernel_rfl) (by kernel_rfl) (by kernel_rfl) (by kernel_rfl) (by kernel_rfl) (by kernel_rfl) (fun _ _ _ h => h) hS0 (Or.inl ⟨by rfl, ?_⟩) ?_
        rotate_left
        · intro wq hwq
          have y0 := hwq
          go_simp
          try with_reducible rfl
        simp only [Act.put, List.setIfInBounds_toArray, List.set_cons_zero, List.set_cons_succ]

        refine HT.takeF_at 8 (i := 24) (v := ?_) rfl rfl (by kernel_rfl) (by kernel_rfl) (by kernel_rfl) (by kernel_rfl) (by kernel_rfl) (by kernel_rfl) (fun _ _ _ h => h) hS0 (Or.inl ⟨by rfl, ?_⟩) ?_
        rotate_left
        · intro wq hwq
          have y0 := hwq
          go_simp
          try with_reducible rfl
        simp only [Act.put, List.setIfInBounds_toArray, List.set_cons_zero, List.set_cons_succ]

        refine HT.takeF_at 8 (i := 25) (v := ?_) rfl rfl (by kernel_rfl) (by kernel_rfl) (by kernel_rfl) (by kernel_rfl) (by kernel_rfl) (by kernel_rfl) (fun _ _ _ h => h) hS0 (Or.inl ⟨by rfl, ?_⟩) ?_
        rotate_left
        · intro wq hwq
          have y0 := hwq
          go_simp
          try with_reducible rfl
        simp only [Act.put, List.setIfInBounds_toArray, List.set_cons_zero, List.set_cons_succ]

        refine HT.takeF_at 8 (i := 26) (v := ?_) rfl rfl (by kernel_rfl) (by kernel_rfl) (by kernel_rfl) (by kernel_rfl) (by kernel_rfl) (by kernel_rfl) (fun _ _ _ h => h) hS0 (Or.inl ⟨by rfl, ?_⟩) ?_
        rotate_left
        · intro wq hwq
          have y0 := hwq
          go_simp
          try with_reducible rfl
        simp only [Act.put, List.setIfInBounds_toArray, List.set_cons_zero, List.set_cons_succ]

        refine HT.takeF_at 8 (i := 27) (v := ?_) rfl rfl (by kernel_rfl) (by kernel_rfl) (by kernel_rfl) (by kernel_rfl) (by kernel_rfl) (by kernel_rfl) (fun _ _ _ h => h) hS0 (Or.inl ⟨by rfl, ?_⟩) ?_
        rotate_left
        · intro wq hwq
          have y0 := hwq
          go_simp
          try with_reducible rfl
        simp only [Act.put, List.setIfInBounds_toArray, List.set_cons_zero, List.set_cons_succ]

        refine HT.takeF_at 8 (i := 28) (v := ?_) rfl rfl (by kernel_rfl) (by kernel_rfl) (by kernel_rfl) (by kernel_rfl) (by kernel_rfl) (by kernel_rfl) (fun _ _ _ h => h) hS0 (Or.inl ⟨by rfl, ?_⟩) ?_
        rotate_left
        · intro wq hwq
          have y0 := hwq
          go_simp
          try with_reducible rfl
        simp only [Act.put, List.setIfInBounds_toArray, List.set_cons_zero, List.set_cons_succ]

        refine HT.wpAnyG_one (i := 23) (by kernel_rfl) rfl (fun KK hKK => ?_)
        go_simp
        refine cLo.mono ?_
        rintro e w6 ⟨rfl, rfl⟩
        simp only
        refine hKK _ _ hS0 ?_
        clear hKK KK

        refine HT.wpAnyG_turn (k := 29) (by kernel_rfl) rfl (fun KK hKK => ?_)
        go_simp
        refine hKK _ _ ?_
        clear hKK KK

        clear hS0 cLo
        have bel5 := Hacc.out.trans (hX5.bel.mono Hacc.out.size)
        have hS0 : w6.cell? ⟨sb, so + k * 5 + 1, none⟩ = some (.string sA) := (bel5.cell (p := ⟨sb, so + k * 5 + 1, none⟩) hb1).trans c1
        have cA := name_any sA w6 (by omega)
        have cB := fun w => rname_any sA w (by omega)

        refine HT.take_at (i := 30) (v := ?_) rfl rfl (by kernel_rfl) (by kernel_rfl) (by kernel_rfl) (fun _ _ _ h => h) (Or.inl ⟨by rfl, ?_⟩) ?_
        rotate_left
        · intro wq
          go_simp
          try with_reducible rfl
        simp only [Act.put, List.setIfInBounds_toArray, List.set_cons_zero, List.set_cons_succ]

        refine HT.take_at (i := 31) (v := ?_) rfl rfl (by kernel_rfl) (by kernel_rfl) (by kernel_rfl) (fun _ _ _ h => h) (Or.inl ⟨by rfl, ?_⟩) ?_
        rotate_left
        · intro wq
          go_simp
          try with_reducible rfl
        simp only [Act.put, List.setIfInBounds_toArray, List.set_cons_zero, List.set_cons_succ]

        refine HT.wpAny_of_G (k := 43) (S := fun w' => w'.cell? ⟨sb, so + k * 5 + 1, none⟩ = some (.string sA)) _ _ _ _ ?_

        refine HT.takeF_at 8 (i := 32) (v := ?_) rfl rfl (by kernel_rfl) (by kernel_rfl) (by kernel_rfl) (by kernel_rfl) (by kernel_rfl) (by kernel_rfl) (fun _ _ _ h => h) hS0 (Or.inl ⟨by rfl, ?_⟩) ?_
        rotate_left
        · intro wq hwq
          have y0 := hwq
          go_simp
          try with_reducible rfl
        simp only [Act.put, List.setIfInBounds_toArray, List.set_cons_zero, List.set_cons_succ]

        refine HT.takeF_at 8 (i := 33) (v := ?_) rfl rfl (by kernel_rfl) (by kernel_rfl) (by kernel_rfl) (by kernel_rfl) (by kernel_rfl) (by kernel_rfl) (fun _ _ _ h => h) hS0 (Or.inl ⟨by rfl, ?_⟩) ?_
        rotate_left
        · intro wq hwq
          have y0 := hwq
          go_simp
          try with_reducible rfl
        simp only [Act.put, List.setIfInBounds_toArray, List.set_cons_zero, List.set_cons_succ]

        refine HT.takeF_at 8 (i := 34) (v := ?_) rfl rfl (by kernel_rfl) (by kernel_rfl) (by kernel_rfl) (by kernel_rfl) (by kernel_rfl) (by kernel_rfl) (fun _ _ _ h => h) hS0 (Or.inl ⟨by rfl, ?_⟩) ?_
        rotate_left
        · intro wq hwq
          have y0 := hwq
          go_simp
          try with_reducible rfl
        simp only [Act.put, List.setIfInBounds_toArray, List.set_cons_zero, List.set_cons_succ]

        refine HT.takeF_at 8 (i := 35) (v := ?_) rfl rfl (by kernel_rfl) (by kernel_rfl) (by kernel_rfl) (by kernel_rfl) (by kernel_rfl) (by kernel_rfl) (fun _ _ _ h => h) hS0 (Or.inl ⟨by rfl, ?_⟩) ?_
        rotate_left
        · intro wq hwq
          have y0 := hwq
          go_simp
          try with_reducible rfl
        simp only [Act.put, List.setIfInBounds_toArray, List.set_cons_zero, List.set_cons_succ]

        refine HT.takeF_at 8 (i := 36) (v := ?_) rfl rfl (by kernel_rfl) (by kernel_rfl) (by kernel_rfl) (by kernel_rfl) (by kernel_rfl) (by kernel_rfl) (fun _ _ _ h => h) hS0 (Or.inl ⟨by rfl, ?_⟩) ?_
        rotate_left
        · intro wq hwq
          have y0 := hwq
          go_simp
          try with_reducible rfl
        simp only [Act.put, List.setIfInBounds_toArray, List.set_cons_zero, List.set_cons_succ]

        refine HT.takeF_at 8 (i := 38) (v := ?_) rfl rfl (by kernel_rfl) (by kernel_rfl) (by kernel_rfl) (by kernel_rfl) (by kernel_rfl) (by kernel_rfl) (fun _ _ _ h => h) hS0 (Or.inl ⟨by rfl, ?_⟩) ?_
        rotate_left
        · intro wq hwq
          have y0 := hwq
          go_simp
          try with_reducible rfl
        simp only [Act.put, List.setIfInBounds_toArray, List.set_cons_zero, List.set_cons_succ]

        refine HT.takeF_at 8 (i := 39) (v := ?_) rfl rfl (by kernel_rfl) (by kernel_rfl) (by kernel_rfl) (by kernel_rfl) (by kernel_rfl) (by kernel_rfl) (fun _ _ _ h => h) hS0 (Or.inl ⟨by rfl, ?_⟩) ?_
        rotate_left
        · intro wq hwq
          have y0 := hwq
          go_simp
          try with_reducible rfl
        simp only [Act.put, List.setIfInBounds_toArray, List.set_cons_zero, List.set_cons_succ]

        refine HT.takeF_at 8 (i := 40) (v := ?_) rfl rfl (by kernel_rfl) (by kernel_rfl) (by kernel_rfl) (by kernel_rfl) (by kernel_rfl) (by kernel_rfl) (fun _ _ _ h => h) hS0 (Or.inl ⟨by rfl, ?_⟩) ?_
        rotate_left
        · intro wq hwq
          have y0 := hwq
          go_simp
          try with_reducible rfl
        simp only [Act.put, List.setIfInBounds_toArray, List.set_cons_zero, List.set_cons_succ]

        refine HT.takeF_at 8 (i := 41) (v := ?_) rfl rfl (by kernel_rfl) (by kernel_rfl) (by kernel_rfl) (by kernel_rfl) (by kernel_rfl) (by kernel_rfl) (fun _ _ _ h => h) hS0 (Or.inl ⟨by rfl, ?_⟩) ?_
        rotate_left
        · intro wq hwq
          have y0 := hwq
          go_simp
          try with_reducible rfl
        simp only [Act.put, List.setIfInBounds_toArray, List.set_cons_zero, List.set_cons_succ]

        refine HT.takeF_at 8 (i := 42) (v := ?_) rfl rfl (by kernel_rfl) (by kernel_rfl) (by kernel_rfl) (by kernel_rfl) (by kernel_rfl) (by kernel_rfl) (fun _ _ _ h => h) hS0 (Or.inl ⟨by rfl, ?_⟩) ?_
        rotate_left
        · intro wq hwq
          have y0 := hwq
          go_simp
          try with_reducible rfl
        simp only [Act.put, List.setIfInBounds_toArray, List.set_cons_zero, List.set_cons_succ]

        refine HT.wpAnyG_one (i := 37) (by kernel_rfl) rfl (fun KK hKK => ?_)
        go_simp
        refine cA.mono ?_
        rintro e w7 ⟨rfl, hb7⟩
        have hX7 := (hX5.below hb7).1
        have hS7 : w7.cell? ⟨sb, so + k * 5 + 1, none⟩ = some (.string sA) := (hb7.cell (p := ⟨sb, so + k * 5 + 1, none⟩) (Nat.lt_of_lt_of_le hb1 bel5.size)).trans hS0
        simp only
        refine hKK _ _ hS7 ?_
        clear hKK KK

        refine HT.wpAnyG_turn (k := 43) (by kernel_rfl) rfl (fun KK hKK => ?_)
        go_simp
        refine (cB _).mono ?_
        rintro e w8 ⟨rfl, rfl⟩
        simp only
        refine hKK _ _ ?_
        clear hKK KK

        refine HT.take_at (i := 44) (v := ?_) rfl rfl (by kernel_rfl) (by kernel_rfl) (by kernel_rfl) (fun _ _ _ h => h) (Or.inl ⟨by rfl, ?_⟩) ?_
        rotate_left
        · intro wq
          go_simp
          try with_reducible rfl
        simp only [Act.put, List.setIfInBounds_toArray, List.set_cons_zero, List.set_cons_succ]

        refine HT.take_at (i := 45) (v := ?_) rfl rfl (by kernel_rfl) (by kernel_rfl) (by kernel_rfl) (fun _ _ _ h => h) (Or.inl ⟨by rfl, ?_⟩) ?_
        rotate_left
        · intro wq
          go_simp
          try with_reducible rfl
        simp only [Act.put, List.setIfInBounds_toArray, List.set_cons_zero, List.set_cons_succ]

        generalize nameB sA = nb at *
        refine wpAny_done (by kernel_rfl) ?_ _
        go_wp2
        go_roundw
        case rel => exact ⟨k + 1, st', by go_num, by omega, hX7, HSO.out, by omega⟩
        case measure => simp [intOf]; omega
      · have hki : ¬ (k : Int) < (S.length : Int) := by omega
        have hb5 := Hacc.out.trans (hX.bel.mono Hacc.out.size)
        go_wp2_with (go_at_call 9; refine (hwks _).mono ?_; rintro e w9 ⟨rfl, hb⟩)
        go_ret
        exact ⟨rfl, hb5.trans (hb.mono hb5.size)⟩

/-! ### From the walk to the statement -/
theorem own : ownKnob Try.prog.godebug = none := by kernel_rfl
set_option maxRecDepth 100000 in
theorem lifted (os : Os) (started : os.Started) (H : Type) (enc : TypeId × Value → H) :
    ReturnsInHanded {} Try.checked os 3 .any (Rows.diskPlaysSpec.pre6 enc Try.prog Try.f3 Rows.diskPlaysRow.domain false) (Rows.diskPlaysSpec.post enc Try.prog Try.f3 false true false false) := by
  refine returnsInHanded_of_change_sized (C := Try.checked) own started (by kernel_rfl) Try.func3
    (ChangeSpec.witness6 (enc := enc) (C := Try.checked) false ⟨#[], #[.int .i64 0, .slice none 0 0], []⟩ 8 (by kernel_rfl) (by kernel_rfl) (by kernel_rfl) (by kernel_rfl)) ?_
  intro W base args ds gs before hval0 hW hcnd hsz0 _
  have hval : ∀ (j : Nat) t v, Try.f3.params[j]? = some t → args[j]? = some v → Value.okWide Try.prog W .any base t v := hval0
  have hsz : (DataW.weightsEach Try.prog (Try.f3.params.toList ++ Rows.diskPlaysSpec.plain.varTypes Try.prog) (ds ++ gs)).all (· ≤ reachBytes) = true := hsz0
  have hW' := hW
  obtain ⟨p, q, hA0, hV, rfl, hfz, hnd⟩ := hW
  have hA : DataW.TrodAll enc Try.prog W 0 (fun _ => true) true Try.f3.params.toList args.toList ds p := hA0
  rw [Try.params3] at hA hval hsz
  obtain ⟨v0, vs0, d0, ds0, p0, q0, hargs, rfl, rfl, h0, r0⟩ := trodAll_cons hA
  obtain ⟨v1, vs1, d1, ds1, p1, q1, rfl, rfl, rfl, h1, r1⟩ := trodAll_cons r0
  obtain ⟨rfl, rfl, rfl⟩ := trodAll_nil r1
  obtain rfl : args = #[v0, v1] := by cases args; simp_all
  obtain ⟨rfl, rfl⟩ := trodVars_none hV
  obtain ⟨a0, rfl, rfl, rfl, w0⟩ := open_int Try.underlying3 (hval 0 3 v0 rfl rfl) h0
  have h1k := h1
  have hlt1 : ∀ x ∈ p1, x.block < W.heap.size := fun x hx => hW'.lt x (by simp [hx])
  obtain ⟨ba1, bn1, bc1, rfl⟩ := okWide_slice Try.underlying22 (hval 1 22 v1 rfl rfl)
  obtain ⟨fuel1, hf1⟩ := h1
  obtain ⟨a1, hT1, n1⟩ := open_steps (c := bc1) hf1 (fun n hn => by have := List.all_eq_true.1 hsz n (DataW.weights_mem_each (j := 1) (t := 22) rfl rfl n hn); simpa using this)
  clear hA0 hval0 hsz0
  refine (walk a0 a1 w0 hT1 n1 W rfl).mono fun e W' ⟨he, bel⟩ => ?_
  subst he
  exact ⟨_, rfl, _, _, _, [], _, [], hW', trodAll_mk1 (shut_bool Try.underlying4 _), (trodAll_cons_mk (shut_int Try.underlying3 w0) (trodAll_cons_mk (Below.trod (show laidOutB Try.prog = true by kernel_rfl) (by kernel_rfl) (of_decide_eq_true (by kernel_rfl)) h1k bel hlt1) trodAll_mk0)), rfl, bel.frame _, fun h => by cases h⟩

theorem over : Rows.diskPlaysRow.holds Try.pinned (OpenSpec.ofChange Rows.diskPlaysSpec) :=
  OpenClaim.holds_of_wide 3 Try.f3 rfl rfl rfl rfl rfl rfl rfl ⟨rfl, rfl, rfl, rfl, rfl⟩ rfl rfl rfl rfl rfl (by kernel_rfl) Try.func3 (by kernel_rfl)
    (of_decide_eq_true (by kernel_rfl)) (by unfold Func.isWrapper; first | (rw [if_pos (by decide +kernel)]; kernel_rfl) | (rw [if_neg (by decide +kernel)]; exact ⟨rfl, rfl⟩))
    (fun os started H enc _ => lifted os started H enc)

/-- THE STATEMENT -/
theorem proved : Rows.DiskPlaysSaid := over
end Go.Proofs.Ytlkgfimignlgaaa.diskPlays
