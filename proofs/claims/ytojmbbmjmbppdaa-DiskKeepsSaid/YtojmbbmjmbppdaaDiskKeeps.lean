/-
  For all scripts and any crash codicillaw06.DiskKeeps returns true: a synced file, appended to, begins with its synced bytes behind any crash, and is a beginning of what it was. No conditions. (gen_dkeeps.py writes it.)
-/
import Derived.Test.YtojmbbmjmbppdaaDiskKpW
namespace Go.Proofs.Ytojmbbmjmbppdaa.diskKeeps
open Go.ChangeShapes Go.WideShapes Go.ChangeAt Go.RowKit
open Go.ChangeMaps (open_string shut_string)
set_option linter.unusedVariables false
set_option linter.unusedSimpArgs false
set_option maxHeartbeats 4000000 in
set_option maxRecDepth 10000000 in
theorem walk (S B : List Stp) (a2 a3 : Int) (w2 : (Lit.int .i64 a2).wf = true) (w3 : (Lit.int .i64 a3).wf = true) {v v' : Value} {w : World} (hT : IsSteps w S v) (hn : S.length ≤ maxLen) (hT' : IsSteps w B v') (hn' : B.length ≤ maxLen) (w' : World) (hw : w = w') :
    Calls Try.prog 4 #[v, v', .int .i64 a2, .int .i64 a3] w fun e w' => e = .returned (.bool true) ∧ Below w.heap.size w w' := by
  clear hw w' w2 w3
  have hwks := works_any
  have acc : Below w.heap.size w w := Below.refl _ _
  have cH := heavy_any S v w hT hn
  have cH' := fun (w1 : World) (hb : Below w.heap.size w w1) => heavy_any B v' w1 (hT'.keep hb) hn'
  obtain ⟨sa, sc, rfl, hsc, hsT⟩ := hT
  obtain ⟨ba, bc, rfl, hbc, hbT⟩ := hT'
  cases hv : heavyS S
  case true =>
    rw [hv] at cH
    clear hv hsT hbT
    go_enter Try.func4, Try.ntmps4
    go_wp2_with (first
      | (go_at_call 8; refine cH.mono ?_; rintro e w' ⟨rfl, hb⟩; have acc := acc.trans (hb.mono acc.size); clear hb)
      | (go_at_call 9; refine (hwks _).mono ?_; rintro e w' ⟨rfl, hb⟩; have acc := acc.trans (hb.mono acc.size); clear hb))
    go_ret
    exact ⟨rfl, acc⟩
  case false =>
  rw [hv] at cH
  cases hv' : heavyS B
  case true =>
    rw [hv'] at cH'
    clear hv hv' hsT hbT
    go_enter Try.func4, Try.ntmps4
    go_wp2_with (first
      | (go_at_call_of 8 (Value.slice sa S.length sc); refine cH.mono ?_; rintro e w1 ⟨rfl, hb⟩; have cH2 := cH' _ hb; have acc := acc.trans (hb.mono acc.size); clear hb)
      | (go_at_call 8; refine cH2.mono ?_; rintro e w1 ⟨rfl, hb⟩; have acc := acc.trans (hb.mono acc.size); clear hb)
      | (go_at_call 9; refine (hwks _).mono ?_; rintro e w' ⟨rfl, hb⟩; have acc := acc.trans (hb.mono acc.size); clear hb))
    go_ret
    exact ⟨rfl, acc⟩
  case false =>
    rw [hv'] at cH'
    obtain ⟨hl100, hl4096⟩ := light_S hv
    obtain ⟨bl100, bl4096⟩ := light_S hv'
    have HM : Hid (∀ x ∈ S, x.a.size + x.b.size ≤ 4096) := Lib.hid fun x hx => Nat.le_trans (sumS_mem hx) hl4096
    have BM : Hid (∀ x ∈ B, x.a.size + x.b.size ≤ 4096) := Lib.hid fun x hx => Nat.le_trans (sumS_mem hx) bl4096
    have cN := fun w => DS.new 65536 w (by decide)
    unfold ptr at cN
    have HA := Lib.hid hsT
    have BA := Lib.hid hbT
    clear hv hv' hl4096 bl4096 hn hn' hsT hbT
    go_enter Try.func4, Try.ntmps4
    go_wp2_with (first
      | (go_at_call_of 8 (Value.slice sa S.length sc); refine cH.mono ?_; rintro e w1 ⟨rfl, hb⟩; have cH2 := cH' _ hb; have acc := acc.trans (hb.mono acc.size); clear hb)
      | (go_at_call 8; refine cH2.mono ?_; rintro e wA ⟨rfl, hb⟩; have acc := acc.trans (hb.mono acc.size); clear hb)
      | (go_at_call 10; refine (cN _).mono ?_; rintro e w3 ⟨db, rfl, hS1⟩))
    have hS0 : DS wA w3 db ⟨65536, -1, [], []⟩ := hS1
    have Hacc := Lib.hid acc
    clear cH cH' cH2 cN hS1 acc
    go_loopw [11] (fun vi wr => ∃ (k : Nat) (st : Ds), vi = .int .i64 k ∧ k ≤ S.length ∧ st.fuse = -1 ∧ st.L.length ≤ k ∧ DS wA wr db st) (fun vi _ => S.length - (intOf vi).toNat)
    case atStart => exact ⟨0, ⟨65536, -1, [], []⟩, rfl, Nat.zero_le _, rfl, Nat.zero_le _, hS0⟩
    case round =>
      clear hS0
      obtain ⟨k, ⟨room, f, F, L⟩, rfl, hk, rfl, hL, hS⟩ := hrel
      simp only at hL
      by_cases hlt : k < S.length
      · obtain ⟨⟨op, sA, sB, n, m⟩, hx⟩ : ∃ x, S[k]? = some x := ⟨_, List.getElem?_eq_getElem hlt⟩
        obtain ⟨_, sb, so, rfl, hb1, c0, c1, c2, c3, c4⟩ := HA.out k _ hx
        have hmem := HM.out _ (List.mem_of_getElem? hx)
        simp only at hmem c0 c1 c2 c3 c4
        have bel := Hacc.out.trans (hS.bel.mono Hacc.out.size)
        have d0 := (bel.cell hb1).trans c0
        have d1 := (bel.cell hb1).trans c1
        have d2 := (bel.cell hb1).trans c2
        have d3 := (bel.cell hb1).trans c3
        have d4 := (bel.cell hb1).trans c4
        have hki : (k : Int) < (S.length : Int) := by omega
        have hk0 : (0 : Int) ≤ (k : Int) := by omega
        have hbw : Below wr.heap.size wr (wr.alloc (.cells #[.int .i64 op, .string sA, .string sB, .int .i64 n, .int .i64 m] 33)) := (Below.refl _ _).alloc (Nat.le_refl _) _
        have hS2 := hS.below hbw
        have q0 := (cellNew wr #[.int .i64 op, .string sA, .string sB, .int .i64 n, .int .i64 m] 33 0).trans (show _ = some (Value.int .i64 op) from rfl)
        have q1 := (cellNew wr #[.int .i64 op, .string sA, .string sB, .int .i64 n, .int .i64 m] 33 1).trans (show _ = some (Value.string sA) from rfl)
        have q2 := (cellNew wr #[.int .i64 op, .string sA, .string sB, .int .i64 n, .int .i64 m] 33 2).trans (show _ = some (Value.string sB) from rfl)
        have q3 := (cellNew wr #[.int .i64 op, .string sA, .string sB, .int .i64 n, .int .i64 m] 33 3).trans (show _ = some (Value.int .i64 n) from rfl)
        clear c0 c1 c2 c3 c4 hbw hx bel hlt
        go_upto_region 10 with fail
        clear hS d0 d1 d2 d3 d4
        generalize (wr.alloc (.cells #[.int .i64 op, .string sA, .string sB, .int .i64 n, .int .i64 m] 33)) = wa at *
        obtain ⟨bs, hbs⟩ : ∃ b, wr.heap.size = b := ⟨_, rfl⟩
        rw [hbs] at q0 q1 q2 q3 ⊢
        clear hbs

        by_cases h0 : op = 0
        · subst h0
          have hz := gz_app ⟨room, -1, F, L⟩ sA sB
          have cc := DS.append hS2 sA sB (by omega) (by omega) (by show L.length ≤ 1000000; omega)
          unfold ptr at cc
          generalize appS ⟨room, -1, F, L⟩ sA sB = r at hz cc
          obtain ⟨e, st'⟩ := r
          obtain ⟨z1, z2⟩ := hz
          simp only at z1 z2 cc
          go_wp2_with (go_at_call 19; refine cc.mono ?_; rintro _ w4 ⟨rfl, hS4⟩)
          go_roundw
          case rel => exact ⟨k + 1, st', by go_num, by omega, z1, Nat.le_trans z2 (by omega), hS4⟩
          case measure => simp [intOf]; omega
        by_cases h1 : op = 1
        · subst h1
          have hz := gz_cut ⟨room, -1, F, L⟩ sA n
          have cc := DS.cut hS2 sA n (by omega) (by show L.length ≤ 1000000; omega)
          unfold ptr at cc
          generalize cutS ⟨room, -1, F, L⟩ sA n = r at hz cc
          obtain ⟨e, st'⟩ := r
          obtain ⟨z1, z2⟩ := hz
          simp only at z1 z2 cc
          go_wp2_with (go_at_call 20; refine cc.mono ?_; rintro _ w4 ⟨rfl, hS4⟩)
          go_roundw
          case rel => exact ⟨k + 1, st', by go_num, by omega, z1, Nat.le_trans z2 (by omega), hS4⟩
          case measure => simp [intOf]; omega
        by_cases h2 : op = 2
        · subst h2
          have hz := gz_ren ⟨room, -1, F, L⟩ sA sB
          have cc := DS.ren hS2 sA sB (by omega) (by omega) (by show L.length ≤ 1000000; omega)
          unfold ptr at cc
          generalize renS ⟨room, -1, F, L⟩ sA sB = r at hz cc
          obtain ⟨e, st'⟩ := r
          obtain ⟨z1, z2⟩ := hz
          simp only at z1 z2 cc
          go_wp2_with (go_at_call 21; refine cc.mono ?_; rintro _ w4 ⟨rfl, hS4⟩)
          go_roundw
          case rel => exact ⟨k + 1, st', by go_num, by omega, z1, Nat.le_trans z2 (by omega), hS4⟩
          case measure => simp [intOf]; omega
        by_cases h3 : op = 3
        · subst h3
          have hz := gz_rem ⟨room, -1, F, L⟩ sA
          have cc := DS.rem hS2 sA (by omega) (by show L.length ≤ 1000000; omega)
          unfold ptr at cc
          generalize remS ⟨room, -1, F, L⟩ sA = r at hz cc
          obtain ⟨e, st'⟩ := r
          obtain ⟨z1, z2⟩ := hz
          simp only at z1 z2 cc
          go_wp2_with (go_at_call 22; refine cc.mono ?_; rintro _ w4 ⟨rfl, hS4⟩)
          go_roundw
          case rel => exact ⟨k + 1, st', by go_num, by omega, z1, Nat.le_trans z2 (by omega), hS4⟩
          case measure => simp [intOf]; omega
        by_cases h4 : op = 4
        · subst h4
          have hz := gz_sync ⟨room, -1, F, L⟩ 
          have cc := DS.sync hS2  (by show L.length ≤ 1000000; omega)
          unfold ptr at cc
          generalize syncS ⟨room, -1, F, L⟩  = r at hz cc
          obtain ⟨e, st'⟩ := r
          obtain ⟨z1, z2⟩ := hz
          simp only at z1 z2 cc
          go_wp2_with (go_at_call 23; refine cc.mono ?_; rintro _ w4 ⟨rfl, hS4⟩)
          go_roundw
          case rel => exact ⟨k + 1, st', by go_num, by omega, z1, Nat.le_trans z2 (by omega), hS4⟩
          case measure => simp [intOf]; omega
        go_wp2
        go_roundw
        case rel => exact ⟨k + 1, _, by go_num, by omega, rfl, by show L.length ≤ k + 1; omega, hS2⟩
        case measure => simp [intOf]; omega
      · have hkl : ¬ (k : Int) < (S.length : Int) := by omega
        have cs := DS.sync hS (by show L.length ≤ 1000000; omega)
        rw [sync_m] at cs
        unfold ptr at cs
        simp only at cs
        obtain ⟨T, hTT⟩ : ∃ T, doAll F L = T := ⟨_, rfl⟩
        rw [hTT] at cs
        clear hTT hS HA HM
        go_upto_region 23 with (first
          | (go_at_call 23; refine cs.mono ?_; rintro _ w4 ⟨rfl, hS4⟩)
          | (go_at_call 16; refine (OX.loose hS4.ox).mono ?_; rintro _ w5 ⟨rfl, rfl⟩))
        have hX4 := hS4.ox
        have hfin := hX4.fine.1.2
        clear cs hS4
        go_upto_region 24 with (go_at_call 24; refine (OX.names hX4).mono ?_; rintro _ w6 ⟨na, nc, N, rfl, hNc, hNl, hNh, hNr, hX6, _⟩; have HNL := Lib.hid hNl; clear hNl)
        have hTn : Ds.now ⟨room, -1, T, []⟩ = T := rfl
        have hNl := HNL.out
        rw [hTn] at hfin hNl hNh
        have hN64 : N.length ≤ 64 := by omega
        obtain ⟨g1, o1, w7, hmk, ⟨xs1, hb1⟩, hbel7, hg1, hg1'⟩ := make_buf w6 N.length (by omega)
        obtain ⟨hX7, hk7⟩ := OX.push hX6 hbel7 (v := .slice (some ⟨g1, o1, none⟩) N.length N.length) (fun j hj => by cases hj; exact ⟨hg1, hg1'⟩)
        have hR7 := hNr.keep (n := N.length) (c := nc) (fun j hj => hk7 _ (List.mem_cons_self ..) j hj)
        have hne1 : ∀ j, (Value.slice na N.length nc).ownBlock = some j → j ≠ g1 := by
          obtain ⟨_, _, _, hh, _⟩ := hX6
          intro j hj e
          have := (hh _ (List.mem_cons_self ..) j hj).2.2
          omega
        have HNH := Lib.hid hNh
        have HNE := Lib.hid hne1
        clear hNr hX6 hk7 hbel7 hg1 hg1' hX4 hNh hne1 hTn hL hNl HNL hfin
        go_wp2
        clear hmk
        go_loopw [15] (fun vi wr => ∃ (k : Nat) (xs : List Value), vi = .int .i64 k ∧ k ≤ N.length ∧ OX wA wr db ⟨room, -1, T, []⟩ [.slice (some ⟨g1, o1, none⟩) N.length N.length, .slice na N.length nc] ∧ RowR wr na N ∧ Buf wr g1 o1 N.length xs ∧ ∀ j, j < k → xs[j]? = some (.string ⟨(getF T (N.getD j ByteArray.empty)).toArray⟩)) (fun vi _ => N.length - (intOf vi).toNat)
        case atStart => exact ⟨0, xs1, rfl, Nat.zero_le _, hX7, hR7, hb1, fun j hj => absurd hj (Nat.not_lt_zero j)⟩
        case round =>
          clear hX7 hR7 hb1
          obtain ⟨k2, xs, rfl, hk2, hX, hR, hB, hxs⟩ := hrel
          by_cases hlt2 : k2 < N.length
          · obtain ⟨hhas, hsz⟩ := HNH.out k2 hlt2
            obtain ⟨nb, no, rfl, hcn⟩ := hR k2 hlt2
            obtain ⟨r1, r2⟩ := read_m hhas
            have cr := OX.read hX (N.getD k2 ByteArray.empty) hsz
            have hTn : Ds.now ⟨room, -1, T, []⟩ = T := rfl
            rw [hTn] at cr
            try simp only at cr
            rw [r1, r2] at cr
            have HXS : Hid (∀ j, j < k2 + 1 → (xs.set k2 (.string ⟨(getF T (N.getD k2 ByteArray.empty)).toArray⟩))[j]? = some (.string ⟨(getF T (N.getD j ByteArray.empty)).toArray⟩)) := Lib.hid fun j hj => by
              by_cases e : j = k2
              · subst e
                rw [List.getElem?_set_self (by rw [hB.len]; exact hlt2)]
              · rw [List.getElem?_set_ne (fun h => e h.symm)]
                exact hxs j (by omega)
            have hfree := hB.free k2
            have hcell := hB.cell hlt2
            have hki : (k2 : Int) < (N.length : Int) := by omega
            have hk0 : (0 : Int) ≤ (k2 : Int) := by omega
            have HX := Lib.hid (OX.store hX (List.mem_cons_self ..) rfl (o1 + k2) (.string ⟨(getF T (N.getD k2 ByteArray.empty)).toArray⟩))
            have HB := Lib.hid (hB.store k2 (.string ⟨(getF T (N.getD k2 ByteArray.empty)).toArray⟩))
            have HR := Lib.hid (hR.keep (w' := wr.setCell ⟨g1, o1 + k2, none⟩ (.string ⟨(getF T (N.getD k2 ByteArray.empty)).toArray⟩)) (n := N.length) (c := nc) (fun j hj => Below.heap_setCell _ _ _ _ (HNE.out j hj)))
            have hxl := hB.len
            obtain ⟨u0, hu0⟩ : ∃ u, xs[k2]? = some u := ⟨_, List.getElem?_eq_getElem (by omega)⟩
            rw [hu0] at hcell
            clear r1 r2 hhas hsz hxs hlt2 hX hR hB hTn hxl hu0
            generalize getF T (N.getD k2 ByteArray.empty) = tx at *
            generalize N.getD k2 ByteArray.empty = nm at *
            go_wp2_with (go_at_call 25; refine cr.mono ?_; rintro _ w8 ⟨rfl, rfl⟩)
            go_roundw
            case rel => exact ⟨k2 + 1, _, by go_num, by omega, HX.out, HR.out, HB.out, HXS.out⟩
            case measure => simp [intOf]; omega
          · have hkl2 : ¬ (k2 : Int) < (N.length : Int) := by omega
            obtain rfl : k2 = N.length := by omega
            have HXS := Lib.hid hxs
            clear hxs hlt2 hk2
            go_wp2
            have HX := Lib.hid hX
            go_loopw [18] (fun vi wr => ∃ (k : Nat) (st : Ds), vi = .int .i64 k ∧ k ≤ B.length ∧ OX wA wr db st [.slice (some ⟨g1, o1, none⟩) N.length N.length, .slice na N.length nc] ∧ RowR wr na N ∧ Buf wr g1 o1 N.length xs ∧ st.S = T ∧ st.fuse = -1 ∧ AppL st.L ∧ st.L.length ≤ k) (fun vi _ => B.length - (intOf vi).toNat)
            case atStart => exact ⟨0, ⟨room, -1, T, []⟩, rfl, Nat.zero_le _, HX.out, hR, hB, rfl, rfl, (fun op ho => by simp at ho), Nat.zero_le _⟩
            case round =>
            clear hX hR hB HX
            obtain ⟨k3, ⟨room, f, T, L⟩, rfl, hk3, hX, hR, hB, rfl, rfl, hAL, hL⟩ := hrel
            simp only at hL hAL
            by_cases hlt3 : k3 < B.length
            · obtain ⟨⟨op, sA, sB, n, m⟩, hx⟩ : ∃ x, B[k3]? = some x := ⟨_, List.getElem?_eq_getElem hlt3⟩
              obtain ⟨_, bb, bo, rfl, hb1, _, c1, c2, _, _⟩ := BA.out k3 _ hx
              have hmem := BM.out _ (List.mem_of_getElem? hx)
              simp only at hmem c1 c2
              have bel := Hacc.out.trans (hX.bel.mono Hacc.out.size)
              have d1 : wr.drew.cell? ⟨bb, bo + k3 * 5 + 1, none⟩ = some (.string sA) := (bel.cell hb1).trans c1
              have d2 : wr.drew.cell? ⟨bb, bo + k3 * 5 + 2, none⟩ = some (.string sB) := (bel.cell hb1).trans c2
              have hki : (k3 : Int) < (B.length : Int) := by omega
              have hk0 : (0 : Int) ≤ (k3 : Int) := by omega
              obtain ⟨hXd, hKd⟩ := hX.below (drew_bel wr)
              have hRd := hR.keep (n := N.length) (c := nc) (fun j hj => hKd _ (List.mem_cons_of_mem _ (List.mem_cons_self ..)) j hj)
              have hBd := hB.keep (hKd _ (List.mem_cons_self ..) _ rfl)
              have cc := hXd.append sA sB (by omega) (by omega) (by show L.length ≤ 1000000; omega)
              have z1 := gz_app ⟨room, -1, T, L⟩ sA sB
              have z2 := app_S ⟨room, -1, T, L⟩ sA sB
              have z3 := appL_app ⟨room, -1, T, L⟩ sA sB hAL
              generalize appS ⟨room, -1, T, L⟩ sA sB = r at cc z1 z2 z3
              obtain ⟨e, st'⟩ := r
              obtain ⟨z1, z4⟩ := z1
              simp only at z1 z2 z3 z4 cc
              have Z1 := Lib.hid z1
              have Z2 := Lib.hid z2
              have Z3 := Lib.hid z3
              clear c1 c2 hx bel hlt3 hX hR hB hXd hKd z1 z2 z3
              go_upto_region 35 with fail
              have hS0 : wr.drew.cell? ⟨bb, bo + k3 * 5 + 1, none⟩ = some (.string sA) ∧ wr.drew.cell? ⟨bb, bo + k3 * 5 + 2, none⟩ = some (.string sB) := ⟨d1, d2⟩
              refine wp_region_any (by kernel_rfl) ?_
              change wpAny _ _ _ _ 12 _ _ (World.drew _)
              generalize wr.drew = wd at *
              refine HT.wpAny_of_G (k := 11) (S := fun w' => w'.cell? ⟨bb, bo + k3 * 5 + 1, none⟩ = some (.string sA) ∧ w'.cell? ⟨bb, bo + k3 * 5 + 2, none⟩ = some (.string sB)) _ _ _ _ ?_
              refine HT.takeG_at (i := 0) (v := ?_) rfl rfl (by kernel_rfl) (by kernel_rfl) (by kernel_rfl) (by kernel_rfl) (by kernel_rfl) (by kernel_rfl) (fun _ _ _ h => h) hS0 (Or.inl ⟨by rfl, ?_⟩) ?_
              rotate_left
              · intro wq hwq
                obtain ⟨y1, y2⟩ := hwq
                go_simp
                try with_reducible rfl
              simp only [Act.put, List.setIfInBounds_toArray, List.set_cons_zero, List.set_cons_succ]
              refine HT.takeG_at (i := 1) (v := ?_) rfl rfl (by kernel_rfl) (by kernel_rfl) (by kernel_rfl) (by kernel_rfl) (by kernel_rfl) (by kernel_rfl) (fun _ _ _ h => h) hS0 (Or.inl ⟨by rfl, ?_⟩) ?_
              rotate_left
              · intro wq hwq
                obtain ⟨y1, y2⟩ := hwq
                go_simp
                try with_reducible rfl
              simp only [Act.put, List.setIfInBounds_toArray, List.set_cons_zero, List.set_cons_succ]
              refine HT.takeG_at (i := 2) (v := ?_) rfl rfl (by kernel_rfl) (by kernel_rfl) (by kernel_rfl) (by kernel_rfl) (by kernel_rfl) (by kernel_rfl) (fun _ _ _ h => h) hS0 (Or.inl ⟨by rfl, ?_⟩) ?_
              rotate_left
              · intro wq hwq
                obtain ⟨y1, y2⟩ := hwq
                go_simp
                try with_reducible rfl
              simp only [Act.put, List.setIfInBounds_toArray, List.set_cons_zero, List.set_cons_succ]
              refine HT.takeG_at (i := 3) (v := ?_) rfl rfl (by kernel_rfl) (by kernel_rfl) (by kernel_rfl) (by kernel_rfl) (by kernel_rfl) (by kernel_rfl) (fun _ _ _ h => h) hS0 (Or.inl ⟨by rfl, ?_⟩) ?_
              rotate_left
              · intro wq hwq
                obtain ⟨y1, y2⟩ := hwq
                go_simp
                try with_reducible rfl
              simp only [Act.put, List.setIfInBounds_toArray, List.set_cons_zero, List.set_cons_succ]
              refine HT.takeG_at (i := 4) (v := ?_) rfl rfl (by kernel_rfl) (by kernel_rfl) (by kernel_rfl) (by kernel_rfl) (by kernel_rfl) (by kernel_rfl) (fun _ _ _ h => h) hS0 (Or.inl ⟨by rfl, ?_⟩) ?_
              rotate_left
              · intro wq hwq
                obtain ⟨y1, y2⟩ := hwq
                go_simp
                try with_reducible rfl
              simp only [Act.put, List.setIfInBounds_toArray, List.set_cons_zero, List.set_cons_succ]
              refine HT.takeG_at (i := 5) (v := ?_) rfl rfl (by kernel_rfl) (by kernel_rfl) (by kernel_rfl) (by kernel_rfl) (by kernel_rfl) (by kernel_rfl) (fun _ _ _ h => h) hS0 (Or.inl ⟨by rfl, ?_⟩) ?_
              rotate_left
              · intro wq hwq
                obtain ⟨y1, y2⟩ := hwq
                go_simp
                try with_reducible rfl
              simp only [Act.put, List.setIfInBounds_toArray, List.set_cons_zero, List.set_cons_succ]
              refine HT.takeG_at (i := 6) (v := ?_) rfl rfl (by kernel_rfl) (by kernel_rfl) (by kernel_rfl) (by kernel_rfl) (by kernel_rfl) (by kernel_rfl) (fun _ _ _ h => h) hS0 (Or.inl ⟨by rfl, ?_⟩) ?_
              rotate_left
              · intro wq hwq
                obtain ⟨y1, y2⟩ := hwq
                go_simp
                try with_reducible rfl
              simp only [Act.put, List.setIfInBounds_toArray, List.set_cons_zero, List.set_cons_succ]
              refine HT.takeG_at (i := 7) (v := ?_) rfl rfl (by kernel_rfl) (by kernel_rfl) (by kernel_rfl) (by kernel_rfl) (by kernel_rfl) (by kernel_rfl) (fun _ _ _ h => h) hS0 (Or.inl ⟨by rfl, ?_⟩) ?_
              rotate_left
              · intro wq hwq
                obtain ⟨y1, y2⟩ := hwq
                go_simp
                try with_reducible rfl
              simp only [Act.put, List.setIfInBounds_toArray, List.set_cons_zero, List.set_cons_succ]
              refine HT.takeG_at (i := 8) (v := ?_) rfl rfl (by kernel_rfl) (by kernel_rfl) (by kernel_rfl) (by kernel_rfl) (by kernel_rfl) (by kernel_rfl) (fun _ _ _ h => h) hS0 (Or.inl ⟨by rfl, ?_⟩) ?_
              rotate_left
              · intro wq hwq
                obtain ⟨y1, y2⟩ := hwq
                go_simp
                try with_reducible rfl
              simp only [Act.put, List.setIfInBounds_toArray, List.set_cons_zero, List.set_cons_succ]
              refine HT.takeG_at (i := 9) (v := ?_) rfl rfl (by kernel_rfl) (by kernel_rfl) (by kernel_rfl) (by kernel_rfl) (by kernel_rfl) (by kernel_rfl) (fun _ _ _ h => h) hS0 (Or.inl ⟨by rfl, ?_⟩) ?_
              rotate_left
              · intro wq hwq
                obtain ⟨y1, y2⟩ := hwq
                go_simp
                try with_reducible rfl
              simp only [Act.put, List.setIfInBounds_toArray, List.set_cons_zero, List.set_cons_succ]
              refine HT.takeG_at (i := 10) (v := ?_) rfl rfl (by kernel_rfl) (by kernel_rfl) (by kernel_rfl) (by kernel_rfl) (by kernel_rfl) (by kernel_rfl) (fun _ _ _ h => h) hS0 (Or.inl ⟨by rfl, ?_⟩) ?_
              rotate_left
              · intro wq hwq
                obtain ⟨y1, y2⟩ := hwq
                go_simp
                try with_reducible rfl
              simp only [Act.put, List.setIfInBounds_toArray, List.set_cons_zero, List.set_cons_succ]
              refine HT.wpAnyG_turn (k := 11) (by kernel_rfl) rfl (fun KK hKK => ?_)
              go_simp
              refine cc.mono ?_
              rintro _ w9 ⟨rfl, hX9, hK9⟩
              refine hKK _ _ ?_
              clear hKK KK
              refine ⟨by kernel_rfl, ?_⟩
              go_wp2
              go_roundw
              case rel => exact ⟨k3 + 1, st', by go_num, by omega, hX9, hRd.keep (n := N.length) (c := nc) (fun j hj => hK9 _ (List.mem_cons_of_mem _ (List.mem_cons_self ..)) j hj), hBd.keep (hK9 _ (List.mem_cons_self ..) _ rfl), Z2.out, Z1.out, Z3.out, Nat.le_trans z4 (by omega)⟩
              case measure => simp [intOf]; omega
            · have hkl3 : ¬ (k3 : Int) < (B.length : Int) := by omega
              clear hlt3
              obtain ⟨A, hA⟩ : ∃ A, Ds.now ⟨room, -1, T, L⟩ = A := ⟨_, rfl⟩
              have hGC := gr_crash ⟨room, -1, T, L⟩ a2 a3 hAL
              rw [hA] at hGC
              have hGA : Gr T A := by
                have := gr_all L T hAL
                rw [← hA]
                exact this
              obtain ⟨g2, o2, w10, hmk2, ⟨ys1, hb2⟩, hbel10, hg2, hg2'⟩ := make_buf wr N.length (by omega)
              obtain ⟨hX10, hk10⟩ := OX.push hX hbel10 (v := .slice (some ⟨g2, o2, none⟩) N.length N.length) (fun j hj => by cases hj; exact ⟨hg2, hg2'⟩)
              have hR10 := hR.keep (n := N.length) (c := nc) (fun j hj => hk10 _ (List.mem_cons_of_mem _ (List.mem_cons_self ..)) j hj)
              have hB10 := hB.keep (hk10 _ (List.mem_cons_self ..) _ rfl)
              have hne2 : ∀ j, (Value.slice na N.length nc).ownBlock = some j → j ≠ g2 := by
                obtain ⟨_, _, _, hh, _⟩ := hX
                intro j hj e
                have := (hh _ (List.mem_cons_of_mem _ (List.mem_cons_self ..)) j hj).2.2
                omega
              have hne3 : g1 ≠ g2 := by
                obtain ⟨_, _, _, hh, _⟩ := hX
                intro e
                have := (hh _ (List.mem_cons_self ..) g1 rfl).2.2
                omega
              have HNE2 := Lib.hid hne2
              have HNE3 := Lib.hid hne3
              have HGA := Lib.hid hGA
              have HGC := Lib.hid hGC
              have HA2 := Lib.hid hA
              clear hne2 hne3 hGA hGC hA hX hR hB hbel10 hg2 hg2' hk10 hAL
              go_wp2
              clear hmk2
              go_loopw [20] (fun vi wr => ∃ (k : Nat) (ys : List Value), vi = .int .i64 k ∧ k ≤ N.length ∧ OX wA wr db ⟨room, -1, T, L⟩ [.slice (some ⟨g2, o2, none⟩) N.length N.length, .slice (some ⟨g1, o1, none⟩) N.length N.length, .slice na N.length nc] ∧ RowR wr na N ∧ Buf wr g1 o1 N.length xs ∧ Buf wr g2 o2 N.length ys ∧ ∀ j, j < k → ys[j]? = some (.string ⟨(getF A (N.getD j ByteArray.empty)).toArray⟩)) (fun vi _ => N.length - (intOf vi).toNat)
              case atStart => exact ⟨0, ys1, rfl, Nat.zero_le _, hX10, hR10, hB10, hb2, fun j hj => absurd hj (Nat.not_lt_zero j)⟩
              case round =>
              clear hX10 hR10 hB10 hb2
              obtain ⟨k4, ys, rfl, hk4, hX, hR, hB, hB2, hys⟩ := hrel
              by_cases hlt4 : k4 < N.length
              · obtain ⟨hhas0, hsz⟩ := HNH.out k4 hlt4
                obtain ⟨hhas, _⟩ := HGA.out _ hhas0
                obtain ⟨nb, no, rfl, hcn⟩ := hR k4 hlt4
                obtain ⟨r1, r2⟩ := read_m hhas
                have cr := OX.read hX (N.getD k4 ByteArray.empty) hsz
                try simp only at cr
                rw [HA2.out] at cr
                rw [r1, r2] at cr
                have HYS : Hid (∀ j, j < k4 + 1 → (ys.set k4 (.string ⟨(getF A (N.getD k4 ByteArray.empty)).toArray⟩))[j]? = some (.string ⟨(getF A (N.getD j ByteArray.empty)).toArray⟩)) := Lib.hid fun j hj => by
                  by_cases e : j = k4
                  · subst e
                    rw [List.getElem?_set_self (by rw [hB2.len]; exact hlt4)]
                  · rw [List.getElem?_set_ne (fun h => e h.symm)]
                    exact hys j (by omega)
                have hfree := hB2.free k4
                have hcell := hB2.cell hlt4
                have hki : (k4 : Int) < (N.length : Int) := by omega
                have hk0 : (0 : Int) ≤ (k4 : Int) := by omega
                have HX := Lib.hid (OX.store hX (List.mem_cons_self ..) rfl (o2 + k4) (.string ⟨(getF A (N.getD k4 ByteArray.empty)).toArray⟩))
                have HB2 := Lib.hid (hB2.store k4 (.string ⟨(getF A (N.getD k4 ByteArray.empty)).toArray⟩))
                have HB := Lib.hid (hB.keep (w' := wr.setCell ⟨g2, o2 + k4, none⟩ (.string ⟨(getF A (N.getD k4 ByteArray.empty)).toArray⟩)) (Below.heap_setCell _ _ _ _ HNE3.out))
                have HR := Lib.hid (hR.keep (w' := wr.setCell ⟨g2, o2 + k4, none⟩ (.string ⟨(getF A (N.getD k4 ByteArray.empty)).toArray⟩)) (n := N.length) (c := nc) (fun j hj => Below.heap_setCell _ _ _ _ (HNE2.out j hj)))
                have hxl := hB2.len
                obtain ⟨u0, hu0⟩ : ∃ u, ys[k4]? = some u := ⟨_, List.getElem?_eq_getElem (by omega)⟩
                rw [hu0] at hcell
                clear r1 r2 hhas hhas0 hsz hys hlt4 hX hR hB hB2 hxl hu0
                generalize getF A (N.getD k4 ByteArray.empty) = tx at *
                generalize N.getD k4 ByteArray.empty = nm at *
                go_wp2_with (go_at_call 25; refine cr.mono ?_; rintro _ w8 ⟨rfl, rfl⟩)
                go_roundw
                case rel => exact ⟨k4 + 1, _, by go_num, by omega, HX.out, HR.out, HB.out, HB2.out, HYS.out⟩
                case measure => simp [intOf]; omega
              · have hkl4 : ¬ (k4 : Int) < (N.length : Int) := by omega
                obtain rfl : k4 = N.length := by omega
                have HYS := Lib.hid hys
                clear hys hlt4 hk4
                have cc := hX.crash a2 a3 (by show L.length ≤ 1000000; omega)
                have hcm : (crashS ⟨room, -1, T, L⟩ a2 a3).2 = ⟨room, -1, crashF ⟨room, -1, T, L⟩ a2 a3, []⟩ := rfl
                rw [hcm] at cc
                have hGC := HGC.out
                generalize crashF ⟨room, -1, T, L⟩ a2 a3 = C at cc hGC
                try simp only at hGC
                have HG1 := Lib.hid hGC.1
                have HG2 := Lib.hid hGC.2
                clear hGC HGC hcm
                go_upto_region 46 with (first
                  | (go_at_call 26; refine cc.mono ?_; rintro _ w11 ⟨rfl, hX11, hK11⟩)
                  | (go_at_call 16; refine (OX.loose hX11).mono ?_; rintro _ w12 ⟨rfl, rfl⟩))
                have hR11 := hR.keep (n := N.length) (c := nc) (fun j hj => hK11 _ (List.mem_cons_of_mem _ (List.mem_cons_of_mem _ (List.mem_cons_self ..))) j hj)
                have hB11 := hB.keep (hK11 _ (List.mem_cons_of_mem _ (List.mem_cons_self ..)) _ rfl)
                have hB12 := hB2.keep (hK11 _ (List.mem_cons_self ..) _ rfl)
                clear hX hR hB hB2 cc hK11
                go_wp2
                go_loopw [23] (fun vi wr => ∃ k : Nat, vi = .int .i64 k ∧ k ≤ N.length ∧ OX wA wr db ⟨room, -1, C, []⟩ [.slice (some ⟨g2, o2, none⟩) N.length N.length, .slice (some ⟨g1, o1, none⟩) N.length N.length, .slice na N.length nc] ∧ RowR wr na N ∧ Buf wr g1 o1 N.length xs ∧ Buf wr g2 o2 N.length ys) (fun vi _ => N.length - (intOf vi).toNat)
                case atStart => exact ⟨0, rfl, Nat.zero_le _, hX11, hR11, hB11, hB12⟩
                case round =>
                clear hX11 hR11 hB11 hB12
                obtain ⟨k5, rfl, hk5, hX, hR, hB, hB2⟩ := hrel
                by_cases hlt5 : k5 < N.length
                · obtain ⟨hhas0, hsz⟩ := HNH.out k5 hlt5
                  obtain ⟨hhas, hp1⟩ := HG1.out _ hhas0
                  obtain ⟨_, hp2⟩ := HG2.out _ hhas
                  obtain ⟨nb, no, rfl, hcn⟩ := hR k5 hlt5
                  obtain ⟨r1, r2⟩ := read_m hhas
                  have cr := OX.read hX (N.getD k5 ByteArray.empty) hsz
                  have hTn : Ds.now ⟨room, -1, C, []⟩ = C := rfl
                  rw [hTn] at cr
                  try simp only at cr
                  rw [r1, r2] at cr
                  have hcs := (hB.cell hlt5).trans (HXS.out k5 hlt5)
                  have hca := (hB2.cell hlt5).trans (HYS.out k5 hlt5)
                  have i1 := pre_size hp1
                  have i2 := pre_size hp2
                  have x1 := pre_ext hp1
                  have x2 := pre_ext hp2
                  have hki : (k5 : Int) < (N.length : Int) := by omega
                  have hk0 : (0 : Int) ≤ (k5 : Int) := by omega
                  clear r1 r2 hhas hhas0 hsz hlt5 hp1 hp2 hTn
                  generalize (⟨(getF T (N.getD k5 ByteArray.empty)).toArray⟩ : ByteArray) = s0 at *
                  generalize (⟨(getF C (N.getD k5 ByteArray.empty)).toArray⟩ : ByteArray) = s1 at *
                  generalize (⟨(getF A (N.getD k5 ByteArray.empty)).toArray⟩ : ByteArray) = s2 at *
                  generalize N.getD k5 ByteArray.empty = nm at *
                  have j1 : decide ((s1.size : Int) < (s0.size : Int)) = false := decide_eq_false (by omega)
                  have j2 : decide ((s2.size : Int) < (s1.size : Int)) = false := decide_eq_false (by omega)
                  have l1 : (s0.size : Int) ≤ (s1.size : Int) := by omega
                  have l2 : (s1.size : Int) ≤ (s2.size : Int) := by omega
                  have l3 : (0 : Int) ≤ (s0.size : Int) := by omega
                  have l4 : (0 : Int) ≤ (s1.size : Int) := by omega
                  have e0 : (s0.toList != s0.toList) = false := by simp
                  have e1 : (s1.toList != s1.toList) = false := by simp
                  go_upto_region 50 with (go_at_call 25; refine cr.mono ?_; rintro _ w13 ⟨rfl, rfl⟩)
                  go_quiet (fail)
                  go_wp2
                  go_roundw
                  case rel => exact ⟨k5 + 1, by go_num, by omega, (hX.below (drewN_below (Below.refl _ _) _)).1, hR.keep (n := N.length) (c := nc) (fun _ _ => rfl), hB.keep rfl, hB2.keep rfl⟩
                  case measure => simp [intOf]; omega
                · have hkl5 : ¬ (k5 : Int) < (N.length : Int) := by omega
                  clear hlt5
                  go_wp2_with (go_at_call 9; refine (hwks _).mono ?_; rintro _ w14 ⟨rfl, hb⟩)
                  go_ret
                  have hw7 := Hacc.out.trans (hX.bel.mono Hacc.out.size)
                  exact ⟨rfl, hw7.trans (hb.mono hw7.size)⟩

/-! ### From the walk to the statement -/
theorem own : ownKnob Try.prog.godebug = none := by kernel_rfl
set_option maxRecDepth 100000 in
theorem lifted (os : Os) (started : os.Started) (H : Type) (enc : TypeId × Value → H) :
    ReturnsInHanded {} Try.checked os 4 .any (Rows.diskKeepsSpec.pre6 enc Try.prog Try.f4 Rows.diskKeepsRow.domain false) (Rows.diskKeepsSpec.post enc Try.prog Try.f4 false true false false) := by
  refine returnsInHanded_of_change_sized (C := Try.checked) own started (by kernel_rfl) Try.func4
    (ChangeSpec.witness6 (enc := enc) (C := Try.checked) false ⟨#[], #[.slice none 0 0, .slice none 0 0, .int .i64 0, .int .i64 0], []⟩ 8 (by kernel_rfl) (by kernel_rfl) (by kernel_rfl) (by kernel_rfl)) ?_
  intro W base args ds gs before hval0 hW hcnd hsz0 _
  have hval : ∀ (j : Nat) t v, Try.f4.params[j]? = some t → args[j]? = some v → Value.okWide Try.prog W .any base t v := hval0
  have hsz : (DataW.weightsEach Try.prog (Try.f4.params.toList ++ Rows.diskKeepsSpec.plain.varTypes Try.prog) (ds ++ gs)).all (· ≤ reachBytes) = true := hsz0
  have hW' := hW
  obtain ⟨p, q, hA0, hV, rfl, hfz, hnd⟩ := hW
  have hA : DataW.TrodAll enc Try.prog W 0 (fun _ => true) true Try.f4.params.toList args.toList ds p := hA0
  rw [Try.params4] at hA hval hsz
  obtain ⟨v0, vs0, d0, ds0, p0, q0, hargs, rfl, rfl, h0, r0⟩ := trodAll_cons hA
  obtain ⟨v1, vs1, d1, ds1, p1, q1, rfl, rfl, rfl, h1, r1⟩ := trodAll_cons r0
  obtain ⟨v2, vs2, d2, ds2, p2, q2, rfl, rfl, rfl, h2, r2⟩ := trodAll_cons r1
  obtain ⟨v3, vs3, d3, ds3, p3, q3, rfl, rfl, rfl, h3, r3⟩ := trodAll_cons r2
  obtain ⟨rfl, rfl, rfl⟩ := trodAll_nil r3
  obtain rfl : args = #[v0, v1, v2, v3] := by cases args; simp_all
  obtain ⟨rfl, rfl⟩ := trodVars_none hV
  have h0k := h0
  have hlt0 : ∀ x ∈ p0, x.block < W.heap.size := fun x hx => hW'.lt x (by simp [hx])
  obtain ⟨ba0, bn0, bc0, rfl⟩ := okWide_slice Try.underlying22 (hval 0 22 v0 rfl rfl)
  obtain ⟨fuel0, hf0⟩ := h0
  obtain ⟨a0, hT0, n0⟩ := open_steps (c := bc0) hf0 (fun n hn => by have := List.all_eq_true.1 hsz n (DataW.weights_mem_each (j := 0) (t := 22) rfl rfl n hn); simpa using this)
  have h1k := h1
  have hlt1 : ∀ x ∈ p1, x.block < W.heap.size := fun x hx => hW'.lt x (by simp [hx])
  obtain ⟨ba1, bn1, bc1, rfl⟩ := okWide_slice Try.underlying22 (hval 1 22 v1 rfl rfl)
  obtain ⟨fuel1, hf1⟩ := h1
  obtain ⟨a1, hT1, n1⟩ := open_steps (c := bc1) hf1 (fun n hn => by have := List.all_eq_true.1 hsz n (DataW.weights_mem_each (j := 1) (t := 22) rfl rfl n hn); simpa using this)
  obtain ⟨a2, rfl, rfl, rfl, w2⟩ := open_int Try.underlying3 (hval 2 3 v2 rfl rfl) h2
  obtain ⟨a3, rfl, rfl, rfl, w3⟩ := open_int Try.underlying3 (hval 3 3 v3 rfl rfl) h3
  clear hA0 hval0 hsz0
  refine (walk a0 a1 a2 a3 w2 w3 hT0 n0 hT1 n1 W rfl).mono fun e W' ⟨he, bel⟩ => ?_
  subst he
  exact ⟨_, rfl, _, _, _, [], _, [], hW', trodAll_mk1 (shut_bool Try.underlying4 _), (trodAll_cons_mk (Below.trod (show laidOutB Try.prog = true by kernel_rfl) (by kernel_rfl) (of_decide_eq_true (by kernel_rfl)) h0k bel hlt0) (trodAll_cons_mk (Below.trod (show laidOutB Try.prog = true by kernel_rfl) (by kernel_rfl) (of_decide_eq_true (by kernel_rfl)) h1k bel hlt1) (trodAll_cons_mk (shut_int Try.underlying3 w2) (trodAll_cons_mk (shut_int Try.underlying3 w3) trodAll_mk0)))), rfl, bel.frame _, fun h => by cases h⟩

theorem over : Rows.diskKeepsRow.holds Try.pinned (OpenSpec.ofChange Rows.diskKeepsSpec) :=
  OpenClaim.holds_of_wide 4 Try.f4 rfl rfl rfl rfl rfl rfl rfl ⟨rfl, rfl, rfl, rfl, rfl⟩ rfl rfl rfl rfl rfl (by kernel_rfl) Try.func4 (by kernel_rfl)
    (of_decide_eq_true (by kernel_rfl)) (by unfold Func.isWrapper; first | (rw [if_pos (by decide +kernel)]; kernel_rfl) | (rw [if_neg (by decide +kernel)]; exact ⟨rfl, rfl⟩))
    (fun os started H enc _ => lifted os started H enc)

/-- THE STATEMENT -/
theorem proved : Rows.DiskKeepsSaid := over
end Go.Proofs.Ytojmbbmjmbppdaa.diskKeeps
