/-
  For every script without a fuse codicillaw06.DiskEnds returns true: a crash of which all is done changes nothing, and one of which nothing is leaves what was there at the last Sync. No conditions. (gen_dends.py writes it.)
-/
import Derived.Test.YtojmbbmjmbppdaaDiskEnM
namespace Go.Proofs.Ytojmbbmjmbppdaa.diskEnds
open Go.ChangeShapes Go.WideShapes Go.ChangeAt Go.RowKit
open Go.ChangeMaps (open_string shut_string)
set_option linter.unusedVariables false
set_option linter.unusedSimpArgs false
set_option maxHeartbeats 4000000 in
set_option maxRecDepth 10000000 in
theorem walk (S : List Stp) {v : Value} {w : World} (hT : IsSteps w S v) (hn : S.length ≤ maxLen) (w' : World) (hw : w = w') :
    Calls Try.prog 7 #[v] w fun e w' => e = .returned (.bool true) ∧ Below w.heap.size w w' := by
  clear hw w'
  have hwks := works_any
  have acc : Below w.heap.size w w := Below.refl _ _
  have cH := heavy_any S v w hT hn
  obtain ⟨sa, sc, rfl, hsc, hsT⟩ := hT
  cases hv : heavyS S
  case true =>
    rw [hv] at cH
    clear hv hsT
    go_enter Try.func7, Try.ntmps7
    go_wp2_with (first
      | (go_at_call 8; refine cH.mono ?_; rintro e w' ⟨rfl, hb⟩; have acc := acc.trans (hb.mono acc.size); clear hb)
      | (go_at_call 9; refine (hwks _).mono ?_; rintro e w' ⟨rfl, hb⟩; have acc := acc.trans (hb.mono acc.size); clear hb))
    go_ret
    exact ⟨rfl, acc⟩
  case false =>
    rw [hv] at cH
    obtain ⟨hl100, hl4096⟩ := light_S hv
    have HM : Hid (∀ x ∈ S, x.a.size + x.b.size ≤ 4096) := Lib.hid fun x hx => Nat.le_trans (sumS_mem hx) hl4096
    have cN := fun w => DS.new 16384 w room_14
    unfold ptr New0 at cN
    have HA := Lib.hid hsT
    obtain ⟨i0, hi0, hz0, hz1, hz2⟩ := info_parts infoS
    clear hv hl4096 hn hsT
    go_enter Try.func7, Try.ntmps7
    go_upto_region 4 with (first
      | (go_at_call 8; refine cH.mono ?_; rintro e wA ⟨rfl, hb⟩; have acc := acc.trans (hb.mono acc.size); clear hb)
      | (go_at_call 10; refine (cN _).mono ?_; rintro e w1 ⟨da, rfl, hS1⟩))
    have cN2 := TX.new hS1 16384 room_14
    unfold New0 at cN2
    go_wp2_with (go_at_call 10; refine cN2.mono ?_; rintro e w2 ⟨db, rfl, hX0⟩)
    have hE0 : EI wA w2 da db ⟨16384, -1, [], []⟩ ⟨16384, -1, [], []⟩ (.slice none 0 0) [] none [] 0 := ⟨hX0.nil.nil, OwnX.nil _, fun j hj => by simp at hj⟩
    have Hacc := Lib.hid acc
    clear cH cN cN2 hS1 hX0 acc
    go_loopw [7, 8, 9] (fun v7 v8 v9 wr => ∃ (k : Nat) (st : Ds) (na : Option Addr) (N : List ByteArray) (nc : Nat), v9 = .int .i64 k ∧ k ≤ S.length ∧ v7 = .slice na N.length nc ∧ EI wA wr da db st st v8 (N.map (txtF st.S)) na N nc ∧ N.length = st.S.length ∧ NamesOk st.S N ∧ st.fuse = -1 ∧ st.L.length ≤ k) (fun _ _ v9 _ => S.length - (intOf v9).toNat)
    case atStart => exact ⟨0, ⟨16384, -1, [], []⟩, none, [], 0, rfl, Nat.zero_le _, rfl, hE0, rfl, fun j hj => by simp at hj, rfl, Nat.zero_le _⟩
    case round =>
      clear hE0
      obtain ⟨k, ⟨room, f, F, L⟩, na, N, nc, rfl, hk, rfl, hE, hNl, hNo, rfl, hL⟩ := hrel
      simp only at hL hE hNl hNo
      have HNO := Lib.hid hNo
      have HNL := Lib.hid hNl
      clear hNo hNl
      by_cases hlt : k < S.length
      · obtain ⟨⟨op, sA, sB, n, m⟩, hx⟩ : ∃ x, S[k]? = some x := ⟨_, List.getElem?_eq_getElem hlt⟩
        obtain ⟨_, sb, so, rfl, hb1, c0, c1, c2, c3, c4⟩ := HA.out k _ hx
        have hmem := HM.out _ (List.mem_of_getElem? hx)
        simp only at hmem c0 c1 c2 c3 c4
        have bel := Hacc.out.trans (hE.1.bel.mono Hacc.out.size)
        have d0 := (bel.cell hb1).trans c0
        have d1 := (bel.cell hb1).trans c1
        have d2 := (bel.cell hb1).trans c2
        have d3 := (bel.cell hb1).trans c3
        have d4 := (bel.cell hb1).trans c4
        have hki : (k : Int) < (S.length : Int) := by omega
        have hk0 : (0 : Int) ≤ (k : Int) := by omega
        have hbw : Below wr.heap.size wr (wr.alloc (.cells #[.int .i64 op, .string sA, .string sB, .int .i64 n, .int .i64 m] 33)) := (Below.refl _ _).alloc (Nat.le_refl _) _
        have hE2 := hE.below hbw
        have hsz : (wr.alloc (.cells #[.int .i64 op, .string sA, .string sB, .int .i64 n, .int .i64 m] 33)).heap.size = wr.heap.size + 1 := by simp
        have q0 := (cellNew wr #[.int .i64 op, .string sA, .string sB, .int .i64 n, .int .i64 m] 33 0).trans (show _ = some (Value.int .i64 op) from rfl)
        have q1 := (cellNew wr #[.int .i64 op, .string sA, .string sB, .int .i64 n, .int .i64 m] 33 1).trans (show _ = some (Value.string sA) from rfl)
        have q2 := (cellNew wr #[.int .i64 op, .string sA, .string sB, .int .i64 n, .int .i64 m] 33 2).trans (show _ = some (Value.string sB) from rfl)
        have q3 := (cellNew wr #[.int .i64 op, .string sA, .string sB, .int .i64 n, .int .i64 m] 33 3).trans (show _ = some (Value.int .i64 n) from rfl)
        have hbs0 : Below wA.heap.size wA wr := hE.1.bel
        obtain ⟨hT2, hk2⟩ := hE.1.push (v := .slice (some ⟨wr.heap.size, 0, none⟩) 0 0) hbw (fun j hj => by cases hj; exact ⟨Nat.le_refl _, by rw [hsz]; exact Nat.lt_succ_self _⟩)
        have hO2 := hE2.2.1
        have hR2 := hE2.2.2
        clear c0 c1 c2 c3 c4 hbw hx bel hlt hk2 hE2 hbs0 hsz
        go_upto_region 12 with fail
        clear hE d0 d1 d2 d3 d4
        generalize (wr.alloc (.cells #[.int .i64 op, .string sA, .string sB, .int .i64 n, .int .i64 m] 33)) = wa at *
        obtain ⟨bs, hbs⟩ : ∃ b, wr.heap.size = b := ⟨_, rfl⟩
        rw [hbs] at q0 q1 q2 q3 hT2 ⊢
        clear hbs
        by_cases h0 : op = 0
        · subst h0
          obtain ⟨r, hr⟩ : ∃ r, appS ⟨room, -1, F, L⟩ sA sB = r := ⟨_, rfl⟩
          have z1 := gz_app ⟨room, -1, F, L⟩ sA sB
          have z2 := app_S ⟨room, -1, F, L⟩ sA sB
          rw [hr] at z1 z2
          obtain ⟨z1, z3⟩ := z1
          have ca := fun (w' : World) (h : TX wA w' da db ⟨room, -1, F, L⟩ ⟨room, -1, F, L⟩ [.slice (some ⟨bs, 0, none⟩) 0 0, u8, .slice na N.length nc]) => h.append sA sB (by omega) (by omega) (by show L.length ≤ 1000000; omega)
          have cb := fun (w' : World) (h : TX wA w' da db r.2 ⟨room, -1, F, L⟩ [.slice (some ⟨bs, 0, none⟩) 0 0, u8, .slice na N.length nc]) => h.symm.append sA sB (by omega) (by omega) (by show L.length ≤ 1000000; omega)
          simp only [hr] at ca cb
          clear hr
          obtain ⟨e, st'⟩ := r
          simp only at ca cb z1 z2 z3
          have Z2 := Lib.hid z2
          have Z1 := Lib.hid z1
          clear z1 z2
          go_wp2_with (first
            | (go_at_call_of 19 (Value.pointer (some ⟨da, 0, none⟩)); refine (ca _ hT2).mono ?_; rintro _ w4 ⟨rfl, hT4, hK4⟩; have r1 := (cell_heap (o := 1) (hK4 _ (List.mem_cons_self ..) bs rfl)).trans q1; have r2 := (cell_heap (o := 2) (hK4 _ (List.mem_cons_self ..) bs rfl)).trans q2; have r3 := (cell_heap (o := 3) (hK4 _ (List.mem_cons_self ..) bs rfl)).trans q3)
            | (go_at_call_of 19 (Value.pointer (some ⟨db, 0, none⟩)); refine (cb _ hT4).mono ?_; rintro _ w5 ⟨rfl, hT5, hK5⟩))
          have hE6 : EI wA w5 da db st' st' u8 (N.map (txtF F)) na N nc := ⟨hT5.symm.sub (List.sublist_cons_self _ _), (hO2.keep fun g hg => hK4 u8 (by simp) g hg).keep fun g hg => hK5 u8 (by simp) g hg, (hR2.keep (n := N.length) (c := nc) fun j hj => hK4 _ (by simp) j hj).keep (n := N.length) (c := nc) fun j hj => hK5 _ (by simp) j hj⟩
          go_roundw
          case rel => exact ⟨k + 1, st', na, N, nc, by go_num, by omega, rfl, by rw [Z2.out]; exact hE6, by rw [Z2.out]; exact HNL.out, by rw [Z2.out]; exact HNO.out, Z1.out, Nat.le_trans z3 (by omega)⟩
          case measure => simp [intOf]; omega
        by_cases h1 : op = 1
        · subst h1
          obtain ⟨r, hr⟩ : ∃ r, cutS ⟨room, -1, F, L⟩ sA n = r := ⟨_, rfl⟩
          have z1 := gz_cut ⟨room, -1, F, L⟩ sA n
          have z2 := cut_S ⟨room, -1, F, L⟩ sA n
          rw [hr] at z1 z2
          obtain ⟨z1, z3⟩ := z1
          have ca := fun (w' : World) (h : TX wA w' da db ⟨room, -1, F, L⟩ ⟨room, -1, F, L⟩ [.slice (some ⟨bs, 0, none⟩) 0 0, u8, .slice na N.length nc]) => h.cut sA n (by omega) (by show L.length ≤ 1000000; omega)
          have cb := fun (w' : World) (h : TX wA w' da db r.2 ⟨room, -1, F, L⟩ [.slice (some ⟨bs, 0, none⟩) 0 0, u8, .slice na N.length nc]) => h.symm.cut sA n (by omega) (by show L.length ≤ 1000000; omega)
          simp only [hr] at ca cb
          clear hr
          obtain ⟨e, st'⟩ := r
          simp only at ca cb z1 z2 z3
          have Z2 := Lib.hid z2
          have Z1 := Lib.hid z1
          clear z1 z2
          go_wp2_with (first
            | (go_at_call_of 20 (Value.pointer (some ⟨da, 0, none⟩)); refine (ca _ hT2).mono ?_; rintro _ w4 ⟨rfl, hT4, hK4⟩; have r1 := (cell_heap (o := 1) (hK4 _ (List.mem_cons_self ..) bs rfl)).trans q1; have r2 := (cell_heap (o := 2) (hK4 _ (List.mem_cons_self ..) bs rfl)).trans q2; have r3 := (cell_heap (o := 3) (hK4 _ (List.mem_cons_self ..) bs rfl)).trans q3)
            | (go_at_call_of 20 (Value.pointer (some ⟨db, 0, none⟩)); refine (cb _ hT4).mono ?_; rintro _ w5 ⟨rfl, hT5, hK5⟩))
          have hE6 : EI wA w5 da db st' st' u8 (N.map (txtF F)) na N nc := ⟨hT5.symm.sub (List.sublist_cons_self _ _), (hO2.keep fun g hg => hK4 u8 (by simp) g hg).keep fun g hg => hK5 u8 (by simp) g hg, (hR2.keep (n := N.length) (c := nc) fun j hj => hK4 _ (by simp) j hj).keep (n := N.length) (c := nc) fun j hj => hK5 _ (by simp) j hj⟩
          go_roundw
          case rel => exact ⟨k + 1, st', na, N, nc, by go_num, by omega, rfl, by rw [Z2.out]; exact hE6, by rw [Z2.out]; exact HNL.out, by rw [Z2.out]; exact HNO.out, Z1.out, Nat.le_trans z3 (by omega)⟩
          case measure => simp [intOf]; omega
        by_cases h2 : op = 2
        · subst h2
          obtain ⟨r, hr⟩ : ∃ r, renS ⟨room, -1, F, L⟩ sA sB = r := ⟨_, rfl⟩
          have z1 := gz_ren ⟨room, -1, F, L⟩ sA sB
          have z2 := ren_S ⟨room, -1, F, L⟩ sA sB
          rw [hr] at z1 z2
          obtain ⟨z1, z3⟩ := z1
          have ca := fun (w' : World) (h : TX wA w' da db ⟨room, -1, F, L⟩ ⟨room, -1, F, L⟩ [.slice (some ⟨bs, 0, none⟩) 0 0, u8, .slice na N.length nc]) => h.ren sA sB (by omega) (by omega) (by show L.length ≤ 1000000; omega)
          have cb := fun (w' : World) (h : TX wA w' da db r.2 ⟨room, -1, F, L⟩ [.slice (some ⟨bs, 0, none⟩) 0 0, u8, .slice na N.length nc]) => h.symm.ren sA sB (by omega) (by omega) (by show L.length ≤ 1000000; omega)
          simp only [hr] at ca cb
          clear hr
          obtain ⟨e, st'⟩ := r
          simp only at ca cb z1 z2 z3
          have Z2 := Lib.hid z2
          have Z1 := Lib.hid z1
          clear z1 z2
          go_wp2_with (first
            | (go_at_call_of 21 (Value.pointer (some ⟨da, 0, none⟩)); refine (ca _ hT2).mono ?_; rintro _ w4 ⟨rfl, hT4, hK4⟩; have r1 := (cell_heap (o := 1) (hK4 _ (List.mem_cons_self ..) bs rfl)).trans q1; have r2 := (cell_heap (o := 2) (hK4 _ (List.mem_cons_self ..) bs rfl)).trans q2; have r3 := (cell_heap (o := 3) (hK4 _ (List.mem_cons_self ..) bs rfl)).trans q3)
            | (go_at_call_of 21 (Value.pointer (some ⟨db, 0, none⟩)); refine (cb _ hT4).mono ?_; rintro _ w5 ⟨rfl, hT5, hK5⟩))
          have hE6 : EI wA w5 da db st' st' u8 (N.map (txtF F)) na N nc := ⟨hT5.symm.sub (List.sublist_cons_self _ _), (hO2.keep fun g hg => hK4 u8 (by simp) g hg).keep fun g hg => hK5 u8 (by simp) g hg, (hR2.keep (n := N.length) (c := nc) fun j hj => hK4 _ (by simp) j hj).keep (n := N.length) (c := nc) fun j hj => hK5 _ (by simp) j hj⟩
          go_roundw
          case rel => exact ⟨k + 1, st', na, N, nc, by go_num, by omega, rfl, by rw [Z2.out]; exact hE6, by rw [Z2.out]; exact HNL.out, by rw [Z2.out]; exact HNO.out, Z1.out, Nat.le_trans z3 (by omega)⟩
          case measure => simp [intOf]; omega
        by_cases h3 : op = 3
        · subst h3
          obtain ⟨r, hr⟩ : ∃ r, remS ⟨room, -1, F, L⟩ sA = r := ⟨_, rfl⟩
          have z1 := gz_rem ⟨room, -1, F, L⟩ sA
          have z2 := rem_S ⟨room, -1, F, L⟩ sA
          rw [hr] at z1 z2
          obtain ⟨z1, z3⟩ := z1
          have ca := fun (w' : World) (h : TX wA w' da db ⟨room, -1, F, L⟩ ⟨room, -1, F, L⟩ [.slice (some ⟨bs, 0, none⟩) 0 0, u8, .slice na N.length nc]) => h.rem sA (by omega) (by show L.length ≤ 1000000; omega)
          have cb := fun (w' : World) (h : TX wA w' da db r.2 ⟨room, -1, F, L⟩ [.slice (some ⟨bs, 0, none⟩) 0 0, u8, .slice na N.length nc]) => h.symm.rem sA (by omega) (by show L.length ≤ 1000000; omega)
          simp only [hr] at ca cb
          clear hr
          obtain ⟨e, st'⟩ := r
          simp only at ca cb z1 z2 z3
          have Z2 := Lib.hid z2
          have Z1 := Lib.hid z1
          clear z1 z2
          go_wp2_with (first
            | (go_at_call_of 22 (Value.pointer (some ⟨da, 0, none⟩)); refine (ca _ hT2).mono ?_; rintro _ w4 ⟨rfl, hT4, hK4⟩; have r1 := (cell_heap (o := 1) (hK4 _ (List.mem_cons_self ..) bs rfl)).trans q1; have r2 := (cell_heap (o := 2) (hK4 _ (List.mem_cons_self ..) bs rfl)).trans q2; have r3 := (cell_heap (o := 3) (hK4 _ (List.mem_cons_self ..) bs rfl)).trans q3)
            | (go_at_call_of 22 (Value.pointer (some ⟨db, 0, none⟩)); refine (cb _ hT4).mono ?_; rintro _ w5 ⟨rfl, hT5, hK5⟩))
          have hE6 : EI wA w5 da db st' st' u8 (N.map (txtF F)) na N nc := ⟨hT5.symm.sub (List.sublist_cons_self _ _), (hO2.keep fun g hg => hK4 u8 (by simp) g hg).keep fun g hg => hK5 u8 (by simp) g hg, (hR2.keep (n := N.length) (c := nc) fun j hj => hK4 _ (by simp) j hj).keep (n := N.length) (c := nc) fun j hj => hK5 _ (by simp) j hj⟩
          go_roundw
          case rel => exact ⟨k + 1, st', na, N, nc, by go_num, by omega, rfl, by rw [Z2.out]; exact hE6, by rw [Z2.out]; exact HNL.out, by rw [Z2.out]; exact HNO.out, Z1.out, Nat.le_trans z3 (by omega)⟩
          case measure => simp [intOf]; omega
        by_cases h4 : op = 4
        · subst h4
          have hE2 : EI wA wa da db ⟨room, -1, F, L⟩ ⟨room, -1, F, L⟩ u8 (N.map (txtF F)) na N nc := ⟨hT2.sub (List.sublist_cons_self _ _), hO2, hR2⟩
          obtain ⟨T, hTT⟩ : ∃ T, doAll F L = T := ⟨_, rfl⟩
          have ca := fun (w' : World) (h : EI wA w' da db ⟨room, -1, F, L⟩ ⟨room, -1, F, L⟩ u8 (N.map (txtF F)) na N nc) => h.call (h.1.sync (by show L.length ≤ 1000000; omega))
          have cb := fun (w' : World) (h : EI wA w' da db ⟨room, -1, T, []⟩ ⟨room, -1, F, L⟩ u8 (N.map (txtF F)) na N nc) => h.symm.call (h.symm.1.sync (by show L.length ≤ 1000000; omega))
          simp only [sync_m, hTT] at ca cb
          clear hTT hT2 hO2 hR2
          go_upto_region 28 with (first
            | (go_at_call_of 23 (Value.pointer (some ⟨da, 0, none⟩)); refine (ca _ hE2).mono ?_; rintro _ w4 ⟨rfl, hE4⟩)
            | (go_at_call_of 23 (Value.pointer (some ⟨db, 0, none⟩)); refine (cb _ hE4).mono ?_; rintro _ w5 ⟨rfl, hE5⟩))
          clear ca cb hE2 hE4
          go_wp2_with (go_at_call 24; refine hE5.anew.mono ?_; rintro _ w6 ⟨la, lc, K, rfl, hKl, hKo, hE6⟩; have HKL := Lib.hid hKl; clear hKl)
          have HKO := Lib.hid hKo
          have hKl := HKL.out
          clear hE5 hKo
          have hTn : Ds.now ⟨room, -1, T, []⟩ = T := rfl
          rw [hTn] at HKO HKL hKl
          have hfin := hE6.1.one.fine.1.2
          rw [hTn] at hfin
          have hK64 : K.length ≤ 64 := by omega
          clear hfin hKl hTn
          go_loopw [8, 11] (fun v8 v11 wr => ∃ (k2 : Nat) (M : List ByteArray), v11 = .int .i64 k2 ∧ k2 ≤ K.length ∧ M = (K.take k2).map (txtF T) ∧ EI wA wr db da ⟨room, -1, T, []⟩ ⟨room, -1, T, []⟩ v8 M la K lc) (fun _ v11 _ => K.length - (intOf v11).toNat)
          case atStart => exact ⟨0, [], rfl, Nat.zero_le _, rfl, hE6⟩
          case round =>
          clear hE6
          obtain ⟨k2, M, rfl, hk2, hM, hE⟩ := hrel
          have HMM := Lib.hid hM
          have hMl : M.length ≤ 64 := by rw [hM, List.length_map, List.length_take]; omega
          clear hM
          by_cases hlt2 : k2 < K.length
          · obtain ⟨hhas, hsz⟩ := HKO.out k2 hlt2
            obtain ⟨nb, no, rfl, hcn⟩ := hE.2.2 k2 hlt2
            obtain ⟨r1, r2⟩ := read_m hhas
            have cr := OX.read hE.1.one (K.getD k2 ByteArray.empty) hsz
            have hTn : Ds.now ⟨room, -1, T, []⟩ = T := rfl
            rw [hTn] at cr
            try simp only at cr
            rw [r1, r2] at cr
            have HSN := Lib.hid (take_snoc hlt2 (txtF T))
            have hki2 : (k2 : Int) < (K.length : Int) := by omega
            have hk02 : (0 : Int) ≤ (k2 : Int) := by omega
            change Calls _ _ _ _ (fun e w' => e = Ending.returned (.tuple #[.string (txtF T (K.getD k2 ByteArray.empty)), .int .i64 0]) ∧ w' = _) at cr
            clear r1 r2 hhas hsz hlt2 hTn
            generalize txtF T (K.getD k2 ByteArray.empty) = tx at *
            generalize K.getD k2 ByteArray.empty = nm at *
            have hE7 := hE.below (w' := wr.alloc (.cells #[Value.string tx] 9)) ((Below.refl _ _).alloc (Nat.le_refl _) _)
            go_wp2_with (first
              | (go_at_call 25; refine cr.mono ?_; rintro _ wr ⟨rfl, rfl⟩)
              | (at_builtin; refine wpList_append_lies _ rfl _ _ _ rfl 0 9 i0 _ 1 16 Try.underlying46 hi0 hz0 hz1 hz2 rfl (by omega) _ M.length (M.map Value.string) rfl (World.ownsRow.alloc hE.2.1 _) ⟨wr.heap.size, 0, none⟩ 1 1 [.string tx] rfl rfl (World.news_of_block (cs := #[Value.string tx]) (t := 9) (fr := (0, 0)) (heap_alloc_new wr _)) (by simp [Value.oneCell']) (by omega) (by unfold maxLen; omega) (by omega) (Nat.zero_le _) (wr.heap.size + 1) (by simp) ?_; intro g2 cap2 w11 hown3 hgrow hat hglt2))
            have hE8 := hE7.grow hown3 hgrow (hat.imp_right fun e => by rw [e]; simp) hglt2
            go_roundw
            case rel => exact ⟨k2 + 1, _, by go_num, by omega, by rw [HSN.out, HMM.out], hE8⟩
            case measure => simp [intOf]; omega
          · have hkl2 : ¬ (k2 : Int) < (K.length : Int) := by omega
            obtain rfl : k2 = K.length := by omega
            have hM2 := HMM.out
            rw [List.take_length] at hM2
            clear hlt2 hk2
            have HE9 := Lib.hid hE.symm
            have HM2 := Lib.hid hM2
            clear hE hM2
            go_wp2
            go_roundw
            case rel => exact ⟨k + 1, ⟨room, -1, T, []⟩, la, K, lc, by go_num, by omega, rfl, by rw [← HM2.out]; exact HE9.out, HKL.out, HKO.out, rfl, Nat.zero_le _⟩
            case measure => simp [intOf]; omega
        have hE2 : EI wA wa da db ⟨room, -1, F, L⟩ ⟨room, -1, F, L⟩ u8 (N.map (txtF F)) na N nc := ⟨hT2.sub (List.sublist_cons_self _ _), hO2, hR2⟩
        go_wp2
        go_roundw
        case rel => exact ⟨k + 1, _, na, N, nc, by go_num, by omega, rfl, hE2, HNL.out, HNO.out, rfl, by show L.length ≤ k + 1; omega⟩
        case measure => simp [intOf]; omega
      · have hkl : ¬ (k : Int) < (S.length : Int) := by omega
        obtain ⟨M, hM⟩ : ∃ M, N.map (txtF F) = M := ⟨_, rfl⟩
        rw [hM] at hE
        have HML : Hid (M.length = N.length) := Lib.hid (by rw [← hM, List.length_map])
        have HMG : Hid (∀ j, j < N.length → M.getD j ByteArray.empty = txtF F (N.getD j ByteArray.empty)) := Lib.hid fun j hj => by rw [← hM]; exact getD_map hj _
        obtain ⟨A, hA⟩ : ∃ A, doAll F L = A := ⟨_, rfl⟩
        have HAA := Lib.hid hA
        have hF64 : F.length ≤ 64 := hE.1.one.fineS.2
        have hN64 : N.length ≤ 64 := by rw [HNL.out]; exact hF64
        obtain ⟨ta, tc, rfl, cNm⟩ := hE.jot
        have hnow : Ds.now ⟨room, -1, F, L⟩ = A := hA
        simp only [hnow] at cNm
        clear hM hA hF64 HA HM hE hlt
        go_upto_region 36 with (go_at_call 24; refine cNm.mono ?_; rintro _ w8 ⟨la, lc, K, rfl, hKl, hKo, hJ⟩; have HKL := Lib.hid hKl; clear hKl)
        have HKO := Lib.hid hKo
        have hK64 : K.length ≤ 64 := by
          have h1 := hJ.1.one.fine.1.2
          rw [hnow] at h1
          have h2 := HKL.out
          omega
        clear cNm hKo hnow
        go_wp2
        go_loopw [15, 16] (fun v15 v16 wr => ∃ (k2 : Nat) (W : List ByteArray), v16 = .int .i64 k2 ∧ k2 ≤ K.length ∧ W = (K.take k2).map (txtF A) ∧ EJ wA wr da db ⟨room, -1, F, L⟩ ⟨room, -1, F, L⟩ v15 W la K lc ta M tc na N nc) (fun _ v16 _ => K.length - (intOf v16).toNat)
        case atStart => exact ⟨0, [], rfl, Nat.zero_le _, rfl, hJ⟩
        case round =>
        clear hJ
        obtain ⟨k2, W, rfl, hk2, hW, hE⟩ := hrel
        have HWW := Lib.hid hW
        have hWl : W.length ≤ 64 := by rw [hW, List.length_map, List.length_take]; omega
        clear hW
        by_cases hlt2 : k2 < K.length
        · obtain ⟨hhas, hsz⟩ := HKO.out k2 hlt2
          obtain ⟨nb, no, rfl, hcn⟩ := hE.2.2.1 k2 hlt2
          obtain ⟨r1, r2⟩ := read_m hhas
          have cr := OX.read hE.1.one (K.getD k2 ByteArray.empty) hsz
          have hTn : Ds.now ⟨room, -1, F, L⟩ = A := HAA.out
          rw [hTn] at cr
          try simp only at cr
          rw [r1, r2] at cr
          have HSN := Lib.hid (take_snoc hlt2 (txtF A))
          have hki2 : (k2 : Int) < (K.length : Int) := by omega
          have hk02 : (0 : Int) ≤ (k2 : Int) := by omega
          change Calls _ _ _ _ (fun e w' => e = Ending.returned (.tuple #[.string (txtF A (K.getD k2 ByteArray.empty)), .int .i64 0]) ∧ w' = _) at cr
          clear r1 r2 hhas hsz hlt2 hTn
          generalize txtF A (K.getD k2 ByteArray.empty) = tx at *
          generalize K.getD k2 ByteArray.empty = nm at *
          have hE7 := hE.below (w' := wr.alloc (.cells #[Value.string tx] 9)) ((Below.refl _ _).alloc (Nat.le_refl _) _)
          go_wp2_with (first
            | (go_at_call 25; refine cr.mono ?_; rintro _ wr ⟨rfl, rfl⟩)
            | (at_builtin; refine wpList_append_lies _ rfl _ _ _ rfl 0 9 i0 _ 1 16 Try.underlying46 hi0 hz0 hz1 hz2 rfl (by omega) _ W.length (W.map Value.string) rfl (World.ownsRow.alloc hE.2.1 _) ⟨wr.heap.size, 0, none⟩ 1 1 [.string tx] rfl rfl (World.news_of_block (cs := #[Value.string tx]) (t := 9) (fr := (0, 0)) (heap_alloc_new wr _)) (by simp [Value.oneCell']) (by omega) (by unfold maxLen; omega) (by omega) (Nat.zero_le _) (wr.heap.size + 1) (by simp) ?_; intro g2 cap2 w11 hown3 hgrow hat hglt2))
          have hE8 := hE7.grow hown3 hgrow (hat.imp_right fun e => by rw [e]; simp) hglt2
          go_roundw
          case rel => exact ⟨k2 + 1, _, by go_num, by omega, by rw [HSN.out, HWW.out], hE8⟩
          case measure => simp [intOf]; omega
        · have hkl2 : ¬ (k2 : Int) < (K.length : Int) := by omega
          obtain rfl : k2 = K.length := by omega
          have hW2 := HWW.out
          rw [List.take_length] at hW2
          have HWL : Hid (W.length = K.length) := Lib.hid (by rw [hW2, List.length_map])
          have HWG : Hid (∀ j, j < K.length → W.getD j ByteArray.empty = txtF A (K.getD j ByteArray.empty)) := Lib.hid fun j hj => by rw [hW2]; exact getD_map hj _
          obtain ⟨wa, wc, rfl, _⟩ := hE.2.1.form
          obtain ⟨C, hC⟩ : ∃ C, crashF ⟨room, -1, F, L⟩ 0 (-1) = C := ⟨_, rfl⟩
          have hCn := crashed_none room (-1) F L
          rw [hC] at hCn
          have HC1 := Lib.hid hCn.1
          have HC2 := Lib.hid hCn.2
          have hc1 : (crashS ⟨room, -1, F, L⟩ 1000 0).2 = ⟨room, -1, A, []⟩ := by
            show (⟨room, -1, crashF ⟨room, -1, F, L⟩ 1000 0, []⟩ : Ds) = _
            rw [crashed_all _ _ _ _ (by omega), HAA.out]
          have hc2 : (crashS ⟨room, -1, F, L⟩ 0 (-1)).2 = ⟨room, -1, C, []⟩ := by
            show (⟨room, -1, crashF ⟨room, -1, F, L⟩ 0 (-1), []⟩ : Ds) = _
            rw [hC]
          have hc3 : (crashS ⟨room, -1, C, []⟩ (-1) 5).2 = ⟨room, -1, C, []⟩ := by
            show (⟨room, -1, crashF ⟨room, -1, C, []⟩ (-1) 5, []⟩ : Ds) = _
            rw [crashed_nil]
          have c1 := hE.call (hE.1.crash 1000 0 (by show L.length ≤ 1000000; omega))
          have c2 := fun (w' : World) (h : EJ wA w' da db ⟨room, -1, A, []⟩ ⟨room, -1, F, L⟩ (.slice wa W.length wc) W la K lc ta M tc na N nc) => h.symm.call (h.symm.1.crash 0 (-1) (by show L.length ≤ 1000000; omega))
          have c3 := fun (w' : World) (h : EJ wA w' db da ⟨room, -1, C, []⟩ ⟨room, -1, A, []⟩ (.slice wa W.length wc) W la K lc ta M tc na N nc) => h.call (h.1.crash (-1) 5 (Nat.zero_le _))
          simp only [hc1] at c1
          simp only [hc2] at c2
          simp only [hc3] at c3
          clear hc1 hc2 hc3 hCn hC hW2 hlt2 hk2 hE
          go_upto_region 44 with (first
            | (go_at_call_of 26 (Value.int .i64 1000); refine c1.mono ?_; rintro _ w12 ⟨rfl, hJ1⟩)
            | (go_at_call_of 26 (Value.int .i64 5); refine (c3 _ hJ2).mono ?_; rintro _ w14 ⟨rfl, hJ3⟩)
            | (go_at_call 26; refine (c2 _ hJ1).mono ?_; rintro _ w13 ⟨rfl, hJ2⟩))
          clear c1 c2 c3 hJ1 hJ2
          go_wp2_with (first
            | (go_at_call_of 24 (Value.pointer (some ⟨da, 0, none⟩)); refine (EJ.names hJ3.symm).mono ?_; rintro _ w15 ⟨xa, xc, xn, rfl, hxn, hJ4⟩; obtain rfl : xn = K.length := hxn.trans HKL.out.symm; clear hxn)
            | (go_at_call_of 24 (Value.pointer (some ⟨db, 0, none⟩)); refine (EJ.names hJ4.symm).mono ?_; rintro _ w16 ⟨ya, yc, yn, rfl, hyn, hJ5⟩; have hy1 : ¬ ((N.length : Int) + 1 < (yn : Int)) := (by have h1 : yn = C.length := hyn; have h2 := HC2.out; have h3 := HNL.out; omega); have hy2 : IntKind.i64.wrap ((N.length : Int) + 1) = (N.length : Int) + 1 := IntWalk.i64_in _ (by omega); clear hyn))
          clear hy1 hy2 hJ3 hJ4
          go_loopw [19] (fun vi wr => ∃ k3 : Nat, vi = .int .i64 k3 ∧ k3 ≤ K.length ∧ EJ wA wr db da ⟨room, -1, C, []⟩ ⟨room, -1, A, []⟩ (.slice wa W.length wc) W la K lc ta M tc na N nc) (fun vi _ => K.length - (intOf vi).toNat)
          case atStart => exact ⟨0, rfl, Nat.zero_le _, hJ5⟩
          case round =>
          clear hJ5
          obtain ⟨k3, rfl, hk3, hE⟩ := hrel
          by_cases hlt3 : k3 < K.length
          · obtain ⟨hhas, hsz⟩ := HKO.out k3 hlt3
            have HE := Lib.hid hE
            have hcw0 := hE.2.1.rowAt k3 (by have := HWL.out; omega)
            obtain ⟨xb, xo, rfl, hcw⟩ := hcw0
            rw [HWG.out k3 hlt3] at hcw
            obtain ⟨nb, no, rfl, hcn⟩ := hE.2.2.1 k3 hlt3
            obtain ⟨r1, r2⟩ := read_m hhas
            have cr := OX.read hE.symm.1.one (K.getD k3 ByteArray.empty) hsz
            have hTn : Ds.now ⟨room, -1, A, []⟩ = A := rfl
            rw [hTn] at cr
            try simp only at cr
            rw [r1, r2] at cr
            change Calls _ _ _ _ (fun e w' => e = Ending.returned (.tuple #[.string (txtF A (K.getD k3 ByteArray.empty)), .int .i64 0]) ∧ w' = _) at cr
            have hki2 : (k3 : Int) < (K.length : Int) := by omega
            have hkw2 : (k3 : Int) < (W.length : Int) := by have := HWL.out; omega
            have hk02 : (0 : Int) ≤ (k3 : Int) := by omega
            clear r1 r2 hhas hsz hlt3 hTn hE
            generalize txtF A (K.getD k3 ByteArray.empty) = tx at *
            generalize K.getD k3 ByteArray.empty = nm at *
            have e0 : (tx.toList != tx.toList) = false := by simp
            go_wp2_with (go_at_call 25; refine cr.mono ?_; rintro _ wr ⟨rfl, rfl⟩)
            go_roundw
            case rel => exact ⟨k3 + 1, by go_num, by omega, HE.out⟩
            case measure => simp [intOf]; omega
          · have hkl3 : ¬ (k3 : Int) < (K.length : Int) := by omega
            have HE := Lib.hid hE
            clear hlt3 hE hk3
            go_wp2
            go_loopw [22] (fun vi wr => ∃ k4 : Nat, vi = .int .i64 k4 ∧ k4 ≤ N.length ∧ EJ wA wr db da ⟨room, -1, C, []⟩ ⟨room, -1, A, []⟩ (.slice wa W.length wc) W la K lc ta M tc na N nc) (fun vi _ => N.length - (intOf vi).toNat)
            case atStart => exact ⟨0, rfl, Nat.zero_le _, HE.out⟩
            case round =>
            clear HE
            obtain ⟨k4, rfl, hk4, hE⟩ := hrel
            by_cases hlt4 : k4 < N.length
            · obtain ⟨hhas0, hsz⟩ := HNO.out k4 hlt4
              obtain ⟨hhas, hgt⟩ := HC1.out _ hhas0
              have HE := Lib.hid hE
              have hcw0 := hE.2.2.2.1 k4 (by have := HML.out; omega)
              obtain ⟨xb, xo, rfl, hcw⟩ := hcw0
              rw [HMG.out k4 hlt4] at hcw
              obtain ⟨nb, no, rfl, hcn⟩ := hE.2.2.2.2 k4 hlt4
              obtain ⟨r1, r2⟩ := read_m hhas
              have cr := OX.read hE.1.one (N.getD k4 ByteArray.empty) hsz
              have hTn : Ds.now ⟨room, -1, C, []⟩ = C := rfl
              rw [hTn] at cr
              try simp only at cr
              rw [r1, r2, hgt] at cr
              change Calls _ _ _ _ (fun e w' => e = Ending.returned (.tuple #[.string (txtF F (N.getD k4 ByteArray.empty)), .int .i64 0]) ∧ w' = _) at cr
              have hki2 : (k4 : Int) < (N.length : Int) := by omega
              have hkw2 : (k4 : Int) < (M.length : Int) := by have := HML.out; omega
              have hk02 : (0 : Int) ≤ (k4 : Int) := by omega
              clear r1 r2 hhas hhas0 hgt hsz hlt4 hTn hE
              generalize txtF F (N.getD k4 ByteArray.empty) = tx at *
              generalize N.getD k4 ByteArray.empty = nm at *
              have e0 : (tx.toList != tx.toList) = false := by simp
              go_wp2_with (go_at_call 25; refine cr.mono ?_; rintro _ wr ⟨rfl, rfl⟩)
              go_roundw
              case rel => exact ⟨k4 + 1, by go_num, by omega, HE.out⟩
              case measure => simp [intOf]; omega
            · have hkl4 : ¬ (k4 : Int) < (N.length : Int) := by omega
              clear hlt4
              go_wp2_with (go_at_call 9; refine (hwks _).mono ?_; rintro _ w20 ⟨rfl, hb⟩)
              go_ret
              have hw7 := Hacc.out.trans (hE.1.bel.mono Hacc.out.size)
              exact ⟨rfl, hw7.trans (hb.mono hw7.size)⟩

/-! ### From the walk to the statement -/
theorem own : ownKnob Try.prog.godebug = none := by kernel_rfl
set_option maxRecDepth 100000 in
theorem lifted (os : Os) (started : os.Started) (H : Type) (enc : TypeId × Value → H) :
    ReturnsInHanded {} Try.checked os 7 .any (Rows.diskEndsSpec.pre6 enc Try.prog Try.f7 Rows.diskEndsRow.domain false) (Rows.diskEndsSpec.post enc Try.prog Try.f7 false true false false) := by
  refine returnsInHanded_of_change_sized (C := Try.checked) own started (by kernel_rfl) Try.func7
    (ChangeSpec.witness6 (enc := enc) (C := Try.checked) false ⟨#[], #[.slice none 0 0], []⟩ 8 (by kernel_rfl) (by kernel_rfl) (by kernel_rfl) (by kernel_rfl)) ?_
  intro W base args ds gs before hval0 hW hcnd hsz0 _
  have hval : ∀ (j : Nat) t v, Try.f7.params[j]? = some t → args[j]? = some v → Value.okWide Try.prog W .any base t v := hval0
  have hsz : (DataW.weightsEach Try.prog (Try.f7.params.toList ++ Rows.diskEndsSpec.plain.varTypes Try.prog) (ds ++ gs)).all (· ≤ reachBytes) = true := hsz0
  have hW' := hW
  obtain ⟨p, q, hA0, hV, rfl, hfz, hnd⟩ := hW
  have hA : DataW.TrodAll enc Try.prog W 0 (fun _ => true) true Try.f7.params.toList args.toList ds p := hA0
  rw [Try.params7] at hA hval hsz
  obtain ⟨v0, vs0, d0, ds0, p0, q0, hargs, rfl, rfl, h0, r0⟩ := trodAll_cons hA
  obtain ⟨rfl, rfl, rfl⟩ := trodAll_nil r0
  obtain rfl : args = #[v0] := by cases args; simp_all
  obtain ⟨rfl, rfl⟩ := trodVars_none hV
  have h0k := h0
  have hlt0 : ∀ x ∈ p0, x.block < W.heap.size := fun x hx => hW'.lt x (by simp [hx])
  obtain ⟨ba0, bn0, bc0, rfl⟩ := okWide_slice Try.underlying22 (hval 0 22 v0 rfl rfl)
  obtain ⟨fuel0, hf0⟩ := h0
  obtain ⟨a0, hT0, n0⟩ := open_steps (c := bc0) hf0 (fun n hn => by have := List.all_eq_true.1 hsz n (DataW.weights_mem_each (j := 0) (t := 22) rfl rfl n hn); simpa using this)
  clear hA0 hval0 hsz0
  refine (walk a0  hT0 n0 W rfl).mono fun e W' ⟨he, bel⟩ => ?_
  subst he
  exact ⟨_, rfl, _, _, _, [], _, [], hW', trodAll_mk1 (shut_bool Try.underlying4 _), (trodAll_cons_mk (Below.trod (show laidOutB Try.prog = true by kernel_rfl) (by kernel_rfl) (of_decide_eq_true (by kernel_rfl)) h0k bel hlt0) trodAll_mk0), rfl, bel.frame _, fun h => by cases h⟩

theorem over : Rows.diskEndsRow.holds Try.pinned (OpenSpec.ofChange Rows.diskEndsSpec) :=
  OpenClaim.holds_of_wide 7 Try.f7 rfl rfl rfl rfl rfl rfl rfl ⟨rfl, rfl, rfl, rfl, rfl⟩ rfl rfl rfl rfl rfl (by kernel_rfl) Try.func7 (by kernel_rfl)
    (of_decide_eq_true (by kernel_rfl)) (by unfold Func.isWrapper; first | (rw [if_pos (by decide +kernel)]; kernel_rfl) | (rw [if_neg (by decide +kernel)]; exact ⟨rfl, rfl⟩))
    (fun os started H enc _ => lifted os started H enc)

/-- THE STATEMENT -/
theorem proved : Rows.DiskEndsSaid := over
end Go.Proofs.Ytojmbbmjmbppdaa.diskEnds
