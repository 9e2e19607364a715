/-
  CONTRACT of codicilref02's Reader: escape. (gen_rd3.py writes it.)
-/
import Derived.Test.YtakdhfjlhkejdaaGreatDoorCJsonRd2
import Derived.Deep.DeepCutAuto
set_option linter.unusedSimpArgs false
set_option linter.unusedVariables false
set_option linter.unusedVariables false
set_option linter.unusedSimpArgs false
namespace Go.Proofs.YtakdhfjlhkejdaaGreatDoor
open Go.RowKit
def EscEnd (rb : Nat) (s : ByteArray) (a v : Nat) (r : Option (List UInt8 × Nat)) (e : Ending) (w' : World) : Prop :=
  match r with
  | none => e = .returned (.string ⟨#[]⟩) ∧ RS w' rb s a v a 23
  | some (b, k) => e = .returned (.string ⟨b.toArray⟩) ∧ RS w' rb s (a + k) v 0 0
def escPS : ByteArray := ⟨#[34, 92, 47, 98, 102, 110, 114, 116]⟩
def escSS : ByteArray := ⟨#[34, 92, 47, 8, 12, 10, 13, 9]⟩
theorem esc_hit (t : List UInt8) : ∀ i, i < 8 → escL (92 :: escPS.data.toList.getD i 0 :: t) = some ((escSS.extract i (i + 1)).data.toList, 2)
  | 0, _ => rfl
  | 1, _ => rfl
  | 2, _ => rfl
  | 3, _ => rfl
  | 4, _ => rfl
  | 5, _ => rfl
  | 6, _ => rfl
  | 7, _ => rfl
  | n + 8, h => absurd h (by omega)
/-- what an escape sequence of hexadecimal digits stands for -/
def tailE (u1 u2 : Option Int) : Option (List UInt8 × Nat) :=
  match u1 with
  | none => none
  | some r => if pointB r then some ((bytesS r).data.toList, 6) else if pairB r (u2.getD 0) then some ((bytesS (pairR r (u2.getD 0))).data.toList, 12) else none
theorem esc_miss {c : UInt8} (t : List UInt8) (h : ∀ i, i < 8 → escPS.data.toList.getD i 0 ≠ c) : escL (92 :: c :: t) = tailE (unitL (92 :: c :: t)) (unitL (t.drop 4)) := by
  have h0 : ¬ c = 34 := fun e => h 0 (by omega) e.symm
  have h1 : ¬ c = 92 := fun e => h 1 (by omega) e.symm
  have h2 : ¬ c = 47 := fun e => h 2 (by omega) e.symm
  have h3 : ¬ c = 98 := fun e => h 3 (by omega) e.symm
  have h4 : ¬ c = 102 := fun e => h 4 (by omega) e.symm
  have h5 : ¬ c = 110 := fun e => h 5 (by omega) e.symm
  have h6 : ¬ c = 114 := fun e => h 6 (by omega) e.symm
  have h7 : ¬ c = 116 := fun e => h 7 (by omega) e.symm
  have e6 : (92 :: c :: t).drop 6 = t.drop 4 := rfl
  unfold tailE
  simp only [escL, if_neg h0, if_neg h1, if_neg h2, if_neg h3, if_neg h4, if_neg h5, if_neg h6, if_neg h7, e6]
  cases unitL (92 :: c :: t) <;> rfl
theorem unit_no {c : UInt8} (t : List UInt8) (h : c ≠ 117) : unitL (92 :: c :: t) = none := by
  unfold unitL
  split
  · rename_i u e
    simp only [List.cons.injEq, true_and] at e
    exact absurd e.1 h
  · rfl
theorem unit_yes (t : List UInt8) : unitL (92 :: 117 :: t) = hexO ⟨t.toArray⟩ := rfl
theorem unit_nil : unitL [] = none := rfl
theorem unit_at {l : List UInt8} (h : ¬ (2 ≤ l.length ∧ l.getD 0 0 = 92 ∧ l.getD 1 0 = 117)) : unitL l = none := by
  unfold unitL
  split
  · exact absurd ⟨by simp, rfl, rfl⟩ h
  · rfl
theorem hexP (s : ByteArray) : hexO s = if hexB s then some (hexR s) else none := by
  unfold hexB hexR
  cases hexO s <;> rfl
theorem pair_zero (r : Int) : pairB r 0 = false := by
  unfold pairB
  rw [show lowB 0 = false from rfl, Bool.and_false]
theorem mk_list (b : ByteArray) : (⟨b.data.toList.toArray⟩ : ByteArray) = b := rfl
set_option maxRecDepth 10000000 in
set_option maxHeartbeats 8000000 in
theorem rEscape_any (rb : Nat) (s : ByteArray) (a v : Nat) (w : World) (h : RS w rb s a v 0 0) (hs : s.size ≤ 1000000000) (ha : a < s.size) (h92 : s[a] = 92) :
    Calls Tryz.prog 100 #[.pointer (some ⟨rb, 0, none⟩)] w fun e w' => EscEnd rb s a v (escL (s.data.toList.drop a)) e w' ∧ GB rb w w' := by
  obtain ⟨c0, c1, c2, c3, c4⟩ := h.cells
  have f1 := h.frozen 1
  have cF := fun (w2 : World) (h2 : RS w2 rb s a v 0 0) => rFail_any rb s a v 0 a 23 w2 h2
  have hL : s.data.toList.drop a = 92 :: (s.extract (a + 1) s.size).data.toList := by
    rw [byL_split (byL_at s a ha), from_data, h92]
  have hRs : (s.extract (a + 1) s.size).size ≤ 1000000000 := by rw [Lib.size_eq, from_data, List.length_drop, ← Lib.size_eq]; omega
  have ha1 : a + 1 ≤ s.size := ha
  have ha2 : (a : Int) + 1 ≤ (s.size : Int) := by omega
  rw [hL]
  obtain ⟨R, hR⟩ : ∃ R, R = s.extract (a + 1) s.size := ⟨_, rfl⟩
  have HR := Lib.hid hR
  rw [← hR] at hRs ⊢
  clear hL h92
  have hRm : R.size ≤ maxLen := by unfold maxLen; omega
  obtain ⟨X, hX⟩ : ∃ X, X = escL (92 :: R.data.toList) := ⟨_, rfl⟩
  rw [← hX]
  have E := Lib.hid hX
  clear hX
  have g0 := GB.refl rb w
  go_enter Tryz.func100, Tryz.ntmps100
  go_upto_region 3 with fail
  rw [← hR]
  clear hR
  by_cases hR0 : R.size = 0
  · have hRl : R.data.toList = [] := List.length_eq_zero_iff.1 (by rw [← Lib.size_eq]; exact hR0)
    have hRe : R.toList = [] := by rw [ByteArray.toList_eq]; exact hRl
    have EN : Hid (X = none) := Lib.hid (by rw [E.out, hRl]; rfl)
    clear hRl hR0
    go_wp2_with fail
    go_loopw [7] (fun vi wr => vi = .int .i64 0 ∧ wr = w) (fun _ _ => 0)
    case atStart => exact ⟨rfl, rfl⟩
    case round =>
      obtain ⟨rfl, rfl⟩ := hrel
      go_wp2_with (go_at_call 37; refine (cF _ h).mono ?_; rintro e w2 ⟨rfl, h2, g2⟩)
      go_ret
      exact ⟨by rw [EN.out]; exact ⟨rfl, h2⟩, g2⟩
  · have hRp : 0 < R.size := by omega
    obtain ⟨t, ht⟩ : ∃ t, R.data.toList = R[0] :: t := by
      have := byL_split (byL_at R 0 hRp)
      rw [List.drop_zero] at this
      exact ⟨_, this⟩
    have hRne : ¬ (R.toList = []) := by rw [ByteArray.toList_eq, ht]; simp
    have hRe1 : (R.toList == []) = false := beq_false_of_ne hRne
    have hRe2 : (R.toList != []) = true := by simp [bne, hRe1]
    obtain ⟨x, hx⟩ : ∃ x : Int, x = ((R[0].toNat : Nat) : Int) := ⟨_, rfl⟩
    have hx0 : ∀ w : World, (Instr.index 9 (.string R) (.int .i64 0)).run Tryz.prog w = .ok (.int .u8 x) w := run_index_at R 0 hRp x hx
    obtain ⟨b, hb⟩ : ∃ b : UInt8, b = R[0] := ⟨_, rfl⟩
    have hxb : x = ((b.toNat : Nat) : Int) := by rw [hb]; exact hx
    rw [← hb] at ht
    have hxr : 0 ≤ x ∧ x < 256 := by have := b.toNat_lt; omega
    have HT := Lib.hid ht
    have HXB := Lib.hid hxb
    have hRp2 : (0 : Int) < (R.size : Int) := by omega
    clear ht hx hb hxb hR0 hRne
    go_wp2_with fail
    go_loopw [7] (fun vi wr => ∃ i : Nat, vi = .int .i64 (i : Nat) ∧ i ≤ 8 ∧ (∀ j, j < i → escPS.data.toList.getD j 0 ≠ b) ∧ ∃ n, wr = w.drewN n) (fun vi _ => 8 - (intOf vi).toNat)
    case atStart => exact ⟨0, rfl, by omega, fun j hj => absurd hj (Nat.not_lt_zero j), 0, rfl⟩
    case round =>
      obtain ⟨i, rfl, hi, hne, nw, rfl⟩ := hrel
      have HNE := Lib.hid hne
      clear hne
      by_cases hlt : i < 8
      · have hlt2 : (i : Int) < 8 := by omega
        obtain ⟨y, hy⟩ : ∃ y : Int, y = (((escPS[i]'hlt).toNat : Nat) : Int) := ⟨_, rfl⟩
        have hy0 : ∀ w : World, (Instr.index 9 (.string ⟨#[34, 92, 47, 98, 102, 110, 114, 116]⟩) (.int .i64 (i : Nat))).run Tryz.prog w = .ok (.int .u8 y) w := run_index_at escPS i hlt y hy
        have hyb : escPS.data.toList.getD i 0 = escPS[i]'hlt := by
          rw [List.getD_eq_getElem?_getD, List.getElem?_eq_getElem (by rw [← Lib.size_eq]; exact hlt)]
          rfl
        by_cases hxy : x = y
        · have hbe : b = escPS.data.toList.getD i 0 := by
            rw [hyb]
            have := HXB.out
            exact UInt8.toNat_inj.1 (by omega)
          have EY : Hid (X = some ((escSS.extract i (i + 1)).data.toList, 2)) := Lib.hid (by rw [E.out, HT.out, hbe]; exact esc_hit _ i hlt)
          have HXY := Lib.hid hxy
          subst hxy
          have hself : (x == x) = true := by simp
          clear hbe hyb hy
          have hsz8 : (i : Int) + 1 ≤ 8 := by omega
          go_wp2_with fail
          go_quiet (fail)
          go_wp2_with fail
          go_ret
          exact ⟨by rw [EY.out]; exact ⟨rfl, (h.drewN _).s1 (a + 2)⟩, (g0.drewN _).set 1 _⟩
        · have hxy1 : (x == y) = false := beq_false_of_ne hxy
          have HX1 : Hid (∀ j, j < i + 1 → escPS.data.toList.getD j 0 ≠ b) := Lib.hid (fun j hj => by
            rcases Nat.lt_or_ge j i with h | h
            · exact HNE.out j h
            · have : j = i := by omega
              subst this
              rw [hyb]
              intro e
              have := HXB.out
              exact hxy (by rw [this, hy, e]))
          clear hxy hyb hy
          go_wp2_with fail
          go_quiet (fail)
          go_wp2_with fail
          go_roundw
          case rel => exact ⟨i + 1, by go_num, hlt, HX1.out, _, rfl⟩
          case measure => simp [intOf]; omega
      · have hi8 : i = 8 := by omega
        subst hi8
        have EM : Hid (X = tailE (unitL (92 :: b :: t)) (unitL (t.drop 4))) := Lib.hid (by rw [E.out, HT.out]; exact esc_miss t HNE.out)
        clear E
        have hD := h.drewN nw
        have gD := g0.drewN nw
        have cF2 := cF _ hD
        obtain ⟨c0, c1, c2, c3, c4⟩ := hD.cells
        have f1 := hD.frozen 1
        generalize w.drewN nw = wD at *
        by_cases hu : x = 117
        · have hb117 : b = 117 := by
            have := HXB.out
            have h2 : b.toNat = (117 : UInt8).toNat := by show b.toNat = 117; omega
            exact UInt8.toNat_inj.1 h2
          subst hu
          have hR1 : R.extract 1 R.size = ⟨t.toArray⟩ := same_bytes (by rw [from_data, HT.out]; rfl)
          have hRt : t.drop 4 = R.data.toList.drop 5 := by rw [HT.out]; rfl
          have cH := fun w => refHex_any (R.extract 1 R.size) w (from_size hRm)
          have EU : Hid (X = tailE (if hexB (R.extract 1 R.size) then some (hexR (R.extract 1 R.size)) else none) (unitL (R.data.toList.drop 5))) := Lib.hid (by rw [EM.out, hb117, unit_yes, ← hR1, hexP, hRt])
          have hRs1 : (1 : Int) ≤ (R.size : Int) := by omega
          generalize hexB (R.extract 1 R.size) = hx1 at *
          generalize hexR (R.extract 1 R.size) = r at *
          clear EM hR1 hRt HNE HXB hb117 HT
          cases hx1
          · have EN : Hid (X = none) := EU
            go_wp2_with (first
              | (go_at_call 128; with_reducible refine (cH _).mono ?_; rintro e w1 ⟨rfl, rfl⟩)
              | (go_at_call 37; refine cF2.mono ?_; rintro e w2 ⟨rfl, h2, g2⟩))
            go_ret
            exact ⟨by rw [EN.out]; exact ⟨rfl, h2⟩, gD.trans g2⟩
          · have EV : Hid (X = if pointB r then some ((bytesS r).data.toList, 6) else if pairB r ((unitL (R.data.toList.drop 5)).getD 0) then some ((bytesS (pairR r ((unitL (R.data.toList.drop 5)).getD 0))).data.toList, 12) else none) := EU
            clear EU
            have cP := fun w => refPoint_any r w
            have cB := fun w => refBytes_any r w
            cases hp : pointB r
            rotate_left
            · rw [hp] at cP
              have EW : Hid (X = some ((bytesS r).data.toList, 6)) := Lib.hid (by rw [EV.out, hp]; rfl)
              clear hp EV
              go_wp2_with (first
                | (go_at_call 128; with_reducible refine (cH _).mono ?_; rintro e w1 ⟨rfl, rfl⟩)
                | (go_at_call 127; refine (cP _).mono ?_; rintro e w2 ⟨rfl, rfl⟩)
                | (go_at_call 99; refine (cB _).mono ?_; rintro e w3 ⟨rfl, h3⟩))
              go_ret
              exact ⟨by rw [EW.out]; exact ⟨rfl, (hD.s1 (a + 6)).below h3⟩, (gD.set 1 _).belowB (h3.mono (gD.set 1 _).size)⟩
            · rw [hp] at cP
              have EW : Hid (X = if pairB r ((unitL (R.data.toList.drop 5)).getD 0) then some ((bytesS (pairR r ((unitL (R.data.toList.drop 5)).getD 0))).data.toList, 12) else none) := Lib.hid (by rw [EV.out, hp]; rfl)
              clear hp EV cB
              by_cases h7 : 7 ≤ R.size
              · have h7i : (7 : Int) ≤ (R.size : Int) := by omega
                obtain ⟨y5, hy5⟩ : ∃ y : Int, y = ((R[5].toNat : Nat) : Int) := ⟨_, rfl⟩
                obtain ⟨y6, hy6⟩ : ∃ y : Int, y = ((R[6].toNat : Nat) : Int) := ⟨_, rfl⟩
                have i5 : ∀ w : World, (Instr.index 9 (.string R) (.int .i64 5)).run Tryz.prog w = .ok (.int .u8 y5) w := run_index_at R 5 (by omega) y5 hy5
                have i6 : ∀ w : World, (Instr.index 9 (.string R) (.int .i64 6)).run Tryz.prog w = .ok (.int .u8 y6) w := run_index_at R 6 (by omega) y6 hy6
                have hd5 : R.data.toList.drop 5 = R[5] :: R[6] :: R.data.toList.drop 7 := by
                  rw [byL_split (byL_at R 5 (by omega)), byL_split (byL_at R 6 (by omega))]
                have h5i : (5 : Int) < (R.size : Int) := by omega
                have h6i : (6 : Int) < (R.size : Int) := by omega
                by_cases hq5 : y5 = 92
                · by_cases hq6 : y6 = 117
                  · have hu2 : unitL (R.data.toList.drop 5) = hexO (R.extract 7 R.size) := by
                      have e5 : R[5] = 92 := UInt8.toNat_inj.1 (show R[5].toNat = (92 : UInt8).toNat by show R[5].toNat = 92; omega)
                      have e6 : R[6] = 117 := UInt8.toNat_inj.1 (show R[6].toNat = (117 : UInt8).toNat by show R[6].toNat = 117; omega)
                      rw [hd5, e5, e6, unit_yes, show (⟨(R.data.toList.drop 7).toArray⟩ : ByteArray) = R.extract 7 R.size from same_bytes (by rw [from_data])]
                    have cH2 := fun w => refHex_any (R.extract 7 R.size) w (from_size hRm)
                    rw [hu2, hexP] at EW
                    generalize hexB (R.extract 7 R.size) = hx2 at *
                    generalize hexR (R.extract 7 R.size) = r2 at *
                    have cR := fun w => refPair_any r r2 w
                    have cB := fun w => refBytes_any (pairR r r2) w
                    subst hq5
                    subst hq6
                    clear hy5 hy6 hd5 hu2
                    cases hx2
                    · have EN : Hid (X = none) := Lib.hid (by rw [EW.out]; simp only [Bool.false_eq_true, if_false, Option.getD_none, pair_zero])
                      generalize pairR r r2 = pr at *
                      generalize pairB r r2 = pb at *
                      clear EW
                      go_wp2_with (first
                        | (go_at_call 128; with_reducible refine (cH _).mono ?_; rintro e w1 ⟨rfl, rfl⟩)
                        | (go_at_call 128; with_reducible refine (cH2 _).mono ?_; rintro e w1 ⟨rfl, rfl⟩)
                        | (go_at_call 127; refine (cP _).mono ?_; rintro e w2 ⟨rfl, rfl⟩)
                        | (go_at_call 129; refine (cR _).mono ?_; rintro e w2 ⟨rfl, rfl⟩)
                        | (go_at_call 37; refine cF2.mono ?_; rintro e w2 ⟨rfl, h2, g2⟩))
                      go_ret
                      exact ⟨by rw [EN.out]; exact ⟨rfl, h2⟩, gD.trans g2⟩
                    · have EZ : Hid (X = if pairB r r2 then some ((bytesS (pairR r r2)).data.toList, 12) else none) := EW
                      clear EW
                      cases hpb : pairB r r2
                      · have EN : Hid (X = none) := Lib.hid (by rw [EZ.out, hpb]; rfl)
                        rw [hpb] at cR
                        generalize pairR r r2 = pr at *
                        clear EZ hpb
                        go_wp2_with (first
                          | (go_at_call 128; with_reducible refine (cH _).mono ?_; rintro e w1 ⟨rfl, rfl⟩)
                          | (go_at_call 128; with_reducible refine (cH2 _).mono ?_; rintro e w1 ⟨rfl, rfl⟩)
                          | (go_at_call 127; refine (cP _).mono ?_; rintro e w2 ⟨rfl, rfl⟩)
                          | (go_at_call 129; refine (cR _).mono ?_; rintro e w2 ⟨rfl, rfl⟩)
                          | (go_at_call 37; refine cF2.mono ?_; rintro e w2 ⟨rfl, h2, g2⟩))
                        go_ret
                        exact ⟨by rw [EN.out]; exact ⟨rfl, h2⟩, gD.trans g2⟩
                      · have EN : Hid (X = some ((bytesS (pairR r r2)).data.toList, 12)) := Lib.hid (by rw [EZ.out, hpb]; rfl)
                        rw [hpb] at cR
                        generalize pairR r r2 = pr at *
                        clear EZ hpb
                        go_wp2_with (first
                          | (go_at_call 128; with_reducible refine (cH _).mono ?_; rintro e w1 ⟨rfl, rfl⟩)
                          | (go_at_call 128; with_reducible refine (cH2 _).mono ?_; rintro e w1 ⟨rfl, rfl⟩)
                          | (go_at_call 127; refine (cP _).mono ?_; rintro e w2 ⟨rfl, rfl⟩)
                          | (go_at_call 129; refine (cR _).mono ?_; rintro e w2 ⟨rfl, rfl⟩)
                          | (go_at_call 99; refine (cB _).mono ?_; rintro e w3 ⟨rfl, h3⟩))
                        go_ret
                        exact ⟨by rw [EN.out]; exact ⟨rfl, (hD.s1 (a + 12)).below h3⟩, (gD.set 1 _).belowB (h3.mono (gD.set 1 _).size)⟩
                  · have EN : Hid (X = none) := Lib.hid (by
                      have hne : unitL (R.data.toList.drop 5) = none := by
                        refine unit_at ?_
                        rw [hd5]
                        rintro ⟨_, _, h6⟩
                        have h6' : R[6] = 117 := h6
                        exact hq6 (by rw [hy6, h6']; rfl)
                      rw [EW.out, hne]; simp only [Option.getD_none, pair_zero, Bool.false_eq_true, if_false])
                    have e6 : (y6 == 117) = false := beq_false_of_ne hq6
                    subst hq5
                    clear hy5 hy6 hd5 hq6 EW
                    go_wp2_with (first
                      | (go_at_call 128; with_reducible refine (cH _).mono ?_; rintro e w1 ⟨rfl, rfl⟩)
                      | (go_at_call 127; refine (cP _).mono ?_; rintro e w2 ⟨rfl, rfl⟩)
                      | (go_at_call 37; refine cF2.mono ?_; rintro e w2 ⟨rfl, h2, g2⟩))
                    go_ret
                    exact ⟨by rw [EN.out]; exact ⟨rfl, h2⟩, gD.trans g2⟩
                · have EN : Hid (X = none) := Lib.hid (by
                    have hne : unitL (R.data.toList.drop 5) = none := by
                      refine unit_at ?_
                      rw [hd5]
                      rintro ⟨_, h5, _⟩
                      have h5' : R[5] = 92 := h5
                      exact hq5 (by rw [hy5, h5']; rfl)
                    rw [EW.out, hne]; simp only [Option.getD_none, pair_zero, Bool.false_eq_true, if_false])
                  have e5 : (y5 == 92) = false := beq_false_of_ne hq5
                  clear hy5 hy6 hd5 hq5 EW
                  go_wp2_with (first
                    | (go_at_call 128; with_reducible refine (cH _).mono ?_; rintro e w1 ⟨rfl, rfl⟩)
                    | (go_at_call 127; refine (cP _).mono ?_; rintro e w2 ⟨rfl, rfl⟩)
                    | (go_at_call 37; refine cF2.mono ?_; rintro e w2 ⟨rfl, h2, g2⟩))
                  go_ret
                  exact ⟨by rw [EN.out]; exact ⟨rfl, h2⟩, gD.trans g2⟩
              · have h7i : ¬ ((7 : Int) ≤ (R.size : Int)) := by omega
                have EN : Hid (X = none) := Lib.hid (by
                  have hne : unitL (R.data.toList.drop 5) = none := by
                    refine unit_at ?_
                    rw [List.length_drop, ← Lib.size_eq]
                    rintro ⟨h2, _⟩
                    omega
                  rw [EW.out, hne]; simp only [Option.getD_none, pair_zero, Bool.false_eq_true, if_false])
                clear EW
                go_wp2_with (first
                  | (go_at_call 128; with_reducible refine (cH _).mono ?_; rintro e w1 ⟨rfl, rfl⟩)
                  | (go_at_call 127; refine (cP _).mono ?_; rintro e w2 ⟨rfl, rfl⟩)
                  | (go_at_call 37; refine cF2.mono ?_; rintro e w2 ⟨rfl, h2, g2⟩))
                go_ret
                exact ⟨by rw [EN.out]; exact ⟨rfl, h2⟩, gD.trans g2⟩
        · have hu1 : (x == 117) = false := beq_false_of_ne hu
          have EN : Hid (X = none) := Lib.hid (by
            rw [EM.out, unit_no t (fun e => hu (by have := HXB.out; rw [e] at this; exact this))]; rfl)
          clear hu
          go_wp2_with (go_at_call 37; refine cF2.mono ?_; rintro e w2 ⟨rfl, h2, g2⟩)
          go_ret
          exact ⟨by rw [EN.out]; exact ⟨rfl, h2⟩, gD.trans g2⟩
end Go.Proofs.YtakdhfjlhkejdaaGreatDoor
