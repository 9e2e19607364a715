/-
  CONTRACTS of codicilref02.digits, Number.
-/
import Derived.Test.YtakdhfjlhkejdaaGreatDoorN7
import Derived.Deep.DeepCutAuto
set_option linter.unusedSimpArgs false
set_option linter.unusedVariables false
set_option linter.unusedVariables false
namespace Go.Proofs.YtakdhfjlhkejdaaGreatDoor
open Go.RowKit
theorem drop_at (s : ByteArray) (i : Nat) (h : i < s.size) : s.data.toList.drop i = s[i] :: s.data.toList.drop (i + 1) := by
  have h2 : i < s.data.toList.length := by simpa using h
  rw [List.drop_eq_getElem_cons h2]
  rfl
set_option maxRecDepth 10000000 in
set_option maxHeartbeats 4000000 in
theorem refDigits_any (s : ByteArray) (w : World) (hs : s.size ≤ maxLen) :
    Calls Tryz.prog 56 #[.string s] w fun e w' => e = .returned (.int .i64 (spanS pDigit s)) ∧ w' = w := by
  have hs' := hs
  unfold maxLen at hs'
  go_enter Tryz.func56, Tryz.ntmps56
  go_wp2
  go_loop [3] (fun vn => ∃ i : Nat, vn = .int .i64 i ∧ i ≤ s.size ∧ i + spanL pDigit (s.data.toList.drop i) = spanS pDigit s) (fun vn => s.size - (intOf vn).toNat)
  case atStart => exact ⟨0, rfl, Nat.zero_le _, by rw [Nat.zero_add, List.drop_zero]; rfl⟩
  case round =>
    obtain ⟨i, rfl, hi, hc⟩ := hrel
    by_cases hlt : i < s.size
    · have hlt2 : (i : Int) < (s.size : Int) := by omega
      rw [drop_at s i hlt] at hc
      simp only [spanL, pDigit] at hc
      by_cases h48 : (48 : Int) ≤ ((s[i].toNat : Nat) : Int)
      · by_cases h57 : ((s[i].toNat : Nat) : Int) ≤ 57
        · have Hc := Lib.hid (show i + 1 + spanL pDigit (s.data.toList.drop (i + 1)) = spanS pDigit s by rw [← hc]; simp [h48, h57]; unfold pDigit; omega)
          clear hc
          go_wp2
          go_round
          case rel => exact ⟨i + 1, by go_num, hlt, Hc.out⟩
          case measure => simp [intOf]; omega
        · have Hc := Lib.hid (show (i : Int) = (spanS pDigit s : Nat) by rw [← hc]; simp [h57])
          clear hc
          go_wp2
          go_ret
          exact ⟨ret_int Hc.out, rfl⟩
      · have Hc := Lib.hid (show (i : Int) = (spanS pDigit s : Nat) by rw [← hc]; simp [h48])
        clear hc
        go_wp2
        go_ret
        exact ⟨ret_int Hc.out, rfl⟩
    · have hge : ¬ ((i : Int) < (s.size : Int)) := by omega
      have Hc := Lib.hid (show (i : Int) = (spanS pDigit s : Nat) by rw [drop_end hlt] at hc; simp only [spanL] at hc; omega)
      clear hc
      go_wp2
      go_ret
      exact ⟨ret_int Hc.out, rfl⟩
theorem sign_at {s : ByteArray} (h : 0 < s.size) (e : s[0] = 45) : s.extract 1 s.size = behS s ⟨#[45]⟩ := by
  apply ByteArray.ext
  apply Array.toList_inj.1
  rw [behS_sign, cons_at s h, e]
  rfl
theorem sign_no {s : ByteArray} (h : ¬ 0 < s.size ∨ ∃ h0 : 0 < s.size, s[0] ≠ 45) : s = behS s ⟨#[45]⟩ := by
  apply ByteArray.ext
  apply Array.toList_inj.1
  rw [behS_sign]
  rcases h with h | ⟨h0, h⟩
  · rw [(toL_nil h).2]; rfl
  · rw [cons_at s h0]
    unfold signL
    split
    · rename_i e; injection e with e1 e2; exact absurd e1 h
    · rfl
theorem dot_at {s : ByteArray} (h : 0 < s.size) (e : s[0] = 46) : preB s ⟨#[46]⟩ = true := by
  rw [preB_dot, cons_at s h, e]
  rfl
theorem dot_no {s : ByteArray} (h : ¬ 0 < s.size ∨ ∃ h0 : 0 < s.size, s[0] ≠ 46) : preB s ⟨#[46]⟩ = false := by
  rw [preB_dot]
  rcases h with h | ⟨h0, h⟩
  · rw [(toL_nil h).2]; rfl
  · rw [cons_at s h0]
    simp [h]
theorem extract_two (s : ByteArray) (m : Nat) : (s.extract 1 s.size).extract m (s.extract 1 s.size).size = s.extract (1 + m) s.size := by
  apply ByteArray.ext
  apply Array.toList_inj.1
  rw [from_data, from_data, from_data, List.drop_drop]
set_option maxRecDepth 10000000 in
set_option maxHeartbeats 8000000 in
theorem refNumber_any (s : ByteArray) (w : World) (hs : s.size ≤ maxLen) :
    Calls Tryz.prog 55 #[.string s] w fun e w' => e = .returned (.bool (numS s)) ∧ w' = w := by
  have hs' := hs
  unfold maxLen at hs'
  obtain ⟨s1, e1⟩ : ∃ s1, s1 = behS s ⟨#[45]⟩ := ⟨_, rfl⟩
  have hs1 : s1.size ≤ maxLen := by
    rw [e1]
    unfold behS
    split
    · exact from_size hs
    · exact hs
  obtain ⟨n, en⟩ : ∃ n, n = spanS pDigit s1 := ⟨_, rfl⟩
  have hn1 : n ≤ s1.size := by rw [en]; exact spanS_le _ _
  have hs1' := hs1
  unfold maxLen at hs1'
  obtain ⟨G, hG⟩ : ∃ G, G = numS s := ⟨_, rfl⟩
  rw [← hG]
  obtain ⟨s2, e2⟩ : ∃ s2, s2 = s1.extract n s1.size := ⟨_, rfl⟩
  have hs2 : s2.size ≤ maxLen := by rw [e2]; exact from_size hs1
  have HN : Hid ((n = 0 ∧ false = G) ∨ (n ≠ 0 ∧ ∃ h1 : 0 < s1.size, 1 < n ∧ s1[0] = 48 ∧ false = G) ∨ (n ≠ 0 ∧ ∃ h1 : 0 < s1.size, ((1 < n ∧ decide ((1 : Int) < (n : Int)) = true ∧ (((s1[0].toNat : Nat) : Int) == 48) = false) ∨ (¬ 1 < n ∧ decide ((1 : Int) < (n : Int)) = false)) ∧ fracL s2.data.toList = G)) := Lib.hid (by
    rw [hG]
    by_cases hn0 : n = 0
    · exact .inl ⟨hn0, num_none e1 (by rw [← en]; exact hn0)⟩
    · have h1 : 0 < s1.size := by omega
      by_cases hz : 1 < n ∧ s1[0] = 48
      · exact .inr (.inl ⟨hn0, h1, hz.1, hz.2, num_zero e1 (by rw [← en]; exact hz.1) h1 hz.2⟩)
      · refine .inr (.inr ⟨hn0, h1, ?_, ?_⟩)
        · by_cases h : 1 < n
          · exact .inl ⟨h, decide_eq_true (by omega), (byte_not (k := 48) (fun e => hz ⟨h, e⟩) rfl).1⟩
          · exact .inr ⟨h, decide_eq_false (by omega)⟩
        · have := num_rest e1 (by rw [← en]; exact hn0) h1 (by rw [← en]; exact hz)
          rw [← en, ← e2] at this
          exact this)
  have E1 := Lib.hid e1
  have En := Lib.hid en
  have E2 := Lib.hid e2
  clear e1 en e2 hG
  by_cases h0 : 0 < s.size
  · obtain ⟨m1, m2, m3⟩ := toL_ne h0
    have i0 : (0 : Int) < (s.size : Int) := by omega
    clear m3
    by_cases h45 : s[0] = 45
    · obtain ⟨b1, b2⟩ := byte_is (k := 45) h45 rfl
      have e2 := Lib.hid ((sign_at h0 h45).trans E1.out.symm)
      clear h45
      go_enter Tryz.func55, Tryz.ntmps55
      go_upto_region 3 with fail
      rw [e2.out]
      clear e2 b1 b2
      go_upto_region 4 with (go_at_call 56; refine (refDigits_any _ _ hs1).mono ?_; rintro e w' ⟨rfl, rfl⟩)
      rw [← En.out]
      rcases HN.out with ⟨hn0, Hf⟩ | ⟨hn0, h1, hz1, hz2, Hf⟩ | ⟨hn0, h1, hall, Hr⟩
      · have t0 : ((n : Int) == 0) = true := by simp [hn0]
        clear hn0
        go_wp2_with fail
        go_ret
        exact ⟨ret_bool Hf, rfl⟩
      · have t0 : ((n : Int) == 0) = false := by rw [beq_eq_false_iff_ne]; omega
        obtain ⟨b1, b2⟩ := byte_is (k := 48) hz2 rfl
        have t1 : decide ((1 : Int) < (n : Int)) = true := decide_eq_true (by omega)
        clear hz2
        go_wp2_with fail
        go_ret
        exact ⟨ret_bool Hf, rfl⟩
      · have t0 : ((n : Int) == 0) = false := by rw [beq_eq_false_iff_ne]; omega
        have Hr := Lib.hid Hr
        rcases hall with ⟨k1, k2, k3⟩ | ⟨k1, k2⟩
        all_goals
          go_upto_region 7 with fail
          rw [← E2.out]
          have hs2' := hs2
          unfold maxLen at hs2'
          by_cases h2 : 0 < s2.size
          · obtain ⟨m1, m2, m3⟩ := toL_ne h2
            clear m3
            by_cases h46 : s2[0] = 46
            · obtain ⟨b1, b2⟩ := byte_is (k := 46) h46 rfl
              have hfr := frac_dot (dot_at h2 h46)
              obtain ⟨f, ef⟩ : ∃ f, f = s2.extract 1 s2.size := ⟨_, rfl⟩
              have hsf : f.size ≤ maxLen := by rw [ef]; exact from_size hs2
              have hxt := extract_two s2 (spanS pDigit f)
              rw [← ef] at hfr hxt
              rw [Hr.out] at hfr
              obtain ⟨m, em⟩ : ∃ m, m = spanS pDigit f := ⟨_, rfl⟩
              have hm1 : m ≤ f.size := by rw [em]; exact spanS_le _ _
              rw [← em] at hfr hxt
              have hm2 : 1 + m ≤ s2.size := by have := from1_size s2; rw [← ef] at this; omega
              have HFR := Lib.hid hfr
              have HXT := Lib.hid hxt
              clear h46 hfr hxt
              go_upto_region 9 with (rw [← ef]; go_at_call 56; refine (refDigits_any _ _ hsf).mono ?_; rintro e w' ⟨rfl, rfl⟩)
              rw [show spanS pDigit (s2.extract 1 s2.size) = m by rw [← ef, ← em]]
              clear em
              by_cases hm0 : m = 0
              · have Hf : Hid (false = G) := by rw [HFR.out, if_pos hm0]; exact rfl
                have t3 : ((m : Int) == 0) = true := by simp [hm0]
                clear hm0
                go_wp2_with fail
                go_ret
                exact ⟨ret_bool Hf.out, rfl⟩
              · have Hr3 : Hid (restB (s2.extract (1 + m) s2.size) = G) := by rw [HFR.out, if_neg hm0, HXT.out]; exact rfl
                have t3 : ((m : Int) == 0) = false := by rw [beq_eq_false_iff_ne]; omega
                have hs3 : (s2.extract (1 + m) s2.size).size ≤ maxLen := from_size hs2
                clear hm0 HFR HXT
                go_upto_region 12 with fail
                generalize s2.extract (1 + m) s2.size = s3 at *
                have hs3' := hs3
                unfold maxLen at hs3'
                by_cases h3 : 0 < s3.size
                rotate_left
                · obtain ⟨m1, m2⟩ := toL_nil h3
                  have Hg : Hid (true = G) := by
                    rw [← Hr3.out]
                    unfold restB
                    rw [m2]
                    exact rfl
                  clear m2
                  go_wp2_with fail
                  go_ret
                  exact ⟨ret_bool Hg.out, rfl⟩
                obtain ⟨p1, p2, p3⟩ := toL_ne h3
                have Hg : Hid (expL s3.data.toList = G) := by
                  rw [← Hr3.out]
                  unfold restB
                  cases hl : s3.data.toList with
                  | nil => exact absurd hl p3
                  | cons c t => exact rfl
                clear p3 Hr3
                have Hc := Lib.hid (cons_at s3 h3)
                by_cases hc : s3[0] = 101 ∨ s3[0] = 69
                rotate_left
                · have hc1 : s3[0] ≠ 101 := fun e => hc (.inl e)
                  have hc2 : s3[0] ≠ 69 := fun e => hc (.inr e)
                  obtain ⟨b1, b2⟩ := byte_not (k := 101) hc1 rfl
                  obtain ⟨b3, b4⟩ := byte_not (k := 69) hc2 rfl
                  have Hf : Hid (false = expL s3.data.toList) := by rw [Hc.out, expL_no hc1 hc2]; exact rfl
                  clear hc hc1 hc2
                  go_wp2_with fail
                  go_ret
                  exact ⟨ret_bool (Hf.out.trans Hg.out), rfl⟩
                have hE : ((((s3[0].toNat : Nat) : Int) == 101) = true ∧ (((s3[0].toNat : Nat) : Int) != 101) = false) ∨ ((((s3[0].toNat : Nat) : Int) == 101) = false ∧ (((s3[0].toNat : Nat) : Int) != 101) = true ∧ (((s3[0].toNat : Nat) : Int) == 69) = true ∧ (((s3[0].toNat : Nat) : Int) != 69) = false) := by
                  rcases hc with h | h
                  · exact .inl (byte_is (k := 101) h rfl)
                  · have q := byte_not (b := s3[0]) (c := 101) (k := 101) (by rw [h]; decide) rfl
                    have r := byte_is (k := 69) h rfl
                    exact .inr ⟨q.1, q.2, r.1, r.2⟩
                have Hcc := Lib.hid hc
                clear hc
                rcases hE with ⟨b1, b2⟩ | ⟨b1, b2, b3, b4⟩
                all_goals
                  go_upto_region 17 with fail
                  obtain ⟨s4, e4⟩ : ∃ s4, s4 = s3.extract 1 s3.size := ⟨_, rfl⟩
                  have hs4 : s4.size ≤ maxLen := by rw [e4]; exact from_size hs3
                  have hs4' := hs4
                  unfold maxLen at hs4'
                  rw [← e4] at Hc ⊢
                  clear e4
                  by_cases h4 : 0 < s4.size
                  · obtain ⟨n1, n2, n3⟩ := toL_ne h4
                    clear n3
                    have Hd := Lib.hid (cons_at s4 h4)
                    by_cases hd : s4[0] = 43 ∨ s4[0] = 45
                    · have He := Lib.hid (expL_sign (u := (s4.extract 1 s4.size).data.toList) Hcc.out hd)
                      rw [← Hd.out, ← Hc.out] at He
                      have hD : ((((s4[0].toNat : Nat) : Int) == 43) = true ∧ (((s4[0].toNat : Nat) : Int) != 43) = false) ∨ ((((s4[0].toNat : Nat) : Int) == 43) = false ∧ (((s4[0].toNat : Nat) : Int) != 43) = true ∧ (((s4[0].toNat : Nat) : Int) == 45) = true ∧ (((s4[0].toNat : Nat) : Int) != 45) = false) := by
                        rcases hd with h | h
                        · exact .inl (byte_is (k := 43) h rfl)
                        · have q := byte_not (b := s4[0]) (c := 43) (k := 43) (by rw [h]; decide) rfl
                          have r := byte_is (k := 45) h rfl
                          exact .inr ⟨q.1, q.2, r.1, r.2⟩
                      clear hd
                      rcases hD with ⟨d1, d2⟩ | ⟨d1, d2, d3, d4⟩
                      all_goals
                        go_upto_region 19 with fail
                        obtain ⟨s5, e5⟩ : ∃ s5, s5 = s4.extract 1 s4.size := ⟨_, rfl⟩
                        have hs5 : s5.size ≤ maxLen := by rw [e5]; exact from_size hs4
                        rw [← e5] at He ⊢
                        clear e5
                        by_cases h5 : 0 < s5.size
                        · obtain ⟨m1, m2, m3⟩ := toL_ne h5
                          have Hsp := Lib.hid (span_is pDigit s5)
                          have Hf : Hid ((((spanS pDigit s5 : Nat) : Int) == (s5.size : Nat)) = expL s3.data.toList) := by
                            rw [He.out, bne_iff_ne.2 m3, Bool.true_and, ← Hsp.out]
                            exact rfl
                          clear m3 He Hsp
                          go_wp2_with (go_at_call 56; refine (refDigits_any _ _ hs5).mono ?_; rintro e w' ⟨rfl, rfl⟩)
                          go_ret
                          exact ⟨ret_bool (Hf.out.trans Hg.out), rfl⟩
                        · have hm := toL_nil h5
                          have Hf : Hid (false = expL s3.data.toList) := by
                            rw [He.out, hm.2]
                            exact rfl
                          have hm1 := hm.1
                          clear He hm
                          go_wp2_with fail
                          go_ret
                          exact ⟨ret_bool (Hf.out.trans Hg.out), rfl⟩
                    · have hd1 : s4[0] ≠ 43 := fun e => hd (.inl e)
                      have hd2 : s4[0] ≠ 45 := fun e => hd (.inr e)
                      have He := Lib.hid (expL_plain (u := (s4.extract 1 s4.size).data.toList) Hcc.out hd1 hd2)
                      rw [← Hd.out, ← Hc.out] at He
                      have Hsp := Lib.hid (span_is pDigit s4)
                      have Hf : Hid ((((spanS pDigit s4 : Nat) : Int) == (s4.size : Nat)) = expL s3.data.toList) := by
                        rw [He.out, ← Hsp.out]
                        exact rfl
                      obtain ⟨d1, d2⟩ := byte_not (k := 43) hd1 rfl
                      obtain ⟨d3, d4⟩ := byte_not (k := 45) hd2 rfl
                      clear Hc Hd He Hsp hd hd1 hd2
                      go_wp2_with (go_at_call 56; refine (refDigits_any _ _ hs4).mono ?_; rintro e w' ⟨rfl, rfl⟩)
                      go_ret
                      exact ⟨ret_bool (Hf.out.trans Hg.out), rfl⟩
                  · have hn := toL_nil h4
                    have Hf : Hid (false = expL s3.data.toList) := by rw [Hc.out, hn.2, expL_end]; exact rfl
                    have hn1 := hn.1
                    clear hn Hc
                    go_wp2_with fail
                    go_ret
                    exact ⟨ret_bool (Hf.out.trans Hg.out), rfl⟩
            · obtain ⟨b1, b2⟩ := byte_not (k := 46) h46 rfl
              have Hr3 : Hid (restB s2 = G) := Lib.hid ((frac_no (dot_no (.inr ⟨h2, h46⟩))).symm.trans Hr.out)
              clear h46
              go_upto_region 12 with fail
              have hs3 := hs2
              obtain ⟨s3, e3⟩ : ∃ s3, s3 = s2 := ⟨_, rfl⟩
              subst e3
              have hs3' := hs3
              unfold maxLen at hs3'
              by_cases h3 : 0 < s3.size
              rotate_left
              · obtain ⟨m1, m2⟩ := toL_nil h3
                have Hg : Hid (true = G) := by
                  rw [← Hr3.out]
                  unfold restB
                  rw [m2]
                  exact rfl
                clear m2
                go_wp2_with fail
                go_ret
                exact ⟨ret_bool Hg.out, rfl⟩
              obtain ⟨p1, p2, p3⟩ := toL_ne h3
              have Hg : Hid (expL s3.data.toList = G) := by
                rw [← Hr3.out]
                unfold restB
                cases hl : s3.data.toList with
                | nil => exact absurd hl p3
                | cons c t => exact rfl
              clear p3 Hr3
              have Hc := Lib.hid (cons_at s3 h3)
              by_cases hc : s3[0] = 101 ∨ s3[0] = 69
              rotate_left
              · have hc1 : s3[0] ≠ 101 := fun e => hc (.inl e)
                have hc2 : s3[0] ≠ 69 := fun e => hc (.inr e)
                obtain ⟨b1, b2⟩ := byte_not (k := 101) hc1 rfl
                obtain ⟨b3, b4⟩ := byte_not (k := 69) hc2 rfl
                have Hf : Hid (false = expL s3.data.toList) := by rw [Hc.out, expL_no hc1 hc2]; exact rfl
                clear hc hc1 hc2
                go_wp2_with fail
                go_ret
                exact ⟨ret_bool (Hf.out.trans Hg.out), rfl⟩
              have hE : ((((s3[0].toNat : Nat) : Int) == 101) = true ∧ (((s3[0].toNat : Nat) : Int) != 101) = false) ∨ ((((s3[0].toNat : Nat) : Int) == 101) = false ∧ (((s3[0].toNat : Nat) : Int) != 101) = true ∧ (((s3[0].toNat : Nat) : Int) == 69) = true ∧ (((s3[0].toNat : Nat) : Int) != 69) = false) := by
                rcases hc with h | h
                · exact .inl (byte_is (k := 101) h rfl)
                · have q := byte_not (b := s3[0]) (c := 101) (k := 101) (by rw [h]; decide) rfl
                  have r := byte_is (k := 69) h rfl
                  exact .inr ⟨q.1, q.2, r.1, r.2⟩
              have Hcc := Lib.hid hc
              clear hc
              rcases hE with ⟨b1, b2⟩ | ⟨b1, b2, b3, b4⟩
              all_goals
                go_upto_region 17 with fail
                obtain ⟨s4, e4⟩ : ∃ s4, s4 = s3.extract 1 s3.size := ⟨_, rfl⟩
                have hs4 : s4.size ≤ maxLen := by rw [e4]; exact from_size hs3
                have hs4' := hs4
                unfold maxLen at hs4'
                rw [← e4] at Hc ⊢
                clear e4
                by_cases h4 : 0 < s4.size
                · obtain ⟨n1, n2, n3⟩ := toL_ne h4
                  clear n3
                  have Hd := Lib.hid (cons_at s4 h4)
                  by_cases hd : s4[0] = 43 ∨ s4[0] = 45
                  · have He := Lib.hid (expL_sign (u := (s4.extract 1 s4.size).data.toList) Hcc.out hd)
                    rw [← Hd.out, ← Hc.out] at He
                    have hD : ((((s4[0].toNat : Nat) : Int) == 43) = true ∧ (((s4[0].toNat : Nat) : Int) != 43) = false) ∨ ((((s4[0].toNat : Nat) : Int) == 43) = false ∧ (((s4[0].toNat : Nat) : Int) != 43) = true ∧ (((s4[0].toNat : Nat) : Int) == 45) = true ∧ (((s4[0].toNat : Nat) : Int) != 45) = false) := by
                      rcases hd with h | h
                      · exact .inl (byte_is (k := 43) h rfl)
                      · have q := byte_not (b := s4[0]) (c := 43) (k := 43) (by rw [h]; decide) rfl
                        have r := byte_is (k := 45) h rfl
                        exact .inr ⟨q.1, q.2, r.1, r.2⟩
                    clear hd
                    rcases hD with ⟨d1, d2⟩ | ⟨d1, d2, d3, d4⟩
                    all_goals
                      go_upto_region 19 with fail
                      obtain ⟨s5, e5⟩ : ∃ s5, s5 = s4.extract 1 s4.size := ⟨_, rfl⟩
                      have hs5 : s5.size ≤ maxLen := by rw [e5]; exact from_size hs4
                      rw [← e5] at He ⊢
                      clear e5
                      by_cases h5 : 0 < s5.size
                      · obtain ⟨m1, m2, m3⟩ := toL_ne h5
                        have Hsp := Lib.hid (span_is pDigit s5)
                        have Hf : Hid ((((spanS pDigit s5 : Nat) : Int) == (s5.size : Nat)) = expL s3.data.toList) := by
                          rw [He.out, bne_iff_ne.2 m3, Bool.true_and, ← Hsp.out]
                          exact rfl
                        clear m3 He Hsp
                        go_wp2_with (go_at_call 56; refine (refDigits_any _ _ hs5).mono ?_; rintro e w' ⟨rfl, rfl⟩)
                        go_ret
                        exact ⟨ret_bool (Hf.out.trans Hg.out), rfl⟩
                      · have hm := toL_nil h5
                        have Hf : Hid (false = expL s3.data.toList) := by
                          rw [He.out, hm.2]
                          exact rfl
                        have hm1 := hm.1
                        clear He hm
                        go_wp2_with fail
                        go_ret
                        exact ⟨ret_bool (Hf.out.trans Hg.out), rfl⟩
                  · have hd1 : s4[0] ≠ 43 := fun e => hd (.inl e)
                    have hd2 : s4[0] ≠ 45 := fun e => hd (.inr e)
                    have He := Lib.hid (expL_plain (u := (s4.extract 1 s4.size).data.toList) Hcc.out hd1 hd2)
                    rw [← Hd.out, ← Hc.out] at He
                    have Hsp := Lib.hid (span_is pDigit s4)
                    have Hf : Hid ((((spanS pDigit s4 : Nat) : Int) == (s4.size : Nat)) = expL s3.data.toList) := by
                      rw [He.out, ← Hsp.out]
                      exact rfl
                    obtain ⟨d1, d2⟩ := byte_not (k := 43) hd1 rfl
                    obtain ⟨d3, d4⟩ := byte_not (k := 45) hd2 rfl
                    clear Hc Hd He Hsp hd hd1 hd2
                    go_wp2_with (go_at_call 56; refine (refDigits_any _ _ hs4).mono ?_; rintro e w' ⟨rfl, rfl⟩)
                    go_ret
                    exact ⟨ret_bool (Hf.out.trans Hg.out), rfl⟩
                · have hn := toL_nil h4
                  have Hf : Hid (false = expL s3.data.toList) := by rw [Hc.out, hn.2, expL_end]; exact rfl
                  have hn1 := hn.1
                  clear hn Hc
                  go_wp2_with fail
                  go_ret
                  exact ⟨ret_bool (Hf.out.trans Hg.out), rfl⟩
          · obtain ⟨m1, m2⟩ := toL_nil h2
            have Hr3 : Hid (restB s2 = G) := Lib.hid ((frac_no (dot_no (.inl h2))).symm.trans Hr.out)
            clear m2
            have Hg : Hid (true = G) := by rw [← Hr3.out]; unfold restB; rw [(toL_nil h2).2]; exact rfl
            go_wp2_with fail
            go_ret
            exact ⟨ret_bool Hg.out, rfl⟩
    · obtain ⟨b1, b2⟩ := byte_not (k := 45) h45 rfl
      have e2 := Lib.hid ((sign_no (.inr ⟨h0, h45⟩)).trans E1.out.symm)
      clear h45
      go_enter Tryz.func55, Tryz.ntmps55
      go_upto_region 3 with fail
      clear E1 m1 m2 b1 b2
      obtain rfl := e2.out.symm
      go_upto_region 4 with (go_at_call 56; refine (refDigits_any _ _ hs1).mono ?_; rintro e w' ⟨rfl, rfl⟩)
      rw [← En.out]
      rcases HN.out with ⟨hn0, Hf⟩ | ⟨hn0, h1, hz1, hz2, Hf⟩ | ⟨hn0, h1, hall, Hr⟩
      · have t0 : ((n : Int) == 0) = true := by simp [hn0]
        clear hn0
        go_wp2_with fail
        go_ret
        exact ⟨ret_bool Hf, rfl⟩
      · have t0 : ((n : Int) == 0) = false := by rw [beq_eq_false_iff_ne]; omega
        obtain ⟨b1, b2⟩ := byte_is (k := 48) hz2 rfl
        have t1 : decide ((1 : Int) < (n : Int)) = true := decide_eq_true (by omega)
        clear hz2
        go_wp2_with fail
        go_ret
        exact ⟨ret_bool Hf, rfl⟩
      · have t0 : ((n : Int) == 0) = false := by rw [beq_eq_false_iff_ne]; omega
        have Hr := Lib.hid Hr
        rcases hall with ⟨k1, k2, k3⟩ | ⟨k1, k2⟩
        all_goals
          go_upto_region 7 with fail
          rw [← E2.out]
          have hs2' := hs2
          unfold maxLen at hs2'
          by_cases h2 : 0 < s2.size
          · obtain ⟨m1, m2, m3⟩ := toL_ne h2
            clear m3
            by_cases h46 : s2[0] = 46
            · obtain ⟨b1, b2⟩ := byte_is (k := 46) h46 rfl
              have hfr := frac_dot (dot_at h2 h46)
              obtain ⟨f, ef⟩ : ∃ f, f = s2.extract 1 s2.size := ⟨_, rfl⟩
              have hsf : f.size ≤ maxLen := by rw [ef]; exact from_size hs2
              have hxt := extract_two s2 (spanS pDigit f)
              rw [← ef] at hfr hxt
              rw [Hr.out] at hfr
              obtain ⟨m, em⟩ : ∃ m, m = spanS pDigit f := ⟨_, rfl⟩
              have hm1 : m ≤ f.size := by rw [em]; exact spanS_le _ _
              rw [← em] at hfr hxt
              have hm2 : 1 + m ≤ s2.size := by have := from1_size s2; rw [← ef] at this; omega
              have HFR := Lib.hid hfr
              have HXT := Lib.hid hxt
              clear h46 hfr hxt
              go_upto_region 9 with (rw [← ef]; go_at_call 56; refine (refDigits_any _ _ hsf).mono ?_; rintro e w' ⟨rfl, rfl⟩)
              rw [show spanS pDigit (s2.extract 1 s2.size) = m by rw [← ef, ← em]]
              clear em
              by_cases hm0 : m = 0
              · have Hf : Hid (false = G) := by rw [HFR.out, if_pos hm0]; exact rfl
                have t3 : ((m : Int) == 0) = true := by simp [hm0]
                clear hm0
                go_wp2_with fail
                go_ret
                exact ⟨ret_bool Hf.out, rfl⟩
              · have Hr3 : Hid (restB (s2.extract (1 + m) s2.size) = G) := by rw [HFR.out, if_neg hm0, HXT.out]; exact rfl
                have t3 : ((m : Int) == 0) = false := by rw [beq_eq_false_iff_ne]; omega
                have hs3 : (s2.extract (1 + m) s2.size).size ≤ maxLen := from_size hs2
                clear hm0 HFR HXT
                go_upto_region 12 with fail
                generalize s2.extract (1 + m) s2.size = s3 at *
                have hs3' := hs3
                unfold maxLen at hs3'
                by_cases h3 : 0 < s3.size
                rotate_left
                · obtain ⟨m1, m2⟩ := toL_nil h3
                  have Hg : Hid (true = G) := by
                    rw [← Hr3.out]
                    unfold restB
                    rw [m2]
                    exact rfl
                  clear m2
                  go_wp2_with fail
                  go_ret
                  exact ⟨ret_bool Hg.out, rfl⟩
                obtain ⟨p1, p2, p3⟩ := toL_ne h3
                have Hg : Hid (expL s3.data.toList = G) := by
                  rw [← Hr3.out]
                  unfold restB
                  cases hl : s3.data.toList with
                  | nil => exact absurd hl p3
                  | cons c t => exact rfl
                clear p3 Hr3
                have Hc := Lib.hid (cons_at s3 h3)
                by_cases hc : s3[0] = 101 ∨ s3[0] = 69
                rotate_left
                · have hc1 : s3[0] ≠ 101 := fun e => hc (.inl e)
                  have hc2 : s3[0] ≠ 69 := fun e => hc (.inr e)
                  obtain ⟨b1, b2⟩ := byte_not (k := 101) hc1 rfl
                  obtain ⟨b3, b4⟩ := byte_not (k := 69) hc2 rfl
                  have Hf : Hid (false = expL s3.data.toList) := by rw [Hc.out, expL_no hc1 hc2]; exact rfl
                  clear hc hc1 hc2
                  go_wp2_with fail
                  go_ret
                  exact ⟨ret_bool (Hf.out.trans Hg.out), rfl⟩
                have hE : ((((s3[0].toNat : Nat) : Int) == 101) = true ∧ (((s3[0].toNat : Nat) : Int) != 101) = false) ∨ ((((s3[0].toNat : Nat) : Int) == 101) = false ∧ (((s3[0].toNat : Nat) : Int) != 101) = true ∧ (((s3[0].toNat : Nat) : Int) == 69) = true ∧ (((s3[0].toNat : Nat) : Int) != 69) = false) := by
                  rcases hc with h | h
                  · exact .inl (byte_is (k := 101) h rfl)
                  · have q := byte_not (b := s3[0]) (c := 101) (k := 101) (by rw [h]; decide) rfl
                    have r := byte_is (k := 69) h rfl
                    exact .inr ⟨q.1, q.2, r.1, r.2⟩
                have Hcc := Lib.hid hc
                clear hc
                rcases hE with ⟨b1, b2⟩ | ⟨b1, b2, b3, b4⟩
                all_goals
                  go_upto_region 17 with fail
                  obtain ⟨s4, e4⟩ : ∃ s4, s4 = s3.extract 1 s3.size := ⟨_, rfl⟩
                  have hs4 : s4.size ≤ maxLen := by rw [e4]; exact from_size hs3
                  have hs4' := hs4
                  unfold maxLen at hs4'
                  rw [← e4] at Hc ⊢
                  clear e4
                  by_cases h4 : 0 < s4.size
                  · obtain ⟨n1, n2, n3⟩ := toL_ne h4
                    clear n3
                    have Hd := Lib.hid (cons_at s4 h4)
                    by_cases hd : s4[0] = 43 ∨ s4[0] = 45
                    · have He := Lib.hid (expL_sign (u := (s4.extract 1 s4.size).data.toList) Hcc.out hd)
                      rw [← Hd.out, ← Hc.out] at He
                      have hD : ((((s4[0].toNat : Nat) : Int) == 43) = true ∧ (((s4[0].toNat : Nat) : Int) != 43) = false) ∨ ((((s4[0].toNat : Nat) : Int) == 43) = false ∧ (((s4[0].toNat : Nat) : Int) != 43) = true ∧ (((s4[0].toNat : Nat) : Int) == 45) = true ∧ (((s4[0].toNat : Nat) : Int) != 45) = false) := by
                        rcases hd with h | h
                        · exact .inl (byte_is (k := 43) h rfl)
                        · have q := byte_not (b := s4[0]) (c := 43) (k := 43) (by rw [h]; decide) rfl
                          have r := byte_is (k := 45) h rfl
                          exact .inr ⟨q.1, q.2, r.1, r.2⟩
                      clear hd
                      rcases hD with ⟨d1, d2⟩ | ⟨d1, d2, d3, d4⟩
                      all_goals
                        go_upto_region 19 with fail
                        obtain ⟨s5, e5⟩ : ∃ s5, s5 = s4.extract 1 s4.size := ⟨_, rfl⟩
                        have hs5 : s5.size ≤ maxLen := by rw [e5]; exact from_size hs4
                        rw [← e5] at He ⊢
                        clear e5
                        by_cases h5 : 0 < s5.size
                        · obtain ⟨m1, m2, m3⟩ := toL_ne h5
                          have Hsp := Lib.hid (span_is pDigit s5)
                          have Hf : Hid ((((spanS pDigit s5 : Nat) : Int) == (s5.size : Nat)) = expL s3.data.toList) := by
                            rw [He.out, bne_iff_ne.2 m3, Bool.true_and, ← Hsp.out]
                            exact rfl
                          clear m3 He Hsp
                          go_wp2_with (go_at_call 56; refine (refDigits_any _ _ hs5).mono ?_; rintro e w' ⟨rfl, rfl⟩)
                          go_ret
                          exact ⟨ret_bool (Hf.out.trans Hg.out), rfl⟩
                        · have hm := toL_nil h5
                          have Hf : Hid (false = expL s3.data.toList) := by
                            rw [He.out, hm.2]
                            exact rfl
                          have hm1 := hm.1
                          clear He hm
                          go_wp2_with fail
                          go_ret
                          exact ⟨ret_bool (Hf.out.trans Hg.out), rfl⟩
                    · have hd1 : s4[0] ≠ 43 := fun e => hd (.inl e)
                      have hd2 : s4[0] ≠ 45 := fun e => hd (.inr e)
                      have He := Lib.hid (expL_plain (u := (s4.extract 1 s4.size).data.toList) Hcc.out hd1 hd2)
                      rw [← Hd.out, ← Hc.out] at He
                      have Hsp := Lib.hid (span_is pDigit s4)
                      have Hf : Hid ((((spanS pDigit s4 : Nat) : Int) == (s4.size : Nat)) = expL s3.data.toList) := by
                        rw [He.out, ← Hsp.out]
                        exact rfl
                      obtain ⟨d1, d2⟩ := byte_not (k := 43) hd1 rfl
                      obtain ⟨d3, d4⟩ := byte_not (k := 45) hd2 rfl
                      clear Hc Hd He Hsp hd hd1 hd2
                      go_wp2_with (go_at_call 56; refine (refDigits_any _ _ hs4).mono ?_; rintro e w' ⟨rfl, rfl⟩)
                      go_ret
                      exact ⟨ret_bool (Hf.out.trans Hg.out), rfl⟩
                  · have hn := toL_nil h4
                    have Hf : Hid (false = expL s3.data.toList) := by rw [Hc.out, hn.2, expL_end]; exact rfl
                    have hn1 := hn.1
                    clear hn Hc
                    go_wp2_with fail
                    go_ret
                    exact ⟨ret_bool (Hf.out.trans Hg.out), rfl⟩
            · obtain ⟨b1, b2⟩ := byte_not (k := 46) h46 rfl
              have Hr3 : Hid (restB s2 = G) := Lib.hid ((frac_no (dot_no (.inr ⟨h2, h46⟩))).symm.trans Hr.out)
              clear h46
              go_upto_region 12 with fail
              have hs3 := hs2
              obtain ⟨s3, e3⟩ : ∃ s3, s3 = s2 := ⟨_, rfl⟩
              subst e3
              have hs3' := hs3
              unfold maxLen at hs3'
              by_cases h3 : 0 < s3.size
              rotate_left
              · obtain ⟨m1, m2⟩ := toL_nil h3
                have Hg : Hid (true = G) := by
                  rw [← Hr3.out]
                  unfold restB
                  rw [m2]
                  exact rfl
                clear m2
                go_wp2_with fail
                go_ret
                exact ⟨ret_bool Hg.out, rfl⟩
              obtain ⟨p1, p2, p3⟩ := toL_ne h3
              have Hg : Hid (expL s3.data.toList = G) := by
                rw [← Hr3.out]
                unfold restB
                cases hl : s3.data.toList with
                | nil => exact absurd hl p3
                | cons c t => exact rfl
              clear p3 Hr3
              have Hc := Lib.hid (cons_at s3 h3)
              by_cases hc : s3[0] = 101 ∨ s3[0] = 69
              rotate_left
              · have hc1 : s3[0] ≠ 101 := fun e => hc (.inl e)
                have hc2 : s3[0] ≠ 69 := fun e => hc (.inr e)
                obtain ⟨b1, b2⟩ := byte_not (k := 101) hc1 rfl
                obtain ⟨b3, b4⟩ := byte_not (k := 69) hc2 rfl
                have Hf : Hid (false = expL s3.data.toList) := by rw [Hc.out, expL_no hc1 hc2]; exact rfl
                clear hc hc1 hc2
                go_wp2_with fail
                go_ret
                exact ⟨ret_bool (Hf.out.trans Hg.out), rfl⟩
              have hE : ((((s3[0].toNat : Nat) : Int) == 101) = true ∧ (((s3[0].toNat : Nat) : Int) != 101) = false) ∨ ((((s3[0].toNat : Nat) : Int) == 101) = false ∧ (((s3[0].toNat : Nat) : Int) != 101) = true ∧ (((s3[0].toNat : Nat) : Int) == 69) = true ∧ (((s3[0].toNat : Nat) : Int) != 69) = false) := by
                rcases hc with h | h
                · exact .inl (byte_is (k := 101) h rfl)
                · have q := byte_not (b := s3[0]) (c := 101) (k := 101) (by rw [h]; decide) rfl
                  have r := byte_is (k := 69) h rfl
                  exact .inr ⟨q.1, q.2, r.1, r.2⟩
              have Hcc := Lib.hid hc
              clear hc
              rcases hE with ⟨b1, b2⟩ | ⟨b1, b2, b3, b4⟩
              all_goals
                go_upto_region 17 with fail
                obtain ⟨s4, e4⟩ : ∃ s4, s4 = s3.extract 1 s3.size := ⟨_, rfl⟩
                have hs4 : s4.size ≤ maxLen := by rw [e4]; exact from_size hs3
                have hs4' := hs4
                unfold maxLen at hs4'
                rw [← e4] at Hc ⊢
                clear e4
                by_cases h4 : 0 < s4.size
                · obtain ⟨n1, n2, n3⟩ := toL_ne h4
                  clear n3
                  have Hd := Lib.hid (cons_at s4 h4)
                  by_cases hd : s4[0] = 43 ∨ s4[0] = 45
                  · have He := Lib.hid (expL_sign (u := (s4.extract 1 s4.size).data.toList) Hcc.out hd)
                    rw [← Hd.out, ← Hc.out] at He
                    have hD : ((((s4[0].toNat : Nat) : Int) == 43) = true ∧ (((s4[0].toNat : Nat) : Int) != 43) = false) ∨ ((((s4[0].toNat : Nat) : Int) == 43) = false ∧ (((s4[0].toNat : Nat) : Int) != 43) = true ∧ (((s4[0].toNat : Nat) : Int) == 45) = true ∧ (((s4[0].toNat : Nat) : Int) != 45) = false) := by
                      rcases hd with h | h
                      · exact .inl (byte_is (k := 43) h rfl)
                      · have q := byte_not (b := s4[0]) (c := 43) (k := 43) (by rw [h]; decide) rfl
                        have r := byte_is (k := 45) h rfl
                        exact .inr ⟨q.1, q.2, r.1, r.2⟩
                    clear hd
                    rcases hD with ⟨d1, d2⟩ | ⟨d1, d2, d3, d4⟩
                    all_goals
                      go_upto_region 19 with fail
                      obtain ⟨s5, e5⟩ : ∃ s5, s5 = s4.extract 1 s4.size := ⟨_, rfl⟩
                      have hs5 : s5.size ≤ maxLen := by rw [e5]; exact from_size hs4
                      rw [← e5] at He ⊢
                      clear e5
                      by_cases h5 : 0 < s5.size
                      · obtain ⟨m1, m2, m3⟩ := toL_ne h5
                        have Hsp := Lib.hid (span_is pDigit s5)
                        have Hf : Hid ((((spanS pDigit s5 : Nat) : Int) == (s5.size : Nat)) = expL s3.data.toList) := by
                          rw [He.out, bne_iff_ne.2 m3, Bool.true_and, ← Hsp.out]
                          exact rfl
                        clear m3 He Hsp
                        go_wp2_with (go_at_call 56; refine (refDigits_any _ _ hs5).mono ?_; rintro e w' ⟨rfl, rfl⟩)
                        go_ret
                        exact ⟨ret_bool (Hf.out.trans Hg.out), rfl⟩
                      · have hm := toL_nil h5
                        have Hf : Hid (false = expL s3.data.toList) := by
                          rw [He.out, hm.2]
                          exact rfl
                        have hm1 := hm.1
                        clear He hm
                        go_wp2_with fail
                        go_ret
                        exact ⟨ret_bool (Hf.out.trans Hg.out), rfl⟩
                  · have hd1 : s4[0] ≠ 43 := fun e => hd (.inl e)
                    have hd2 : s4[0] ≠ 45 := fun e => hd (.inr e)
                    have He := Lib.hid (expL_plain (u := (s4.extract 1 s4.size).data.toList) Hcc.out hd1 hd2)
                    rw [← Hd.out, ← Hc.out] at He
                    have Hsp := Lib.hid (span_is pDigit s4)
                    have Hf : Hid ((((spanS pDigit s4 : Nat) : Int) == (s4.size : Nat)) = expL s3.data.toList) := by
                      rw [He.out, ← Hsp.out]
                      exact rfl
                    obtain ⟨d1, d2⟩ := byte_not (k := 43) hd1 rfl
                    obtain ⟨d3, d4⟩ := byte_not (k := 45) hd2 rfl
                    clear Hc Hd He Hsp hd hd1 hd2
                    go_wp2_with (go_at_call 56; refine (refDigits_any _ _ hs4).mono ?_; rintro e w' ⟨rfl, rfl⟩)
                    go_ret
                    exact ⟨ret_bool (Hf.out.trans Hg.out), rfl⟩
                · have hn := toL_nil h4
                  have Hf : Hid (false = expL s3.data.toList) := by rw [Hc.out, hn.2, expL_end]; exact rfl
                  have hn1 := hn.1
                  clear hn Hc
                  go_wp2_with fail
                  go_ret
                  exact ⟨ret_bool (Hf.out.trans Hg.out), rfl⟩
          · obtain ⟨m1, m2⟩ := toL_nil h2
            have Hr3 : Hid (restB s2 = G) := Lib.hid ((frac_no (dot_no (.inl h2))).symm.trans Hr.out)
            clear m2
            have Hg : Hid (true = G) := by rw [← Hr3.out]; unfold restB; rw [(toL_nil h2).2]; exact rfl
            go_wp2_with fail
            go_ret
            exact ⟨ret_bool Hg.out, rfl⟩
  · obtain ⟨m1, m2⟩ := toL_nil h0
    have e2 := Lib.hid ((sign_no (.inl h0)).trans E1.out.symm)
    clear m2
    go_enter Tryz.func55, Tryz.ntmps55
    go_upto_region 3 with fail
    clear E1 m1 h0
    obtain rfl := e2.out.symm
    go_upto_region 4 with (go_at_call 56; refine (refDigits_any _ _ hs1).mono ?_; rintro e w' ⟨rfl, rfl⟩)
    rw [← En.out]
    rcases HN.out with ⟨hn0, Hf⟩ | ⟨hn0, h1, hz1, hz2, Hf⟩ | ⟨hn0, h1, hall, Hr⟩
    · have t0 : ((n : Int) == 0) = true := by simp [hn0]
      clear hn0
      go_wp2_with fail
      go_ret
      exact ⟨ret_bool Hf, rfl⟩
    · have t0 : ((n : Int) == 0) = false := by rw [beq_eq_false_iff_ne]; omega
      obtain ⟨b1, b2⟩ := byte_is (k := 48) hz2 rfl
      have t1 : decide ((1 : Int) < (n : Int)) = true := decide_eq_true (by omega)
      clear hz2
      go_wp2_with fail
      go_ret
      exact ⟨ret_bool Hf, rfl⟩
    · have t0 : ((n : Int) == 0) = false := by rw [beq_eq_false_iff_ne]; omega
      have Hr := Lib.hid Hr
      rcases hall with ⟨k1, k2, k3⟩ | ⟨k1, k2⟩
      all_goals
        go_upto_region 7 with fail
        rw [← E2.out]
        have hs2' := hs2
        unfold maxLen at hs2'
        by_cases h2 : 0 < s2.size
        · obtain ⟨m1, m2, m3⟩ := toL_ne h2
          clear m3
          by_cases h46 : s2[0] = 46
          · obtain ⟨b1, b2⟩ := byte_is (k := 46) h46 rfl
            have hfr := frac_dot (dot_at h2 h46)
            obtain ⟨f, ef⟩ : ∃ f, f = s2.extract 1 s2.size := ⟨_, rfl⟩
            have hsf : f.size ≤ maxLen := by rw [ef]; exact from_size hs2
            have hxt := extract_two s2 (spanS pDigit f)
            rw [← ef] at hfr hxt
            rw [Hr.out] at hfr
            obtain ⟨m, em⟩ : ∃ m, m = spanS pDigit f := ⟨_, rfl⟩
            have hm1 : m ≤ f.size := by rw [em]; exact spanS_le _ _
            rw [← em] at hfr hxt
            have hm2 : 1 + m ≤ s2.size := by have := from1_size s2; rw [← ef] at this; omega
            have HFR := Lib.hid hfr
            have HXT := Lib.hid hxt
            clear h46 hfr hxt
            go_upto_region 9 with (rw [← ef]; go_at_call 56; refine (refDigits_any _ _ hsf).mono ?_; rintro e w' ⟨rfl, rfl⟩)
            rw [show spanS pDigit (s2.extract 1 s2.size) = m by rw [← ef, ← em]]
            clear em
            by_cases hm0 : m = 0
            · have Hf : Hid (false = G) := by rw [HFR.out, if_pos hm0]; exact rfl
              have t3 : ((m : Int) == 0) = true := by simp [hm0]
              clear hm0
              go_wp2_with fail
              go_ret
              exact ⟨ret_bool Hf.out, rfl⟩
            · have Hr3 : Hid (restB (s2.extract (1 + m) s2.size) = G) := by rw [HFR.out, if_neg hm0, HXT.out]; exact rfl
              have t3 : ((m : Int) == 0) = false := by rw [beq_eq_false_iff_ne]; omega
              have hs3 : (s2.extract (1 + m) s2.size).size ≤ maxLen := from_size hs2
              clear hm0 HFR HXT
              go_upto_region 12 with fail
              generalize s2.extract (1 + m) s2.size = s3 at *
              have hs3' := hs3
              unfold maxLen at hs3'
              by_cases h3 : 0 < s3.size
              rotate_left
              · obtain ⟨m1, m2⟩ := toL_nil h3
                have Hg : Hid (true = G) := by
                  rw [← Hr3.out]
                  unfold restB
                  rw [m2]
                  exact rfl
                clear m2
                go_wp2_with fail
                go_ret
                exact ⟨ret_bool Hg.out, rfl⟩
              obtain ⟨p1, p2, p3⟩ := toL_ne h3
              have Hg : Hid (expL s3.data.toList = G) := by
                rw [← Hr3.out]
                unfold restB
                cases hl : s3.data.toList with
                | nil => exact absurd hl p3
                | cons c t => exact rfl
              clear p3 Hr3
              have Hc := Lib.hid (cons_at s3 h3)
              by_cases hc : s3[0] = 101 ∨ s3[0] = 69
              rotate_left
              · have hc1 : s3[0] ≠ 101 := fun e => hc (.inl e)
                have hc2 : s3[0] ≠ 69 := fun e => hc (.inr e)
                obtain ⟨b1, b2⟩ := byte_not (k := 101) hc1 rfl
                obtain ⟨b3, b4⟩ := byte_not (k := 69) hc2 rfl
                have Hf : Hid (false = expL s3.data.toList) := by rw [Hc.out, expL_no hc1 hc2]; exact rfl
                clear hc hc1 hc2
                go_wp2_with fail
                go_ret
                exact ⟨ret_bool (Hf.out.trans Hg.out), rfl⟩
              have hE : ((((s3[0].toNat : Nat) : Int) == 101) = true ∧ (((s3[0].toNat : Nat) : Int) != 101) = false) ∨ ((((s3[0].toNat : Nat) : Int) == 101) = false ∧ (((s3[0].toNat : Nat) : Int) != 101) = true ∧ (((s3[0].toNat : Nat) : Int) == 69) = true ∧ (((s3[0].toNat : Nat) : Int) != 69) = false) := by
                rcases hc with h | h
                · exact .inl (byte_is (k := 101) h rfl)
                · have q := byte_not (b := s3[0]) (c := 101) (k := 101) (by rw [h]; decide) rfl
                  have r := byte_is (k := 69) h rfl
                  exact .inr ⟨q.1, q.2, r.1, r.2⟩
              have Hcc := Lib.hid hc
              clear hc
              rcases hE with ⟨b1, b2⟩ | ⟨b1, b2, b3, b4⟩
              all_goals
                go_upto_region 17 with fail
                obtain ⟨s4, e4⟩ : ∃ s4, s4 = s3.extract 1 s3.size := ⟨_, rfl⟩
                have hs4 : s4.size ≤ maxLen := by rw [e4]; exact from_size hs3
                have hs4' := hs4
                unfold maxLen at hs4'
                rw [← e4] at Hc ⊢
                clear e4
                by_cases h4 : 0 < s4.size
                · obtain ⟨n1, n2, n3⟩ := toL_ne h4
                  clear n3
                  have Hd := Lib.hid (cons_at s4 h4)
                  by_cases hd : s4[0] = 43 ∨ s4[0] = 45
                  · have He := Lib.hid (expL_sign (u := (s4.extract 1 s4.size).data.toList) Hcc.out hd)
                    rw [← Hd.out, ← Hc.out] at He
                    have hD : ((((s4[0].toNat : Nat) : Int) == 43) = true ∧ (((s4[0].toNat : Nat) : Int) != 43) = false) ∨ ((((s4[0].toNat : Nat) : Int) == 43) = false ∧ (((s4[0].toNat : Nat) : Int) != 43) = true ∧ (((s4[0].toNat : Nat) : Int) == 45) = true ∧ (((s4[0].toNat : Nat) : Int) != 45) = false) := by
                      rcases hd with h | h
                      · exact .inl (byte_is (k := 43) h rfl)
                      · have q := byte_not (b := s4[0]) (c := 43) (k := 43) (by rw [h]; decide) rfl
                        have r := byte_is (k := 45) h rfl
                        exact .inr ⟨q.1, q.2, r.1, r.2⟩
                    clear hd
                    rcases hD with ⟨d1, d2⟩ | ⟨d1, d2, d3, d4⟩
                    all_goals
                      go_upto_region 19 with fail
                      obtain ⟨s5, e5⟩ : ∃ s5, s5 = s4.extract 1 s4.size := ⟨_, rfl⟩
                      have hs5 : s5.size ≤ maxLen := by rw [e5]; exact from_size hs4
                      rw [← e5] at He ⊢
                      clear e5
                      by_cases h5 : 0 < s5.size
                      · obtain ⟨m1, m2, m3⟩ := toL_ne h5
                        have Hsp := Lib.hid (span_is pDigit s5)
                        have Hf : Hid ((((spanS pDigit s5 : Nat) : Int) == (s5.size : Nat)) = expL s3.data.toList) := by
                          rw [He.out, bne_iff_ne.2 m3, Bool.true_and, ← Hsp.out]
                          exact rfl
                        clear m3 He Hsp
                        go_wp2_with (go_at_call 56; refine (refDigits_any _ _ hs5).mono ?_; rintro e w' ⟨rfl, rfl⟩)
                        go_ret
                        exact ⟨ret_bool (Hf.out.trans Hg.out), rfl⟩
                      · have hm := toL_nil h5
                        have Hf : Hid (false = expL s3.data.toList) := by
                          rw [He.out, hm.2]
                          exact rfl
                        have hm1 := hm.1
                        clear He hm
                        go_wp2_with fail
                        go_ret
                        exact ⟨ret_bool (Hf.out.trans Hg.out), rfl⟩
                  · have hd1 : s4[0] ≠ 43 := fun e => hd (.inl e)
                    have hd2 : s4[0] ≠ 45 := fun e => hd (.inr e)
                    have He := Lib.hid (expL_plain (u := (s4.extract 1 s4.size).data.toList) Hcc.out hd1 hd2)
                    rw [← Hd.out, ← Hc.out] at He
                    have Hsp := Lib.hid (span_is pDigit s4)
                    have Hf : Hid ((((spanS pDigit s4 : Nat) : Int) == (s4.size : Nat)) = expL s3.data.toList) := by
                      rw [He.out, ← Hsp.out]
                      exact rfl
                    obtain ⟨d1, d2⟩ := byte_not (k := 43) hd1 rfl
                    obtain ⟨d3, d4⟩ := byte_not (k := 45) hd2 rfl
                    clear Hc Hd He Hsp hd hd1 hd2
                    go_wp2_with (go_at_call 56; refine (refDigits_any _ _ hs4).mono ?_; rintro e w' ⟨rfl, rfl⟩)
                    go_ret
                    exact ⟨ret_bool (Hf.out.trans Hg.out), rfl⟩
                · have hn := toL_nil h4
                  have Hf : Hid (false = expL s3.data.toList) := by rw [Hc.out, hn.2, expL_end]; exact rfl
                  have hn1 := hn.1
                  clear hn Hc
                  go_wp2_with fail
                  go_ret
                  exact ⟨ret_bool (Hf.out.trans Hg.out), rfl⟩
          · obtain ⟨b1, b2⟩ := byte_not (k := 46) h46 rfl
            have Hr3 : Hid (restB s2 = G) := Lib.hid ((frac_no (dot_no (.inr ⟨h2, h46⟩))).symm.trans Hr.out)
            clear h46
            go_upto_region 12 with fail
            have hs3 := hs2
            obtain ⟨s3, e3⟩ : ∃ s3, s3 = s2 := ⟨_, rfl⟩
            subst e3
            have hs3' := hs3
            unfold maxLen at hs3'
            by_cases h3 : 0 < s3.size
            rotate_left
            · obtain ⟨m1, m2⟩ := toL_nil h3
              have Hg : Hid (true = G) := by
                rw [← Hr3.out]
                unfold restB
                rw [m2]
                exact rfl
              clear m2
              go_wp2_with fail
              go_ret
              exact ⟨ret_bool Hg.out, rfl⟩
            obtain ⟨p1, p2, p3⟩ := toL_ne h3
            have Hg : Hid (expL s3.data.toList = G) := by
              rw [← Hr3.out]
              unfold restB
              cases hl : s3.data.toList with
              | nil => exact absurd hl p3
              | cons c t => exact rfl
            clear p3 Hr3
            have Hc := Lib.hid (cons_at s3 h3)
            by_cases hc : s3[0] = 101 ∨ s3[0] = 69
            rotate_left
            · have hc1 : s3[0] ≠ 101 := fun e => hc (.inl e)
              have hc2 : s3[0] ≠ 69 := fun e => hc (.inr e)
              obtain ⟨b1, b2⟩ := byte_not (k := 101) hc1 rfl
              obtain ⟨b3, b4⟩ := byte_not (k := 69) hc2 rfl
              have Hf : Hid (false = expL s3.data.toList) := by rw [Hc.out, expL_no hc1 hc2]; exact rfl
              clear hc hc1 hc2
              go_wp2_with fail
              go_ret
              exact ⟨ret_bool (Hf.out.trans Hg.out), rfl⟩
            have hE : ((((s3[0].toNat : Nat) : Int) == 101) = true ∧ (((s3[0].toNat : Nat) : Int) != 101) = false) ∨ ((((s3[0].toNat : Nat) : Int) == 101) = false ∧ (((s3[0].toNat : Nat) : Int) != 101) = true ∧ (((s3[0].toNat : Nat) : Int) == 69) = true ∧ (((s3[0].toNat : Nat) : Int) != 69) = false) := by
              rcases hc with h | h
              · exact .inl (byte_is (k := 101) h rfl)
              · have q := byte_not (b := s3[0]) (c := 101) (k := 101) (by rw [h]; decide) rfl
                have r := byte_is (k := 69) h rfl
                exact .inr ⟨q.1, q.2, r.1, r.2⟩
            have Hcc := Lib.hid hc
            clear hc
            rcases hE with ⟨b1, b2⟩ | ⟨b1, b2, b3, b4⟩
            all_goals
              go_upto_region 17 with fail
              obtain ⟨s4, e4⟩ : ∃ s4, s4 = s3.extract 1 s3.size := ⟨_, rfl⟩
              have hs4 : s4.size ≤ maxLen := by rw [e4]; exact from_size hs3
              have hs4' := hs4
              unfold maxLen at hs4'
              rw [← e4] at Hc ⊢
              clear e4
              by_cases h4 : 0 < s4.size
              · obtain ⟨n1, n2, n3⟩ := toL_ne h4
                clear n3
                have Hd := Lib.hid (cons_at s4 h4)
                by_cases hd : s4[0] = 43 ∨ s4[0] = 45
                · have He := Lib.hid (expL_sign (u := (s4.extract 1 s4.size).data.toList) Hcc.out hd)
                  rw [← Hd.out, ← Hc.out] at He
                  have hD : ((((s4[0].toNat : Nat) : Int) == 43) = true ∧ (((s4[0].toNat : Nat) : Int) != 43) = false) ∨ ((((s4[0].toNat : Nat) : Int) == 43) = false ∧ (((s4[0].toNat : Nat) : Int) != 43) = true ∧ (((s4[0].toNat : Nat) : Int) == 45) = true ∧ (((s4[0].toNat : Nat) : Int) != 45) = false) := by
                    rcases hd with h | h
                    · exact .inl (byte_is (k := 43) h rfl)
                    · have q := byte_not (b := s4[0]) (c := 43) (k := 43) (by rw [h]; decide) rfl
                      have r := byte_is (k := 45) h rfl
                      exact .inr ⟨q.1, q.2, r.1, r.2⟩
                  clear hd
                  rcases hD with ⟨d1, d2⟩ | ⟨d1, d2, d3, d4⟩
                  all_goals
                    go_upto_region 19 with fail
                    obtain ⟨s5, e5⟩ : ∃ s5, s5 = s4.extract 1 s4.size := ⟨_, rfl⟩
                    have hs5 : s5.size ≤ maxLen := by rw [e5]; exact from_size hs4
                    rw [← e5] at He ⊢
                    clear e5
                    by_cases h5 : 0 < s5.size
                    · obtain ⟨m1, m2, m3⟩ := toL_ne h5
                      have Hsp := Lib.hid (span_is pDigit s5)
                      have Hf : Hid ((((spanS pDigit s5 : Nat) : Int) == (s5.size : Nat)) = expL s3.data.toList) := by
                        rw [He.out, bne_iff_ne.2 m3, Bool.true_and, ← Hsp.out]
                        exact rfl
                      clear m3 He Hsp
                      go_wp2_with (go_at_call 56; refine (refDigits_any _ _ hs5).mono ?_; rintro e w' ⟨rfl, rfl⟩)
                      go_ret
                      exact ⟨ret_bool (Hf.out.trans Hg.out), rfl⟩
                    · have hm := toL_nil h5
                      have Hf : Hid (false = expL s3.data.toList) := by
                        rw [He.out, hm.2]
                        exact rfl
                      have hm1 := hm.1
                      clear He hm
                      go_wp2_with fail
                      go_ret
                      exact ⟨ret_bool (Hf.out.trans Hg.out), rfl⟩
                · have hd1 : s4[0] ≠ 43 := fun e => hd (.inl e)
                  have hd2 : s4[0] ≠ 45 := fun e => hd (.inr e)
                  have He := Lib.hid (expL_plain (u := (s4.extract 1 s4.size).data.toList) Hcc.out hd1 hd2)
                  rw [← Hd.out, ← Hc.out] at He
                  have Hsp := Lib.hid (span_is pDigit s4)
                  have Hf : Hid ((((spanS pDigit s4 : Nat) : Int) == (s4.size : Nat)) = expL s3.data.toList) := by
                    rw [He.out, ← Hsp.out]
                    exact rfl
                  obtain ⟨d1, d2⟩ := byte_not (k := 43) hd1 rfl
                  obtain ⟨d3, d4⟩ := byte_not (k := 45) hd2 rfl
                  clear Hc Hd He Hsp hd hd1 hd2
                  go_wp2_with (go_at_call 56; refine (refDigits_any _ _ hs4).mono ?_; rintro e w' ⟨rfl, rfl⟩)
                  go_ret
                  exact ⟨ret_bool (Hf.out.trans Hg.out), rfl⟩
              · have hn := toL_nil h4
                have Hf : Hid (false = expL s3.data.toList) := by rw [Hc.out, hn.2, expL_end]; exact rfl
                have hn1 := hn.1
                clear hn Hc
                go_wp2_with fail
                go_ret
                exact ⟨ret_bool (Hf.out.trans Hg.out), rfl⟩
        · obtain ⟨m1, m2⟩ := toL_nil h2
          have Hr3 : Hid (restB s2 = G) := Lib.hid ((frac_no (dot_no (.inl h2))).symm.trans Hr.out)
          clear m2
          have Hg : Hid (true = G) := by rw [← Hr3.out]; unfold restB; rw [(toL_nil h2).2]; exact rfl
          go_wp2_with fail
          go_ret
          exact ⟨ret_bool Hg.out, rfl⟩
end Go.Proofs.YtakdhfjlhkejdaaGreatDoor
