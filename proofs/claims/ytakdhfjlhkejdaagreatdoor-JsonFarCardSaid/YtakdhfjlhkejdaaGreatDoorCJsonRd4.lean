/-
  CONTRACT of codicilref02's Reader: text. (gen_rd4.py writes it.)
-/
import Derived.Test.YtakdhfjlhkejdaaGreatDoorCJsonRd3
set_option linter.unusedSimpArgs false
set_option linter.unusedVariables false
set_option linter.unusedVariables false
set_option linter.unusedSimpArgs false
namespace Go.Proofs.YtakdhfjlhkejdaaGreatDoor
open Go.RowKit
section
variable {s : List UInt8} {i m : Nat} {acc : List UInt8} {c : UInt8}
theorem span_stop0 {p : Int → Bool} (h : byL s i = some c) (hp : p (c.toNat : Nat) = false) : spanL p (s.drop i) = 0 := by
  rw [byL_split h]
  exact spanL_stop _ _ _ hp
theorem q_end (h : s.length ≤ i) : quotP (m + 1) s i acc = .error (i, 21) := by
  have h0 : spanL pPlain (s.drop i) = 0 := by rw [List.drop_eq_nil_of_le h]; rfl
  rw [quotP, h0, Nat.add_zero, byL_end h]
theorem q_34 (h : byL s i = some 34) : quotP (m + 1) s i acc = .ok (acc, i + 1) := by
  have h0 := span_stop0 (p := pPlain) h (by decide)
  rw [quotP, h0, Nat.add_zero, h]
  simp
theorem q_low (h : byL s i = some c) (hc : c.toNat < 32) : quotP (m + 1) s i acc = .error (i, 20) := by
  have hp : pPlain (c.toNat : Nat) = false := by unfold pPlain; rw [decide_eq_false (show ¬ (32 : Int) ≤ (c.toNat : Nat) by omega)]; rfl
  have h0 := span_stop0 (p := pPlain) h hp
  rw [quotP, h0, Nat.add_zero, h]
  simp only
  rw [if_neg (by rintro rfl; exact absurd hc (by decide)), if_neg (by rintro rfl; exact absurd hc (by decide))]
theorem q_92n (h : byL s i = some 92) (he : escL (s.drop i) = none) : quotP (m + 1) s i acc = .error (i, 23) := by
  have h0 := span_stop0 (p := pPlain) h (by decide)
  rw [quotP, h0, Nat.add_zero, h]
  simp only
  rw [if_neg (by decide), if_pos trivial, he]
theorem q_92s {b : List UInt8} {k : Nat} (h : byL s i = some 92) (he : escL (s.drop i) = some (b, k)) : quotP (m + 1) s i acc = quotP m s (i + k) (acc ++ b) := by
  have h0 := span_stop0 (p := pPlain) h (by decide)
  rw [quotP, h0, Nat.add_zero, h]
  simp only
  rw [if_neg (by decide), if_pos trivial, he]
  simp
theorem q_plain (h : byL s i = some c) (h1 : 32 ≤ c.toNat) (h2 : c ≠ 34) (h3 : c ≠ 92) : quotP (m + 1) s i acc = quotP (m + 1) s (i + 1) (acc ++ [c]) := by
  have hp : pPlain (c.toNat : Nat) = true := by
    have e2 : (((c.toNat : Nat) : Int) != 34) = true := by
      rw [bne_iff_ne]
      intro e
      exact h2 (UInt8.toNat_inj.1 (show c.toNat = 34 by omega))
    have e3 : (((c.toNat : Nat) : Int) != 92) = true := by
      rw [bne_iff_ne]
      intro e
      exact h3 (UInt8.toNat_inj.1 (show c.toNat = 92 by omega))
    unfold pPlain
    rw [e2, e3, decide_eq_true (show (32 : Int) ≤ (c.toNat : Nat) by omega)]
    rfl
  have hs : spanL pPlain (s.drop i) = spanL pPlain (s.drop (i + 1)) + 1 := by rw [byL_split h, spanL, if_pos hp]
  have ht : (s.drop i).take (spanL pPlain (s.drop (i + 1)) + 1) = c :: (s.drop (i + 1)).take (spanL pPlain (s.drop (i + 1))) := by
    rw [byL_split h, List.take_succ_cons]
  rw [quotP, quotP, hs, ht, show i + (spanL pPlain (s.drop (i + 1)) + 1) = i + 1 + spanL pPlain (s.drop (i + 1)) by omega]
  simp only [List.append_assoc, List.singleton_append, List.cons_append, List.nil_append]
end
/-- what text comes to -/
def TextEnd (rb : Nat) (s : ByteArray) (v : Nat) (r : Except Fail (List UInt8 × Nat)) (e : Ending) (w' : World) : Prop :=
  match r with
  | .ok (t, j) => e = .returned (.string ⟨t.toArray⟩) ∧ RS w' rb s j v 0 0
  | .error (i, k) => (∃ t, e = .returned (.string t)) ∧ ∃ a', RS w' rb s a' v i k
set_option maxRecDepth 10000000 in
set_option maxHeartbeats 8000000 in
theorem rText_any (rb : Nat) (s : ByteArray) (a v : Nat) (w : World) (h : RS w rb s a v 0 0) (hs : s.size ≤ 1000000000) (ha : a < s.size) :
    Calls Tryz.prog 67 #[.pointer (some ⟨rb, 0, none⟩)] w fun e w' => TextEnd rb s v (quotP (s.size + 1) s.data.toList (a + 1) []) e w' ∧ GB rb w w' := by
  have hs' : s.size ≤ maxLen := by unfold maxLen; omega
  obtain ⟨c0, c1, c2, c3, c4⟩ := h.cells
  have f1 := h.frozen 1
  obtain ⟨X, hX⟩ : ∃ X, X = quotP (s.size + 1) s.data.toList (a + 1) [] := ⟨_, rfl⟩
  rw [← hX]
  have E := Lib.hid hX
  clear hX
  have ha2 : (a : Int) + 1 ≤ 1000000000 := by omega
  go_enter Tryz.func67, Tryz.ntmps67
  go_wp2_with fail
  have h1 : RS (w.setCell ⟨rb, 1, none⟩ (.int .i64 ((a : Int) + 1))) rb s (a + 1) v 0 0 := h.s1 (a + 1)
  have g1 : GB rb w (w.setCell ⟨rb, 1, none⟩ (.int .i64 ((a : Int) + 1))) := (GB.refl rb w).set 1 _
  clear c0 c1 c2 c3 c4 f1 ha2
  go_loopg [3] (s.size + 2) (fun q vs wr => ∃ S : ByteArray, vs = .string S ∧ GB rb w wr ∧ ((∃ i n : Nat, i ≤ s.size ∧ S.size ≤ i ∧ s.size + 2 ≤ i + q ∧ s.size + 1 ≤ i + n ∧ X = quotP n s.data.toList i S.data.toList ∧ RS wr rb s i v 0 0) ∨ (∃ i k a' : Nat, 1 ≤ q ∧ k ≠ 0 ∧ X = .error (i, k) ∧ RS wr rb s a' v i k)))
  case atStart => exact ⟨⟨#[]⟩, rfl, g1, .inl ⟨a + 1, s.size + 1, ha, Nat.zero_le _, by omega, by omega, E.out, h1⟩⟩
  case round =>
    obtain ⟨S, rfl, hG, hst⟩ := hrel
    clear E h1 g1
    rcases hst with ⟨i, n, hi, hSi, hq, hn, hX, hR⟩ | ⟨i, k, a', hq, hk, hX, hR⟩
    · obtain ⟨n, rfl⟩ : ∃ m, n = m + 1 := ⟨n - 1, by omega⟩
      have HQ := Lib.hid hX
      clear hX
      have hSs : S.size ≤ 1000000000 := by omega
      have hiI : (i : Int) ≤ 1000000000 := by omega
      have cO := rOk_any rb s i v 0 0 _ hR
      have cF := fun (k : Nat) (w2 : World) (h2 : RS w2 rb s i v 0 0) => rFail_any rb s i v 0 i k w2 h2
      have cE := fun (p : Nat) (w2 : World) (h2 : RS w2 rb s i v 0 0) => rFail_any rb s i v 0 p 21 w2 h2
      obtain ⟨c0, c1, c2, c3, c4⟩ := hR.cells
      have f1 := hR.frozen 1
      by_cases hlt : i < s.size
      · have hlt2 : (i : Int) < (s.size : Int) := by omega
        have hlt3 : ¬ ((s.size : Int) ≤ (i : Int)) := by omega
        have hi1 : (i : Int) + 1 ≤ (s.size : Int) := by omega
        obtain ⟨c, hc⟩ : ∃ c : UInt8, c = s[i] := ⟨_, rfl⟩
        have hby : byL s.data.toList i = some c := by rw [hc]; exact byL_at s i hlt
        obtain ⟨x, hx⟩ : ∃ x : Int, x = ((s[i].toNat : Nat) : Int) := ⟨_, rfl⟩
        have hx0 := run_index_at s i hlt x hx
        have hxc : x = ((c.toNat : Nat) : Int) := by rw [hc]; exact hx
        have hxr : 0 ≤ x ∧ x < 256 := by have := c.toNat_lt; omega
        have HBY := Lib.hid hby
        have HXC := Lib.hid hxc
        have HC := Lib.hid hc
        clear hx hby hxc hc
        by_cases q34 : x = 34
        · have hc34 : c = 34 := UInt8.toNat_inj.1 (by have := HXC.out; show c.toNat = 34; omega)
          have HX : Hid (X = .ok (S.data.toList, i + 1)) := Lib.hid (by rw [HQ.out, q_34 (by rw [HBY.out, hc34])])
          subst q34
          clear hc34
          go_wp2_with (go_at_call 36; refine cO.mono ?_; rintro e w1 ⟨rfl, rfl⟩)
          go_quiet (fail)
          go_wp2_with fail
          go_quiet (fail)
          go_wp2_with fail
          go_ret
          exact ⟨by rw [HX.out]; exact ⟨rfl, (hR.drewN _).s1 (i + 1)⟩, (hG.drewN _).set 1 _⟩
        · have b34 : (x == 34) = false := beq_false_of_ne q34
          have n34 : c ≠ 34 := fun e => q34 (by rw [HXC.out, e]; rfl)
          by_cases qlo : x < 32
          · have HX : Hid (X = .error (i, 20)) := Lib.hid (by rw [HQ.out, q_low HBY.out (by have := HXC.out; omega)])
            clear q34 n34
            go_wp2_with (go_at_call 36; refine cO.mono ?_; rintro e w1 ⟨rfl, rfl⟩)
            go_quiet (fail)
            go_wp2_with fail
            go_quiet (fail)
            go_wp2_with (go_at_call 37; refine (cF 20 _ (hR.drewN _)).mono ?_; rintro e w2 ⟨rfl, h2, g2⟩)
            go_ret
            exact ⟨by rw [HX.out]; exact ⟨⟨_, rfl⟩, _, h2⟩, (hG.drewN _).trans g2⟩
          · by_cases q92 : x = 92
            · have hc92 : c = 92 := UInt8.toNat_inj.1 (by have := HXC.out; show c.toNat = 92; omega)
              have cX := fun (w2 : World) (h2 : RS w2 rb s i v 0 0) => rEscape_any rb s i v w2 h2 hs hlt (by rw [← HC.out, hc92])
              have hby2 : byL s.data.toList i = some 92 := by rw [HBY.out, hc92]
              cases hesc : escL (s.data.toList.drop i) with
              | none =>
                have HX : Hid (X = .error (i, 23)) := Lib.hid (by rw [HQ.out, q_92n hby2 hesc])
                rw [hesc] at cX
                subst q92
                clear hc92 hby2 hesc b34 q34 n34 qlo
                go_wp2_with (go_at_call 36; refine cO.mono ?_; rintro e w1 ⟨rfl, rfl⟩)
                go_quiet (fail)
                go_wp2_with fail
                go_quiet (fail)
                go_wp2_with (go_at_call 100; refine (cX _ (hR.drewN _)).mono ?_; rintro e w2 ⟨⟨rfl, h2⟩, g2⟩)
                go_roundg (gk - 1)
                case measure => omega
                case rel => exact ⟨_, rfl, (hG.drewN _).trans g2, .inr ⟨i, 23, i, by omega, by decide, HX.out, h2⟩⟩
              | some bk =>
                obtain ⟨b, k⟩ := bk
                have hep := esc_len hesc
                rw [List.length_drop, ← Lib.size_eq] at hep
                have hbl : b.length ≤ k := hep.2.2
                have HX : Hid (X = quotP n s.data.toList (i + k) (S.data.toList ++ b)) := Lib.hid (by rw [HQ.out, q_92s hby2 hesc])
                rw [hesc] at cX
                have hbz : (ByteArray.mk b.toArray).size ≤ k := by rw [Lib.size_eq]; exact hbl
                have hbd : Hid ((ByteArray.mk b.toArray).data.toList = b) := Lib.hid rfl
                have hcat : Hid ((S ++ ⟨b.toArray⟩).data.toList = S.data.toList ++ b ∧ (S ++ ⟨b.toArray⟩).size ≤ i + k) := Lib.hid ⟨by rw [ByteArray.data_append, Array.toList_append], by rw [ByteArray.size_append]; omega⟩
                have cX2 : ∀ (w2 : World), RS w2 rb s i v 0 0 → Calls Tryz.prog 100 #[.pointer (some ⟨rb, 0, none⟩)] w2 fun e w' => (e = .returned (.string ⟨b.toArray⟩) ∧ RS w' rb s (i + k) v 0 0) ∧ GB rb w2 w' := cX
                have hbz2 : (ByteArray.mk b.toArray).size ≤ 1000000000 := by omega
                generalize ByteArray.mk b.toArray = B at *
                subst q92
                clear hc92 hby2 hesc b34 q34 n34 qlo cX
                go_wp2_with (go_at_call 36; refine cO.mono ?_; rintro e w1 ⟨rfl, rfl⟩)
                go_quiet (fail)
                go_wp2_with fail
                go_quiet (fail)
                go_wp2_with (go_at_call 100; refine (cX2 _ (hR.drewN _)).mono ?_; rintro e w2 ⟨⟨rfl, h2⟩, g2⟩)
                go_roundg (gk - 1)
                case measure => omega
                case rel => exact ⟨S ++ B, rfl, (hG.drewN _).trans g2, .inl ⟨i + k, n, by omega, hcat.out.2, by omega, by omega, by rw [hcat.out.1]; exact HX.out, h2⟩⟩
            · have b92 : (x == 92) = false := beq_false_of_ne q92
              have n92 : c ≠ 92 := fun e => q92 (by rw [HXC.out, e]; rfl)
              have HX : Hid (X = quotP (n + 1) s.data.toList (i + 1) (S.data.toList ++ [c])) := Lib.hid (by rw [HQ.out, q_plain HBY.out (by have := HXC.out; omega) n34 n92])
              have hpz : (s.extract i (i + 1)).size ≤ 1 := by rw [Lib.size_eq, Lib.extract_data, List.length_take]; omega
              have hcat : Hid ((S ++ s.extract i (i + 1)).data.toList = S.data.toList ++ [c] ∧ (S ++ s.extract i (i + 1)).size ≤ i + 1) := Lib.hid ⟨by
                rw [ByteArray.data_append, Array.toList_append, Lib.extract_data, byL_split HBY.out, show i + 1 - i = 1 by omega]
                rfl, by rw [ByteArray.size_append]; omega⟩
              clear q34 n34 q92 n92
              go_wp2_with (go_at_call 36; refine cO.mono ?_; rintro e w1 ⟨rfl, rfl⟩)
              go_quiet (fail)
              go_wp2_with fail
              go_quiet (fail)
              go_wp2_with fail
              go_quiet (fail)
              go_wp2_with fail
              go_roundg (gk - 1)
              case measure => omega
              case rel => exact ⟨S ++ s.extract i (i + 1), rfl, (hG.drewN _).set 1 _, .inl ⟨i + 1, n + 1, hlt, hcat.out.2, by omega, by omega, by rw [hcat.out.1]; exact HX.out, (hR.drewN _).s1 (i + 1)⟩⟩
      · have hie : i = s.size := by omega
        have HX : Hid (X = .error (s.size, 21)) := Lib.hid (by rw [HQ.out, q_end (by rw [← Lib.size_eq]; omega), hie])
        have hge : (s.size : Int) ≤ (i : Int) := by omega
        have cE2 := cE s.size
        clear hie cE
        go_wp2_with (go_at_call 36; refine cO.mono ?_; rintro e w1 ⟨rfl, rfl⟩)
        go_quiet (fail)
        go_wp2_with (go_at_call 37; refine (cE2 _ (hR.drewN _)).mono ?_; rintro e w2 ⟨rfl, h2, g2⟩)
        go_ret
        exact ⟨by rw [HX.out]; exact ⟨⟨_, rfl⟩, _, h2⟩, (hG.drewN _).trans g2⟩
    · have cO := rOk_any rb s a' v i k _ hR
      rw [decide_eq_false hk] at cO
      have HX := Lib.hid hX
      clear hX
      go_wp2_with (go_at_call 36; refine cO.mono ?_; rintro e w1 ⟨rfl, rfl⟩)
      go_ret
      exact ⟨by rw [HX.out]; exact ⟨⟨_, rfl⟩, _, hR⟩, hG⟩
end Go.Proofs.YtakdhfjlhkejdaaGreatDoor
