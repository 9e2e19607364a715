/-
  CONTRACT of codicilref02's Reader: value. (gen_rd8.py writes it.)
-/
import Derived.Test.YtakdhfjlhkejdaaGreatDoorCJsonRd7
import Derived.Test.YtakdhfjlhkejdaaGreatDoorCJsonRNum
set_option linter.unusedSimpArgs false
set_option linter.unusedVariables false
set_option linter.unusedVariables false
set_option linter.unusedSimpArgs false
namespace Go.Proofs.YtakdhfjlhkejdaaGreatDoor
open Go.RowKit
section
variable {m : Nat} {s : List UInt8} {i v o : Nat} {c : UInt8}
theorem val_end (h : byL s (skipL s i) = none) : valP (m + 1) s i v o = .error (skipL s i, 21) := by rw [valP, h]
theorem val_many (h : byL s (skipL s i) = some c) (hv : v = 4096) : valP (m + 1) s i v o = .error (skipL s i, 27) := by rw [valP, h]; simp only [if_pos hv]
theorem val_num (h : byL s (skipL s i) = some c) (hv : ¬ v = 4096) (hc : c = 45 ∨ pDigit (c.toNat : Nat) = true) : valP (m + 1) s i v o = if numL ((s.drop (skipL s i)).take (spanL pNum (s.drop (skipL s i)))) then .ok (.mk 4 ⟨((s.drop (skipL s i)).take (spanL pNum (s.drop (skipL s i)))).toArray⟩ [] [], skipL s i + spanL pNum (s.drop (skipL s i)), v + 1) else .error (skipL s i, 22) := by
  rw [valP, h]
  simp only [if_neg hv, if_pos hc]
theorem val_word (h : byL s (skipL s i) = some c) (hv : ¬ v = 4096) (hc : ¬ (c = 45 ∨ pDigit (c.toNat : Nat) = true)) (hl : pLetter (c.toNat : Nat) = true) : valP (m + 1) s i v o = match wordK ((s.drop (skipL s i)).take (spanL pLetter (s.drop (skipL s i)))) with
        | some k => .ok (.mk k noText [] [], skipL s i + spanL pLetter (s.drop (skipL s i)), v + 1)
        | none => .error (skipL s i, 20) := by
  rw [valP, h]
  simp only [if_neg hv, if_neg hc, if_pos hl]
  rfl
theorem val_nest (h : byL s (skipL s i) = some c) (hv : ¬ v = 4096) (hc : c = 91 ∨ c = 123) (ho : o = 48) : valP (m + 1) s i v o = .error (skipL s i, 26) := by
  rw [valP, h]
  rcases hc with rfl | rfl
  · simp only [if_neg hv, if_neg (show ¬ ((91 : UInt8) = 45 ∨ pDigit ((91 : UInt8).toNat : Nat) = true) by decide), if_neg (show ¬ pLetter ((91 : UInt8).toNat : Nat) = true by decide), if_true, if_pos ho]
  · simp only [if_neg hv, if_neg (show ¬ ((123 : UInt8) = 45 ∨ pDigit ((123 : UInt8).toNat : Nat) = true) by decide), if_neg (show ¬ pLetter ((123 : UInt8).toNat : Nat) = true by decide), if_neg (show ¬ (123 : UInt8) = 91 by decide), if_true, if_pos ho]
theorem val_array (h : byL s (skipL s i) = some 91) (hv : ¬ v = 4096) (ho : ¬ o = 48) : valP (m + 1) s i v o = arrR m s (skipL s i + 1) (v + 1) (o + 1) := by
  rw [valP, h]
  simp only [if_neg hv, if_neg (show ¬ ((91 : UInt8) = 45 ∨ pDigit ((91 : UInt8).toNat : Nat) = true) by decide), if_neg (show ¬ pLetter ((91 : UInt8).toNat : Nat) = true by decide), if_true, if_neg ho]
  rfl
theorem val_object (h : byL s (skipL s i) = some 123) (hv : ¬ v = 4096) (ho : ¬ o = 48) : valP (m + 1) s i v o = objR m s (skipL s i + 1) (v + 1) (o + 1) := by
  rw [valP, h]
  simp only [if_neg hv, if_neg (show ¬ ((123 : UInt8) = 45 ∨ pDigit ((123 : UInt8).toNat : Nat) = true) by decide), if_neg (show ¬ pLetter ((123 : UInt8).toNat : Nat) = true by decide), if_neg (show ¬ (123 : UInt8) = 91 by decide), if_true, if_neg ho]
  rfl
theorem val_text (h : byL s (skipL s i) = some 34) (hv : ¬ v = 4096) : valP (m + 1) s i v o = match quotP (s.length + 1) s (skipL s i + 1) [] with
        | .error e => .error e
        | .ok (t, j) => .ok (.mk 5 ⟨t.toArray⟩ [] [], j, v + 1) := by
  rw [valP, h]
  simp only [if_neg hv, if_neg (show ¬ ((34 : UInt8) = 45 ∨ pDigit ((34 : UInt8).toNat : Nat) = true) by decide), if_neg (show ¬ pLetter ((34 : UInt8).toNat : Nat) = true by decide), if_neg (show ¬ (34 : UInt8) = 91 by decide), if_neg (show ¬ (34 : UInt8) = 123 by decide), if_true]
  rfl
theorem val_byte (h : byL s (skipL s i) = some c) (hv : ¬ v = 4096) (hc : ¬ (c = 45 ∨ pDigit (c.toNat : Nat) = true)) (hl : ¬ pLetter (c.toNat : Nat) = true) (h1 : ¬ c = 91) (h2 : ¬ c = 123) (h3 : ¬ c = 34) : valP (m + 1) s i v o = .error (skipL s i, 20) := by
  rw [valP, h]
  simp only [if_neg hv, if_neg hc, if_neg hl, if_neg h1, if_neg h2, if_neg h3]
end
theorem leafV {w : World} (lo k : Nat) (t : ByteArray) : IsV w lo (.mk k t [] []) (.int .u8 (k : Nat)) (.string t) (.slice none 0 0) (.slice none 0 0) := by
  simp only [IsV]
  exact ⟨by trivial, by trivial, ⟨none, 0, by trivial, .inl (by trivial)⟩, ⟨none, 0, by trivial, .inl (by trivial)⟩⟩
/-- the result's block, empty; the world but the reader's block as it was -/
structure VQ (w0 : World) (rb : Nat) (wr : World) : Prop where
  res : RB wr w0.heap.size (.int .u8 0) (.string ⟨#[]⟩) (.slice none 0 0) (.slice none 0 0)
  gb : GB rb w0 wr
  lt : rb < w0.heap.size
theorem word_end {rb : Nat} {s : ByteArray} {a v m : Nat} {r : Option Nat} {e : Ending} {w' : World} (h : WordEnd rb s a v m r e w') : ∃ k : Nat, e = .returned (.int .u8 (k : Nat)) ∧ ((r = some k ∧ RS w' rb s (a + m) v 0 0) ∨ (r = none ∧ RS w' rb s a v a 20)) := by
  unfold WordEnd at h
  rcases r with _ | k
  · exact ⟨0, h.1, .inr ⟨rfl, h.2⟩⟩
  · exact ⟨k, h.1, .inl ⟨rfl, h.2⟩⟩
theorem deep_st {rb : Nat} {s : ByteArray} {w3 wE : World} {x : JV} {r : Except Fail (JV × Nat × Nat)} (he : wE.heap[rb]? = w3.heap[rb]?) : (match r with
    | .ok (y, j, v') => x = y ∧ RS w3 rb s j v' 0 0
    | .error (i, f) => ∃ a' v', RS w3 rb s a' v' i f) → (match r with
    | .ok (y, j, v') => x = y ∧ RS wE rb s j v' 0 0
    | .error (i, f) => ∃ a' v', RS wE rb s a' v' i f) := by
  intro h
  rcases r with ⟨i, f⟩ | ⟨y, j, v'⟩
  · obtain ⟨a', v', h⟩ := h
    exact ⟨a', v', h.on he⟩
  · exact ⟨h.1, h.2.on he⟩
theorem VQ.go {w0 wr w2 : World} {rb : Nat} (h : VQ w0 rb wr) (hg : GB rb wr w2) : VQ w0 rb w2 := ⟨(hg.block _ h.res.lt (fun e => by have := Option.some.inj e; have := h.lt; omega)).trans h.res, h.gb.trans hg, h.lt⟩
set_option maxRecDepth 10000000 in
set_option maxHeartbeats 16000000 in
theorem rValue_any (n : Nat) (IH : ∀ m, m < n → ValR m) : ValR n := by
  intro rb s a v o w hs h ha hv ho hn
  obtain ⟨m, rfl⟩ : ∃ m, n = m + 1 := ⟨n - 1, by omega⟩
  have hs' : s.size ≤ maxLen := by unfold maxLen; omega
  obtain ⟨K, hK⟩ : ∃ K, skipL s.data.toList a = K := ⟨_, rfl⟩
  have hKb := skip_bd s a ha
  rw [hK] at hKb
  have hb0 : Below w.heap.size w (w.alloc (.cells #[.int .u8 0, .string ⟨#[]⟩, .slice none 0 0, .slice none 0 0] 26)) := (Below.refl _ w).alloc (Nat.le_refl _) _
  have hA0 : VQ w rb (w.alloc (.cells #[.int .u8 0, .string ⟨#[]⟩, .slice none 0 0, .slice none 0 0] 26)) := ⟨heap_alloc_new w (.cells #[.int .u8 0, .string ⟨#[]⟩, .slice none 0 0, .slice none 0 0] 26), Below.gb hb0 rb, h.lt⟩
  have hR0 : RS (w.alloc (.cells #[.int .u8 0, .string ⟨#[]⟩, .slice none 0 0, .slice none 0 0] 26)) rb s a v 0 0 := h.below hb0
  have hrl := h.lt
  obtain ⟨X, hX⟩ : ∃ X, X = valP (m + 1) s.data.toList a v o := ⟨_, rfl⟩
  rw [← hX]
  clear h hb0
  go_enter Tryz.func34, Tryz.ntmps34
  go_upto_region 1 with fail
  generalize w.alloc (.cells #[.int .u8 0, .string ⟨#[]⟩, .slice none 0 0, .slice none 0 0] 26) = W at *
  by_cases hlt : K < s.size
  · obtain ⟨x, hx⟩ : ∃ x : Int, x = ((s[K].toNat : Nat) : Int) := ⟨_, rfl⟩
    have cH := rHere_some rb s a v K x W hR0 hs' ha hK hlt hx
    have hby : byL s.data.toList (skipL s.data.toList a) = some s[K] := by rw [hK]; exact byL_at s K hlt
    have hxr : 0 ≤ x ∧ x < 256 := by have := s[K].toNat_lt; omega
    have hun : ∀ c : UInt8, x = ((c.toNat : Nat) : Int) → s[K] = c := fun c hc => UInt8.toNat_inj.1 (by omega)
    by_cases hvm : v = 4096
    · have HX : Hid (X = .error (K, 27)) := Lib.hid (by rw [hX, val_many hby hvm, hK])
      clear hX hby hun hx hK
      subst hvm
      have cF := fun (w2 : World) (h2 : RS w2 rb s K 4096 0 0) => rFail_any rb s K 4096 0 K 27 w2 h2
      go_wp2_with (first
        | (go_at_call 66; refine cH.mono ?_; rintro e w1 ⟨rfl, h1, g1⟩; obtain ⟨c0, c1, c2, c3, c4⟩ := h1.cells)
        | (go_at_call 36; refine (rOk_any rb s K 4096 0 0 _ h1).mono ?_; rintro e w2 ⟨rfl, rfl⟩)
        | (go_at_call 37; refine (cF _ h1).mono ?_; rintro e w3 ⟨rfl, h3, g3⟩; have hA3 := (hA0.go g1).go g3; obtain ⟨r0, r1, r2, r3⟩ := hA3.res.cells; obtain ⟨u0, u1, u2, u3⟩ := hA3.res.frozen))
      have hRBq := hA3.res.set4 (.int .u8 0) (.string ⟨#[]⟩) (.slice none 0 0) (.slice none 0 0)
      have hGq : GB rb w (((((w3).setCell ⟨w.heap.size, 0, none⟩ (.int .u8 0)).setCell ⟨w.heap.size, 1, none⟩ (.string ⟨#[]⟩)).setCell ⟨w.heap.size, 2, none⟩ (.slice none 0 0)).setCell ⟨w.heap.size, 3, none⟩ (.slice none 0 0)) := hA3.gb.set4 (Nat.le_refl _) _ _ _ _
      have hEq : ∀ j, j ≠ w.heap.size → (((((w3).setCell ⟨w.heap.size, 0, none⟩ (.int .u8 0)).setCell ⟨w.heap.size, 1, none⟩ (.string ⟨#[]⟩)).setCell ⟨w.heap.size, 2, none⟩ (.slice none 0 0)).setCell ⟨w.heap.size, 3, none⟩ (.slice none 0 0)).heap[j]? = (w3).heap[j]? := fun j hj => set4_heap w3 _ _ _ _ _ _ _ _ _ j hj
      have hRq : RS (((((w3).setCell ⟨w.heap.size, 0, none⟩ (.int .u8 0)).setCell ⟨w.heap.size, 1, none⟩ (.string ⟨#[]⟩)).setCell ⟨w.heap.size, 2, none⟩ (.slice none 0 0)).setCell ⟨w.heap.size, 3, none⟩ (.slice none 0 0)) rb s K 4096 K 27 := (hEq rb (by have := hA3.lt; omega)).trans h3
      have hVq := leafV (w := (((((w3).setCell ⟨w.heap.size, 0, none⟩ (.int .u8 0)).setCell ⟨w.heap.size, 1, none⟩ (.string ⟨#[]⟩)).setCell ⟨w.heap.size, 2, none⟩ (.slice none 0 0)).setCell ⟨w.heap.size, 3, none⟩ (.slice none 0 0))) w.heap.size 0 ⟨#[]⟩
      clear hA3
      generalize (((((w3).setCell ⟨w.heap.size, 0, none⟩ (.int .u8 0)).setCell ⟨w.heap.size, 1, none⟩ (.string ⟨#[]⟩)).setCell ⟨w.heap.size, 2, none⟩ (.slice none 0 0)).setCell ⟨w.heap.size, 3, none⟩ (.slice none 0 0)) = wE at *
      obtain ⟨z0, z1, z2, z3⟩ := hRBq.cells
      refine bodyPost_ret (v := .agg #[.int .u8 0, .string ⟨#[]⟩, .slice none 0 0, .slice none 0 0]) ?_ rfl ?_
      · simp [results, Tryz.results34, go_sem, z0, z1, z2, z3]
      · rw [HX.out]; exact ⟨hGq, _, _, _, _, _, _, _, _, _, rfl, hVq, _, _, hRq⟩
    · have hv1 : v + 1 ≤ 4096 := by omega
      have hvI : ¬ ((v : Int) ≥ 4096) := by omega
      have HX0 := Lib.hid hX
      have HB0 := Lib.hid hby
      have HU0 := Lib.hid hun
      have HX1 := Lib.hid hx
      have HK0 := Lib.hid hK
      clear hX hby hun hx hK
      go_upto_region 8 with (first
        | (go_at_call 66; refine cH.mono ?_; rintro e w1 ⟨rfl, h1, g1⟩; obtain ⟨c0, c1, c2, c3, c4⟩ := h1.cells; have f2 := h1.frozen 2)
        | (go_at_call 36; refine (rOk_any rb s K v 0 0 _ h1).mono ?_; rintro e w2 ⟨rfl, rfl⟩))
      have hA1 := hA0.go (g1.set 2 (.int .i64 ((v : Int) + 1)))
      have hR1 : RS (w2.setCell ⟨rb, 2, none⟩ (.int .i64 ((v : Int) + 1))) rb s K (v + 1) 0 0 := h1.s2 (v + 1)
      clear c0 c1 c2 c3 c4 f2 g1 h1 hA0 hR0 cH hvI
      generalize w2.setCell ⟨rb, 2, none⟩ (.int .i64 ((v : Int) + 1)) = W1 at *
      obtain ⟨r0, r1, r2, r3⟩ := hA1.res.cells; obtain ⟨u0, u1, u2, u3⟩ := hA1.res.frozen
      have hX := HX0.out
      have hby := HB0.out
      have hun := HU0.out
      have hx := HX1.out
      have hK := HK0.out
      clear HX0 HB0 HU0 HX1 HK0
      by_cases h34 : x = 34
      · have hXQ := hX.trans (val_text (by rw [hby, hun 34 h34]) hvm)
        rw [hK, ← Lib.size_eq] at hXQ
        have cT := rText_any rb s K (v + 1) W1 hR1 hs hlt
        generalize quotP (s.size + 1) s.data.toList (K + 1) [] = r at *
        have HX := Lib.hid hXQ
        clear hXQ hX hby hun hx hK
        subst h34
        go_wp2_with (go_at_call 67; refine cT.mono ?_; rintro e w3 ⟨hT0, g3⟩; obtain ⟨T, rfl, hT⟩ := text_end hT0; clear hT0; have hA3 := hA1.go g3; obtain ⟨r0, r1, r2, r3⟩ := hA3.res.cells; obtain ⟨u0, u1, u2, u3⟩ := hA3.res.frozen)
        rcases hT with ⟨i1, hr, h3⟩ | ⟨i1, fk, a', hr, h3⟩
        · have HX2 : Hid (X = .ok (.mk 5 T [] [], i1, v + 1)) := Lib.hid (by rw [HX.out, hr])
          have hRBq := hA3.res.set4 (.int .u8 5) (.string T) (.slice none 0 0) (.slice none 0 0)
          have hGq : GB rb w (((((w3).setCell ⟨w.heap.size, 0, none⟩ (.int .u8 5)).setCell ⟨w.heap.size, 1, none⟩ (.string T)).setCell ⟨w.heap.size, 2, none⟩ (.slice none 0 0)).setCell ⟨w.heap.size, 3, none⟩ (.slice none 0 0)) := hA3.gb.set4 (Nat.le_refl _) _ _ _ _
          have hEq : ∀ j, j ≠ w.heap.size → (((((w3).setCell ⟨w.heap.size, 0, none⟩ (.int .u8 5)).setCell ⟨w.heap.size, 1, none⟩ (.string T)).setCell ⟨w.heap.size, 2, none⟩ (.slice none 0 0)).setCell ⟨w.heap.size, 3, none⟩ (.slice none 0 0)).heap[j]? = (w3).heap[j]? := fun j hj => set4_heap w3 _ _ _ _ _ _ _ _ _ j hj
          have hRq : RS (((((w3).setCell ⟨w.heap.size, 0, none⟩ (.int .u8 5)).setCell ⟨w.heap.size, 1, none⟩ (.string T)).setCell ⟨w.heap.size, 2, none⟩ (.slice none 0 0)).setCell ⟨w.heap.size, 3, none⟩ (.slice none 0 0)) rb s i1 (v + 1) 0 0 := (hEq rb (by have := hA3.lt; omega)).trans h3
          have hVq := leafV (w := (((((w3).setCell ⟨w.heap.size, 0, none⟩ (.int .u8 5)).setCell ⟨w.heap.size, 1, none⟩ (.string T)).setCell ⟨w.heap.size, 2, none⟩ (.slice none 0 0)).setCell ⟨w.heap.size, 3, none⟩ (.slice none 0 0))) w.heap.size 5 T
          clear hA3
          generalize (((((w3).setCell ⟨w.heap.size, 0, none⟩ (.int .u8 5)).setCell ⟨w.heap.size, 1, none⟩ (.string T)).setCell ⟨w.heap.size, 2, none⟩ (.slice none 0 0)).setCell ⟨w.heap.size, 3, none⟩ (.slice none 0 0)) = wE at *
          obtain ⟨z0, z1, z2, z3⟩ := hRBq.cells
          refine bodyPost_ret (v := .agg #[.int .u8 5, .string T, .slice none 0 0, .slice none 0 0]) ?_ rfl ?_
          · simp [results, Tryz.results34, go_sem, z0, z1, z2, z3]
          · rw [HX2.out]; exact ⟨hGq, _, _, _, _, _, _, _, _, _, rfl, hVq, rfl, hRq⟩
        · have HX2 : Hid (X = .error (i1, fk)) := Lib.hid (by rw [HX.out, hr])
          have hRBq := hA3.res.set4 (.int .u8 5) (.string T) (.slice none 0 0) (.slice none 0 0)
          have hGq : GB rb w (((((w3).setCell ⟨w.heap.size, 0, none⟩ (.int .u8 5)).setCell ⟨w.heap.size, 1, none⟩ (.string T)).setCell ⟨w.heap.size, 2, none⟩ (.slice none 0 0)).setCell ⟨w.heap.size, 3, none⟩ (.slice none 0 0)) := hA3.gb.set4 (Nat.le_refl _) _ _ _ _
          have hEq : ∀ j, j ≠ w.heap.size → (((((w3).setCell ⟨w.heap.size, 0, none⟩ (.int .u8 5)).setCell ⟨w.heap.size, 1, none⟩ (.string T)).setCell ⟨w.heap.size, 2, none⟩ (.slice none 0 0)).setCell ⟨w.heap.size, 3, none⟩ (.slice none 0 0)).heap[j]? = (w3).heap[j]? := fun j hj => set4_heap w3 _ _ _ _ _ _ _ _ _ j hj
          have hRq : RS (((((w3).setCell ⟨w.heap.size, 0, none⟩ (.int .u8 5)).setCell ⟨w.heap.size, 1, none⟩ (.string T)).setCell ⟨w.heap.size, 2, none⟩ (.slice none 0 0)).setCell ⟨w.heap.size, 3, none⟩ (.slice none 0 0)) rb s a' (v + 1) i1 fk := (hEq rb (by have := hA3.lt; omega)).trans h3
          have hVq := leafV (w := (((((w3).setCell ⟨w.heap.size, 0, none⟩ (.int .u8 5)).setCell ⟨w.heap.size, 1, none⟩ (.string T)).setCell ⟨w.heap.size, 2, none⟩ (.slice none 0 0)).setCell ⟨w.heap.size, 3, none⟩ (.slice none 0 0))) w.heap.size 5 T
          clear hA3
          generalize (((((w3).setCell ⟨w.heap.size, 0, none⟩ (.int .u8 5)).setCell ⟨w.heap.size, 1, none⟩ (.string T)).setCell ⟨w.heap.size, 2, none⟩ (.slice none 0 0)).setCell ⟨w.heap.size, 3, none⟩ (.slice none 0 0)) = wE at *
          obtain ⟨z0, z1, z2, z3⟩ := hRBq.cells
          refine bodyPost_ret (v := .agg #[.int .u8 5, .string T, .slice none 0 0, .slice none 0 0]) ?_ rfl ?_
          · simp [results, Tryz.results34, go_sem, z0, z1, z2, z3]
          · rw [HX2.out]; exact ⟨hGq, _, _, _, _, _, _, _, _, _, rfl, hVq, _, _, hRq⟩
      by_cases h45 : x = 45
      · have hcn : s[K] = 45 ∨ pDigit (s[K].toNat : Nat) = true := .inl (hun 45 h45)
        have HXN := Lib.hid (hX.trans (val_num hby hvm hcn))
        rw [hK] at HXN
        have hsp := spanL_le pNum (s.data.toList.drop K)
        rw [List.length_drop, ← Lib.size_eq] at hsp
        have hWd : (s.data.toList.drop K).take (spanL pNum (s.data.toList.drop K)) = (s.extract K (K + spanL pNum (s.data.toList.drop K))).data.toList := by
          rw [Lib.extract_data, Nat.add_sub_cancel_left]
        rw [hWd] at HXN
        have cR := fun w => run_num (s.extract K s.size) w (from_size hs')
        rw [from_data] at cR
        clear hWd hX hby hcn hK hx hvm hun
        generalize spanL pNum (s.data.toList.drop K) = nn at *
        obtain ⟨N, hN⟩ : ∃ N, N = s.extract K (K + nn) := ⟨_, rfl⟩
        rw [← hN] at HXN
        have hnK : (K : Int) + (nn : Int) ≤ (s.size : Int) := by omega
        have haI : (K : Int) ≤ 1000000000 := by omega
        have hmI2 : (nn : Int) ≤ 1000000000 := by omega
        have ham2 : K + nn ≤ s.size := by omega
        have hmI : (K : Int) ≤ (K : Int) + (nn : Int) := by omega
        have hsl : ∀ w : World, (Instr.slice 9 (.string s) (some (.int .i64 (K : Nat))) (some (.int .i64 ((K : Int) + (nn : Int)))) none).run Tryz.prog w = .ok (.string N) w := fun w => by
          have h := run_slice_string w 9 s .i64 .i64 (K : Int) ((K : Int) + (nn : Int)) Tryz.underlying9 (by omega) (by omega) (by omega)
          rw [show ((K : Int) + (nn : Int)).toNat = K + nn by omega, Int.toNat_natCast, ← hN] at h
          exact h
        have hwr : IntKind.i64.wrap ((K : Int) + (nn : Int)) = (K : Int) + (nn : Int) := IntWalk.i64_in _ (by omega)
        have hNz : N.size ≤ maxLen := by rw [hN, ByteArray.size_extract]; unfold maxLen; omega
        have cN := fun w => refNumber_any N w hNz
        have cF := fun (w2 : World) (h2 : RS w2 rb s K (v + 1) 0 0) => rFail_any rb s K (v + 1) 0 K 22 w2 h2
        clear hN
        obtain ⟨c0, c1, c2, c3, c4⟩ := hR1.cells
        have f1 := hR1.frozen 1
        subst h45
        by_cases hn1 : numS N = true
        · skip
          have HXO : Hid (X = .ok (.mk 4 N [] [], K + nn, v + 1)) := Lib.hid (by rw [HXN.out, if_pos (show numL N.data.toList = true from hn1)])
          have hN4 : numS N = true := hn1
          rw [hN4] at cN
          clear hN4 hn1 HXN
          go_wp2_with fail
          go_region_with (go_at_call 68; refine (cR _).mono ?_; rintro e w1 ⟨rfl, rfl⟩)
          all_goals go_wp2_with fail
          all_goals go_quiet (fail)
          all_goals go_wp2_with (go_at_call 55; refine (cN _).mono ?_; rintro e w1 ⟨rfl, rfl⟩)
          all_goals
            have hA3 := hA1.go (((GB.refl rb W1).drewN (1 + nq)).set 1 (.int .i64 ((K : Int) + (nn : Int))))
            have h3 : RS ((W1.drewN (1 + nq)).setCell ⟨rb, 1, none⟩ (.int .i64 ((K : Int) + (nn : Int)))) rb s (K + nn) (v + 1) 0 0 := (hR1.drewN (1 + nq)).s1 (K + nn)
            have hRBq := hA3.res.set4 (.int .u8 4) (.string N) (.slice none 0 0) (.slice none 0 0)
            have hGq : GB rb w (((((((W1.drewN (1 + nq)).setCell ⟨rb, 1, none⟩ (.int .i64 ((K : Int) + (nn : Int))))).setCell ⟨w.heap.size, 0, none⟩ (.int .u8 4)).setCell ⟨w.heap.size, 1, none⟩ (.string N)).setCell ⟨w.heap.size, 2, none⟩ (.slice none 0 0)).setCell ⟨w.heap.size, 3, none⟩ (.slice none 0 0)) := hA3.gb.set4 (Nat.le_refl _) _ _ _ _
            have hEq : ∀ j, j ≠ w.heap.size → (((((((W1.drewN (1 + nq)).setCell ⟨rb, 1, none⟩ (.int .i64 ((K : Int) + (nn : Int))))).setCell ⟨w.heap.size, 0, none⟩ (.int .u8 4)).setCell ⟨w.heap.size, 1, none⟩ (.string N)).setCell ⟨w.heap.size, 2, none⟩ (.slice none 0 0)).setCell ⟨w.heap.size, 3, none⟩ (.slice none 0 0)).heap[j]? = (((W1.drewN (1 + nq)).setCell ⟨rb, 1, none⟩ (.int .i64 ((K : Int) + (nn : Int))))).heap[j]? := fun j hj => set4_heap ((W1.drewN (1 + nq)).setCell ⟨rb, 1, none⟩ (.int .i64 ((K : Int) + (nn : Int)))) _ _ _ _ _ _ _ _ _ j hj
            have hRq : RS (((((((W1.drewN (1 + nq)).setCell ⟨rb, 1, none⟩ (.int .i64 ((K : Int) + (nn : Int))))).setCell ⟨w.heap.size, 0, none⟩ (.int .u8 4)).setCell ⟨w.heap.size, 1, none⟩ (.string N)).setCell ⟨w.heap.size, 2, none⟩ (.slice none 0 0)).setCell ⟨w.heap.size, 3, none⟩ (.slice none 0 0)) rb s (K + nn) (v + 1) 0 0 := (hEq rb (by have := hA3.lt; omega)).trans h3
            have hVq := leafV (w := (((((((W1.drewN (1 + nq)).setCell ⟨rb, 1, none⟩ (.int .i64 ((K : Int) + (nn : Int))))).setCell ⟨w.heap.size, 0, none⟩ (.int .u8 4)).setCell ⟨w.heap.size, 1, none⟩ (.string N)).setCell ⟨w.heap.size, 2, none⟩ (.slice none 0 0)).setCell ⟨w.heap.size, 3, none⟩ (.slice none 0 0))) w.heap.size 4 N
            clear hA3
            generalize (((((((W1.drewN (1 + nq)).setCell ⟨rb, 1, none⟩ (.int .i64 ((K : Int) + (nn : Int))))).setCell ⟨w.heap.size, 0, none⟩ (.int .u8 4)).setCell ⟨w.heap.size, 1, none⟩ (.string N)).setCell ⟨w.heap.size, 2, none⟩ (.slice none 0 0)).setCell ⟨w.heap.size, 3, none⟩ (.slice none 0 0)) = wE at *
            obtain ⟨z0, z1, z2, z3⟩ := hRBq.cells
            refine bodyPost_ret (v := .agg #[.int .u8 4, .string N, .slice none 0 0, .slice none 0 0]) ?_ rfl ?_
            · simp [results, Tryz.results34, go_sem, z0, z1, z2, z3]
            · rw [HXO.out]; exact ⟨hGq, _, _, _, _, _, _, _, _, _, rfl, hVq, rfl, hRq⟩
        · skip
          have HXO : Hid (X = .error (K, 22)) := Lib.hid (by rw [HXN.out, if_neg (show ¬ numL N.data.toList = true from hn1)])
          have hN4 : numS N = false := Bool.eq_false_iff.2 hn1
          rw [hN4] at cN
          clear hN4 hn1 HXN
          go_wp2_with fail
          go_region_with (go_at_call 68; refine (cR _).mono ?_; rintro e w1 ⟨rfl, rfl⟩)
          all_goals go_wp2_with fail
          all_goals go_quiet (fail)
          all_goals go_wp2_with (first
            | (go_at_call 55; refine (cN _).mono ?_; rintro e w1 ⟨rfl, rfl⟩)
            | (go_at_call 37; refine (cF _ (hR1.drewN _)).mono ?_; rintro e w3 ⟨rfl, h3, g3⟩; have hA3 := (hA1.go ((GB.refl rb W1).drewN _)).go g3; clear c0 c1 c2 c3 c4 f1; obtain ⟨c0, c1, c2, c3, c4⟩ := h3.cells; have f1 := h3.frozen 1; obtain ⟨r0, r1, r2, r3⟩ := hA3.res.cells; obtain ⟨u0, u1, u2, u3⟩ := hA3.res.frozen))
          all_goals
            have hA4 := hA3.go ((GB.refl rb w3).set 1 (.int .i64 ((K : Int) + (nn : Int))))
            have h4 : RS (w3.setCell ⟨rb, 1, none⟩ (.int .i64 ((K : Int) + (nn : Int)))) rb s (K + nn) (v + 1) K 22 := h3.s1 (K + nn)
            have hRBq := hA4.res.set4 (.int .u8 4) (.string N) (.slice none 0 0) (.slice none 0 0)
            have hGq : GB rb w ((((((w3.setCell ⟨rb, 1, none⟩ (.int .i64 ((K : Int) + (nn : Int))))).setCell ⟨w.heap.size, 0, none⟩ (.int .u8 4)).setCell ⟨w.heap.size, 1, none⟩ (.string N)).setCell ⟨w.heap.size, 2, none⟩ (.slice none 0 0)).setCell ⟨w.heap.size, 3, none⟩ (.slice none 0 0)) := hA4.gb.set4 (Nat.le_refl _) _ _ _ _
            have hEq : ∀ j, j ≠ w.heap.size → ((((((w3.setCell ⟨rb, 1, none⟩ (.int .i64 ((K : Int) + (nn : Int))))).setCell ⟨w.heap.size, 0, none⟩ (.int .u8 4)).setCell ⟨w.heap.size, 1, none⟩ (.string N)).setCell ⟨w.heap.size, 2, none⟩ (.slice none 0 0)).setCell ⟨w.heap.size, 3, none⟩ (.slice none 0 0)).heap[j]? = ((w3.setCell ⟨rb, 1, none⟩ (.int .i64 ((K : Int) + (nn : Int))))).heap[j]? := fun j hj => set4_heap (w3.setCell ⟨rb, 1, none⟩ (.int .i64 ((K : Int) + (nn : Int)))) _ _ _ _ _ _ _ _ _ j hj
            have hRq : RS ((((((w3.setCell ⟨rb, 1, none⟩ (.int .i64 ((K : Int) + (nn : Int))))).setCell ⟨w.heap.size, 0, none⟩ (.int .u8 4)).setCell ⟨w.heap.size, 1, none⟩ (.string N)).setCell ⟨w.heap.size, 2, none⟩ (.slice none 0 0)).setCell ⟨w.heap.size, 3, none⟩ (.slice none 0 0)) rb s (K + nn) (v + 1) K 22 := (hEq rb (by have := hA4.lt; omega)).trans h4
            have hVq := leafV (w := ((((((w3.setCell ⟨rb, 1, none⟩ (.int .i64 ((K : Int) + (nn : Int))))).setCell ⟨w.heap.size, 0, none⟩ (.int .u8 4)).setCell ⟨w.heap.size, 1, none⟩ (.string N)).setCell ⟨w.heap.size, 2, none⟩ (.slice none 0 0)).setCell ⟨w.heap.size, 3, none⟩ (.slice none 0 0))) w.heap.size 4 N
            clear hA4
            generalize ((((((w3.setCell ⟨rb, 1, none⟩ (.int .i64 ((K : Int) + (nn : Int))))).setCell ⟨w.heap.size, 0, none⟩ (.int .u8 4)).setCell ⟨w.heap.size, 1, none⟩ (.string N)).setCell ⟨w.heap.size, 2, none⟩ (.slice none 0 0)).setCell ⟨w.heap.size, 3, none⟩ (.slice none 0 0)) = wE at *
            obtain ⟨z0, z1, z2, z3⟩ := hRBq.cells
            refine bodyPost_ret (v := .agg #[.int .u8 4, .string N, .slice none 0 0, .slice none 0 0]) ?_ rfl ?_
            · simp [results, Tryz.results34, go_sem, z0, z1, z2, z3]
            · rw [HXO.out]; exact ⟨hGq, _, _, _, _, _, _, _, _, _, rfl, hVq, _, _, hRq⟩
      by_cases hd : 48 ≤ x ∧ x ≤ 57
      · obtain ⟨d0, d1⟩ := hd
        have hcn : s[K] = 45 ∨ pDigit (s[K].toNat : Nat) = true := .inr (by rw [← hx]; unfold pDigit; rw [decide_eq_true d0, decide_eq_true d1]; rfl)
        have HXN := Lib.hid (hX.trans (val_num hby hvm hcn))
        rw [hK] at HXN
        have hsp := spanL_le pNum (s.data.toList.drop K)
        rw [List.length_drop, ← Lib.size_eq] at hsp
        have hWd : (s.data.toList.drop K).take (spanL pNum (s.data.toList.drop K)) = (s.extract K (K + spanL pNum (s.data.toList.drop K))).data.toList := by
          rw [Lib.extract_data, Nat.add_sub_cancel_left]
        rw [hWd] at HXN
        have cR := fun w => run_num (s.extract K s.size) w (from_size hs')
        rw [from_data] at cR
        clear hWd hX hby hcn hK hx hvm hun
        generalize spanL pNum (s.data.toList.drop K) = nn at *
        obtain ⟨N, hN⟩ : ∃ N, N = s.extract K (K + nn) := ⟨_, rfl⟩
        rw [← hN] at HXN
        have hnK : (K : Int) + (nn : Int) ≤ (s.size : Int) := by omega
        have haI : (K : Int) ≤ 1000000000 := by omega
        have hmI2 : (nn : Int) ≤ 1000000000 := by omega
        have ham2 : K + nn ≤ s.size := by omega
        have hmI : (K : Int) ≤ (K : Int) + (nn : Int) := by omega
        have hsl : ∀ w : World, (Instr.slice 9 (.string s) (some (.int .i64 (K : Nat))) (some (.int .i64 ((K : Int) + (nn : Int)))) none).run Tryz.prog w = .ok (.string N) w := fun w => by
          have h := run_slice_string w 9 s .i64 .i64 (K : Int) ((K : Int) + (nn : Int)) Tryz.underlying9 (by omega) (by omega) (by omega)
          rw [show ((K : Int) + (nn : Int)).toNat = K + nn by omega, Int.toNat_natCast, ← hN] at h
          exact h
        have hwr : IntKind.i64.wrap ((K : Int) + (nn : Int)) = (K : Int) + (nn : Int) := IntWalk.i64_in _ (by omega)
        have hNz : N.size ≤ maxLen := by rw [hN, ByteArray.size_extract]; unfold maxLen; omega
        have cN := fun w => refNumber_any N w hNz
        have cF := fun (w2 : World) (h2 : RS w2 rb s K (v + 1) 0 0) => rFail_any rb s K (v + 1) 0 K 22 w2 h2
        clear hN
        obtain ⟨c0, c1, c2, c3, c4⟩ := hR1.cells
        have f1 := hR1.frozen 1
        have l48 : (48 : Int) ≤ x := by omega
        have u57 : x ≤ (57 : Int) := by omega
        have e34 : (x == 34) = false := beq_false_of_ne (by omega)
        have e45 : (x == 45) = false := beq_false_of_ne (by omega)
        clear hxr d0 d1
        by_cases hn1 : numS N = true
        · skip
          have HXO : Hid (X = .ok (.mk 4 N [] [], K + nn, v + 1)) := Lib.hid (by rw [HXN.out, if_pos (show numL N.data.toList = true from hn1)])
          have hN4 : numS N = true := hn1
          rw [hN4] at cN
          clear hN4 hn1 HXN
          go_wp2_with fail
          go_region_with (go_at_call 68; refine (cR _).mono ?_; rintro e w1 ⟨rfl, rfl⟩)
          all_goals go_wp2_with fail
          all_goals go_quiet (fail)
          all_goals go_wp2_with (go_at_call 55; refine (cN _).mono ?_; rintro e w1 ⟨rfl, rfl⟩)
          all_goals
            have hA3 := hA1.go (((GB.refl rb W1).drewN (1 + nq)).set 1 (.int .i64 ((K : Int) + (nn : Int))))
            have h3 : RS ((W1.drewN (1 + nq)).setCell ⟨rb, 1, none⟩ (.int .i64 ((K : Int) + (nn : Int)))) rb s (K + nn) (v + 1) 0 0 := (hR1.drewN (1 + nq)).s1 (K + nn)
            have hRBq := hA3.res.set4 (.int .u8 4) (.string N) (.slice none 0 0) (.slice none 0 0)
            have hGq : GB rb w (((((((W1.drewN (1 + nq)).setCell ⟨rb, 1, none⟩ (.int .i64 ((K : Int) + (nn : Int))))).setCell ⟨w.heap.size, 0, none⟩ (.int .u8 4)).setCell ⟨w.heap.size, 1, none⟩ (.string N)).setCell ⟨w.heap.size, 2, none⟩ (.slice none 0 0)).setCell ⟨w.heap.size, 3, none⟩ (.slice none 0 0)) := hA3.gb.set4 (Nat.le_refl _) _ _ _ _
            have hEq : ∀ j, j ≠ w.heap.size → (((((((W1.drewN (1 + nq)).setCell ⟨rb, 1, none⟩ (.int .i64 ((K : Int) + (nn : Int))))).setCell ⟨w.heap.size, 0, none⟩ (.int .u8 4)).setCell ⟨w.heap.size, 1, none⟩ (.string N)).setCell ⟨w.heap.size, 2, none⟩ (.slice none 0 0)).setCell ⟨w.heap.size, 3, none⟩ (.slice none 0 0)).heap[j]? = (((W1.drewN (1 + nq)).setCell ⟨rb, 1, none⟩ (.int .i64 ((K : Int) + (nn : Int))))).heap[j]? := fun j hj => set4_heap ((W1.drewN (1 + nq)).setCell ⟨rb, 1, none⟩ (.int .i64 ((K : Int) + (nn : Int)))) _ _ _ _ _ _ _ _ _ j hj
            have hRq : RS (((((((W1.drewN (1 + nq)).setCell ⟨rb, 1, none⟩ (.int .i64 ((K : Int) + (nn : Int))))).setCell ⟨w.heap.size, 0, none⟩ (.int .u8 4)).setCell ⟨w.heap.size, 1, none⟩ (.string N)).setCell ⟨w.heap.size, 2, none⟩ (.slice none 0 0)).setCell ⟨w.heap.size, 3, none⟩ (.slice none 0 0)) rb s (K + nn) (v + 1) 0 0 := (hEq rb (by have := hA3.lt; omega)).trans h3
            have hVq := leafV (w := (((((((W1.drewN (1 + nq)).setCell ⟨rb, 1, none⟩ (.int .i64 ((K : Int) + (nn : Int))))).setCell ⟨w.heap.size, 0, none⟩ (.int .u8 4)).setCell ⟨w.heap.size, 1, none⟩ (.string N)).setCell ⟨w.heap.size, 2, none⟩ (.slice none 0 0)).setCell ⟨w.heap.size, 3, none⟩ (.slice none 0 0))) w.heap.size 4 N
            clear hA3
            generalize (((((((W1.drewN (1 + nq)).setCell ⟨rb, 1, none⟩ (.int .i64 ((K : Int) + (nn : Int))))).setCell ⟨w.heap.size, 0, none⟩ (.int .u8 4)).setCell ⟨w.heap.size, 1, none⟩ (.string N)).setCell ⟨w.heap.size, 2, none⟩ (.slice none 0 0)).setCell ⟨w.heap.size, 3, none⟩ (.slice none 0 0)) = wE at *
            obtain ⟨z0, z1, z2, z3⟩ := hRBq.cells
            refine bodyPost_ret (v := .agg #[.int .u8 4, .string N, .slice none 0 0, .slice none 0 0]) ?_ rfl ?_
            · simp [results, Tryz.results34, go_sem, z0, z1, z2, z3]
            · rw [HXO.out]; exact ⟨hGq, _, _, _, _, _, _, _, _, _, rfl, hVq, rfl, hRq⟩
        · skip
          have HXO : Hid (X = .error (K, 22)) := Lib.hid (by rw [HXN.out, if_neg (show ¬ numL N.data.toList = true from hn1)])
          have hN4 : numS N = false := Bool.eq_false_iff.2 hn1
          rw [hN4] at cN
          clear hN4 hn1 HXN
          go_wp2_with fail
          go_region_with (go_at_call 68; refine (cR _).mono ?_; rintro e w1 ⟨rfl, rfl⟩)
          all_goals go_wp2_with fail
          all_goals go_quiet (fail)
          all_goals go_wp2_with (first
            | (go_at_call 55; refine (cN _).mono ?_; rintro e w1 ⟨rfl, rfl⟩)
            | (go_at_call 37; refine (cF _ (hR1.drewN _)).mono ?_; rintro e w3 ⟨rfl, h3, g3⟩; have hA3 := (hA1.go ((GB.refl rb W1).drewN _)).go g3; clear c0 c1 c2 c3 c4 f1; obtain ⟨c0, c1, c2, c3, c4⟩ := h3.cells; have f1 := h3.frozen 1; obtain ⟨r0, r1, r2, r3⟩ := hA3.res.cells; obtain ⟨u0, u1, u2, u3⟩ := hA3.res.frozen))
          all_goals
            have hA4 := hA3.go ((GB.refl rb w3).set 1 (.int .i64 ((K : Int) + (nn : Int))))
            have h4 : RS (w3.setCell ⟨rb, 1, none⟩ (.int .i64 ((K : Int) + (nn : Int)))) rb s (K + nn) (v + 1) K 22 := h3.s1 (K + nn)
            have hRBq := hA4.res.set4 (.int .u8 4) (.string N) (.slice none 0 0) (.slice none 0 0)
            have hGq : GB rb w ((((((w3.setCell ⟨rb, 1, none⟩ (.int .i64 ((K : Int) + (nn : Int))))).setCell ⟨w.heap.size, 0, none⟩ (.int .u8 4)).setCell ⟨w.heap.size, 1, none⟩ (.string N)).setCell ⟨w.heap.size, 2, none⟩ (.slice none 0 0)).setCell ⟨w.heap.size, 3, none⟩ (.slice none 0 0)) := hA4.gb.set4 (Nat.le_refl _) _ _ _ _
            have hEq : ∀ j, j ≠ w.heap.size → ((((((w3.setCell ⟨rb, 1, none⟩ (.int .i64 ((K : Int) + (nn : Int))))).setCell ⟨w.heap.size, 0, none⟩ (.int .u8 4)).setCell ⟨w.heap.size, 1, none⟩ (.string N)).setCell ⟨w.heap.size, 2, none⟩ (.slice none 0 0)).setCell ⟨w.heap.size, 3, none⟩ (.slice none 0 0)).heap[j]? = ((w3.setCell ⟨rb, 1, none⟩ (.int .i64 ((K : Int) + (nn : Int))))).heap[j]? := fun j hj => set4_heap (w3.setCell ⟨rb, 1, none⟩ (.int .i64 ((K : Int) + (nn : Int)))) _ _ _ _ _ _ _ _ _ j hj
            have hRq : RS ((((((w3.setCell ⟨rb, 1, none⟩ (.int .i64 ((K : Int) + (nn : Int))))).setCell ⟨w.heap.size, 0, none⟩ (.int .u8 4)).setCell ⟨w.heap.size, 1, none⟩ (.string N)).setCell ⟨w.heap.size, 2, none⟩ (.slice none 0 0)).setCell ⟨w.heap.size, 3, none⟩ (.slice none 0 0)) rb s (K + nn) (v + 1) K 22 := (hEq rb (by have := hA4.lt; omega)).trans h4
            have hVq := leafV (w := ((((((w3.setCell ⟨rb, 1, none⟩ (.int .i64 ((K : Int) + (nn : Int))))).setCell ⟨w.heap.size, 0, none⟩ (.int .u8 4)).setCell ⟨w.heap.size, 1, none⟩ (.string N)).setCell ⟨w.heap.size, 2, none⟩ (.slice none 0 0)).setCell ⟨w.heap.size, 3, none⟩ (.slice none 0 0))) w.heap.size 4 N
            clear hA4
            generalize ((((((w3.setCell ⟨rb, 1, none⟩ (.int .i64 ((K : Int) + (nn : Int))))).setCell ⟨w.heap.size, 0, none⟩ (.int .u8 4)).setCell ⟨w.heap.size, 1, none⟩ (.string N)).setCell ⟨w.heap.size, 2, none⟩ (.slice none 0 0)).setCell ⟨w.heap.size, 3, none⟩ (.slice none 0 0)) = wE at *
            obtain ⟨z0, z1, z2, z3⟩ := hRBq.cells
            refine bodyPost_ret (v := .agg #[.int .u8 4, .string N, .slice none 0 0, .slice none 0 0]) ?_ rfl ?_
            · simp [results, Tryz.results34, go_sem, z0, z1, z2, z3]
            · rw [HXO.out]; exact ⟨hGq, _, _, _, _, _, _, _, _, _, rfl, hVq, _, _, hRq⟩
      have hcn : ¬ (s[K] = 45 ∨ pDigit (s[K].toNat : Nat) = true) := by
        rw [← hx]
        rintro (e | e)
        · exact h45 (by rw [hx, e]; rfl)
        · unfold pDigit at e
          rw [Bool.and_eq_true, decide_eq_true_eq, decide_eq_true_eq] at e
          exact hd e
      have e34 : (x == 34) = false := beq_false_of_ne h34
      have e45 : (x == 45) = false := beq_false_of_ne h45
      by_cases hl : 97 ≤ x ∧ x ≤ 122
      · obtain ⟨l97, u122⟩ := hl
        have hlc : pLetter (s[K].toNat : Nat) = true := by rw [← hx]; unfold pLetter; rw [decide_eq_true l97, decide_eq_true u122]; rfl
        have l48 : (48 : Int) ≤ x := by omega
        have u57 : ¬ x ≤ (57 : Int) := by omega
        have hXW := hX.trans (val_word hby hvm hcn hlc)
        rw [hK] at hXW
        have cW := rWord_any rb s K (v + 1) W1 hR1 hs hKb.2
        generalize spanL pLetter (s.data.toList.drop K) = nn at *
        generalize wordK ((s.data.toList.drop K).take nn) = r at *
        have HX := Lib.hid hXW
        clear hXW hX hby hun hx hK hcn hlc hxr hd h34 h45
        go_wp2_with (go_at_call 69; refine cW.mono ?_; rintro e w3 ⟨hT0, g3⟩; obtain ⟨k, rfl, hT⟩ := word_end hT0; clear hT0; have hA3 := hA1.go g3; obtain ⟨r0, r1, r2, r3⟩ := hA3.res.cells; obtain ⟨u0, u1, u2, u3⟩ := hA3.res.frozen)
        rcases hT with ⟨hr, h3⟩ | ⟨hr, h3⟩
        · have HX2 : Hid (X = .ok (.mk k noText [] [], K + nn, v + 1)) := Lib.hid (by rw [HX.out, hr])
          have hRBq := hA3.res.set4 (.int .u8 (k : Nat)) (.string ⟨#[]⟩) (.slice none 0 0) (.slice none 0 0)
          have hGq : GB rb w (((((w3).setCell ⟨w.heap.size, 0, none⟩ (.int .u8 (k : Nat))).setCell ⟨w.heap.size, 1, none⟩ (.string ⟨#[]⟩)).setCell ⟨w.heap.size, 2, none⟩ (.slice none 0 0)).setCell ⟨w.heap.size, 3, none⟩ (.slice none 0 0)) := hA3.gb.set4 (Nat.le_refl _) _ _ _ _
          have hEq : ∀ j, j ≠ w.heap.size → (((((w3).setCell ⟨w.heap.size, 0, none⟩ (.int .u8 (k : Nat))).setCell ⟨w.heap.size, 1, none⟩ (.string ⟨#[]⟩)).setCell ⟨w.heap.size, 2, none⟩ (.slice none 0 0)).setCell ⟨w.heap.size, 3, none⟩ (.slice none 0 0)).heap[j]? = (w3).heap[j]? := fun j hj => set4_heap w3 _ _ _ _ _ _ _ _ _ j hj
          have hRq : RS (((((w3).setCell ⟨w.heap.size, 0, none⟩ (.int .u8 (k : Nat))).setCell ⟨w.heap.size, 1, none⟩ (.string ⟨#[]⟩)).setCell ⟨w.heap.size, 2, none⟩ (.slice none 0 0)).setCell ⟨w.heap.size, 3, none⟩ (.slice none 0 0)) rb s (K + nn) (v + 1) 0 0 := (hEq rb (by have := hA3.lt; omega)).trans h3
          have hVq := leafV (w := (((((w3).setCell ⟨w.heap.size, 0, none⟩ (.int .u8 (k : Nat))).setCell ⟨w.heap.size, 1, none⟩ (.string ⟨#[]⟩)).setCell ⟨w.heap.size, 2, none⟩ (.slice none 0 0)).setCell ⟨w.heap.size, 3, none⟩ (.slice none 0 0))) w.heap.size k ⟨#[]⟩
          clear hA3
          generalize (((((w3).setCell ⟨w.heap.size, 0, none⟩ (.int .u8 (k : Nat))).setCell ⟨w.heap.size, 1, none⟩ (.string ⟨#[]⟩)).setCell ⟨w.heap.size, 2, none⟩ (.slice none 0 0)).setCell ⟨w.heap.size, 3, none⟩ (.slice none 0 0)) = wE at *
          obtain ⟨z0, z1, z2, z3⟩ := hRBq.cells
          refine bodyPost_ret (v := .agg #[.int .u8 (k : Nat), .string ⟨#[]⟩, .slice none 0 0, .slice none 0 0]) ?_ rfl ?_
          · simp [results, Tryz.results34, go_sem, z0, z1, z2, z3]
          · rw [HX2.out]; exact ⟨hGq, _, _, _, _, _, _, _, _, _, rfl, hVq, rfl, hRq⟩
        · have HX2 : Hid (X = .error (K, 20)) := Lib.hid (by rw [HX.out, hr])
          have hRBq := hA3.res.set4 (.int .u8 (k : Nat)) (.string ⟨#[]⟩) (.slice none 0 0) (.slice none 0 0)
          have hGq : GB rb w (((((w3).setCell ⟨w.heap.size, 0, none⟩ (.int .u8 (k : Nat))).setCell ⟨w.heap.size, 1, none⟩ (.string ⟨#[]⟩)).setCell ⟨w.heap.size, 2, none⟩ (.slice none 0 0)).setCell ⟨w.heap.size, 3, none⟩ (.slice none 0 0)) := hA3.gb.set4 (Nat.le_refl _) _ _ _ _
          have hEq : ∀ j, j ≠ w.heap.size → (((((w3).setCell ⟨w.heap.size, 0, none⟩ (.int .u8 (k : Nat))).setCell ⟨w.heap.size, 1, none⟩ (.string ⟨#[]⟩)).setCell ⟨w.heap.size, 2, none⟩ (.slice none 0 0)).setCell ⟨w.heap.size, 3, none⟩ (.slice none 0 0)).heap[j]? = (w3).heap[j]? := fun j hj => set4_heap w3 _ _ _ _ _ _ _ _ _ j hj
          have hRq : RS (((((w3).setCell ⟨w.heap.size, 0, none⟩ (.int .u8 (k : Nat))).setCell ⟨w.heap.size, 1, none⟩ (.string ⟨#[]⟩)).setCell ⟨w.heap.size, 2, none⟩ (.slice none 0 0)).setCell ⟨w.heap.size, 3, none⟩ (.slice none 0 0)) rb s K (v + 1) K 20 := (hEq rb (by have := hA3.lt; omega)).trans h3
          have hVq := leafV (w := (((((w3).setCell ⟨w.heap.size, 0, none⟩ (.int .u8 (k : Nat))).setCell ⟨w.heap.size, 1, none⟩ (.string ⟨#[]⟩)).setCell ⟨w.heap.size, 2, none⟩ (.slice none 0 0)).setCell ⟨w.heap.size, 3, none⟩ (.slice none 0 0))) w.heap.size k ⟨#[]⟩
          clear hA3
          generalize (((((w3).setCell ⟨w.heap.size, 0, none⟩ (.int .u8 (k : Nat))).setCell ⟨w.heap.size, 1, none⟩ (.string ⟨#[]⟩)).setCell ⟨w.heap.size, 2, none⟩ (.slice none 0 0)).setCell ⟨w.heap.size, 3, none⟩ (.slice none 0 0)) = wE at *
          obtain ⟨z0, z1, z2, z3⟩ := hRBq.cells
          refine bodyPost_ret (v := .agg #[.int .u8 (k : Nat), .string ⟨#[]⟩, .slice none 0 0, .slice none 0 0]) ?_ rfl ?_
          · simp [results, Tryz.results34, go_sem, z0, z1, z2, z3]
          · rw [HX2.out]; exact ⟨hGq, _, _, _, _, _, _, _, _, _, rfl, hVq, _, _, hRq⟩
      have hlc : ¬ pLetter (s[K].toNat : Nat) = true := by
        rw [← hx]
        intro e
        unfold pLetter at e
        rw [Bool.and_eq_true, decide_eq_true_eq, decide_eq_true_eq] at e
        exact hl e
      by_cases h91 : x = 91
      · have hc91 := hun 91 h91
        by_cases ho48 : o = 48
        · have HX : Hid (X = .error (K, 26)) := Lib.hid (by rw [hX, val_nest hby hvm (.inl hc91) ho48, hK])
          have cF := fun (w2 : World) (h2 : RS w2 rb s K (v + 1) 0 0) => rFail_any rb s K (v + 1) 0 K 26 w2 h2
          have hoI : (48 : Int) ≤ (o : Int) := by omega
          obtain ⟨c0, c1, c2, c3, c4⟩ := hR1.cells
          subst h91
          clear hX hby hun hx hK hcn hlc ho48 hc91 e34 e45 hxr hd hl
          go_wp2_with (go_at_call 37; refine (cF _ hR1).mono ?_; rintro e w3 ⟨rfl, h3, g3⟩; have hA3 := hA1.go g3; obtain ⟨r0, r1, r2, r3⟩ := hA3.res.cells; obtain ⟨u0, u1, u2, u3⟩ := hA3.res.frozen)
          have hRBq := hA3.res.set4 (.int .u8 0) (.string ⟨#[]⟩) (.slice none 0 0) (.slice none 0 0)
          have hGq : GB rb w (((((w3).setCell ⟨w.heap.size, 0, none⟩ (.int .u8 0)).setCell ⟨w.heap.size, 1, none⟩ (.string ⟨#[]⟩)).setCell ⟨w.heap.size, 2, none⟩ (.slice none 0 0)).setCell ⟨w.heap.size, 3, none⟩ (.slice none 0 0)) := hA3.gb.set4 (Nat.le_refl _) _ _ _ _
          have hEq : ∀ j, j ≠ w.heap.size → (((((w3).setCell ⟨w.heap.size, 0, none⟩ (.int .u8 0)).setCell ⟨w.heap.size, 1, none⟩ (.string ⟨#[]⟩)).setCell ⟨w.heap.size, 2, none⟩ (.slice none 0 0)).setCell ⟨w.heap.size, 3, none⟩ (.slice none 0 0)).heap[j]? = (w3).heap[j]? := fun j hj => set4_heap w3 _ _ _ _ _ _ _ _ _ j hj
          have hRq : RS (((((w3).setCell ⟨w.heap.size, 0, none⟩ (.int .u8 0)).setCell ⟨w.heap.size, 1, none⟩ (.string ⟨#[]⟩)).setCell ⟨w.heap.size, 2, none⟩ (.slice none 0 0)).setCell ⟨w.heap.size, 3, none⟩ (.slice none 0 0)) rb s K (v + 1) K 26 := (hEq rb (by have := hA3.lt; omega)).trans h3
          have hVq := leafV (w := (((((w3).setCell ⟨w.heap.size, 0, none⟩ (.int .u8 0)).setCell ⟨w.heap.size, 1, none⟩ (.string ⟨#[]⟩)).setCell ⟨w.heap.size, 2, none⟩ (.slice none 0 0)).setCell ⟨w.heap.size, 3, none⟩ (.slice none 0 0))) w.heap.size 0 ⟨#[]⟩
          clear hA3
          generalize (((((w3).setCell ⟨w.heap.size, 0, none⟩ (.int .u8 0)).setCell ⟨w.heap.size, 1, none⟩ (.string ⟨#[]⟩)).setCell ⟨w.heap.size, 2, none⟩ (.slice none 0 0)).setCell ⟨w.heap.size, 3, none⟩ (.slice none 0 0)) = wE at *
          obtain ⟨z0, z1, z2, z3⟩ := hRBq.cells
          refine bodyPost_ret (v := .agg #[.int .u8 0, .string ⟨#[]⟩, .slice none 0 0, .slice none 0 0]) ?_ rfl ?_
          · simp [results, Tryz.results34, go_sem, z0, z1, z2, z3]
          · rw [HX.out]; exact ⟨hGq, _, _, _, _, _, _, _, _, _, rfl, hVq, _, _, hRq⟩
        · have hXA := hX.trans (val_array (by rw [hby, hc91]) hvm ho48)
          rw [hK] at hXA
          have hoI : ¬ (48 : Int) ≤ (o : Int) := by omega
          have hoJ : (o : Int) + 1 ≤ 48 := by omega
          obtain ⟨c0, c1, c2, c3, c4⟩ := hR1.cells
          have f1 := hR1.frozen 1
          subst h91
          have HXA := Lib.hid hXA
          clear hXA hX hby hun hx hK hcn hlc hc91 e34 e45 hxr hd hl
          go_upto_region 27 with fail
          have hA2 := hA1.go ((GB.refl rb W1).set 1 (.int .i64 ((K : Int) + 1)))
          have h2 : RS (W1.setCell ⟨rb, 1, none⟩ (.int .i64 ((K : Int) + 1))) rb s (K + 1) (v + 1) 0 0 := hR1.s1 (K + 1)
          clear c0 c1 c2 c3 c4 f1 hA1 hR1 r0 r1 r2 r3 u0 u1 u2 u3
          generalize W1.setCell ⟨rb, 1, none⟩ (.int .i64 ((K : Int) + 1)) = W2 at *
          have hsz2 := hA2.res.lt
          have cA : Calls Tryz.prog 70 #[.pointer (some ⟨rb, 0, none⟩), .int .i64 ((o : Int) + 1)] W2 (VEnd rb s W2 (arrR m s.data.toList (K + 1) (v + 1) (o + 1))) := rArray_any m (fun j hj => IH j (by omega)) rb s (K + 1) (v + 1) (o + 1) W2 hs h2 (by omega) hv1 (by omega) (by omega)
          generalize arrR m s.data.toList (K + 1) (v + 1) (o + 1) = r at *
          go_wp2_with (go_at_call 70; refine cA.mono ?_; rintro e w3 ⟨g3, xv, k1, t1, qa, ql, qc, ra, rl, rc, rfl, hV, hst⟩; have hA3 := hA2.go g3; obtain ⟨r0, r1, r2, r3⟩ := hA3.res.cells; obtain ⟨u0, u1, u2, u3⟩ := hA3.res.frozen)
          have hRBq := hA3.res.set4 (.int .u8 (k1 : Nat)) (.string t1) (.slice qa ql qc) (.slice ra rl rc)
          have hGq : GB rb w (((((w3).setCell ⟨w.heap.size, 0, none⟩ (.int .u8 (k1 : Nat))).setCell ⟨w.heap.size, 1, none⟩ (.string t1)).setCell ⟨w.heap.size, 2, none⟩ (.slice qa ql qc)).setCell ⟨w.heap.size, 3, none⟩ (.slice ra rl rc)) := hA3.gb.set4 (Nat.le_refl _) _ _ _ _
          have hEq : ∀ j, j ≠ w.heap.size → (((((w3).setCell ⟨w.heap.size, 0, none⟩ (.int .u8 (k1 : Nat))).setCell ⟨w.heap.size, 1, none⟩ (.string t1)).setCell ⟨w.heap.size, 2, none⟩ (.slice qa ql qc)).setCell ⟨w.heap.size, 3, none⟩ (.slice ra rl rc)).heap[j]? = (w3).heap[j]? := fun j hj => set4_heap w3 _ _ _ _ _ _ _ _ _ j hj
          have hVq := IsV.stays (w := w3) (w' := (((((w3).setCell ⟨w.heap.size, 0, none⟩ (.int .u8 (k1 : Nat))).setCell ⟨w.heap.size, 1, none⟩ (.string t1)).setCell ⟨w.heap.size, 2, none⟩ (.slice qa ql qc)).setCell ⟨w.heap.size, 3, none⟩ (.slice ra rl rc))) (lo := W2.heap.size) (fun y c hl hy => by rw [World.cell?_of_block (hEq y.block (by omega))]; exact hy) (by omega : w.heap.size ≤ W2.heap.size) _ _ _ _ _ hV
          have hEr := hEq rb (by omega)
          clear hA3
          generalize (((((w3).setCell ⟨w.heap.size, 0, none⟩ (.int .u8 (k1 : Nat))).setCell ⟨w.heap.size, 1, none⟩ (.string t1)).setCell ⟨w.heap.size, 2, none⟩ (.slice qa ql qc)).setCell ⟨w.heap.size, 3, none⟩ (.slice ra rl rc)) = wE at *
          obtain ⟨z0, z1, z2, z3⟩ := hRBq.cells
          refine bodyPost_ret (v := .agg #[.int .u8 (k1 : Nat), .string t1, .slice qa ql qc, .slice ra rl rc]) ?_ rfl ?_
          · simp [results, Tryz.results34, go_sem, z0, z1, z2, z3]
          · rw [HXA.out]; exact ⟨hGq, xv, _, _, _, _, _, _, _, _, rfl, hVq, deep_st hEr hst⟩
      by_cases h123 : x = 123
      · have hc123 := hun 123 h123
        by_cases ho48 : o = 48
        · have HX : Hid (X = .error (K, 26)) := Lib.hid (by rw [hX, val_nest hby hvm (.inr hc123) ho48, hK])
          have cF := fun (w2 : World) (h2 : RS w2 rb s K (v + 1) 0 0) => rFail_any rb s K (v + 1) 0 K 26 w2 h2
          have hoI : (48 : Int) ≤ (o : Int) := by omega
          obtain ⟨c0, c1, c2, c3, c4⟩ := hR1.cells
          subst h123
          clear hX hby hun hx hK hcn hlc ho48 hc123 e34 e45 hxr hd hl
          go_wp2_with (go_at_call 37; refine (cF _ hR1).mono ?_; rintro e w3 ⟨rfl, h3, g3⟩; have hA3 := hA1.go g3; obtain ⟨r0, r1, r2, r3⟩ := hA3.res.cells; obtain ⟨u0, u1, u2, u3⟩ := hA3.res.frozen)
          have hRBq := hA3.res.set4 (.int .u8 0) (.string ⟨#[]⟩) (.slice none 0 0) (.slice none 0 0)
          have hGq : GB rb w (((((w3).setCell ⟨w.heap.size, 0, none⟩ (.int .u8 0)).setCell ⟨w.heap.size, 1, none⟩ (.string ⟨#[]⟩)).setCell ⟨w.heap.size, 2, none⟩ (.slice none 0 0)).setCell ⟨w.heap.size, 3, none⟩ (.slice none 0 0)) := hA3.gb.set4 (Nat.le_refl _) _ _ _ _
          have hEq : ∀ j, j ≠ w.heap.size → (((((w3).setCell ⟨w.heap.size, 0, none⟩ (.int .u8 0)).setCell ⟨w.heap.size, 1, none⟩ (.string ⟨#[]⟩)).setCell ⟨w.heap.size, 2, none⟩ (.slice none 0 0)).setCell ⟨w.heap.size, 3, none⟩ (.slice none 0 0)).heap[j]? = (w3).heap[j]? := fun j hj => set4_heap w3 _ _ _ _ _ _ _ _ _ j hj
          have hRq : RS (((((w3).setCell ⟨w.heap.size, 0, none⟩ (.int .u8 0)).setCell ⟨w.heap.size, 1, none⟩ (.string ⟨#[]⟩)).setCell ⟨w.heap.size, 2, none⟩ (.slice none 0 0)).setCell ⟨w.heap.size, 3, none⟩ (.slice none 0 0)) rb s K (v + 1) K 26 := (hEq rb (by have := hA3.lt; omega)).trans h3
          have hVq := leafV (w := (((((w3).setCell ⟨w.heap.size, 0, none⟩ (.int .u8 0)).setCell ⟨w.heap.size, 1, none⟩ (.string ⟨#[]⟩)).setCell ⟨w.heap.size, 2, none⟩ (.slice none 0 0)).setCell ⟨w.heap.size, 3, none⟩ (.slice none 0 0))) w.heap.size 0 ⟨#[]⟩
          clear hA3
          generalize (((((w3).setCell ⟨w.heap.size, 0, none⟩ (.int .u8 0)).setCell ⟨w.heap.size, 1, none⟩ (.string ⟨#[]⟩)).setCell ⟨w.heap.size, 2, none⟩ (.slice none 0 0)).setCell ⟨w.heap.size, 3, none⟩ (.slice none 0 0)) = wE at *
          obtain ⟨z0, z1, z2, z3⟩ := hRBq.cells
          refine bodyPost_ret (v := .agg #[.int .u8 0, .string ⟨#[]⟩, .slice none 0 0, .slice none 0 0]) ?_ rfl ?_
          · simp [results, Tryz.results34, go_sem, z0, z1, z2, z3]
          · rw [HX.out]; exact ⟨hGq, _, _, _, _, _, _, _, _, _, rfl, hVq, _, _, hRq⟩
        · have hXA := hX.trans (val_object (by rw [hby, hc123]) hvm ho48)
          rw [hK] at hXA
          have hoI : ¬ (48 : Int) ≤ (o : Int) := by omega
          have hoJ : (o : Int) + 1 ≤ 48 := by omega
          obtain ⟨c0, c1, c2, c3, c4⟩ := hR1.cells
          have f1 := hR1.frozen 1
          subst h123
          have HXA := Lib.hid hXA
          clear hXA hX hby hun hx hK hcn hlc hc123 e34 e45 hxr hd hl
          go_upto_region 28 with fail
          have hA2 := hA1.go ((GB.refl rb W1).set 1 (.int .i64 ((K : Int) + 1)))
          have h2 : RS (W1.setCell ⟨rb, 1, none⟩ (.int .i64 ((K : Int) + 1))) rb s (K + 1) (v + 1) 0 0 := hR1.s1 (K + 1)
          clear c0 c1 c2 c3 c4 f1 hA1 hR1 r0 r1 r2 r3 u0 u1 u2 u3
          generalize W1.setCell ⟨rb, 1, none⟩ (.int .i64 ((K : Int) + 1)) = W2 at *
          have hsz2 := hA2.res.lt
          have cA : Calls Tryz.prog 71 #[.pointer (some ⟨rb, 0, none⟩), .int .i64 ((o : Int) + 1)] W2 (VEnd rb s W2 (objR m s.data.toList (K + 1) (v + 1) (o + 1))) := rObject_any m (fun j hj => IH j (by omega)) rb s (K + 1) (v + 1) (o + 1) W2 hs h2 (by omega) hv1 (by omega) (by omega)
          generalize objR m s.data.toList (K + 1) (v + 1) (o + 1) = r at *
          go_wp2_with (go_at_call 71; refine cA.mono ?_; rintro e w3 ⟨g3, xv, k1, t1, qa, ql, qc, ra, rl, rc, rfl, hV, hst⟩; have hA3 := hA2.go g3; obtain ⟨r0, r1, r2, r3⟩ := hA3.res.cells; obtain ⟨u0, u1, u2, u3⟩ := hA3.res.frozen)
          have hRBq := hA3.res.set4 (.int .u8 (k1 : Nat)) (.string t1) (.slice qa ql qc) (.slice ra rl rc)
          have hGq : GB rb w (((((w3).setCell ⟨w.heap.size, 0, none⟩ (.int .u8 (k1 : Nat))).setCell ⟨w.heap.size, 1, none⟩ (.string t1)).setCell ⟨w.heap.size, 2, none⟩ (.slice qa ql qc)).setCell ⟨w.heap.size, 3, none⟩ (.slice ra rl rc)) := hA3.gb.set4 (Nat.le_refl _) _ _ _ _
          have hEq : ∀ j, j ≠ w.heap.size → (((((w3).setCell ⟨w.heap.size, 0, none⟩ (.int .u8 (k1 : Nat))).setCell ⟨w.heap.size, 1, none⟩ (.string t1)).setCell ⟨w.heap.size, 2, none⟩ (.slice qa ql qc)).setCell ⟨w.heap.size, 3, none⟩ (.slice ra rl rc)).heap[j]? = (w3).heap[j]? := fun j hj => set4_heap w3 _ _ _ _ _ _ _ _ _ j hj
          have hVq := IsV.stays (w := w3) (w' := (((((w3).setCell ⟨w.heap.size, 0, none⟩ (.int .u8 (k1 : Nat))).setCell ⟨w.heap.size, 1, none⟩ (.string t1)).setCell ⟨w.heap.size, 2, none⟩ (.slice qa ql qc)).setCell ⟨w.heap.size, 3, none⟩ (.slice ra rl rc))) (lo := W2.heap.size) (fun y c hl hy => by rw [World.cell?_of_block (hEq y.block (by omega))]; exact hy) (by omega : w.heap.size ≤ W2.heap.size) _ _ _ _ _ hV
          have hEr := hEq rb (by omega)
          clear hA3
          generalize (((((w3).setCell ⟨w.heap.size, 0, none⟩ (.int .u8 (k1 : Nat))).setCell ⟨w.heap.size, 1, none⟩ (.string t1)).setCell ⟨w.heap.size, 2, none⟩ (.slice qa ql qc)).setCell ⟨w.heap.size, 3, none⟩ (.slice ra rl rc)) = wE at *
          obtain ⟨z0, z1, z2, z3⟩ := hRBq.cells
          refine bodyPost_ret (v := .agg #[.int .u8 (k1 : Nat), .string t1, .slice qa ql qc, .slice ra rl rc]) ?_ rfl ?_
          · simp [results, Tryz.results34, go_sem, z0, z1, z2, z3]
          · rw [HXA.out]; exact ⟨hGq, xv, _, _, _, _, _, _, _, _, rfl, hVq, deep_st hEr hst⟩
      have HX : Hid (X = .error (K, 20)) := Lib.hid (by rw [hX, val_byte hby hvm hcn hlc (fun e => h91 (by rw [hx, e]; rfl)) (fun e => h123 (by rw [hx, e]; rfl)) (fun e => h34 (by rw [hx, e]; rfl)), hK])
      have cF := fun (w2 : World) (h2 : RS w2 rb s K (v + 1) 0 0) => rFail_any rb s K (v + 1) 0 K 20 w2 h2
      have e91 : (x == 91) = false := beq_false_of_ne h91
      have e123 : (x == 123) = false := beq_false_of_ne h123
      have n91 : (x != 91) = true := by rw [bne, e91]; rfl
      have n123 : (x != 123) = true := by rw [bne, e123]; rfl
      obtain ⟨c0, c1, c2, c3, c4⟩ := hR1.cells
      clear hX hby hun hx hK hcn hlc
      by_cases q0 : x < 48
      · have l48 : ¬ (48 : Int) ≤ x := by omega
        have u57 : x ≤ (57 : Int) := by omega
        have l97 : ¬ (97 : Int) ≤ x := by omega
        have u122 : x ≤ (122 : Int) := by omega
        clear hxr hd hl h34 h45 h91 h123 hvm
        go_wp2_with (go_at_call 37; refine (cF _ hR1).mono ?_; rintro e w3 ⟨rfl, h3, g3⟩; have hA3 := hA1.go g3; obtain ⟨r0, r1, r2, r3⟩ := hA3.res.cells; obtain ⟨u0, u1, u2, u3⟩ := hA3.res.frozen)
        have hRBq := hA3.res.set4 (.int .u8 0) (.string ⟨#[]⟩) (.slice none 0 0) (.slice none 0 0)
        have hGq : GB rb w (((((w3).setCell ⟨w.heap.size, 0, none⟩ (.int .u8 0)).setCell ⟨w.heap.size, 1, none⟩ (.string ⟨#[]⟩)).setCell ⟨w.heap.size, 2, none⟩ (.slice none 0 0)).setCell ⟨w.heap.size, 3, none⟩ (.slice none 0 0)) := hA3.gb.set4 (Nat.le_refl _) _ _ _ _
        have hEq : ∀ j, j ≠ w.heap.size → (((((w3).setCell ⟨w.heap.size, 0, none⟩ (.int .u8 0)).setCell ⟨w.heap.size, 1, none⟩ (.string ⟨#[]⟩)).setCell ⟨w.heap.size, 2, none⟩ (.slice none 0 0)).setCell ⟨w.heap.size, 3, none⟩ (.slice none 0 0)).heap[j]? = (w3).heap[j]? := fun j hj => set4_heap w3 _ _ _ _ _ _ _ _ _ j hj
        have hRq : RS (((((w3).setCell ⟨w.heap.size, 0, none⟩ (.int .u8 0)).setCell ⟨w.heap.size, 1, none⟩ (.string ⟨#[]⟩)).setCell ⟨w.heap.size, 2, none⟩ (.slice none 0 0)).setCell ⟨w.heap.size, 3, none⟩ (.slice none 0 0)) rb s K (v + 1) K 20 := (hEq rb (by have := hA3.lt; omega)).trans h3
        have hVq := leafV (w := (((((w3).setCell ⟨w.heap.size, 0, none⟩ (.int .u8 0)).setCell ⟨w.heap.size, 1, none⟩ (.string ⟨#[]⟩)).setCell ⟨w.heap.size, 2, none⟩ (.slice none 0 0)).setCell ⟨w.heap.size, 3, none⟩ (.slice none 0 0))) w.heap.size 0 ⟨#[]⟩
        clear hA3
        generalize (((((w3).setCell ⟨w.heap.size, 0, none⟩ (.int .u8 0)).setCell ⟨w.heap.size, 1, none⟩ (.string ⟨#[]⟩)).setCell ⟨w.heap.size, 2, none⟩ (.slice none 0 0)).setCell ⟨w.heap.size, 3, none⟩ (.slice none 0 0)) = wE at *
        obtain ⟨z0, z1, z2, z3⟩ := hRBq.cells
        refine bodyPost_ret (v := .agg #[.int .u8 0, .string ⟨#[]⟩, .slice none 0 0, .slice none 0 0]) ?_ rfl ?_
        · simp [results, Tryz.results34, go_sem, z0, z1, z2, z3]
        · rw [HX.out]; exact ⟨hGq, _, _, _, _, _, _, _, _, _, rfl, hVq, _, _, hRq⟩
      have l48 : (48 : Int) ≤ x := by omega
      have u57 : ¬ x ≤ (57 : Int) := fun h => hd ⟨l48, h⟩
      by_cases q1 : x < 97
      · have l97 : ¬ (97 : Int) ≤ x := by omega
        have u122 : x ≤ (122 : Int) := by omega
        clear hxr hd hl h34 h45 h91 h123 hvm
        go_wp2_with (go_at_call 37; refine (cF _ hR1).mono ?_; rintro e w3 ⟨rfl, h3, g3⟩; have hA3 := hA1.go g3; obtain ⟨r0, r1, r2, r3⟩ := hA3.res.cells; obtain ⟨u0, u1, u2, u3⟩ := hA3.res.frozen)
        have hRBq := hA3.res.set4 (.int .u8 0) (.string ⟨#[]⟩) (.slice none 0 0) (.slice none 0 0)
        have hGq : GB rb w (((((w3).setCell ⟨w.heap.size, 0, none⟩ (.int .u8 0)).setCell ⟨w.heap.size, 1, none⟩ (.string ⟨#[]⟩)).setCell ⟨w.heap.size, 2, none⟩ (.slice none 0 0)).setCell ⟨w.heap.size, 3, none⟩ (.slice none 0 0)) := hA3.gb.set4 (Nat.le_refl _) _ _ _ _
        have hEq : ∀ j, j ≠ w.heap.size → (((((w3).setCell ⟨w.heap.size, 0, none⟩ (.int .u8 0)).setCell ⟨w.heap.size, 1, none⟩ (.string ⟨#[]⟩)).setCell ⟨w.heap.size, 2, none⟩ (.slice none 0 0)).setCell ⟨w.heap.size, 3, none⟩ (.slice none 0 0)).heap[j]? = (w3).heap[j]? := fun j hj => set4_heap w3 _ _ _ _ _ _ _ _ _ j hj
        have hRq : RS (((((w3).setCell ⟨w.heap.size, 0, none⟩ (.int .u8 0)).setCell ⟨w.heap.size, 1, none⟩ (.string ⟨#[]⟩)).setCell ⟨w.heap.size, 2, none⟩ (.slice none 0 0)).setCell ⟨w.heap.size, 3, none⟩ (.slice none 0 0)) rb s K (v + 1) K 20 := (hEq rb (by have := hA3.lt; omega)).trans h3
        have hVq := leafV (w := (((((w3).setCell ⟨w.heap.size, 0, none⟩ (.int .u8 0)).setCell ⟨w.heap.size, 1, none⟩ (.string ⟨#[]⟩)).setCell ⟨w.heap.size, 2, none⟩ (.slice none 0 0)).setCell ⟨w.heap.size, 3, none⟩ (.slice none 0 0))) w.heap.size 0 ⟨#[]⟩
        clear hA3
        generalize (((((w3).setCell ⟨w.heap.size, 0, none⟩ (.int .u8 0)).setCell ⟨w.heap.size, 1, none⟩ (.string ⟨#[]⟩)).setCell ⟨w.heap.size, 2, none⟩ (.slice none 0 0)).setCell ⟨w.heap.size, 3, none⟩ (.slice none 0 0)) = wE at *
        obtain ⟨z0, z1, z2, z3⟩ := hRBq.cells
        refine bodyPost_ret (v := .agg #[.int .u8 0, .string ⟨#[]⟩, .slice none 0 0, .slice none 0 0]) ?_ rfl ?_
        · simp [results, Tryz.results34, go_sem, z0, z1, z2, z3]
        · rw [HX.out]; exact ⟨hGq, _, _, _, _, _, _, _, _, _, rfl, hVq, _, _, hRq⟩
      · have l97 : (97 : Int) ≤ x := by omega
        have u122 : ¬ x ≤ (122 : Int) := fun h => hl ⟨l97, h⟩
        clear hxr hd hl h34 h45 h91 h123 hvm
        go_wp2_with (go_at_call 37; refine (cF _ hR1).mono ?_; rintro e w3 ⟨rfl, h3, g3⟩; have hA3 := hA1.go g3; obtain ⟨r0, r1, r2, r3⟩ := hA3.res.cells; obtain ⟨u0, u1, u2, u3⟩ := hA3.res.frozen)
        have hRBq := hA3.res.set4 (.int .u8 0) (.string ⟨#[]⟩) (.slice none 0 0) (.slice none 0 0)
        have hGq : GB rb w (((((w3).setCell ⟨w.heap.size, 0, none⟩ (.int .u8 0)).setCell ⟨w.heap.size, 1, none⟩ (.string ⟨#[]⟩)).setCell ⟨w.heap.size, 2, none⟩ (.slice none 0 0)).setCell ⟨w.heap.size, 3, none⟩ (.slice none 0 0)) := hA3.gb.set4 (Nat.le_refl _) _ _ _ _
        have hEq : ∀ j, j ≠ w.heap.size → (((((w3).setCell ⟨w.heap.size, 0, none⟩ (.int .u8 0)).setCell ⟨w.heap.size, 1, none⟩ (.string ⟨#[]⟩)).setCell ⟨w.heap.size, 2, none⟩ (.slice none 0 0)).setCell ⟨w.heap.size, 3, none⟩ (.slice none 0 0)).heap[j]? = (w3).heap[j]? := fun j hj => set4_heap w3 _ _ _ _ _ _ _ _ _ j hj
        have hRq : RS (((((w3).setCell ⟨w.heap.size, 0, none⟩ (.int .u8 0)).setCell ⟨w.heap.size, 1, none⟩ (.string ⟨#[]⟩)).setCell ⟨w.heap.size, 2, none⟩ (.slice none 0 0)).setCell ⟨w.heap.size, 3, none⟩ (.slice none 0 0)) rb s K (v + 1) K 20 := (hEq rb (by have := hA3.lt; omega)).trans h3
        have hVq := leafV (w := (((((w3).setCell ⟨w.heap.size, 0, none⟩ (.int .u8 0)).setCell ⟨w.heap.size, 1, none⟩ (.string ⟨#[]⟩)).setCell ⟨w.heap.size, 2, none⟩ (.slice none 0 0)).setCell ⟨w.heap.size, 3, none⟩ (.slice none 0 0))) w.heap.size 0 ⟨#[]⟩
        clear hA3
        generalize (((((w3).setCell ⟨w.heap.size, 0, none⟩ (.int .u8 0)).setCell ⟨w.heap.size, 1, none⟩ (.string ⟨#[]⟩)).setCell ⟨w.heap.size, 2, none⟩ (.slice none 0 0)).setCell ⟨w.heap.size, 3, none⟩ (.slice none 0 0)) = wE at *
        obtain ⟨z0, z1, z2, z3⟩ := hRBq.cells
        refine bodyPost_ret (v := .agg #[.int .u8 0, .string ⟨#[]⟩, .slice none 0 0, .slice none 0 0]) ?_ rfl ?_
        · simp [results, Tryz.results34, go_sem, z0, z1, z2, z3]
        · rw [HX.out]; exact ⟨hGq, _, _, _, _, _, _, _, _, _, rfl, hVq, _, _, hRq⟩
  · have hKe : K = s.size := by omega
    subst hKe
    have cH := rHere_end rb s a v W hR0 hs' ha hK
    have HX : Hid (X = .error (s.size, 21)) := Lib.hid (by rw [hX, val_end (by rw [hK]; exact byL_end (by rw [← Lib.size_eq]; exact Nat.le_refl _)), hK])
    clear hX hK
    go_wp2_with (first
      | (go_at_call 66; refine cH.mono ?_; rintro e w1 ⟨rfl, h1, g1⟩)
      | (go_at_call 36; refine (rOk_any rb s s.size v s.size 21 _ h1).mono ?_; rintro e w2 ⟨rfl, rfl⟩; have hA1 := hA0.go g1; obtain ⟨r0, r1, r2, r3⟩ := hA1.res.cells; obtain ⟨u0, u1, u2, u3⟩ := hA1.res.frozen))
    have hRBq := hA1.res.set4 (.int .u8 0) (.string ⟨#[]⟩) (.slice none 0 0) (.slice none 0 0)
    have hGq : GB rb w (((((w2).setCell ⟨w.heap.size, 0, none⟩ (.int .u8 0)).setCell ⟨w.heap.size, 1, none⟩ (.string ⟨#[]⟩)).setCell ⟨w.heap.size, 2, none⟩ (.slice none 0 0)).setCell ⟨w.heap.size, 3, none⟩ (.slice none 0 0)) := hA1.gb.set4 (Nat.le_refl _) _ _ _ _
    have hEq : ∀ j, j ≠ w.heap.size → (((((w2).setCell ⟨w.heap.size, 0, none⟩ (.int .u8 0)).setCell ⟨w.heap.size, 1, none⟩ (.string ⟨#[]⟩)).setCell ⟨w.heap.size, 2, none⟩ (.slice none 0 0)).setCell ⟨w.heap.size, 3, none⟩ (.slice none 0 0)).heap[j]? = (w2).heap[j]? := fun j hj => set4_heap w2 _ _ _ _ _ _ _ _ _ j hj
    have hRq : RS (((((w2).setCell ⟨w.heap.size, 0, none⟩ (.int .u8 0)).setCell ⟨w.heap.size, 1, none⟩ (.string ⟨#[]⟩)).setCell ⟨w.heap.size, 2, none⟩ (.slice none 0 0)).setCell ⟨w.heap.size, 3, none⟩ (.slice none 0 0)) rb s s.size v s.size 21 := (hEq rb (by have := hA1.lt; omega)).trans h1
    have hVq := leafV (w := (((((w2).setCell ⟨w.heap.size, 0, none⟩ (.int .u8 0)).setCell ⟨w.heap.size, 1, none⟩ (.string ⟨#[]⟩)).setCell ⟨w.heap.size, 2, none⟩ (.slice none 0 0)).setCell ⟨w.heap.size, 3, none⟩ (.slice none 0 0))) w.heap.size 0 ⟨#[]⟩
    clear hA1
    generalize (((((w2).setCell ⟨w.heap.size, 0, none⟩ (.int .u8 0)).setCell ⟨w.heap.size, 1, none⟩ (.string ⟨#[]⟩)).setCell ⟨w.heap.size, 2, none⟩ (.slice none 0 0)).setCell ⟨w.heap.size, 3, none⟩ (.slice none 0 0)) = wE at *
    obtain ⟨z0, z1, z2, z3⟩ := hRBq.cells
    refine bodyPost_ret (v := .agg #[.int .u8 0, .string ⟨#[]⟩, .slice none 0 0, .slice none 0 0]) ?_ rfl ?_
    · simp [results, Tryz.results34, go_sem, z0, z1, z2, z3]
    · rw [HX.out]; exact ⟨hGq, _, _, _, _, _, _, _, _, _, rfl, hVq, _, _, hRq⟩
theorem valR (n : Nat) : ValR n := by
  induction n using Nat.strongRecOn with
  | _ n ih => exact rValue_any n ih
end Go.Proofs.YtakdhfjlhkejdaaGreatDoor
