/-
  PLAIN LEAN, no program: what the model decodes at the front of bytes is an encoding there, or a fault; how many bytes and code points at the front of a text are encodings; two texts joined, and one cut. No conditions.
-/
import Derived.Laws.Runes
import Derived.Laws.RangeAny
import Derived.Lib.RuneCount
namespace Go.Proofs.Ytbjlckaedfnggaa
open Go

def encL (c : Int) : List UInt8 := (Utf8.encode c).data.toList
def decL (l : List UInt8) : Nat × Nat := Utf8.decode ⟨l.toArray⟩ 0
def hpL (l : List UInt8) : Bool := l.take 3 == [239, 191, 189]
def brkL (l : List UInt8) : Bool := (decL l).1 == 65533 && !hpL l

theorem get_drop (s : ByteArray) (p k : Nat) : s.get! (p + k) = (ByteArray.mk (s.data.toList.drop p).toArray).get! (0 + k) := by
  simp only [ByteArray.get!, Nat.zero_add]
  simp only [getElem!_def, List.getElem?_toArray, List.getElem?_drop, Array.getElem?_toList]

theorem decode_eq (s : ByteArray) (p : Nat) : Utf8.decode s p = decL (s.data.toList.drop p) := by
  have hs : ∀ k, (decide (p + k < s.size)) = (decide (0 + k < (ByteArray.mk (s.data.toList.drop p).toArray).size)) := by
    intro k
    have e : (ByteArray.mk (s.data.toList.drop p).toArray).size = s.size - p := by
      show (s.data.toList.drop p).toArray.size = _
      simp
    rw [e]
    by_cases h : p + k < s.size
    · rw [decide_eq_true h, decide_eq_true (by omega)]
    · rw [decide_eq_false h, decide_eq_false (by omega)]
  unfold decL Utf8.decode
  simp only [get_drop s p, hs]

theorem dec1 (b0 : UInt8) : decL [b0] = if b0.toNat < 128 then (b0.toNat, 1) else (65533, 1) := by
  unfold decL Utf8.decode
  simp [ByteArray.get!, ByteArray.size, Utf8.runeError]
theorem dec2 (b0 b1 : UInt8) : decL [b0, b1] = if b0.toNat < 128 then (b0.toNat, 1) else
    if b0.toNat / 32 = 6 ∧ b1.toNat / 64 = 2 then (if 128 ≤ (b0.toNat % 32) * 64 + b1.toNat % 64 then ((b0.toNat % 32) * 64 + b1.toNat % 64, 2) else (65533, 1)) else (65533, 1) := by
  unfold decL Utf8.decode
  simp [ByteArray.get!, ByteArray.size, Utf8.runeError]
theorem dec3 (b0 b1 b2 : UInt8) : decL [b0, b1, b2] = if b0.toNat < 128 then (b0.toNat, 1) else
    if b0.toNat / 32 = 6 ∧ b1.toNat / 64 = 2 then (if 128 ≤ (b0.toNat % 32) * 64 + b1.toNat % 64 then ((b0.toNat % 32) * 64 + b1.toNat % 64, 2) else (65533, 1)) else
    if b0.toNat / 16 = 14 ∧ b1.toNat / 64 = 2 ∧ b2.toNat / 64 = 2 then
      (if 2048 ≤ (b0.toNat % 16) * 4096 + b1.toNat % 64 * 64 + b2.toNat % 64 ∧ validRune ((b0.toNat % 16) * 4096 + b1.toNat % 64 * 64 + b2.toNat % 64 : Nat) then ((b0.toNat % 16) * 4096 + b1.toNat % 64 * 64 + b2.toNat % 64, 3) else (65533, 1)) else (65533, 1) := by
  unfold decL Utf8.decode
  simp [ByteArray.get!, ByteArray.size, Utf8.runeError, validRune_eq, and_assoc]
theorem dec4 (b0 b1 b2 b3 : UInt8) (t : List UInt8) : decL (b0 :: b1 :: b2 :: b3 :: t) = if b0.toNat < 128 then (b0.toNat, 1) else
    if b0.toNat / 32 = 6 ∧ b1.toNat / 64 = 2 then (if 128 ≤ (b0.toNat % 32) * 64 + b1.toNat % 64 then ((b0.toNat % 32) * 64 + b1.toNat % 64, 2) else (65533, 1)) else
    if b0.toNat / 16 = 14 ∧ b1.toNat / 64 = 2 ∧ b2.toNat / 64 = 2 then
      (if 2048 ≤ (b0.toNat % 16) * 4096 + b1.toNat % 64 * 64 + b2.toNat % 64 ∧ validRune ((b0.toNat % 16) * 4096 + b1.toNat % 64 * 64 + b2.toNat % 64 : Nat) then ((b0.toNat % 16) * 4096 + b1.toNat % 64 * 64 + b2.toNat % 64, 3) else (65533, 1)) else
    if b0.toNat / 8 = 30 ∧ b1.toNat / 64 = 2 ∧ b2.toNat / 64 = 2 ∧ b3.toNat / 64 = 2 then
      (if 65536 ≤ (b0.toNat % 8) * 262144 + b1.toNat % 64 * 4096 + b2.toNat % 64 * 64 + b3.toNat % 64 ∧ validRune ((b0.toNat % 8) * 262144 + b1.toNat % 64 * 4096 + b2.toNat % 64 * 64 + b3.toNat % 64 : Nat) then ((b0.toNat % 8) * 262144 + b1.toNat % 64 * 4096 + b2.toNat % 64 * 64 + b3.toNat % 64, 4) else (65533, 1)) else (65533, 1) := by
  unfold decL Utf8.decode
  simp [ByteArray.get!, ByteArray.size, Utf8.runeError, validRune_eq, and_assoc]

theorem encA (c : Int) (hv : Utf8.valid c = true) : encL c = if c.toNat < 0x80 then [UInt8.ofNat c.toNat]
  else if c.toNat < 0x800 then [UInt8.ofNat (192 + c.toNat / 64), UInt8.ofNat (128 + c.toNat % 64)]
  else if c.toNat < 0x10000 then [UInt8.ofNat (224 + c.toNat / 4096), UInt8.ofNat (128 + c.toNat / 64 % 64), UInt8.ofNat (128 + c.toNat % 64)]
  else [UInt8.ofNat (240 + c.toNat / 262144), UInt8.ofNat (128 + c.toNat / 4096 % 64), UInt8.ofNat (128 + c.toNat / 64 % 64), UInt8.ofNat (128 + c.toNat % 64)] := by
  unfold encL Utf8.encode
  rw [hv]
  generalize c.toNat = n
  simp only [if_true]
  split
  · rfl
  · split
    · rfl
    · split <;> rfl
theorem vr_mk {c : Nat} (h : c < 55296 ∨ (57343 < c ∧ c ≤ 1114111)) : validRune (c : Int) = true := by
  unfold validRune
  exact decide_eq_true (by omega)
theorem vr_lt {c : Nat} (h : validRune (c : Int) = true) : c ≤ 1114111 ∧ (c < 55296 ∨ 57343 < c) := by
  unfold validRune at h
  have := of_decide_eq_true h
  omega
theorem enc1 (c : Nat) (h : c < 128) : encL c = [UInt8.ofNat c] := by
  rw [encA _ (by rw [validRune_eq]; exact vr_mk (by omega)), Int.toNat_natCast, if_pos h]
theorem enc2 (c : Nat) (h0 : 128 ≤ c) (h : c < 2048) : encL c = [UInt8.ofNat (192 + c / 64), UInt8.ofNat (128 + c % 64)] := by
  rw [encA _ (by rw [validRune_eq]; exact vr_mk (by omega)), Int.toNat_natCast, if_neg (by omega), if_pos h]
theorem enc3 (c : Nat) (h0 : 2048 ≤ c) (h : c < 65536) (hv : validRune c = true) : encL c = [UInt8.ofNat (224 + c / 4096), UInt8.ofNat (128 + c / 64 % 64), UInt8.ofNat (128 + c % 64)] := by
  rw [encA _ (by rw [validRune_eq]; exact hv), Int.toNat_natCast, if_neg (by omega), if_neg (by omega), if_pos h]
theorem enc4 (c : Nat) (h0 : 65536 ≤ c) (hv : validRune c = true) : encL c = [UInt8.ofNat (240 + c / 262144), UInt8.ofNat (128 + c / 4096 % 64), UInt8.ofNat (128 + c / 64 % 64), UInt8.ofNat (128 + c % 64)] := by
  rw [encA _ (by rw [validRune_eq]; exact hv), Int.toNat_natCast, if_neg (by omega), if_neg (by omega), if_neg (by omega)]

theorem ofNat_toNat' (n : Nat) (h : n < 256) : (UInt8.ofNat n).toNat = n := by
  simp [UInt8.toNat_ofNat']
  omega

/-- the four shapes of a code point's encoding -/
theorem enc_len (c : Nat) (hv : validRune c = true) : (encL c).length = if c < 128 then 1 else if c < 2048 then 2 else if c < 65536 then 3 else 4 := by
  by_cases h1 : c < 128
  · rw [enc1 c h1, if_pos h1]; rfl
  · by_cases h2 : c < 2048
    · rw [enc2 c (by omega) h2, if_neg h1, if_pos h2]; rfl
    · by_cases h3 : c < 65536
      · rw [enc3 c (by omega) h3 hv, if_neg h1, if_neg h2, if_pos h3]; rfl
      · rw [enc4 c (by omega) hv, if_neg h1, if_neg h2, if_neg h3]; rfl

theorem enc_pos (c : Nat) (hv : validRune c = true) : 1 ≤ (encL c).length ∧ (encL c).length ≤ 4 := by
  rw [enc_len c hv]
  split
  · omega
  · split
    · omega
    · split <;> omega

theorem dec_any1 (b0 : UInt8) (t : List UInt8) (h : b0.toNat < 128) : decL (b0 :: t) = (b0.toNat, 1) := by
  rcases t with _ | ⟨b1, _ | ⟨b2, _ | ⟨b3, t⟩⟩⟩
  · rw [dec1, if_pos h]
  · rw [dec2, if_pos h]
  · rw [dec3, if_pos h]
  · rw [dec4, if_pos h]
theorem dec_any2 (b0 b1 : UInt8) (t : List UInt8) (h : b0.toNat / 32 = 6 ∧ b1.toNat / 64 = 2) : decL (b0 :: b1 :: t) =
    if 128 ≤ (b0.toNat % 32) * 64 + b1.toNat % 64 then ((b0.toNat % 32) * 64 + b1.toNat % 64, 2) else (65533, 1) := by
  have h0 : ¬ b0.toNat < 128 := by omega
  rcases t with _ | ⟨b2, _ | ⟨b3, t⟩⟩
  · rw [dec2, if_neg h0, if_pos h]
  · rw [dec3, if_neg h0, if_pos h]
  · rw [dec4, if_neg h0, if_pos h]
theorem dec_any3 (b0 b1 b2 : UInt8) (t : List UInt8) (h : b0.toNat / 16 = 14 ∧ b1.toNat / 64 = 2 ∧ b2.toNat / 64 = 2) : decL (b0 :: b1 :: b2 :: t) =
      (if 2048 ≤ (b0.toNat % 16) * 4096 + b1.toNat % 64 * 64 + b2.toNat % 64 ∧ validRune ((b0.toNat % 16) * 4096 + b1.toNat % 64 * 64 + b2.toNat % 64 : Nat) then ((b0.toNat % 16) * 4096 + b1.toNat % 64 * 64 + b2.toNat % 64, 3) else (65533, 1)) := by
  have h0 : ¬ b0.toNat < 128 := by omega
  have h1 : ¬ (b0.toNat / 32 = 6 ∧ b1.toNat / 64 = 2) := by omega
  rcases t with _ | ⟨b3, t⟩
  · rw [dec3, if_neg h0, if_neg h1, if_pos h]
  · rw [dec4, if_neg h0, if_neg h1, if_pos h]
theorem dec_any4 (b0 b1 b2 b3 : UInt8) (t : List UInt8) (h : b0.toNat / 8 = 30 ∧ b1.toNat / 64 = 2 ∧ b2.toNat / 64 = 2 ∧ b3.toNat / 64 = 2) : decL (b0 :: b1 :: b2 :: b3 :: t) =
      (if 65536 ≤ (b0.toNat % 8) * 262144 + b1.toNat % 64 * 4096 + b2.toNat % 64 * 64 + b3.toNat % 64 ∧ validRune ((b0.toNat % 8) * 262144 + b1.toNat % 64 * 4096 + b2.toNat % 64 * 64 + b3.toNat % 64 : Nat) then ((b0.toNat % 8) * 262144 + b1.toNat % 64 * 4096 + b2.toNat % 64 * 64 + b3.toNat % 64, 4) else (65533, 1)) := by
  have h0 : ¬ b0.toNat < 128 := by omega
  have h1 : ¬ (b0.toNat / 32 = 6 ∧ b1.toNat / 64 = 2) := by omega
  have h2 : ¬ (b0.toNat / 16 = 14 ∧ b1.toNat / 64 = 2 ∧ b2.toNat / 64 = 2) := by omega
  rw [dec4, if_neg h0, if_neg h1, if_neg h2, if_pos h]

/-- An encoding at the front is what is decoded. -/
theorem dec_enc (c : Nat) (hv : validRune c = true) (t : List UInt8) : decL (encL c ++ t) = (c, (encL c).length) := by
  have hb := vr_lt hv
  by_cases h1 : c < 128
  · rw [enc1 c h1]
    have e0 := ofNat_toNat' c (by omega)
    show decL (UInt8.ofNat c :: t) = _
    rw [dec_any1 _ _ (by omega), e0]; rfl
  · by_cases h2 : c < 2048
    · rw [enc2 c (by omega) h2]
      have e0 := ofNat_toNat' (192 + c / 64) (by omega)
      have e1 := ofNat_toNat' (128 + c % 64) (by omega)
      show decL (UInt8.ofNat (192 + c / 64) :: UInt8.ofNat (128 + c % 64) :: t) = _
      rw [dec_any2 _ _ _ (by omega), e0, e1, if_pos (by omega)]
      have ec : (192 + c / 64) % 32 * 64 + (128 + c % 64) % 64 = c := by omega
      rw [ec]
      rfl
    · by_cases h3 : c < 65536
      · rw [enc3 c (by omega) h3 hv]
        have e0 := ofNat_toNat' (224 + c / 4096) (by omega)
        have e1 := ofNat_toNat' (128 + c / 64 % 64) (by omega)
        have e2 := ofNat_toNat' (128 + c % 64) (by omega)
        show decL (UInt8.ofNat (224 + c / 4096) :: UInt8.ofNat (128 + c / 64 % 64) :: UInt8.ofNat (128 + c % 64) :: t) = _
        have ec : (224 + c / 4096) % 16 * 4096 + (128 + c / 64 % 64) % 64 * 64 + (128 + c % 64) % 64 = c := by omega
        rw [dec_any3 _ _ _ _ (by omega), e0, e1, e2, ec, if_pos ⟨by omega, hv⟩]
        rfl
      · rw [enc4 c (by omega) hv]
        have e0 := ofNat_toNat' (240 + c / 262144) (by omega)
        have e1 := ofNat_toNat' (128 + c / 4096 % 64) (by omega)
        have e2 := ofNat_toNat' (128 + c / 64 % 64) (by omega)
        have e3 := ofNat_toNat' (128 + c % 64) (by omega)
        show decL (UInt8.ofNat (240 + c / 262144) :: UInt8.ofNat (128 + c / 4096 % 64) :: UInt8.ofNat (128 + c / 64 % 64) :: UInt8.ofNat (128 + c % 64) :: t) = _
        have ec : (240 + c / 262144) % 8 * 262144 + (128 + c / 4096 % 64) % 64 * 4096 + (128 + c / 64 % 64) % 64 * 64 + (128 + c % 64) % 64 = c := by omega
        rw [dec_any4 _ _ _ _ _ (by omega), e0, e1, e2, e3, ec, if_pos ⟨by omega, hv⟩]
        rfl

theorem cons_eq {α : Type} {a b : α} {l m : List α} (h : a = b) (k : l = m) : a :: l = b :: m := by rw [h, k]
theorem hp_enc (t : List UInt8) : hpL (encL ((65533 : Nat) : Int) ++ t) = true := by
  rw [enc3 65533 (by omega) (by omega) (vr_mk (by omega))]
  show (List.take 3 (_ :: _ :: _ :: t) == _) = true
  simp only [List.take_succ_cons, List.take_zero]
  decide
theorem brk_enc (c : Nat) (hv : validRune c = true) (t : List UInt8) : brkL (encL c ++ t) = false := by
  unfold brkL
  rw [dec_enc c hv t]
  by_cases h : c = 65533
  · subst h
    rw [hp_enc]
    rfl
  · have : (c == 65533) = false := beq_eq_false_iff_ne.2 h
    simp only [this, Bool.false_and]

theorem toNat_inj {a b : UInt8} (h : a.toNat = b.toNat) : a = b := UInt8.toNat_inj.mp h
theorem is_ofNat {b : UInt8} {n : Nat} (h : b.toNat = n) : b = UInt8.ofNat n := by
  subst h
  simp

theorem hp_ne {b0 : UInt8} {t : List UInt8} (h : b0.toNat ≠ 239) : hpL (b0 :: t) = false := by
  unfold hpL
  rw [beq_eq_false_iff_ne]
  intro e
  rw [List.take_succ_cons] at e
  injection e with e1 _
  exact h (by rw [e1]; rfl)
theorem hp_ne1 {b0 b1 : UInt8} {t : List UInt8} (h : b1.toNat ≠ 191) : hpL (b0 :: b1 :: t) = false := by
  unfold hpL
  rw [beq_eq_false_iff_ne]
  intro e
  rw [List.take_succ_cons, List.take_succ_cons] at e
  injection e with e1 e2
  injection e2 with e3 _
  exact h (by rw [e3]; rfl)
theorem hp_ne2 {b0 b1 b2 : UInt8} {t : List UInt8} (h : b2.toNat ≠ 189) : hpL (b0 :: b1 :: b2 :: t) = false := by
  unfold hpL
  rw [beq_eq_false_iff_ne]
  intro e
  rw [List.take_succ_cons, List.take_succ_cons, List.take_succ_cons] at e
  injection e with e1 e2
  injection e2 with e3 e4
  injection e4 with e5 _
  exact h (by rw [e5]; rfl)
theorem hp_short1 (b0 : UInt8) : hpL [b0] = false := by
  unfold hpL
  rw [beq_eq_false_iff_ne]
  intro e
  injection e with _ e2
  cases e2
theorem hp_short2 (b0 b1 : UInt8) : hpL [b0, b1] = false := by
  unfold hpL
  rw [beq_eq_false_iff_ne]
  intro e
  injection e with _ e2
  injection e2 with _ e3
  cases e3

/-- What is decoded: an encoding at the front, or a fault. -/
theorem dec_cases (l : List UInt8) (hl : l ≠ []) : (∃ (c : Nat) (t : List UInt8), validRune c = true ∧ l = encL c ++ t ∧ decL l = (c, (encL c).length)) ∨ (decL l = (65533, 1) ∧ hpL l = false) := by
  have fin : ∀ (c : Nat) (t : List UInt8), validRune c = true → l = encL c ++ t → (∃ (c : Nat) (t : List UInt8), validRune c = true ∧ l = encL c ++ t ∧ decL l = (c, (encL c).length)) :=
    fun c t hv e => ⟨c, t, hv, e, by rw [e]; exact dec_enc c hv t⟩
  rcases l with _ | ⟨b0, t0⟩
  · exact absurd rfl hl
  have l0 := b0.toNat_lt
  by_cases a : b0.toNat < 128
  · exact .inl (fin b0.toNat t0 (vr_mk (by omega)) (by rw [enc1 _ a]; simp))
  rcases t0 with _ | ⟨b1, t1⟩
  · exact .inr ⟨by rw [dec1, if_neg a], hp_short1 _⟩
  have l1 := b1.toNat_lt
  by_cases a2 : b0.toNat / 32 = 6 ∧ b1.toNat / 64 = 2
  · have hd := dec_any2 b0 b1 t1 a2
    by_cases g : 128 ≤ (b0.toNat % 32) * 64 + b1.toNat % 64
    · refine .inl (fin ((b0.toNat % 32) * 64 + b1.toNat % 64) t1 (vr_mk (by omega)) ?_)
      rw [enc2 _ g (by omega)]
      exact cons_eq (is_ofNat (by omega)) (cons_eq (is_ofNat (by omega)) rfl)
    · rw [if_neg g] at hd
      exact .inr ⟨hd, hp_ne (by omega)⟩
  rcases t1 with _ | ⟨b2, t2⟩
  · exact .inr ⟨by rw [dec2, if_neg a, if_neg a2], hp_short2 _ _⟩
  have l2 := b2.toNat_lt
  by_cases a3 : b0.toNat / 16 = 14 ∧ b1.toNat / 64 = 2 ∧ b2.toNat / 64 = 2
  · have hd := dec_any3 b0 b1 b2 t2 a3
    by_cases g : 2048 ≤ (b0.toNat % 16) * 4096 + b1.toNat % 64 * 64 + b2.toNat % 64 ∧ validRune ((b0.toNat % 16) * 4096 + b1.toNat % 64 * 64 + b2.toNat % 64 : Nat)
    · obtain ⟨g, hv⟩ := g
      refine .inl (fin ((b0.toNat % 16) * 4096 + b1.toNat % 64 * 64 + b2.toNat % 64) t2 hv ?_)
      rw [enc3 _ g (by omega) hv]
      exact cons_eq (is_ofNat (by omega)) (cons_eq (is_ofNat (by omega)) (cons_eq (is_ofNat (by omega)) rfl))
    · rw [if_neg g] at hd
      refine .inr ⟨hd, ?_⟩
      by_cases q0 : b0.toNat = 239
      · by_cases q1 : b1.toNat = 191
        · by_cases q2 : b2.toNat = 189
          · exact absurd ⟨by omega, vr_mk (by omega)⟩ g
          · exact hp_ne2 q2
        · exact hp_ne1 q1
      · exact hp_ne q0
  have hp : hpL (b0 :: b1 :: b2 :: t2) = false := by
    by_cases q0 : b0.toNat = 239
    · by_cases q1 : b1.toNat = 191
      · by_cases q2 : b2.toNat = 189
        · exact absurd ⟨by omega, by omega, by omega⟩ a3
        · exact hp_ne2 q2
      · exact hp_ne1 q1
    · exact hp_ne q0
  rcases t2 with _ | ⟨b3, t3⟩
  · exact .inr ⟨by rw [dec3, if_neg a, if_neg a2, if_neg a3], hp⟩
  have l3 := b3.toNat_lt
  by_cases a4 : b0.toNat / 8 = 30 ∧ b1.toNat / 64 = 2 ∧ b2.toNat / 64 = 2 ∧ b3.toNat / 64 = 2
  · have hd := dec_any4 b0 b1 b2 b3 t3 a4
    by_cases g : 65536 ≤ (b0.toNat % 8) * 262144 + b1.toNat % 64 * 4096 + b2.toNat % 64 * 64 + b3.toNat % 64 ∧ validRune ((b0.toNat % 8) * 262144 + b1.toNat % 64 * 4096 + b2.toNat % 64 * 64 + b3.toNat % 64 : Nat)
    · obtain ⟨g, hv⟩ := g
      refine .inl (fin ((b0.toNat % 8) * 262144 + b1.toNat % 64 * 4096 + b2.toNat % 64 * 64 + b3.toNat % 64) t3 hv ?_)
      rw [enc4 _ g hv]
      exact cons_eq (is_ofNat (by omega)) (cons_eq (is_ofNat (by omega)) (cons_eq (is_ofNat (by omega)) (cons_eq (is_ofNat (by omega)) rfl)))
    · rw [if_neg g] at hd
      exact .inr ⟨hd, hp⟩
  exact .inr ⟨by rw [dec4, if_neg a, if_neg a2, if_neg a3, if_neg a4], hp⟩

/-- the code point whose encoding stands at the front, if there is one -/
def ptL (l : List UInt8) : Option Nat := if l = [] then none else if brkL l then none else some (decL l).1

theorem pt_enc (c : Nat) (hv : validRune c = true) (t : List UInt8) : ptL (encL c ++ t) = some c := by
  unfold ptL
  have hne : encL c ++ t ≠ [] := by
    intro e
    have := congrArg List.length e
    rw [List.length_append] at this
    have hp := enc_pos c hv
    simp only [List.length_nil] at this
    omega
  rw [if_neg hne, brk_enc c hv t, dec_enc c hv t]
  rfl

theorem pt_some {l : List UInt8} {c : Nat} (h : ptL l = some c) : validRune c = true ∧ ∃ t, l = encL c ++ t := by
  unfold ptL at h
  by_cases hl : l = []
  · rw [if_pos hl] at h; cases h
  · rw [if_neg hl] at h
    rcases dec_cases l hl with ⟨d, t, hv, e, hd⟩ | ⟨hd, hp⟩
    · have hb : brkL l = false := by rw [e]; exact brk_enc d hv t
      rw [hb, hd] at h
      injection h with h
      subst h
      exact ⟨hv, t, e⟩
    · have hb : brkL l = true := by unfold brkL; rw [hd, hp]; rfl
      rw [hb] at h
      cases h

/-! ### Texts: how many bytes, and code points, of the front are encodings -/
def lenL : Nat → List UInt8 → Nat
  | 0, _ => 0
  | f + 1, l => match ptL l with
    | none => 0
    | some c => (encL (c : Nat)).length + lenL f (l.drop (encL (c : Nat)).length)
def cntL : Nat → List UInt8 → Nat
  | 0, _ => 0
  | f + 1, l => match ptL l with
    | none => 0
    | some c => 1 + cntL f (l.drop (encL (c : Nat)).length)
def lenF (l : List UInt8) : Nat := lenL l.length l
def cntF (l : List UInt8) : Nat := cntL l.length l

theorem pt_nil : ptL [] = none := rfl
theorem lenL_none {l : List UInt8} (h : ptL l = none) (f : Nat) : lenL f l = 0 := by
  cases f with
  | zero => rfl
  | succ f => simp only [lenL, h]
theorem cntL_none {l : List UInt8} (h : ptL l = none) (f : Nat) : cntL f l = 0 := by
  cases f with
  | zero => rfl
  | succ f => simp only [cntL, h]

theorem pt_drop {l : List UInt8} {c : Nat} (h : ptL l = some c) : 1 ≤ (encL c).length ∧ (encL c).length ≤ l.length ∧ (l.drop (encL c).length).length + (encL c).length = l.length := by
  obtain ⟨hv, t, e⟩ := pt_some h
  have hp := enc_pos c hv
  have hl := congrArg List.length e
  rw [List.length_append] at hl
  rw [List.length_drop]
  omega

theorem fuel (n : Nat) : ∀ (l : List UInt8) (f g : Nat), l.length ≤ n → l.length ≤ f → l.length ≤ g → lenL f l = lenL g l ∧ cntL f l = cntL g l := by
  induction n with
  | zero =>
    intro l f g hl _ _
    have : l = [] := List.eq_nil_of_length_eq_zero (by omega)
    subst this
    rw [lenL_none pt_nil, lenL_none pt_nil, cntL_none pt_nil, cntL_none pt_nil]
    exact ⟨rfl, rfl⟩
  | succ n ih =>
    intro l f g hl hf hg
    cases hp : ptL l with
    | none => rw [lenL_none hp, lenL_none hp, cntL_none hp, cntL_none hp]; exact ⟨rfl, rfl⟩
    | some c =>
      have hd := pt_drop hp
      obtain ⟨f, rfl⟩ : ∃ f', f = f' + 1 := ⟨f - 1, by omega⟩
      obtain ⟨g, rfl⟩ : ∃ g', g = g' + 1 := ⟨g - 1, by omega⟩
      have := ih (l.drop (encL c).length) f g (by omega) (by omega) (by omega)
      simp only [lenL, cntL, hp, this]
      exact ⟨trivial, trivial⟩

theorem lenF_of (l : List UInt8) (f : Nat) (h : l.length ≤ f) : lenL f l = lenF l := (fuel l.length l f l.length (Nat.le_refl _) h (Nat.le_refl _)).1
theorem cntF_of (l : List UInt8) (f : Nat) (h : l.length ≤ f) : cntL f l = cntF l := (fuel l.length l f l.length (Nat.le_refl _) h (Nat.le_refl _)).2

theorem lenF_some {l : List UInt8} {c : Nat} (h : ptL l = some c) : lenF l = (encL c).length + lenF (l.drop (encL c).length) ∧ cntF l = 1 + cntF (l.drop (encL c).length) := by
  have hd := pt_drop h
  rw [← lenF_of l (l.length + 1) (by omega), ← cntF_of l (l.length + 1) (by omega)]
  simp only [lenL, cntL, h]
  rw [lenF_of _ _ (by omega), cntF_of _ _ (by omega)]
  exact ⟨rfl, rfl⟩
theorem lenF_none {l : List UInt8} (h : ptL l = none) : lenF l = 0 ∧ cntF l = 0 := ⟨lenL_none h _, cntL_none h _⟩

theorem strong {P : List UInt8 → Prop} (h : ∀ l : List UInt8, (∀ t : List UInt8, t.length < l.length → P t) → P l) (l : List UInt8) : P l := by
  suffices H : ∀ n (l : List UInt8), l.length ≤ n → P l from H _ l (Nat.le_refl _)
  intro n
  induction n with
  | zero => intro l hl; exact h l fun t ht => by omega
  | succ n ih => intro l hl; exact h l fun t ht => ih t (by omega)

theorem lenF_le (l : List UInt8) : lenF l ≤ l.length := by
  refine strong (P := fun l => lenF l ≤ l.length) ?_ l
  intro l ih
  cases hp : ptL l with
  | none => rw [(lenF_none hp).1]; omega
  | some c =>
    have hd := pt_drop hp
    have := ih (l.drop (encL c).length) (by omega)
    rw [(lenF_some hp).1]
    omega
theorem cntF_le (l : List UInt8) : cntF l ≤ l.length := by
  refine strong (P := fun l => cntF l ≤ l.length) ?_ l
  intro l ih
  cases hp : ptL l with
  | none => rw [(lenF_none hp).2]; omega
  | some c =>
    have hd := pt_drop hp
    have := ih (l.drop (encL c).length) (by omega)
    rw [(lenF_some hp).2]
    omega

/-- behind all that are encodings there is none -/
theorem pt_behind (l : List UInt8) : ptL (l.drop (lenF l)) = none := by
  refine strong (P := fun l => ptL (l.drop (lenF l)) = none) ?_ l
  intro l ih
  cases hp : ptL l with
  | none => rw [(lenF_none hp).1]; exact hp
  | some c =>
    have hd := pt_drop hp
    have := ih (l.drop (encL c).length) (by omega)
    rw [(lenF_some hp).1]
    rw [List.drop_drop] at this
    exact this

/-- a text that is encodings through and through, and another one behind it -/
theorem join (l t : List UInt8) (h : lenF l = l.length) : lenF (l ++ t) = l.length + lenF t ∧ cntF (l ++ t) = cntF l + cntF t := by
  revert h
  refine strong (P := fun l => lenF l = l.length → lenF (l ++ t) = l.length + lenF t ∧ cntF (l ++ t) = cntF l + cntF t) ?_ l
  intro l ih h
  cases hp : ptL l with
  | none =>
    rw [(lenF_none hp).1] at h
    have : l = [] := List.eq_nil_of_length_eq_zero h.symm
    subst this
    rw [(lenF_none hp).2]
    simp
  | some c =>
    have hd := pt_drop hp
    obtain ⟨hv, u, e⟩ := pt_some hp
    have hdu : l.drop (encL c).length = u := by rw [e]; simp
    have hs := lenF_some hp
    have hp2 : ptL (l ++ t) = some c := by rw [e, List.append_assoc]; exact pt_enc c hv _
    have hs2 := lenF_some hp2
    have hdu2 : (l ++ t).drop (encL c).length = u ++ t := by rw [e, List.append_assoc]; simp
    rw [hdu] at hs hd
    rw [hdu2] at hs2
    have hu := ih u (by omega) (by omega)
    omega

/-- what is cut off behind encodings is encodings -/
theorem cut (l : List UInt8) : lenF (l.take (lenF l)) = lenF l ∧ (l.take (lenF l)).length = lenF l := by
  have h2 : (l.take (lenF l)).length = lenF l := by rw [List.length_take]; have := lenF_le l; omega
  refine ⟨?_, h2⟩
  refine strong (P := fun l => lenF (l.take (lenF l)) = lenF l) ?_ l
  intro l ih
  cases hp : ptL l with
  | none => rw [(lenF_none hp).1]; rfl
  | some c =>
    have hd := pt_drop hp
    obtain ⟨hv, u, e⟩ := pt_some hp
    have hs := (lenF_some hp).1
    have hdu : l.drop (encL c).length = u := by rw [e]; simp
    rw [hdu] at hs hd
    have hu := ih u (by omega)
    have ht : l.take (lenF l) = encL c ++ u.take (lenF u) := by
      rw [hs]
      conv => lhs; rw [e]
      rw [List.take_append, List.take_of_length_le (by omega)]
      simp
    rw [ht]
    have hp2 : ptL (encL c ++ u.take (lenF u)) = some c := pt_enc c hv _
    rw [(lenF_some hp2).1]
    simp only [List.drop_left]
    omega

theorem brk_iff (l : List UInt8) (hl : l ≠ []) : (brkL l = true → ptL l = none) ∧ (brkL l = false → ptL l = some (decL l).1 ∧ (decL l).2 = (encL ((decL l).1 : Nat)).length) := by
  unfold ptL
  rw [if_neg hl]
  constructor
  · intro h; rw [if_pos h]
  · intro h
    rw [if_neg (by rw [h]; exact Bool.false_ne_true)]
    refine ⟨rfl, ?_⟩
    rcases dec_cases l hl with ⟨d, t, hv, e, hd⟩ | ⟨hd, hp⟩
    · rw [hd]
    · have hb : brkL l = true := by unfold brkL; rw [hd, hp]; rfl
      rw [hb] at h
      cases h

end Go.Proofs.Ytbjlckaedfnggaa
