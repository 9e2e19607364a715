/-
  TEXTS OF THE SEAT, put together: RunesMath, RunesDefs, RunesBase, JsonBuild, JsonMath, JsonRune, JsonSpec, JsonQuote.
-/
import Derived.Laws.Runes
import Derived.Laws.RangeAny
import Derived.Lib.RuneCount
import Derived.Test.YtakdhfjlhkejdaaGreatDoorProg
import Derived.WalkKit
import Derived.WalkSpells
import Derived.WalkLawsBesides
import Derived.Lib.Walk
import Derived.Lib.Strings
import Derived.Lib.Split
import Derived.Lib.Hide
import Derived.Laws.RangeString
import Derived.LoopTactic
import Derived.Outline
import Derived.Test.YtakdhfjlhkejdaaGreatDoorShelf
import Derived.Laws.Externs
import Derived.Deep.QuietTactic
import Derived.BigQuiet
import Derived.RegionTactic
import Derived.Deep.RegionWith
set_option linter.unusedSimpArgs false
set_option linter.unusedVariables false

/-
  PLAIN LEAN, no program: what the model decodes at the front of bytes is an encoding there, or a fault; how many bytes and code points at the front of a text are encodings; two texts joined, and one cut. No conditions.
-/
namespace Go.Proofs.YtakdhfjlhkejdaaGreatDoor
open Go

def encL (c : Int) : List UInt8 := (Utf8.encode c).data.toList
def decL (l : List UInt8) : Nat × Nat := Utf8.decode ⟨l.toArray⟩ 0
def hpL (l : List UInt8) : Bool := l.take 3 == [239, 191, 189]
def brkL (l : List UInt8) : Bool := (decL l).1 == 65533 && !hpL l

theorem get_drop (s : ByteArray) (p k : Nat) : s.get! (p + k) = (ByteArray.mk (s.data.toList.drop p).toArray).get! (0 + k) := by
  simp only [ByteArray.get!, Nat.zero_add]
  simp only [getElem!_def, List.getElem?_toArray, List.getElem?_drop, Array.getElem?_toList]

theorem decode_eq (s : ByteArray) (p : Nat) : Utf8.decode s p = decL (s.data.toList.drop p) := by
  have hs : ∀ k, (decide (p + k < s.size)) = (decide (0 + k < (ByteArray.mk (s.data.toList.drop p).toArray).size)) := by
    intro k
    have e : (ByteArray.mk (s.data.toList.drop p).toArray).size = s.size - p := by
      show (s.data.toList.drop p).toArray.size = _
      simp
    rw [e]
    by_cases h : p + k < s.size
    · rw [decide_eq_true h, decide_eq_true (by omega)]
    · rw [decide_eq_false h, decide_eq_false (by omega)]
  unfold decL Utf8.decode
  simp only [get_drop s p, hs]

theorem dec1 (b0 : UInt8) : decL [b0] = if b0.toNat < 128 then (b0.toNat, 1) else (65533, 1) := by
  unfold decL Utf8.decode
  simp [ByteArray.get!, ByteArray.size, Utf8.runeError]
theorem dec2 (b0 b1 : UInt8) : decL [b0, b1] = if b0.toNat < 128 then (b0.toNat, 1) else
    if b0.toNat / 32 = 6 ∧ b1.toNat / 64 = 2 then (if 128 ≤ (b0.toNat % 32) * 64 + b1.toNat % 64 then ((b0.toNat % 32) * 64 + b1.toNat % 64, 2) else (65533, 1)) else (65533, 1) := by
  unfold decL Utf8.decode
  simp [ByteArray.get!, ByteArray.size, Utf8.runeError]
theorem dec3 (b0 b1 b2 : UInt8) : decL [b0, b1, b2] = if b0.toNat < 128 then (b0.toNat, 1) else
    if b0.toNat / 32 = 6 ∧ b1.toNat / 64 = 2 then (if 128 ≤ (b0.toNat % 32) * 64 + b1.toNat % 64 then ((b0.toNat % 32) * 64 + b1.toNat % 64, 2) else (65533, 1)) else
    if b0.toNat / 16 = 14 ∧ b1.toNat / 64 = 2 ∧ b2.toNat / 64 = 2 then
      (if 2048 ≤ (b0.toNat % 16) * 4096 + b1.toNat % 64 * 64 + b2.toNat % 64 ∧ validRune ((b0.toNat % 16) * 4096 + b1.toNat % 64 * 64 + b2.toNat % 64 : Nat) then ((b0.toNat % 16) * 4096 + b1.toNat % 64 * 64 + b2.toNat % 64, 3) else (65533, 1)) else (65533, 1) := by
  unfold decL Utf8.decode
  simp [ByteArray.get!, ByteArray.size, Utf8.runeError, validRune_eq, and_assoc]
theorem dec4 (b0 b1 b2 b3 : UInt8) (t : List UInt8) : decL (b0 :: b1 :: b2 :: b3 :: t) = if b0.toNat < 128 then (b0.toNat, 1) else
    if b0.toNat / 32 = 6 ∧ b1.toNat / 64 = 2 then (if 128 ≤ (b0.toNat % 32) * 64 + b1.toNat % 64 then ((b0.toNat % 32) * 64 + b1.toNat % 64, 2) else (65533, 1)) else
    if b0.toNat / 16 = 14 ∧ b1.toNat / 64 = 2 ∧ b2.toNat / 64 = 2 then
      (if 2048 ≤ (b0.toNat % 16) * 4096 + b1.toNat % 64 * 64 + b2.toNat % 64 ∧ validRune ((b0.toNat % 16) * 4096 + b1.toNat % 64 * 64 + b2.toNat % 64 : Nat) then ((b0.toNat % 16) * 4096 + b1.toNat % 64 * 64 + b2.toNat % 64, 3) else (65533, 1)) else
    if b0.toNat / 8 = 30 ∧ b1.toNat / 64 = 2 ∧ b2.toNat / 64 = 2 ∧ b3.toNat / 64 = 2 then
      (if 65536 ≤ (b0.toNat % 8) * 262144 + b1.toNat % 64 * 4096 + b2.toNat % 64 * 64 + b3.toNat % 64 ∧ validRune ((b0.toNat % 8) * 262144 + b1.toNat % 64 * 4096 + b2.toNat % 64 * 64 + b3.toNat % 64 : Nat) then ((b0.toNat % 8) * 262144 + b1.toNat % 64 * 4096 + b2.toNat % 64 * 64 + b3.toNat % 64, 4) else (65533, 1)) else (65533, 1) := by
  unfold decL Utf8.decode
  simp [ByteArray.get!, ByteArray.size, Utf8.runeError, validRune_eq, and_assoc]

theorem encA (c : Int) (hv : Utf8.valid c = true) : encL c = if c.toNat < 0x80 then [UInt8.ofNat c.toNat]
  else if c.toNat < 0x800 then [UInt8.ofNat (192 + c.toNat / 64), UInt8.ofNat (128 + c.toNat % 64)]
  else if c.toNat < 0x10000 then [UInt8.ofNat (224 + c.toNat / 4096), UInt8.ofNat (128 + c.toNat / 64 % 64), UInt8.ofNat (128 + c.toNat % 64)]
  else [UInt8.ofNat (240 + c.toNat / 262144), UInt8.ofNat (128 + c.toNat / 4096 % 64), UInt8.ofNat (128 + c.toNat / 64 % 64), UInt8.ofNat (128 + c.toNat % 64)] := by
  unfold encL Utf8.encode
  rw [hv]
  generalize c.toNat = n
  simp only [if_true]
  split
  · rfl
  · split
    · rfl
    · split <;> rfl
theorem vr_mk {c : Nat} (h : c < 55296 ∨ (57343 < c ∧ c ≤ 1114111)) : validRune (c : Int) = true := by
  unfold validRune
  exact decide_eq_true (by omega)
theorem vr_lt {c : Nat} (h : validRune (c : Int) = true) : c ≤ 1114111 ∧ (c < 55296 ∨ 57343 < c) := by
  unfold validRune at h
  have := of_decide_eq_true h
  omega
theorem enc1 (c : Nat) (h : c < 128) : encL c = [UInt8.ofNat c] := by
  rw [encA _ (by rw [validRune_eq]; exact vr_mk (by omega)), Int.toNat_natCast, if_pos h]
theorem enc2 (c : Nat) (h0 : 128 ≤ c) (h : c < 2048) : encL c = [UInt8.ofNat (192 + c / 64), UInt8.ofNat (128 + c % 64)] := by
  rw [encA _ (by rw [validRune_eq]; exact vr_mk (by omega)), Int.toNat_natCast, if_neg (by omega), if_pos h]
theorem enc3 (c : Nat) (h0 : 2048 ≤ c) (h : c < 65536) (hv : validRune c = true) : encL c = [UInt8.ofNat (224 + c / 4096), UInt8.ofNat (128 + c / 64 % 64), UInt8.ofNat (128 + c % 64)] := by
  rw [encA _ (by rw [validRune_eq]; exact hv), Int.toNat_natCast, if_neg (by omega), if_neg (by omega), if_pos h]
theorem enc4 (c : Nat) (h0 : 65536 ≤ c) (hv : validRune c = true) : encL c = [UInt8.ofNat (240 + c / 262144), UInt8.ofNat (128 + c / 4096 % 64), UInt8.ofNat (128 + c / 64 % 64), UInt8.ofNat (128 + c % 64)] := by
  rw [encA _ (by rw [validRune_eq]; exact hv), Int.toNat_natCast, if_neg (by omega), if_neg (by omega), if_neg (by omega)]

theorem ofNat_toNat' (n : Nat) (h : n < 256) : (UInt8.ofNat n).toNat = n := by
  simp [UInt8.toNat_ofNat']
  omega

/-- the four shapes of a code point's encoding -/
theorem enc_len (c : Nat) (hv : validRune c = true) : (encL c).length = if c < 128 then 1 else if c < 2048 then 2 else if c < 65536 then 3 else 4 := by
  by_cases h1 : c < 128
  · rw [enc1 c h1, if_pos h1]; rfl
  · by_cases h2 : c < 2048
    · rw [enc2 c (by omega) h2, if_neg h1, if_pos h2]; rfl
    · by_cases h3 : c < 65536
      · rw [enc3 c (by omega) h3 hv, if_neg h1, if_neg h2, if_pos h3]; rfl
      · rw [enc4 c (by omega) hv, if_neg h1, if_neg h2, if_neg h3]; rfl

theorem enc_pos (c : Nat) (hv : validRune c = true) : 1 ≤ (encL c).length ∧ (encL c).length ≤ 4 := by
  rw [enc_len c hv]
  split
  · omega
  · split
    · omega
    · split <;> omega

theorem dec_any1 (b0 : UInt8) (t : List UInt8) (h : b0.toNat < 128) : decL (b0 :: t) = (b0.toNat, 1) := by
  rcases t with _ | ⟨b1, _ | ⟨b2, _ | ⟨b3, t⟩⟩⟩
  · rw [dec1, if_pos h]
  · rw [dec2, if_pos h]
  · rw [dec3, if_pos h]
  · rw [dec4, if_pos h]
theorem dec_any2 (b0 b1 : UInt8) (t : List UInt8) (h : b0.toNat / 32 = 6 ∧ b1.toNat / 64 = 2) : decL (b0 :: b1 :: t) =
    if 128 ≤ (b0.toNat % 32) * 64 + b1.toNat % 64 then ((b0.toNat % 32) * 64 + b1.toNat % 64, 2) else (65533, 1) := by
  have h0 : ¬ b0.toNat < 128 := by omega
  rcases t with _ | ⟨b2, _ | ⟨b3, t⟩⟩
  · rw [dec2, if_neg h0, if_pos h]
  · rw [dec3, if_neg h0, if_pos h]
  · rw [dec4, if_neg h0, if_pos h]
theorem dec_any3 (b0 b1 b2 : UInt8) (t : List UInt8) (h : b0.toNat / 16 = 14 ∧ b1.toNat / 64 = 2 ∧ b2.toNat / 64 = 2) : decL (b0 :: b1 :: b2 :: t) =
      (if 2048 ≤ (b0.toNat % 16) * 4096 + b1.toNat % 64 * 64 + b2.toNat % 64 ∧ validRune ((b0.toNat % 16) * 4096 + b1.toNat % 64 * 64 + b2.toNat % 64 : Nat) then ((b0.toNat % 16) * 4096 + b1.toNat % 64 * 64 + b2.toNat % 64, 3) else (65533, 1)) := by
  have h0 : ¬ b0.toNat < 128 := by omega
  have h1 : ¬ (b0.toNat / 32 = 6 ∧ b1.toNat / 64 = 2) := by omega
  rcases t with _ | ⟨b3, t⟩
  · rw [dec3, if_neg h0, if_neg h1, if_pos h]
  · rw [dec4, if_neg h0, if_neg h1, if_pos h]
theorem dec_any4 (b0 b1 b2 b3 : UInt8) (t : List UInt8) (h : b0.toNat / 8 = 30 ∧ b1.toNat / 64 = 2 ∧ b2.toNat / 64 = 2 ∧ b3.toNat / 64 = 2) : decL (b0 :: b1 :: b2 :: b3 :: t) =
      (if 65536 ≤ (b0.toNat % 8) * 262144 + b1.toNat % 64 * 4096 + b2.toNat % 64 * 64 + b3.toNat % 64 ∧ validRune ((b0.toNat % 8) * 262144 + b1.toNat % 64 * 4096 + b2.toNat % 64 * 64 + b3.toNat % 64 : Nat) then ((b0.toNat % 8) * 262144 + b1.toNat % 64 * 4096 + b2.toNat % 64 * 64 + b3.toNat % 64, 4) else (65533, 1)) := by
  have h0 : ¬ b0.toNat < 128 := by omega
  have h1 : ¬ (b0.toNat / 32 = 6 ∧ b1.toNat / 64 = 2) := by omega
  have h2 : ¬ (b0.toNat / 16 = 14 ∧ b1.toNat / 64 = 2 ∧ b2.toNat / 64 = 2) := by omega
  rw [dec4, if_neg h0, if_neg h1, if_neg h2, if_pos h]

/-- An encoding at the front is what is decoded. -/
theorem dec_enc (c : Nat) (hv : validRune c = true) (t : List UInt8) : decL (encL c ++ t) = (c, (encL c).length) := by
  have hb := vr_lt hv
  by_cases h1 : c < 128
  · rw [enc1 c h1]
    have e0 := ofNat_toNat' c (by omega)
    show decL (UInt8.ofNat c :: t) = _
    rw [dec_any1 _ _ (by omega), e0]; rfl
  · by_cases h2 : c < 2048
    · rw [enc2 c (by omega) h2]
      have e0 := ofNat_toNat' (192 + c / 64) (by omega)
      have e1 := ofNat_toNat' (128 + c % 64) (by omega)
      show decL (UInt8.ofNat (192 + c / 64) :: UInt8.ofNat (128 + c % 64) :: t) = _
      rw [dec_any2 _ _ _ (by omega), e0, e1, if_pos (by omega)]
      have ec : (192 + c / 64) % 32 * 64 + (128 + c % 64) % 64 = c := by omega
      rw [ec]
      rfl
    · by_cases h3 : c < 65536
      · rw [enc3 c (by omega) h3 hv]
        have e0 := ofNat_toNat' (224 + c / 4096) (by omega)
        have e1 := ofNat_toNat' (128 + c / 64 % 64) (by omega)
        have e2 := ofNat_toNat' (128 + c % 64) (by omega)
        show decL (UInt8.ofNat (224 + c / 4096) :: UInt8.ofNat (128 + c / 64 % 64) :: UInt8.ofNat (128 + c % 64) :: t) = _
        have ec : (224 + c / 4096) % 16 * 4096 + (128 + c / 64 % 64) % 64 * 64 + (128 + c % 64) % 64 = c := by omega
        rw [dec_any3 _ _ _ _ (by omega), e0, e1, e2, ec, if_pos ⟨by omega, hv⟩]
        rfl
      · rw [enc4 c (by omega) hv]
        have e0 := ofNat_toNat' (240 + c / 262144) (by omega)
        have e1 := ofNat_toNat' (128 + c / 4096 % 64) (by omega)
        have e2 := ofNat_toNat' (128 + c / 64 % 64) (by omega)
        have e3 := ofNat_toNat' (128 + c % 64) (by omega)
        show decL (UInt8.ofNat (240 + c / 262144) :: UInt8.ofNat (128 + c / 4096 % 64) :: UInt8.ofNat (128 + c / 64 % 64) :: UInt8.ofNat (128 + c % 64) :: t) = _
        have ec : (240 + c / 262144) % 8 * 262144 + (128 + c / 4096 % 64) % 64 * 4096 + (128 + c / 64 % 64) % 64 * 64 + (128 + c % 64) % 64 = c := by omega
        rw [dec_any4 _ _ _ _ _ (by omega), e0, e1, e2, e3, ec, if_pos ⟨by omega, hv⟩]
        rfl

theorem cons_eq {α : Type} {a b : α} {l m : List α} (h : a = b) (k : l = m) : a :: l = b :: m := by rw [h, k]
theorem hp_enc (t : List UInt8) : hpL (encL ((65533 : Nat) : Int) ++ t) = true := by
  rw [enc3 65533 (by omega) (by omega) (vr_mk (by omega))]
  show (List.take 3 (_ :: _ :: _ :: t) == _) = true
  simp only [List.take_succ_cons, List.take_zero]
  decide
theorem brk_enc (c : Nat) (hv : validRune c = true) (t : List UInt8) : brkL (encL c ++ t) = false := by
  unfold brkL
  rw [dec_enc c hv t]
  by_cases h : c = 65533
  · subst h
    rw [hp_enc]
    rfl
  · have : (c == 65533) = false := beq_eq_false_iff_ne.2 h
    simp only [this, Bool.false_and]

theorem toNat_inj {a b : UInt8} (h : a.toNat = b.toNat) : a = b := UInt8.toNat_inj.mp h
theorem is_ofNat {b : UInt8} {n : Nat} (h : b.toNat = n) : b = UInt8.ofNat n := by
  subst h
  simp

theorem hp_ne {b0 : UInt8} {t : List UInt8} (h : b0.toNat ≠ 239) : hpL (b0 :: t) = false := by
  unfold hpL
  rw [beq_eq_false_iff_ne]
  intro e
  rw [List.take_succ_cons] at e
  injection e with e1 _
  exact h (by rw [e1]; rfl)
theorem hp_ne1 {b0 b1 : UInt8} {t : List UInt8} (h : b1.toNat ≠ 191) : hpL (b0 :: b1 :: t) = false := by
  unfold hpL
  rw [beq_eq_false_iff_ne]
  intro e
  rw [List.take_succ_cons, List.take_succ_cons] at e
  injection e with e1 e2
  injection e2 with e3 _
  exact h (by rw [e3]; rfl)
theorem hp_ne2 {b0 b1 b2 : UInt8} {t : List UInt8} (h : b2.toNat ≠ 189) : hpL (b0 :: b1 :: b2 :: t) = false := by
  unfold hpL
  rw [beq_eq_false_iff_ne]
  intro e
  rw [List.take_succ_cons, List.take_succ_cons, List.take_succ_cons] at e
  injection e with e1 e2
  injection e2 with e3 e4
  injection e4 with e5 _
  exact h (by rw [e5]; rfl)
theorem hp_short1 (b0 : UInt8) : hpL [b0] = false := by
  unfold hpL
  rw [beq_eq_false_iff_ne]
  intro e
  injection e with _ e2
  cases e2
theorem hp_short2 (b0 b1 : UInt8) : hpL [b0, b1] = false := by
  unfold hpL
  rw [beq_eq_false_iff_ne]
  intro e
  injection e with _ e2
  injection e2 with _ e3
  cases e3

/-- What is decoded: an encoding at the front, or a fault. -/
theorem dec_cases (l : List UInt8) (hl : l ≠ []) : (∃ (c : Nat) (t : List UInt8), validRune c = true ∧ l = encL c ++ t ∧ decL l = (c, (encL c).length)) ∨ (decL l = (65533, 1) ∧ hpL l = false) := by
  have fin : ∀ (c : Nat) (t : List UInt8), validRune c = true → l = encL c ++ t → (∃ (c : Nat) (t : List UInt8), validRune c = true ∧ l = encL c ++ t ∧ decL l = (c, (encL c).length)) :=
    fun c t hv e => ⟨c, t, hv, e, by rw [e]; exact dec_enc c hv t⟩
  rcases l with _ | ⟨b0, t0⟩
  · exact absurd rfl hl
  have l0 := b0.toNat_lt
  by_cases a : b0.toNat < 128
  · exact .inl (fin b0.toNat t0 (vr_mk (by omega)) (by rw [enc1 _ a]; simp))
  rcases t0 with _ | ⟨b1, t1⟩
  · exact .inr ⟨by rw [dec1, if_neg a], hp_short1 _⟩
  have l1 := b1.toNat_lt
  by_cases a2 : b0.toNat / 32 = 6 ∧ b1.toNat / 64 = 2
  · have hd := dec_any2 b0 b1 t1 a2
    by_cases g : 128 ≤ (b0.toNat % 32) * 64 + b1.toNat % 64
    · refine .inl (fin ((b0.toNat % 32) * 64 + b1.toNat % 64) t1 (vr_mk (by omega)) ?_)
      rw [enc2 _ g (by omega)]
      exact cons_eq (is_ofNat (by omega)) (cons_eq (is_ofNat (by omega)) rfl)
    · rw [if_neg g] at hd
      exact .inr ⟨hd, hp_ne (by omega)⟩
  rcases t1 with _ | ⟨b2, t2⟩
  · exact .inr ⟨by rw [dec2, if_neg a, if_neg a2], hp_short2 _ _⟩
  have l2 := b2.toNat_lt
  by_cases a3 : b0.toNat / 16 = 14 ∧ b1.toNat / 64 = 2 ∧ b2.toNat / 64 = 2
  · have hd := dec_any3 b0 b1 b2 t2 a3
    by_cases g : 2048 ≤ (b0.toNat % 16) * 4096 + b1.toNat % 64 * 64 + b2.toNat % 64 ∧ validRune ((b0.toNat % 16) * 4096 + b1.toNat % 64 * 64 + b2.toNat % 64 : Nat)
    · obtain ⟨g, hv⟩ := g
      refine .inl (fin ((b0.toNat % 16) * 4096 + b1.toNat % 64 * 64 + b2.toNat % 64) t2 hv ?_)
      rw [enc3 _ g (by omega) hv]
      exact cons_eq (is_ofNat (by omega)) (cons_eq (is_ofNat (by omega)) (cons_eq (is_ofNat (by omega)) rfl))
    · rw [if_neg g] at hd
      refine .inr ⟨hd, ?_⟩
      by_cases q0 : b0.toNat = 239
      · by_cases q1 : b1.toNat = 191
        · by_cases q2 : b2.toNat = 189
          · exact absurd ⟨by omega, vr_mk (by omega)⟩ g
          · exact hp_ne2 q2
        · exact hp_ne1 q1
      · exact hp_ne q0
  have hp : hpL (b0 :: b1 :: b2 :: t2) = false := by
    by_cases q0 : b0.toNat = 239
    · by_cases q1 : b1.toNat = 191
      · by_cases q2 : b2.toNat = 189
        · exact absurd ⟨by omega, by omega, by omega⟩ a3
        · exact hp_ne2 q2
      · exact hp_ne1 q1
    · exact hp_ne q0
  rcases t2 with _ | ⟨b3, t3⟩
  · exact .inr ⟨by rw [dec3, if_neg a, if_neg a2, if_neg a3], hp⟩
  have l3 := b3.toNat_lt
  by_cases a4 : b0.toNat / 8 = 30 ∧ b1.toNat / 64 = 2 ∧ b2.toNat / 64 = 2 ∧ b3.toNat / 64 = 2
  · have hd := dec_any4 b0 b1 b2 b3 t3 a4
    by_cases g : 65536 ≤ (b0.toNat % 8) * 262144 + b1.toNat % 64 * 4096 + b2.toNat % 64 * 64 + b3.toNat % 64 ∧ validRune ((b0.toNat % 8) * 262144 + b1.toNat % 64 * 4096 + b2.toNat % 64 * 64 + b3.toNat % 64 : Nat)
    · obtain ⟨g, hv⟩ := g
      refine .inl (fin ((b0.toNat % 8) * 262144 + b1.toNat % 64 * 4096 + b2.toNat % 64 * 64 + b3.toNat % 64) t3 hv ?_)
      rw [enc4 _ g hv]
      exact cons_eq (is_ofNat (by omega)) (cons_eq (is_ofNat (by omega)) (cons_eq (is_ofNat (by omega)) (cons_eq (is_ofNat (by omega)) rfl)))
    · rw [if_neg g] at hd
      exact .inr ⟨hd, hp⟩
  exact .inr ⟨by rw [dec4, if_neg a, if_neg a2, if_neg a3, if_neg a4], hp⟩

/-- the code point whose encoding stands at the front, if there is one -/
def ptL (l : List UInt8) : Option Nat := if l = [] then none else if brkL l then none else some (decL l).1

theorem pt_enc (c : Nat) (hv : validRune c = true) (t : List UInt8) : ptL (encL c ++ t) = some c := by
  unfold ptL
  have hne : encL c ++ t ≠ [] := by
    intro e
    have := congrArg List.length e
    rw [List.length_append] at this
    have hp := enc_pos c hv
    simp only [List.length_nil] at this
    omega
  rw [if_neg hne, brk_enc c hv t, dec_enc c hv t]
  rfl

theorem pt_some {l : List UInt8} {c : Nat} (h : ptL l = some c) : validRune c = true ∧ ∃ t, l = encL c ++ t := by
  unfold ptL at h
  by_cases hl : l = []
  · rw [if_pos hl] at h; cases h
  · rw [if_neg hl] at h
    rcases dec_cases l hl with ⟨d, t, hv, e, hd⟩ | ⟨hd, hp⟩
    · have hb : brkL l = false := by rw [e]; exact brk_enc d hv t
      rw [hb, hd] at h
      injection h with h
      subst h
      exact ⟨hv, t, e⟩
    · have hb : brkL l = true := by unfold brkL; rw [hd, hp]; rfl
      rw [hb] at h
      cases h

/-! ### Texts: how many bytes, and code points, of the front are encodings -/
def lenL : Nat → List UInt8 → Nat
  | 0, _ => 0
  | f + 1, l => match ptL l with
    | none => 0
    | some c => (encL (c : Nat)).length + lenL f (l.drop (encL (c : Nat)).length)
def cntL : Nat → List UInt8 → Nat
  | 0, _ => 0
  | f + 1, l => match ptL l with
    | none => 0
    | some c => 1 + cntL f (l.drop (encL (c : Nat)).length)
def lenF (l : List UInt8) : Nat := lenL l.length l
def cntF (l : List UInt8) : Nat := cntL l.length l

theorem pt_nil : ptL [] = none := rfl
theorem lenL_none {l : List UInt8} (h : ptL l = none) (f : Nat) : lenL f l = 0 := by
  cases f with
  | zero => rfl
  | succ f => simp only [lenL, h]
theorem cntL_none {l : List UInt8} (h : ptL l = none) (f : Nat) : cntL f l = 0 := by
  cases f with
  | zero => rfl
  | succ f => simp only [cntL, h]

theorem pt_drop {l : List UInt8} {c : Nat} (h : ptL l = some c) : 1 ≤ (encL c).length ∧ (encL c).length ≤ l.length ∧ (l.drop (encL c).length).length + (encL c).length = l.length := by
  obtain ⟨hv, t, e⟩ := pt_some h
  have hp := enc_pos c hv
  have hl := congrArg List.length e
  rw [List.length_append] at hl
  rw [List.length_drop]
  omega

theorem fuel (n : Nat) : ∀ (l : List UInt8) (f g : Nat), l.length ≤ n → l.length ≤ f → l.length ≤ g → lenL f l = lenL g l ∧ cntL f l = cntL g l := by
  induction n with
  | zero =>
    intro l f g hl _ _
    have : l = [] := List.eq_nil_of_length_eq_zero (by omega)
    subst this
    rw [lenL_none pt_nil, lenL_none pt_nil, cntL_none pt_nil, cntL_none pt_nil]
    exact ⟨rfl, rfl⟩
  | succ n ih =>
    intro l f g hl hf hg
    cases hp : ptL l with
    | none => rw [lenL_none hp, lenL_none hp, cntL_none hp, cntL_none hp]; exact ⟨rfl, rfl⟩
    | some c =>
      have hd := pt_drop hp
      obtain ⟨f, rfl⟩ : ∃ f', f = f' + 1 := ⟨f - 1, by omega⟩
      obtain ⟨g, rfl⟩ : ∃ g', g = g' + 1 := ⟨g - 1, by omega⟩
      have := ih (l.drop (encL c).length) f g (by omega) (by omega) (by omega)
      simp only [lenL, cntL, hp, this]
      exact ⟨trivial, trivial⟩

theorem lenF_of (l : List UInt8) (f : Nat) (h : l.length ≤ f) : lenL f l = lenF l := (fuel l.length l f l.length (Nat.le_refl _) h (Nat.le_refl _)).1
theorem cntF_of (l : List UInt8) (f : Nat) (h : l.length ≤ f) : cntL f l = cntF l := (fuel l.length l f l.length (Nat.le_refl _) h (Nat.le_refl _)).2

theorem lenF_some {l : List UInt8} {c : Nat} (h : ptL l = some c) : lenF l = (encL c).length + lenF (l.drop (encL c).length) ∧ cntF l = 1 + cntF (l.drop (encL c).length) := by
  have hd := pt_drop h
  rw [← lenF_of l (l.length + 1) (by omega), ← cntF_of l (l.length + 1) (by omega)]
  simp only [lenL, cntL, h]
  rw [lenF_of _ _ (by omega), cntF_of _ _ (by omega)]
  exact ⟨rfl, rfl⟩
theorem lenF_none {l : List UInt8} (h : ptL l = none) : lenF l = 0 ∧ cntF l = 0 := ⟨lenL_none h _, cntL_none h _⟩

theorem strong {P : List UInt8 → Prop} (h : ∀ l : List UInt8, (∀ t : List UInt8, t.length < l.length → P t) → P l) (l : List UInt8) : P l := by
  suffices H : ∀ n (l : List UInt8), l.length ≤ n → P l from H _ l (Nat.le_refl _)
  intro n
  induction n with
  | zero => intro l hl; exact h l fun t ht => by omega
  | succ n ih => intro l hl; exact h l fun t ht => ih t (by omega)

theorem lenF_le (l : List UInt8) : lenF l ≤ l.length := by
  refine strong (P := fun l => lenF l ≤ l.length) ?_ l
  intro l ih
  cases hp : ptL l with
  | none => rw [(lenF_none hp).1]; omega
  | some c =>
    have hd := pt_drop hp
    have := ih (l.drop (encL c).length) (by omega)
    rw [(lenF_some hp).1]
    omega
theorem cntF_le (l : List UInt8) : cntF l ≤ l.length := by
  refine strong (P := fun l => cntF l ≤ l.length) ?_ l
  intro l ih
  cases hp : ptL l with
  | none => rw [(lenF_none hp).2]; omega
  | some c =>
    have hd := pt_drop hp
    have := ih (l.drop (encL c).length) (by omega)
    rw [(lenF_some hp).2]
    omega

/-- behind all that are encodings there is none -/
theorem pt_behind (l : List UInt8) : ptL (l.drop (lenF l)) = none := by
  refine strong (P := fun l => ptL (l.drop (lenF l)) = none) ?_ l
  intro l ih
  cases hp : ptL l with
  | none => rw [(lenF_none hp).1]; exact hp
  | some c =>
    have hd := pt_drop hp
    have := ih (l.drop (encL c).length) (by omega)
    rw [(lenF_some hp).1]
    rw [List.drop_drop] at this
    exact this

/-- a text that is encodings through and through, and another one behind it -/
theorem join (l t : List UInt8) (h : lenF l = l.length) : lenF (l ++ t) = l.length + lenF t ∧ cntF (l ++ t) = cntF l + cntF t := by
  revert h
  refine strong (P := fun l => lenF l = l.length → lenF (l ++ t) = l.length + lenF t ∧ cntF (l ++ t) = cntF l + cntF t) ?_ l
  intro l ih h
  cases hp : ptL l with
  | none =>
    rw [(lenF_none hp).1] at h
    have : l = [] := List.eq_nil_of_length_eq_zero h.symm
    subst this
    rw [(lenF_none hp).2]
    simp
  | some c =>
    have hd := pt_drop hp
    obtain ⟨hv, u, e⟩ := pt_some hp
    have hdu : l.drop (encL c).length = u := by rw [e]; simp
    have hs := lenF_some hp
    have hp2 : ptL (l ++ t) = some c := by rw [e, List.append_assoc]; exact pt_enc c hv _
    have hs2 := lenF_some hp2
    have hdu2 : (l ++ t).drop (encL c).length = u ++ t := by rw [e, List.append_assoc]; simp
    rw [hdu] at hs hd
    rw [hdu2] at hs2
    have hu := ih u (by omega) (by omega)
    omega

/-- what is cut off behind encodings is encodings -/
theorem cut (l : List UInt8) : lenF (l.take (lenF l)) = lenF l ∧ (l.take (lenF l)).length = lenF l := by
  have h2 : (l.take (lenF l)).length = lenF l := by rw [List.length_take]; have := lenF_le l; omega
  refine ⟨?_, h2⟩
  refine strong (P := fun l => lenF (l.take (lenF l)) = lenF l) ?_ l
  intro l ih
  cases hp : ptL l with
  | none => rw [(lenF_none hp).1]; rfl
  | some c =>
    have hd := pt_drop hp
    obtain ⟨hv, u, e⟩ := pt_some hp
    have hs := (lenF_some hp).1
    have hdu : l.drop (encL c).length = u := by rw [e]; simp
    rw [hdu] at hs hd
    have hu := ih u (by omega)
    have ht : l.take (lenF l) = encL c ++ u.take (lenF u) := by
      rw [hs]
      conv => lhs; rw [e]
      rw [List.take_append, List.take_of_length_le (by omega)]
      simp
    rw [ht]
    have hp2 : ptL (encL c ++ u.take (lenF u)) = some c := pt_enc c hv _
    rw [(lenF_some hp2).1]
    simp only [List.drop_left]
    omega

theorem brk_iff (l : List UInt8) (hl : l ≠ []) : (brkL l = true → ptL l = none) ∧ (brkL l = false → ptL l = some (decL l).1 ∧ (decL l).2 = (encL ((decL l).1 : Nat)).length) := by
  unfold ptL
  rw [if_neg hl]
  constructor
  · intro h; rw [if_pos h]
  · intro h
    rw [if_neg (by rw [h]; exact Bool.false_ne_true)]
    refine ⟨rfl, ?_⟩
    rcases dec_cases l hl with ⟨d, t, hv, e, hd⟩ | ⟨hd, hp⟩
    · rw [hd]
    · have hb : brkL l = true := by unfold brkL; rw [hd, hp]; rfl
      rw [hb] at h
      cases h

end Go.Proofs.YtakdhfjlhkejdaaGreatDoor

/-
  PLAIN LEAN, no program: what package runes' functions answer, as Lean functions. No conditions.
-/
namespace Go.Proofs.YtakdhfjlhkejdaaGreatDoor
open Go

def isHp (s : ByteArray) : Bool := hpL s.data.toList
def brkS (s : ByteArray) (r : Int) : Bool := r == 65533 && !isHp s
def pointB (r : Int) : Bool := validRune r
def highB (r : Int) : Bool := decide (55296 ≤ r ∧ r < 56320)
def lowB (r : Int) : Bool := decide (56320 ≤ r ∧ r ≤ 57343)
def badI (s : ByteArray) : Int := if lenF s.data.toList = s.size then -1 else lenF s.data.toList
def validB (s : ByteArray) : Bool := lenF s.data.toList == s.size
def countI (s : ByteArray) : Int := if lenF s.data.toList = s.size then (cntF s.data.toList : Nat) else -1
def bytesS (r : Int) : ByteArray := if pointB r then Utf8.encode r else ⟨#[]⟩
def firstR (s : ByteArray) : Int := match ptL s.data.toList with | some c => (c : Nat) | none => 0
def firstN (s : ByteArray) : Int := match ptL s.data.toList with | some c => (encL (c : Nat)).length | none => 0
def firstB (s : ByteArray) : Bool := (ptL s.data.toList).isSome
def pairB (a b : Int) : Bool := highB a && lowB b
def pairR (a b : Int) : Int := if pairB a b then 65536 + (a - 55296) * 1024 + (b - 56320) else 0
def halfB (r : Int) : Bool := decide (65536 ≤ r ∧ r ≤ 1114111)
def halfH (r : Int) : Int := if halfB r then 55296 + (r - 65536) / 1024 else 0
def halfL (r : Int) : Int := if halfB r then 56320 + (r - 65536) % 1024 else 0
def digV (c : Int) : Option Int := if 48 ≤ c ∧ c ≤ 57 then some (c - 48) else if 97 ≤ c ∧ c ≤ 102 then some (c - 97 + 10) else if 65 ≤ c ∧ c ≤ 70 then some (c - 65 + 10) else none
def digR (c : Int) : Int := (digV c).getD 0
def digB (c : Int) : Bool := (digV c).isSome
def hexF (acc : Int) : List UInt8 → Option Int
  | [] => some acc
  | b :: t => match digV b.toNat with
    | none => none
    | some d => hexF (acc * 16 + d) t
def hexO (s : ByteArray) : Option Int := if s.size < 4 then none else hexF 0 (s.data.toList.take 4)
def hexR (s : ByteArray) : Int := (hexO s).getD 0
def hexB (s : ByteArray) : Bool := (hexO s).isSome
end Go.Proofs.YtakdhfjlhkejdaaGreatDoor

/-
  CONTRACTS of package runes' functions: what each answers of any values, and that the world is as it was but for new blocks. No conditions but the texts' sizes.
-/
namespace Go.Proofs.YtakdhfjlhkejdaaGreatDoor
open Go.RowKit

theorem ret_bool {a b : Bool} (h : a = b) : Ending.returned (.bool a) = .returned (.bool b) := by rw [h]
theorem ret_int {k : IntKind} {a b : Int} (h : a = b) : Ending.returned (.int k a) = .returned (.int k b) := by rw [h]
theorem ret_str {a b : ByteArray} (h : a = b) : Ending.returned (.string a) = .returned (.string b) := by rw [h]


theorem hasPrefix_any (s : ByteArray) (w : World) (hs : s.size ≤ maxLen) :
    Calls Tryz.prog 117 #[.string s, .string ⟨#[239, 191, 189]⟩] w fun e w' => e = .returned (.bool (isHp s)) ∧ w = w' := by
  unfold maxLen at hs
  have hd : (s.extract 0 3).toList = s.data.toList.take 3 := by rw [Lib.extract_toList]; rfl
  go_enter Tryz.func117, Tryz.ntmps117
  go_wp2
  · go_ret
    exact ⟨ret_bool rfl, rfl⟩
  · have h : (s.size : Int) < 3 := by assumption
    go_ret
    refine ⟨ret_bool ?_, rfl⟩
    have hl := Lib.size_eq s
    unfold isHp
    rcases e : s.data.toList with _ | ⟨a, _ | ⟨b, _ | ⟨c, t⟩⟩⟩
    · rfl
    · rw [hp_short1]
    · rw [hp_short2]
    · rw [e] at hl
      simp only [List.length_cons] at hl
      omega

theorem broken_any (s : ByteArray) (r : Int) (w : World) (hs : s.size ≤ maxLen) :
    Calls Tryz.prog 91 #[.string s, .int .i32 r] w fun e w' => e = .returned (.bool (brkS s r)) ∧ w = w' := by
  go_enter Tryz.func91, Tryz.ntmps91
  by_cases h : (r == 65533) = true
  · go_wp2_with (go_at_call 117; refine (hasPrefix_any _ _ hs).mono ?_; rintro e w' ⟨rfl, rfl⟩)
    go_ret
    exact ⟨ret_bool (by unfold brkS; rw [h]; rfl), rfl⟩
  · have h : (r == 65533) = false := by simpa using h
    go_wp2_with (go_at_call 117; refine (hasPrefix_any _ _ hs).mono ?_; rintro e w' ⟨rfl, rfl⟩)
    go_ret
    exact ⟨ret_bool (by unfold brkS; rw [h]; rfl), rfl⟩

theorem isPoint_any (r : Int) (w : World) :
    Calls Tryz.prog 148 #[.int .i32 r] w fun e w' => e = .returned (.bool (pointB r)) ∧ w = w' := by
  by_cases h1 : 0 ≤ r
  · by_cases h2 : r < 55296
    · go_enter Tryz.func148, Tryz.ntmps148
      go_wp2
      all_goals go_ret
      all_goals exact ⟨ret_bool (by unfold pointB validRune; simp; omega), rfl⟩
    · by_cases h3 : 57343 < r
      · by_cases h4 : r ≤ 1114111
        all_goals go_enter Tryz.func148, Tryz.ntmps148
        all_goals go_wp2
        all_goals go_ret
        all_goals exact ⟨ret_bool (by unfold pointB validRune; simp; omega), rfl⟩
      · go_enter Tryz.func148, Tryz.ntmps148
        go_wp2
        all_goals go_ret
        all_goals exact ⟨ret_bool (by unfold pointB validRune; simp; omega), rfl⟩
  · have h3 : ¬ 57343 < r := by omega
    go_enter Tryz.func148, Tryz.ntmps148
    go_wp2
    all_goals go_ret
    all_goals exact ⟨ret_bool (by unfold pointB validRune; simp; omega), rfl⟩

theorem isHigh_any (r : Int) (w : World) :
    Calls Tryz.prog 149 #[.int .i32 r] w fun e w' => e = .returned (.bool (highB r)) ∧ w = w' := by
  go_enter Tryz.func149, Tryz.ntmps149
  go_wp2
  all_goals go_ret
  all_goals exact ⟨ret_bool (by unfold highB; simp; omega), rfl⟩

theorem isLow_any (r : Int) (w : World) :
    Calls Tryz.prog 150 #[.int .i32 r] w fun e w' => e = .returned (.bool (lowB r)) ∧ w = w' := by
  go_enter Tryz.func150, Tryz.ntmps150
  go_wp2
  all_goals go_ret
  all_goals exact ⟨ret_bool (by unfold lowB; simp; omega), rfl⟩


theorem drop_ne {s : ByteArray} {pos : Nat} (hp : pos < s.size) : s.data.toList.drop pos ≠ [] := by
  intro e
  have := congrArg List.length e
  rw [List.length_drop, ← Lib.size_eq] at this
  simp only [List.length_nil] at this
  omega
theorem from_data (s : ByteArray) (pos : Nat) : (s.extract pos s.size).data.toList = s.data.toList.drop pos := by
  rw [Lib.extract_data, List.take_of_length_le (by rw [List.length_drop, ← Lib.size_eq]; omega)]
/-- one round over a text: a fault, or a code point -/
theorem round_at (s : ByteArray) (pos : Nat) (hp : pos < s.size) :
    (brkS (s.extract pos s.size) ((Utf8.decode s pos).1 : Nat) = true → ptL (s.data.toList.drop pos) = none) ∧
    (brkS (s.extract pos s.size) ((Utf8.decode s pos).1 : Nat) = false → ptL (s.data.toList.drop pos) = some (Utf8.decode s pos).1 ∧ (Utf8.decode s pos).2 = (encL ((Utf8.decode s pos).1 : Nat)).length) := by
  have hb := brk_iff _ (drop_ne hp)
  have e : brkS (s.extract pos s.size) ((Utf8.decode s pos).1 : Nat) = brkL (s.data.toList.drop pos) := by
    unfold brkS brkL isHp
    rw [from_data, decode_eq]
    congr 1
    by_cases h : (decL (s.data.toList.drop pos)).1 = 65533
    · rw [h]; rfl
    · rw [beq_eq_false_iff_ne.2 h, beq_eq_false_iff_ne.2 (by omega)]
  rw [e, decode_eq]
  exact hb

theorem from_size {s : ByteArray} {pos : Nat} (hs : s.size ≤ maxLen) : (s.extract pos s.size).size ≤ maxLen := by
  rw [Lib.size_eq, from_data, List.length_drop, ← Lib.size_eq]
  omega
theorem drop_end {s : ByteArray} {pos : Nat} (hp : ¬ pos < s.size) : s.data.toList.drop pos = [] :=
  List.drop_eq_nil_of_le (by rw [← Lib.size_eq]; omega)
theorem lenF_le' (s : ByteArray) : lenF s.data.toList ≤ s.size := by rw [Lib.size_eq]; exact lenF_le _
theorem bad_end {s : ByteArray} {pos b : Nat} (hp : ¬ pos < s.size) (hc : pos + lenL b (s.data.toList.drop pos) = lenF s.data.toList) : (-1 : Int) = badI s := by
  rw [drop_end hp, lenL_none pt_nil] at hc
  have := lenF_le' s
  unfold badI
  rw [if_pos (by omega)]
theorem bad_here {s : ByteArray} {pos b : Nat} (hp : pos < s.size) (hc : pos + lenL b (s.data.toList.drop pos) = lenF s.data.toList)
    (hk : brkS (s.extract pos s.size) ((Utf8.decode s pos).1 : Nat) = true) : (pos : Int) = badI s := by
  rw [lenL_none ((round_at s pos hp).1 hk)] at hc
  unfold badI
  rw [if_neg (by omega)]
  omega
theorem bad_on {s : ByteArray} {pos b : Nat} (hp : pos < s.size) (hb : s.size ≤ pos + b) (hc : pos + lenL b (s.data.toList.drop pos) = lenF s.data.toList)
    (hk : brkS (s.extract pos s.size) ((Utf8.decode s pos).1 : Nat) = false) :
    ∃ b', pos + (Utf8.decode s pos).2 + lenL b' (s.data.toList.drop (pos + (Utf8.decode s pos).2)) = lenF s.data.toList ∧ s.size ≤ pos + (Utf8.decode s pos).2 + b' := by
  obtain ⟨h1, h2⟩ := (round_at s pos hp).2 hk
  have hwd := Lib.decode_width_pos s pos hp
  obtain ⟨b, rfl⟩ : ∃ b', b = b' + 1 := ⟨b - 1, by omega⟩
  refine ⟨b, ?_, by omega⟩
  simp only [lenL, h1] at hc
  rw [List.drop_drop, ← h2] at hc
  omega

set_option maxHeartbeats 1000000 in
theorem bad_any (s : ByteArray) (w : World) (hs : s.size ≤ maxLen) :
    Calls Tryz.prog 61 #[.string s] w fun e w' => e = .returned (.int .i64 (badI s)) ∧ Below w.heap.size w w' := by
  have hs' := hs
  unfold maxLen at hs'
  go_enter Tryz.func61, Tryz.ntmps61
  go_wp2
  go_loopw [3] (fun _ w' => ∃ (pos b : Nat), w' = w.iter s pos ∧ pos + lenL b (s.data.toList.drop pos) = lenF s.data.toList ∧ s.size ≤ pos + b) (fun _ w' => s.size - w'.iterPos w.heap.size)
  case atStart => exact ⟨0, s.size, rfl, by rw [Nat.zero_add, List.drop_zero, Lib.size_eq]; rfl, by omega⟩
  case round =>
    obtain ⟨pos, b, rfl, hc, hb⟩ := hrel
    by_cases hp : pos < s.size
    · have hnx : ∀ ty, (Instr.next (.pointer (some ⟨w.heap.size, 0, none⟩)) true ty).run Tryz.prog (w.iter s pos) = _ := fun ty => run_next_any w s pos ty hp
      have hwd := Lib.decode_width_pos s pos hp
      go_wp2_with (go_at_call 91; refine (broken_any _ _ _ (from_size hs)).mono ?_; rintro e w' ⟨rfl, rfl⟩)
      · have hk : brkS (s.extract pos s.size) ((Utf8.decode s pos).1 : Nat) = true := by assumption
        go_ret
        exact ⟨ret_int (bad_here hp hc hk), (Below.refl _ _).alloc (Nat.le_refl _) _⟩
      · have hk : brkS (s.extract pos s.size) ((Utf8.decode s pos).1 : Nat) = false := by assumption
        obtain ⟨b', h1, h2⟩ := bad_on hp hb hc hk
        go_roundw
        case rel => exact ⟨_, b', rfl, h1, h2⟩
        case measure => simp; omega
    · have hnx : ∀ ty, (Instr.next (.pointer (some ⟨w.heap.size, 0, none⟩)) true ty).run Tryz.prog (w.iter s pos) = _ := fun ty => run_next_end w s pos ty hp
      go_wp2
      go_ret
      exact ⟨ret_int (bad_end hp hc), (Below.refl _ _).alloc (Nat.le_refl _) _⟩

theorem bad_valid (s : ByteArray) : decide (badI s < 0) = validB s := by
  have := lenF_le' s
  unfold badI validB
  by_cases h : lenF s.data.toList = s.size
  · rw [if_pos h, h]
    simp
  · rw [if_neg h, beq_eq_false_iff_ne.2 h]
    simp
theorem valid_any (s : ByteArray) (w : World) (hs : s.size ≤ maxLen) :
    Calls Tryz.prog 44 #[.string s] w fun e w' => e = .returned (.bool (validB s)) ∧ Below w.heap.size w w' := by
  go_enter Tryz.func44, Tryz.ntmps44
  go_wp2_with (go_at_call 61; refine (bad_any _ _ hs).mono ?_; rintro e w' ⟨rfl, hb⟩)
  go_ret
  exact ⟨ret_bool (bad_valid s), hb⟩


theorem bytesS_yes {r : Int} (h : pointB r = true) : Utf8.encode r = bytesS r := by unfold bytesS; rw [if_pos h]
theorem bytesS_no {r : Int} (h : pointB r = false) : (⟨#[]⟩ : ByteArray) = bytesS r := by unfold bytesS; rw [h]; rfl
theorem bytes_any (r : Int) (w : World) :
    Calls Tryz.prog 144 #[.int .i32 r] w fun e w' => e = .returned (.string (bytesS r)) ∧ w = w' := by
  go_enter Tryz.func144, Tryz.ntmps144
  go_wp2_with (go_at_call 148; refine (isPoint_any _ _).mono ?_; rintro e w' ⟨rfl, rfl⟩)
  · have h : (!pointB r) = true := by assumption
    have h : pointB r = false := by simpa using h
    go_ret
    exact ⟨ret_str (bytesS_no h), rfl⟩
  · have h : (!pointB r) = false := by assumption
    have h : pointB r = true := by simpa using h
    go_ret
    exact ⟨ret_str (bytesS_yes h), rfl⟩

/-! ### Pair, Halves -/
theorem ret_pair_no {a b : Int} (h : pairB a b = false) : Ending.returned (.tuple #[.int .i32 0, .bool false]) = .returned (.tuple #[.int .i32 (pairR a b), .bool (pairB a b)]) := by
  unfold pairR
  rw [h]
  rfl
theorem ret_pair_yes {a b : Int} (h : pairB a b = true) : Ending.returned (.tuple #[.int .i32 (65536 + (a - 55296) * 1024 + (b - 56320)), .bool true]) = .returned (.tuple #[.int .i32 (pairR a b), .bool (pairB a b)]) := by
  unfold pairR
  rw [h]
  rfl
theorem pair_any (a b : Int) (w : World) :
    Calls Tryz.prog 145 #[.int .i32 a, .int .i32 b] w fun e w' => e = .returned (.tuple #[.int .i32 (pairR a b), .bool (pairB a b)]) ∧ w = w' := by
  by_cases hh : highB a = true
  · have ha := of_decide_eq_true hh
    obtain ⟨ha1, ha2⟩ := ha
    by_cases hl : lowB b = true
    · have hb := of_decide_eq_true hl
      obtain ⟨hb1, hb2⟩ := hb
      go_enter Tryz.func145, Tryz.ntmps145
      go_wp2_with (first | (go_at_call 149; refine (isHigh_any _ _).mono ?_; rintro e w' ⟨rfl, rfl⟩) | (go_at_call 150; refine (isLow_any _ _).mono ?_; rintro e w' ⟨rfl, rfl⟩))
      go_ret2
      exact ⟨ret_pair_yes (by unfold pairB; rw [hh, hl]; rfl), rfl⟩
    · have hl : lowB b = false := by simpa using hl
      go_enter Tryz.func145, Tryz.ntmps145
      go_wp2_with (first | (go_at_call 149; refine (isHigh_any _ _).mono ?_; rintro e w' ⟨rfl, rfl⟩) | (go_at_call 150; refine (isLow_any _ _).mono ?_; rintro e w' ⟨rfl, rfl⟩))
      go_ret2
      exact ⟨ret_pair_no (by unfold pairB; rw [hl, Bool.and_false]), rfl⟩
  · have hh : highB a = false := by simpa using hh
    go_enter Tryz.func145, Tryz.ntmps145
    go_wp2_with (first | (go_at_call 149; refine (isHigh_any _ _).mono ?_; rintro e w' ⟨rfl, rfl⟩) | (go_at_call 150; refine (isLow_any _ _).mono ?_; rintro e w' ⟨rfl, rfl⟩))
    go_ret2
    exact ⟨ret_pair_no (by unfold pairB; rw [hh, Bool.false_and]), rfl⟩
/-! ### Hex -/
theorem ret_dig {c d : Int} (h : digV c = some d) : Ending.returned (.tuple #[.int .i32 d, .bool true]) = .returned (.tuple #[.int .i32 (digR c), .bool (digB c)]) := by
  unfold digR digB
  rw [h]
  rfl
theorem ret_dig_no {c : Int} (h : digV c = none) : Ending.returned (.tuple #[.int .i32 0, .bool false]) = .returned (.tuple #[.int .i32 (digR c), .bool (digB c)]) := by
  unfold digR digB
  rw [h]
  rfl
theorem digit_any (c : Int) (w : World) :
    Calls Tryz.prog 155 #[.int .i32 c] w fun e w' => e = .returned (.tuple #[.int .i32 (digR c), .bool (digB c)]) ∧ w = w' := by
  by_cases h1 : 48 ≤ c
  · by_cases h2 : c ≤ 57
    · go_enter Tryz.func155, Tryz.ntmps155
      go_wp2
      go_ret2
      exact ⟨ret_dig (by unfold digV; rw [if_pos ⟨h1, h2⟩]), rfl⟩
    · by_cases h3 : 97 ≤ c
      · by_cases h4 : c ≤ 102
        · go_enter Tryz.func155, Tryz.ntmps155
          go_wp2
          go_ret2
          exact ⟨ret_dig (by unfold digV; rw [if_neg (by omega), if_pos ⟨h3, h4⟩]), rfl⟩
        · have h6 : ¬ c ≤ 70 := by omega
          have h5 : 65 ≤ c := by omega
          go_enter Tryz.func155, Tryz.ntmps155
          go_wp2
          go_ret2
          exact ⟨ret_dig_no (by unfold digV; rw [if_neg (by omega), if_neg (by omega), if_neg (by omega)]), rfl⟩
      · by_cases h5 : 65 ≤ c
        · by_cases h6 : c ≤ 70
          · go_enter Tryz.func155, Tryz.ntmps155
            go_wp2
            go_ret2
            exact ⟨ret_dig (by unfold digV; rw [if_neg (by omega), if_neg (by omega), if_pos ⟨h5, h6⟩]), rfl⟩
          · go_enter Tryz.func155, Tryz.ntmps155
            go_wp2
            go_ret2
            exact ⟨ret_dig_no (by unfold digV; rw [if_neg (by omega), if_neg (by omega), if_neg (by omega)]), rfl⟩
        · go_enter Tryz.func155, Tryz.ntmps155
          go_wp2
          go_ret2
          exact ⟨ret_dig_no (by unfold digV; rw [if_neg (by omega), if_neg (by omega), if_neg (by omega)]), rfl⟩
  · have h3 : ¬ 97 ≤ c := by omega
    have h5 : ¬ 65 ≤ c := by omega
    go_enter Tryz.func155, Tryz.ntmps155
    go_wp2
    go_ret2
    exact ⟨ret_dig_no (by unfold digV; rw [if_neg (by omega), if_neg (by omega), if_neg (by omega)]), rfl⟩

theorem digV_range {c d : Int} (h : digV c = some d) : 0 ≤ d ∧ d < 16 ∧ c < 128 := by
  unfold digV at h
  split at h
  · injection h with h; omega
  · split at h
    · injection h with h; omega
    · split at h
      · injection h with h; omega
      · cases h

def hexTop : Nat → Int
  | 0 => 1
  | 1 => 16
  | 2 => 256
  | 3 => 4096
  | _ => 65536
theorem hexTop_on {k : Nat} {a d : Int} (hk : k < 4) (h0 : 0 ≤ a) (ha : a < hexTop k) (h1 : 0 ≤ d) (h2 : d < 16) : a < 4096 ∧ a * 16 + d < hexTop (k + 1) := by
  rcases k with _ | _ | _ | _ | k
  all_goals simp only [hexTop] at ha ⊢
  all_goals omega
theorem ret_hex {s : ByteArray} {d : Int} (h : hexO s = some d) : Ending.returned (.tuple #[.int .i32 d, .bool true]) = .returned (.tuple #[.int .i32 (hexR s), .bool (hexB s)]) := by
  unfold hexR hexB
  rw [h]
  rfl
theorem ret_hex_no {s : ByteArray} (h : hexO s = none) : Ending.returned (.tuple #[.int .i32 0, .bool false]) = .returned (.tuple #[.int .i32 (hexR s), .bool (hexB s)]) := by
  unfold hexR hexB
  rw [h]
  rfl
theorem hex_short {s : ByteArray} (h : s.size < 4) : hexO s = none := by
  unfold hexO
  rw [if_pos h]
theorem hex_long {s : ByteArray} (h : 4 ≤ s.size) : hexO s = hexF 0 (s.extract 0 4).data.toList := by
  unfold hexO
  rw [if_neg (by omega), Lib.extract_from_zero]

/-- one round over a text's digits -/
theorem hex_step {t : ByteArray} {pos : Nat} (hp : pos < t.size) (acc : Int) :
    (∀ d, digV ((Utf8.decode t pos).1 : Nat) = some d → (Utf8.decode t pos).2 = 1 ∧ hexF acc (t.data.toList.drop pos) = hexF (acc * 16 + d) (t.data.toList.drop (pos + 1))) ∧
    (digV ((Utf8.decode t pos).1 : Nat) = none → hexF acc (t.data.toList.drop pos) = none) := by
  have hc : t.data.toList.drop pos = t[pos] :: t.data.toList.drop (pos + 1) := by
    rw [List.drop_eq_getElem_cons (by rw [← Lib.size_eq]; exact hp)]
    rfl
  by_cases ha : (t[pos]'hp).toNat < 128
  · rw [decode_ascii t pos hp ha]
    constructor
    · intro d hd
      refine ⟨rfl, ?_⟩
      rw [hc]
      have hd' : digV ((t[pos]'hp).toNat : Nat) = some d := hd
      simp only [hexF, hd']
    · intro hd
      rw [hc]
      have hd' : digV ((t[pos]'hp).toNat : Nat) = none := hd
      simp only [hexF, hd']
  · have hh := (decode_high t pos hp (by omega)).1
    constructor
    · intro d hd
      have := (digV_range hd).2.2
      omega
    · intro _
      have hd' : digV ((t[pos]'hp).toNat : Nat) = none := by
        cases hd : digV ((t[pos]'hp).toNat : Nat) with
        | none => rfl
        | some d => have := (digV_range hd).2.2; omega
      rw [hc]
      simp only [hexF, hd']

set_option maxHeartbeats 1000000 in
theorem hex_any (s : ByteArray) (w : World) (hs : s.size ≤ maxLen) :
    Calls Tryz.prog 147 #[.string s] w fun e w' => e = .returned (.tuple #[.int .i32 (hexR s), .bool (hexB s)]) ∧ Below w.heap.size w w' := by
  unfold maxLen at hs
  by_cases h4 : s.size < 4
  · go_enter Tryz.func147, Tryz.ntmps147
    go_wp2
    go_ret2
    exact ⟨ret_hex_no (hex_short h4), Below.refl _ _⟩
  · have h4' : 4 ≤ s.size := by omega
    have ht : (s.extract 0 4).size = 4 := by
      rw [Lib.size_eq, Lib.extract_from_zero, List.length_take, ← Lib.size_eq]
      omega
    have hx := hex_long h4'
    obtain ⟨t, et⟩ : ∃ t, t = s.extract 0 4 := ⟨_, rfl⟩
    rw [← et] at ht hx
    have Ht := Lib.hid ht
    have Hx := Lib.hid hx
    have Et := Lib.hid et
    clear ht hx et
    go_enter Tryz.func147, Tryz.ntmps147
    go_wp2
    rw [← Et.out]
    go_loopw [2] (fun r w' => ∃ (pos : Nat) (acc : Int), w' = w.iter t pos ∧ r = .int .i32 acc ∧ pos ≤ 4 ∧ 0 ≤ acc ∧ acc < hexTop pos ∧ hexF acc (t.data.toList.drop pos) = hexO s) (fun _ w' => 4 - w'.iterPos w.heap.size)
    case atStart => exact ⟨0, 0, rfl, rfl, by omega, by omega, by simp [hexTop], by rw [Hx.out]; rfl⟩
    case round =>
      obtain ⟨pos, acc, rfl, rfl, hp4, ha0, ha, hf⟩ := hrel
      by_cases hp : pos < t.size
      · have hp' : pos < 4 := by rw [Ht.out] at hp; exact hp
        have hnx : ∀ ty, (Instr.next (.pointer (some ⟨w.heap.size, 0, none⟩)) true ty).run Tryz.prog (w.iter t pos) = _ := fun ty => run_next_any w t pos ty hp
        have hstep := hex_step hp acc
        cases hd : digV ((Utf8.decode t pos).1 : Nat) with
        | none =>
          have hB : digB ((Utf8.decode t pos).1 : Nat) = false := by unfold digB; rw [hd]; rfl
          have hn := hstep.2 hd
          rw [hn] at hf
          have Hf := Lib.hid hf
          have Hd := Lib.hid hd
          clear hf hd hn hstep
          go_wp2_with (go_at_call 155; refine (digit_any _ _).mono ?_; rintro e w' ⟨rfl, rfl⟩)
          go_ret2
          exact ⟨ret_hex_no Hf.out.symm, (Below.refl _ _).alloc (Nat.le_refl _) _⟩
        | some d =>
          have hB : digB ((Utf8.decode t pos).1 : Nat) = true := by unfold digB; rw [hd]; rfl
          have hR : digR ((Utf8.decode t pos).1 : Nat) = d := by unfold digR; rw [hd]; rfl
          obtain ⟨hd0, hd1, hd2⟩ := digV_range hd
          obtain ⟨hw1, hfs⟩ := hstep.1 d hd
          obtain ⟨ht1, ht2⟩ := hexTop_on hp' ha0 ha hd0 hd1
          rw [hfs] at hf
          have hor : bits BinOp.or IntKind.i32 (acc * 16) d = acc * 16 + d := bits_join .i32 31 (by decide) wraps_i32 4 (acc * 16) d (by omega) (by omega) (by omega) (by omega) (by omega) (by omega)
          have Hf := Lib.hid hf
          have Hw := Lib.hid hw1
          clear hf hd hfs hstep ha hw1
          go_wp2_with (go_at_call 155; refine (digit_any _ _).mono ?_; rintro e w' ⟨rfl, rfl⟩)
          go_roundw
          case rel => exact ⟨pos + 1, acc * 16 + d, by rw [Hw.out], rfl, by omega, by omega, ht2, Hf.out⟩
          case measure => simp; rw [Hw.out]; omega
      · have hnx : ∀ ty, (Instr.next (.pointer (some ⟨w.heap.size, 0, none⟩)) true ty).run Tryz.prog (w.iter t pos) = _ := fun ty => run_next_end w t pos ty hp
        rw [drop_end hp] at hf
        have Hf := Lib.hid hf
        clear hf
        go_wp2
        go_ret2
        exact ⟨ret_hex Hf.out.symm, (Below.refl _ _).alloc (Nat.le_refl _) _⟩
end Go.Proofs.YtakdhfjlhkejdaaGreatDoor

/-
  CONTRACTS of the library's Builder: what each writing method leaves of a builder that the call itself has made, and that every other block which is no row of bytes stands as it stood. Conditions: the builder is written within its bounds. (Turned from the guide's own contracts: at this program copyCheck's body has another end.)
-/
set_option linter.unusedVariables false
namespace Go.Proofs.YtakdhfjlhkejdaaGreatDoor
open Go.RowKit

theorem infoByte : (Tryz.prog.info? 5).map (fun i => (i.zero, i.size, i.bytes)) = some (some (.int .u8 0), 1, 1) := by kernel_rfl
theorem sizeBuilder : (Tryz.prog.info? 70).map (·.size) = some 2 := by kernel_rfl
theorem liesBuilder : liesAt Tryz.prog Tryz.prog.depth 70 (2 / Tryz.prog.cellsOf 70) 0 70 1 = true := by kernel_rfl
abbrev BldF (B b : Nat) (bs : List Value) (w : World) : Prop := Lib.IsBuilderF 70 5 B b bs w
abbrev OKept (b : Nat) (w w' : World) : Prop := Lib.OthersKept 5 (some b) w w'

set_option maxHeartbeats 1000000 in
set_option maxRecDepth 100000 in
theorem bldCheck_used (b : Nat) (w : World) (h0 : w.cell? ⟨b, 0, none⟩ = some (.pointer (some ⟨b, 0, none⟩))) :
    Calls Tryz.prog 104 #[.pointer (some ⟨b, 0, none⟩)] w fun e w' => e = .returned (.tuple #[]) ∧ w' = w := by
  obtain ⟨j, hj, _⟩ := Option.map_eq_some_iff.1 sizeBuilder
  go_enter Tryz.func104, Tryz.ntmps104
  go_wp2
  rw [Lib.run_neq_ptr_same w _ Tryz.underlying68 hj]
  go_wp2
  go_end0
  exact ⟨rfl, rfl⟩

set_option maxHeartbeats 1000000 in
set_option maxRecDepth 100000 in
theorem bldCheck_fresh (b : Nat) (w : World) (h0 : w.cell? ⟨b, 0, none⟩ = some (.pointer none)) (hsh : w.shape? b = some (70, 2)) (hfz : w.frozen? ⟨b, 0, none⟩ = false) :
    Calls Tryz.prog 104 #[.pointer (some ⟨b, 0, none⟩)] w fun e w' => e = .returned (.tuple #[]) ∧ w' = w.setCell ⟨b, 0, none⟩ (.pointer (some ⟨b, 0, none⟩)) := by
  obtain ⟨j, hj, hjs⟩ := Option.map_eq_some_iff.1 sizeBuilder
  go_enter Tryz.func104, Tryz.ntmps104
  go_wp2
  rw [Lib.run_to_unsafe w ⟨b, 0, none⟩ Tryz.underlying68 Tryz.underlying141 hj (by rw [hjs]; decide) hsh (Nat.zero_lt_succ 1)]
  simp only [Result.andThen]
  rw [Oper.upon_value]
  go_wp2
  rw [run_callFunc_extern Tryz.func130 (by kernel_rfl) (by kernel_rfl) (by kernel_rfl) (e := Extern.AbiNoEscape.same) (by kernel_rfl)]
  rw [Lib.run_noEscape]
  simp only [Result.andThen]
  rw [Oper.upon_value]
  go_wp2
  rw [Lib.run_from_unsafe w ⟨b, 0, none⟩ Tryz.underlying141 Tryz.underlying68 hj hsh liesBuilder]
  simp only [Result.andThen]
  rw [Oper.upon_value]
  go_wp2
  go_end0
  exact ⟨rfl, rfl⟩

theorem bldCheck (B b : Nat) (bs : List Value) (w : World) (h : BldF B b bs w) :
    Calls Tryz.prog 104 #[.pointer (some ⟨b, 0, none⟩)] w fun e w' => e = .returned (.tuple #[]) ∧ (Lib.BuilderAtF 70 5 B b (.pointer (some ⟨b, 0, none⟩)) bs w' ∧ Below B w w' ∧ OKept b w w') := by
  rcases h with h | h
  · refine (bldCheck_fresh b w h.cell0 h.shape h.frozen0).mono ?_
    rintro e w' ⟨rfl, rfl⟩
    exact ⟨rfl, h.used _, (Below.refl B w).setCell (p := ⟨b, 0, none⟩) h.1 _, (Lib.OthersKept.refl _ _ w).setCell ⟨b, 0, none⟩ rfl _⟩
  · refine (bldCheck_used b w h.cell0).mono ?_
    rintro e w' ⟨rfl, rfl⟩
    exact ⟨rfl, h, Below.refl B _, Lib.OthersKept.refl _ _ _⟩

set_option maxHeartbeats 2000000 in
set_option maxRecDepth 100000 in
theorem bldByte (B b : Nat) (bs : List Value) (c : Int) (w : World) (h : BldF B b bs w) (hlen : bs.length + 1 ≤ 140737488355328) (hBw : B ≤ w.heap.size) :
    Calls Tryz.prog 79 #[.pointer (some ⟨b, 0, none⟩), .int .u8 c] w fun e w' => e = .returned .nilIface ∧ (BldF B b (bs ++ [.int .u8 c]) w' ∧ Below B w w' ∧ OKept b w w') := by
  obtain ⟨i0, hi, hz0, hz1, hz2⟩ := info_parts infoByte
  go_enter Tryz.func79, Tryz.ntmps79
  go_wp2_with (go_at_call 104; refine (bldCheck B b bs _ h).mono ?_)
  rintro e w1 ⟨rfl, h1, hb1, hk1⟩
  obtain ⟨hB, v, hbk, hown, hne⟩ := h1
  have c0 : w1.cell? ⟨b, 0, none⟩ = some (.pointer (some ⟨b, 0, none⟩)) := by rw [Lib.cell_of_heap hbk]; rfl
  have c1 : w1.cell? ⟨b, 1, none⟩ = some v := by rw [Lib.cell_of_heap hbk]; rfl
  go_wp2_with (at_builtin; refine wpList_append_ownF _ rfl _ _ 52 rfl B 5 i0 (.int .u8 0) 1 1 Tryz.underlying52 hi hz0 hz1 hz2 rfl (by decide) _ _ _ rfl (hown.alloc _) ⟨w1.heap.size, 0, none⟩ 1 1 [.int .u8 c] rfl rfl ?c1 ?c2 ?c3 ?c4 ?c5 ?_)
  case c1 =>
    intro j u hj
    match j, hj with
    | 0, hj => simp at hj; subst hj; simp [Addr.add]
  case c2 => intro u hu; simp at hu; subst hu; rfl
  case c3 => unfold maxLen; omega
  case c4 => omega
  case c5 => have := hb1.size; simp; omega
  intro v' w2 hown' hgrow _
  have hlt : b < w1.heap.size := by
    rcases Nat.lt_or_ge b w1.heap.size with h' | h'
    · exact h'
    · simp [Array.getElem?_eq_none h'] at hbk
  have hb2 : w2.heap[b]? = some (.cells #[.pointer (some ⟨b, 0, none⟩), v] 70 (0, 0)) := by
    rw [hgrow.block b (by simp; omega) (fun e => hne e.symm), Lib.alloc_old w1 _ b hlt]
    exact hbk
  have d0 : w2.cell? ⟨b, 0, none⟩ = some (.pointer (some ⟨b, 0, none⟩)) := by rw [Lib.cell_of_heap hb2]; rfl
  have d1 : w2.cell? ⟨b, 1, none⟩ = some v := by rw [Lib.cell_of_heap hb2]; rfl
  have f1 : w2.frozen? ⟨b, 1, none⟩ = false := Lib.frozen_of_heap hb2 1
  obtain ⟨g, cap, rfl⟩ : ∃ g cap, v' = .slice (some ⟨g, 0, none⟩) (bs.length + 1) cap := by
    rcases hown'.2 with ⟨_, h0⟩ | ⟨g, cap, cur, fz, hv, _⟩
    · omega
    · exact ⟨g, cap, hv⟩
  go_wp2
  go_ret
  refine ⟨rfl, ?_, ?_, ((hk1.alloc _).grown hgrow (Lib.ownsRowF_kind (hown.alloc _))).setCell ⟨b, 1, none⟩ rfl _⟩
  · exact .inr (Lib.BuilderAtF.put (T := 70) (e := 5) hB hb2 (bs' := bs ++ [.int .u8 c]) (by simpa using hown') (by decide))
  · exact ((hb1.alloc (by have := hb1.size; omega) _).grown hgrow (by have := hb1.size; simp; omega) (fun k hk => (hown.lt k hk).1)).setCell (p := ⟨b, 1, none⟩) hB _

set_option maxHeartbeats 2000000 in
set_option maxRecDepth 100000 in
theorem bldStr (B b : Nat) (bs : List Value) (s : ByteArray) (w : World) (h : BldF B b bs w) (hlen : bs.length + s.size ≤ 140737488355328) (hBw : B ≤ w.heap.size) :
    Calls Tryz.prog 78 #[.pointer (some ⟨b, 0, none⟩), .string s] w fun e w' => e = .returned (.tuple #[.int .i64 s.size, .nilIface]) ∧ (BldF B b (bs ++ Lib.strCells s) w' ∧ Below B w w' ∧ OKept b w w') := by
  obtain ⟨i0, hi, hz0, hz1, hz2⟩ := info_parts infoByte
  go_enter Tryz.func78, Tryz.ntmps78
  go_wp2_with (go_at_call 104; refine (bldCheck B b bs _ h).mono ?_)
  rintro e w1 ⟨rfl, h1, hb1, hk1⟩
  obtain ⟨hB, v, hbk, hown, hne⟩ := h1
  have c0 : w1.cell? ⟨b, 0, none⟩ = some (.pointer (some ⟨b, 0, none⟩)) := by rw [Lib.cell_of_heap hbk]; rfl
  have c1 : w1.cell? ⟨b, 1, none⟩ = some v := by rw [Lib.cell_of_heap hbk]; rfl
  go_wp2_with (at_builtin; refine Lib.wpList_append_own_stringF _ rfl _ _ 52 9 rfl B 5 i0 Tryz.underlying52 Tryz.underlying9 hi hz0 hz1 hz2 _ _ _ rfl hown s rfl ?c3 ?c4 ?c5 ?_)
  case c3 => unfold maxLen; omega
  case c4 => omega
  case c5 => have := hb1.size; omega
  intro v' w2 hown' hgrow _
  have hlt : b < w1.heap.size := by
    rcases Nat.lt_or_ge b w1.heap.size with h' | h'
    · exact h'
    · simp [Array.getElem?_eq_none h'] at hbk
  have hb2 : w2.heap[b]? = some (.cells #[.pointer (some ⟨b, 0, none⟩), v] 70 (0, 0)) := by
    rw [hgrow.block b hlt (fun e => hne e.symm)]
    exact hbk
  have d0 : w2.cell? ⟨b, 0, none⟩ = some (.pointer (some ⟨b, 0, none⟩)) := by rw [Lib.cell_of_heap hb2]; rfl
  have d1 : w2.cell? ⟨b, 1, none⟩ = some v := by rw [Lib.cell_of_heap hb2]; rfl
  have f1 : w2.frozen? ⟨b, 1, none⟩ = false := Lib.frozen_of_heap hb2 1
  obtain ⟨ao, n', cap, rfl⟩ : ∃ ao n' cap, v' = .slice ao n' cap := by
    rcases hown'.2 with ⟨hv, _⟩ | ⟨g, cap, cur, fz, hv, _⟩
    · exact ⟨_, _, _, hv⟩
    · exact ⟨_, _, _, hv⟩
  go_wp2
  go_ret2
  refine ⟨rfl, ?_, ?_, (hk1.grown hgrow (Lib.ownsRowF_kind hown)).setCell ⟨b, 1, none⟩ rfl _⟩
  · exact .inr (Lib.BuilderAtF.put (T := 70) (e := 5) hB hb2 (bs' := bs ++ Lib.strCells s) (by simpa [Lib.strCells_length] using hown') (by decide))
  · exact (hb1.grown hgrow (by have := hb1.size; omega) (fun k hk => (hown.lt k hk).1)).setCell (p := ⟨b, 1, none⟩) hB _

set_option maxHeartbeats 4000000 in
set_option maxRecDepth 100000 in
theorem bldRune (B b : Nat) (bs : List Value) (r : Int) (hr0 : -2147483648 ≤ r) (hr1 : r ≤ 2147483647) (w : World) (h : BldF B b bs w) (hlen : bs.length + 4 ≤ 140737488355328) (hBw : B ≤ w.heap.size) :
    Calls Tryz.prog 82 #[.pointer (some ⟨b, 0, none⟩), .int .i32 r] w fun e w' => e = .returned (.tuple #[.int .i64 (Lib.runeCells r).length, .nilIface]) ∧ (BldF B b (bs ++ Lib.runeCells r) w' ∧ Below B w w' ∧ OKept b w w') := by
  have hk4 := Lib.runeCells_le r
  go_enter Tryz.func82, Tryz.ntmps82
  go_wp2_with (go_at_call 104; refine (bldCheck B b bs _ h).mono ?_)
  rintro e w1 ⟨rfl, h1, hb1, hk1⟩
  obtain ⟨hB, v, hbk, hown, hne⟩ := h1
  obtain ⟨ao, cap, rfl⟩ : ∃ ao cap, v = .slice ao bs.length cap := by
    rcases hown.2 with ⟨hv, h0⟩ | ⟨g, cap, cur, fz, hv, _⟩
    · exact ⟨none, 0, by rw [hv, h0]⟩
    · exact ⟨_, _, hv⟩
  have c0 : w1.cell? ⟨b, 0, none⟩ = some (.pointer (some ⟨b, 0, none⟩)) := by rw [Lib.cell_of_heap hbk]; rfl
  have c1 : w1.cell? ⟨b, 1, none⟩ = some (.slice ao bs.length cap) := by rw [Lib.cell_of_heap hbk]; rfl
  go_wp2_with (go_at_call 109; refine (Tryz.utf8_AppendRune_row B _ bs.length bs r hr0 hr1 _ hown hlen (by have := hb1.size; omega)).mono ?_)
  rintro e w2 ⟨v', rfl, hown', o, hgrow⟩
  have hlt : b < w1.heap.size := by
    rcases Nat.lt_or_ge b w1.heap.size with h' | h'
    · exact h'
    · simp [Array.getElem?_eq_none h'] at hbk
  have hb2 : w2.heap[b]? = some (.cells #[.pointer (some ⟨b, 0, none⟩), .slice ao bs.length cap] 70 (0, 0)) := by
    rw [hgrow.block b (by simp; omega) (fun e => hne e.symm), Lib.alloc_old w1 _ b hlt]
    exact hbk
  have d0 : w2.cell? ⟨b, 0, none⟩ = some (.pointer (some ⟨b, 0, none⟩)) := by rw [Lib.cell_of_heap hb2]; rfl
  have d1 : w2.cell? ⟨b, 1, none⟩ = some (.slice ao bs.length cap) := by rw [Lib.cell_of_heap hb2]; rfl
  have f1 : w2.frozen? ⟨b, 1, none⟩ = false := Lib.frozen_of_heap hb2 1
  obtain ⟨g, cap', rfl⟩ : ∃ g cap', v' = .slice (some ⟨g, 0, none⟩) (bs.length + (Lib.runeCells r).length) cap' := by
    rcases hown'.2 with ⟨_, h0⟩ | ⟨g, cap', cur, fz, hv, _⟩
    · omega
    · exact ⟨g, cap', hv⟩
  go_wp2
  go_ret2
  refine ⟨?_, ?_, ?_, ((hk1.alloc _).grown hgrow (Lib.ownsRowF_kind (hown.alloc _))).setCell ⟨b, 1, none⟩ rfl _⟩
  · have e : ((bs.length : Int) + ((Lib.runeCells r).length : Int) - (bs.length : Int)) = ((Lib.runeCells r).length : Int) := by omega
    simp [e]
  · exact .inr (Lib.BuilderAtF.put (T := 70) (e := 5) hB hb2 (bs' := bs ++ Lib.runeCells r) (by simpa using hown') (by decide))
  · exact ((hb1.alloc (by have := hb1.size; omega) _).grown hgrow (by have := hb1.size; simp; omega) (fun k hk => (hown.lt k hk).1)).setCell (p := ⟨b, 1, none⟩) hB _
end Go.Proofs.YtakdhfjlhkejdaaGreatDoor

/-
  PLAIN LEAN, no program: package json's texts: how many bytes are of a kind, which texts are numbers, what escape sequences stand for, what is wrong with a text, and where. No conditions.
-/
namespace Go.Proofs.YtakdhfjlhkejdaaGreatDoor
open Go

def pWhite (r : Int) : Bool := r == 32 || r == 9 || r == 10 || r == 13
def pDigit (r : Int) : Bool := decide (48 ≤ r) && decide (r ≤ 57)
def pNum (r : Int) : Bool := pDigit r || r == 43 || r == 45 || r == 46 || r == 101 || r == 69
def pLetter (r : Int) : Bool := decide (97 ≤ r) && decide (r ≤ 122)
def pPlain (r : Int) : Bool := decide (32 ≤ r) && r != 34 && r != 92

/-- it tells all that is above the ASCII alike -/
def Flat (p : Int → Bool) : Prop := ∀ r : Int, 128 ≤ r → p r = p 128
theorem flat_white : Flat pWhite := by
  intro r h
  unfold pWhite
  rw [beq_eq_false_iff_ne.2 (by omega), beq_eq_false_iff_ne.2 (by omega), beq_eq_false_iff_ne.2 (by omega), beq_eq_false_iff_ne.2 (by omega)]
  rfl
theorem flat_digit : Flat pDigit := by
  intro r h
  unfold pDigit
  rw [decide_eq_false (show ¬ r ≤ 57 by omega), Bool.and_false]
  rfl
theorem flat_num : Flat pNum := by
  intro r h
  unfold pNum
  rw [flat_digit r h, beq_eq_false_iff_ne.2 (show r ≠ 43 by omega), beq_eq_false_iff_ne.2 (show r ≠ 45 by omega), beq_eq_false_iff_ne.2 (show r ≠ 46 by omega), beq_eq_false_iff_ne.2 (show r ≠ 101 by omega), beq_eq_false_iff_ne.2 (show r ≠ 69 by omega)]
  rfl
theorem flat_letter : Flat pLetter := by
  intro r h
  unfold pLetter
  rw [decide_eq_false (show ¬ r ≤ 122 by omega), Bool.and_false]
  rfl
theorem flat_plain : Flat pPlain := by
  intro r h
  unfold pPlain
  rw [decide_eq_true (show 32 ≤ r by omega), bne_iff_ne.2 (show r ≠ 34 by omega), bne_iff_ne.2 (show r ≠ 92 by omega)]
  rfl

/-- how many bytes at the front are of a kind -/
def spanL (p : Int → Bool) : List UInt8 → Nat
  | [] => 0
  | b :: t => if p (b.toNat : Nat) then spanL p t + 1 else 0
theorem spanL_le (p : Int → Bool) (l : List UInt8) : spanL p l ≤ l.length := by
  induction l with
  | nil => exact Nat.le_refl _
  | cons b t ih =>
    simp only [spanL, List.length_cons]
    split <;> omega
theorem spanL_all (p : Int → Bool) (n : Nat) : ∀ (l : List UInt8), n ≤ l.length → (∀ b ∈ l.take n, p (b.toNat : Nat) = true) → spanL p l = n + spanL p (l.drop n) := by
  induction n with
  | zero => intro l _ _; rw [List.drop_zero]; omega
  | succ n ih =>
    intro l hl h
    rcases l with _ | ⟨b, t⟩
    · simp only [List.length_nil] at hl; omega
    · have hb := h b (by simp)
      simp only [spanL]
      rw [if_pos hb, ih t (by simp only [List.length_cons] at hl; omega) (fun c hc => h c (by simp [hc])), List.drop_succ_cons]
      omega
theorem enc_high (c : Nat) (hv : validRune c = true) (h : 128 ≤ c) : ∀ b ∈ encL c, 128 ≤ b.toNat := by
  have hr := vr_lt hv
  intro b hb
  by_cases h2 : c < 2048
  · rw [enc2 c h h2] at hb
    simp only [List.mem_cons, List.not_mem_nil, or_false] at hb
    rcases hb with rfl | rfl <;> rw [ofNat_toNat' _ (by omega)] <;> omega
  · by_cases h3 : c < 65536
    · rw [enc3 c (by omega) h3 hv] at hb
      simp only [List.mem_cons, List.not_mem_nil, or_false] at hb
      rcases hb with rfl | rfl | rfl <;> rw [ofNat_toNat' _ (by omega)] <;> omega
    · rw [enc4 c (by omega) hv] at hb
      simp only [List.mem_cons, List.not_mem_nil, or_false] at hb
      rcases hb with rfl | rfl | rfl | rfl <;> rw [ofNat_toNat' _ (by omega)] <;> omega
/-- one code point of a range over a text -/
theorem span_round {p : Int → Bool} (hp : Flat p) (l : List UInt8) (hl : l ≠ []) :
    (p ((decL l).1 : Nat) = false → spanL p l = 0) ∧ (p ((decL l).1 : Nat) = true → spanL p l = (decL l).2 + spanL p (l.drop (decL l).2) ∧ 1 ≤ (decL l).2 ∧ (decL l).2 ≤ l.length) := by
  rcases dec_cases l hl with ⟨c, t, hv, e, hd⟩ | ⟨hd, hh⟩
  · have hw := enc_pos c hv
    have hle : (encL (c : Int)).length ≤ l.length := by rw [e, List.length_append]; omega
    have htk : l.take (encL (c : Int)).length = encL (c : Int) := by
      conv => lhs; rw [e]
      exact List.take_left' rfl
    have hd1 : (decL l).1 = c := by rw [hd]
    have hd2 : (decL l).2 = (encL (c : Int)).length := by rw [hd]
    rw [hd1, hd2]
    clear hd hd1 hd2
    by_cases hc : c < 128
    · have h1 : encL (c : Int) = [UInt8.ofNat c] := enc1 c hc
      have e1 : l = UInt8.ofNat c :: t := by rw [e, h1]; rfl
      have hn : (UInt8.ofNat c).toNat = c := ofNat_toNat' c (by omega)
      constructor
      · intro h
        rw [e1]
        simp only [spanL, hn]
        rw [if_neg (by rw [h]; decide)]
      · intro h
        refine ⟨spanL_all p (encL (c : Int)).length l hle ?_, hw.1, hle⟩
        rw [htk, h1]
        intro b hb
        simp only [List.mem_cons, List.not_mem_nil, or_false] at hb
        rw [hb, hn]
        exact h
    · have hb := enc_high c hv (by omega)
      have hf := hp (c : Int) (by omega)
      constructor
      · intro h
        rcases hx : encL (c : Int) with _ | ⟨b, u⟩
        · rw [hx] at hw; simp only [List.length_nil] at hw; omega
        · have hb0 := hb b (by rw [hx]; simp)
          rw [e, hx, List.cons_append]
          simp only [spanL]
          have : p (b.toNat : Nat) = false := by rw [hp _ (by omega), ← hf]; exact h
          rw [if_neg (by rw [this]; decide)]
      · intro h
        refine ⟨spanL_all p (encL (c : Int)).length l hle ?_, hw.1, hle⟩
        rw [htk]
        intro b hb1
        have := hb b hb1
        rw [hp _ (by omega), ← hf]
        exact h
  · rw [hd]
    rcases l with _ | ⟨b, t⟩
    · exact absurd rfl hl
    have hb : 128 ≤ b.toNat := by
      rcases Nat.lt_or_ge b.toNat 128 with h | h
      · rw [dec_any1 b t h] at hd
        injection hd with h1 h2
        omega
      · exact h
    have h1 : p (b.toNat : Nat) = p ((65533 : Nat) : Int) := by rw [hp _ (by omega), hp ((65533 : Nat) : Int) (by omega)]
    constructor
    · intro h
      simp only [spanL]
      rw [if_neg (by rw [h1, h]; decide)]
    · intro h
      refine ⟨?_, by omega, by simp only [List.length_cons]; omega⟩
      simp only [spanL]
      rw [if_pos (by rw [h1, h]), List.drop_succ_cons, List.drop_zero]
      omega

/-! ### Numbers -/
def signL (l : List UInt8) : List UInt8 := match l with
  | 45 :: t => t
  | l => l
def expL (l : List UInt8) : Bool := match l with
  | [] => false
  | c :: t => (c == 101 || c == 69) && (match t with
    | [] => false
    | d :: u => if d == 43 || d == 45 then u != [] && spanL pDigit u == u.length else spanL pDigit t == t.length)
def fracL (l : List UInt8) : Bool := match l with
  | 46 :: f => if spanL pDigit f = 0 then false else (f.drop (spanL pDigit f)).isEmpty || expL (f.drop (spanL pDigit f))
  | l => l.isEmpty || expL l
def numL (l : List UInt8) : Bool :=
  if spanL pDigit (signL l) = 0 ∨ (1 < spanL pDigit (signL l) ∧ (signL l).head? = some 48) then false
  else fracL ((signL l).drop (spanL pDigit (signL l)))
end Go.Proofs.YtakdhfjlhkejdaaGreatDoor

/-
  CONTRACT of the library's IndexRune at the seven bytes with short escape sequences: any code point.
-/
set_option linter.unusedVariables false
namespace Go.Proofs.YtakdhfjlhkejdaaGreatDoor
open Go.RowKit

def shortB : ByteArray := ⟨#[34, 92, 8, 12, 10, 13, 9]⟩
def shortI (r : Int) : Int := if r < 128 then Lib.indexByte [34, 92, 8, 12, 10, 13, 9] r.toNat.toUInt8 else -1

set_option maxHeartbeats 1000000 in
theorem idxRune_low (r : Int) (w : World) (h0 : 0 ≤ r) (h1 : r < 128) :
    Calls Tryz.prog 81 #[.string ⟨#[34, 92, 8, 12, 10, 13, 9]⟩, .int .i32 r] w fun e w' => e = .returned (.int .i64 (shortI r)) ∧ Below w.heap.size w w' := by
  refine (Tryz.strings_IndexRune_ascii _ r w h0 h1).mono ?_
  rintro e w' ⟨rfl, rfl⟩
  exact ⟨ret_int (by unfold shortI; rw [if_pos h1]), Below.refl _ _⟩

theorem short_get (pos : Nat) (h : pos < shortB.size) : (shortB[pos]'h).toNat < 128 := by
  have : ∀ p : Fin 7, (shortB[p.val]'(p.isLt)).toNat < 128 := by decide
  exact this ⟨pos, h⟩
set_option maxHeartbeats 1000000 in
set_option maxRecDepth 100000 in
theorem idxRune_bad (w : World) :
    Calls Tryz.prog 81 #[.string ⟨#[34, 92, 8, 12, 10, 13, 9]⟩, .int .i32 65533] w fun e w' => e = .returned (.int .i64 (shortI 65533)) ∧ Below w.heap.size w w' := by
  go_enter Tryz.func81, Tryz.ntmps81
  go_wp2_with fail
  go_loopw [4] (fun q w' => ∃ pos : Nat, q = .int .i64 0 ∧ w' = w.iter shortB pos) (fun _ w' => 7 - w'.iterPos w.heap.size)
  case atStart => exact ⟨0, rfl, rfl⟩
  case round =>
    obtain ⟨pos, rfl, rfl⟩ := hrel
    by_cases hlt : pos < shortB.size
    · have hd := decode_ascii shortB pos hlt (short_get pos hlt)
      have hg := short_get pos hlt
      have hnx : ∀ ty, (Instr.next (.pointer (some ⟨w.heap.size, 0, none⟩)) true ty).run Tryz.prog (w.iter shortB pos) = _ := fun ty => run_next_ascii w shortB pos ty hlt (short_get pos hlt)
      have hp : pos < 7 := hlt
      clear hd
      go_wp2_with fail
      go_roundw
      case rel => exact ⟨_, rfl, rfl⟩
      case measure => simp; omega
    · have hnx : ∀ ty, (Instr.next (.pointer (some ⟨w.heap.size, 0, none⟩)) true ty).run Tryz.prog (w.iter shortB pos) = _ := fun ty => run_next_end w shortB pos ty hlt
      go_wp2_with fail
      go_ret
      exact ⟨rfl, (Below.refl _ _).alloc (Nat.le_refl _) _⟩

theorem enc_size (r : Nat) (h0 : 128 ≤ r) (hv : validRune r = true) : (Utf8.encode (r : Int)).size = 2 ∨ (Utf8.encode (r : Int)).size = 3 ∨ (Utf8.encode (r : Int)).size = 4 := by
  have := enc_len r hv
  rw [encL, ← Lib.size_eq] at this
  rw [this, if_neg (by omega)]
  split
  · exact .inl rfl
  · split
    · exact .inr (.inl rfl)
    · exact .inr (.inr rfl)
theorem get_mem (s : ByteArray) (i : Nat) (hi : i < s.size) : s[i]'hi ∈ s.data.toList :=
  List.getElem_mem (l := s.data.toList) (n := i) (by rw [← Lib.size_eq]; exact hi)
theorem enc_all (r : Nat) (h0 : 128 ≤ r) (hv : validRune r = true) : ∀ b ∈ (Utf8.encode (r : Int)).data.toList, 128 ≤ b.toNat := by
  have := enc_high r hv h0
  rw [encL] at this
  exact this
theorem at_all {s : ByteArray} (h : ∀ b ∈ s.data.toList, 128 ≤ b.toNat) (i : Nat) (hi : i < s.size) : 128 ≤ (s[i]'hi).toNat := h _ (get_mem s i hi)
theorem ne_high {x : UInt8} {k : Int} (h : 128 ≤ x.toNat) (hk : k < 128) : (k != ((x.toNat : Nat) : Int)) = true := by
  rw [bne_iff_ne]
  omega
theorem byte_back' (c : UInt8) : ((c.toNat : Int)).toNat.toUInt8 = c := by
  simp
theorem idx_high (l : List UInt8) (hl : ∀ b ∈ l, b.toNat < 128) (c : UInt8) (hc : 128 ≤ c.toNat) : Lib.indexByte l c = -1 := by
  induction l with
  | nil => rfl
  | cons b t ih =>
    have hb := hl b (by simp)
    have e : (b == c) = false := by
      rw [beq_eq_false_iff_ne]
      intro e
      rw [e] at hb
      omega
    simp [Lib.indexByte, e, ih (fun x hx => hl x (by simp [hx]))]
theorem idxByte_none (s : ByteArray) (x : UInt8) (w : World) (hs : s.data.toList.all (· < 128) = true) (hc : 128 ≤ x.toNat) :
    Calls Tryz.prog 105 #[.string s, .int .u8 (x.toNat : Nat)] w fun e w' => e = .returned (.int .i64 (-1)) ∧ w' = w := by
  refine (Tryz.strings_IndexByte s (x.toNat : Nat) w).mono ?_
  rintro e w' ⟨rfl, rfl⟩
  refine ⟨ret_int ?_, rfl⟩
  rw [byte_back']
  exact idx_high _ (fun b hb => by have := List.all_eq_true.1 hs b hb; simpa [UInt8.lt_iff_toNat_lt] using this) _ hc
set_option maxHeartbeats 2000000 in
set_option maxRecDepth 100000 in
theorem idxRune_high (r : Nat) (h0 : 128 ≤ r) (hv : validRune r = true) (hn : r ≠ 65533) (w : World) :
    Calls Tryz.prog 81 #[.string ⟨#[34, 92, 8, 12, 10, 13, 9]⟩, .int .i32 r] w fun e w' => e = .returned (.int .i64 (-1)) ∧ Below w.heap.size w w' := by
  have hr := vr_lt hv
  have hvr : Lib.validRune (r : Int) = true := by
    unfold Lib.validRune
    simp
    omega
  have t1 : decide ((r : Int) < 128) = false := decide_eq_false (by omega)
  have t2 : ((r : Int) == 65533) = false := by rw [beq_eq_false_iff_ne]; omega
  rcases enc_size r h0 hv with hz | hz | hz
  · obtain ⟨E, hE⟩ : ∃ E, E = Utf8.encode (r : Int) := ⟨_, rfl⟩
    have ha := enc_all r h0 hv
    rw [← hE] at ha
    have hz' : E.size = 2 := by rw [hE]; exact hz
    have hi1 : 1 < E.size := by omega
    have hb : 128 ≤ (E[1]'hi1).toNat := at_all ha 1 hi1
    have T3 := Lib.hid (ne_high (k := 92) hb (by decide))
    have Hx := Lib.hid hb
    have HE := Lib.hid hE
    clear hb ha hE
    go_enter Tryz.func81, Tryz.ntmps81
    go_wp2_with (first | (go_at_call 106; refine (Tryz.utf8_ValidRune _ _).mono ?_; rintro e w' ⟨rfl, rfl⟩))
    go_step3
    go_wp2_with fail
    rw [← HE.out]
    clear hz
    refine wp_loop_rounds 1 ?_
    rw [rounds_succ]
    go_wp2_with fail
    go_step3
    go_wp2_with fail
    go_region
    generalize E[1]'hi1 = x at T3 ⊢
    clear HE hvr t1 t2 hv hr h0 hn
    generalize hq : (ByteArray.mk #[34, 92, 8, 12, 10, 13, 9])[1]'(by decide) = q
    obtain rfl : 92 = q := hq
    rw [show ((92 : UInt8).toNat) = 92 from rfl]
    go_wp2_with fail
    rotate_left
    · have hc : ((((92 : Nat) : Int)) != ((x.toNat : Nat) : Int)) = false := by assumption
      have := T3.out
      rw [bne_iff_ne] at this
      rw [bne_eq_false_iff_eq] at hc
      omega
    have hw2 : IntKind.i64.wrap 2 = 2 := rfl
    go_region_with (go_at_call 105; refine (idxByte_none _ (E[1]'hi1) _ (by decide) Hx.out).mono ?_; rintro e w' ⟨rfl, rfl⟩)
    all_goals go_wp2_with fail
    all_goals simp only [Exit.noGoto_ret, Exit.inBlock, Exit.then]
    all_goals go_ret
    all_goals exact ⟨rfl, (Below.refl _ _).drew.drew⟩
  · obtain ⟨E, hE⟩ : ∃ E, E = Utf8.encode (r : Int) := ⟨_, rfl⟩
    have ha := enc_all r h0 hv
    rw [← hE] at ha
    have hz' : E.size = 3 := by rw [hE]; exact hz
    have hi1 : 2 < E.size := by omega
    have hb : 128 ≤ (E[2]'hi1).toNat := at_all ha 2 hi1
    have T3 := Lib.hid (ne_high (k := 8) hb (by decide))
    have Hx := Lib.hid hb
    have HE := Lib.hid hE
    clear hb ha hE
    go_enter Tryz.func81, Tryz.ntmps81
    go_wp2_with (first | (go_at_call 106; refine (Tryz.utf8_ValidRune _ _).mono ?_; rintro e w' ⟨rfl, rfl⟩))
    go_step3
    go_wp2_with fail
    rw [← HE.out]
    clear hz
    refine wp_loop_rounds 1 ?_
    rw [rounds_succ]
    go_wp2_with fail
    go_step3
    go_wp2_with fail
    go_region
    generalize E[2]'hi1 = x at T3 ⊢
    clear HE hvr t1 t2 hv hr h0 hn
    generalize hq : (ByteArray.mk #[34, 92, 8, 12, 10, 13, 9])[2]'(by decide) = q
    obtain rfl : 8 = q := hq
    rw [show ((8 : UInt8).toNat) = 8 from rfl]
    go_wp2_with fail
    rotate_left
    · have hc : ((((8 : Nat) : Int)) != ((x.toNat : Nat) : Int)) = false := by assumption
      have := T3.out
      rw [bne_iff_ne] at this
      rw [bne_eq_false_iff_eq] at hc
      omega
    have hw2 : IntKind.i64.wrap 3 = 3 := rfl
    go_region_with (go_at_call 105; refine (idxByte_none _ (E[2]'hi1) _ (by decide) Hx.out).mono ?_; rintro e w' ⟨rfl, rfl⟩)
    all_goals go_wp2_with fail
    all_goals simp only [Exit.noGoto_ret, Exit.inBlock, Exit.then]
    all_goals go_ret
    all_goals exact ⟨rfl, (Below.refl _ _).drew.drew⟩
  · obtain ⟨E, hE⟩ : ∃ E, E = Utf8.encode (r : Int) := ⟨_, rfl⟩
    have ha := enc_all r h0 hv
    rw [← hE] at ha
    have hz' : E.size = 4 := by rw [hE]; exact hz
    have hi1 : 3 < E.size := by omega
    have hb : 128 ≤ (E[3]'hi1).toNat := at_all ha 3 hi1
    have T3 := Lib.hid (ne_high (k := 12) hb (by decide))
    have Hx := Lib.hid hb
    have HE := Lib.hid hE
    clear hb ha hE
    go_enter Tryz.func81, Tryz.ntmps81
    go_wp2_with (first | (go_at_call 106; refine (Tryz.utf8_ValidRune _ _).mono ?_; rintro e w' ⟨rfl, rfl⟩))
    go_step3
    go_wp2_with fail
    rw [← HE.out]
    clear hz
    refine wp_loop_rounds 1 ?_
    rw [rounds_succ]
    go_wp2_with fail
    go_step3
    go_wp2_with fail
    go_region
    generalize E[3]'hi1 = x at T3 ⊢
    clear HE hvr t1 t2 hv hr h0 hn
    generalize hq : (ByteArray.mk #[34, 92, 8, 12, 10, 13, 9])[3]'(by decide) = q
    obtain rfl : 12 = q := hq
    rw [show ((12 : UInt8).toNat) = 12 from rfl]
    go_wp2_with fail
    rotate_left
    · have hc : ((((12 : Nat) : Int)) != ((x.toNat : Nat) : Int)) = false := by assumption
      have := T3.out
      rw [bne_iff_ne] at this
      rw [bne_eq_false_iff_eq] at hc
      omega
    have hw2 : IntKind.i64.wrap 4 = 4 := rfl
    go_region_with (go_at_call 105; refine (idxByte_none _ (E[3]'hi1) _ (by decide) Hx.out).mono ?_; rintro e w' ⟨rfl, rfl⟩)
    all_goals go_wp2_with fail
    all_goals simp only [Exit.noGoto_ret, Exit.inBlock, Exit.then]
    all_goals go_ret
    all_goals exact ⟨rfl, (Below.refl _ _).drew.drew⟩

/-- any code point that a range over a text can tell -/
theorem idxRune_any (r : Nat) (hr : r < 128 ∨ validRune r = true) (w : World) :
    Calls Tryz.prog 81 #[.string ⟨#[34, 92, 8, 12, 10, 13, 9]⟩, .int .i32 r] w fun e w' => e = .returned (.int .i64 (shortI r)) ∧ Below w.heap.size w w' := by
  by_cases h : r < 128
  · exact idxRune_low r w (by omega) (by omega)
  · by_cases hn : r = 65533
    · subst hn
      exact idxRune_bad w
    · have hv : validRune r = true := by
        rcases hr with hr | hr
        · exact absurd hr h
        · exact hr
      refine (idxRune_high r (by omega) hv hn w).mono ?_
      rintro e w' ⟨rfl, hb⟩
      exact ⟨ret_int (by unfold shortI; rw [if_neg (by omega)]), hb⟩
end Go.Proofs.YtakdhfjlhkejdaaGreatDoor

/-
  PLAIN LEAN, no program: JSON's values as a tree; what a text is read as, or what is wrong with it, and where; what a value's text is. No conditions.
-/
namespace Go.Proofs.YtakdhfjlhkejdaaGreatDoor
open Go

/-- a value: its kind, its text, its keys, what it holds -/
inductive JV where
  | mk (kind : Nat) (text : ByteArray) (keys : List ByteArray) (list : List JV)

def noText : ByteArray := ⟨#[]⟩
abbrev Fail := Nat × Nat

/-- behind white space -/
def skipL (s : List UInt8) (i : Nat) : Nat := i + spanL pWhite (s.drop i)
/-- the byte that stands there -/
def byL (s : List UInt8) (i : Nat) : Option UInt8 := (s.drop i).head?

/-! ### Escape sequences -/
def unitL (l : List UInt8) : Option Int := match l with
  | 92 :: 117 :: t => hexO ⟨t.toArray⟩
  | _ => none
def escL (l : List UInt8) : Option (List UInt8 × Nat) := match l with
  | _ :: c :: _ =>
    if c = 34 then some ([34], 2) else if c = 92 then some ([92], 2) else if c = 98 then some ([8], 2) else if c = 102 then some ([12], 2)
    else if c = 110 then some ([10], 2) else if c = 114 then some ([13], 2) else if c = 116 then some ([9], 2) else if c = 47 then some ([47], 2)
    else match unitL l with
      | none => none
      | some r =>
        if pointB r then some ((bytesS r).data.toList, 6)
        else if pairB r ((unitL (l.drop 6)).getD 0) then some ((bytesS (pairR r ((unitL (l.drop 6)).getD 0))).data.toList, 12) else none
  | _ => none

/-! ### Texts in quotes -/
def quotP : Nat → List UInt8 → Nat → List UInt8 → Except Fail (List UInt8 × Nat)
  | 0, _, _, _ => .error (0, 0)
  | n + 1, s, i, acc =>
    match byL s (i + spanL pPlain (s.drop i)) with
    | none => .error (i + spanL pPlain (s.drop i), 21)
    | some c =>
      if c = 34 then .ok (acc ++ (s.drop i).take (spanL pPlain (s.drop i)), i + spanL pPlain (s.drop i) + 1)
      else if c = 92 then match escL (s.drop (i + spanL pPlain (s.drop i))) with
        | none => .error (i + spanL pPlain (s.drop i), 23)
        | some (b, k) => quotP n s (i + spanL pPlain (s.drop i) + k) (acc ++ (s.drop i).take (spanL pPlain (s.drop i)) ++ b)
      else .error (i + spanL pPlain (s.drop i), 20)

def wordK (t : List UInt8) : Option Nat :=
  if t = [110, 117, 108, 108] then some 1 else if t = [102, 97, 108, 115, 101] then some 2 else if t = [116, 114, 117, 101] then some 3 else none

/-- a text among texts -/
def hasK (ks : List ByteArray) (k : ByteArray) : Bool := ks.any fun x => x.data.toList == k.data.toList
/-! ### Values -/
mutual
def valP : Nat → List UInt8 → Nat → Nat → Nat → Except Fail (JV × Nat × Nat)
  | 0, _, _, _, _ => .error (0, 0)
  | n + 1, s, i0, vals, opn =>
    match byL s (skipL s i0) with
    | none => .error (skipL s i0, 21)
    | some c =>
      if vals = 4096 then .error (skipL s i0, 27)
      else if c = 45 ∨ pDigit (c.toNat : Nat) then
        if numL ((s.drop (skipL s i0)).take (spanL pNum (s.drop (skipL s i0)))) then .ok (.mk 4 ⟨((s.drop (skipL s i0)).take (spanL pNum (s.drop (skipL s i0)))).toArray⟩ [] [], skipL s i0 + spanL pNum (s.drop (skipL s i0)), vals + 1)
        else .error (skipL s i0, 22)
      else if pLetter (c.toNat : Nat) then match wordK ((s.drop (skipL s i0)).take (spanL pLetter (s.drop (skipL s i0)))) with
        | some k => .ok (.mk k noText [] [], skipL s i0 + spanL pLetter (s.drop (skipL s i0)), vals + 1)
        | none => .error (skipL s i0, 20)
      else if c = 91 then
        if opn = 48 then .error (skipL s i0, 26)
        else match byL s (skipL s (skipL s i0 + 1)) with
          | none => .error (skipL s (skipL s i0 + 1), 21)
          | some d =>
            if d = 93 then .ok (.mk 6 noText [] [], skipL s (skipL s i0 + 1) + 1, vals + 1)
            else match itemsP n s (skipL s (skipL s i0 + 1)) (vals + 1) (opn + 1) [] with
              | .error e => .error e
              | .ok (l, j, vals') => .ok (.mk 6 noText [] l, j, vals')
      else if c = 123 then
        if opn = 48 then .error (skipL s i0, 26)
        else match byL s (skipL s (skipL s i0 + 1)) with
          | none => .error (skipL s (skipL s i0 + 1), 21)
          | some d =>
            if d = 125 then .ok (.mk 7 noText [] [], skipL s (skipL s i0 + 1) + 1, vals + 1)
            else match fieldsP n s (skipL s (skipL s i0 + 1)) (vals + 1) (opn + 1) [] [] with
              | .error e => .error e
              | .ok (ks, l, j, vals') => .ok (.mk 7 noText ks l, j, vals')
      else if c = 34 then match quotP (s.length + 1) s (skipL s i0 + 1) [] with
        | .error e => .error e
        | .ok (t, j) => .ok (.mk 5 ⟨t.toArray⟩ [] [], j, vals + 1)
      else .error (skipL s i0, 20)
def itemsP : Nat → List UInt8 → Nat → Nat → Nat → List JV → Except Fail (List JV × Nat × Nat)
  | 0, _, _, _, _, _ => .error (0, 0)
  | n + 1, s, i0, vals, opn, acc =>
    match valP n s i0 vals opn with
    | .error e => .error e
    | .ok (v, i1, vals1) =>
      match byL s (skipL s i1) with
      | none => .error (skipL s i1, 21)
      | some c =>
        if c = 44 then itemsP n s (skipL s i1 + 1) vals1 opn (acc ++ [v])
        else if c = 93 then .ok (acc ++ [v], skipL s i1 + 1, vals1)
        else .error (skipL s i1, 20)
def fieldsP : Nat → List UInt8 → Nat → Nat → Nat → List ByteArray → List JV → Except Fail (List ByteArray × List JV × Nat × Nat)
  | 0, _, _, _, _, _, _ => .error (0, 0)
  | n + 1, s, i0, vals, opn, ks, acc =>
    match byL s (skipL s i0) with
    | none => .error (skipL s i0, 21)
    | some c =>
      if c ≠ 34 then .error (skipL s i0, 20)
      else match quotP (s.length + 1) s (skipL s i0 + 1) [] with
        | .error e => .error e
        | .ok (t, i1) =>
          if hasK ks ⟨t.toArray⟩ then .error (skipL s i0, 25)
          else match byL s (skipL s i1) with
            | none => .error (skipL s i1, 21)
            | some d =>
              if d ≠ 58 then .error (skipL s i1, 20)
              else match valP n s (skipL s i1 + 1) vals opn with
                | .error e => .error e
                | .ok (v, i2, vals2) =>
                  match byL s (skipL s i2) with
                  | none => .error (skipL s i2, 21)
                  | some e =>
                    if e = 44 then fieldsP n s (skipL s i2 + 1) vals2 opn (ks ++ [⟨t.toArray⟩]) (acc ++ [v])
                    else if e = 125 then .ok (ks ++ [⟨t.toArray⟩], acc ++ [v], skipL s i2 + 1, vals2)
                    else .error (skipL s i2, 20)
end

def readP (s : List UInt8) : Except Fail JV :=
  if 65536 < s.length then .error (0, 4)
  else if lenF s ≠ s.length then .error (lenF s, 24)
  else match valP (2 * s.length + 2) s 0 0 0 with
    | .error e => .error e
    | .ok (v, i, _) => if skipL s i < s.length then .error (skipL s i, 28) else .ok v
end Go.Proofs.YtakdhfjlhkejdaaGreatDoor

/-
  CONTRACTS of package json's quote, fitting and Quote: a text in quotes is laid into a builder that the call has made. Conditions: the builder is written within its bounds.
-/
set_option linter.unusedVariables false
namespace Go.Proofs.YtakdhfjlhkejdaaGreatDoor
open Go.RowKit

/-! ### A text in quotes, plainly -/
def hexD (n : Nat) : UInt8 := ([48, 49, 50, 51, 52, 53, 54, 55, 56, 57, 97, 98, 99, 100, 101, 102] : List UInt8).getD n 0
def quoB (b : UInt8) : List UInt8 :=
  if b = 34 then [92, 34] else if b = 92 then [92, 92] else if b = 8 then [92, 98] else if b = 12 then [92, 102] else if b = 10 then [92, 110] else if b = 13 then [92, 114] else if b = 9 then [92, 116]
  else if b.toNat < 32 then [92, 117, 48, 48, hexD (b.toNat / 16), hexD (b.toNat % 16)] else [b]
def quoM (l : List UInt8) : List UInt8 := l.flatMap quoB
def quoL (l : List UInt8) : List UInt8 := 34 :: (quoM l ++ [34])
theorem quoM_append (a b : List UInt8) : quoM (a ++ b) = quoM a ++ quoM b := by simp [quoM]
theorem quoB_len (b : UInt8) : 1 ≤ (quoB b).length ∧ (quoB b).length ≤ 6 := by
  unfold quoB
  repeat' split
  all_goals simp
theorem quoM_len (l : List UInt8) : (quoM l).length ≤ 6 * l.length := by
  induction l with
  | nil => simp [quoM]
  | cons b t ih =>
    have := quoB_len b
    have e : quoM (b :: t) = quoB b ++ quoM t := by simp [quoM]
    rw [e, List.length_append, List.length_cons]
    omega
theorem quoB_high {b : UInt8} (h : 128 ≤ b.toNat) : quoB b = [b] := by
  unfold quoB
  have e : ∀ k : UInt8, k.toNat < 128 → b ≠ k := fun k hk e => by rw [e] at h; omega
  rw [if_neg (e 34 (by decide)), if_neg (e 92 (by decide)), if_neg (e 8 (by decide)), if_neg (e 12 (by decide)), if_neg (e 10 (by decide)), if_neg (e 13 (by decide)), if_neg (e 9 (by decide)), if_neg (by omega)]
theorem quoM_high (l : List UInt8) (h : ∀ b ∈ l, 128 ≤ b.toNat) : quoM l = l := by
  induction l with
  | nil => rfl
  | cons b t ih =>
    have e : quoM (b :: t) = quoB b ++ quoM t := by simp [quoM]
    rw [e, quoB_high (h b (by simp)), ih (fun x hx => h x (by simp [hx]))]
    rfl
/-- the letters and the bytes of the short sequences -/
def shortByte (i : Nat) : Nat := ([34, 92, 8, 12, 10, 13, 9] : List Nat).getD i 0
def shortLet (i : Nat) : UInt8 := ([34, 92, 98, 102, 110, 114, 116] : List UInt8).getD i 0
theorem short_all : ∀ i, i < 7 → shortI (shortByte i : Nat) = i ∧ quoB (UInt8.ofNat (shortByte i)) = [92, shortLet i] ∧ shortByte i < 128 := by decide
theorem short_let (i : Nat) (h : i < 7) : (ByteArray.mk #[34, 92, 98, 102, 110, 114, 116])[i]'h = shortLet i := by
  have : ∀ p : Fin 7, (ByteArray.mk #[34, 92, 98, 102, 110, 114, 116])[p.val]'(p.isLt) = shortLet p.val := by decide
  exact this ⟨i, h⟩
theorem hex_let (i : Nat) (h : i < 16) : (ByteArray.mk #[48, 49, 50, 51, 52, 53, 54, 55, 56, 57, 97, 98, 99, 100, 101, 102])[i]'h = hexD i := by
  have : ∀ p : Fin 16, (ByteArray.mk #[48, 49, 50, 51, 52, 53, 54, 55, 56, 57, 97, 98, 99, 100, 101, 102])[p.val]'(p.isLt) = hexD p.val := by decide
  exact this ⟨i, h⟩
/-- what a code point becomes: a short sequence, a long one, itself -/
theorem quo_cases (c : Nat) (hv : validRune c = true) :
    (∃ i, i < 7 ∧ c = shortByte i ∧ quoM (encL c) = [92, shortLet i]) ∨
    (shortI c = -1 ∧ c < 32 ∧ quoM (encL c) = [92, 117, 48, 48, hexD (c / 16), hexD (c % 16)]) ∨
    (shortI c = -1 ∧ 32 ≤ c ∧ quoM (encL c) = encL c) := by
  by_cases hc : c < 128
  · rw [enc1 c hc]
    have e1 : quoM [UInt8.ofNat c] = quoB (UInt8.ofNat c) := by simp [quoM]
    rw [e1]
    have : ∀ p : Fin 128, (∃ i, i < 7 ∧ p.val = shortByte i ∧ quoB (UInt8.ofNat p.val) = [92, shortLet i]) ∨
      (shortI (p.val : Nat) = -1 ∧ p.val < 32 ∧ quoB (UInt8.ofNat p.val) = [92, 117, 48, 48, hexD (p.val / 16), hexD (p.val % 16)]) ∨
      (shortI (p.val : Nat) = -1 ∧ 32 ≤ p.val ∧ quoB (UInt8.ofNat p.val) = [UInt8.ofNat p.val]) := by decide +kernel
    exact this ⟨c, hc⟩
  · refine .inr (.inr ⟨?_, by omega, quoM_high _ (enc_high c hv (by omega))⟩)
    unfold shortI
    rw [if_neg (by omega)]

/-! ### Builders in other worlds -/
theorem bld_below {B b : Nat} {bs : List Value} {w w' : World} (h : BldF B b bs w) (hb : Below w.heap.size w w') : BldF B b bs w' := by
  have hg : w.grownBy w' none := ⟨hb.os, hb.tape, hb.output, hb.size, fun k hk _ => hb.block k hk⟩
  have one : ∀ p, Lib.BuilderAtF 70 5 B b p bs w → Lib.BuilderAtF 70 5 B b p bs w' := by
    rintro p ⟨hB, v, hbk, hown, hne⟩
    have hlt : b < w.heap.size := (Array.getElem?_eq_some_iff.1 hbk).1
    exact ⟨hB, v, (hb.block b hlt).trans hbk, hown.kept hg (by cases v.ownBlock <;> simp), hne⟩
  exact h.elim (fun x => .inl (one _ x)) (fun x => .inr (one _ x))
theorem okept_below {b : Nat} {w w' : World} (hb : Below w.heap.size w w') : OKept b w w' := by
  intro k o hk _ _
  exact (hb.block k (Array.getElem?_eq_some_iff.1 hk).1).trans hk
theorem bld_lt {B b : Nat} {bs : List Value} {w : World} (h : BldF B b bs w) : b < w.heap.size ∧ B ≤ b := by
  rcases h with ⟨hB, v, hbk, _⟩ | ⟨hB, v, hbk, _⟩
  · exact ⟨(Array.getElem?_eq_some_iff.1 hbk).1, hB⟩
  · exact ⟨(Array.getElem?_eq_some_iff.1 hbk).1, hB⟩

/-- a text all of whose encodings are -/
def allB (l : List UInt8) : Prop := lenF l = l.length
theorem valid_step {s : ByteArray} {pos : Nat} (hp : pos < s.size) (hv : allB (s.data.toList.drop pos)) :
    validRune ((Utf8.decode s pos).1 : Nat) = true ∧ (Utf8.decode s pos).2 = (encL ((Utf8.decode s pos).1 : Nat)).length ∧ 1 ≤ (Utf8.decode s pos).2 ∧ pos + (Utf8.decode s pos).2 ≤ s.size ∧
      allB (s.data.toList.drop (pos + (Utf8.decode s pos).2)) ∧ s.data.toList.take (pos + (Utf8.decode s pos).2) = s.data.toList.take pos ++ encL ((Utf8.decode s pos).1 : Nat) := by
  have hne := drop_ne hp
  rw [decode_eq]
  cases hb : brkL (s.data.toList.drop pos) with
  | true =>
    have h0 := (brk_iff _ hne).1 hb
    have := (lenF_none h0).1
    unfold allB at hv
    rw [hv] at this
    exact absurd (List.eq_nil_of_length_eq_zero this) hne
  | false =>
    obtain ⟨h1, h2⟩ := (brk_iff _ hne).2 hb
    obtain ⟨hr, t, ht⟩ := pt_some h1
    generalize (decL (s.data.toList.drop pos)).1 = c at *
    rw [h2]
    have hw := enc_pos c hr
    have hl : (encL (c : Int)).length ≤ (s.data.toList.drop pos).length := by rw [ht, List.length_append]; omega
    rw [List.length_drop, ← Lib.size_eq] at hl
    have hdd : s.data.toList.drop (pos + (encL (c : Int)).length) = t := by
      rw [← List.drop_drop, ht, List.drop_left']
      rfl
    refine ⟨hr, rfl, hw.1, by omega, ?_, ?_⟩
    · have := (lenF_some h1).1
      unfold allB at hv ⊢
      rw [List.drop_drop] at this
      rw [hv, List.length_drop, ← Lib.size_eq] at this
      rw [List.length_drop, ← Lib.size_eq]
      omega
    · rw [List.take_add, ht, List.take_left']
      rfl
theorem quo_end (l0 l : List UInt8) : Lib.byteCells (l0 ++ 34 :: quoM l) ++ [Value.int .u8 34] = Lib.byteCells (l0 ++ quoL l) := by
  unfold quoL
  simp [Lib.byteCells]
theorem okept_iterAt {b k : Nat} {w wr : World} (h : OKept b w wr) (hk : w.heap.size ≤ k) (s : ByteArray) (p : Nat) : OKept b w (wr.iterAt k s p) := by
  intro j o hj hb ho
  have hlt : j < w.heap.size := (Array.getElem?_eq_some_iff.1 hj).1
  exact (Lib.iterAt_other wr k j s p (by omega)).trans (h j o hj hb ho)
theorem quo_len (l0 l : List UInt8) (n : Nat) (h : l.length ≤ n) : (Lib.byteCells (l0 ++ 34 :: quoM l)).length ≤ l0.length + 1 + 6 * n := by
  have := quoM_len l
  rw [Lib.byteCells_length, List.length_append, List.length_cons]
  omega
theorem quo_short (l0 l m : List UInt8) (x : UInt8) (h : quoM m = [92, x]) : Lib.byteCells (l0 ++ 34 :: quoM l) ++ [Value.int .u8 92] ++ [Value.int .u8 (x.toNat : Nat)] = Lib.byteCells (l0 ++ 34 :: quoM (l ++ m)) := by
  rw [quoM_append, h]
  simp [Lib.byteCells]
theorem quo_long (l0 l m : List UInt8) (x y : UInt8) (h : quoM m = [92, 117, 48, 48, x, y]) : Lib.byteCells (l0 ++ 34 :: quoM l) ++ Lib.strCells ⟨#[92, 117, 48, 48]⟩ ++ [Value.int .u8 (x.toNat : Nat)] ++ [Value.int .u8 (y.toNat : Nat)] = Lib.byteCells (l0 ++ 34 :: quoM (l ++ m)) := by
  rw [quoM_append, h]
  simp [Lib.byteCells, Lib.strCells]
theorem rune_cells (c : Nat) (hv : validRune c = true) : Lib.runeCells c = Lib.byteCells (encL c) := by
  have hr := vr_lt hv
  unfold Lib.runeCells Lib.byteCells
  by_cases h1 : c < 128
  · rw [enc1 c h1, Lib.encodeRuneZ_one (by omega) (by omega)]
    simp only [List.map_cons, List.map_nil, ofNat_toNat' c (by omega)]
  · by_cases h2 : c < 2048
    · rw [enc2 c (by omega) h2, Lib.encodeRuneZ_two (by omega) (by omega)]
      simp only [List.map_cons, List.map_nil, ofNat_toNat' (192 + c / 64) (by omega), ofNat_toNat' (128 + c % 64) (by omega)]
      rfl
    · by_cases h3 : c < 65536
      · rw [enc3 c (by omega) h3 hv, Lib.encodeRuneZ_three (by omega)]
        simp only [List.map_cons, List.map_nil, ofNat_toNat' (224 + c / 4096) (by omega), ofNat_toNat' (128 + c / 64 % 64) (by omega), ofNat_toNat' (128 + c % 64) (by omega)]
        rfl
      · rw [enc4 c (by omega) hv, Lib.encodeRuneZ_four (by omega) (by omega)]
        simp only [List.map_cons, List.map_nil, ofNat_toNat' (240 + c / 262144) (by omega), ofNat_toNat' (128 + c / 4096 % 64) (by omega), ofNat_toNat' (128 + c / 64 % 64) (by omega), ofNat_toNat' (128 + c % 64) (by omega)]
        rfl
theorem quo_plain (l0 l : List UInt8) (c : Nat) (hv : validRune c = true) (h : quoM (encL c) = encL c) : Lib.byteCells (l0 ++ 34 :: quoM l) ++ Lib.runeCells c = Lib.byteCells (l0 ++ 34 :: quoM (l ++ encL c)) := by
  rw [quoM_append, h, rune_cells c hv]
  simp [Lib.byteCells]
set_option maxHeartbeats 4000000 in
set_option maxRecDepth 10000000 in
theorem quote_any (B b : Nat) (l0 : List UInt8) (s : ByteArray) (w : World) (h : BldF B b (Lib.byteCells l0) w) (hv : allB s.data.toList) (hs : s.size ≤ 1000000000) (hl0 : l0.length ≤ 100000000000) (hBw : B ≤ w.heap.size) :
    Calls Tryz.prog 45 #[.pointer (some ⟨b, 0, none⟩), .string s] w fun e w' => e = .returned (.tuple #[]) ∧ (BldF B b (Lib.byteCells (l0 ++ quoL s.data.toList)) w' ∧ Below B w w' ∧ OKept b w w') := by
  have hs' : s.size ≤ maxLen := by unfold maxLen; omega
  go_enter Tryz.func45, Tryz.ntmps45
  go_wp2_with (go_at_call 79; refine (bldByte B b _ 34 _ h (by rw [Lib.byteCells_length]; omega) hBw).mono ?_)
  rintro e w1 ⟨rfl, h1, b1, k1⟩
  have hb1 := bld_lt h1
  have hB1 : B ≤ w1.heap.size := by omega
  go_wp2_with fail
  go_loopw [] (fun wr => ∃ pos : Nat, pos ≤ s.size ∧ allB (s.data.toList.drop pos) ∧ BldF B b (Lib.byteCells (l0 ++ 34 :: quoM (s.data.toList.take pos))) wr ∧ wr.heap[w1.heap.size]? = some (.stringIter s pos) ∧ Below B w wr ∧ OKept b w wr) (fun wr => s.size - wr.iterPos w1.heap.size)
  case atStart =>
    refine ⟨0, Nat.zero_le _, by rw [List.drop_zero]; exact hv, ?_, World.iter_heap w1 s 0, ?_, ?_⟩
    · have := Lib.IsBuilderF.alloc h1 (.stringIter s 0)
      have e : Lib.byteCells l0 ++ [Value.int .u8 34] = Lib.byteCells (l0 ++ 34 :: quoM (s.data.toList.take 0)) := by
        rw [Lib.byteCells_append, List.take_zero]
        rfl
      rw [e] at this
      exact this
    · exact b1.alloc hB1 _
    · exact k1.alloc _
  case round =>
    obtain ⟨pos, hps, hvp, hI, hit, hbw, hkw⟩ := hrel
    have hsz : w1.heap.size < wr.heap.size := (Array.getElem?_eq_some_iff.1 hit).1
    by_cases hp : pos < s.size
    · obtain ⟨c, wd, hcw⟩ : ∃ c wd, Utf8.decode s pos = (c, wd) := ⟨_, _, rfl⟩
      have hnx : ∀ ty, (Instr.next (.pointer (some ⟨w1.heap.size, 0, none⟩)) true ty).run Tryz.prog wr = .ok (.tuple #[.bool true, .int .i64 pos, .int .i32 c]) (wr.iterAt w1.heap.size s (pos + wd)) := fun ty => by
        have := Lib.run_next_any_at (P := Tryz.prog) wr w1.heap.size s pos ty hit hp
        rw [hcw] at this
        exact this
      have hvs := valid_step hp hvp
      have hdl := decode_le s pos
      rw [hcw] at hvs hdl
      dsimp only at hvs hdl
      clear hcw
      obtain ⟨hr, hwd, hw1, hw2, hv2, htk⟩ := hvs
      have hI2 := hI.iterAt hit (pos + wd)
      have hit2 := Lib.iterAt_heap wr w1.heap.size s pos (pos + wd) hit
      have hbw2 := Lib.below_iterAt hbw (k := w1.heap.size) hB1 s (pos + wd)
      have hkw2 := okept_iterAt hkw (k := w1.heap.size) b1.size s (pos + wd)
      have hsz2 : w1.heap.size < (wr.iterAt w1.heap.size s (pos + wd)).heap.size := by rw [Lib.iterAt_size]; exact hsz
      have hlen := quo_len l0 (s.data.toList.take pos) s.size (by rw [List.length_take, ← Lib.size_eq]; omega)
      have HW := Lib.hid (And.intro hw1 hw2)
      have HD := Lib.hid hdl
      clear hdl
      rcases quo_cases _ hr with ⟨i, hi, hci, hq⟩ | ⟨hn, hc, hq⟩ | ⟨hn, hc, hq⟩
      · have Hq := Lib.hid (quo_short l0 (s.data.toList.take pos) _ _ hq)
        have Hi : Hid (shortI (c : Nat) = i) := by rw [hci]; exact (short_all i hi).1
        have Hl := Lib.hid (short_let i hi)
        have Ht := Lib.hid htk
        have Hv := Lib.hid hv2
        have Hr := Lib.hid hr
        clear hq hci htk hv2 hvp hwd hr
        go_wp2_with fail
        refine (idxRune_any _ (.inr Hr.out) _).mono ?_
        rintro e w2 ⟨rfl, c2⟩
        rw [Hi.out]
        have hI3 := bld_below hI2 c2
        have hit3 := (c2.block _ hsz2).trans hit2
        have hbw3 := hbw2.trans (c2.mono (by omega))
        have hkw3 := hkw2.trans (okept_below c2)
        have hsz3 := c2.size
        go_wp2_with fail
        refine (bldByte B b _ 92 _ hI3 (by omega) (by omega)).mono ?_
        rintro e w3 ⟨rfl, hI4, b4, k4⟩
        have hit4 := k4.iter hit3 (by omega)
        have hsz4 := b4.size
        go_wp2_with fail
        rw [Hl.out]
        refine (bldByte B b _ _ _ hI4 (by rw [List.length_append]; simp only [List.length_cons, List.length_nil]; omega) (by omega)).mono ?_
        rintro e w4 ⟨rfl, hI5, b5, k5⟩
        have hit5 := k5.iter hit4 (by omega)
        go_wp2_with fail
        go_roundw
        case rel =>
          refine ⟨_, HW.out.2, Hv.out, ?_, hit5, (hbw3.trans b4).trans b5, (hkw3.trans k4).trans k5⟩
          rw [Ht.out, ← Hq.out]
          exact hI5
        case measure =>
          simp only [World.iterPos, hit5, hit]
          have := HW.out
          omega
      · have Hq := Lib.hid (quo_long l0 (s.data.toList.take pos) _ _ _ hq)
        have Hn := Lib.hid hn
        have Ht := Lib.hid htk
        have Hv := Lib.hid hv2
        have Hr := Lib.hid hr
        have hm : bits BinOp.and IntKind.i32 (c : Int) 15 = (c % 16 : Nat) := by
          have := bits_mask .i32 31 (by decide) wraps_i32 4 (by decide) (c : Int) (by omega) (by omega)
          rw [show ((c % 16 : Nat) : Int) = (c : Int) % 16 by omega]
          exact this
        have Hx := Lib.hid (hex_let (c / 16) (by omega))
        have Hy := Lib.hid (hex_let (c % 16) (by omega))
        have i1 : c / 16 < 16 := by omega
        have i2 : c % 16 < 16 := by omega
        clear hq hn htk hv2 hvp hwd hr
        go_wp2_with fail
        refine (idxRune_any _ (.inr Hr.out) _).mono ?_
        rintro e w2 ⟨rfl, c2⟩
        rw [Hn.out]
        have hI3 := bld_below hI2 c2
        have hit3 := (c2.block _ hsz2).trans hit2
        have hbw3 := hbw2.trans (c2.mono (by omega))
        have hkw3 := hkw2.trans (okept_below c2)
        have hsz3 := c2.size
        go_wp2_with fail
        refine (bldStr B b _ _ _ hI3 (by have e : (ByteArray.mk #[92, 117, 48, 48]).size = 4 := rfl; omega) (by omega)).mono ?_
        rintro e w3 ⟨rfl, hI4, b4, k4⟩
        have hit4 := k4.iter hit3 (by omega)
        have hsz4 := b4.size
        go_wp2_with fail
        rw [Hx.out]
        have l4 : (Lib.strCells ⟨#[92, 117, 48, 48]⟩).length = 4 := rfl
        refine (bldByte B b _ _ _ hI4 (by rw [List.length_append, l4]; omega) (by omega)).mono ?_
        rintro e w4 ⟨rfl, hI5, b5, k5⟩
        have hit5 := k5.iter hit4 (by omega)
        have hsz5 := b5.size
        go_wp2_with fail
        rw [Hy.out]
        refine (bldByte B b _ _ _ hI5 (by rw [List.length_append, List.length_append, l4]; simp only [List.length_cons, List.length_nil]; omega) (by omega)).mono ?_
        rintro e w5 ⟨rfl, hI6, b6, k6⟩
        have hit6 := k6.iter hit5 (by omega)
        go_wp2_with fail
        go_roundw
        case rel =>
          refine ⟨_, HW.out.2, Hv.out, ?_, hit6, ((hbw3.trans b4).trans b5).trans b6, ((hkw3.trans k4).trans k5).trans k6⟩
          rw [Ht.out, ← Hq.out]
          exact hI6
        case measure =>
          simp only [World.iterPos, hit6, hit]
          have := HW.out
          omega
      · have Hq := Lib.hid (quo_plain l0 (s.data.toList.take pos) _ hr hq)
        have Hn := Lib.hid hn
        have Ht := Lib.hid htk
        have Hv := Lib.hid hv2
        have Hr := Lib.hid hr
        clear hq hn htk hv2 hvp hwd hr
        go_wp2_with fail
        refine (idxRune_any _ (.inr Hr.out) _).mono ?_
        rintro e w2 ⟨rfl, c2⟩
        rw [Hn.out]
        have hI3 := bld_below hI2 c2
        have hit3 := (c2.block _ hsz2).trans hit2
        have hbw3 := hbw2.trans (c2.mono (by omega))
        have hkw3 := hkw2.trans (okept_below c2)
        have hsz3 := c2.size
        go_wp2_with fail
        refine (bldRune B b _ _ (by omega) (by have := HD.out; omega) _ hI3 (by omega) (by omega)).mono ?_
        rintro e w3 ⟨rfl, hI4, b4, k4⟩
        have hit4 := k4.iter hit3 (by omega)
        go_wp2_with fail
        go_roundw
        case rel =>
          refine ⟨_, HW.out.2, Hv.out, ?_, hit4, hbw3.trans b4, hkw3.trans k4⟩
          rw [Ht.out, ← Hq.out]
          exact hI4
        case measure =>
          simp only [World.iterPos, hit4, hit]
          have := HW.out
          omega
    · have hnx : ∀ ty, (Instr.next (.pointer (some ⟨w1.heap.size, 0, none⟩)) true ty).run Tryz.prog wr = _ := fun ty => Lib.run_next_end_at wr w1.heap.size s pos ty hit hp
      have hps : pos = s.size := by omega
      have Hq := Lib.hid (quo_end l0 (s.data.toList.take pos))
      have Ht : Hid (s.data.toList.take pos = s.data.toList) := List.take_of_length_le (by rw [← Lib.size_eq]; omega)
      clear hps
      go_wp2_with (go_at_call 79; refine (bldByte B b _ 34 _ hI ?_ ?_).mono ?_)
      · have := quoM_len (s.data.toList.take pos)
        rw [Lib.byteCells_length, List.length_append, List.length_cons]
        have h3 : (s.data.toList.take pos).length ≤ s.size := by rw [List.length_take, ← Lib.size_eq]; omega
        omega
      · omega
      rintro e w2 ⟨rfl, h2, b2, k2⟩
      go_wp2_with fail
      go_end0
      rw [Hq.out, Ht.out] at h2
      exact ⟨rfl, h2, hbw.trans b2, hkw.trans k2⟩

end Go.Proofs.YtakdhfjlhkejdaaGreatDoor
